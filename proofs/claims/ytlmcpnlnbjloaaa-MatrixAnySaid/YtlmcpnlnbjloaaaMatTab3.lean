/- The table of rows by which the landed package inverts: a row scaled, a row reduced by another; no condition but the range. -/
import Derived.Test.YtlmcpnlnbjloaaaMatTab2
import Derived.Test.YtlmcpnlnbjloaaaMatRows
import Derived.Test.YtlmcpnlnbjloaaaMatLaw0
import Derived.Laws.CopyOwn
import Derived.Test.YtlmcpnlnbjloaaaQuietTail
import Derived.BigQuiet
import Derived.Deep.RegionHeldLaw
namespace Go.Proofs.Ytlmcpnlnbjloaaa
open Go.RowKit

variable {H tp B rb n : Nat} {g : Nat → Nat} {X Y : Nat → Nat → UInt8} {w w' : World}

/-- 'copy(b, s)', s a string, at a step of a region that draws its order -/
theorem step_copy_text {P : Program} {ops : Array Oper} {o : Oper} {a : Act} {w : World} {K : Act → World → Prop} {Q : Exit → Act → World → Prop} {E : Prop} (hgd : o.guard = none) (d s : Operand) (dT sT : TypeId)
    (ho : o.op = .call { callee := .builtin .copy, args := #[d, s], argTypes := #[dT, sT] }) (elem : TypeId) (hu : P.underlying dT = some (.slice elem)) (hsz : (P.info? elem).map (·.size) = some 1)
    (g dLen dCap : Nat) (S : ByteArray) (hd : a.eval d = .slice (some ⟨g, 0, none⟩) dLen dCap) (hs : a.eval s = .string S) (cur : Array Value) (t : TypeId) (hg : w.heap[g]? = some (.cells cur t (0, 0))) (hfit : dLen ≤ cur.size)
    (h : K (a.put o.dst (goInt ((min S.size dLen : Nat) : Int))) (w.setRow g ((Lib.byteCells S.data.toList).take (min S.size dLen) ++ cur.toList.drop (min S.size dLen)).toArray)) :
    if Region.wanted o (yielded ops a.tmps) = true then Oper.wp P o a w K Q else E := by
  have hw : Region.wanted o (yielded ops a.tmps) = true := by simp [Region.wanted, hgd]
  rw [if_pos hw]
  have hrun := run_copy_text (P := P) w dT sT o.type elem g dLen dCap S cur t hu hsz hg hfit
  unfold Oper.wp
  simp only [execOp, ho, resolve, invoke, builtin, Sem.run_bind, Sem.run_pure, Result.andThen_ok, List.map_toArray, List.map_cons, List.map_nil, hd, hs, hrun]
  exact h

theorem cell_setRow {w : World} {b o k : Nat} {cs : Array Value} (h : b ≠ k) : (w.setRow k cs).cell? ⟨b, o, none⟩ = w.cell? ⟨b, o, none⟩ := by
  unfold World.cell?
  rw [setRow_other _ _ _ _ h]

theorem cell_other {w : World} {b o k j : Nat} {v : Value} (h : b ≠ k) : (w.setCell ⟨k, j, none⟩ v).cell? ⟨b, o, none⟩ = w.cell? ⟨b, o, none⟩ := by
  unfold World.cell?
  rw [heap_setCell_other _ _ _ _ h]

/-- what a row is that is scaled -/
def nrm (c : Nat) (X : Nat → Nat → UInt8) (i j : Nat) : UInt8 := if i = c then GfU.ml (GfU.iv (X c c)) (X c j) else X i j

theorem scl_rowB (m : Nat) (u : UInt8) (x : Nat → UInt8) : (scl u.toNat (rowB m x)) = (List.range m).map fun j => GfU.ml u (x j) := by
  unfold scl rowB
  rw [List.toList_toArray, List.map_map]; rfl

theorem byteCells_rowA (m : Nat) (x : Nat → UInt8) : (Lib.byteCells ((List.range m).map x)).toArray = rowA m x := by
  unfold Lib.byteCells rowA
  rw [List.map_map]; rfl

theorem copied_nrm (m : Nat) (u : UInt8) (x : Nat → UInt8) :
    ((Lib.byteCells (⟨(scl u.toNat (rowB m x)).toArray⟩ : ByteArray).data.toList).take (min (⟨(scl u.toNat (rowB m x)).toArray⟩ : ByteArray).size m) ++ (rowA m x).toList.drop (min (⟨(scl u.toNat (rowB m x)).toArray⟩ : ByteArray).size m)).toArray = rowA m fun j => GfU.ml u (x j) := by
  have hz : (⟨(scl u.toNat (rowB m x)).toArray⟩ : ByteArray).size = m := by
    show (scl u.toNat (rowB m x)).toArray.size = m
    rw [List.size_toArray, scl_length, rowB_size]
  have hl : (Lib.byteCells (⟨(scl u.toNat (rowB m x)).toArray⟩ : ByteArray).data.toList).length = m := by rw [Lib.byteCells_length, ← Lib.size_eq]; exact hz
  rw [hz, Nat.min_self, List.take_of_length_le (by omega), List.drop_eq_nil_of_le (by rw [Array.length_toList, rowA_size]; exact Nat.le_refl _), List.append_nil]
  show (Lib.byteCells (scl u.toNat (rowB m x)).toArray.toList).toArray = _
  rw [List.toList_toArray, scl_rowB, byteCells_rowA]

theorem copied_nrm' (m : Nat) (u : UInt8) (x : Nat → UInt8) :
    ((Lib.byteCells (scl u.toNat (rowB m x))).take (min (scl u.toNat (rowB m x)).length m) ++ (rowA m x).toList.drop (min (scl u.toNat (rowB m x)).length m)).toArray = rowA m fun j => GfU.ml u (x j) := copied_nrm m u x

theorem Tab.ne (h : Tab H w tp B rb n g X) (i : Nat) (hi : i < n) : tp ≠ g i ∧ B ≠ g i ∧ rb ≠ g i := by
  have hne : ∀ {b : Nat} {cs : Array Value} {T : TypeId}, w.heap[b]? = some (.cells cs T (0, 0)) → T ≠ 5 → b ≠ g i := by
    intro b cs T hb hT e
    rw [e, h.row i hi] at hb
    injection hb with hb
    injection hb with _ hb _
    exact hT hb.symm
  exact ⟨hne h.tc (by decide), hne h.fl (by decide), hne h.rc (by decide)⟩

set_option maxRecDepth 20000 in
set_option maxHeartbeats 2000000 in
theorem norm_any (c : Nat) (h : Tab H w tp B rb n g X) (hc : c < n) (hn : n ≤ 255) :
    Calls Try.prog 57 #[.pointer (some ⟨tp, 0, none⟩), .int .i64 (c : Int)] w fun e w' => e = .returned (.tuple #[]) ∧ Tab H w' tp B rb n g (nrm c X) ∧ Below H w w' := by
  obtain ⟨i0, hi, hz0, hz1, hz2⟩ := info_parts Try.infoU8
  have hT := Lib.hid h
  have c0 := h.t0
  have c1 := h.t1
  have c2 := h.hd c hc
  have c3 := h.at c c hc (by omega)
  have p1 : (c : Int) < (n : Int) := by omega
  have p2 : (c : Int) < 2 * (n : Int) := by omega
  have b1 : (X c c).toNat ≤ 255 := GfU.toNat_le _
  clear h
  go_enter Try.func57, Try.ntmps57
  go_wp2_with fail
  go_quiet ((go_at_call 47; exact Calls.quiet_of (inv_at B _ (X c c).toNat _ (hT.out.drewN _).field rfl b1)))
  have hT1 : Hid (Tab H (w.drewN nq) tp B rb n g X) := hT.out.drewN nq
  have hW : Hid (Below H w (w.drewN nq)) := below_drewN (Below.refl _ _) nq
  clear c0 c1 c2 c3
  generalize w.drewN nq = W at hT1 hW ⊢
  have c0 := hT1.out.t0
  have c1 := hT1.out.t1
  have c2 := hT1.out.hd c hc
  have hcv := run_convert_bytes_back (P := Try.prog) W.drew 68 9 5 ⟨g c, 0, none⟩ (2 * n) ((List.range (2 * n)).map (X c)) Try.underlying68 Try.underlying5 Try.underlying9 (fun j hj => by
    rw [addr_head]
    have hj' : j < 2 * n := by simpa using hj
    rw [(hT1.out.drew).at c j hc hj', List.getElem_map, List.getElem_range])
  rw [show ((List.range (2 * n)).map (X c)).length = 2 * n by simp] at hcv
  obtain ⟨n1, _, n3⟩ := hT1.out.ne c hc
  have iv1 : ((GfM.divv 1 (X c c).toNat : Nat) : Int) = ((GfU.iv (X c c)).toNat : Int) := by rw [GfU.iv_toNat]
  rw [iv1]
  have HI := Lib.hid hi
  clear iv1 hi
  go_wp2_with fail
  go_region_held_law (fun w' => w'.cell? ⟨tp, 0, none⟩ = some (.pointer (some ⟨B, 0, none⟩)) ∧ w'.cell? ⟨tp, 1, none⟩ = some (.slice (some ⟨rb, 0, none⟩) n n) ∧ w'.cell? ⟨rb, c, none⟩ = some (.slice (some ⟨g c, 0, none⟩) (2 * n) (2 * n)))
    (first | exact ⟨c0, c1, c2⟩ | exact ⟨Tab.t0 (by assumption), Tab.t1 (by assumption), Tab.hd (by assumption) c hc⟩ | exact ⟨(cell_setRow n1).trans (Tab.t0 (by assumption)), (cell_setRow n1).trans (Tab.t1 (by assumption)), (cell_setRow n3).trans (Tab.hd (by assumption) c hc)⟩)
    (first
    | (go_at_call 62; (refine (scale_any B (GfU.iv (X c c)).toNat (rowB (2 * n) (X c)) _ hT1.out.drew.field (GfU.toNat_le _) (by rw [rowB_size]; omega)).mono ?_; rintro e w5 ⟨rfl, hb5⟩; have T5 := hT1.out.drew.below hb5))
    | ((refine step_copy_text (by rfl) _ _ 68 9 (by rfl) 5 Try.underlying68 (by rw [HI.out]; simp [hz1]) (g c) (2 * n) (2 * n) _ (by rfl) (by rfl) (rowA (2 * n) (X c)) 5 (T5.row c hc) (by rw [rowA_size]; exact Nat.le_refl _) ?_)))
  all_goals (try go_wp2)
  all_goals go_end0
  all_goals
    rw [copied_nrm']
    refine ⟨rfl, ?_, ?_⟩
    · refine T5.turn c hc (fun b hb _ => setRow_other _ _ _ _ hb) ?_ (fun i j _ hij _ => by unfold nrm; rw [if_neg hij])
      rw [setRow_heap _ _ _ _ _ _ (T5.row c hc)]
      have e : (fun j => GfU.ml (GfU.iv (X c c)) (X c j)) = nrm c X c := by funext j; unfold nrm; rw [if_pos rfl]
      rw [e]
    · have hg : H ≤ W.heap.size := Nat.le_of_lt (Nat.lt_of_le_of_lt (hT1.out.lo.2 c hc) (heap_lt (hT1.out.row c hc)))
      exact below_setRow (hW.out.trans ((Below.refl _ W).drew.trans (hb5.mono hg))) (hT1.out.lo.2 c hc) _

/-- what a row is that is reduced by row c -/
def redX (c r : Nat) (X : Nat → Nat → UInt8) (i j : Nat) : UInt8 := if i = r ∧ r ≠ c then X i j ^^^ GfU.ml (X r c) (X c j) else X i j

/-- the same, where columns from c up to k are reduced -/
def redK (c r k : Nat) (X : Nat → Nat → UInt8) (i j : Nat) : UInt8 := if i = r ∧ c ≤ j ∧ j < k then X i j ^^^ GfU.ml (X r c) (X c j) else X i j

theorem redK_start (c r : Nat) (X : Nat → Nat → UInt8) : redK c r c X = X := by
  funext i j; unfold redK; rw [if_neg (by omega)]

theorem redK_val (c r k : Nat) (X : Nat → Nat → UInt8) (hk : c ≤ k) : (((X r k).toNat ^^^ GfM.mul (X r c).toNat (X c k).toNat : Nat) : Int) = ((redK c r (k + 1) X r k).toNat : Int) := by
  unfold redK
  rw [if_pos ⟨rfl, hk, by omega⟩, UInt8.toNat_xor, GfU.ml_toNat]

theorem redK_off (c r k : Nat) (X : Nat → Nat → UInt8) (i j : Nat) (h : i ≠ r ∨ j ≠ k) : redK c r (k + 1) X i j = redK c r k X i j := by
  unfold redK
  by_cases e : i = r ∧ c ≤ j ∧ j < k
  · rw [if_pos e, if_pos ⟨e.1, e.2.1, by omega⟩]
  · rw [if_neg e, if_neg (by omega)]

theorem redX_end (c r m : Nat) (X : Nat → Nat → UInt8) (hr : r ≠ c) (hz : ∀ j, j < c → X c j = 0) (i j : Nat) (hj : j < m) : redX c r X i j = redK c r m X i j := by
  unfold redX redK
  by_cases e : i = r
  · rw [if_pos ⟨e, hr⟩]
    by_cases h : c ≤ j
    · rw [if_pos ⟨e, h, hj⟩]
    · rw [if_neg (by omega), hz j (by omega), GfU.ml_zero, UInt8.xor_zero]
  · rw [if_neg (fun z => e z.1), if_neg (fun z => e z.1)]

set_option maxRecDepth 20000 in
set_option maxHeartbeats 2000000 in
theorem reduce_any (r c : Nat) (h : Tab H w tp B rb n g X) (hr : r < n) (hc : c < n) (hn : n ≤ 255) (hz : ∀ j, j < c → X c j = 0) :
    Calls Try.prog 59 #[.pointer (some ⟨tp, 0, none⟩), .int .i64 (r : Int), .int .i64 (c : Int)] w fun e w' => e = .returned (.tuple #[]) ∧ Tab H w' tp B rb n g (redX c r X) ∧ Below H w w' := by
  have hT := Lib.hid h
  have HZ := Lib.hid hz
  have c0 := h.t0
  have c1 := h.t1
  have c2 := h.hd r hr
  have c3 := h.at r c hr (by omega)
  have p1 : (r : Int) < (n : Int) := by omega
  have p2 : (c : Int) < 2 * (n : Int) := by omega
  have p3 : (c : Int) < (n : Int) := by omega
  clear h hz
  by_cases e1 : r = c
  · subst e1
    go_enter Try.func59, Try.ntmps59
    go_wp2_with fail
    refine bodyPost_ret (results_none rfl _ _ _) rfl ?_
    exact ⟨rfl, hT.out.congr fun i j _ _ => by unfold redX; rw [if_neg (fun z => z.2 rfl)], Below.refl _ _⟩
  · have t1 : ((r : Int) == (c : Int)) = false := by simp; omega
    by_cases e2 : X r c = 0
    · have e3 : ((X r c).toNat : Int) = 0 := by rw [e2]; rfl
      have E2 := Lib.hid e2
      rw [e3] at c3
      clear e2 e3
      go_enter Try.func59, Try.ntmps59
      go_wp2_with fail
      refine bodyPost_ret (results_none rfl _ _ _) rfl ?_
      exact ⟨rfl, hT.out.congr fun i j _ _ => by unfold redX; rw [E2.out, GfU.zero_ml, UInt8.xor_zero]; split <;> rfl, Below.refl _ _⟩
    · have t2 : (((X r c).toNat : Int) == 0) = false := by have := GfU.ne_zero.1 e2; simp; omega
      have c4 := hT.out.hd c hc
      clear e2
      go_enter Try.func59, Try.ntmps59
      go_wp2_with fail
      go_loopw [8] (fun i wr => ∃ k : Nat, c ≤ k ∧ k ≤ 2 * n ∧ i = .int .i64 (k : Int) ∧ Hid (Tab H wr tp B rb n g (redK c r k X)) ∧ Hid (Below H w wr)) (fun i _ => 2 * n - (intOf i).toNat)
      case atStart => exact ⟨c, Nat.le_refl _, by omega, rfl, by rw [redK_start]; exact hT.out, Below.refl _ _⟩
      case round =>
        obtain ⟨k, hk1, hk2, rfl, hTk, hbel⟩ := hrel
        clear c0 c1 c2 c3 c4
        by_cases hlt : k < 2 * n
        · have pk : (k : Int) < 2 * (n : Int) := by omega
          have c0 := hTk.out.t0
          have c1 := hTk.out.t1
          have c2 := hTk.out.hd r hr
          have c5 : wr.cell? ⟨g c, k, none⟩ = some (.int .u8 ((X c k).toNat : Int)) := by
            have := hTk.out.at c k hc hlt
            unfold redK at this
            rw [if_neg (fun z => e1 z.1.symm)] at this; exact this
          have c6 : wr.cell? ⟨g r, k, none⟩ = some (.int .u8 ((X r k).toNat : Int)) := by
            have := hTk.out.at r k hr hlt
            unfold redK at this
            rw [if_neg (by omega)] at this; exact this
          have f6 := blk_free (hTk.out.row r hr)
          have HF := Lib.hid hTk.out.field
          have b1 : (X r c).toNat ≤ 255 := GfU.toNat_le _
          have b2 : (X c k).toNat ≤ 255 := GfU.toNat_le _
          have b3 : (X r k).toNat ≤ 255 := GfU.toNat_le _
          have b4 := GfM.mul_le (X r c).toNat (X c k).toNat
          obtain ⟨n1, n2, n3⟩ := hTk.out.ne r hr
          have n4 : g c ≠ g r := fun z => e1 (hTk.out.inj c r hc hr z).symm
          go_wp2_with fail
          refine wp_region_quiet_tail 30 (by kernel_rfl) (by kernel_rfl) ?_
          simp only [List.take_succ_cons, List.take_zero, List.drop_succ_cons, List.drop_zero]
          repeat (go_big_quiet_step ((first | (go_at_call 52; exact Calls.quiet_of (mul_any B (X r c).toNat (X c k).toNat _ (HF.out.drewN _) b1 b2)) | (go_at_call 51; exact Calls.quiet_of_same (add_in (X r k).toNat (GfM.mul (X r c).toNat (X c k).toNat) _ b3 b4)))))
          refine wpQuiet_nil ?_
          intro d
          go_wp2_with fail
          go_roundw
          case rel => exact ⟨k + 1, by omega, by omega, by go_num, (hTk.out.drewN _).store r k hr hlt _ (redK_val c r k X hk1) (fun i j _ _ hij => redK_off c r k X i j hij), (below_drewN hbel.out _).setCell (hTk.out.lo.2 r hr) _⟩
          case measure => simp [intOf]; omega
        · obtain rfl : k = 2 * n := by omega
          have c0 := hTk.out.t0
          go_wp2_with fail
          go_end0
          exact ⟨rfl, hTk.out.congr fun i j _ hj => redX_end c r (2 * n) X e1 HZ.out i j hj, hbel.out⟩

end Go.Proofs.Ytlmcpnlnbjloaaa
