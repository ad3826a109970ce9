/- Parts of the proof, joined: MatTab2, MatTab3, MatTab4; their conditions stand with each. -/
import Derived.Deep.RegionHeld3
import Derived.Laws.CopyOwn
import Derived.BigQuiet
import Derived.Deep.RegionHeldLaw
import Derived.Test.YtemcjnbgcecinaaA3
import Derived.Test.YtemcjnbgcecinaaA4
import Derived.Test.YtemcjnbgcecinaaA14
import Derived.Test.YtemcjnbgcecinaaA15

/- The table of rows by which the landed package inverts: swaps of two rows, a row scaled, a row reduced by another; no condition but the range. -/
namespace Go.Proofs.Ytemcjnbgcecinaa
open Go.RowKit

variable {H tp B rb n : Nat} {g : Nat → Nat} {X Y : Nat → Nat → UInt8} {w w' : World}

theorem hdrA_swap (n m : Nat) (g : Nat → Nat) (a c : Nat) (ha : a < n) (hc : c < n) :
    ((hdrA n m g).setIfInBounds a (.slice (some ⟨g c, 0, none⟩) m m)).setIfInBounds c (.slice (some ⟨g a, 0, none⟩) m m) = hdrA n m fun i => g (GfU.swp c a i) := by
  have hs : (hdrA n m g).size = n := by simp [hdrA]
  apply Array.ext_getElem?
  intro p
  rw [Array.getElem?_setIfInBounds, Array.size_setIfInBounds, hs, Array.getElem?_setIfInBounds, hs]
  by_cases hp : p < n
  · rw [hdrA_at n m (fun i => g (GfU.swp c a i)) p hp]
    unfold GfU.swp
    by_cases h1 : c = p
    · subst h1; rw [if_pos rfl, if_pos hp, if_pos rfl]
    · rw [if_neg h1]
      by_cases h2 : a = p
      · subst h2; rw [if_pos rfl, if_pos ha, if_neg (fun e => h1 e.symm), if_pos rfl]
      · rw [if_neg h2, hdrA_at n m g p hp, if_neg (fun e => h1 e.symm), if_neg (fun e => h2 e.symm)]
  · have h1 : c ≠ p := by omega
    have h2 : a ≠ p := by omega
    rw [if_neg h1, if_neg h2, Array.getElem?_eq_none (by rw [hs]; omega), Array.getElem?_eq_none (by simp [hdrA]; omega)]

theorem Tab.swapped (h : Tab H w tp B rb n g X) (a c : Nat) (ha : a < n) (hc : c < n) :
    Tab H ((w.setCell ⟨rb, a, none⟩ (.slice (some ⟨g c, 0, none⟩) (2 * n) (2 * n))).setCell ⟨rb, c, none⟩ (.slice (some ⟨g a, 0, none⟩) (2 * n) (2 * n))) tp B rb n (fun i => g (GfU.swp c a i)) (fun i j => X (GfU.swp c a i) j) := by
  have hne : ∀ {b : Nat} {cs : Array Value} {T : TypeId}, w.heap[b]? = some (.cells cs T (0, 0)) → T ≠ 48 → b ≠ rb := by
    intro b cs T hb hT e
    rw [e, h.rc] at hb
    injection hb with hb
    injection hb with _ hb _
    exact hT hb.symm
  have ho : ∀ {b : Nat}, b ≠ rb → ((w.setCell ⟨rb, a, none⟩ (.slice (some ⟨g c, 0, none⟩) (2 * n) (2 * n))).setCell ⟨rb, c, none⟩ (.slice (some ⟨g a, 0, none⟩) (2 * n) (2 * n))).heap[b]? = w.heap[b]? := fun hb => by
    rw [heap_setCell_other _ _ _ _ hb, heap_setCell_other _ _ _ _ hb]
  refine ⟨(ho (hne h.tc (by decide))).trans h.tc, (ho (hne h.fl (by decide))).trans h.fl, ?_, fun i hi => ?_, fun i j hi hj e => ?_, h.lo.1, fun i hi => h.lo.2 _ (GfU.swp_lt hc ha hi)⟩
  · rw [heap_setCell_same _ _ _ _ _ _ (heap_setCell_same _ _ _ _ _ _ h.rc), hdrA_swap n (2 * n) g a c ha hc]
  · have hs := GfU.swp_lt hc ha hi
    rw [ho (hne (h.row _ hs) (by decide))]; exact h.row _ hs
  · have := h.inj _ _ (GfU.swp_lt hc ha hi) (GfU.swp_lt hc ha hj) e
    rw [← GfU.swp_swp c a i, this, GfU.swp_swp]

set_option maxRecDepth 20000 in
set_option maxHeartbeats 2000000 in
theorem swap_any (a c : Nat) (h : Tab H w tp B rb n g X) (ha : a < n) (hc : c < n) :
    Calls Try.prog 89 #[.pointer (some ⟨tp, 0, none⟩), .int .i64 (a : Int), .int .i64 (c : Int)] w fun e w' => e = .returned (.tuple #[]) ∧ Tab H w' tp B rb n (fun i => g (GfU.swp c a i)) (fun i j => X (GfU.swp c a i) j) ∧ Below H w w' := by
  have hT := Lib.hid h
  have c1 := h.t1
  have p1 : (a : Int) < (n : Int) := by omega
  have p2 : (c : Int) < (n : Int) := by omega
  have f1 := blk_free h.rc
  by_cases e : a = c
  · subst e
    have c2 := h.hd a ha
    clear h
    go_enter Try.func89, Try.ntmps89
    go_wp2_with fail
    go_region
    all_goals (try go_wp2)
    all_goals go_end0
    all_goals exact ⟨rfl, (hT.out.swapped a a ha ha).drew, (((Below.refl _ w).setCell hT.out.lo.1 _).setCell hT.out.lo.1 _).drew⟩
  · have c2 := h.hd a ha
    have c3 := h.hd c hc
    clear h
    go_enter Try.func89, Try.ntmps89
    go_wp2_with fail
    go_region
    all_goals (try go_wp2)
    all_goals go_end0
    all_goals exact ⟨rfl, (hT.out.swapped a c ha hc).drew, (((Below.refl _ w).setCell hT.out.lo.1 _).setCell hT.out.lo.1 _).drew⟩

end Go.Proofs.Ytemcjnbgcecinaa

/- The table of rows by which the landed package inverts: a row scaled, a row reduced by another; no condition but the range. -/
namespace Go.Proofs.Ytemcjnbgcecinaa
open Go.RowKit

variable {H tp B rb n : Nat} {g : Nat → Nat} {X Y : Nat → Nat → UInt8} {w w' : World}

/-- 'copy(b, s)', s a string, at a step of a region that draws its order -/
theorem step_copy_text {P : Program} {ops : Array Oper} {o : Oper} {a : Act} {w : World} {K : Act → World → Prop} {Q : Exit → Act → World → Prop} {E : Prop} (hgd : o.guard = none) (d s : Operand) (dT sT : TypeId)
    (ho : o.op = .call { callee := .builtin .copy, args := #[d, s], argTypes := #[dT, sT] }) (elem : TypeId) (hu : P.underlying dT = some (.slice elem)) (hsz : (P.info? elem).map (·.size) = some 1)
    (g dLen dCap : Nat) (S : ByteArray) (hd : a.eval d = .slice (some ⟨g, 0, none⟩) dLen dCap) (hs : a.eval s = .string S) (cur : Array Value) (t : TypeId) (hg : w.heap[g]? = some (.cells cur t (0, 0))) (hfit : dLen ≤ cur.size)
    (h : K (a.put o.dst (goInt ((min S.size dLen : Nat) : Int))) (w.setRow g ((Lib.byteCells S.data.toList).take (min S.size dLen) ++ cur.toList.drop (min S.size dLen)).toArray)) :
    if Region.wanted o (yielded ops a.tmps) = true then Oper.wp P o a w K Q else E := by
  have hw : Region.wanted o (yielded ops a.tmps) = true := by simp [Region.wanted, hgd]
  rw [if_pos hw]
  have hrun := run_copy_text (P := P) w dT sT o.type elem g dLen dCap S cur t hu hsz hg hfit
  unfold Oper.wp
  simp only [execOp, ho, resolve, invoke, builtin, Sem.run_bind, Sem.run_pure, Result.andThen_ok, List.map_toArray, List.map_cons, List.map_nil, hd, hs, hrun]
  exact h

theorem cell_setRow {w : World} {b o k : Nat} {cs : Array Value} (h : b ≠ k) : (w.setRow k cs).cell? ⟨b, o, none⟩ = w.cell? ⟨b, o, none⟩ := by
  unfold World.cell?
  rw [setRow_other _ _ _ _ h]

theorem cell_other {w : World} {b o k j : Nat} {v : Value} (h : b ≠ k) : (w.setCell ⟨k, j, none⟩ v).cell? ⟨b, o, none⟩ = w.cell? ⟨b, o, none⟩ := by
  unfold World.cell?
  rw [heap_setCell_other _ _ _ _ h]

/-- what a row is that is scaled -/
def nrm (c : Nat) (X : Nat → Nat → UInt8) (i j : Nat) : UInt8 := if i = c then GfU.ml (GfU.iv (X c c)) (X c j) else X i j

theorem scl_rowB (m : Nat) (u : UInt8) (x : Nat → UInt8) : (scl u.toNat (rowB m x)) = (List.range m).map fun j => GfU.ml u (x j) := by
  unfold scl rowB
  rw [List.toList_toArray, List.map_map]; rfl

theorem byteCells_rowA (m : Nat) (x : Nat → UInt8) : (Lib.byteCells ((List.range m).map x)).toArray = rowA m x := by
  unfold Lib.byteCells rowA
  rw [List.map_map]; rfl

theorem copied_nrm (m : Nat) (u : UInt8) (x : Nat → UInt8) :
    ((Lib.byteCells (⟨(scl u.toNat (rowB m x)).toArray⟩ : ByteArray).data.toList).take (min (⟨(scl u.toNat (rowB m x)).toArray⟩ : ByteArray).size m) ++ (rowA m x).toList.drop (min (⟨(scl u.toNat (rowB m x)).toArray⟩ : ByteArray).size m)).toArray = rowA m fun j => GfU.ml u (x j) := by
  have hz : (⟨(scl u.toNat (rowB m x)).toArray⟩ : ByteArray).size = m := by
    show (scl u.toNat (rowB m x)).toArray.size = m
    rw [List.size_toArray, scl_length, rowB_size]
  have hl : (Lib.byteCells (⟨(scl u.toNat (rowB m x)).toArray⟩ : ByteArray).data.toList).length = m := by rw [Lib.byteCells_length, ← Lib.size_eq]; exact hz
  rw [hz, Nat.min_self, List.take_of_length_le (by omega), List.drop_eq_nil_of_le (by rw [Array.length_toList, rowA_size]; exact Nat.le_refl _), List.append_nil]
  show (Lib.byteCells (scl u.toNat (rowB m x)).toArray.toList).toArray = _
  rw [List.toList_toArray, scl_rowB, byteCells_rowA]

theorem copied_nrm' (m : Nat) (u : UInt8) (x : Nat → UInt8) :
    ((Lib.byteCells (scl u.toNat (rowB m x))).take (min (scl u.toNat (rowB m x)).length m) ++ (rowA m x).toList.drop (min (scl u.toNat (rowB m x)).length m)).toArray = rowA m fun j => GfU.ml u (x j) := copied_nrm m u x

theorem Tab.ne (h : Tab H w tp B rb n g X) (i : Nat) (hi : i < n) : tp ≠ g i ∧ B ≠ g i ∧ rb ≠ g i := by
  have hne : ∀ {b : Nat} {cs : Array Value} {T : TypeId}, w.heap[b]? = some (.cells cs T (0, 0)) → T ≠ 5 → b ≠ g i := by
    intro b cs T hb hT e
    rw [e, h.row i hi] at hb
    injection hb with hb
    injection hb with _ hb _
    exact hT hb.symm
  exact ⟨hne h.tc (by decide), hne h.fl (by decide), hne h.rc (by decide)⟩

set_option maxRecDepth 20000 in
set_option maxHeartbeats 2000000 in
theorem norm_any (c : Nat) (h : Tab H w tp B rb n g X) (hc : c < n) (hn : n ≤ 255) :
    Calls Try.prog 90 #[.pointer (some ⟨tp, 0, none⟩), .int .i64 (c : Int)] w fun e w' => e = .returned (.tuple #[]) ∧ Tab H w' tp B rb n g (nrm c X) ∧ Below H w w' := by
  obtain ⟨i0, hi, hz0, hz1, hz2⟩ := info_parts Try.infoU8
  have hT := Lib.hid h
  have c0 := h.t0
  have c1 := h.t1
  have c2 := h.hd c hc
  have c3 := h.at c c hc (by omega)
  have p1 : (c : Int) < (n : Int) := by omega
  have p2 : (c : Int) < 2 * (n : Int) := by omega
  have b1 : (X c c).toNat ≤ 255 := GfU.toNat_le _
  clear h
  go_enter Try.func90, Try.ntmps90
  go_wp2_with fail
  go_quiet ((go_at_call 68; exact Calls.quiet_of (inv_at B _ (X c c).toNat _ (hT.out.drewN _).field rfl b1)))
  have hT1 : Hid (Tab H (w.drewN nq) tp B rb n g X) := hT.out.drewN nq
  have hW : Hid (Below H w (w.drewN nq)) := below_drewN (Below.refl _ _) nq
  clear c0 c1 c2 c3
  generalize w.drewN nq = W at hT1 hW ⊢
  have c0 := hT1.out.t0
  have c1 := hT1.out.t1
  have c2 := hT1.out.hd c hc
  have hcv := run_convert_bytes_back (P := Try.prog) W.drew 48 9 5 ⟨g c, 0, none⟩ (2 * n) ((List.range (2 * n)).map (X c)) Try.underlying48 Try.underlying5 Try.underlying9 (fun j hj => by
    rw [addr_head]
    have hj' : j < 2 * n := by simpa using hj
    rw [(hT1.out.drew).at c j hc hj', List.getElem_map, List.getElem_range])
  rw [show ((List.range (2 * n)).map (X c)).length = 2 * n by simp] at hcv
  obtain ⟨n1, _, n3⟩ := hT1.out.ne c hc
  have iv1 : ((GfM.divv 1 (X c c).toNat : Nat) : Int) = ((GfU.iv (X c c)).toNat : Int) := by rw [GfU.iv_toNat]
  rw [iv1]
  have HI := Lib.hid hi
  clear iv1 hi
  go_wp2_with fail
  go_region_held_law (fun w' => w'.cell? ⟨tp, 0, none⟩ = some (.pointer (some ⟨B, 0, none⟩)) ∧ w'.cell? ⟨tp, 1, none⟩ = some (.slice (some ⟨rb, 0, none⟩) n n) ∧ w'.cell? ⟨rb, c, none⟩ = some (.slice (some ⟨g c, 0, none⟩) (2 * n) (2 * n)))
    (first | exact ⟨c0, c1, c2⟩ | exact ⟨Tab.t0 (by assumption), Tab.t1 (by assumption), Tab.hd (by assumption) c hc⟩ | exact ⟨(cell_setRow n1).trans (Tab.t0 (by assumption)), (cell_setRow n1).trans (Tab.t1 (by assumption)), (cell_setRow n3).trans (Tab.hd (by assumption) c hc)⟩)
    (first
    | (go_at_call 76; (refine (scale_any B (GfU.iv (X c c)).toNat (rowB (2 * n) (X c)) _ hT1.out.drew.field (GfU.toNat_le _) (by rw [rowB_size]; omega)).mono ?_; rintro e w5 ⟨rfl, hb5⟩; have T5 := hT1.out.drew.below hb5))
    | ((refine step_copy_text (by rfl) _ _ 48 9 (by rfl) 5 Try.underlying48 (by rw [HI.out]; simp [hz1]) (g c) (2 * n) (2 * n) _ (by rfl) (by rfl) (rowA (2 * n) (X c)) 5 (T5.row c hc) (by rw [rowA_size]; exact Nat.le_refl _) ?_)))
  all_goals (try go_wp2)
  all_goals go_end0
  all_goals
    rw [copied_nrm']
    refine ⟨rfl, ?_, ?_⟩
    · refine T5.turn c hc (fun b hb _ => setRow_other _ _ _ _ hb) ?_ (fun i j _ hij _ => by unfold nrm; rw [if_neg hij])
      rw [setRow_heap _ _ _ _ _ _ (T5.row c hc)]
      have e : (fun j => GfU.ml (GfU.iv (X c c)) (X c j)) = nrm c X c := by funext j; unfold nrm; rw [if_pos rfl]
      rw [e]
    · have hg : H ≤ W.heap.size := Nat.le_of_lt (Nat.lt_of_le_of_lt (hT1.out.lo.2 c hc) (heap_lt (hT1.out.row c hc)))
      exact below_setRow (hW.out.trans ((Below.refl _ W).drew.trans (hb5.mono hg))) (hT1.out.lo.2 c hc) _

/-- what a row is that is reduced by row c -/
def redX (c r : Nat) (X : Nat → Nat → UInt8) (i j : Nat) : UInt8 := if i = r ∧ r ≠ c then X i j ^^^ GfU.ml (X r c) (X c j) else X i j

/-- the same, where columns from c up to k are reduced -/
def redK (c r k : Nat) (X : Nat → Nat → UInt8) (i j : Nat) : UInt8 := if i = r ∧ c ≤ j ∧ j < k then X i j ^^^ GfU.ml (X r c) (X c j) else X i j

theorem redK_start (c r : Nat) (X : Nat → Nat → UInt8) : redK c r c X = X := by
  funext i j; unfold redK; rw [if_neg (by omega)]

theorem redK_val (c r k : Nat) (X : Nat → Nat → UInt8) (hk : c ≤ k) : (((X r k).toNat ^^^ GfM.mul (X r c).toNat (X c k).toNat : Nat) : Int) = ((redK c r (k + 1) X r k).toNat : Int) := by
  unfold redK
  rw [if_pos ⟨rfl, hk, by omega⟩, UInt8.toNat_xor, GfU.ml_toNat]

theorem redK_off (c r k : Nat) (X : Nat → Nat → UInt8) (i j : Nat) (h : i ≠ r ∨ j ≠ k) : redK c r (k + 1) X i j = redK c r k X i j := by
  unfold redK
  by_cases e : i = r ∧ c ≤ j ∧ j < k
  · rw [if_pos e, if_pos ⟨e.1, e.2.1, by omega⟩]
  · rw [if_neg e, if_neg (by omega)]

theorem redX_end (c r m : Nat) (X : Nat → Nat → UInt8) (hr : r ≠ c) (hz : ∀ j, j < c → X c j = 0) (i j : Nat) (hj : j < m) : redX c r X i j = redK c r m X i j := by
  unfold redX redK
  by_cases e : i = r
  · rw [if_pos ⟨e, hr⟩]
    by_cases h : c ≤ j
    · rw [if_pos ⟨e, h, hj⟩]
    · rw [if_neg (by omega), hz j (by omega), GfU.ml_zero, UInt8.xor_zero]
  · rw [if_neg (fun z => e z.1), if_neg (fun z => e z.1)]

set_option maxRecDepth 20000 in
set_option maxHeartbeats 2000000 in
theorem reduce_any (r c : Nat) (h : Tab H w tp B rb n g X) (hr : r < n) (hc : c < n) (hn : n ≤ 255) (hz : ∀ j, j < c → X c j = 0) :
    Calls Try.prog 92 #[.pointer (some ⟨tp, 0, none⟩), .int .i64 (r : Int), .int .i64 (c : Int)] w fun e w' => e = .returned (.tuple #[]) ∧ Tab H w' tp B rb n g (redX c r X) ∧ Below H w w' := by
  have hT := Lib.hid h
  have HZ := Lib.hid hz
  have c0 := h.t0
  have c1 := h.t1
  have c2 := h.hd r hr
  have c3 := h.at r c hr (by omega)
  have p1 : (r : Int) < (n : Int) := by omega
  have p2 : (c : Int) < 2 * (n : Int) := by omega
  have p3 : (c : Int) < (n : Int) := by omega
  clear h hz
  by_cases e1 : r = c
  · subst e1
    go_enter Try.func92, Try.ntmps92
    go_wp2_with fail
    refine bodyPost_ret (results_none rfl _ _ _) rfl ?_
    exact ⟨rfl, hT.out.congr fun i j _ _ => by unfold redX; rw [if_neg (fun z => z.2 rfl)], Below.refl _ _⟩
  · have t1 : ((r : Int) == (c : Int)) = false := by simp; omega
    by_cases e2 : X r c = 0
    · have e3 : ((X r c).toNat : Int) = 0 := by rw [e2]; rfl
      have E2 := Lib.hid e2
      rw [e3] at c3
      clear e2 e3
      go_enter Try.func92, Try.ntmps92
      go_wp2_with fail
      refine bodyPost_ret (results_none rfl _ _ _) rfl ?_
      exact ⟨rfl, hT.out.congr fun i j _ _ => by unfold redX; rw [E2.out, GfU.zero_ml, UInt8.xor_zero]; split <;> rfl, Below.refl _ _⟩
    · have t2 : (((X r c).toNat : Int) == 0) = false := by have := GfU.ne_zero.1 e2; simp; omega
      have c4 := hT.out.hd c hc
      clear e2
      go_enter Try.func92, Try.ntmps92
      go_wp2_with fail
      go_loopw [8] (fun i wr => ∃ k : Nat, c ≤ k ∧ k ≤ 2 * n ∧ i = .int .i64 (k : Int) ∧ Hid (Tab H wr tp B rb n g (redK c r k X)) ∧ Hid (Below H w wr)) (fun i _ => 2 * n - (intOf i).toNat)
      case atStart => exact ⟨c, Nat.le_refl _, by omega, rfl, by rw [redK_start]; exact hT.out, Below.refl _ _⟩
      case round =>
        obtain ⟨k, hk1, hk2, rfl, hTk, hbel⟩ := hrel
        clear c0 c1 c2 c3 c4
        by_cases hlt : k < 2 * n
        · have pk : (k : Int) < 2 * (n : Int) := by omega
          have c0 := hTk.out.t0
          have c1 := hTk.out.t1
          have c2 := hTk.out.hd r hr
          have c5 : wr.cell? ⟨g c, k, none⟩ = some (.int .u8 ((X c k).toNat : Int)) := by
            have := hTk.out.at c k hc hlt
            unfold redK at this
            rw [if_neg (fun z => e1 z.1.symm)] at this; exact this
          have c6 : wr.cell? ⟨g r, k, none⟩ = some (.int .u8 ((X r k).toNat : Int)) := by
            have := hTk.out.at r k hr hlt
            unfold redK at this
            rw [if_neg (by omega)] at this; exact this
          have f6 := blk_free (hTk.out.row r hr)
          have HF := Lib.hid hTk.out.field
          have b1 : (X r c).toNat ≤ 255 := GfU.toNat_le _
          have b2 : (X c k).toNat ≤ 255 := GfU.toNat_le _
          have b3 : (X r k).toNat ≤ 255 := GfU.toNat_le _
          have b4 := GfM.mul_le (X r c).toNat (X c k).toNat
          obtain ⟨n1, n2, n3⟩ := hTk.out.ne r hr
          have n4 : g c ≠ g r := fun z => e1 (hTk.out.inj c r hc hr z).symm
          go_wp2_with fail
          refine wp_region_quiet_tail 30 (by kernel_rfl) (by kernel_rfl) ?_
          simp only [List.take_succ_cons, List.take_zero, List.drop_succ_cons, List.drop_zero]
          repeat (go_big_quiet_step ((first | (go_at_call 93; exact Calls.quiet_of (mul_any B (X r c).toNat (X c k).toNat _ (HF.out.drewN _) b1 b2)) | (go_at_call 77; exact Calls.quiet_of_same (add_in (X r k).toNat (GfM.mul (X r c).toNat (X c k).toNat) _ b3 b4)))))
          refine wpQuiet_nil ?_
          intro d
          go_wp2_with fail
          go_roundw
          case rel => exact ⟨k + 1, by omega, by omega, by go_num, (hTk.out.drewN _).store r k hr hlt _ (redK_val c r k X hk1) (fun i j _ _ hij => redK_off c r k X i j hij), (below_drewN hbel.out _).setCell (hTk.out.lo.2 r hr) _⟩
          case measure => simp [intOf]; omega
        · obtain rfl : k = 2 * n := by omega
          have c0 := hTk.out.t0
          go_wp2_with fail
          go_end0
          exact ⟨rfl, hTk.out.congr fun i j _ hj => redX_end c r (2 * n) X e1 HZ.out i j hj, hbel.out⟩

end Go.Proofs.Ytemcjnbgcecinaa

/- The table of rows by which the landed package inverts: its rows gone through by methods' values, and the whole elimination; no condition but the range. -/
namespace Go.Proofs.Ytemcjnbgcecinaa
open Go.RowKit

variable {H tp B rb n : Nat} {g : Nat → Nat} {X Y : Nat → Nat → UInt8} {w w' : World}

set_option maxRecDepth 20000 in
set_option maxHeartbeats 2000000 in
theorem first_any (c : Nat) (h : Tab H w tp B rb n g X) (hc : c < n) (hn : n ≤ 255) :
    Calls Try.prog 87 #[.pointer (some ⟨tp, 0, none⟩), .int .i64 (c : Int), .func (.func 88) #[.pointer (some ⟨tp, 0, none⟩)] #[], .func (.func 89) #[.pointer (some ⟨tp, 0, none⟩)] #[]] w fun e w' =>
      ((∃ a, c ≤ a ∧ a < n ∧ X a c ≠ 0 ∧ e = .returned (.bool true) ∧ Tab H w' tp B rb n (fun i => g (GfU.swp c a i)) (fun i j => X (GfU.swp c a i) j)) ∨ ((∀ i, c ≤ i → i < n → X i c = 0) ∧ e = .returned (.bool false))) ∧ Below H w w' := by
  have hT := Lib.hid h
  have p3 : (c : Int) < (n : Int) := by omega
  clear h
  go_enter Try.func87, Try.ntmps87
  go_wp2_with fail
  go_loopw [9] (fun i wr => ∃ k : Nat, c ≤ k ∧ k ≤ n ∧ i = .int .i64 (k : Int) ∧ Hid (∀ i, c ≤ i → i < k → X i c = 0) ∧ wr = w) (fun i _ => n - (intOf i).toNat)
  case atStart => exact ⟨c, Nat.le_refl _, by omega, rfl, fun i h1 h2 => absurd h1 (by omega), rfl⟩
  case round =>
    obtain ⟨k, hk1, hk2, rfl, h0, rfl⟩ := hrel
    have c1 := hT.out.t1
    by_cases hlt : k < n
    · have pk : (k : Int) < (n : Int) := by omega
      by_cases hx : X k c = 0
      · have HX := Lib.hid hx
        clear hx
        go_wp2_with fail
        refine (leads_no k c hT.out hlt hc hn HX.out).mono ?_
        rintro e w1 ⟨rfl, rfl⟩
        go_wp2_with fail
        go_roundw
        case rel => exact ⟨k + 1, by omega, by omega, by go_num, fun i h1 h2 => by
          by_cases e : i = k
          · subst e; exact HX.out
          · exact h0.out i h1 (by omega), by first | exact trivial | rfl⟩
        case measure => simp [intOf]; omega
      · have HX := Lib.hid hx
        clear hx
        go_wp2_with fail
        refine (leads_yes k c hT.out hlt hc hn HX.out).mono ?_
        rintro e w1 ⟨rfl, rfl⟩
        go_wp2_with fail
        refine (swap_any k c hT.out hlt hc).mono ?_
        rintro e w1 ⟨rfl, hT1, hb1⟩
        have HT1 := Lib.hid hT1
        have HB1 := Lib.hid hb1
        clear hT1 hb1
        go_wp2_with fail
        go_ret
        exact ⟨.inl ⟨k, hk1, hlt, HX.out, rfl, HT1.out⟩, HB1.out⟩
    · obtain rfl : k = n := by omega
      go_wp2_with fail
      go_ret
      exact ⟨.inr ⟨h0.out, rfl⟩, Below.refl _ _⟩

/-- the rows that are reduced, of which the first k -/
def allX (c k : Nat) (X : Nat → Nat → UInt8) (i j : Nat) : UInt8 := if i < k ∧ i ≠ c then X i j ^^^ GfU.ml (X i c) (X c j) else X i j

theorem allX_zero (c : Nat) (X : Nat → Nat → UInt8) : allX c 0 X = X := by funext i j; unfold allX; rw [if_neg (by omega)]

theorem allX_lead (c k : Nat) (X : Nat → Nat → UInt8) (j : Nat) : allX c k X c j = X c j := by unfold allX; rw [if_neg (by omega)]

theorem allX_next (c k : Nat) (X : Nat → Nat → UInt8) (i j : Nat) : redX c k (allX c k X) i j = allX c (k + 1) X i j := by
  unfold redX
  rw [allX_lead]
  unfold allX
  by_cases e : i = k ∧ k ≠ c
  · obtain ⟨rfl, e2⟩ := e
    rw [if_pos ⟨rfl, e2⟩, if_neg (by omega), if_neg (by omega), if_pos ⟨by omega, e2⟩]
  · rw [if_neg e]
    by_cases h : i < k ∧ i ≠ c
    · rw [if_pos h, if_pos ⟨by omega, h.2⟩]
    · rw [if_neg h, if_neg (by omega)]

set_option maxRecDepth 20000 in
set_option maxHeartbeats 2000000 in
theorem each_any (c : Nat) (h : Tab H w tp B rb n g X) (hc : c < n) (hn : n ≤ 255) (hz : ∀ j, j < c → X c j = 0) :
    Calls Try.prog 91 #[.pointer (some ⟨tp, 0, none⟩), .int .i64 (c : Int), .func (.func 92) #[.pointer (some ⟨tp, 0, none⟩)] #[]] w fun e w' =>
      e = .returned (.tuple #[]) ∧ Tab H w' tp B rb n g (allX c n X) ∧ Below H w w' := by
  have hT := Lib.hid h
  have HZ := Lib.hid hz
  have c1 := h.t1
  clear h hz
  go_enter Try.func91, Try.ntmps91
  go_wp2_with fail
  go_loopw [12] (fun i wr => ∃ k : Nat, k ≤ n ∧ i = .int .i64 (k : Int) ∧ Hid (Tab H wr tp B rb n g (allX c k X)) ∧ Hid (Below H w wr)) (fun i _ => n - (intOf i).toNat)
  case atStart => exact ⟨0, by omega, rfl, by rw [allX_zero]; exact hT.out, Below.refl _ _⟩
  case round =>
    obtain ⟨k, hk, rfl, hTk, hbel⟩ := hrel
    clear c1
    by_cases hlt : k < n
    · go_wp2_with fail
      refine (reduce_any k c hTk.out hlt hc hn (fun j hj => by rw [allX_lead]; exact HZ.out j hj)).mono ?_
      rintro e w1 ⟨rfl, hT1, hb1⟩
      have HT1 := Lib.hid (hT1.congr fun i j _ _ => (allX_next c k X i j).symm)
      have HB1 := Lib.hid (hbel.out.trans hb1)
      clear hT1 hb1
      go_wp2_with fail
      go_roundw
      case rel => exact ⟨k + 1, by omega, by go_num, HT1.out, HB1.out⟩
      case measure => simp [intOf]; omega
    · obtain rfl : k = n := by omega
      go_wp2_with fail
      go_end0
      exact ⟨rfl, hTk.out, hbel.out⟩

theorem elim_steps (c : Nat) (X : Nat → Nat → UInt8) (n i j : Nat) (hi : i < n) : GfU.elim c (fun i => X i c) X i j = allX c n (nrm c X) i j := by
  unfold GfU.elim allX
  by_cases e : i = c
  · subst e; rw [if_pos rfl, if_neg (by omega)]; unfold nrm; rw [if_pos rfl]
  · rw [if_neg e, if_pos ⟨hi, e⟩]; unfold nrm; rw [if_neg e, if_neg e, if_pos rfl]

/-- the half behind -/
def behind (n : Nat) (X : Nat → Nat → UInt8) (i j : Nat) : UInt8 := X i (n + j)

theorem nrm_lead (c : Nat) (X : Nat → Nat → UInt8) (hz : ∀ j, j < c → X c j = 0) : ∀ j, j < c → nrm c X c j = 0 := by
  intro j hj; unfold nrm; rw [if_pos rfl, hz j hj, GfU.ml_zero]

set_option maxRecDepth 20000 in
set_option maxHeartbeats 4000000 in
theorem solve_any (M : Nat → Nat → UInt8) (Q0 : Nat → Nat → UInt8) (h : Tab H w tp B rb n g X) (hn : n ≤ 255) (hG : GfU.Going n M Q0 (behind n X) X) :
    Calls Try.prog 73 #[.pointer (some ⟨tp, 0, none⟩)] w fun e w' =>
      ((∃ g' X', e = .returned (.bool true) ∧ Tab H w' tp B rb n g' X' ∧ GfU.sq n (GfU.mm n (behind n X') M) GfU.one ∧ GfU.sq n (GfU.mm n M (behind n X')) GfU.one) ∨ (e = .returned (.bool false) ∧ GfU.Sing n M)) ∧ Below H w w' := by
  have hT := Lib.hid h
  have HG := Lib.hid hG
  have c1 := h.t1
  have hmf : ∀ (fn : Fn) (first cap : Array Value) (w : World), (Instr.makeFunc fn first cap).run Try.prog w = .ok (.func fn first cap) w := fun _ _ _ _ => rfl
  clear h hG
  go_enter Try.func73, Try.ntmps73
  go_wp2_with fail
  go_loopw [9] (fun i wr => ∃ k : Nat, k ≤ n ∧ i = .int .i64 (k : Int) ∧ Hid (∃ g' X' Q', Tab H wr tp B rb n g' X' ∧ GfU.Going n M Q' (behind n X') X' ∧ GfU.plain n k X') ∧ Hid (Below H w wr)) (fun i _ => n - (intOf i).toNat)
  case atStart => exact ⟨0, by omega, rfl, ⟨g, X, Q0, hT.out, HG.out, fun i j _ hj => absurd hj (by omega)⟩, Below.refl _ _⟩
  case round =>
    obtain ⟨k, hk, rfl, hrest, hbel⟩ := hrel
    clear c1
    obtain ⟨g1, X1, Q1, t1, q1, l1⟩ := hrest.out
    have T1 := Lib.hid t1
    have G1 := Lib.hid q1
    have L1 := Lib.hid l1
    clear hrest t1 q1 l1
    by_cases hlt : k < n
    · go_wp2_with fail
      refine (first_any k T1.out hlt hn).mono ?_
      rintro e w2 ⟨⟨a, ha1, ha2, hax, rfl, ht2⟩ | ⟨h0, rfl⟩, hb2⟩
      · have T2 := Lib.hid ht2
        have B2 := Lib.hid (hbel.out.trans hb2)
        obtain ⟨Q2, g2⟩ := GfU.going_swap (n := n) (c := k) (a := a) hlt ha2 G1.out
        have G2 : Hid (GfU.Going n M Q2 (behind n fun i j => X1 (GfU.swp k a i) j) (fun i j => X1 (GfU.swp k a i) j)) := g2
        have L2 := Lib.hid (GfU.plain_swap hlt ha1 ha2 L1.out)
        have hp : (fun i j => X1 (GfU.swp k a i) j) k k ≠ 0 := by
          show X1 (GfU.swp k a k) k ≠ 0
          have : GfU.swp k a k = a := by unfold GfU.swp; rw [if_pos rfl]
          rw [this]; exact hax
        clear ht2 hb2 g2 hax T1 G1 L1
        generalize (fun i j => X1 (GfU.swp k a i) j) = X2 at T2 G2 L2 hp
        generalize (fun i => g1 (GfU.swp k a i)) = g2 at T2
        have hzero : ∀ j, j < k → X2 k j = 0 := fun j hj => by rw [L2.out k j hlt hj]; unfold GfU.one; rw [if_neg (by omega)]
        have HP := Lib.hid hp
        have HZ := Lib.hid hzero
        clear hp hzero
        go_wp2_with fail
        refine (norm_any k T2.out hlt hn).mono ?_
        rintro e w3 ⟨rfl, ht3, hb3⟩
        have T3 := Lib.hid ht3
        have B3 := Lib.hid (B2.out.trans hb3)
        clear ht3 hb3
        go_wp2_with fail
        refine (each_any k T3.out hlt hn (nrm_lead k X2 HZ.out)).mono ?_
        rintro e w4 ⟨rfl, ht4, hb4⟩
        have T4 := Lib.hid (ht4.congr fun i j hi _ => elim_steps k X2 n i j hi)
        have B4 := Lib.hid (B3.out.trans hb4)
        obtain ⟨Q3, g3⟩ := GfU.going_elim (n := n) (c := k) hlt HP.out G2.out
        have G3 : Hid (GfU.Going n M Q3 (behind n (GfU.elim k (fun i => X2 i k) X2)) (GfU.elim k (fun i => X2 i k) X2)) := g3
        have L3 := Lib.hid (GfU.plain_elim hlt HP.out L2.out)
        clear ht4 hb4 g3 T3 B3 B2
        go_wp2_with fail
        go_roundw
        case rel => exact ⟨k + 1, by omega, by go_num, ⟨_, _, Q3, T4.out, G3.out, L3.out⟩, B4.out⟩
        case measure => simp [intOf]; omega
      · have B2 := Lib.hid (hbel.out.trans hb2)
        have S2 := Lib.hid (GfU.going_sing hlt G1.out L1.out h0)
        clear h0 hb2
        go_wp2_with fail
        go_ret
        exact ⟨.inr ⟨rfl, S2.out⟩, B2.out⟩
    · obtain rfl : k = n := by omega
      obtain ⟨z1, z2⟩ := GfU.going_end G1.out (fun i j hi hj => L1.out i j hi hj)
      have Z1 := Lib.hid z1
      have Z2 := Lib.hid z2
      clear z1 z2
      go_wp2_with fail
      go_ret
      exact ⟨.inl ⟨_, _, rfl, T1.out, Z1.out, Z2.out⟩, hbel.out⟩

end Go.Proofs.Ytemcjnbgcecinaa
