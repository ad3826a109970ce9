/- The walk of the law that what is picked is as the document has it; no condition but the form's reach. -/
import Derived.Test.YtlmcpnlnbjloaaaMatLandPick
import Derived.Test.YtlmcpnlnbjloaaaMatShell
import Derived.Laws.OwnMore
namespace Go.Proofs.Ytlmcpnlnbjloaaa
open Go.RowKit

theorem Try.infoInt : (Try.prog.info? 3).map (fun i => (i.zero, i.size, i.bytes)) = some (some (.int .i64 0), 1, 8) := by kernel_rfl

/-- what is picked of any matrix -/
def pAns (r c : Int) (s : ByteArray) (L : List Int) : Value :=
  if may r c s then pickAns r.toNat c.toNat s L else .tuple #[.agg #[.int .i64 0, .int .i64 0, .string ⟨#[]⟩], .int .i64 4]

theorem pickAns_form (r c : Nat) (s : ByteArray) (L : List Int) : ∃ x y z e, pickAns r c s L = .tuple #[.agg #[.int .i64 x, .int .i64 y, .string z], .int .i64 e] := by
  unfold pickAns
  split
  · split
    · exact ⟨_, _, _, _, rfl⟩
    · split
      · exact ⟨_, _, _, _, rfl⟩
      · exact ⟨_, _, _, _, rfl⟩
  · exact ⟨_, _, _, _, rfl⟩

theorem pAns_form (r c : Int) (s : ByteArray) (L : List Int) : ∃ x y z e, pAns r c s L = .tuple #[.agg #[.int .i64 x, .int .i64 y, .string z], .int .i64 e] := by
  unfold pAns
  split
  · exact pickAns_form _ _ _ _
  · exact ⟨_, _, _, _, rfl⟩

theorem lp_any (r c : Int) (s : ByteArray) (a : Addr) (cap : Nat) (L : List Int) (w : World) (ha : a.block < w.heap.size) (hL : ∀ i (h : i < L.length), w.cell? (a.add i) = some (.int .i64 L[i])) (hm : L.length ≤ 1152921504606846976) :
    Calls Try.prog 21 #[.agg #[.int .i64 r, .int .i64 c, .string s], .slice (some a) L.length cap] w fun e w' => e = .returned (pAns r c s L) ∧ Below w.heap.size w w' := by
  by_cases h : may r c s
  · obtain ⟨m, n, rfl, rfl, h1, h2, h3, h4, hs⟩ := may_nat h
    have := pick_some m n s a cap L w h1 h2 h3 h4 hs ha hL hm
    unfold pAns
    rw [if_pos h]
    exact this
  · unfold pAns
    rw [if_neg h]
    exact pick_shape r c s a _ cap w h

set_option maxRecDepth 20000 in
set_option maxHeartbeats 1000000 in
theorem rpick_zero (a0 : Option Addr) (cap : Nat) (r c : Nat) (s : ByteArray) (w : World) (h1 : 1 ≤ r) (h2 : r ≤ 255) (h3 : 1 ≤ c) (h4 : c ≤ 255) (hs : s.size = r * c) :
    Calls Try.prog 22 #[.agg #[.int .i64 (r : Int), .int .i64 (c : Int), .string s], .slice a0 0 cap] w fun e w' =>
      e = .returned (pickAns r c s []) ∧ Below w.heap.size w w' := by
  have ka : ((chk (r : Int) (c : Int) s : Nat) : Int) = 0 := by rw [chk_yes h1 h2 h3 h4 hs]; rfl
  clear hs
  go_enter Try.func22, Try.ntmps22
  go_wp2_with fail
  obtain ⟨s0, bA, bZ⟩ := blk2 w (.cells #[.int .i64 (r : Int), .int .i64 (c : Int), .string s] 23) (.cells #[.int .i64 0, .int .i64 0, .string ⟨#[]⟩] 23)
  have BW : Hid (Below w.heap.size w ((w.alloc (.cells #[.int .i64 (r : Int), .int .i64 (c : Int), .string s] 23)).alloc (.cells #[.int .i64 0, .int .i64 0, .string ⟨#[]⟩] 23))) :=
    ((Below.refl _ w).alloc (Nat.le_refl _) _).alloc (by simp) _
  generalize (w.alloc (.cells #[.int .i64 (r : Int), .int .i64 (c : Int), .string s] 23)).alloc (.cells #[.int .i64 0, .int .i64 0, .string ⟨#[]⟩] 23) = w0 at s0 bA bZ BW ⊢
  have S0 := Lib.hid s0
  have BZ := Lib.hid bZ
  clear s0 bA bZ
  refine (rcheck_any _ _ _ _).mono ?_
  rintro e w1 ⟨rfl, hb1⟩
  have HB1 : Hid (Below (w.heap.size + 2) w0 w1) := hb1.mono (by have := S0.out; omega)
  clear hb1
  go_wp2_with fail
  go_loopw [6] (fun i wr => i = .int .i64 0 ∧ Hid (Below (w.heap.size + 2) w0 wr)) (fun _ _ => 0)
  case atStart => exact ⟨rfl, HB1.out⟩
  case round =>
    obtain ⟨rfl, hbel⟩ := hrel
    have bZr := (hbel.out.block (w.heap.size + 1) (by omega)).trans BZ.out
    have c0 := blk_cell (j := 0) bZr rfl
    have c1 := blk_cell (j := 1) bZr rfl
    have c2 := blk_cell (j := 2) bZr rfl
    have cf := blk_free bZr
    have hans : Hid (pickAns r c s [] = .tuple #[.agg #[.int .i64 0, .int .i64 0, .string ⟨#[]⟩], .int .i64 1]) := by
      show _ = _; unfold pickAns; rw [if_pos (fun i h => absurd h (by simp)), if_neg (by simp)]; exact if_pos rfl
    clear bZr
    go_wp2_with fail
    exact bodyPost_ret (v := .tuple #[.agg #[.int .i64 0, .int .i64 0, .string ⟨#[]⟩], .int .i64 1]) (by simp [results, Try.results22, go_sem, c0, c1, c2]) rfl
      ⟨by rw [hans.out], below_agg3 (BW.out.trans (hbel.out.mono (by omega))) (by omega) _ _ _⟩

theorem sliceOf_below {w w' : World} {v : Value} {L : List Int} (h : SliceOf w v L) (hb : Below w.heap.size w w') : SliceOf w' v L := by
  rcases h with h | ⟨a, cap, h1, h2, h3, h4⟩
  · exact .inl h
  · refine .inr ⟨a, cap, h1, fun hp => Nat.lt_of_lt_of_le (h2 hp) hb.size, fun i hi => ?_, h4⟩
    rw [cell_kept hb (a.add i) (by rw [add_block]; exact h2 (by omega))]
    exact h3 i hi

theorem sliceOf_alloc {w : World} {v : Value} {L : List Int} (h : SliceOf w v L) (o : Obj) : SliceOf (w.alloc o) v L := sliceOf_below h ((Below.refl _ w).alloc (Nat.le_refl _) o)

theorem rp_any (r c : Int) (s : ByteArray) (v : Value) (L : List Int) (w : World) (hv : SliceOf w v L) :
    Calls Try.prog 22 #[.agg #[.int .i64 r, .int .i64 c, .string s], v] w fun e w' => e = .returned (pAns r c s L) ∧ Below w.heap.size w w' := by
  by_cases h : may r c s
  · obtain ⟨m, n, rfl, rfl, h1, h2, h3, h4, hs⟩ := may_nat h
    unfold pAns
    rw [if_pos h]
    rcases hv with ⟨rfl, rfl⟩ | ⟨a, cap, rfl, hb, hL, hm⟩
    · exact rpick_zero none 0 m n s w h1 h2 h3 h4 hs
    · by_cases h0 : 0 < L.length
      · exact rpick_some m n s a cap L w h1 h2 h3 h4 hs (hb h0) hL (by omega)
      · have e : L = [] := List.length_eq_zero_iff.1 (by omega)
        subst e
        exact rpick_zero (some a) cap m n s w h1 h2 h3 h4 hs
  · unfold pAns
    rw [if_neg h]
    exact rpick_shape r c s v w h

set_option maxRecDepth 20000 in
set_option maxHeartbeats 4000000 in
theorem picks_walk (r c : Int) (s : ByteArray) (v : Value) (L : List Int) (w : World) (hv : SliceOf w v L) :
    Calls Try.prog 5 #[.agg #[.int .i64 r, .int .i64 c, .string s], v] w fun e w' => e = .returned (.bool true) ∧ Below w.heap.size w w' := by
  obtain ⟨i0, hi, hz0, hz1, hz2⟩ := info_parts Try.infoInt
  obtain ⟨x, y, z, e0, hE⟩ := pAns_form r c s L
  have HE := Lib.hid hE
  clear hE
  have HV := Lib.hid hv
  have s1 := (blk1 w (.cells #[.int .i64 r, .int .i64 c, .string s] 23)).1
  have hown : (((w.alloc (.cells #[.int .i64 r, .int .i64 c, .string s] 23)).alloc (.cells #[] 3))).ownsRow (w.heap.size + 1) 3 1 (.slice (some ⟨w.heap.size + 1, 0, none⟩) 0 0) 0 [] := by
    have h := World.ownsRow_lit (base := w.heap.size + 1) (e := 3) (size := 1) (w.alloc (.cells #[.int .i64 r, .int .i64 c, .string s] 23)) #[] 0 (by omega) (by unfold maxLen; omega) rfl
    rw [s1] at h
    exact h
  have HOWN := Lib.hid hown
  clear hown s1
  have hm0 : MatAt (w.alloc (.cells #[.int .i64 r, .int .i64 c, .string s] 23)) w.heap.size r c s := matAt_new w r c s 23
  have hm1 : MatAt ((w.alloc (.cells #[.int .i64 r, .int .i64 c, .string s] 23)).alloc (.cells #[] 3)) w.heap.size r c s := matAt_alloc hm0 _
  have hb1 : Below w.heap.size w ((w.alloc (.cells #[.int .i64 r, .int .i64 c, .string s] 23)).alloc (.cells #[] 3)) := ((Below.refl _ w).alloc (Nat.le_refl _) _).alloc (by simp) _
  have hs1 : ((w.alloc (.cells #[.int .i64 r, .int .i64 c, .string s] 23)).alloc (.cells #[] 3)).heap.size = w.heap.size + 2 := by simp
  have HM1 := Lib.hid hm1
  have HB1 := Lib.hid hb1
  have HS1 := Lib.hid hs1
  clear hm0 hm1 hb1 hs1
  rcases hv with ⟨rfl, hL⟩ | ⟨a, cap, rfl, hb, hLc, hm⟩
  focus
    have hap := run_append_owned_none (P := Try.prog) _ (w.heap.size + 1) 33 33 3 i0 1 Try.underlying33 hi _ _ _ HOWN.out
    have HL := Lib.hid hL
    clear hL
    go_enter Try.func5, Try.ntmps5
    go_wp2_with fail
    have HP : Hid (Calls Try.prog 21 #[.agg #[.int .i64 r, .int .i64 c, .string s], .slice (some ⟨w.heap.size + 1, 0, none⟩) 0 0] ((w.alloc (.cells #[.int .i64 r, .int .i64 c, .string s] 23)).alloc (.cells #[] 3)) fun e w' => e = .returned (pAns r c s L) ∧ Below ((w.alloc (.cells #[.int .i64 r, .int .i64 c, .string s] 23)).alloc (.cells #[] 3)).heap.size ((w.alloc (.cells #[.int .i64 r, .int .i64 c, .string s] 23)).alloc (.cells #[] 3)) w') := by
      have e := HL.out
      subst e
      exact lp_any r c s ⟨w.heap.size + 1, 0, none⟩ 0 [] _ (by rw [HS1.out]; show w.heap.size + 1 < _; omega) (fun i h => absurd h (by simp)) (by simp)
    have HS : Hid (SliceOf ((w.alloc (.cells #[.int .i64 r, .int .i64 c, .string s] 23)).alloc (.cells #[] 3)) (.slice none 0 0) L) := .inl ⟨rfl, HL.out⟩
    clear hap HOWN
    generalize ((w.alloc (.cells #[.int .i64 r, .int .i64 c, .string s] 23)).alloc (.cells #[] 3)) = W at HP HS HM1 HB1 HS1 ⊢
    have HM2 := HM1
    have HB2 := HB1
    clear HM1 HB1 HS1 HL
  rotate_left
  focus
    have HLc := Lib.hid hLc
    have HLb := Lib.hid hb
    clear hLc hb
    go_enter Try.func5, Try.ntmps5
    go_wp2_with (at_builtin; refine wpList_append_own _ rfl _ _ 33 rfl (w.heap.size + 1) 3 i0 (.int .i64 0) 1 8 Try.underlying33 hi hz0 hz1 hz2 rfl (by decide) _ _ _ rfl HOWN.out a L.length cap (L.map (Value.int .i64)) rfl (by simp) ?c1 ?c2 ?c3 ?c4 ?c5 ?_)
    case c1 =>
      intro j u hu
      rw [List.getElem?_map] at hu
      by_cases hj : j < L.length
      · rw [List.getElem?_eq_getElem hj] at hu
        rw [cell_kept HB1.out (a.add j) (by rw [add_block]; exact HLb.out (by omega)), HLc.out j hj]
        exact hu
      · rw [List.getElem?_eq_none (by omega)] at hu; cases hu
    case c2 =>
      intro u hu
      obtain ⟨q, _, rfl⟩ := List.mem_map.1 hu
      rfl
    case c3 => unfold maxLen; omega
    case c4 => omega
    case c5 => rw [HS1.out]; omega
    intro v' w2 hown' hgrow hiff
    have hB : Below (w.heap.size + 1) ((w.alloc (.cells #[.int .i64 r, .int .i64 c, .string s] 23)).alloc (.cells #[] 3)) w2 := (Below.refl _ _).grown hgrow (by rw [HS1.out]; omega) (fun j hj => by simp [Value.ownBlock] at hj; omega)
    have HB2 : Hid (Below w.heap.size w w2) := HB1.out.trans (hB.mono (by omega))
    have HM2 : Hid (MatAt w2 w.heap.size r c s) := by
      obtain ⟨q0, q1, q2, q3⟩ := HM1.out
      exact ⟨(hB.cell (p := ⟨w.heap.size, 0, none⟩) (by show w.heap.size < _; omega)).trans q0, (hB.cell (p := ⟨w.heap.size, 1, none⟩) (by show w.heap.size < _; omega)).trans q1, (hB.cell (p := ⟨w.heap.size, 2, none⟩) (by show w.heap.size < _; omega)).trans q2, Nat.lt_of_lt_of_le q3 hB.size⟩
    have HS : Hid (SliceOf w2 (.slice (some a) L.length cap) L) := sliceOf_below HV.out HB2.out
    rcases hown'.2 with ⟨hnil, _⟩ | ⟨g, cp, cur, hv', hbg, hg, _⟩
    · exact absurd hnil (fun q => hiff q)
    subst hv'
    have HP : Hid (Calls Try.prog 21 #[.agg #[.int .i64 r, .int .i64 c, .string s], .slice (some ⟨g, 0, none⟩) L.length cp] w2 fun e w' => e = .returned (pAns r c s L) ∧ Below w2.heap.size w2 w') := by
      refine lp_any r c s ⟨g, 0, none⟩ cp L _ (Array.getElem?_eq_some_iff.1 hg).1 (fun i h => ?_) (by omega)
      rw [addr_head, hown'.cellAt i (by omega), List.getElem?_map, List.getElem?_eq_getElem h]; rfl
    obtain ⟨W, rfl⟩ : ∃ W : World, W = w2 := ⟨_, rfl⟩
    clear hown' hgrow hiff hB hg HOWN HM1 HB1 HS1 hbg HLc HLb hm
    obtain ⟨mm0, mm1, mm2, mm3⟩ := HM2.out
    go_wp2_with fail
    clear mm0 mm1 mm2 mm3
  all_goals
    refine HP.out.mono ?_
    rintro e w1 ⟨rfl, hb1⟩
    rw [HE.out]
    have HS2 := Lib.hid (sliceOf_below HS.out hb1)
    obtain ⟨m0, m1, m2, _⟩ := matAt_below HM2.out hb1
    have B1 : Hid (Below w.heap.size w w1) := HB2.out.trans (hb1.mono HB2.out.size)
    clear hb1 HP HS HM2 HB2
    go_wp2_with fail
    refine (rp_any r c s _ L _ (sliceOf_alloc HS2.out _)).mono ?_
    rintro e w2 ⟨rfl, hb2⟩
    rw [HE.out]
    have X2 := matAt_below (matAt_new w1 x y z 23) hb2
    have B2 : Hid (Below w.heap.size w w2) := (B1.out.alloc B1.out.size _).trans (hb2.mono (by have := B1.out.size; simp; omega))
    clear hb2 B1 m0 m1 m2 HS2
    generalize w1.heap.size = px at X2 ⊢
    have X3 := matAt_alloc X2 (.cells #[.int .i64 x, .int .i64 y, .string z] 23)
    have Y3 := matAt_new w2 x y z 23
    have B3 : Hid (Below w.heap.size w (w2.alloc (.cells #[.int .i64 x, .int .i64 y, .string z] 23))) := B2.out.alloc B2.out.size _
    clear X2 B2
    go_wp2_with fail
    refine (works_true gen_example _).mono ?_
    rintro e w4 ⟨rfl, hb4⟩
    have B4 := Lib.hid (B3.out.trans (hb4.mono B3.out.size))
    clear hb4 B3 X3 Y3
    go_wp2_with fail
    go_ret
    exact ⟨rfl, B4.out⟩

end Go.Proofs.Ytlmcpnlnbjloaaa
