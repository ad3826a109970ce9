/- The walk of the law that identities and products are as the document has them; no condition but the form's reach. -/
import Derived.Test.YtlmcpnlnbjloaaaMatLandMul
import Derived.Test.YtlmcpnlnbjloaaaMatRef2
import Derived.Test.YtlmcpnlnbjloaaaMatLaw0
import Derived.Deep.RegionHeld3
namespace Go.Proofs.Ytlmcpnlnbjloaaa
open Go.RowKit

/-- the identity of n rows, or why there is none; the product of any two, or why there is none -/
def idAns (n : Int) : Value :=
  if 1 ≤ n ∧ n ≤ 255 then .tuple #[.agg #[.int .i64 n, .int .i64 n, .string ⟨(tabL n.toNat n.toNat GfU.one).toArray⟩], .int .i64 0] else .tuple #[.agg #[.int .i64 0, .int .i64 0, .string ⟨#[]⟩], .int .i64 1]

def mulAns (ra ca rb cb : Int) (a b : ByteArray) : Value :=
  if may ra ca a ∧ may rb cb b ∧ ca = rb then .tuple #[.agg #[.int .i64 ra, .int .i64 cb, .string ⟨(tabL ra.toNat cb.toNat (timesF ca.toNat cb.toNat a b)).toArray⟩], .int .i64 0] else .tuple #[.agg #[.int .i64 0, .int .i64 0, .string ⟨#[]⟩], .int .i64 4]

theorem idAns_form (n : Int) : ∃ x y z e, idAns n = .tuple #[.agg #[.int .i64 x, .int .i64 y, .string z], .int .i64 e] := by
  unfold idAns; split
  · exact ⟨_, _, _, _, rfl⟩
  · exact ⟨_, _, _, _, rfl⟩

theorem mulAns_form (ra ca rb cb : Int) (a b : ByteArray) : ∃ x y z e, mulAns ra ca rb cb a b = .tuple #[.agg #[.int .i64 x, .int .i64 y, .string z], .int .i64 e] := by
  unfold mulAns; split
  · exact ⟨_, _, _, _, rfl⟩
  · exact ⟨_, _, _, _, rfl⟩

theorem lid_any (n : Int) (w : World) : Calls Try.prog 11 #[.int .i64 n] w fun e w' => e = .returned (idAns n) ∧ Below w.heap.size w w' := by
  by_cases h : 1 ≤ n ∧ n ≤ 255
  · obtain ⟨k, rfl⟩ := Int.eq_ofNat_of_zero_le (a := n) (by omega)
    unfold idAns; rw [if_pos h]
    exact ident_yes k w (by omega) (by omega)
  · unfold idAns; rw [if_neg h]
    exact ident_no n w (by omega)

theorem rid_any (n : Int) (w : World) : Calls Try.prog 12 #[.int .i64 n] w fun e w' => e = .returned (idAns n) ∧ Below w.heap.size w w' := by
  by_cases h : 1 ≤ n ∧ n ≤ 255
  · obtain ⟨k, rfl⟩ := Int.eq_ofNat_of_zero_le (a := n) (by omega)
    unfold idAns; rw [if_pos h]
    exact rident_yes k w (by omega) (by omega)
  · unfold idAns; rw [if_neg h]
    exact rident_no n w (by omega)

theorem lmul_all (ra ca rb cb : Int) (a b : ByteArray) (w : World) :
    Calls Try.prog 17 #[.agg #[.int .i64 ra, .int .i64 ca, .string a], .agg #[.int .i64 rb, .int .i64 cb, .string b]] w fun e w' => e = .returned (mulAns ra ca rb cb a b) ∧ Below w.heap.size w w' := by
  by_cases h : may ra ca a ∧ may rb cb b ∧ ca = rb
  · unfold mulAns; rw [if_pos h]
    obtain ⟨ma, mb, rfl⟩ := h
    obtain ⟨m, n, rfl, rfl, h1, h2, h3, h4, hs⟩ := may_nat ma
    obtain ⟨n', p, hn, rfl, h5, h6, h7, h8, ht⟩ := may_nat mb
    have e : n = n' := by omega
    subst e
    exact mul_yes m n p a b w h1 h2 h3 h4 h7 h8 hs ht
  · unfold mulAns; rw [if_neg h]
    refine mul_no ra ca rb cb a b w ?_
    by_cases ma : may ra ca a
    · by_cases mb : may rb cb b
      · exact .inr (.inr fun e => h ⟨ma, mb, e⟩)
      · exact .inr (.inl mb)
    · exact .inl ma

theorem rmul_all (ra ca rb cb : Int) (a b : ByteArray) (w : World) :
    Calls Try.prog 18 #[.agg #[.int .i64 ra, .int .i64 ca, .string a], .agg #[.int .i64 rb, .int .i64 cb, .string b]] w fun e w' => e = .returned (mulAns ra ca rb cb a b) ∧ Below w.heap.size w w' := by
  by_cases h : may ra ca a ∧ may rb cb b ∧ ca = rb
  · unfold mulAns; rw [if_pos h]
    obtain ⟨ma, mb, rfl⟩ := h
    obtain ⟨m, n, rfl, rfl, h1, h2, h3, h4, hs⟩ := may_nat ma
    obtain ⟨n', p, hn, rfl, h5, h6, h7, h8, ht⟩ := may_nat mb
    have e : n = n' := by omega
    subst e
    exact rmulm_yes m n p a b w h1 h2 h3 h4 h7 h8 hs ht
  · unfold mulAns; rw [if_neg h]
    refine rmulm_no ra ca rb cb a b w ?_
    by_cases ma : may ra ca a
    · by_cases mb : may rb cb b
      · exact .inr (.inr fun e => h ⟨ma, mb, e⟩)
      · exact .inr (.inl mb)
    · exact .inl ma

/-- what the comparisons read -/
def PrEnv (W0 : World) (pa px py : Nat) (ra ca x y : Int) (a z : ByteArray) (W : World) : Prop := Below W0.heap.size W0 W ∧ MatAt W pa ra ca a ∧ MatAt W px x y z ∧ MatAt W py x y z

theorem PrEnv.step {W0 W W' : World} {pa px py : Nat} {ra ca x y : Int} {a z : ByteArray} (h : PrEnv W0 pa px py ra ca x y a z W) (hb : Below W.heap.size W W') : PrEnv W0 pa px py ra ca x y a z W' :=
  ⟨h.1.trans (hb.mono h.1.size), matAt_below h.2.1 hb, matAt_below h.2.2.1 hb, matAt_below h.2.2.2 hb⟩

theorem PrEnv.drew {W0 W : World} {pa px py : Nat} {ra ca x y : Int} {a z : ByteArray} (h : PrEnv W0 pa px py ra ca x y a z W) : PrEnv W0 pa px py ra ca x y a z W.drew := ⟨h.1.drew, h.2⟩

theorem PrEnv.fst {W0 W : World} {pa px py : Nat} {ra ca x y : Int} {a z : ByteArray} {q : Prop} (h : PrEnv W0 pa px py ra ca x y a z W ∧ q) : PrEnv W0 pa px py ra ca x y a z W := h.1

theorem PrEnv.all {W0 W : World} {pa px py : Nat} {ra ca x y : Int} {a z : ByteArray} (h : PrEnv W0 pa px py ra ca x y a z W) :
    PrEnv W0 pa px py ra ca x y a z W ∧ W.cell? ⟨pa, 0, none⟩ = some (.int .i64 ra) ∧ W.cell? ⟨pa, 1, none⟩ = some (.int .i64 ca) ∧ W.cell? ⟨pa, 2, none⟩ = some (.string a) ∧ W.cell? ⟨px, 0, none⟩ = some (.int .i64 x) ∧ W.cell? ⟨px, 1, none⟩ = some (.int .i64 y) ∧ W.cell? ⟨px, 2, none⟩ = some (.string z) ∧ W.cell? ⟨py, 0, none⟩ = some (.int .i64 x) ∧ W.cell? ⟨py, 1, none⟩ = some (.int .i64 y) ∧ W.cell? ⟨py, 2, none⟩ = some (.string z) :=
  ⟨h, h.2.1.1, h.2.1.2.1, h.2.1.2.2.1, h.2.2.1.1, h.2.2.1.2.1, h.2.2.1.2.2.1, h.2.2.2.1, h.2.2.2.2.1, h.2.2.2.2.2.1⟩

set_option maxRecDepth 20000 in
set_option maxHeartbeats 4000000 in
theorem products_walk (ra ca rb cb n : Int) (a b : ByteArray) (w : World) :
    Calls Try.prog 3 #[.agg #[.int .i64 ra, .int .i64 ca, .string a], .agg #[.int .i64 rb, .int .i64 cb, .string b], .int .i64 n] w fun e w' => e = .returned (.bool true) ∧ Below w.heap.size w w' := by
  obtain ⟨x, y, z, e0, hE⟩ := idAns_form n
  obtain ⟨p, q, t, e1, hP⟩ := mulAns_form ra ca rb cb a b
  have HE := Lib.hid hE
  have HP := Lib.hid hP
  clear hE hP
  go_enter Try.func3, Try.ntmps3
  go_wp2_with fail
  obtain ⟨s0, bA, bB⟩ := blk2 w (.cells #[.int .i64 ra, .int .i64 ca, .string a] 23) (.cells #[.int .i64 rb, .int .i64 cb, .string b] 23)
  have BW : Hid (Below w.heap.size w ((w.alloc (.cells #[.int .i64 ra, .int .i64 ca, .string a] 23)).alloc (.cells #[.int .i64 rb, .int .i64 cb, .string b] 23))) := ((Below.refl _ w).alloc (Nat.le_refl _) _).alloc (by simp) _
  generalize ((w.alloc (.cells #[.int .i64 ra, .int .i64 ca, .string a] 23)).alloc (.cells #[.int .i64 rb, .int .i64 cb, .string b] 23)) = w0 at s0 bA bB BW ⊢
  have MA : Hid (MatAt w0 w.heap.size ra ca a) := ⟨blk_cell bA rfl, blk_cell bA rfl, blk_cell bA rfl, by omega⟩
  have MB : Hid (MatAt w0 (w.heap.size + 1) rb cb b) := ⟨blk_cell bB rfl, blk_cell bB rfl, blk_cell bB rfl, by omega⟩
  clear s0 bA bB
  refine (lid_any n _).mono ?_
  rintro e w1 ⟨rfl, hb1⟩
  rw [HE.out]
  have MA1 := Lib.hid (matAt_below MA.out hb1)
  have MB1 := Lib.hid (matAt_below MB.out hb1)
  have B1 : Hid (Below w.heap.size w w1) := BW.out.trans (hb1.mono BW.out.size)
  clear hb1 MA MB BW
  go_wp2_with fail
  refine (rid_any n _).mono ?_
  rintro e w2 ⟨rfl, hb2⟩
  rw [HE.out]
  have MA2 := matAt_below (matAt_alloc MA1.out _) hb2
  have MB2 := matAt_below (matAt_alloc MB1.out _) hb2
  have X2 := matAt_below (matAt_new w1 x y z 23) hb2
  have B2 : Hid (Below w.heap.size w w2) := (B1.out.alloc B1.out.size _).trans (hb2.mono (by have := B1.out.size; simp; omega))
  clear hb2 B1 MA1 MB1
  generalize w1.heap.size = px at X2 ⊢
  have MA3 := Lib.hid (matAt_alloc MA2 (.cells #[.int .i64 x, .int .i64 y, .string z] 23))
  have MB3 := Lib.hid (matAt_alloc MB2 (.cells #[.int .i64 x, .int .i64 y, .string z] 23))
  have X3 := Lib.hid (matAt_alloc X2 (.cells #[.int .i64 x, .int .i64 y, .string z] 23))
  have Y3 := Lib.hid (matAt_new w2 x y z 23)
  have B3 : Hid (Below w.heap.size w (w2.alloc (.cells #[.int .i64 x, .int .i64 y, .string z] 23))) := B2.out.alloc B2.out.size _
  clear X2 B2 MA2 MB2
  go_wp2_with fail
  generalize w2.heap.size = py at Y3 ⊢
  generalize (w2.alloc (.cells #[.int .i64 x, .int .i64 y, .string z] 23)) = w3 at MA3 MB3 X3 Y3 B3 ⊢
  have E3 : Hid (PrEnv w3 w.heap.size px py ra ca x y a z w3) := ⟨Below.refl _ _, MA3.out, X3.out, Y3.out⟩
  go_region_held3 (fun w' => PrEnv w3 w.heap.size px py ra ca x y a z w' ∧ w'.cell? ⟨w.heap.size, 0, none⟩ = some (.int .i64 ra) ∧ w'.cell? ⟨w.heap.size, 1, none⟩ = some (.int .i64 ca) ∧ w'.cell? ⟨w.heap.size, 2, none⟩ = some (.string a) ∧ w'.cell? ⟨px, 0, none⟩ = some (.int .i64 x) ∧ w'.cell? ⟨px, 1, none⟩ = some (.int .i64 y) ∧ w'.cell? ⟨px, 2, none⟩ = some (.string z) ∧ w'.cell? ⟨py, 0, none⟩ = some (.int .i64 x) ∧ w'.cell? ⟨py, 1, none⟩ = some (.int .i64 y) ∧ w'.cell? ⟨py, 2, none⟩ = some (.string z))
    (first | exact E3.out.drew.all | exact PrEnv.all (by assumption))
    (first
    | (go_at_call 13; refine (check_any _ _ _ _).mono ?_; rintro e w5 ⟨rfl, hb5⟩; have M5 := PrEnv.step (PrEnv.fst (by assumption)) hb5; clear hb5)
    | (go_at_call 14; refine (rcheck_any _ _ _ _).mono ?_; rintro e w6 ⟨rfl, hb6⟩; have M6 := PrEnv.step (PrEnv.fst (by assumption)) hb6; clear hb6)
    | (go_at_call 15; refine (works_true gen_example _).mono ?_; rintro e w7 ⟨rfl, hb7⟩; have M7 := PrEnv.step (PrEnv.fst (by assumption)) hb7; clear hb7))
  have MA7 := Lib.hid M7.2.1
  have MB7 := Lib.hid (matAt_below MB3.out M7.1)
  have B7 : Hid (Below w.heap.size w w7) := B3.out.trans (M7.1.mono B3.out.size)
  obtain ⟨a0, a1, a2, _⟩ := M7.2.1
  rename_i hHeld _
  clear hHeld M5 M6 M7 MA3 MB3 X3 Y3 B3 E3
  go_wp2_with fail
  refine (large_any _ _ _ _).mono ?_
  rintro e w8 ⟨rfl, hb8⟩
  have MA8 := Lib.hid (matAt_below MA7.out hb8)
  have MB8 := Lib.hid (matAt_below MB7.out hb8)
  have B8 : Hid (Below w.heap.size w w8) := B7.out.trans (hb8.mono B7.out.size)
  clear hb8 a0 a1 a2 MA7 MB7 B7
  cases hla : (decide (16 < ra) || decide (16 < ca))
  · clear hla
    obtain ⟨b0, b1, b2, _⟩ := MB8.out
    go_wp2_with fail
    refine (large_any _ _ _ _).mono ?_
    rintro e w9 ⟨rfl, hb9⟩
    have MA9 := Lib.hid (matAt_below MA8.out hb9)
    have MB9 := Lib.hid (matAt_below MB8.out hb9)
    have B9 : Hid (Below w.heap.size w w9) := B8.out.trans (hb9.mono B8.out.size)
    clear hb9 b0 b1 b2 MA8 MB8 B8
    cases hlb : (decide (16 < rb) || decide (16 < cb))
    · clear hlb
      obtain ⟨a0, a1, a2, _⟩ := MA9.out
      obtain ⟨b0, b1, b2, _⟩ := MB9.out
      go_wp2_with fail
      refine (lmul_all _ _ _ _ _ _ _).mono ?_
      rintro e w10 ⟨rfl, hb10⟩
      rw [HP.out]
      obtain ⟨a0', a1', a2', _⟩ := matAt_below MA9.out hb10
      obtain ⟨b0', b1', b2', _⟩ := matAt_below MB9.out hb10
      have B10 : Hid (Below w.heap.size w w10) := B9.out.trans (hb10.mono B9.out.size)
      clear hb10 B9 a0 a1 a2 b0 b1 b2 MA9 MB9
      go_wp2_with fail
      refine (rmul_all _ _ _ _ _ _ _).mono ?_
      rintro e w11 ⟨rfl, hb11⟩
      rw [HP.out]
      have X11 := matAt_below (matAt_new w10 p q t 23) hb11
      have B11 : Hid (Below w.heap.size w w11) := (B10.out.alloc B10.out.size _).trans (hb11.mono (by have := B10.out.size; simp; omega))
      clear hb11 B10 a0' a1' a2' b0' b1' b2'
      generalize w10.heap.size = pz at X11 ⊢
      have X12 := matAt_alloc X11 (.cells #[.int .i64 p, .int .i64 q, .string t] 23)
      have Y12 := matAt_new w11 p q t 23
      have B12 : Hid (Below w.heap.size w (w11.alloc (.cells #[.int .i64 p, .int .i64 q, .string t] 23))) := B11.out.alloc B11.out.size _
      clear X11 B11
      go_wp2_with fail
      go_ret
      exact ⟨rfl, B12.out⟩
    · go_wp2_with fail
      go_ret
      exact ⟨rfl, B9.out⟩
  · go_wp2_with fail
    go_ret
    exact ⟨rfl, B8.out⟩

end Go.Proofs.Ytlmcpnlnbjloaaa
