/- The walk of the law that inverses are inverses; what it asks of the program's own functions stands as hypotheses. -/
import Derived.Test.YtlmcpnlnbjloaaaMatLaw0
import Derived.Test.YtlmcpnlnbjloaaaMatTold
import Derived.Deep.RegionHeld3
import Derived.Deep.DeepCutAuto
import Derived.Deep.DrawnRows
namespace Go.Proofs.Ytlmcpnlnbjloaaa
open Go.RowKit

/-- rows that are alike: no inverse -/
theorem alike_no_inv {n : Nat} (hn : 1 < n) {M R : Nat → Nat → UInt8} (h : GfU.sq n (GfU.mm n M R) GfU.one) (he : ∀ j, j < n → M 0 j = M (n - 1) j) : False := by
  have h1 := h 0 0 (by omega) (by omega)
  have h2 := h (n - 1) 0 (by omega) (by omega)
  have e : GfU.mm n M R 0 0 = GfU.mm n M R (n - 1) 0 := GfU.sum_congr n fun k hk => by rw [he k hk]
  rw [h1, h2] at e
  unfold GfU.one at e
  rw [if_pos rfl, if_neg (by omega)] at e
  exact absurd e (by decide)

/-- the matrix whose first row has gone, and whose second one stands at its end, too -/
theorem twice_alike (k : Nat) (sa : ByteArray) (hk : 1 < k) (hs : sa.size = k * k) (j : Nat) (hj : j < k) :
    cel (sa.extract k sa.size ++ sa.extract k (2 * k)) k 0 j = cel (sa.extract k sa.size ++ sa.extract k (2 * k)) k (k - 1) j := by
  have h2 : k * 2 ≤ k * k := Nat.mul_le_mul_left k hk
  have hsz : (sa.extract k sa.size).size = k * k - k := by rw [ByteArray.size_extract]; omega
  have e1 : (k - 1) * k = k * k - k := by rw [Nat.sub_mul, Nat.one_mul]
  unfold cel
  rw [Nat.zero_mul, Nat.zero_add, e1, ByteArray.data_append, Array.getElem?_append_left (by show j < (sa.extract k sa.size).size; omega), Array.getElem?_append_right (by show (sa.extract k sa.size).size ≤ _; omega)]
  rw [show k * k - k + j - (sa.extract k sa.size).data.size = j from by show k * k - k + j - (sa.extract k sa.size).size = j; omega]
  rw [ByteArray.data_extract, ByteArray.data_extract, Array.getElem?_extract, Array.getElem?_extract, if_pos (by show j < min sa.size sa.data.size - k; have : sa.data.size = sa.size := rfl; omega), if_pos (by have : sa.data.size = sa.size := rfl; omega)]

set_option maxRecDepth 100000 in
set_option maxHeartbeats 2000000 in
theorem mback_walk (hG : GenExample) (hM : MulYes) (hI : InvYes) (hO : IdYes) (n : Int) (x : ByteArray) (w : World) :
    Calls Try.prog 8 #[.int .i64 n, .string x] w fun e w' => e = .returned (.bool true) ∧ Below w.heap.size w w' := by
  have HG := Lib.hid hG
  have HM := Lib.hid hM
  have HI := Lib.hid hI
  have HO := Lib.hid hO
  clear hG hM hI hO
  have s1 := (sideV_rng n).1
  have s2 := (sideV_rng n).2
  go_enter Try.func8, Try.ntmps8
  go_wp2_with fail
  refine (works_true HG.out _).mono ?_
  rintro e w1 ⟨rfl, hb1⟩
  have B1 := Lib.hid hb1
  clear hb1
  go_wp2_with fail
  refine (side_any n _).mono ?_
  rintro e w2 ⟨rfl, rfl⟩
  go_wp2_with fail
  refine (side_any n _).mono ?_
  rintro e w2 ⟨rfl, rfl⟩
  go_wp2_with fail
  generalize sideV n = k at s1 s2 ⊢
  refine (made_any k k x _ s1 (by omega) s1 (by omega)).mono ?_
  rintro e w2 ⟨rfl, hb2⟩
  have B2 := Lib.hid (B1.out.trans (hb2.mono B1.out.size))
  clear hb2 B1
  generalize hF : madeF k x = F
  clear hF
  obtain ⟨sa, hsa⟩ : ∃ sa : ByteArray, sa = ⟨(tabL k k F).toArray⟩ := ⟨_, rfl⟩
  rw [← hsa]
  have SZ : Hid (sa.size = k * k) := by rw [hsa, size_tab]; exact rfl
  have CF : Hid (∀ i j, i < k → j < k → cel sa k i j = F i j) := fun i j hi hj => by rw [hsa]; exact cel_tab k k F i j hi hj
  have HS := Lib.hid hsa
  clear hsa
  go_wp2_with fail
  refine (HI.out k sa _ s1 (by omega) SZ.out).mono ?_
  rintro e w3 ⟨hres, hb3⟩
  have MA := matAt_below (matAt_new w2 (k : Int) (k : Int) sa 23) hb3
  have B3 := Lib.hid (((B2.out.alloc B2.out.size _).trans (hb3.mono (by have := B2.out.size; simp; omega))))
  clear hb3 B2
  generalize w2.heap.size = pa at MA ⊢
  rcases hres with ⟨R, rfl, hR1, hR2⟩ | ⟨rfl, hsing⟩
  · have EL : Hid (tabL k k (timesF k k ⟨(tabL k k R).toArray⟩ sa) = tabL k k GfU.one) := tab_congr k k fun i j hi hj =>
      (GfU.sq_trans (GfU.sq_mm (fun i j hi hj => cel_tab k k R i j hi hj) (GfU.sq_refl k _)) hR1) i j hi hj
    have ER : Hid (tabL k k (timesF k k sa ⟨(tabL k k R).toArray⟩) = tabL k k GfU.one) := tab_congr k k fun i j hi hj =>
      (GfU.sq_trans (GfU.sq_mm (GfU.sq_refl k _) (fun i j hi hj => cel_tab k k R i j hi hj)) hR2) i j hi hj
    have R2' := Lib.hid hR2
    clear hR1 hR2
    by_cases hk : k = 1
    · have hk2 : (k : Int) ≤ 1 := by omega
      clear hk
      go_wp2_with fail
      refine (HO.out k _ s1 (by omega)).mono ?_
      rintro e w5 ⟨rfl, hb5⟩
      have A5 := Lib.hid (matAt_below (matAt_alloc MA _) hb5)
      have I5 := Lib.hid (matAt_below (matAt_new w3 (k : Int) (k : Int) ⟨(tabL k k R).toArray⟩ 23) hb5)
      have B5 : Hid (Below w.heap.size w w5) := (B3.out.alloc B3.out.size _).trans (hb5.mono (by have := B3.out.size; simp; omega))
      clear hb5 MA B3
      generalize w3.heap.size = pi at I5 ⊢
      have a5 := A5.out
      have i5 := I5.out
      go_wp2_with fail
      refine (HM.out k k k _ _ _ s1 (by omega) s1 (by omega) s1 (by omega) (size_tab k k R) SZ.out).mono ?_
      rintro e w6 ⟨rfl, hb6⟩
      rw [EL.out]
      have A6 := Lib.hid (matAt_below (matAt_alloc A5.out _) hb6)
      have I6 := Lib.hid (matAt_below (matAt_alloc I5.out _) hb6)
      have O6 := Lib.hid (matAt_below (matAt_new w5 (k : Int) (k : Int) ⟨(tabL k k GfU.one).toArray⟩ 23) hb6)
      have B6 : Hid (Below w.heap.size w w6) := (B5.out.alloc B5.out.size _).trans (hb6.mono (by have := B5.out.size; simp; omega))
      clear a5 i5 hb6 A5 I5 B5
      generalize w5.heap.size = po at O6 ⊢
      have a6 := A6.out
      have i6 := I6.out
      go_wp2_with fail
      refine (HM.out k k k _ _ _ s1 (by omega) s1 (by omega) s1 (by omega) SZ.out (size_tab k k R)).mono ?_
      rintro e w7 ⟨rfl, hb7⟩
      rw [ER.out]
      have A7 := Lib.hid (matAt_below (matAt_alloc A6.out _) hb7)
      have I7 := Lib.hid (matAt_below (matAt_alloc I6.out _) hb7)
      have O7 := Lib.hid (matAt_below (matAt_alloc O6.out _) hb7)
      have L7 := Lib.hid (matAt_below (matAt_new w6 (k : Int) (k : Int) ⟨(tabL k k GfU.one).toArray⟩ 23) hb7)
      have B7 : Hid (Below w.heap.size w w7) := (B6.out.alloc B6.out.size _).trans (hb7.mono (by have := B6.out.size; simp; omega))
      clear a6 i6 hb7 A6 I6 O6 B6
      generalize w6.heap.size = pl at L7 ⊢
      have i7 := I7.out
      go_wp2_with fail
      refine (HI.out k _ _ s1 (by omega) (size_tab k k R)).mono ?_
      rintro e w8 ⟨hres8, hb8⟩
      have A8 := Lib.hid (matAt_below (matAt_alloc A7.out _) hb8)
      have O8 := Lib.hid (matAt_below (matAt_alloc O7.out _) hb8)
      have L8 := Lib.hid (matAt_below (matAt_alloc L7.out _) hb8)
      have R8 := Lib.hid (matAt_below (matAt_new w7 (k : Int) (k : Int) ⟨(tabL k k GfU.one).toArray⟩ 23) hb8)
      have B8 : Hid (Below w.heap.size w w8) := (B7.out.alloc B7.out.size _).trans (hb8.mono (by have := B7.out.size; simp; omega))
      clear i7 hb8 A7 I7 O7 L7 B7
      generalize w7.heap.size = pr at R8 ⊢
      rcases hres8 with ⟨R2, rfl, _, hr2⟩ | ⟨rfl, hs8⟩
      · have EB : tabL k k R2 = tabL k k (cel sa k) := tab_congr k k fun i j hi hj => (GfU.inv_alike k (GfU.sq_trans (GfU.sq_mm (GfU.sq_refl k _) (fun i j hi hj => cel_tab k k R i j hi hj)) R2'.out) hr2 i j hi hj).symm
        rw [EB, tab_cel k k sa SZ.out]
        have a8 := A8.out
        have o8 := O8.out
        have l8 := L8.out
        have r8 := R8.out
        go_wp2_with fail
        go_ret
        exact ⟨rfl, B8.out.alloc B8.out.size _⟩
      · exact absurd (GfU.sing_no_inv hs8 (GfU.sq_trans (GfU.sq_mm (GfU.sq_refl k _) (fun i j hi hj => cel_tab k k R i j hi hj)) R2'.out)) (fun h => h)
    · have hk2 : (1 : Int) < (k : Int) := by omega
      go_wp2_with fail
      have hsl1 : (k : Int) ≤ (sa.size : Int) := by rw [SZ.out]; have : k * 1 ≤ k * k := Nat.mul_le_mul_left k s1; omega
      have hsl2 : 2 * (k : Int) ≤ (sa.size : Int) := by rw [SZ.out]; have : k * 2 ≤ k * k := Nat.mul_le_mul_left k (by omega); omega
      have hsz : sa.size ≤ 65025 := by rw [SZ.out]; have : k * k ≤ 6 * 6 := Nat.mul_le_mul s2 s2; omega
      have hsl3 : IntKind.i64.wrap (2 * (k : Int)) = 2 * (k : Int) := i64_wrap (by omega) (by omega)
      have hsl4 : (0 : Int) ≤ (k : Int) := by omega
      have hsl5 : (k : Int) ≤ 2 * (k : Int) := by omega
      have hsl6 : (0 : Int) ≤ 2 * (k : Int) := by omega
      have hsl7 : (2 * (k : Int)).toNat = 2 * k := by omega
      have hsl8 : 2 * k ≤ sa.size := by omega
      have hsl9 : k ≤ sa.size := by omega
      have hadd : ∀ W, (Op.stringOp .add (sa.extract k sa.size) (sa.extract k (2 * k))).run Try.prog W = .ok (.string (sa.extract k sa.size ++ sa.extract k (2 * k))) W := fun W => run_string_add_sum W _ _ (by rw [ByteArray.size_extract, ByteArray.size_extract]; omega)
      have hadd2 : ((sa.extract k sa.size).size : Int) + ((sa.extract k (2 * k)).size : Int) ≤ 9223372036854775807 := by rw [ByteArray.size_extract, ByteArray.size_extract]; omega
      go_region_held3 (fun w' => w'.cell? ⟨pa, 0, none⟩ = some (.int .i64 (k : Int)) ∧ w'.cell? ⟨pa, 1, none⟩ = some (.int .i64 (k : Int)) ∧ w'.cell? ⟨pa, 2, none⟩ = some (.string sa) ∧ pa < w'.heap.size)
        (first | exact matAt_alloc (by assumption) _ | exact ⟨by go_keep, by go_keep, by go_keep, by simp; omega⟩ | go_keep)
        (fail)
      have T0 := matAt_new w3 (k : Int) (k : Int) ⟨(tabL k k R).toArray⟩ 23
      have M3 := Lib.hid T0
      clear T0
      generalize hst : (sa.extract k sa.size ++ sa.extract k (2 * k)) = st
      have ST : Hid (st.size = k * k) := by show st.size = k * k; have z := SZ.out; rw [← hst, ByteArray.size_append, ByteArray.size_extract, ByteArray.size_extract]; omega
      have HST := Lib.hid hst
      clear hst hadd hadd2
      go_wp2_with fail
      refine (HI.out k st _ s1 (by omega) ST.out).mono ?_
      rintro e w4 ⟨hres4, hb4⟩
      have A4 := Lib.hid (matAt_below (matAt_drew (matAt_alloc (matAt_alloc MA (.cells #[.int .i64 (k : Int), .int .i64 (k : Int), .string ⟨(tabL k k R).toArray⟩] 23)) (.cells #[.int .i64 (k : Int), .int .i64 (k : Int), .string st] 23))) hb4)
      have I4 := Lib.hid (matAt_below (matAt_drew (matAt_alloc (matAt_new w3 (k : Int) (k : Int) ⟨(tabL k k R).toArray⟩ 23) (.cells #[.int .i64 (k : Int), .int .i64 (k : Int), .string st] 23))) hb4)
      have B4 : Hid (Below w.heap.size w w4) := (((B3.out.alloc B3.out.size _).alloc (by have := B3.out.size; simp; omega) _).drew).trans (hb4.mono (by have := B3.out.size; simp; omega))
      clear hb4 MA M3
      rcases hres4 with ⟨R', rfl, _, hbad⟩ | ⟨rfl, _⟩
      · exact absurd (alike_no_inv (by omega) hbad (fun j hj => by rw [← HST.out]; exact twice_alike k sa (by omega) SZ.out j hj)) (fun h => h)
      · have a4 := A4.out
        have i4 := I4.out
        go_wp2_with fail
        refine (HO.out k _ s1 (by omega)).mono ?_
        rintro e w5 ⟨rfl, hb5⟩
        have A5 := Lib.hid (matAt_below (matAt_alloc A4.out _) hb5)
        have I5 := Lib.hid (matAt_below (matAt_alloc I4.out _) hb5)
        have B5 : Hid (Below w.heap.size w w5) := (B4.out.alloc B4.out.size _).trans (hb5.mono (by have := B4.out.size; simp; omega))
        clear a4 i4 hb5 A4 I4 B4
        generalize w3.heap.size = pi at I5 ⊢
        have a5 := A5.out
        have i5 := I5.out
        go_wp2_with fail
        refine (HM.out k k k _ _ _ s1 (by omega) s1 (by omega) s1 (by omega) (size_tab k k R) SZ.out).mono ?_
        rintro e w6 ⟨rfl, hb6⟩
        rw [EL.out]
        have A6 := Lib.hid (matAt_below (matAt_alloc A5.out _) hb6)
        have I6 := Lib.hid (matAt_below (matAt_alloc I5.out _) hb6)
        have O6 := Lib.hid (matAt_below (matAt_new w5 (k : Int) (k : Int) ⟨(tabL k k GfU.one).toArray⟩ 23) hb6)
        have B6 : Hid (Below w.heap.size w w6) := (B5.out.alloc B5.out.size _).trans (hb6.mono (by have := B5.out.size; simp; omega))
        clear a5 i5 hb6 A5 I5 B5
        generalize w5.heap.size = po at O6 ⊢
        have a6 := A6.out
        have i6 := I6.out
        go_wp2_with fail
        refine (HM.out k k k _ _ _ s1 (by omega) s1 (by omega) s1 (by omega) SZ.out (size_tab k k R)).mono ?_
        rintro e w7 ⟨rfl, hb7⟩
        rw [ER.out]
        have A7 := Lib.hid (matAt_below (matAt_alloc A6.out _) hb7)
        have I7 := Lib.hid (matAt_below (matAt_alloc I6.out _) hb7)
        have O7 := Lib.hid (matAt_below (matAt_alloc O6.out _) hb7)
        have L7 := Lib.hid (matAt_below (matAt_new w6 (k : Int) (k : Int) ⟨(tabL k k GfU.one).toArray⟩ 23) hb7)
        have B7 : Hid (Below w.heap.size w w7) := (B6.out.alloc B6.out.size _).trans (hb7.mono (by have := B6.out.size; simp; omega))
        clear a6 i6 hb7 A6 I6 O6 B6
        generalize w6.heap.size = pl at L7 ⊢
        have i7 := I7.out
        go_wp2_with fail
        refine (HI.out k _ _ s1 (by omega) (size_tab k k R)).mono ?_
        rintro e w8 ⟨hres8, hb8⟩
        have A8 := Lib.hid (matAt_below (matAt_alloc A7.out _) hb8)
        have O8 := Lib.hid (matAt_below (matAt_alloc O7.out _) hb8)
        have L8 := Lib.hid (matAt_below (matAt_alloc L7.out _) hb8)
        have R8 := Lib.hid (matAt_below (matAt_new w7 (k : Int) (k : Int) ⟨(tabL k k GfU.one).toArray⟩ 23) hb8)
        have B8 : Hid (Below w.heap.size w w8) := (B7.out.alloc B7.out.size _).trans (hb8.mono (by have := B7.out.size; simp; omega))
        clear i7 hb8 A7 I7 O7 L7 B7
        generalize w7.heap.size = pr at R8 ⊢
        rcases hres8 with ⟨R2, rfl, _, hr2⟩ | ⟨rfl, hs8⟩
        · have EB : tabL k k R2 = tabL k k (cel sa k) := tab_congr k k fun i j hi hj => (GfU.inv_alike k (GfU.sq_trans (GfU.sq_mm (GfU.sq_refl k _) (fun i j hi hj => cel_tab k k R i j hi hj)) R2'.out) hr2 i j hi hj).symm
          rw [EB, tab_cel k k sa SZ.out]
          have a8 := A8.out
          have o8 := O8.out
          have l8 := L8.out
          have r8 := R8.out
          go_wp2_with fail
          go_ret
          exact ⟨rfl, B8.out.alloc B8.out.size _⟩
        · exact absurd (GfU.sing_no_inv hs8 (GfU.sq_trans (GfU.sq_mm (GfU.sq_refl k _) (fun i j hi hj => cel_tab k k R i j hi hj)) R2'.out)) (fun h => h)
  · by_cases hk : k = 1
    · have hk2 : (k : Int) ≤ 1 := by omega
      clear hk
      go_wp2_with fail
      go_ret
      exact ⟨rfl, B3.out.alloc B3.out.size _⟩
    · have hk2 : (1 : Int) < (k : Int) := by omega
      go_wp2_with fail
      have hsl1 : (k : Int) ≤ (sa.size : Int) := by rw [SZ.out]; have : k * 1 ≤ k * k := Nat.mul_le_mul_left k s1; omega
      have hsl2 : 2 * (k : Int) ≤ (sa.size : Int) := by rw [SZ.out]; have : k * 2 ≤ k * k := Nat.mul_le_mul_left k (by omega); omega
      have hsz : sa.size ≤ 65025 := by rw [SZ.out]; have : k * k ≤ 6 * 6 := Nat.mul_le_mul s2 s2; omega
      have hsl3 : IntKind.i64.wrap (2 * (k : Int)) = 2 * (k : Int) := i64_wrap (by omega) (by omega)
      have hsl4 : (0 : Int) ≤ (k : Int) := by omega
      have hsl5 : (k : Int) ≤ 2 * (k : Int) := by omega
      have hsl6 : (0 : Int) ≤ 2 * (k : Int) := by omega
      have hsl7 : (2 * (k : Int)).toNat = 2 * k := by omega
      have hsl8 : 2 * k ≤ sa.size := by omega
      have hsl9 : k ≤ sa.size := by omega
      have hadd : ∀ W, (Op.stringOp .add (sa.extract k sa.size) (sa.extract k (2 * k))).run Try.prog W = .ok (.string (sa.extract k sa.size ++ sa.extract k (2 * k))) W := fun W => run_string_add_sum W _ _ (by rw [ByteArray.size_extract, ByteArray.size_extract]; omega)
      have hadd2 : ((sa.extract k sa.size).size : Int) + ((sa.extract k (2 * k)).size : Int) ≤ 9223372036854775807 := by rw [ByteArray.size_extract, ByteArray.size_extract]; omega
      go_region_held3 (fun w' => w'.cell? ⟨pa, 0, none⟩ = some (.int .i64 (k : Int)) ∧ w'.cell? ⟨pa, 1, none⟩ = some (.int .i64 (k : Int)) ∧ w'.cell? ⟨pa, 2, none⟩ = some (.string sa) ∧ pa < w'.heap.size)
        (first | exact matAt_alloc (by assumption) _ | exact ⟨by go_keep, by go_keep, by go_keep, by simp; omega⟩ | go_keep)
        (fail)
      generalize hst : (sa.extract k sa.size ++ sa.extract k (2 * k)) = st
      have ST : Hid (st.size = k * k) := by show st.size = k * k; have z := SZ.out; rw [← hst, ByteArray.size_append, ByteArray.size_extract, ByteArray.size_extract]; omega
      have HST := Lib.hid hst
      clear hst hadd hadd2
      go_wp2_with fail
      refine (HI.out k st _ s1 (by omega) ST.out).mono ?_
      rintro e w4 ⟨hres4, hb4⟩
      have A4 := Lib.hid (matAt_below (matAt_drew (matAt_alloc (matAt_alloc MA (.cells #[.int .i64 0, .int .i64 0, .string ⟨#[]⟩] 23)) (.cells #[.int .i64 (k : Int), .int .i64 (k : Int), .string st] 23))) hb4)
      have I4 := Lib.hid (matAt_below (matAt_drew (matAt_alloc (matAt_new w3 0 0 ⟨#[]⟩ 23) (.cells #[.int .i64 (k : Int), .int .i64 (k : Int), .string st] 23))) hb4)
      have B4 : Hid (Below w.heap.size w w4) := (((B3.out.alloc B3.out.size _).alloc (by have := B3.out.size; simp; omega) _).drew).trans (hb4.mono (by have := B3.out.size; simp; omega))
      clear hb4 MA
      rcases hres4 with ⟨R', rfl, _, hbad⟩ | ⟨rfl, _⟩
      · exact absurd (alike_no_inv (by omega) hbad (fun j hj => by rw [← HST.out]; exact twice_alike k sa (by omega) SZ.out j hj)) (fun h => h)
      · have a4 := A4.out
        have i4 := I4.out
        go_wp2_with fail
        go_ret
        exact ⟨rfl, B4.out.alloc B4.out.size _⟩

end Go.Proofs.Ytlmcpnlnbjloaaa
