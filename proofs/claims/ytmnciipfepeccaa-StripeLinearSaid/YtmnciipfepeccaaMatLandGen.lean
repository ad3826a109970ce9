/- What the landed package matrix makes out of two numbers: identities and generators; no condition but the range. -/
import Derived.Test.YtmnciipfepeccaaMatLand
import Derived.Test.YtmnciipfepeccaaMatGens
namespace Go.Proofs.Ytmnciipfepeccaa
open Go.RowKit

theorem blk4 (w : World) (A B C D : Obj) : ((((w.alloc A).alloc B).alloc C).alloc D).heap.size = w.heap.size + 1 + 1 + 1 + 1 ∧ ((((w.alloc A).alloc B).alloc C).alloc D).heap[w.heap.size]? = some A ∧
    ((((w.alloc A).alloc B).alloc C).alloc D).heap[w.heap.size + 1]? = some B ∧ ((((w.alloc A).alloc B).alloc C).alloc D).heap[w.heap.size + 1 + 1]? = some C ∧ ((((w.alloc A).alloc B).alloc C).alloc D).heap[w.heap.size + 1 + 1 + 1]? = some D := by
  obtain ⟨s1, b1, b2, b3⟩ := blk3 w A B C
  obtain ⟨s2, b4⟩ := blk1 (((w.alloc A).alloc B).alloc C) D
  refine ⟨by omega, ?_, ?_, ?_, by rw [s1] at b4; exact b4⟩
  · rw [heap_alloc_old _ _ (by omega)]; exact b1
  · rw [heap_alloc_old _ _ (by omega)]; exact b2
  · rw [heap_alloc_old _ _ (by omega)]; exact b3

theorem fieldAt_blk {w : World} {B : Nat} (h : w.heap[B]? = some (.cells (Cf 255) 85 (0, 0))) : FieldAt w B := by
  obtain ⟨h1, h2⟩ := Cf_at 255 (by omega)
  constructor
  · intro i hi
    refine blk_cell h ?_
    by_cases e : i < 255
    · exact (h1 i e).1
    · have := (h1 (i - 255) (by omega)).2
      rw [show i - 255 + 255 = i from by omega] at this
      rw [this, ← GfM.pw_per (i - 255), show i - 255 + 255 = i from by omega]
  · intro i hi
    exact blk_cell h (h2 i hi)

theorem Try.eg30 : ∀ args w, (callFunc 44 args).run Try.prog w = .ok (.enter 44 args) w := enters_of Try.func44 (by kernel_rfl) rfl

theorem Try.eg46 : ∀ args w, (callFunc 57 args).run Try.prog w = .ok (.enter 57 args) w := enters_of Try.func57 (by kernel_rfl) rfl

theorem unit_gives (W : World) (n : Nat) (hn : n ≤ 255) : Gives2 44 #[] #[] W n n GfU.one := by
  intro i j w hi hj _
  exact (unit_any i j w (by omega) (by omega)).mono fun e w' ⟨h1, h2⟩ => ⟨h1, by rw [h2]; exact Below.refl _ _⟩

set_option maxRecDepth 20000 in
set_option maxHeartbeats 1000000 in
theorem ident_yes : IdYes := by
  intro n w h1 h2
  have hd : decide (1 ≤ (n : Int) ∧ (n : Int) ≤ 255) = true := by simp; omega
  have HD := Lib.hid hd
  clear hd
  go_enter Try.func16, Try.ntmps16
  go_wp2_with fail
  refine (isSide_v _ true _ HD.out).mono ?_
  rintro e w1 ⟨rfl, rfl⟩
  go_wp2_with fail
  refine (fill_any _ _ _ n n GfU.one _ h1 h2 h1 h2 Try.eg30 (unit_gives _ n h2)).mono ?_
  rintro e w1 ⟨rfl, hb⟩
  have HB := Lib.hid hb
  obtain ⟨hc, hf⟩ := bcell hb
  clear hb
  go_wp2_with fail
  exact bodyPost_ret (v := .tuple #[.agg #[.int .i64 (n : Int), .int .i64 (n : Int), .string ⟨(tabL n n GfU.one).toArray⟩], .int .i64 0]) (by simp [results, Try.results16, go_sem, hc]) rfl
    ⟨rfl, below_agg3 (below_new HB.out) (Nat.le_refl _) _ _ _⟩

set_option maxRecDepth 20000 in
set_option maxHeartbeats 1000000 in
theorem ident_no (n : Int) (w : World) (h : n < 1 ∨ 255 < n) :
    Calls Try.prog 16 #[.int .i64 n] w fun e w' => e = .returned (.tuple #[.agg #[.int .i64 0, .int .i64 0, .string ⟨#[]⟩], .int .i64 1]) ∧ Below w.heap.size w w' := by
  have hd : decide (1 ≤ (n : Int) ∧ (n : Int) ≤ 255) = false := by simp; omega
  have HD := Lib.hid hd
  clear hd h
  go_enter Try.func16, Try.ntmps16
  go_wp2_with fail
  refine (isSide_v _ false _ HD.out).mono ?_
  rintro e w1 ⟨rfl, rfl⟩
  go_wp2_with fail
  exact bodyPost_ret (v := .tuple #[.agg #[.int .i64 0, .int .i64 0, .string ⟨#[]⟩], .int .i64 1]) (by simp [results, Try.results16, go_sem]) rfl
    ⟨rfl, by first | exact (Below.refl _ w).alloc (Nat.le_refl _) _ | exact below_agg3 ((Below.refl _ w).alloc (Nat.le_refl _) _) (Nat.le_refl _) _ _ _⟩

set_option maxRecDepth 20000 in
set_option maxHeartbeats 1000000 in
theorem gen_cell (k B fb kb i j : Nat) (w : World) (hk : k ≤ 255) (hi : i ≤ 255) (hj : j < k) (hF : FieldAt w B) (hfb : w.cell? ⟨fb, 0, none⟩ = some (.pointer (some ⟨B, 0, none⟩))) (hkb : w.cell? ⟨kb, 0, none⟩ = some (.int .i64 (k : Int))) :
    Calls Try.prog 57 #[.int .i64 (i : Int), .int .i64 (j : Int), .pointer (some ⟨kb, 0, none⟩), .pointer (some ⟨fb, 0, none⟩)] w fun e w' => e = .returned (.int .u8 ((GfU.gen k i j).toNat : Int)) ∧ ∃ q, w' = w.drewN q := by
  have HF := Lib.hid hF
  clear hF
  by_cases hlt : i < k
  · have E : Hid (GfU.gen k i j = GfU.one i j) := if_pos hlt
    go_enter Try.func57, Try.ntmps57
    go_wp2_with fail
    refine (unit_any i j _ (by omega) (by omega)).mono ?_
    rintro e w1 ⟨rfl, rfl⟩
    go_wp2_with fail
    go_ret
    exact ⟨by rw [E.out]; rfl, 0, rfl⟩
  · have hx : i ^^^ j < 256 := Nat.xor_lt_two_pow (n := 8) (by omega) (by omega)
    have s2 : bits .xor .i64 (i : Int) (j : Int) = ((i ^^^ j : Nat) : Int) := i64_xor_nat _ _ (by omega) (by omega)
    have E : Hid (((GfM.divv 1 (i ^^^ j) : Nat) : Int) = ((GfU.gen k i j).toNat : Int)) := by
      obtain ⟨n, rfl⟩ : ∃ n, i = k + n := ⟨i - k, by omega⟩
      exact gen_low k n j (by omega) (by omega)
    have HX := Lib.hid hx
    go_enter Try.func57, Try.ntmps57
    go_wp2_with fail
    refine (inv_at B _ (i ^^^ j) _ HF.out ?e1 (by have := HX.out; omega)).mono ?_
    case e1 => first | rfl | (have := HX.out; simp [IntKind.wrap, IntKind.bits, IntKind.signed]; omega)
    rintro e w1 ⟨rfl, q, rfl⟩
    rw [E.out]
    go_wp2_with fail
    go_ret
    exact ⟨rfl, q, rfl⟩

set_option maxRecDepth 20000 in
set_option maxHeartbeats 1000000 in
theorem gen_yes (k m : Nat) (w : World) (h1 : 1 ≤ k) (h2 : k + m ≤ 255) :
    Calls Try.prog 35 #[.int .i64 (k : Int), .int .i64 (m : Int)] w fun e w' =>
      e = .returned (.tuple #[.agg #[.int .i64 ((k : Int) + (m : Int)), .int .i64 (k : Int), .string ⟨(tabL (k + m) k (GfU.gen k)).toArray⟩], .int .i64 0]) ∧ Below w.heap.size w w' := by
  have h3 : k ≤ 255 := by omega
  have t1 : IntKind.i64.wrap (255 - (k : Int)) = 255 - (k : Int) := i64_wrap (by omega) (by omega)
  have t2 : (m : Int) ≤ 255 - (k : Int) := by omega
  have hd : decide (1 ≤ (k : Int) ∧ (k : Int) ≤ 255) = true := by simp; omega
  have HD := Lib.hid hd
  clear hd
  go_enter Try.func35, Try.ntmps35
  go_wp2_with fail
  refine (isSide_v _ true _ HD.out).mono ?_
  rintro e w1 ⟨rfl, rfl⟩
  go_wp2_with fail
  refine (new_any _).mono ?_
  rintro e w1 ⟨rfl, rfl⟩
  go_wp2_with fail
  obtain ⟨s0, b0, b1, b2, b3⟩ := blk4 w (.cells #[.int .i64 (k : Int)] 3) (.cells #[.int .i64 0, .int .i64 0, .string ⟨#[]⟩] 26) (.cells (Cf 255) 85) (.cells #[.pointer (some ⟨w.heap.size + 1 + 1, 0, none⟩)] 64)
  have HBW : Hid (Below w.heap.size w ((((w.alloc (.cells #[.int .i64 (k : Int)] 3)).alloc (.cells #[.int .i64 0, .int .i64 0, .string ⟨#[]⟩] 26)).alloc (.cells (Cf 255) 85)).alloc (.cells #[.pointer (some ⟨w.heap.size + 1 + 1, 0, none⟩)] 64))) :=
    ((((Below.refl _ w).alloc (Nat.le_refl _) _).alloc (by simp) _).alloc (by simp; omega) _).alloc (by simp; omega) _
  generalize ((((w.alloc (.cells #[.int .i64 (k : Int)] 3)).alloc (.cells #[.int .i64 0, .int .i64 0, .string ⟨#[]⟩] 26)).alloc (.cells (Cf 255) 85)).alloc (.cells #[.pointer (some ⟨w.heap.size + 1 + 1, 0, none⟩)] 64)) = w0 at s0 b0 b1 b2 b3 HBW ⊢
  have hF : FieldAt w0 (w.heap.size + 1 + 1) := fieldAt_blk b2
  have hg : Gives2 57 #[] #[.pointer (some ⟨w.heap.size, 0, none⟩), .pointer (some ⟨w.heap.size + 1 + 1 + 1, 0, none⟩)] w0 (k + m) k (GfU.gen k) := by
    intro i j W hi hj hb
    refine Calls.mono (gen_cell k (w.heap.size + 1 + 1) (w.heap.size + 1 + 1 + 1) w.heap.size i j W h3 (by omega) hj (hF.below hb (by omega)) ((hb.cell (p := ⟨w.heap.size + 1 + 1 + 1, 0, none⟩) (by show w.heap.size + 1 + 1 + 1 < _; omega)).trans (blk_cell b3 rfl)) ((hb.cell (p := ⟨w.heap.size, 0, none⟩) (by show w.heap.size < _; omega)).trans (blk_cell b0 rfl))) ?_
    rintro e w' ⟨h1, q, rfl⟩
    exact ⟨h1, below_drewN (Below.refl _ _) q⟩
  have c0 := blk_cell (j := 0) b1 rfl
  have c1 := blk_cell (j := 1) b1 rfl
  have c2 := blk_cell (j := 2) b1 rfl
  have cf := blk_free b1
  refine Calls.mono (fill_any _ _ _ (k + m) k (GfU.gen k) w0 (by omega) h2 h1 h3 Try.eg46 hg) ?_
  rintro e w1 ⟨rfl, hb⟩
  have HB := Lib.hid hb
  have d0 : w1.cell? ⟨w.heap.size + 1, 0, none⟩ = some (.int .i64 0) := (hb.cell (p := ⟨w.heap.size + 1, 0, none⟩) (by show w.heap.size + 1 < _; omega)).trans c0
  have d1 : w1.cell? ⟨w.heap.size + 1, 1, none⟩ = some (.int .i64 0) := (hb.cell (p := ⟨w.heap.size + 1, 1, none⟩) (by show w.heap.size + 1 < _; omega)).trans c1
  have d2 : w1.cell? ⟨w.heap.size + 1, 2, none⟩ = some (.string ⟨#[]⟩) := (hb.cell (p := ⟨w.heap.size + 1, 2, none⟩) (by show w.heap.size + 1 < _; omega)).trans c2
  have df : ∀ o, w1.frozen? ⟨w.heap.size + 1, o, none⟩ = false := fun o => (hb.frozen (p := ⟨w.heap.size + 1, o, none⟩) (by show w.heap.size + 1 < _; omega)).trans (cf o)
  have S0 := Lib.hid s0
  clear hb hg hF b0 b1 b2 b3 c0 c1 c2 cf s0
  go_wp2_with fail
  exact bodyPost_ret (v := .tuple #[.agg #[.int .i64 ((k : Int) + (m : Int)), .int .i64 (k : Int), .string ⟨(tabL (k + m) k (GfU.gen k)).toArray⟩], .int .i64 0]) (by simp [results, Try.results35, go_sem, d0, d1, d2]) rfl
    ⟨rfl, below_agg3 (HBW.out.trans (HB.out.mono (by have := S0.out; omega))) (by omega) _ _ _⟩

set_option maxRecDepth 20000 in
set_option maxHeartbeats 1000000 in
theorem gen_no (k m : Int) (w : World) (h : k < 1 ∨ 255 < k ∨ m < 0 ∨ 255 - k < m) :
    Calls Try.prog 35 #[.int .i64 k, .int .i64 m] w fun e w' =>
      e = .returned (.tuple #[.agg #[.int .i64 0, .int .i64 0, .string ⟨#[]⟩], .int .i64 1]) ∧ Below w.heap.size w w' := by
  have hm : ∀ w : World, Below w.heap.size w ((w.alloc (.cells #[.int .i64 k] 3)).alloc (.cells #[.int .i64 0, .int .i64 0, .string ⟨#[]⟩] 26)) := fun w => ((Below.refl _ w).alloc (Nat.le_refl _) _).alloc (by simp) _
  have HM := Lib.hid hm
  clear hm
  by_cases a1 : 1 ≤ k ∧ k ≤ 255
  · obtain ⟨a2, a3⟩ := a1
    have HD : Hid (decide (1 ≤ k ∧ k ≤ 255) = true) := by show _ = _; simp; omega
    have t1 : IntKind.i64.wrap (255 - k) = 255 - k := i64_wrap (by omega) (by omega)
    by_cases a4 : m < 0
    · clear h
      go_enter Try.func35, Try.ntmps35
      go_wp2_with fail
      refine (isSide_v _ true _ HD.out).mono ?_
      rintro e w1 ⟨rfl, rfl⟩
      go_wp2_with fail
      exact bodyPost_ret (v := .tuple #[.agg #[.int .i64 0, .int .i64 0, .string ⟨#[]⟩], .int .i64 1]) (by simp [results, Try.results35, go_sem]) rfl
        ⟨rfl, by first | exact HM.out _ | exact below_agg3 (HM.out _) (by simp) _ _ _⟩
    · have a5 : 255 - k < m := by omega
      clear h
      go_enter Try.func35, Try.ntmps35
      go_wp2_with fail
      refine (isSide_v _ true _ HD.out).mono ?_
      rintro e w1 ⟨rfl, rfl⟩
      go_wp2_with fail
      exact bodyPost_ret (v := .tuple #[.agg #[.int .i64 0, .int .i64 0, .string ⟨#[]⟩], .int .i64 1]) (by simp [results, Try.results35, go_sem]) rfl
        ⟨rfl, by first | exact HM.out _ | exact below_agg3 (HM.out _) (by simp) _ _ _⟩
  · have HD : Hid (decide (1 ≤ k ∧ k ≤ 255) = false) := by show _ = _; simpa using a1
    clear h a1
    go_enter Try.func35, Try.ntmps35
    go_wp2_with fail
    refine (isSide_v _ false _ HD.out).mono ?_
    rintro e w1 ⟨rfl, rfl⟩
    go_wp2_with fail
    exact bodyPost_ret (v := .tuple #[.agg #[.int .i64 0, .int .i64 0, .string ⟨#[]⟩], .int .i64 1]) (by simp [results, Try.results35, go_sem]) rfl
      ⟨rfl, by first | exact HM.out _ | exact below_agg3 (HM.out _) (by simp) _ _ _⟩

theorem gen_all : GenAll := by
  intro k m w
  by_cases h : 1 ≤ k ∧ k ≤ 255 ∧ 0 ≤ m ∧ m ≤ 255 - k
  · obtain ⟨K, rfl⟩ := Int.eq_ofNat_of_zero_le (a := k) (by omega)
    obtain ⟨M, rfl⟩ := Int.eq_ofNat_of_zero_le (a := m) (by omega)
    unfold genAns
    rw [if_pos h]
    exact gen_yes K M w (by omega) (by omega)
  · unfold genAns
    rw [if_neg h]
    exact gen_no k m w (by omega)

theorem gen_example : GenExample := by
  intro w
  have h := gen_yes 2 1 w (by omega) (by omega)
  have e : (tabL (2 + 1) 2 (GfU.gen 2)).toArray = #[1, 0, 0, 1, 142, 244] := by decide +kernel
  rw [e] at h
  exact h


end Go.Proofs.Ytmnciipfepeccaa
