/- What gf's own functions do, one contract a function: New makes the tables, the others read them; no condition but the elements' range. -/
import Derived.Test.YtmnciipfepeccaaRows
import Derived.Test.YtmnciipfepeccaaGfMath
import Derived.WalkKit
import Derived.WalkSpells
import Derived.WalkLawsBesides
import Derived.Lib.Hide
import Derived.Deep.QuietTactic
import Derived.BigQuiet
namespace Go.Proofs.Ytmnciipfepeccaa
open Go.RowKit
open GfM (dbl pw lgA lg)

theorem i64_wrap {x : Int} (h0 : 0 ≤ x) (h1 : x < 9223372036854775808) : IntKind.i64.wrap x = x := by
  simp only [IntKind.wrap, IntKind.bits, IntKind.signed]; simp; omega

theorem ofInt_i64 (a : Nat) (ha : a < 9223372036854775808) : (BitVec.ofInt 64 (a : Int)).toNat = a := by
  rw [BitVec.ofInt_natCast, BitVec.toNat_ofNat]; exact Nat.mod_eq_of_lt (by omega)

theorem i64_xor_nat (a b : Nat) (ha : a < 9223372036854775808) (hb : b < 9223372036854775808) : bits .xor .i64 (a : Int) (b : Int) = ((a ^^^ b : Nat) : Int) := by
  have hx : a ^^^ b < 2 ^ 63 := Nat.xor_lt_two_pow (by omega) (by omega)
  show IntKind.i64.wrap ((BitVec.ofInt 64 (a : Int) ^^^ BitVec.ofInt 64 (b : Int)).toNat : Int) = _
  rw [BitVec.toNat_xor, ofInt_i64 a ha, ofInt_i64 b hb, i64_wrap (by omega) (by omega)]

theorem ret_int {k : IntKind} {a b : Int} (h : a = b) : Ending.returned (.int k a) = .returned (.int k b) := by rw [h]

set_option maxRecDepth 20000 in
set_option maxHeartbeats 400000 in
theorem double_any (x : Nat) (w : World) (h1 : x ≤ 255) :
    Calls Try.prog 59 #[.int .i64 (x : Int)] w fun e w' => e = .returned (.int .i64 ((dbl x : Nat) : Int)) ∧ w = w' := by
  by_cases h : 255 < 2 * x
  · have e : bits .xor .i64 ((x : Int) * 2) 285 = ((dbl x : Nat) : Int) := by
      have := i64_xor_nat (x * 2) 285 (by omega) (by omega)
      rw [Int.natCast_mul] at this
      unfold dbl; rw [if_pos h, Nat.mul_comm 2 x]; exact this
    have h' : 255 < (x : Int) * 2 := by omega
    go_enter Try.func59, Try.ntmps59
    go_wp2
    go_ret
    exact ⟨rfl, rfl⟩
  · have e : ((dbl x : Nat) : Int) = (x : Int) * 2 := by unfold dbl; rw [if_neg h]; omega
    have h' : (x : Int) * 2 ≤ 255 := by omega
    go_enter Try.func59, Try.ntmps59
    go_wp2
    go_ret
    exact ⟨ret_int e.symm, rfl⟩

/-- the cells of the field when k powers stand in it -/
def Zf : Array Value := Array.replicate 766 (.int .u8 0)

def Cf : Nat → Array Value
  | 0 => Zf
  | k + 1 => (((Cf k).setIfInBounds k (.int .u8 (pw k : Nat))).setIfInBounds (k + 255) (.int .u8 (pw k : Nat))).setIfInBounds (510 + pw k) (.int .u8 (k : Nat))

theorem Cf_size (k : Nat) : (Cf k).size = 766 := by
  induction k with
  | zero => simp [Cf, Zf]
  | succ k ih => simp [Cf, ih]

theorem Cf_at (k : Nat) (hk : k ≤ 255) : (∀ i, i < k → (Cf k)[i]? = some (.int .u8 (pw i : Nat)) ∧ (Cf k)[i + 255]? = some (.int .u8 (pw i : Nat)))
    ∧ ∀ i, i < 256 → (Cf k)[510 + i]? = some (.int .u8 (lgA k i : Nat)) := by
  induction k with
  | zero =>
    refine ⟨fun i h => by omega, fun i h => ?_⟩
    simp only [Cf, Zf, Array.getElem?_replicate, lgA]
    rw [if_pos (by omega)]; rfl
  | succ k ih =>
    obtain ⟨h1, h2⟩ := ih (by omega)
    have hr := GfM.pw_rng k
    have hs := Cf_size k
    refine ⟨fun i h => ⟨?_, ?_⟩, fun i h => ?_⟩
    · simp only [Cf, Array.getElem?_setIfInBounds, Array.size_setIfInBounds, hs]
      rw [if_neg (by omega), if_neg (by omega)]
      by_cases e : k = i
      · subst e; rw [if_pos rfl, if_pos (by omega)]
      · rw [if_neg e]; exact (h1 i (by omega)).1
    · simp only [Cf, Array.getElem?_setIfInBounds, Array.size_setIfInBounds, hs]
      rw [if_neg (by omega)]
      by_cases e : k = i
      · subst e; rw [if_pos rfl, if_pos (by omega)]
      · rw [if_neg (by omega), if_neg (by omega)]; exact (h1 i (by omega)).2
    · simp only [Cf, Array.getElem?_setIfInBounds, Array.size_setIfInBounds, hs]
      unfold lgA
      by_cases e : i = pw k
      · subst e; rw [if_pos rfl, if_pos (by omega), if_pos rfl]
      · rw [if_neg (by omega), if_neg (by omega), if_neg (by omega), if_neg e]; exact h2 i h

theorem run_zero (w : World) : (zeroValue 85).run Try.prog w = .ok (.agg Zf) w := by kernel_rfl

set_option maxRecDepth 20000 in
set_option maxHeartbeats 400000 in
theorem new_any (w : World) :
    Calls Try.prog 37 #[] w fun e w' => e = .returned (.pointer (some ⟨w.heap.size, 0, none⟩)) ∧ w' = w.alloc (.cells (Cf 255) 85) := by
  have hb := run_zero
  go_enter Try.func37, Try.ntmps37
  go_wp2
  go_loopw [2, 6] (fun x i wr => ∃ k : Nat, k ≤ 255 ∧ i = .int .i64 k ∧ x = .int .i64 ((pw k : Nat) : Int) ∧ wr = w.alloc (.cells (Cf k) 85)) (fun _ i _ => 255 - (intOf i).toNat)
  case atStart => exact ⟨0, by omega, rfl, rfl, rfl⟩
  case round =>
    obtain ⟨k, hk, rfl, rfl, rfl⟩ := hrel
    have hr1 := (GfM.pw_rng k).1
    have hr2 := (GfM.pw_rng k).2
    have hs := Cf_size k
    by_cases hlt : k < 255
    · obtain ⟨v1, q1⟩ : ∃ v, (Cf k)[k]? = some v := ⟨_, Array.getElem?_eq_getElem (by omega)⟩
      obtain ⟨v2, q2⟩ : ∃ v, (Cf k)[k + 255]? = some v := ⟨_, Array.getElem?_eq_getElem (by omega)⟩
      obtain ⟨v3, q3⟩ : ∃ v, (((Cf k).setIfInBounds k (.int .u8 (pw k : Nat))).setIfInBounds (k + 255) (.int .u8 (pw k : Nat)))[510 + pw k]? = some v := ⟨_, Array.getElem?_eq_getElem (by simp; omega)⟩
      go_wp2_with (go_at_call 59; refine (double_any _ _ (by omega)).mono ?_; rintro e w' ⟨rfl, rfl⟩)
      go_roundw
      case rel => exact ⟨k + 1, by omega, by go_num, rfl, rfl⟩
      case measure => simp [intOf]; omega
    · obtain rfl : k = 255 := by omega
      go_wp2
      go_ret
      exact ⟨rfl, rfl⟩

/-- the field's tables in block B -/
def FieldAt (w : World) (B : Nat) : Prop :=
  (∀ i, i < 510 → w.cell? ⟨B, i, none⟩ = some (.int .u8 ((pw i : Nat) : Int))) ∧ ∀ i, i < 256 → w.cell? ⟨B, 510 + i, none⟩ = some (.int .u8 ((lg i : Nat) : Int))

theorem FieldAt.drewN {w : World} {B : Nat} (h : FieldAt w B) (n : Nat) : FieldAt (w.drewN n) B := h

theorem FieldAt.new (w : World) : FieldAt (w.alloc (.cells (Cf 255) 85)) w.heap.size := by
  obtain ⟨h1, h2⟩ := Cf_at 255 (by omega)
  constructor
  · intro i hi
    rw [World.cell?_alloc_new]
    by_cases e : i < 255
    · exact (h1 i e).1
    · have := (h1 (i - 255) (by omega)).2
      rw [show i - 255 + 255 = i from by omega] at this
      rw [this, ← GfM.pw_per (i - 255), show i - 255 + 255 = i from by omega]
  · intro i hi
    rw [World.cell?_alloc_new]
    exact h2 i hi

set_option maxRecDepth 20000 in
set_option maxHeartbeats 400000 in
theorem log_in (B a : Nat) (w : World) (hF : FieldAt w B) (ha : a ≤ 255) :
    Calls Try.prog 72 #[.pointer (some ⟨B, 0, none⟩), .int .u8 (a : Int)] w fun e w' => e = .returned (.int .i64 ((lg a : Nat) : Int)) ∧ w' = w := by
  have hc := hF.2 a (by omega)
  have hl := GfM.lg_le a
  clear hF
  go_enter Try.func72, Try.ntmps72
  go_wp2
  go_ret
  exact ⟨rfl, rfl⟩

set_option maxRecDepth 20000 in
set_option maxHeartbeats 400000 in
theorem mul_zero_in (B a b : Nat) (w : World) (ha : a ≤ 255) (hb : b ≤ 255) (h0 : a = 0 ∨ b = 0) :
    Calls Try.prog 62 #[.pointer (some ⟨B, 0, none⟩), .int .u8 (a : Int), .int .u8 (b : Int)] w fun e w' => e = .returned (.int .u8 0) ∧ w = w' := by
  by_cases h1 : a = 0
  · subst h1
    go_enter Try.func62, Try.ntmps62
    go_wp2
    go_ret
    exact ⟨rfl, rfl⟩
  · obtain rfl : b = 0 := by omega
    clear h0
    go_enter Try.func62, Try.ntmps62
    go_wp2
    go_ret
    exact ⟨rfl, rfl⟩

set_option maxRecDepth 20000 in
set_option maxHeartbeats 400000 in
theorem mul_pos_in (B a b : Nat) (w : World) (hF : FieldAt w B) (ha : a ≤ 255) (hb : b ≤ 255) (ha0 : a ≠ 0) (hb0 : b ≠ 0) :
    Calls Try.prog 62 #[.pointer (some ⟨B, 0, none⟩), .int .u8 (a : Int), .int .u8 (b : Int)] w fun e w' => e = .returned (.int .u8 ((pw (lg a + lg b) : Nat) : Int)) ∧ ∃ n, w' = w.drewN n := by
  have hla := GfM.lg_le a
  have hlb := GfM.lg_le b
  have hc := hF.1 (lg a + lg b) (by omega)
  have H := Lib.hid hF
  clear hF
  have k1 : ((a : Int) == 0) = false := by simp; omega
  have k2 : ((b : Int) == 0) = false := by simp; omega
  have s1 : IntKind.i64.wrap ((lg a : Int) + (lg b : Int)) = (lg a : Int) + (lg b : Int) := i64_wrap (by omega) (by omega)
  have s2 : (0 : Int) ≤ (lg a : Int) + (lg b : Int) := by omega
  have s3 : ((lg a : Int) + (lg b : Int)).toNat = lg a + lg b := by omega
  have s4 : (lg a : Int) + (lg b : Int) < 510 := by omega
  go_enter Try.func62, Try.ntmps62
  go_wp2_with fail
  go_quiet ((go_at_call 72; exact Calls.quiet_of_same (log_in _ _ _ (H.out.drewN _) (by omega))))
  go_wp2
  go_ret
  exact ⟨rfl, _, rfl⟩

theorem mul_any (B a b : Nat) (w : World) (hF : FieldAt w B) (ha : a ≤ 255) (hb : b ≤ 255) :
    Calls Try.prog 62 #[.pointer (some ⟨B, 0, none⟩), .int .u8 (a : Int), .int .u8 (b : Int)] w fun e w' => e = .returned (.int .u8 ((GfM.mul a b : Nat) : Int)) ∧ ∃ n, w' = w.drewN n := by
  by_cases h0 : a = 0 ∨ b = 0
  · refine (mul_zero_in B a b w ha hb h0).mono ?_
    rintro e w' ⟨rfl, rfl⟩
    refine ⟨ret_int ?_, 0, rfl⟩
    rw [(GfM.mul_eq_zero a b).2 h0]; rfl
  · have ha0 : a ≠ 0 := fun e => h0 (Or.inl e)
    have hb0 : b ≠ 0 := fun e => h0 (Or.inr e)
    refine (mul_pos_in B a b w hF ha hb ha0 hb0).mono ?_
    rintro e w' ⟨rfl, h⟩
    exact ⟨ret_int (by rw [GfM.mul_pos ha0 hb0]), h⟩

theorem mul_at (B : Nat) (a' b' : Int) (a b : Nat) (w : World) (hF : FieldAt w B) (ea : a' = (a : Int)) (eb : b' = (b : Int)) (ha : a ≤ 255) (hb : b ≤ 255) :
    Calls Try.prog 62 #[.pointer (some ⟨B, 0, none⟩), .int .u8 a', .int .u8 b'] w fun e w' => e = .returned (.int .u8 ((GfM.mul a b : Nat) : Int)) ∧ ∃ n, w' = w.drewN n := by
  subst ea eb; exact mul_any B a b w hF ha hb

theorem ret_pair {k l : IntKind} {a b c d : Int} (h : a = c) (h' : b = d) : Ending.returned (.tuple #[.int k a, .int l b]) = .returned (.tuple #[.int k c, .int l d]) := by rw [h, h']

set_option maxRecDepth 20000 in
set_option maxHeartbeats 400000 in
theorem div_pos_in (B a b : Nat) (w : World) (hF : FieldAt w B) (ha : a ≤ 255) (hb : b ≤ 255) (ha0 : a ≠ 0) (hb0 : b ≠ 0) :
    Calls Try.prog 71 #[.pointer (some ⟨B, 0, none⟩), .int .u8 (a : Int), .int .u8 (b : Int)] w fun e w' => e = .returned (.tuple #[.int .u8 ((pw (lg a + 255 - lg b) : Nat) : Int), .int .i64 0]) ∧ ∃ n, w' = w.drewN n := by
  have hla := GfM.lg_le a
  have hlb := GfM.lg_le b
  have hc := hF.1 (lg a + 255 - lg b) (by omega)
  have H := Lib.hid hF
  clear hF
  have k1 : ((a : Int) == 0) = false := by simp; omega
  have k2 : ((b : Int) == 0) = false := by simp; omega
  have s0 : IntKind.i64.wrap ((lg a : Int) + 255) = (lg a : Int) + 255 := i64_wrap (by omega) (by omega)
  have s1 : IntKind.i64.wrap ((lg a : Int) + 255 - (lg b : Int)) = (lg a : Int) + 255 - (lg b : Int) := i64_wrap (by omega) (by omega)
  have s2 : (0 : Int) ≤ (lg a : Int) + 255 - (lg b : Int) := by omega
  have s3 : ((lg a : Int) + 255 - (lg b : Int)).toNat = lg a + 255 - lg b := by omega
  have s4 : (lg a : Int) + 255 - (lg b : Int) < 510 := by omega
  go_enter Try.func71, Try.ntmps71
  go_wp2_with fail
  go_quiet ((go_at_call 72; exact Calls.quiet_of_same (log_in _ _ _ (H.out.drewN _) (by omega))))
  go_wp2
  go_ret2
  exact ⟨rfl, _, rfl⟩

set_option maxHeartbeats 400000 in
theorem div_zero_in (B a : Nat) (w : World) (b : Nat) (hb0 : b ≠ 0) (ha : a = 0) :
    Calls Try.prog 71 #[.pointer (some ⟨B, 0, none⟩), .int .u8 (a : Int), .int .u8 (b : Int)] w fun e w' => e = .returned (.tuple #[.int .u8 0, .int .i64 0]) ∧ w = w' := by
  subst ha
  go_enter Try.func71, Try.ntmps71
  go_wp2
  go_ret2
  exact ⟨rfl, rfl⟩

set_option maxHeartbeats 400000 in
theorem div_by_zero_in (B : Nat) (a : Int) (w : World) :
    Calls Try.prog 71 #[.pointer (some ⟨B, 0, none⟩), .int .u8 a, .int .u8 0] w fun e w' => e = .returned (.tuple #[.int .u8 0, .int .i64 1]) ∧ w = w' := by
  go_enter Try.func71, Try.ntmps71
  go_wp2
  go_ret2
  exact ⟨rfl, rfl⟩

theorem div_at (B : Nat) (a' b' : Int) (a b : Nat) (w : World) (hF : FieldAt w B) (ea : a' = (a : Int)) (eb : b' = (b : Int)) (ha : a ≤ 255) (hb : b ≤ 255) :
    Calls Try.prog 71 #[.pointer (some ⟨B, 0, none⟩), .int .u8 a', .int .u8 b'] w fun e w' =>
      e = .returned (.tuple #[.int .u8 ((GfM.divv a b : Nat) : Int), .int .i64 ((GfM.dive b : Nat) : Int)]) ∧ ∃ n, w' = w.drewN n := by
  subst ea eb
  by_cases hb0 : b = 0
  · subst hb0
    refine (div_by_zero_in B a w).mono ?_
    rintro e w' ⟨rfl, rfl⟩
    exact ⟨ret_pair (by simp [GfM.divv]) rfl, 0, rfl⟩
  by_cases ha0 : a = 0
  · refine (div_zero_in B a w b hb0 ha0).mono ?_
    rintro e w' ⟨rfl, rfl⟩
    exact ⟨ret_pair (by simp [GfM.divv, ha0]) (by simp [GfM.dive, hb0]), 0, rfl⟩
  · refine (div_pos_in B a b w hF ha hb ha0 hb0).mono ?_
    rintro e w' ⟨rfl, h⟩
    exact ⟨ret_pair (by unfold GfM.divv; rw [if_neg (fun h => h.elim ha0 hb0)]) (by simp [GfM.dive, hb0]), h⟩

set_option maxHeartbeats 400000 in
theorem inv_at (B : Nat) (a' : Int) (a : Nat) (w : World) (hF : FieldAt w B) (ea : a' = (a : Int)) (ha : a ≤ 255) :
    Calls Try.prog 58 #[.pointer (some ⟨B, 0, none⟩), .int .u8 a'] w fun e w' =>
      e = .returned (.tuple #[.int .u8 ((GfM.divv 1 a : Nat) : Int), .int .i64 ((GfM.dive a : Nat) : Int)]) ∧ ∃ n, w' = w.drewN n := by
  subst ea
  have H := Lib.hid hF
  clear hF
  go_enter Try.func58, Try.ntmps58
  go_wp2_with (go_at_call 71; refine (div_at _ _ _ 1 a _ H.out rfl rfl (by omega) ha).mono ?_; rintro e w' ⟨rfl, n, rfl⟩)
  go_ret2
  exact ⟨rfl, _, rfl⟩

set_option maxHeartbeats 400000 in
theorem add_at (a' b' : Int) (a b : Nat) (w : World) (ea : a' = (a : Int)) (eb : b' = (b : Int)) (ha : a ≤ 255) (hb : b ≤ 255) :
    Calls Try.prog 61 #[.int .u8 a', .int .u8 b'] w fun e w' => e = .returned (.int .u8 ((a ^^^ b : Nat) : Int)) ∧ w = w' := by
  subst ea eb
  have e : bits .xor .u8 (a : Int) (b : Int) = ((a ^^^ b : Nat) : Int) := u8_xor_nat a b (by omega) (by omega)
  go_enter Try.func61, Try.ntmps61
  go_wp2
  go_ret
  exact ⟨rfl, rfl⟩

end Go.Proofs.Ytmnciipfepeccaa
