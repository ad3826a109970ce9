/- What the document's own answers for gf do, one contract a function: products bit by bit, inverses, quotients, powers and logs; no condition but the elements' range. -/
import Derived.Test.YtmnciipfepeccaaGfWalks
namespace Go.Proofs.Ytmnciipfepeccaa
open Go.RowKit
open GfM (dbl pw lgA lg)

theorem dbl_xor (x : Nat) (hx : x ≤ 255) (h : 255 < 2 * x) : bits .xor .i64 ((x : Int) * 2) 285 = ((dbl x : Nat) : Int) := by
  have := i64_xor_nat (x * 2) 285 (by omega) (by omega)
  rw [Int.natCast_mul] at this
  unfold dbl; rw [if_pos h, Nat.mul_comm 2 x]; exact this

theorem dbl_le (x : Nat) (hx : x ≤ 255) : dbl x ≤ 255 := by
  rw [← GfM.mul_two hx]; exact GfM.mul_le _ _

set_option maxRecDepth 20000 in
set_option maxHeartbeats 1000000 in
theorem rmul_any (a b : Nat) (w : World) (ha : a ≤ 255) (hb : b ≤ 255) :
    Calls Try.prog 73 #[.int .u8 (a : Int), .int .u8 (b : Int)] w fun e w' => e = .returned (.int .u8 ((GfM.mul a b : Nat) : Int)) ∧ w = w' := by
  have E := Lib.hid (GfM.mul_bits ha hb)
  go_enter Try.func73, Try.ntmps73
  go_wp2
  go_loop [5, 6, 7, 8] (fun xs ys os i => ∃ k x y o : Nat, k ≤ 8 ∧ x ≤ 255 ∧ y ≤ 255 ∧ o ≤ 255 ∧ i = .int .i64 (k : Int) ∧ xs = .int .i64 (x : Int) ∧ ys = .int .i64 (y : Int) ∧ os = .int .i64 (o : Int) ∧ Hid (GfM.bits (8 - k) x y o = GfM.bits 8 a b 0)) (fun _ _ _ i => 8 - (intOf i).toNat)
  case atStart => exact ⟨0, a, b, 0, by omega, ha, hb, by omega, rfl, rfl, rfl, rfl, rfl⟩
  case round =>
    obtain ⟨k, x, y, o, hk, hx, hy, ho, rfl, rfl, rfl, rfl, hB⟩ := hrel
    by_cases hlt : k < 8
    · have D := dbl_le x hx
      have hB' : Hid (GfM.bits (8 - (k + 1)) (dbl x) (y / 2) (if y % 2 = 1 then o ^^^ x else o) = GfM.bits 8 a b 0) := by
        have := hB.out
        rw [show 8 - k = (8 - (k + 1)) + 1 from by omega] at this
        exact this
      clear hB
      have hox := GfM.xor_le ho hx
      by_cases h1 : y % 2 = 1
      · have t1 : (y : Int) % 2 = 1 := by omega
        have e1 := i64_xor_nat o x (by omega) (by omega)
        have hB2 : Hid (GfM.bits (8 - (k + 1)) (dbl x) (y / 2) (o ^^^ x) = GfM.bits 8 a b 0) := by
          have := hB'.out; rw [if_pos h1] at this; exact this
        clear hB' h1
        by_cases h2 : 255 < 2 * x
        · have e2 := dbl_xor x hx h2
          have t2 : 256 ≤ (x : Int) * 2 := by omega
          go_wp2
          go_round
          case rel => exact ⟨k + 1, dbl x, y / 2, o ^^^ x, by omega, D, by omega, hox, by go_num, rfl, by go_num, rfl, hB2⟩
          case measure => simp [intOf]; omega
        · have t2 : (x : Int) * 2 < 256 := by omega
          have e2 : dbl x = x * 2 := by unfold dbl; rw [if_neg h2]; omega
          rw [e2] at D hB2
          clear e2
          go_wp2
          go_round
          case rel => exact ⟨k + 1, x * 2, y / 2, o ^^^ x, by omega, D, by omega, hox, by go_num, by go_num, by go_num, rfl, hB2⟩
          case measure => simp [intOf]; omega
      · have t1 : (y : Int) % 2 = 0 := by omega
        have hB2 : Hid (GfM.bits (8 - (k + 1)) (dbl x) (y / 2) o = GfM.bits 8 a b 0) := by
          have := hB'.out; rw [if_neg h1] at this; exact this
        clear hB' h1
        by_cases h2 : 255 < 2 * x
        · have e2 := dbl_xor x hx h2
          have t2 : 256 ≤ (x : Int) * 2 := by omega
          go_wp2
          go_round
          case rel => exact ⟨k + 1, dbl x, y / 2, o, by omega, D, by omega, ho, by go_num, rfl, by go_num, rfl, hB2⟩
          case measure => simp [intOf]; omega
        · have t2 : (x : Int) * 2 < 256 := by omega
          have e2 : dbl x = x * 2 := by unfold dbl; rw [if_neg h2]; omega
          rw [e2] at D hB2
          clear e2
          go_wp2
          go_round
          case rel => exact ⟨k + 1, x * 2, y / 2, o, by omega, D, by omega, ho, by go_num, by go_num, by go_num, rfl, hB2⟩
          case measure => simp [intOf]; omega
    · obtain rfl : k = 8 := by omega
      go_wp2
      go_ret
      exact ⟨ret_int (by rw [E.out, ← hB.out]; rfl), rfl⟩

theorem rmul_at (a' b' : Int) (a b : Nat) (w : World) (ea : a' = (a : Int)) (eb : b' = (b : Int)) (ha : a ≤ 255) (hb : b ≤ 255) :
    Calls Try.prog 73 #[.int .u8 a', .int .u8 b'] w fun e w' => e = .returned (.int .u8 ((GfM.mul a b : Nat) : Int)) ∧ w = w' := by
  subst ea eb; exact rmul_any a b w ha hb

theorem pw_254 {a : Nat} (h0 : a ≠ 0) (ha : a ≤ 255) : pw (lg a * 254) = GfM.divv 1 a := by
  have hl := GfM.lg_lt h0 ha
  have h1 : lg 1 = 0 := GfM.lg_pw 0
  unfold GfM.divv
  rw [if_neg (fun h => h.elim (by omega) h0), h1, ← GfM.pw_per (lg a * 254), show lg a * 254 + 255 = (0 + 255 - lg a) + 255 * lg a from by omega, GfM.pw_mul]

theorem mul_pw_lg {a : Nat} (k : Nat) (h0 : a ≠ 0) (ha : a ≤ 255) : GfM.mul (pw (lg a * k)) a = pw (lg a * (k + 1)) := by
  have e : GfM.mul (pw (lg a * k)) a = GfM.mul (pw (lg a * k)) (pw (lg a)) := by rw [GfM.pw_lg h0 ha]
  rw [e, GfM.mul_pw, Nat.mul_succ]

set_option maxRecDepth 20000 in
set_option maxHeartbeats 1000000 in
theorem rinv_at (a' : Int) (a : Nat) (w : World) (ea : a' = (a : Int)) (ha : a ≤ 255) :
    Calls Try.prog 70 #[.int .u8 a'] w fun e w' => e = .returned (.tuple #[.int .u8 ((GfM.divv 1 a : Nat) : Int), .int .i64 ((GfM.dive a : Nat) : Int)]) ∧ w = w' := by
  subst ea
  by_cases h0 : a = 0
  · subst h0
    go_enter Try.func70, Try.ntmps70
    go_wp2_with fail
    go_ret2
    exact ⟨rfl, rfl⟩
  · have k1 : ((a : Int) == 0) = false := by simp; omega
    have E := Lib.hid (pw_254 h0 ha)
    go_enter Try.func70, Try.ntmps70
    go_wp2_with fail
    go_loop [4, 5] (fun o i => ∃ k : Nat, k ≤ 254 ∧ i = .int .i64 (k : Int) ∧ o = .int .u8 ((pw (lg a * k) : Nat) : Int)) (fun _ i => 254 - (intOf i).toNat)
    case atStart => exact ⟨0, by omega, rfl, rfl⟩
    case round =>
      obtain ⟨k, hk, rfl, rfl⟩ := hrel
      have hp := (GfM.pw_rng (lg a * k)).2
      by_cases hlt : k < 254
      · have M := Lib.hid (mul_pw_lg k h0 ha)
        go_wp2_with (go_at_call 73; refine (rmul_any _ _ _ hp ha).mono ?_; rintro e w' ⟨rfl, rfl⟩)
        go_round
        case rel => exact ⟨k + 1, by omega, by go_num, by rw [M.out]⟩
        case measure => simp [intOf]; omega
      · obtain rfl : k = 254 := by omega
        go_wp2_with fail
        go_ret2
        exact ⟨ret_pair (by rw [E.out]) (by simp [GfM.dive, h0]), rfl⟩

theorem mul_divv_one {a b : Nat} (ha : a ≤ 255) (hb : b ≤ 255) (hb0 : b ≠ 0) : GfM.mul a (GfM.divv 1 b) = GfM.divv a b := (GfM.divv_one ha hb hb0).symm

theorem pw_succ_mul (k : Nat) : GfM.mul (pw k) 2 = pw (k + 1) := by rw [GfM.mul_two (GfM.pw_rng k).2]; rfl

end Go.Proofs.Ytmnciipfepeccaa
