/- The walks of the laws on squares and powers of gf: each ends in true, and makes new memory alone; no condition but the arguments' range. -/
import Derived.Test.YtmnciipfepeccaaGfLogs
namespace Go.Proofs.Ytmnciipfepeccaa
open Go.RowKit
open GfM (dbl pw lgA lg)

set_option maxRecDepth 20000 in
set_option maxHeartbeats 400000 in
theorem among_to (n k : Int) (m : Nat) (w : World) (h0 : -9223372036854775808 ≤ n) (h1 : n ≤ 9223372036854775807) (k0 : 0 < k) (k1 : k ≤ 1152921504606846976) (h : n % k = (m : Int)) :
    Calls Try.prog 17 #[.int .i64 n, .int .i64 k] w fun e w' => e = .returned (.int .i64 (m : Int)) ∧ w = w' := by
  have hm : (m : Int) < k := by rw [← h]; exact Int.emod_lt_of_pos _ k0
  have t1 : (k == 0) = false := by simp; omega
  obtain ⟨r, hr, r1, r2, hs⟩ : ∃ r : Int, ((0 ≤ n ∧ n % k = r) ∨ (n < 0 ∧ n.tmod k = r)) ∧ -k < r ∧ r < k ∧ (r + k) % k = (m : Int) := by
    by_cases hn : 0 ≤ n
    · exact ⟨n % k, Or.inl ⟨hn, rfl⟩, by have := Int.emod_nonneg n (by omega : k ≠ 0); omega, Int.emod_lt_of_pos _ k0, by rw [Int.add_emod_right, Int.emod_emod_of_dvd _ (Int.dvd_refl k), h]⟩
    · have hq : n.tmod k = -((-n) % k) := by
        have h := Int.neg_tmod (-n) k
        rw [Int.neg_neg] at h
        rw [h, Int.tmod_eq_emod_of_nonneg (a := -n) (by omega)]
      have a1 := Int.emod_nonneg (-n) (by omega : k ≠ 0)
      have a2 := Int.emod_lt_of_pos (-n) k0
      refine ⟨n.tmod k, Or.inr ⟨by omega, rfl⟩, by omega, by omega, ?_⟩
      rw [Int.add_emod_right, hq, ← h]
      have : -((-n) % k) = n + k * ((-n) / k) := by have := Int.emod_add_mul_ediv (-n) k; omega
      rw [this, Int.add_mul_emod_self_left]
  have s1 : r + k < 9223372036854775808 := by omega
  rcases hr with ⟨hn, hr⟩ | ⟨hn, hr⟩
  all_goals
    clear h
    go_enter Try.func17, Try.ntmps17
    go_wp2
    go_ret
    exact ⟨ret_int hs, rfl⟩

theorem among_is (n k : Int) (k0 : 0 < k) : ∃ m : Nat, n % k = (m : Int) ∧ (m : Int) < k := by
  have a1 := Int.emod_nonneg n (by omega : k ≠ 0)
  have a2 := Int.emod_lt_of_pos n k0
  exact ⟨(n % k).toNat, by omega, by omega⟩

/-- an element times itself, k times -/
def powv (a : Nat) : Nat → Nat
  | 0 => 1
  | k + 1 => GfM.mul (powv a k) a

theorem powv_le (a k : Nat) : powv a k ≤ 255 := by
  cases k with
  | zero => simp [powv]
  | succ k => exact GfM.mul_le _ _

theorem powv_pw {a : Nat} (k : Nat) (h0 : a ≠ 0) (ha : a ≤ 255) : powv a k = pw (lg a * k) := by
  induction k with
  | zero => rfl
  | succ k ih => show GfM.mul (powv a k) a = _; rw [ih, mul_pw_lg k h0 ha]

theorem powv_255 {a : Nat} (h0 : a ≠ 0) (ha : a ≤ 255) : powv a 255 = 1 := by
  rw [powv_pw 255 h0 ha, Nat.mul_comm, show 255 * lg a = 0 + 255 * lg a from by omega, GfM.pw_mul]; rfl

theorem powv_zero (k : Nat) : powv 0 (k + 1) = 0 := GfM.mul_zero _

end Go.Proofs.Ytmnciipfepeccaa
