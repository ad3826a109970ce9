/- The functions that all layers' laws use: contracts. -/
import Derived.Test.YtmnciipfepeccaaFloat
import Derived.Test.YtmnciipfepeccaaGfWalks
import Derived.WalkKit
import Derived.ProofKit
import Derived.Below
import Derived.Deep.Draws
import Derived.IntWalk
namespace Go.Proofs.Ytmnciipfepeccaa
open Go.RowKit

/-- a number from 0 to n - 1 -/
def amongV (x : Int) (n : Nat) : Nat := (x % (n : Int)).toNat

theorem amongV_lt (x : Int) (n : Nat) (h : 1 ≤ n) : amongV x n < n := by
  have h1 := Int.emod_nonneg x (show (n : Int) ≠ 0 by omega)
  have h2 := Int.emod_lt_of_pos x (show (0 : Int) < n by omega)
  unfold amongV
  omega

theorem amongV_emod (x : Int) (n : Nat) (h : 1 ≤ n) : ((amongV x n : Nat) : Int) = x % (n : Int) := by
  have h1 := Int.emod_nonneg x (show (n : Int) ≠ 0 by omega)
  unfold amongV
  omega

theorem among_eq (x : Int) (n : Nat) (h1 : 1 ≤ n) : (x.tmod (n : Int) + (n : Int)).tmod (n : Int) = ((amongV x n : Nat) : Int) ∧ -(n : Int) < x.tmod (n : Int) ∧ x.tmod (n : Int) < (n : Int) := by
  have a1 : x.tmod (n : Int) < (n : Int) := Int.tmod_lt_of_pos x (by omega)
  have a2 : -(n : Int) < x.tmod (n : Int) := by
    rcases Int.le_total 0 x with h | h
    · have := Int.tmod_nonneg (n : Int) h; omega
    · have := Int.tmod_lt_of_pos (-x) (show (0 : Int) < n by omega)
      rw [Int.neg_tmod] at this
      omega
  refine ⟨?_, a2, a1⟩
  rw [Int.tmod_eq_emod_of_nonneg (by omega), amongV_emod x n h1, Int.add_emod_right, Int.tmod_def, Int.sub_mul_emod_self_left]

set_option maxHeartbeats 1000000 in
theorem among_any (x : Int) (n : Nat) (w : World) (h1 : 1 ≤ n) (h2 : n ≤ 1000000) :
    Calls Try.prog 17 #[.int .i64 x, .int .i64 (n : Int)] w fun e w' => e = .returned (.int .i64 ((amongV x n : Nat) : Int)) ∧ w' = w := by
  obtain ⟨e1, e2, e3⟩ := among_eq x n h1
  have e4 : ((n : Int) == 0) = false := by simp; omega
  have e6 : wrap64 (x.tmod (n : Int) + (n : Int)) = x.tmod (n : Int) + (n : Int) := IntWalk.wrap64_in _ ⟨by omega, by omega⟩
  have E : Hid ((wrap64 (x.tmod (n : Int) + (n : Int))).tmod (n : Int) = ((amongV x n : Nat) : Int)) := by
    show _ = _
    rw [e6, e1]
  clear e1 e2 e3 e6
  go_enter Try.func17, Try.ntmps17
  go_wp2
  go_ret
  exact ⟨ret_int E.out, rfl⟩

end Go.Proofs.Ytmnciipfepeccaa
