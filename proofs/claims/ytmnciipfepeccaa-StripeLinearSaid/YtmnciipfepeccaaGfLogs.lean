/- The walk of the law on logs of gf: it ends in true, and makes new memory alone; no condition but the arguments' range. -/
import Derived.Test.YtmnciipfepeccaaGfTheorems
namespace Go.Proofs.Ytmnciipfepeccaa
open Go.RowKit
open GfM (dbl pw lgA lg)

theorem expv_eq {n : Int} {k : Nat} (h : n % 255 = ((k : Nat) : Int) % 255) : GfM.expv n = pw k := by
  unfold GfM.expv
  rw [h, ← GfM.pw_mod k, show ((k : Int) % 255).toNat = k % 255 from by omega]

theorem expv_per (n : Int) : GfM.expv (n + 255) = GfM.expv n := by
  unfold GfM.expv; rw [show (n + 255) % 255 = n % 255 from by omega]

theorem expv_succ (n : Int) : GfM.mul (GfM.expv n) 2 = GfM.expv (n + 1) := by
  rw [expv_eq (n := n + 1) (k := (n % 255).toNat + 1) (by omega)]
  exact pw_succ_mul _

theorem lg_mul {a b : Nat} (ha0 : a ≠ 0) (hb0 : b ≠ 0) : GfM.logv (GfM.mul a b) = (lg a + lg b) % 255 := by
  have h : GfM.mul a b ≠ 0 := fun e => ((GfM.mul_eq_zero a b).1 e).elim ha0 hb0
  unfold GfM.logv
  rw [if_neg h, GfM.mul_pos ha0 hb0, GfM.lg_pw]

theorem go_rem (n : Int) : ∃ r : Int, -255 < r ∧ r < 255 ∧ ((0 ≤ n ∧ n % 255 = r) ∨ (n < 0 ∧ n.tmod 255 = r)) := by
  by_cases hn : 0 ≤ n
  · exact ⟨n % 255, by omega, by omega, Or.inl ⟨hn, rfl⟩⟩
  · have hq : n.tmod 255 = -((-n) % 255) := by
      have h := Int.neg_tmod (-n) 255
      rw [Int.neg_neg] at h
      rw [h, Int.tmod_eq_emod_of_nonneg (a := -n) (by omega)]
    exact ⟨n.tmod 255, by omega, by omega, Or.inr ⟨by omega, rfl⟩⟩

end Go.Proofs.Ytmnciipfepeccaa
