/- The walks of the laws of a field over gf: the ring's laws, what is divided comes back, logs add up; each ends in true, and makes new memory alone; no condition but the arguments' range. -/
import Derived.Test.YtmnciipfepeccaaGfLaws
namespace Go.Proofs.Ytmnciipfepeccaa
open Go.RowKit
open GfM (dbl pw lgA lg)

theorem inv_to (B : Nat) (a' : Int) (a v g : Nat) (w : World) (hF : FieldAt w B) (ea : a' = (a : Int)) (ha : a ≤ 255) (h : GfM.divv 1 a = v) (h' : GfM.dive a = g) :
    Calls Try.prog 58 #[.pointer (some ⟨B, 0, none⟩), .int .u8 a'] w fun e w' =>
      e = .returned (.tuple #[.int .u8 (v : Int), .int .i64 (g : Int)]) ∧ ∃ n, w' = w.drewN n := by
  subst h h'; exact inv_at B a' a w hF ea ha

theorem div_to (B : Nat) (a' b' : Int) (a b v g : Nat) (w : World) (hF : FieldAt w B) (ea : a' = (a : Int)) (eb : b' = (b : Int)) (ha : a ≤ 255) (hb : b ≤ 255) (h : GfM.divv a b = v) (h' : GfM.dive b = g) :
    Calls Try.prog 71 #[.pointer (some ⟨B, 0, none⟩), .int .u8 a', .int .u8 b'] w fun e w' =>
      e = .returned (.tuple #[.int .u8 (v : Int), .int .i64 (g : Int)]) ∧ ∃ n, w' = w.drewN n := by
  subst h h'; exact div_at B a' b' a b w hF ea eb ha hb

theorem divv_zero (a : Nat) : GfM.divv a 0 = 0 := by unfold GfM.divv; rw [if_pos (Or.inr rfl)]

theorem dive_pos {b : Nat} (h : b ≠ 0) : GfM.dive b = 0 := by unfold GfM.dive; rw [if_neg h]

end Go.Proofs.Ytmnciipfepeccaa
