/- The walks of the laws on sums, products, inverses, powers and logs of gf: each ends in true, and makes new memory alone; no condition but the arguments' range. -/
import Derived.Test.YtmnciipfepeccaaGfRef
namespace Go.Proofs.Ytmnciipfepeccaa
open Go.RowKit
open GfM (dbl pw lgA lg)

theorem wf_u8 {a : Int} (h : (Lit.int .u8 a).wf = true) : ∃ n : Nat, a = n ∧ n ≤ 255 := by
  have : 0 ≤ a ∧ a ≤ 255 := by simpa [Lit.wf, IntKind.min, IntKind.max, IntKind.signed, IntKind.bits] using h
  exact ⟨a.toNat, by omega, by omega⟩

theorem wf_i64' {a : Int} (h : (Lit.int .i64 a).wf = true) : -9223372036854775808 ≤ a ∧ a ≤ 9223372036854775807 := by
  simpa [Lit.wf, IntKind.min, IntKind.max, IntKind.signed, IntKind.bits] using h

theorem grown_drewN {w w1 : World} (h : Grown w w1) (n : Nat) : Grown w (w1.drewN n) := by
  induction n generalizing w1 with
  | zero => exact h
  | succ n ih => exact ih h.drew

theorem new_field (w : World) :
    Calls Try.prog 37 #[] w fun e w' => e = .returned (.pointer (some ⟨w.heap.size, 0, none⟩)) ∧ FieldAt w' w.heap.size ∧ Grown w w' := by
  refine (new_any w).mono ?_
  rintro e w' ⟨rfl, rfl⟩
  exact ⟨rfl, FieldAt.new w, (Grown.refl w).alloc _ _⟩

theorem mul_to (B : Nat) (a' b' : Int) (a b v : Nat) (w : World) (hF : FieldAt w B) (ea : a' = (a : Int)) (eb : b' = (b : Int)) (ha : a ≤ 255) (hb : b ≤ 255) (h : GfM.mul a b = v) :
    Calls Try.prog 62 #[.pointer (some ⟨B, 0, none⟩), .int .u8 a', .int .u8 b'] w fun e w' => e = .returned (.int .u8 (v : Int)) ∧ ∃ n, w' = w.drewN n := by
  subst h; exact mul_at B a' b' a b w hF ea eb ha hb

theorem add_to (a' b' : Int) (a b v : Nat) (w : World) (ea : a' = (a : Int)) (eb : b' = (b : Int)) (ha : a ≤ 255) (hb : b ≤ 255) (h : a ^^^ b = v) :
    Calls Try.prog 61 #[.int .u8 a', .int .u8 b'] w fun e w' => e = .returned (.int .u8 (v : Int)) ∧ w = w' := by
  subst h; exact add_at a' b' a b w ea eb ha hb

end Go.Proofs.Ytmnciipfepeccaa
