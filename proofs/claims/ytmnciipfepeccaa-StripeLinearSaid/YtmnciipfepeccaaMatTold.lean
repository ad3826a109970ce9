/- What the laws' walks are told of the package's functions (each is proved of the landed code elsewhere). -/
import Derived.Test.YtmnciipfepeccaaMatRef
import Derived.Test.YtmnciipfepeccaaMatInv
namespace Go.Proofs.Ytmnciipfepeccaa
open Go.RowKit

/-- a matrix stands in block p -/
abbrev MatAt (w : World) (p : Nat) (r c : Int) (s : ByteArray) : Prop :=
  w.cell? ⟨p, 0, none⟩ = some (.int .i64 r) ∧ w.cell? ⟨p, 1, none⟩ = some (.int .i64 c) ∧ w.cell? ⟨p, 2, none⟩ = some (.string s) ∧ p < w.heap.size

theorem matAt_below {w w' : World} {p : Nat} {r c : Int} {s : ByteArray} (h : MatAt w p r c s) (hb : Below w.heap.size w w') : MatAt w' p r c s :=
  ⟨(hb.cell (p := ⟨p, 0, none⟩) h.2.2.2).trans h.1, (hb.cell (p := ⟨p, 1, none⟩) h.2.2.2).trans h.2.1, (hb.cell (p := ⟨p, 2, none⟩) h.2.2.2).trans h.2.2.1, Nat.lt_of_lt_of_le h.2.2.2 hb.size⟩

theorem matAt_new (w : World) (r c : Int) (s : ByteArray) (T : TypeId) : MatAt (w.alloc (.cells #[.int .i64 r, .int .i64 c, .string s] T)) w.heap.size r c s :=
  ⟨World.cell?_alloc_new _ _ _ _, World.cell?_alloc_new _ _ _ _, World.cell?_alloc_new _ _ _ _, by simp⟩

theorem matAt_alloc {w : World} {p : Nat} {r c : Int} {s : ByteArray} (h : MatAt w p r c s) (o : Obj) : MatAt (w.alloc o) p r c s :=
  matAt_below h ((Below.refl _ w).alloc (Nat.le_refl _) o)

theorem matAt_drew {w : World} {p : Nat} {r c : Int} {s : ByteArray} (h : MatAt w p r c s) : MatAt w.drew p r c s := h

/-- what Inverse answers of a square matrix -/
def InvRes (n : Nat) (s : ByteArray) (e : Ending) : Prop :=
  (∃ R, e = .returned (.tuple #[.agg #[.int .i64 (n : Int), .int .i64 (n : Int), .string ⟨(tabL n n R).toArray⟩], .int .i64 0]) ∧ GfU.sq n (GfU.mm n R (cel s n)) GfU.one ∧ GfU.sq n (GfU.mm n (cel s n) R) GfU.one) ∨
  (e = .returned (.tuple #[.agg #[.int .i64 0, .int .i64 0, .string ⟨#[]⟩], .int .i64 20]) ∧ GfU.Sing n (cel s n))

def IdYes : Prop := ∀ (n : Nat) (w : World), 1 ≤ n → n ≤ 255 →
  Calls Try.prog 16 #[.int .i64 (n : Int)] w fun e w' => e = .returned (.tuple #[.agg #[.int .i64 (n : Int), .int .i64 (n : Int), .string ⟨(tabL n n GfU.one).toArray⟩], .int .i64 0]) ∧ Below w.heap.size w w'

def MulYes : Prop := ∀ (ra ca cb : Nat) (a b : ByteArray) (w : World), 1 ≤ ra → ra ≤ 255 → 1 ≤ ca → ca ≤ 255 → 1 ≤ cb → cb ≤ 255 → a.size = ra * ca → b.size = ca * cb →
  Calls Try.prog 15 #[.agg #[.int .i64 (ra : Int), .int .i64 (ca : Int), .string a], .agg #[.int .i64 (ca : Int), .int .i64 (cb : Int), .string b]] w fun e w' =>
    e = .returned (.tuple #[.agg #[.int .i64 (ra : Int), .int .i64 (cb : Int), .string ⟨(tabL ra cb (timesF ca cb a b)).toArray⟩], .int .i64 0]) ∧ Below w.heap.size w w'

end Go.Proofs.Ytmnciipfepeccaa
