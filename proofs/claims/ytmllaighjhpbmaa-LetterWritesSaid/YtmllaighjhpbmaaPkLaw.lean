/- What is asked of the landed package pack; the example, whether packs are the same, and the laws Reads and Numbers over it. -/
import Derived.Test.YtmllaighjhpbmaaPkDec
namespace Go.Proofs.Ytmllaighjhpbmaa
namespace Pk
open Go.RowKit Bk

attribute [local go_sem ↓] Go.wp_at_zero Go.wp_at_succ
attribute [local go_sem] floatUpon pick

/-- what a pack as an argument is -/
structure ArgOk (c d : Nat) (ns : List Int) (ts : List ByteArray) : Prop where
  n8 : ns.length * 8 ≤ 140737488351232
  t16 : ts.length * 16 ≤ 140737488351232
  nr : ∀ n ∈ ns, -9223372036854775808 ≤ n ∧ n ≤ 9223372036854775807
  tr : ∀ t ∈ ts, t.size ≤ 140737488351232
  nc : ns.length ≤ c
  tc : ts.length ≤ d
  c63 : c ≤ maxLen
  d63 : d ≤ maxLen

theorem ArgOk.range {c d : Nat} {ns : List Int} {ts : List ByteArray} (h : ArgOk c d ns ts) : InRange ns ts :=
  ⟨by have := h.n8; omega, by have := h.t16; omega, h.nr, fun t ht => by have := h.tr t ht; omega⟩

/-- what is asked of pack.Check -/
def CheckAll : Prop := ∀ (A B : Option Addr) (c d : Nat) (ns : List Int) (ts : List ByteArray) (w : World), IntsAt w A ns → StrsAt w B ts → ArgOk c d ns ts →
  Calls Try.prog 41 #[packV A B c d ns ts] w fun e w' => e = .returned (.int .i64 (ckE ns ts : Int)) ∧ Below w.heap.size w w'

/-- what is asked of pack.Encode -/
def EncodeAll : Prop := ∀ (A B : Option Addr) (c d : Nat) (ns : List Int) (ts : List ByteArray) (w : World), IntsAt w A ns → StrsAt w B ts → ArgOk c d ns ts →
  Calls Try.prog 26 #[packV A B c d ns ts] w fun e w' => e = .returned (encV ns ts) ∧ Below w.heap.size w w'

/-- what the landed Decode answers: as the document's, and the lists fit their slices -/
def DecAns2 (s : ByteArray) (w : World) : Ending → World → Prop := fun e w' =>
  ∃ (A B : Option Addr) (c d : Nat), e = .returned (.tuple #[packV A B c d (decR s).1 (decR s).2.1, .int .i64 ((decR s).2.2.1 : Int), .int .i64 ((decR s).2.2.2 : Int)]) ∧ IntsAt w' A (decR s).1 ∧ StrsAt w' B (decR s).2.1 ∧ Below w.heap.size w w' ∧
    (decR s).1.length ≤ c ∧ (decR s).2.1.length ≤ d ∧ c ≤ maxLen ∧ d ≤ maxLen

/-- what is asked of pack.Decode -/
def DecodeAll : Prop := ∀ (s : ByteArray) (w : World), s.size ≤ 1000000000000000 → Calls Try.prog 36 #[.string s] w (DecAns2 s w)

theorem example_bytes : bytesL [1, -1, 300] [⟨#[97, 98]⟩] = [3, 2, 1, 216, 4, 1, 2, 97, 98] := by
  have h1 : plain 3 = [3] := plain_small (by omega)
  have h2 : signed 1 = [2] := plain_small (by show zig 1 < 128; decide)
  have h3 : signed (-1) = [1] := plain_small (by show zig (-1) < 128; decide)
  have h4 : signed 300 = [216, 4] := by
    show plain 600 = _
    rw [plain_big (by omega), plain_small (by omega)]; rfl
  have h5 : plain 1 = [1] := plain_small (by omega)
  have h6 : plain 2 = [2] := plain_small (by omega)
  show plain 3 ++ ((signed 1 ++ (signed (-1) ++ (signed 300 ++ []))) ++ (plain 1 ++ ((plain 2 ++ [97, 98]) ++ []))) = _
  rw [h1, h2, h3, h4, h5, h6]; rfl

theorem example_maybe : MayBe [1, -1, 300] [⟨#[97, 98]⟩] := ⟨by decide, by decide, by decide, by
  intro t ht
  rw [List.mem_singleton] at ht
  subst ht; decide⟩

/-- how long the lists of a decoding are -/
theorem decR_len (s : ByteArray) : (decR s).1.length ≤ 1024 ∧ (decR s).2.1.length ≤ 1024 := by
  unfold decR
  cases h : decL s.data.toList with
  | error e => exact ⟨by simp, by simp⟩
  | ok x =>
    obtain ⟨ns, ts⟩ := x
    have := (decL_ok h).1
    exact ⟨this.1, this.2.1⟩

theorem numV_ok {z : Int} (h : numOk z) : numV z = .tuple #[.string ⟨(signed z).toArray⟩, .int .i64 0] := by unfold numV; rw [if_pos h]

theorem half_ok {a : Int} (h : -9223372036854775808 ≤ a ∧ a ≤ 9223372036854775807) : numOk (a / 2) := by
  unfold numOk; omega

end Pk
end Go.Proofs.Ytmllaighjhpbmaa
