/- What is asked of the landed package record; the example. -/
import Derived.Test.YtibekhigpamnjaaRcEnv
import Derived.Test.YtibekhigpamnjaaRcBook
namespace Go.Proofs.Ytibekhigpamnjaa
namespace Rc
open Go.RowKit Bk Lt

attribute [local go_sem ↓] Go.wp_at_zero Go.wp_at_succ
attribute [local go_sem] floatUpon pick

/-- what is asked of record.Check -/
def CheckAll : Prop := ∀ (A B : Option Addr) (c d : Nat) (r : Rec) (w : World), RecVal w A B c d r →
  Calls Try.prog 11 #[recV r A B c d] w fun e w' => e = .returned (.int .i64 (ckN r : Int)) ∧ Below w.heap.size w w'

/-- what is asked of record.Encode -/
def EncodeAll : Prop := ∀ (A B : Option Addr) (c d : Nat) (r : Rec) (w : World), RecVal w A B c d r →
  Calls Try.prog 9 #[recV r A B c d] w fun e w' => e = .returned (encV r) ∧ Below w.heap.size w w'

/-- what is asked of record.Decode -/
def DecodeAll : Prop := ∀ (s : ByteArray) (w : World), s.size ≤ 1000000000000000 →
  Calls Try.prog 15 #[.string s] w fun e w' => ∃ (A B : Option Addr) (c d : Nat),
    e = .returned (.tuple #[recV (decX s).1 A B c d, .int .i64 ((decX s).2 : Int)]) ∧ RecVal w' A B c d (decX s).1 ∧ Below w.heap.size w w'

theorem nil_strs (w : World) (A : Option Addr) : StrsAt w A [] := fun h => absurd h (by simp)
theorem nil_wrs (w : World) (A : Option Addr) : WrsAt w A [] := fun h => absurd h (by simp)

/-- a record of numbers alone -/
def bareR (k t s : Int) : Rec := ⟨k, t, s, 0, ⟨#[]⟩, ⟨#[]⟩, false, [], []⟩

theorem bare_val (w : World) (k t s : Int) (h : RecOk (bareR k t s)) : RecVal w none none 0 0 (bareR k t s) :=
  ⟨nil_strs _ _, nil_wrs _ _, ⟨h.rng, Nat.le_refl _, Nat.le_refl _, Nat.zero_le _, Nat.zero_le _⟩, fun _ => ⟨rfl, rfl⟩, fun _ => ⟨rfl, rfl⟩⟩

theorem no_val (w : World) : RecVal w none none 0 0 noRec := by
  refine ⟨nil_strs _ _, nil_wrs _ _, ⟨⟨?_, ?_, ?_, ?_, Nat.zero_le _, Nat.zero_le _, Nat.zero_le _, Nat.zero_le _, fun s h => absurd h (by simp [noRec]), fun x h => absurd h (by simp [noRec])⟩, Nat.le_refl _, Nat.le_refl _, Nat.zero_le _, Nat.zero_le _⟩, fun _ => ⟨rfl, rfl⟩, fun _ => ⟨rfl, rfl⟩⟩ <;> (show (-9223372036854775808 : Int) ≤ 0 ∧ (0 : Int) ≤ 9223372036854775807; omega)

theorem example_ok : RecOk (bareR 2 5 9) := by
  refine ⟨⟨.inr ?_, ?_, ?_, ?_⟩, (kind_2 rfl).2 ⟨⟨⟨rfl, rfl⟩, ⟨rfl, rfl, rfl⟩, rfl⟩, ?_⟩⟩
  · show txnOk 5; decide
  · show stampOk 9; decide
  · show (0 : Int) ≤ 0; decide
  · show (0 : Int) < 16; decide
  · show (5 : Int) ≠ 0; decide

theorem example_bytes : recL (bareR 2 5 9) = [6, 4, 10, 18, 0, 0, 0, 2, 0, 0] := by
  have h0 : Pk.plain 6 = [6] := Pk.plain_small (by omega)
  have h1 : Pk.signed 2 = [4] := Pk.plain_small (by show Pk.zig 2 < 128; decide)
  have h2 : Pk.signed 5 = [10] := Pk.plain_small (by show Pk.zig 5 < 128; decide)
  have h3 : Pk.signed 9 = [18] := Pk.plain_small (by show Pk.zig 9 < 128; decide)
  have h4 : Pk.signed 0 = [0] := Pk.plain_small (by show Pk.zig 0 < 128; decide)
  have h5 : Pk.plain 2 = [2] := Pk.plain_small (by omega)
  have h6 : Pk.plain 0 = [0] := Pk.plain_small (by omega)
  show Pk.plain 6 ++ ((Pk.signed 2 ++ (Pk.signed 5 ++ (Pk.signed 9 ++ (Pk.signed 0 ++ (Pk.signed 0 ++ (Pk.signed 0 ++ [])))))) ++ (Pk.plain 2 ++ ((Pk.plain 0 ++ []) ++ ((Pk.plain 0 ++ []) ++ [])))) = _
  rw [h0, h1, h2, h3, h4, h5, h6]; rfl

set_option maxRecDepth 20000 in
set_option maxHeartbeats 2000000 in
theorem rcworks (HE : EncodeAll) (w : World) : Calls Try.prog 14 #[] w fun e w' => e = .returned (.bool true) ∧ Below w.heap.size w w' := by
  have h1 := HE none none 0 0 (bareR 2 5 9) w (bare_val w 2 5 9 example_ok)
  rw [encV_ok example_ok, example_bytes] at h1
  unfold recV bareR at h1
  have H1 := Lib.hid h1
  clear h1 HE
  go_enter Try.func14, Try.ntmps14
  go_wp2_with fail
  refine H1.out.mono ?_
  rintro e w1 ⟨rfl, hb⟩
  have HB1 := Lib.hid hb
  clear hb H1
  go_wp2_with fail
  go_ret
  exact ⟨rfl, HB1.out⟩

end Rc
end Go.Proofs.Ytibekhigpamnjaa
