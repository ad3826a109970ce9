/- What is asked of the landed package letter; which letter any bytes are; the example; whether letters are the same. -/
import Derived.Test.YtmllaighjhpbmaaLtCand
import Derived.Test.YtmllaighjhpbmaaLtEnc
import Derived.Test.YtmllaighjhpbmaaLtSame
namespace Go.Proofs.Ytmllaighjhpbmaa
namespace Lt
open Go.RowKit Bk

attribute [local go_sem ↓] Go.wp_at_zero Go.wp_at_succ
attribute [local go_sem] floatUpon pick

/-- a letter's lists in the memory, as an argument or a result has them -/
structure LetVal (w : World) (A B : Option Addr) (c d : Nat) (l : Let) : Prop where
  ks : StrsAt w A l.keys
  ws : WrsAt w B l.ws
  rng : LetRange l c d
  kn : A = none → l.keys = [] ∧ c = 0
  wn : B = none → l.ws = [] ∧ d = 0

theorem LetVal.below {w W : World} {A B : Option Addr} {c d : Nat} {l : Let} (h : LetVal w A B c d l) (hb : Below w.heap.size w W) : LetVal W A B c d l :=
  ⟨h.ks.below hb, h.ws.below hb, h.rng, h.kn, h.wn⟩

/-- what is asked of letter.Check -/
def CheckAll : Prop := ∀ (A B : Option Addr) (c d : Nat) (l : Let) (w : World), LetVal w A B c d l →
  Calls Try.prog 13 #[letV l A B c d] w fun e w' => e = .returned (.int .i64 (ckN l : Int)) ∧ Below w.heap.size w w'

/-- what is asked of letter.Encode -/
def EncodeAll : Prop := ∀ (A B : Option Addr) (c d : Nat) (l : Let) (w : World), LetVal w A B c d l →
  Calls Try.prog 10 #[letV l A B c d] w fun e w' => e = .returned (encV l) ∧ Below w.heap.size w w'

open Classical in
/-- which letter bytes are, and what is told -/
noncomputable def decX (s : ByteArray) : Let × Nat := if h : ∃ l, LetOk l ∧ s.data.toList = letL l then (Classical.choose h, 0) else (noLet, 70)

theorem decX_ok {s : ByteArray} {l : Let} (h : LetOk l) (hs : s.data.toList = letL l) : decX s = (l, 0) := by
  have hx : ∃ l, LetOk l ∧ s.data.toList = letL l := ⟨l, h, hs⟩
  unfold decX
  rw [dif_pos hx]
  have hc := Classical.choose_spec hx
  rw [letL_inj hc.1 h (hc.2.symm.trans hs)]

theorem decX_no {s : ByteArray} (h : NoLet s) : decX s = (noLet, 70) := by
  unfold decX
  rw [dif_neg (fun ⟨l, h1, h2⟩ => h l h1 h2)]

theorem decX_cases (s : ByteArray) : (∃ l, LetOk l ∧ s.data.toList = letL l ∧ decX s = (l, 0)) ∨ (NoLet s ∧ decX s = (noLet, 70)) := by
  by_cases h : ∃ l, LetOk l ∧ s.data.toList = letL l
  · obtain ⟨l, h1, h2⟩ := h
    exact .inl ⟨l, h1, h2, decX_ok h1 h2⟩
  · have hn : NoLet s := fun l h1 h2 => h ⟨l, h1, h2⟩
    exact .inr ⟨hn, decX_no hn⟩

theorem decX_bytes {l : Let} (h : LetOk l) : decX ⟨(letL l).toArray⟩ = (l, 0) := decX_ok h (by simp)

/-- what is asked of letter.Decode -/
def DecodeAll : Prop := ∀ (s : ByteArray) (w : World), s.size ≤ 1000000000000000 →
  Calls Try.prog 17 #[.string s] w fun e w' => ∃ (A B : Option Addr) (c d : Nat),
    e = .returned (.tuple #[letV (decX s).1 A B c d, .int .i64 ((decX s).2 : Int)]) ∧ LetVal w' A B c d (decX s).1 ∧ Below w.heap.size w w'

/-- what is asked of letter.Key -/
def KeyAll : Prop := ∀ (s : ByteArray) (w : World), s.size ≤ 140737488355328 →
  Calls Try.prog 20 #[.string s] w fun e w' => e = .returned (.bool (decide (keyOk s))) ∧ Below w.heap.size w w'

/-- what is asked of letter.Rising -/
def RisingAll : Prop := ∀ (A : Option Addr) (c : Nat) (l : List ByteArray) (w : World), StrsAt w A l → l.length * 16 ≤ 140737488355328 → (∀ s ∈ l, s.size ≤ 140737488355328) → l.length ≤ c → c ≤ maxLen → (A = none → l = [] ∧ c = 0) →
  Calls Try.prog 22 #[.slice A l.length c] w fun e w' => e = .returned (.bool (risesB l)) ∧ Below w.heap.size w w'

theorem nil_strs (w : World) (A : Option Addr) : StrsAt w A [] := fun h => absurd h (by simp)
theorem nil_wrs (w : World) (A : Option Addr) : WrsAt w A [] := fun h => absurd h (by simp)

theorem LetOk.rng {l : Let} (h : LetOk l) : LetRng l := by
  obtain ⟨b1, b2, b3, b4, b5, b6, b7⟩ := h.bounds
  obtain ⟨⟨h1, h2, h3, h4, h5, h6⟩, _⟩ := h
  have rb : reachBytes = 140737488351232 := by unfold reachBytes; rfl
  unfold addr at h1 h2
  unfold txnOk at h3
  unfold stampOk at h4
  exact ⟨by omega, by omega, by omega, by omega, by omega, by omega, by omega, by omega, by omega, fun k hk => by have := b4 k hk; unfold keyOk at this; omega, fun x hx => by have := b5 x hx; unfold keyOk at this; omega⟩

/-- a letter of numbers alone -/
def bareL (k a b t s : Int) : Let := ⟨k, a, b, t, s, 0, ⟨#[]⟩, [], []⟩

theorem bare_val (w : World) (k a b t s : Int) (h : LetOk (bareL k a b t s)) : LetVal w none none 0 0 (bareL k a b t s) :=
  ⟨nil_strs _ _, nil_wrs _ _, ⟨h.rng, Nat.le_refl _, Nat.le_refl _, Nat.zero_le _, Nat.zero_le _⟩, fun _ => ⟨rfl, rfl⟩, fun _ => ⟨rfl, rfl⟩⟩

theorem example_ok : LetOk (bareL 7 1 2 5 0) := by
  refine ⟨⟨?_, ?_, ?_, ?_, ?_, ?_⟩, (kind_5 (by decide)).2 ⟨⟨rfl, rfl, rfl⟩, rfl⟩⟩
  · show addr 1; decide
  · show addr 2; decide
  · show txnOk 5; decide
  · show stampOk 0; decide
  · show (0 : Int) ≤ 0; decide
  · show (0 : Int) ≤ 4; decide

theorem example_bytes : letL (bareL 7 1 2 5 0) = [7, 14, 2, 4, 10, 0, 0, 0, 1, 0] := by
  have h0 : Pk.plain 7 = [7] := Pk.plain_small (by omega)
  have h1 : Pk.signed 7 = [14] := Pk.plain_small (by show Pk.zig 7 < 128; decide)
  have h2 : Pk.signed 1 = [2] := Pk.plain_small (by show Pk.zig 1 < 128; decide)
  have h3 : Pk.signed 2 = [4] := Pk.plain_small (by show Pk.zig 2 < 128; decide)
  have h4 : Pk.signed 5 = [10] := Pk.plain_small (by show Pk.zig 5 < 128; decide)
  have h5 : Pk.signed 0 = [0] := Pk.plain_small (by show Pk.zig 0 < 128; decide)
  have h6 : Pk.plain 1 = [1] := Pk.plain_small (by omega)
  have h7 : Pk.plain 0 = [0] := Pk.plain_small (by omega)
  show Pk.plain 7 ++ ((Pk.signed 7 ++ (Pk.signed 1 ++ (Pk.signed 2 ++ (Pk.signed 5 ++ (Pk.signed 0 ++ (Pk.signed 0 ++ (Pk.signed 0 ++ []))))))) ++ (Pk.plain 1 ++ ((Pk.plain 0 ++ []) ++ []))) = _
  rw [h0, h1, h2, h3, h4, h5, h6, h7]; rfl

def kK : ByteArray := ⟨#[107]⟩
def kA : ByteArray := ⟨#[97]⟩
def kB : ByteArray := ⟨#[98]⟩

theorem rises_ab : risesB [kA, kB] = true := risesB_true fun i h => by
  match i, h with
  | 0, _ => exact ⟨by show keyOk kA; decide, fun h0 => absurd h0 (by omega)⟩
  | 1, _ =>
    refine ⟨by show keyOk kB; decide, fun _ => ?_⟩
    show leT kB kA = false
    unfold leT; rw [ByteArray.toList_eq, ByteArray.toList_eq]; decide

theorem rises_aa : risesB [kA, kA] = false := risesB_false (not_rises (j := 1) (by decide) (fun h => by
  have h2 := h.2 (by omega)
  have h3 : leT kA kA = true := by unfold leT; rw [ByteArray.toList_eq]; decide
  exact absurd (h3.symm.trans h2) (by decide)))

set_option maxRecDepth 20000 in
set_option maxHeartbeats 2000000 in
theorem ltworks (HE : EncodeAll) (HK : KeyAll) (HR : RisingAll) (w : World) : Calls Try.prog 16 #[] w fun e w' => e = .returned (.bool true) ∧ Below w.heap.size w w' := by
  have h1 := HE none none 0 0 (bareL 7 1 2 5 0) w (bare_val w 7 1 2 5 0 example_ok)
  rw [encV_ok example_ok, example_bytes] at h1
  have H1 := Lib.hid h1
  have K1 := fun W => HK kK W (by decide)
  rw [show decide (keyOk kK) = true by decide] at K1
  have K2 := fun W => HK ⟨#[]⟩ W (by decide)
  rw [show decide (keyOk ⟨#[]⟩) = false by decide] at K2
  have R1 := Lib.hid (fun g W (h : StrsAt W (some g) [kA, kB]) => HR (some g) 2 [kA, kB] W h (by decide) (by intro s hs; simp only [List.mem_cons, List.not_mem_nil, or_false] at hs; rcases hs with rfl | rfl <;> decide) (by decide) (by unfold maxLen; omega) (fun h => by cases h))
  have R2 := Lib.hid (fun g W (h : StrsAt W (some g) [kA, kA]) => HR (some g) 2 [kA, kA] W h (by decide) (by intro s hs; simp only [List.mem_cons, List.not_mem_nil, or_false] at hs; rcases hs with rfl | rfl <;> decide) (by decide) (by unfold maxLen; omega) (fun h => by cases h))
  rw [rises_ab] at R1
  rw [rises_aa] at R2
  have HK1 := Lib.hid K1
  have HK2 := Lib.hid K2
  unfold letV bareL at H1
  unfold kK at HK1
  clear h1 HE HK HR K1 K2
  go_enter Try.func16, Try.ntmps16
  go_wp2_with fail
  refine H1.out.mono ?_
  rintro e w1 ⟨rfl, hb⟩
  have HB1 := Lib.hid hb
  clear hb H1
  go_wp2_with fail
  refine (HK1.out _).mono ?_
  rintro e w2 ⟨rfl, hb⟩
  have HB2 := Lib.hid (HB1.out.trans (hb.mono HB1.out.size))
  clear hb HB1
  go_wp2_with fail
  refine (HK2.out _).mono ?_
  rintro e w3 ⟨rfl, hb⟩
  have HB3 := Lib.hid (HB2.out.trans (hb.mono HB2.out.size))
  clear hb HB2
  go_wp2_with fail
  have q1 := R1.out _ _ (StrsAt.blk (l := [kA, kB]) (blk1 w3 (.cells #[.string ⟨#[97]⟩, .string ⟨#[98]⟩] 9)).2)
  refine q1.mono ?_
  rintro e w4 ⟨rfl, hb⟩
  have HB4 := Lib.hid ((HB3.out.alloc HB3.out.size (.cells #[.string ⟨#[97]⟩, .string ⟨#[98]⟩] 9)).trans (hb.mono (HB3.out.alloc HB3.out.size _).size))
  clear hb HB3 q1 R1
  go_wp2_with fail
  have q1 := R2.out _ _ (StrsAt.blk (l := [kA, kA]) (blk1 w4 (.cells #[.string ⟨#[97]⟩, .string ⟨#[97]⟩] 9)).2)
  refine q1.mono ?_
  rintro e w5 ⟨rfl, hb⟩
  have HB5 := Lib.hid ((HB4.out.alloc HB4.out.size (.cells #[.string ⟨#[97]⟩, .string ⟨#[97]⟩] 9)).trans (hb.mono (HB4.out.alloc HB4.out.size _).size))
  clear hb HB4 q1 R2
  go_wp2_with fail
  go_ret
  exact ⟨rfl, HB5.out⟩

end Lt
end Go.Proofs.Ytmllaighjhpbmaa
