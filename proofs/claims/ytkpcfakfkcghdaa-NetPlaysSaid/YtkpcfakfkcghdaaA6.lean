/- Parts of the proof, joined: LtLaw, LtDec0, LtBook, LtCopy, LtOpen2, LtDone1; their conditions stand with each. -/
import Derived.Test.YtkpcfakfkcghdaaA1
import Derived.Test.YtkpcfakfkcghdaaA2
import Derived.Test.YtkpcfakfkcghdaaA5

/- What is asked of the landed package letter; which letter any bytes are; the example; whether letters are the same. -/
namespace Go.Proofs.Ytkpcfakfkcghdaa
namespace Lt
open Go.RowKit Bk

attribute [local go_sem ↓] Go.wp_at_zero Go.wp_at_succ
attribute [local go_sem] floatUpon pick

/-- a letter's lists in the memory, as an argument or a result has them -/
structure LetVal (w : World) (A B : Option Addr) (c d : Nat) (l : Let) : Prop where
  ks : StrsAt w A l.keys
  ws : WrsAt w B l.ws
  rng : LetRange l c d
  kn : A = none → l.keys = [] ∧ c = 0
  wn : B = none → l.ws = [] ∧ d = 0

theorem LetVal.below {w W : World} {A B : Option Addr} {c d : Nat} {l : Let} (h : LetVal w A B c d l) (hb : Below w.heap.size w W) : LetVal W A B c d l :=
  ⟨h.ks.below hb, h.ws.below hb, h.rng, h.kn, h.wn⟩

/-- what is asked of letter.Check -/
def CheckAll : Prop := ∀ (A B : Option Addr) (c d : Nat) (l : Let) (w : World), LetVal w A B c d l →
  Calls Try.prog 32 #[letV l A B c d] w fun e w' => e = .returned (.int .i64 (ckN l : Int)) ∧ Below w.heap.size w w'

/-- what is asked of letter.Encode -/
def EncodeAll : Prop := ∀ (A B : Option Addr) (c d : Nat) (l : Let) (w : World), LetVal w A B c d l →
  Calls Try.prog 19 #[letV l A B c d] w fun e w' => e = .returned (encV l) ∧ Below w.heap.size w w'

open Classical in
/-- which letter bytes are, and what is told -/
noncomputable def decX (s : ByteArray) : Let × Nat := if h : ∃ l, LetOk l ∧ s.data.toList = letL l then (Classical.choose h, 0) else (noLet, 70)

theorem decX_ok {s : ByteArray} {l : Let} (h : LetOk l) (hs : s.data.toList = letL l) : decX s = (l, 0) := by
  have hx : ∃ l, LetOk l ∧ s.data.toList = letL l := ⟨l, h, hs⟩
  unfold decX
  rw [dif_pos hx]
  have hc := Classical.choose_spec hx
  rw [letL_inj hc.1 h (hc.2.symm.trans hs)]

theorem decX_no {s : ByteArray} (h : NoLet s) : decX s = (noLet, 70) := by
  unfold decX
  rw [dif_neg (fun ⟨l, h1, h2⟩ => h l h1 h2)]

theorem decX_cases (s : ByteArray) : (∃ l, LetOk l ∧ s.data.toList = letL l ∧ decX s = (l, 0)) ∨ (NoLet s ∧ decX s = (noLet, 70)) := by
  by_cases h : ∃ l, LetOk l ∧ s.data.toList = letL l
  · obtain ⟨l, h1, h2⟩ := h
    exact .inl ⟨l, h1, h2, decX_ok h1 h2⟩
  · have hn : NoLet s := fun l h1 h2 => h ⟨l, h1, h2⟩
    exact .inr ⟨hn, decX_no hn⟩

theorem decX_bytes {l : Let} (h : LetOk l) : decX ⟨(letL l).toArray⟩ = (l, 0) := decX_ok h (by simp)

/-- what is asked of letter.Decode -/
def DecodeAll : Prop := ∀ (s : ByteArray) (w : World), s.size ≤ 1000000000000000 →
  Calls Try.prog 21 #[.string s] w fun e w' => ∃ (A B : Option Addr) (c d : Nat),
    e = .returned (.tuple #[letV (decX s).1 A B c d, .int .i64 ((decX s).2 : Int)]) ∧ LetVal w' A B c d (decX s).1 ∧ Below w.heap.size w w'

/-- what is asked of letter.Key -/
def KeyAll : Prop := ∀ (s : ByteArray) (w : World), s.size ≤ 140737488355328 →
  Calls Try.prog 91 #[.string s] w fun e w' => e = .returned (.bool (decide (keyOk s))) ∧ Below w.heap.size w w'

/-- what is asked of letter.Rising -/
def RisingAll : Prop := ∀ (A : Option Addr) (c : Nat) (l : List ByteArray) (w : World), StrsAt w A l → l.length * 16 ≤ 140737488355328 → (∀ s ∈ l, s.size ≤ 140737488355328) → l.length ≤ c → c ≤ maxLen → (A = none → l = [] ∧ c = 0) →
  Calls Try.prog 82 #[.slice A l.length c] w fun e w' => e = .returned (.bool (risesB l)) ∧ Below w.heap.size w w'

theorem nil_strs (w : World) (A : Option Addr) : StrsAt w A [] := fun h => absurd h (by simp)
theorem nil_wrs (w : World) (A : Option Addr) : WrsAt w A [] := fun h => absurd h (by simp)

theorem LetOk.rng {l : Let} (h : LetOk l) : LetRng l := by
  obtain ⟨b1, b2, b3, b4, b5, b6, b7⟩ := h.bounds
  obtain ⟨⟨h1, h2, h3, h4, h5, h6⟩, _⟩ := h
  have rb : reachBytes = 140737488351232 := by unfold reachBytes; rfl
  unfold addr at h1 h2
  unfold txnOk at h3
  unfold stampOk at h4
  exact ⟨by omega, by omega, by omega, by omega, by omega, by omega, by omega, by omega, by omega, fun k hk => by have := b4 k hk; unfold keyOk at this; omega, fun x hx => by have := b5 x hx; unfold keyOk at this; omega⟩

/-- a letter of numbers alone -/
def bareL (k a b t s : Int) : Let := ⟨k, a, b, t, s, 0, ⟨#[]⟩, [], []⟩

theorem bare_val (w : World) (k a b t s : Int) (h : LetOk (bareL k a b t s)) : LetVal w none none 0 0 (bareL k a b t s) :=
  ⟨nil_strs _ _, nil_wrs _ _, ⟨h.rng, Nat.le_refl _, Nat.le_refl _, Nat.zero_le _, Nat.zero_le _⟩, fun _ => ⟨rfl, rfl⟩, fun _ => ⟨rfl, rfl⟩⟩

theorem example_ok : LetOk (bareL 7 1 2 5 0) := by
  refine ⟨⟨?_, ?_, ?_, ?_, ?_, ?_⟩, (kind_5 (by decide)).2 ⟨⟨rfl, rfl, rfl⟩, rfl⟩⟩
  · show addr 1; decide
  · show addr 2; decide
  · show txnOk 5; decide
  · show stampOk 0; decide
  · show (0 : Int) ≤ 0; decide
  · show (0 : Int) ≤ 4; decide

theorem example_bytes : letL (bareL 7 1 2 5 0) = [7, 14, 2, 4, 10, 0, 0, 0, 1, 0] := by
  have h0 : Pk.plain 7 = [7] := Pk.plain_small (by omega)
  have h1 : Pk.signed 7 = [14] := Pk.plain_small (by show Pk.zig 7 < 128; decide)
  have h2 : Pk.signed 1 = [2] := Pk.plain_small (by show Pk.zig 1 < 128; decide)
  have h3 : Pk.signed 2 = [4] := Pk.plain_small (by show Pk.zig 2 < 128; decide)
  have h4 : Pk.signed 5 = [10] := Pk.plain_small (by show Pk.zig 5 < 128; decide)
  have h5 : Pk.signed 0 = [0] := Pk.plain_small (by show Pk.zig 0 < 128; decide)
  have h6 : Pk.plain 1 = [1] := Pk.plain_small (by omega)
  have h7 : Pk.plain 0 = [0] := Pk.plain_small (by omega)
  show Pk.plain 7 ++ ((Pk.signed 7 ++ (Pk.signed 1 ++ (Pk.signed 2 ++ (Pk.signed 5 ++ (Pk.signed 0 ++ (Pk.signed 0 ++ (Pk.signed 0 ++ []))))))) ++ (Pk.plain 1 ++ ((Pk.plain 0 ++ []) ++ []))) = _
  rw [h0, h1, h2, h3, h4, h5, h6, h7]; rfl

def kK : ByteArray := ⟨#[107]⟩
def kA : ByteArray := ⟨#[97]⟩
def kB : ByteArray := ⟨#[98]⟩

theorem rises_ab : risesB [kA, kB] = true := risesB_true fun i h => by
  match i, h with
  | 0, _ => exact ⟨by show keyOk kA; decide, fun h0 => absurd h0 (by omega)⟩
  | 1, _ =>
    refine ⟨by show keyOk kB; decide, fun _ => ?_⟩
    show leT kB kA = false
    unfold leT; rw [ByteArray.toList_eq, ByteArray.toList_eq]; decide

theorem rises_aa : risesB [kA, kA] = false := risesB_false (not_rises (j := 1) (by decide) (fun h => by
  have h2 := h.2 (by omega)
  have h3 : leT kA kA = true := by unfold leT; rw [ByteArray.toList_eq]; decide
  exact absurd (h3.symm.trans h2) (by decide)))

end Lt
end Go.Proofs.Ytkpcfakfkcghdaa

/- Parts of slices, nine cells that are written over, and writes of the call's own; no condition. -/
namespace Go.Proofs.Ytkpcfakfkcghdaa
namespace Lt
open Go.RowKit Bk

attribute [local go_sem ↓] Go.wp_at_zero Go.wp_at_succ
attribute [local go_sem] floatUpon pick

/-- the zero letter in its block -/
theorem zero_cells (w : World) : Cel (w.alloc (.cells #[.int .i64 0, .int .i64 0, .int .i64 0, .int .i64 0, .int .i64 0, .int .i64 0, .string ⟨#[]⟩, .slice none 0 0, .slice none 0 0] 35)) w.heap.size 35 [.int .i64 0, .int .i64 0, .int .i64 0, .int .i64 0, .int .i64 0, .int .i64 0, .string ⟨#[]⟩, .slice none 0 0, .slice none 0 0] := (blk1 w _).2

theorem add_add (a : Addr) (k i : Nat) : (a.add k).add i = a.add (k + i) := by
  unfold Addr.add
  by_cases hk : k = 0
  · subst hk; simp
  · by_cases hi : i = 0
    · subst hi; simp [hk]
    · simp [hk, hi, Nat.add_assoc]

theorem add_lit (a : Addr) (k : Nat) (h : 0 < k) : (⟨a.block, a.off + k, none⟩ : Addr) = a.add k := by unfold Addr.add; rw [if_neg (by omega)]

theorem ints_sub {w : World} {a : Addr} {l : List Int} {k c : Nat} (h : IntsAt w (some a) l) (hc : l.length ≤ c) : IntsAt w (if c = k then some a else some (a.add k)) (l.drop k) := fun hp => by
  rw [List.length_drop] at hp
  obtain ⟨a', e, hb, hcl⟩ := h (by omega)
  obtain rfl := Option.some.inj e
  refine ⟨a.add k, by rw [if_neg (by omega)], by rw [st_block]; exact hb, fun i hi => ?_⟩
  rw [List.length_drop] at hi
  rw [add_add, hcl (k + i) (by omega), List.getElem_drop]

theorem strs_sub {w : World} {a : Addr} {l : List ByteArray} {k c : Nat} (h : StrsAt w (some a) l) (hc : l.length ≤ c) : StrsAt w (if c = k then some a else some (a.add k)) (l.drop k) := fun hp => by
  rw [List.length_drop] at hp
  obtain ⟨a', e, hb, hcl⟩ := h (by omega)
  obtain rfl := Option.some.inj e
  refine ⟨a.add k, by rw [if_neg (by omega)], by rw [st_block]; exact hb, fun i hi => ?_⟩
  rw [List.length_drop] at hi
  rw [add_add, hcl (k + i) (by omega), List.getElem_drop]

theorem strs_take {w : World} {A : Option Addr} {l : List ByteArray} (h : StrsAt w A l) (q : Nat) : StrsAt w A (l.take q) := fun hp => by
  rw [List.length_take] at hp
  obtain ⟨a, e, hb, hcl⟩ := h (by omega)
  refine ⟨a, e, hb, fun i hi => ?_⟩
  rw [List.length_take] at hi
  rw [hcl i (by omega), List.getElem_take]

theorem strs_far {w W : World} {A : Option Addr} {l : List ByteArray} (h : StrsAt w A l) {R : Nat} (hR : ∀ a, A = some a → a.block ≠ R) (hs : w.heap.size ≤ W.heap.size) (he : ∀ a : Addr, a.block ≠ R → W.cell? a = w.cell? a) : StrsAt W A l := fun hp => by
  obtain ⟨a, e, hb, hcl⟩ := h hp
  exact ⟨a, e, Nat.lt_of_lt_of_le hb hs, fun i hi => (he _ (by rw [st_block]; exact hR a e)).trans (hcl i hi)⟩

theorem wrs_far {w W : World} {A : Option Addr} {l : List Wr} (h : WrsAt w A l) {R : Nat} (hR : ∀ a, A = some a → a.block ≠ R) (hs : w.heap.size ≤ W.heap.size) (he : ∀ a : Addr, a.block ≠ R → W.cell? a = w.cell? a) : WrsAt W A l := fun hp => by
  obtain ⟨a, e, hb, hcl⟩ := h hp
  exact ⟨a, e, Nat.lt_of_lt_of_le hb hs, fun i hi => ⟨(he _ (by rw [st_block]; exact hR a e)).trans (hcl i hi).1, (he _ (by rw [st_block]; exact hR a e)).trans (hcl i hi).2.1, (he _ (by rw [st_block]; exact hR a e)).trans (hcl i hi).2.2⟩⟩

theorem below_row {w W : World} {H o : Nat} (h : Below H w W) (ho : H ≤ o) (cs : Array Value) : Below H w (W.setRow o cs) :=
  h.trans ⟨rfl, rfl, rfl, by simp, fun k hk => setRow_other _ _ _ _ (by omega)⟩

/-- nine cells are written over -/
def set9 (W : World) (R : Nat) (v0 v1 v2 v3 v4 v5 v6 v7 v8 : Value) : World :=
  (((((((((W.setCell ⟨R, 0, none⟩ v0).setCell ⟨R, 1, none⟩ v1).setCell ⟨R, 2, none⟩ v2).setCell ⟨R, 3, none⟩ v3).setCell ⟨R, 4, none⟩ v4).setCell ⟨R, 5, none⟩ v5).setCell ⟨R, 6, none⟩ v6).setCell ⟨R, 7, none⟩ v7).setCell ⟨R, 8, none⟩ v8)

theorem set9_cel {W : World} {R : Nat} {t : TypeId} {u0 u1 u2 u3 u4 u5 u6 u7 u8 v0 v1 v2 v3 v4 v5 v6 v7 v8 : Value} (h : Cel W R t [u0, u1, u2, u3, u4, u5, u6, u7, u8]) : Cel (set9 W R v0 v1 v2 v3 v4 v5 v6 v7 v8) R t [v0, v1, v2, v3, v4, v5, v6, v7, v8] :=
  ((((((((h.set (i := 0) (v := v0)).set (i := 1) (v := v1)).set (i := 2) (v := v2)).set (i := 3) (v := v3)).set (i := 4) (v := v4)).set (i := 5) (v := v5)).set (i := 6) (v := v6)).set (i := 7) (v := v7)).set (i := 8) (v := v8)

theorem set9_below {w W : World} {H R : Nat} {v0 v1 v2 v3 v4 v5 v6 v7 v8 : Value} (h : Below H w W) (hR : H ≤ R) : Below H w (set9 W R v0 v1 v2 v3 v4 v5 v6 v7 v8) :=
  ((((((((h.setCell (p := ⟨R, 0, none⟩) hR v0).setCell (p := ⟨R, 1, none⟩) hR v1).setCell (p := ⟨R, 2, none⟩) hR v2).setCell (p := ⟨R, 3, none⟩) hR v3).setCell (p := ⟨R, 4, none⟩) hR v4).setCell (p := ⟨R, 5, none⟩) hR v5).setCell (p := ⟨R, 6, none⟩) hR v6).setCell (p := ⟨R, 7, none⟩) hR v7).setCell (p := ⟨R, 8, none⟩) hR v8

theorem set9_other {W : World} {R : Nat} {v0 v1 v2 v3 v4 v5 v6 v7 v8 : Value} {a : Addr} (h : a.block ≠ R) : (set9 W R v0 v1 v2 v3 v4 v5 v6 v7 v8).cell? a = W.cell? a := by
  have hh : (set9 W R v0 v1 v2 v3 v4 v5 v6 v7 v8).heap[a.block]? = W.heap[a.block]? := by
    have e : ∀ (W : World) (i : Nat) (v : Value), (W.setCell ⟨R, i, none⟩ v).heap[a.block]? = W.heap[a.block]? := fun W i v => Below.heap_setCell W ⟨R, i, none⟩ v a.block h
    unfold set9
    rw [e, e, e, e, e, e, e, e, e]
  exact World.cell?_of_block hh

theorem set9_size {W : World} {R : Nat} {v0 v1 v2 v3 v4 v5 v6 v7 v8 : Value} : (set9 W R v0 v1 v2 v3 v4 v5 v6 v7 v8).heap.size = W.heap.size := by
  unfold set9; simp

/-- the writes of a row that was made behind block X -/
def SW (X n : Nat) (L : List Wr) (A : Option Addr) (c : Nat) (W : World) : Prop := WrsAt W A L ∧ n ≤ c ∧ c ≤ maxLen ∧ (A = none → c = 0) ∧ ∀ a, A = some a → X ≤ a.block

theorem SW.keep {X n : Nat} {L : List Wr} {A : Option Addr} {c : Nat} {W W' : World} (h : SW X n L A c W) (hb : Below W.heap.size W W') : SW X n L A c W' := ⟨h.1.below hb, h.2⟩

def S85 (X n : Nat) (L : List Wr) (v : Value) (W : World) : Prop := ∃ A c, v = .tuple #[.slice A n c, .bool true] ∧ SW X n L A c W
def S86 (X n : Nat) (L : List Wr) (v : Value) (W : World) : Prop := ∃ A c, v = .slice A n c ∧ SW X n L A c W
theorem S85.keep {X n : Nat} {L : List Wr} {v : Value} {W W' : World} (h : S85 X n L v W) (hb : Below W.heap.size W W') : S85 X n L v W' := by
  obtain ⟨A, c, e, h⟩ := h; exact ⟨A, c, e, h.keep hb⟩
theorem S86.keep {X n : Nat} {L : List Wr} {v : Value} {W W' : World} (h : S86 X n L v W) (hb : Below W.heap.size W W') : S86 X n L v W' := by
  obtain ⟨A, c, e, h⟩ := h; exact ⟨A, c, e, h.keep hb⟩

theorem wrs_own2 {w : World} {H n : Nat} {v : Value} {e : TypeId} {l : List Wr} (h : w.ownsRow H e 3 v n (wrV l)) (hl : n = l.length) {X : Nat} (hX : X ≤ H) : ∃ (A : Option Addr) (c : Nat), v = .slice A n c ∧ SW X n l A c w := by
  obtain ⟨A, c, rfl, h1, h2, h3, h4⟩ := wrs_own h hl
  exact ⟨A, c, rfl, h1, h2, h3, h4, fun a ea => Nat.le_trans hX (h.lt a.block (by rw [ea]; rfl)).1⟩

end Lt
end Go.Proofs.Ytkpcfakfkcghdaa

/- Whether letters are the same, and a letter's copy; contracts; no condition but the range. -/
namespace Go.Proofs.Ytkpcfakfkcghdaa
namespace Lt
open Go.RowKit Bk

attribute [local go_sem ↓] Go.wp_at_zero Go.wp_at_succ
attribute [local go_sem] floatUpon pick

theorem let_ext {x y : Let} (h0 : x.kind = y.kind) (h1 : x.src = y.src) (h2 : x.dst = y.dst) (h3 : x.txn = y.txn) (h4 : x.ts = y.ts) (h5 : x.code = y.code) (h6 : x.text = y.text) (h7 : x.keys = y.keys) (h8 : x.ws = y.ws) : x = y := by
  obtain ⟨a0, a1, a2, a3, a4, a5, a6, a7, a8⟩ := x
  obtain ⟨b0, b1, b2, b3, b4, b5, b6, b7, b8⟩ := y
  simp only at h0 h1 h2 h3 h4 h5 h6 h7 h8
  subst h0 h1 h2 h3 h4 h5 h6 h7 h8; rfl

noncomputable def sameB (x y : Let) : Bool := @decide (x = y) (Classical.propDecidable _)
theorem sameB_true {x y : Let} (h : x = y) : sameB x y = true := by unfold sameB; exact @decide_eq_true _ (Classical.propDecidable _) h
theorem sameB_false {x y : Let} (h : ¬ x = y) : sameB x y = false := by unfold sameB; exact @decide_eq_false _ (Classical.propDecidable _) h
theorem sameB_self (x : Let) : sameB x x = true := sameB_true rfl

/-- what the comparison says, part by part -/
theorem sameB_parts (x y : Let) : sameB x y = (decide (x.kind = y.kind) && (decide (x.src = y.src) && (decide (x.dst = y.dst) && (decide (x.txn = y.txn) && (decide (x.ts = y.ts) && (decide (x.code = y.code) && (decide (x.text = y.text) && (decide (x.keys = y.keys) && decide (x.ws = y.ws))))))))) := by
  by_cases h : x = y
  · subst h; rw [sameB_self]; simp
  · rw [sameB_false h]
    symm
    rw [Bool.eq_false_iff]
    intro hh
    simp only [Bool.and_eq_true, decide_eq_true_eq] at hh
    obtain ⟨h0, h1, h2, h3, h4, h5, h6, h7, h8⟩ := hh
    exact h (let_ext h0 h1 h2 h3 h4 h5 h6 h7 h8)

theorem eql_dec (s t : ByteArray) : (s.toList == t.toList) = decide (s = t) := by
  by_cases h : s = t
  · subst h; simp
  · rw [text_ne h, decide_eq_false h]

set_option maxRecDepth 20000 in
set_option maxHeartbeats 8000000 in
theorem sameLet_any (A B A' B' : Option Addr) (c d c' d' : Nat) (x y : Let) (w : World) (ha : StrsAt w A x.keys) (hb : WrsAt w B x.ws) (ha' : StrsAt w A' y.keys) (hb' : WrsAt w B' y.ws) (hn : x.keys.length ≤ 9223372036854775807) (hn2 : x.ws.length ≤ 9223372036854775807) :
    Calls Try.prog 17 #[letV x A B c d, letV y A' B' c' d'] w fun e w' => e = .returned (.bool (sameB x y)) ∧ Below w.heap.size w w' := by
  have HK := Lib.hid (fun W (hbl : Below w.heap.size w W) => same_any A A' c c' x.keys y.keys W (ha.below hbl) (ha'.below hbl) hn)
  have HW := Lib.hid (fun W (hbl : Below w.heap.size w W) => sameWrs_any B B' d d' x.ws y.ws W (hb.below hbl) (hb'.below hbl) hn2)
  unfold letV
  obtain ⟨s2, b1, b2⟩ := blk2 w (.cells #[.int .i64 x.kind, .int .i64 x.src, .int .i64 x.dst, .int .i64 x.txn, .int .i64 x.ts, .int .i64 x.code, .string x.text, .slice A x.keys.length c, .slice B x.ws.length d] 35) (.cells #[.int .i64 y.kind, .int .i64 y.src, .int .i64 y.dst, .int .i64 y.txn, .int .i64 y.ts, .int .i64 y.code, .string y.text, .slice A' y.keys.length c', .slice B' y.ws.length d'] 35)
  have hB : Below w.heap.size w ((w.alloc (.cells #[.int .i64 x.kind, .int .i64 x.src, .int .i64 x.dst, .int .i64 x.txn, .int .i64 x.ts, .int .i64 x.code, .string x.text, .slice A x.keys.length c, .slice B x.ws.length d] 35)).alloc (.cells #[.int .i64 y.kind, .int .i64 y.src, .int .i64 y.dst, .int .i64 y.txn, .int .i64 y.ts, .int .i64 y.code, .string y.text, .slice A' y.keys.length c', .slice B' y.ws.length d'] 35)) :=
    ((Below.refl _ w).alloc (Nat.le_refl _) _).alloc (by simp) _
  have HB := Lib.hid hB
  have E := Lib.hid (sameB_parts x y)
  have C1 : Cel _ _ _ [_, _, _, _, _, _, _, _, _] := b1
  have C2 : Cel _ _ _ [_, _, _, _, _, _, _, _, _] := b2
  have HC1 := Lib.hid C1
  have HC2 := Lib.hid C2
  clear hB s2 b1 b2 C1 C2 ha hb ha' hb' hn hn2
  go_enter Try.func17, Try.ntmps17
  go_upto_region 1 with fail
  generalize ((w.alloc (.cells #[.int .i64 x.kind, .int .i64 x.src, .int .i64 x.dst, .int .i64 x.txn, .int .i64 x.ts, .int .i64 x.code, .string x.text, .slice A x.keys.length c, .slice B x.ws.length d] 35)).alloc (.cells #[.int .i64 y.kind, .int .i64 y.src, .int .i64 y.dst, .int .i64 y.txn, .int .i64 y.ts, .int .i64 y.code, .string y.text, .slice A' y.keys.length c', .slice B' y.ws.length d'] 35)) = W1 at HB HC1 HC2 ⊢
  have p0 := HC1.out.cell (i := 0) rfl
  have p1 := HC1.out.cell (i := 1) rfl
  have p2 := HC1.out.cell (i := 2) rfl
  have p3 := HC1.out.cell (i := 3) rfl
  have p4 := HC1.out.cell (i := 4) rfl
  have p5 := HC1.out.cell (i := 5) rfl
  have p6 := HC1.out.cell (i := 6) rfl
  have p7 := HC1.out.cell (i := 7) rfl
  have p8 := HC1.out.cell (i := 8) rfl
  have q0 := HC2.out.cell (i := 0) rfl
  have q1 := HC2.out.cell (i := 1) rfl
  have q2 := HC2.out.cell (i := 2) rfl
  have q3 := HC2.out.cell (i := 3) rfl
  have q4 := HC2.out.cell (i := 4) rfl
  have q5 := HC2.out.cell (i := 5) rfl
  have q6 := HC2.out.cell (i := 6) rfl
  have q7 := HC2.out.cell (i := 7) rfl
  have q8 := HC2.out.cell (i := 8) rfl
  have e0 : ((x.kind == y.kind) : Bool) = decide (x.kind = y.kind) := by rfl
  have e1 : ((x.src == y.src) : Bool) = decide (x.src = y.src) := by rfl
  have e2 : ((x.dst == y.dst) : Bool) = decide (x.dst = y.dst) := by rfl
  have e3 : ((x.txn == y.txn) : Bool) = decide (x.txn = y.txn) := by rfl
  have e4 : ((x.ts == y.ts) : Bool) = decide (x.ts = y.ts) := by rfl
  have e5 : ((x.code == y.code) : Bool) = decide (x.code = y.code) := by rfl
  have e6 := eql_dec x.text y.text
  generalize decide (x.kind = y.kind) = r0 at *
  generalize decide (x.src = y.src) = r1 at *
  generalize decide (x.dst = y.dst) = r2 at *
  generalize decide (x.txn = y.txn) = r3 at *
  generalize decide (x.ts = y.ts) = r4 at *
  generalize decide (x.code = y.code) = r5 at *
  generalize decide (x.text = y.text) = r6 at *
  generalize decide (x.keys = y.keys) = r7 at *
  generalize decide (x.ws = y.ws) = r8 at *
  clear HC1 HC2
  cases r0 with
  | false =>
    go_wp2_with fail
    go_ret
    exact ⟨by rw [E.out]; rfl, HB.out⟩
  | true =>
  cases r1 with
  | false =>
    go_wp2_with fail
    go_ret
    exact ⟨by rw [E.out]; rfl, HB.out⟩
  | true =>
  cases r2 with
  | false =>
    go_wp2_with fail
    go_ret
    exact ⟨by rw [E.out]; rfl, HB.out⟩
  | true =>
  cases r3 with
  | false =>
    go_wp2_with fail
    go_ret
    exact ⟨by rw [E.out]; rfl, HB.out⟩
  | true =>
  cases r4 with
  | false =>
    go_wp2_with fail
    go_ret
    exact ⟨by rw [E.out]; rfl, HB.out⟩
  | true =>
  cases r5 with
  | false =>
    go_wp2_with fail
    go_ret
    exact ⟨by rw [E.out]; rfl, HB.out⟩
  | true =>
  cases r6 with
  | false =>
    go_wp2_with fail
    go_ret
    exact ⟨by rw [E.out]; rfl, HB.out⟩
  | true =>
  cases r7 with
  | false =>
    go_wp2_with fail
    refine (HK.out _ HB.out).mono ?_
    rintro e w2 ⟨rfl, n, rfl⟩
    have HB2 : Hid (Below w.heap.size w (W1.drewN n)) := Lib.hid ⟨HB.out.1, HB.out.2, HB.out.3, HB.out.4, HB.out.5⟩
    go_wp2_with fail
    go_ret
    exact ⟨by rw [E.out]; rfl, HB2.out⟩
  | true =>
    go_wp2_with fail
    refine (HK.out _ HB.out).mono ?_
    rintro e w2 ⟨rfl, n, rfl⟩
    have HB2 : Hid (Below w.heap.size w (W1.drewN n)) := Lib.hid ⟨HB.out.1, HB.out.2, HB.out.3, HB.out.4, HB.out.5⟩
    have k8 : (W1.drewN n).cell? ⟨w.heap.size, 8, none⟩ = some (.slice B x.ws.length d) := p8
    have m8 : (W1.drewN n).cell? ⟨w.heap.size + 1, 8, none⟩ = some (.slice B' y.ws.length d') := q8
    clear HB HK p0 p1 p2 p3 p4 p5 p6 p7 p8 q0 q1 q2 q3 q4 q5 q6 q7 q8
    generalize W1.drewN n = W2 at *
    go_wp2_with fail
    refine (HW.out _ HB2.out).mono ?_
    rintro e w3 ⟨rfl, hb⟩
    have HB3 := Lib.hid (HB2.out.trans (hb.mono HB2.out.size))
    clear hb HB2 HW
    go_wp2_with fail
    go_ret
    exact ⟨by rw [E.out]; simp, HB3.out⟩

end Lt
end Go.Proofs.Ytkpcfakfkcghdaa

/- What the copy of a letter is; contract; no condition but the range. -/
namespace Go.Proofs.Ytkpcfakfkcghdaa
namespace Lt
open Go.RowKit Bk

attribute [local go_sem ↓] Go.wp_at_zero Go.wp_at_succ
attribute [local go_sem] floatUpon pick

/-- append of a row that may be nil onto an owned row, three cells each -/
theorem run_append_opt3 {P : Program} (w : World) (base : Nat) (t ty e : TypeId) (i : TypeInfo) (z : Value) (bytes : Nat) (ht : P.underlying t = some (.slice e)) (hi : P.info? e = some i) (hz : i.zero = some z)
    (hsize : i.size = 3) (hby : i.bytes = bytes) (hzs : z.cells.size = 3) (v : Value) (n : Nat) (xs : List Value) (hown : w.ownsRow base e 3 v n xs)
    (A : Option Addr) (m c : Nat) (news : List Value) (hl : news.length = m * 3) (hA : A = none → m = 0 ∧ c = 0) (hnews : ∀ ad, A = some ad → ∀ j u, news[j]? = some u → w.cell? (ad.add j) = some u) (h1 : ∀ u ∈ news, u.oneCell' = true)
    (h63 : n + m ≤ maxLen) (hbytes : (n + m) * bytes ≤ 140737488355328) (hbase : base ≤ w.heap.size) :
    ∃ v' w', (Builtin.append_ #[t, t] ty #[v, .slice A m c]).run P w = .ok v' w' ∧ w'.ownsRow base e 3 v' (n + m) (xs ++ news) ∧ w.grownBy w' v.ownBlock ∧ (v'.ownBlock = v.ownBlock ∨ v'.ownBlock = some w.heap.size) := by
  cases A with
  | none =>
    obtain ⟨rfl, rfl⟩ := hA rfl
    obtain rfl : news = [] := List.eq_nil_of_length_eq_zero (by omega)
    exact ⟨v, w, run_append_owned_none (P := P) w base t ty e i 3 ht hi _ _ _ hown, by rw [List.append_nil]; exact hown, ⟨rfl, rfl, rfl, Nat.le_refl _, fun _ _ _ => rfl⟩, .inl rfl⟩
  | some ad =>
    obtain ⟨v', w', hr, h2, h3, _, h5⟩ := run_append_own_at (P := P) w base t ty e i z 3 bytes ht hi hz hsize hby hzs (by omega) v n xs hown ad m c news hl (hnews ad rfl) h1 h63 hbytes hbase
    exact ⟨v', w', hr, h2, h3, h5⟩

theorem wpList_append_opt3 {P : Program} {w : World} {ops : Array Oper} {rest : List Oper} {o : Oper} {a : Act} {Q : Exit → Act → World → Prop} (hgd : o.guard = none) (s x : Operand) (t : TypeId)
    (ho : o.op = .call { callee := .builtin .append, args := #[s, x], argTypes := #[t, t] })
    (base : Nat) (e : TypeId) (i : TypeInfo) (z : Value) (bytes : Nat) (ht : P.underlying t = some (.slice e)) (hi : P.info? e = some i) (hz : i.zero = some z)
    (hsize : i.size = 3) (hby : i.bytes = bytes) (hzs : z.cells.size = 3) (v : Value) (n : Nat) (xs : List Value) (hs : a.eval s = v) (hown : w.ownsRow base e 3 v n xs)
    (A : Option Addr) (m c : Nat) (news : List Value) (hx : a.eval x = .slice A m c) (hl : news.length = m * 3) (hA : A = none → m = 0 ∧ c = 0) (hnews : ∀ ad, A = some ad → ∀ j u, news[j]? = some u → w.cell? (ad.add j) = some u) (h1 : ∀ u ∈ news, u.oneCell' = true)
    (h63 : n + m ≤ maxLen) (hbytes : (n + m) * bytes ≤ 140737488355328) (hbase : base ≤ w.heap.size)
    (h : ∀ v' w', w'.ownsRow base e 3 v' (n + m) (xs ++ news) → w.grownBy w' v.ownBlock → (v'.ownBlock = v.ownBlock ∨ v'.ownBlock = some w.heap.size) → wpList P ops Q rest (a.put o.dst v') w') :
    wpList P ops Q (o :: rest) a w := by
  refine wpList_plain hgd fun K hK => ?_
  obtain ⟨v', w', hr, h2, h3, h5⟩ := run_append_opt3 (P := P) w base t o.type e i z bytes ht hi hz hsize hby hzs v n xs hown A m c news hl hA hnews h1 h63 hbytes hbase
  unfold Oper.wp execOp
  simp only [ho, resolve, invoke, builtin, Sem.run_bind, Sem.run_pure, Result.andThen_ok, List.map_toArray, List.map_cons, List.map_nil, hs, hx, hr]
  exact hK _ _ (h v' w' h2 h3 h5)

theorem WrsAt.news {w : World} {ad : Addr} {l : List Wr} (h : WrsAt w (some ad) l) : ∀ j u, (wrV l)[j]? = some u → w.cell? (ad.add j) = some u := fun j u hu => by
  have hj : j < l.length * 3 := by
    have := (List.getElem?_eq_some_iff.1 hu).1
    rwa [wrV_len] at this
  obtain ⟨a', e, _, h3⟩ := h (by omega)
  obtain rfl := Option.some.inj e
  obtain ⟨y0, y1, y2⟩ := wrV_at l (j / 3) (by omega)
  obtain ⟨x0, x1, x2⟩ := h3 (j / 3) (by omega)
  have hc : j % 3 = 0 ∨ j % 3 = 1 ∨ j % 3 = 2 := by omega
  rcases hc with r | r | r
  · have ej : j = j / 3 * 3 := by omega
    rw [← ej] at y0 x0
    rw [y0] at hu; rw [x0]; exact hu
  · have ej : j = j / 3 * 3 + 1 := by omega
    rw [← ej] at y1 x1
    rw [y1] at hu; rw [x1]; exact hu
  · have ej : j = j / 3 * 3 + 2 := by omega
    rw [← ej] at y2 x2
    rw [y2] at hu; rw [x2]; exact hu

theorem wrV_one (l : List Wr) : ∀ u ∈ wrV l, u.oneCell' = true := fun u hu => by
  obtain ⟨x, _, hx⟩ := List.mem_flatMap.1 hu
  simp only [List.mem_cons, List.not_mem_nil, or_false] at hx
  rcases hx with rfl | rfl | rfl <;> rfl

theorem own_wrs {w : World} {H c : Nat} {A : Option Addr} {e : TypeId} {l : List Wr} (h : w.ownsRow H e 3 (.slice A l.length c) l.length (wrV l)) : WrsAt w A l ∧ l.length ≤ c ∧ c ≤ maxLen ∧ (A = none → l = [] ∧ c = 0) := by
  obtain ⟨A', c', e1, h1, h2, h3, h4⟩ := wrs_own h rfl
  simp only [Value.slice.injEq] at e1
  obtain ⟨rfl, _, rfl⟩ := e1
  exact ⟨h1, h2, h3, fun e => ⟨List.eq_nil_of_length_eq_zero (by have := h4 e; omega), h4 e⟩⟩

theorem own_strs {w : World} {H c : Nat} {A : Option Addr} {e : TypeId} {l : List ByteArray} (h : w.ownsRow H e 1 (.slice A l.length c) l.length (strV l)) : StrsAt w A l ∧ l.length ≤ c ∧ c ≤ maxLen ∧ (A = none → l = [] ∧ c = 0) := by
  obtain ⟨A', c', hv, hs⟩ := strs_of_own2 h rfl
  simp only [Value.slice.injEq] at hv
  obtain ⟨rfl, _, rfl⟩ := hv
  rcases h.2 with ⟨h1, h2⟩ | ⟨g, cap, cur, h1, _, _, h3, h4, _⟩
  · simp only [Value.slice.injEq] at h1
    obtain ⟨rfl, hl, rfl⟩ := h1
    exact ⟨hs, by omega, Nat.zero_le _, fun _ => ⟨List.eq_nil_of_length_eq_zero hl, rfl⟩⟩
  · simp only [Value.slice.injEq] at h1
    obtain ⟨rfl, _, rfl⟩ := h1
    exact ⟨hs, h3, h4, fun e => by cases e⟩

theorem set9_own {W : World} {H R s n : Nat} {e : TypeId} {v v0 v1 v2 v3 v4 v5 v6 v7 v8 : Value} {xs : List Value} (h : W.ownsRow H e s v n xs) (hn : v.ownBlock ≠ some R) : (set9 W R v0 v1 v2 v3 v4 v5 v6 v7 v8).ownsRow H e s v n xs :=
  ownsRow_setCell_other (a := ⟨R, 8, none⟩) (ownsRow_setCell_other (a := ⟨R, 7, none⟩) (ownsRow_setCell_other (a := ⟨R, 6, none⟩) (ownsRow_setCell_other (a := ⟨R, 5, none⟩) (ownsRow_setCell_other (a := ⟨R, 4, none⟩) (ownsRow_setCell_other (a := ⟨R, 3, none⟩) (ownsRow_setCell_other (a := ⟨R, 2, none⟩) (ownsRow_setCell_other (a := ⟨R, 1, none⟩) (ownsRow_setCell_other (a := ⟨R, 0, none⟩) h hn _) hn _) hn _) hn _) hn _) hn _) hn _) hn _) hn _

set_option maxRecDepth 20000 in
set_option maxHeartbeats 8000000 in
theorem copy_any (A B : Option Addr) (c d : Nat) (l : Let) (w : World) (h : LetVal w A B c d l) (w40 : l.ws.length * 40 ≤ 140737488351232) :
    Calls Try.prog 23 #[letV l A B c d] w fun e w' => ∃ (A1 B1 : Option Addr) (c1 d1 : Nat), e = .returned (letV l A1 B1 c1 d1) ∧ LetVal w' A1 B1 c1 d1 l ∧ Below w.heap.size w w' := by
  obtain ⟨i0, hi, hz0, hz1, hz2⟩ := info_parts Try.infoStr
  obtain ⟨i1, hi', hz0', hz1', hz2'⟩ := info_parts Try.infoWrite
  have henv := LtEnv.start (c := c) (d := d) h.ks h.ws
  have HV := Lib.hid h
  have k16 : l.keys.length * 16 ≤ 140737488351232 := by have := h.rng.k16; unfold reachBytes at this; omega
  clear h
  unfold letV
  go_enter Try.func23, Try.ntmps23
  go_upto_region 1 with fail
  have hE1 := henv.step ((Below.refl _ _).alloc (Nat.le_refl _) (.cells #[.int .i64 0, .int .i64 0, .int .i64 0, .int .i64 0, .int .i64 0, .int .i64 0, .string ⟨#[]⟩, .slice none 0 0, .slice none 0 0] 35))
  have hR1 : Cel ((w.alloc (.cells #[.int .i64 l.kind, .int .i64 l.src, .int .i64 l.dst, .int .i64 l.txn, .int .i64 l.ts, .int .i64 l.code, .string l.text, .slice A l.keys.length c, .slice B l.ws.length d] 35)).alloc (.cells #[.int .i64 0, .int .i64 0, .int .i64 0, .int .i64 0, .int .i64 0, .int .i64 0, .string ⟨#[]⟩, .slice none 0 0, .slice none 0 0] 35)) (w.heap.size + 1) 35 [.int .i64 0, .int .i64 0, .int .i64 0, .int .i64 0, .int .i64 0, .int .i64 0, .string ⟨#[]⟩, .slice none 0 0, .slice none 0 0] := (blk2 w _ _).2.2
  have hsz1 : w.heap.size + 1 < ((w.alloc (.cells #[.int .i64 l.kind, .int .i64 l.src, .int .i64 l.dst, .int .i64 l.txn, .int .i64 l.ts, .int .i64 l.code, .string l.text, .slice A l.keys.length c, .slice B l.ws.length d] 35)).alloc (.cells #[.int .i64 0, .int .i64 0, .int .i64 0, .int .i64 0, .int .i64 0, .int .i64 0, .string ⟨#[]⟩, .slice none 0 0, .slice none 0 0] 35)).heap.size := hR1.lt
  generalize (w.alloc (.cells #[.int .i64 l.kind, .int .i64 l.src, .int .i64 l.dst, .int .i64 l.txn, .int .i64 l.ts, .int .i64 l.code, .string l.text, .slice A l.keys.length c, .slice B l.ws.length d] 35)).alloc (.cells #[.int .i64 0, .int .i64 0, .int .i64 0, .int .i64 0, .int .i64 0, .int .i64 0, .string ⟨#[]⟩, .slice none 0 0, .slice none 0 0] 35) = W1 at hE1 hR1 hsz1 ⊢
  have HE := Lib.hid hE1
  have HR := Lib.hid hR1
  clear henv hE1 hR1
  have k7 := fun o : Obj => (HE.out.step ((Below.refl _ W1).alloc (Nat.le_refl _) o)).cel.cell (i := 7) rfl
  have hO0 : (W1.alloc (.cells #[] 9)).ownsRow W1.heap.size 9 1 (.slice (some ⟨W1.heap.size, 0, none⟩) 0 0) 0 [] := World.ownsRow_lit (base := W1.heap.size) (e := 9) (size := 1) W1 #[] 0 (Nat.le_refl _) (by unfold maxLen; omega) rfl
  have HO0 := Lib.hid hO0
  have HAn := Lib.hid (show A = none → l.keys.length = 0 ∧ c = 0 from fun e => by
    obtain ⟨h1, h2⟩ := HV.out.kn e
    exact ⟨by rw [h1]; rfl, h2⟩)
  have HBn := Lib.hid (show B = none → l.ws.length = 0 ∧ d = 0 from fun e => by
    obtain ⟨h1, h2⟩ := HV.out.wn e
    exact ⟨by rw [h1]; rfl, h2⟩)
  clear hO0
  go_wp2_with (at_builtin; refine wpList_append_opt rfl _ _ 32 rfl W1.heap.size 9 i0 (.string ⟨#[]⟩) 16 Try.underlying32 hi hz0 hz1 hz2 rfl _ 0 _ rfl HO0.out A l.keys.length c (strV l.keys) rfl (strV_len _) HAn.out ?c1 ?c2 ?c3 ?c4 (by simp) ?_)
  case c1 => exact fun ad e => by subst e; exact (HE.out.ks.alloc _).news
  case c2 => intro u hu; obtain ⟨s, _, rfl⟩ := List.mem_map.1 hu; rfl
  case c3 => unfold maxLen; omega
  case c4 => omega
  intro v' w3 ho hg hat
  have hb3 : Below W1.heap.size W1 w3 := ((Below.refl _ W1).alloc (Nat.le_refl _) (.cells #[] 9)).grown hg (by simp) (fun k hk => (HO0.out.lt k hk).1)
  have hX3 := hb3.size
  obtain ⟨A1, c1, rfl, f1, f2⟩ := Pk.own_form ho
  have hE3 := HE.out.step hb3
  have hR3 := HR.out.below hb3
  have kq := fun i => hE3.cel.free (i := i)
  have k3 := hE3.cel.cell (i := 7) rfl
  have hN : (Value.slice A1 l.keys.length c1).ownBlock ≠ some w.heap.size := fun e => by have := (ho.lt _ e).1; omega
  have hN2 : (Value.slice A1 l.keys.length c1).ownBlock ≠ some (w.heap.size + 1) := fun e => by have := (ho.lt _ e).1; omega
  have HO3 := Lib.hid ho
  have HE3 := Lib.hid hE3
  have HR3 := Lib.hid hR3
  have HN := Lib.hid hN
  have HN2 := Lib.hid hN2
  clear ho hg hat hb3 hE3 hR3 hN hN2 k7 HO0 HE HR f1 f2
  go_upto_region 2 with fail
  have hC4 : Cel (w3.setCell ⟨w.heap.size, 7, none⟩ (.slice A1 l.keys.length c1)) w.heap.size 35 [.int .i64 l.kind, .int .i64 l.src, .int .i64 l.dst, .int .i64 l.txn, .int .i64 l.ts, .int .i64 l.code, .string l.text, .slice A1 l.keys.length c1, .slice B l.ws.length d] := HE3.out.cel.set
  have hR4 : Cel (w3.setCell ⟨w.heap.size, 7, none⟩ (.slice A1 l.keys.length c1)) (w.heap.size + 1) 35 _ := HR3.out.far (by omega)
  have hO4 := ownsRow_setCell_other (a := ⟨w.heap.size, 7, none⟩) HO3.out HN.out (.slice A1 l.keys.length c1)
  have hB4 := HE3.out.bel.setCell (p := ⟨w.heap.size, 7, none⟩) (Nat.le_refl _) (.slice A1 l.keys.length c1)
  have hX4 : W1.heap.size ≤ (w3.setCell ⟨w.heap.size, 7, none⟩ (.slice A1 l.keys.length c1)).heap.size := by simpa using hX3
  generalize w3.setCell ⟨w.heap.size, 7, none⟩ (.slice A1 l.keys.length c1) = W4 at hC4 hR4 hO4 hB4 hX4 ⊢
  have HC4 := Lib.hid hC4
  have HR4 := Lib.hid hR4
  have HO4 := Lib.hid hO4
  have HB4 := Lib.hid hB4
  have k8 := fun o : Obj => (HC4.out.below ((Below.refl _ W4).alloc (Nat.le_refl _) o)).cell (i := 8) rfl
  have hO0 : (W4.alloc (.cells #[] 82)).ownsRow W4.heap.size 82 3 (.slice (some ⟨W4.heap.size, 0, none⟩) 0 0) 0 [] := World.ownsRow_lit (base := W4.heap.size) (e := 82) (size := 3) W4 #[] 0 (Nat.le_refl _) (by unfold maxLen; omega) rfl
  have HO0 := Lib.hid hO0
  have HWs := Lib.hid (HV.out.ws.below HB4.out)
  clear hC4 hR4 hO4 hB4 hO0 HO3 HE3 HR3 kq k3 hX3
  go_wp2_with (at_builtin; refine wpList_append_opt3 rfl _ _ 33 rfl W4.heap.size 82 i1 (.agg #[.string ⟨#[]⟩, .string ⟨#[]⟩, .bool false]) 40 Try.underlying33 hi' hz0' hz1' hz2' rfl _ 0 _ rfl HO0.out B l.ws.length d (wrV l.ws) rfl (wrV_len _) HBn.out ?d1 ?d2 ?d3 ?d4 (by simp) ?_)
  case d1 => exact fun ad e => by subst e; exact (HWs.out.alloc _).news
  case d2 => exact wrV_one _
  case d3 => unfold maxLen; omega
  case d4 => omega
  intro v' w5 ho hg hat
  have hb5 : Below W4.heap.size W4 w5 := ((Below.refl _ W4).alloc (Nat.le_refl _) (.cells #[] 82)).grown hg (by simp) (fun k hk => (HO0.out.lt k hk).1)
  obtain ⟨B1, d1, rfl⟩ : ∃ B1 d1, v' = .slice B1 l.ws.length d1 := by
    obtain ⟨B1, d1, e, _⟩ := wrs_own ho rfl
    exact ⟨B1, d1, e⟩
  have hC5 := HC4.out.below hb5
  have hR5 := HR4.out.below hb5
  have hO5 := st_keep HO4.out hb5
  have hB5 := HB4.out.trans (hb5.mono HB4.out.size)
  have hM : (Value.slice B1 l.ws.length d1).ownBlock ≠ some w.heap.size := fun e => by have := (ho.lt _ e).1; omega
  have hM2 : (Value.slice B1 l.ws.length d1).ownBlock ≠ some (w.heap.size + 1) := fun e => by have := (ho.lt _ e).1; omega
  have kq := fun i => hC5.free (i := i)
  have k3 := hC5.cell (i := 8) rfl
  have hC6 : Cel (w5.setCell ⟨w.heap.size, 8, none⟩ (.slice B1 l.ws.length d1)) w.heap.size 35 [.int .i64 l.kind, .int .i64 l.src, .int .i64 l.dst, .int .i64 l.txn, .int .i64 l.ts, .int .i64 l.code, .string l.text, .slice A1 l.keys.length c1, .slice B1 l.ws.length d1] := hC5.set
  have hR6 : Cel (w5.setCell ⟨w.heap.size, 8, none⟩ (.slice B1 l.ws.length d1)) (w.heap.size + 1) 35 _ := hR5.far (by omega)
  have hO6 := ownsRow_setCell_other (a := ⟨w.heap.size, 8, none⟩) hO5 HN.out (.slice B1 l.ws.length d1)
  have hP6 := ownsRow_setCell_other (a := ⟨w.heap.size, 8, none⟩) ho hM (.slice B1 l.ws.length d1)
  have hB6 := hB5.setCell (p := ⟨w.heap.size, 8, none⟩) (Nat.le_refl _) (.slice B1 l.ws.length d1)
  have HR6 := Lib.hid hR6
  have HC6 := Lib.hid hC6
  have HO6 := Lib.hid hO6
  have HP6 := Lib.hid hP6
  have HB6 := Lib.hid hB6
  have HM2 := Lib.hid hM2
  clear ho hg hat hb5 hC5 hR5 hO5 hB5 hM hM2 hC6 hR6 hO6 hP6 hB6 k8 HO0 HC4 HR4 HO4 HB4 HWs
  go_upto_region 3 with fail
  generalize w5.setCell ⟨w.heap.size, 8, none⟩ (.slice B1 l.ws.length d1) = W6 at HR6 HC6 HO6 HP6 HB6 ⊢
  clear kq k3
  have k0 := HC6.out.cell (i := 0) rfl
  have k1 := HC6.out.cell (i := 1) rfl
  have k2 := HC6.out.cell (i := 2) rfl
  have k3 := HC6.out.cell (i := 3) rfl
  have k4 := HC6.out.cell (i := 4) rfl
  have k5 := HC6.out.cell (i := 5) rfl
  have k6 := HC6.out.cell (i := 6) rfl
  have k7 := HC6.out.cell (i := 7) rfl
  have k8 := HC6.out.cell (i := 8) rfl
  have q0 := HR6.out.cell (i := 0) rfl
  have q1 := HR6.out.cell (i := 1) rfl
  have q2 := HR6.out.cell (i := 2) rfl
  have q3 := HR6.out.cell (i := 3) rfl
  have q4 := HR6.out.cell (i := 4) rfl
  have q5 := HR6.out.cell (i := 5) rfl
  have q6 := HR6.out.cell (i := 6) rfl
  have q7 := HR6.out.cell (i := 7) rfl
  have q8 := HR6.out.cell (i := 8) rfl
  have zq := fun i => HR6.out.free (i := i)
  go_wp2_with fail
  have HF := Lib.hid (set9_cel (v0 := .int .i64 l.kind) (v1 := .int .i64 l.src) (v2 := .int .i64 l.dst) (v3 := .int .i64 l.txn) (v4 := .int .i64 l.ts) (v5 := .int .i64 l.code) (v6 := .string l.text) (v7 := .slice A1 l.keys.length c1) (v8 := .slice B1 l.ws.length d1) HR6.out)
  have z0 := HF.out.cell (i := 0) rfl
  have z1 := HF.out.cell (i := 1) rfl
  have z2 := HF.out.cell (i := 2) rfl
  have z3 := HF.out.cell (i := 3) rfl
  have z4 := HF.out.cell (i := 4) rfl
  have z5 := HF.out.cell (i := 5) rfl
  have z6 := HF.out.cell (i := 6) rfl
  have z7 := HF.out.cell (i := 7) rfl
  have z8 := HF.out.cell (i := 8) rfl
  have HO7 := Lib.hid (set9_own (v0 := .int .i64 l.kind) (v1 := .int .i64 l.src) (v2 := .int .i64 l.dst) (v3 := .int .i64 l.txn) (v4 := .int .i64 l.ts) (v5 := .int .i64 l.code) (v6 := .string l.text) (v7 := .slice A1 l.keys.length c1) (v8 := .slice B1 l.ws.length d1) HO6.out HN2.out)
  have HP7 := Lib.hid (set9_own (v0 := .int .i64 l.kind) (v1 := .int .i64 l.src) (v2 := .int .i64 l.dst) (v3 := .int .i64 l.txn) (v4 := .int .i64 l.ts) (v5 := .int .i64 l.code) (v6 := .string l.text) (v7 := .slice A1 l.keys.length c1) (v8 := .slice B1 l.ws.length d1) HP6.out HM2.out)
  unfold set9 at z0 z1 z2 z3 z4 z5 z6 z7 z8
  have hk := own_strs HO7.out
  have hw := own_wrs HP7.out
  exact bodyPost_ret (v := letV l A1 B1 c1 d1) (by simp [results, Try.results23, go_sem, letV, z0, z1, z2, z3, z4, z5, z6, z7, z8]) rfl
    ⟨A1, B1, c1, d1, rfl, ⟨hk.1, hw.1, ⟨HV.out.rng.toLetRng, hk.2.1, hw.2.1, hk.2.2.1, hw.2.2.1⟩, hk.2.2.2, hw.2.2.2⟩, set9_below HB6.out (Nat.le_succ _)⟩

end Lt
end Go.Proofs.Ytkpcfakfkcghdaa

/- A letter as an argument, its writes counted at forty bytes each: what its reading says. -/
namespace Go.Proofs.Ytkpcfakfkcghdaa
namespace Lt
open Go.ChangeShapes Go.WideShapes Go.ChangeAt Go.RowKit Go.Joins Go.Deep Bk

section
variable {H : Type} {enc : TypeId × Value → H} {W : World}

set_option maxRecDepth 20000 in
theorem field_writes40 {t e : TypeId} {f0 f1 f2 : Field} {v : Value} {fuel : Nat} {y : DataW H × List MemPlace} (ht : Try.prog.underlying t = some (.slice e)) (he : Try.prog.underlying e = some (.struct #[f0, f1, f2])) (ce : Try.prog.cellsOf e = 3) (hone : oneCellFields Try.prog #[f0, f1, f2] = true)
    (t0 : Try.prog.underlying f0.type = some .string) (t1 : Try.prog.underlying f1.type = some .string) (t2 : Try.prog.underlying f2.type = some .bool) (hb40 : 40 ≤ Try.prog.bytesOf e)
    (hf : DataW.trod enc Try.prog W 0 (fun _ => true) true fuel t [v] = some y) (hwt : ∀ k ∈ y.1.weights Try.prog t, k ≤ reachBytes) (hl : ∀ x ∈ y.2, x.block < W.heap.size) :
    ∃ (A : Option Addr) (c : Nat) (L : List Wr), v = .slice A L.length c ∧ WrsAt W A L ∧ L.length * 40 ≤ reachBytes ∧ L.length ≤ c ∧ c ≤ maxLen ∧ (∀ x ∈ L, x.key.size ≤ reachBytes ∧ x.shard.size ≤ reachBytes) ∧ (A = none → L = [] ∧ c = 0) := by
  rcases open_slice ht hf with ⟨hcs, _⟩ | ⟨a, len, cap, m, n, D, Pl, hcs, _, hl', hm, hmm, hx, hall⟩
  · obtain rfl : v = .slice none 0 0 := by simpa using hcs
    exact ⟨none, 0, [], rfl, fun h => absurd h (by simp), by simp, by simp, Nat.zero_le _, by simp, fun _ => ⟨rfl, rfl⟩⟩
  · obtain rfl : v = .slice (some a) len cap := by simpa using hcs
    subst hx
    simp only [if_true] at hmm
    subst hmm
    have each : ∀ i, i < len → ∃ q : Wr, W.cell? (a.add (i * 3)) = some (.string q.key) ∧ W.cell? (a.add (i * 3 + 1)) = some (.string q.shard) ∧ W.cell? (a.add (i * 3 + 2)) = some (.bool q.dead) ∧ q.key.size ≤ reachBytes ∧ q.shard.size ≤ reachBytes := by
      intro i hi
      obtain ⟨cs', h1, h2⟩ := hall i (by omega)
      rw [ce] at h1
      obtain ⟨_, hlen, hcell⟩ := World.cells?_some h1
      have hwi : ∀ k ∈ (D i).weights Try.prog e, k ≤ reachBytes := fun k hk => hwt k (by
        simp only [DataW.weights, ht, List.mem_cons, List.mem_append]
        refine .inr (.inl ?_)
        have : ∀ (ds : List (DataW H)), D i ∈ ds → k ∈ DataW.weightsAll Try.prog e ds := by
          intro ds
          induction ds with
          | nil => intro h; simp at h
          | cons x r ih =>
            intro h
            show k ∈ x.weights Try.prog e ++ DataW.weightsAll Try.prog e r
            rw [List.mem_append]
            rcases List.mem_cons.1 h with rfl | h
            · exact .inl hk
            · exact .inr (ih h)
        exact this _ (List.mem_map.2 ⟨i, List.mem_range.2 hi, rfl⟩))
      obtain ⟨xs, k, _, hxy, _, hxl, hff⟩ := DataW.trod_struct he h2
      obtain ⟨o0, c0⟩ := hone_of hone 0 f0 rfl
      obtain ⟨o1, c1⟩ := hone_of hone 1 f1 rfl
      obtain ⟨o2, c2⟩ := hone_of hone 2 f2 rfl
      match xs, hxl, cs', hlen with
      | [y0, y1, y2], _, [v0, v1, v2], _ =>
        have g0 := hff 0 f0 rfl
        have g1 := hff 1 f1 rfl
        have g2 := hff 2 f2 rfl
        simp [o0, o1, o2, c0, c1, c2] at g0 g1 g2
        simp only [Prod.mk.injEq] at hxy
        rw [hxy.1] at hwi
        obtain ⟨k0, rfl, s0⟩ := field_text t0 g0 (agg_weights (i := 0) he rfl rfl hwi)
        obtain ⟨k1, rfl, s1⟩ := field_text t1 g1 (agg_weights (i := 1) he rfl rfl hwi)
        obtain ⟨k2, rfl⟩ := field_bool t2 g2
        have e0 := hcell 0 (by omega)
        have e1 := hcell 1 (by omega)
        have e2 := hcell 2 (by omega)
        rw [add_add] at e0 e1 e2
        exact ⟨⟨k0, k1, k2⟩, by simpa using e0, by simpa using e1, by simpa using e2, s0, s1⟩
    obtain ⟨q, hq⟩ := choose_lt each
    have hL : ((List.range len).map q).length = len := by simp
    have hat : ∀ i (h : i < ((List.range len).map q).length), ((List.range len).map q)[i] = q i := fun i h => by simp
    have hs := hwt ((((List.range len).map D).length + ((List.range (m - len)).map fun j => D (len + j)).length) * Try.prog.bytesOf e) (by simp [DataW.weights, ht])
    refine ⟨some a, m, (List.range len).map q, by rw [hL], fun hpos => ⟨a, rfl, ?_, fun i hi => ?_⟩, ?_, by rw [hL]; exact hl', hm, fun x hx => ?_, fun h => by cases h⟩
    · obtain ⟨b, off, spot⟩ := a
      rw [hL] at hpos
      exact hl (.cell b off) (List.mem_append_left _ (MemPlace.mem_row.2 ⟨0, by rw [ce]; omega, by simp⟩))
    · rw [hat i hi]
      have := hq i (by rw [hL] at hi; exact hi)
      exact ⟨this.1, this.2.1, this.2.2.1⟩
    · rw [hL]
      refine Nat.le_trans (Nat.mul_le_mul ?_ hb40) hs
      rw [List.length_map, List.length_range]
      omega
    · obtain ⟨i, hi, rfl⟩ := List.mem_map.1 hx
      exact (hq i (List.mem_range.1 hi)).2.2.2

/-- .. and forty bytes for each of its writes -/
def LetArg2 (w : World) (v : Value) (l : Let) : Prop :=
  ∃ (A B : Option Addr) (c d : Nat), v = letV l A B c d ∧ StrsAt w A l.keys ∧ WrsAt w B l.ws ∧ LetRange l c d ∧ (A = none → l.keys = [] ∧ c = 0) ∧ (B = none → l.ws = [] ∧ d = 0) ∧ l.ws.length * 40 ≤ reachBytes

set_option maxRecDepth 20000 in
theorem open_letter2 {base : Nat} {v : Value} {d : DataW H} {p : List MemPlace} {ts : List TypeId} {ds : List (DataW H)} {j : Nat}
    (hsz : (DataW.weightsEach Try.prog ts ds).all (· ≤ reachBytes) = true) (hj : ts[j]? = some 35) (hd : ds[j]? = some d)
    (hv : Value.okWide Try.prog W .any base 35 v) (h : DataW.Trod enc Try.prog W 0 (fun _ => true) true 35 v d p) (hl : ∀ x ∈ p, x.block < W.heap.size) : ∃ l, LetArg2 W v l := by
  obtain ⟨cs, xs, n, rfl, hcl, rfl, rfl, hxl, hall⟩ := open_agg_any Try.underlying35 (by kernel_rfl) (by kernel_rfl) hv h
  have hw := arg_weights hsz hj hd
  match cs, hcl, xs, hxl with
  | [v0, v1, v2, v3, v4, v5, v6, v7, v8], _, [y0, y1, y2, y3, y4, y5, y6, y7, y8], _ =>
    obtain ⟨kind, rfl, r0⟩ := field_int Try.underlying3 (hall 0 _ _ _ rfl rfl rfl)
    obtain ⟨src, rfl, r1⟩ := field_int Try.underlying3 (hall 1 _ _ _ rfl rfl rfl)
    obtain ⟨dst, rfl, r2⟩ := field_int Try.underlying3 (hall 2 _ _ _ rfl rfl rfl)
    obtain ⟨txn, rfl, r3⟩ := field_int Try.underlying3 (hall 3 _ _ _ rfl rfl rfl)
    obtain ⟨ts', rfl, r4⟩ := field_int Try.underlying3 (hall 4 _ _ _ rfl rfl rfl)
    obtain ⟨code, rfl, r5⟩ := field_int Try.underlying3 (hall 5 _ _ _ rfl rfl rfl)
    obtain ⟨text, rfl, r6⟩ := field_text Try.underlying9 (hall 6 _ _ _ rfl rfl rfl) (agg_weights (i := 6) Try.underlying35 rfl rfl hw)
    obtain ⟨A, c, K, rfl, a1, a2, a3, a4, a5, a6⟩ := field_texts Try.underlying32 Try.underlying9 (by kernel_rfl) (by kernel_rfl) (hall 7 _ _ _ rfl rfl rfl) (agg_weights (i := 7) Try.underlying35 rfl rfl hw) (fun x hx => hl x (List.mem_flatMap.2 ⟨y7, by simp, hx⟩))
    obtain ⟨B, d, L, rfl, b1, b2, b3, b4, b5, b6⟩ := field_writes40 Try.underlying33 Try.underlying82 (by kernel_rfl) (by kernel_rfl) Try.underlying9 Try.underlying9 Try.underlying4 (of_decide_eq_true (by kernel_rfl)) (hall 8 _ _ _ rfl rfl rfl) (agg_weights (i := 8) Try.underlying35 rfl rfl hw) (fun x hx => hl x (List.mem_flatMap.2 ⟨y8, by simp, hx⟩))
    exact ⟨⟨kind, src, dst, txn, ts', code, text, K, L⟩, A, B, c, d, rfl, a1, b1, ⟨⟨r0, r1, r2, r3, r4, r5, r6, a2, Nat.le_trans (Nat.mul_le_mul_left _ (by omega)) b2, a5, b5⟩, a3, b3, a4, b4⟩, a6, b6, b2⟩

end

end Lt
end Go.Proofs.Ytkpcfakfkcghdaa

/- What the landed package's within, isAddress, Key and Rising answer; contracts; no condition but the range. -/
namespace Go.Proofs.Ytkpcfakfkcghdaa
namespace Lt
open Go.RowKit Bk

attribute [local go_sem ↓] Go.wp_at_zero Go.wp_at_succ
attribute [local go_sem] floatUpon pick

set_option maxHeartbeats 1000000 in
theorem within_any (n a b : Int) (w : World) :
    Calls Try.prog 62 #[.int .i64 n, .int .i64 a, .int .i64 b] w fun e w' => e = .returned (.bool (decide (a ≤ n) && decide (n ≤ b))) ∧ w' = w := by
  by_cases h1 : a ≤ n
  · have E := Lib.hid (show (decide (a ≤ n) && decide (n ≤ b)) = decide (n ≤ b) by rw [decide_eq_true h1, Bool.true_and])
    go_enter Try.func62, Try.ntmps62
    go_wp2_with fail
    go_ret
    exact ⟨by rw [E.out]; rfl, rfl⟩
  · have E := Lib.hid (show (decide (a ≤ n) && decide (n ≤ b)) = false by rw [decide_eq_false h1, Bool.false_and])
    have h2 : n < a := by omega
    clear h1
    go_enter Try.func62, Try.ntmps62
    go_wp2_with fail
    go_ret
    exact ⟨by rw [E.out]; rfl, rfl⟩

set_option maxHeartbeats 1000000 in
theorem isAddress_any (n : Int) (w : World) :
    Calls Try.prog 64 #[.int .i64 n] w fun e w' => e = .returned (.bool (decide (addr n))) ∧ w' = w := by
  have H1 := Lib.hid (within_any n 0 11 w)
  have H2 := Lib.hid (within_any n 100 115 w)
  by_cases h1 : 0 ≤ n ∧ n ≤ 11
  · have E := Lib.hid (show decide (addr n) = true by rw [decide_eq_true_eq]; unfold addr; omega)
    rw [show (decide (0 ≤ n) && decide (n ≤ 11)) = true by simp [h1]] at H1
    clear h1 H2
    go_enter Try.func64, Try.ntmps64
    go_wp2_with fail
    refine H1.out.mono ?_
    rintro e w1 ⟨rfl, rfl⟩
    go_wp2_with fail
    go_ret
    exact ⟨by rw [E.out]; rfl, rfl⟩
  · have E := Lib.hid (show decide (addr n) = (decide (100 ≤ n) && decide (n ≤ 115)) by rw [← Bool.decide_and]; unfold addr; congr 1; exact propext ⟨fun h => by omega, fun h => by omega⟩)
    rw [show (decide (0 ≤ n) && decide (n ≤ 11)) = false by rw [← Bool.decide_and, decide_eq_false h1]] at H1
    clear h1
    generalize (decide (100 ≤ n) && decide (n ≤ 115)) = b at E H2
    go_enter Try.func64, Try.ntmps64
    go_wp2_with fail
    refine H1.out.mono ?_
    rintro e w1 ⟨rfl, rfl⟩
    go_wp2_with fail
    refine H2.out.mono ?_
    rintro e w1 ⟨rfl, rfl⟩
    go_wp2_with fail
    go_ret
    exact ⟨by rw [E.out]; rfl, rfl⟩

set_option maxHeartbeats 1000000 in
theorem lkey_any (s : ByteArray) (w : World) (hs : s.size ≤ 9223372036854775807) :
    Calls Try.prog 91 #[.string s] w fun e w' => e = .returned (.bool (decide (keyOk s))) ∧ w' = w := by
  have H1 := Lib.hid (within_any (s.size : Int) 1 32 w)
  rw [show (decide ((1 : Int) ≤ (s.size : Int)) && decide ((s.size : Int) ≤ 32)) = decide (keyOk s) by rw [← Bool.decide_and]; unfold keyOk; congr 1; exact propext ⟨fun h => by omega, fun h => by omega⟩] at H1
  go_enter Try.func91, Try.ntmps91
  go_wp2_with fail
  refine H1.out.mono ?_
  rintro e w1 ⟨rfl, rfl⟩
  go_wp2_with fail
  go_ret
  exact ⟨rfl, rfl⟩

theorem bytesLess_nil (l : List UInt8) : Op.bytesLess l [] = false := by
  cases l <;> rfl

theorem leT_nil {s : ByteArray} (h : 1 ≤ s.size) : leT s ⟨#[]⟩ = false := by
  unfold leT
  rw [ByteArray.toList_eq, ByteArray.toList_eq]
  show (Op.bytesLess s.data.toList [] || s.data.toList == []) = false
  rw [bytesLess_nil, Bool.false_or]
  obtain ⟨a⟩ := s
  have h2 : 1 ≤ a.size := h
  rw [beq_eq_false_iff_ne]
  intro e
  have := congrArg List.length e
  simp at this
  rw [this] at h2
  simp at h2

/-- the text ahead of place j -/
def aheadT (l : List ByteArray) (j : Nat) : ByteArray := if j = 0 then ⟨#[]⟩ else l.getD (j - 1) ⟨#[]⟩

theorem ahead_succ {l : List ByteArray} {j : Nat} (h : j < l.length) : aheadT l (j + 1) = l[j] := by
  unfold aheadT
  rw [if_neg (by omega), Nat.add_sub_cancel, List.getD_eq_getElem?_getD, List.getElem?_eq_getElem h]; rfl

theorem ahead_le {l : List ByteArray} {j : Nat} (h : j < l.length) (hk : keyOk l[j]) : leT l[j] (aheadT l j) = true ↔ ∃ h0 : 0 < j, leT l[j] (l[j - 1]'(by omega)) = true := by
  unfold aheadT
  by_cases h0 : j = 0
  · subst h0
    rw [if_pos rfl, leT_nil hk.1]
    exact ⟨fun e => (by cases e), fun ⟨e, _⟩ => absurd e (by omega)⟩
  · rw [if_neg h0, List.getD_eq_getElem?_getD, List.getElem?_eq_getElem (by omega)]
    exact ⟨fun e => ⟨by omega, e⟩, fun ⟨_, e⟩ => e⟩

set_option maxRecDepth 20000 in
set_option maxHeartbeats 4000000 in
theorem lrising_any (A : Option Addr) (c : Nat) (l : List ByteArray) (w : World) (h : StrsAt w A l) (hn : l.length ≤ 9223372036854775807) (hr : ∀ s ∈ l, s.size ≤ 9223372036854775807) :
    Calls Try.prog 82 #[.slice A l.length c] w fun e w' => e = .returned (.bool (risesB l)) ∧ Below w.heap.size w w' := by
  have HA := Lib.hid h
  have HRr := Lib.hid hr
  clear h hr
  go_enter Try.func82, Try.ntmps82
  go_wp2_with fail
  go_loopw [3, 8] (fun u i wr => ∃ j : Nat, j ≤ l.length ∧ u = .string (aheadT l j) ∧ i = .int .i64 (j : Int) ∧ Hid (RisesTo l j) ∧ wr = w) (fun _ i _ => l.length - (intOf i).toNat)
  case atStart => exact ⟨0, by omega, rfl, rfl, RisesTo.zero l, rfl⟩
  case round =>
    obtain ⟨j, hj, rfl, rfl, hup, rfl⟩ := hrel
    by_cases hlt : j < l.length
    · have pj : (j : Int) < (l.length : Int) := by omega
      obtain ⟨ad, rfl, hab, hcl⟩ := HA.out (by omega)
      have x1 := hcl j hlt
      have HK := Lib.hid (fun W => lkey_any l[j] W (HRr.out _ (List.getElem_mem hlt)))
      have hsu := ahead_succ hlt
      by_cases hk : keyOk l[j]
      · rw [show decide (keyOk l[j]) = true by simpa using hk] at HK
        have hle := ahead_le hlt hk
        cases hb : leT l[j] (aheadT l j) with
        | true =>
          have E := Lib.hid (risesB_false (not_rises hlt (fun hh => by
            obtain ⟨h0, e⟩ := hle.1 hb
            have := hh.2 h0
            rw [e] at this; cases this)))
          have hle2 : (Op.bytesLess l[j].toList (aheadT l j).toList || l[j].toList == (aheadT l j).toList) = true := hb
          generalize aheadT l j = u at *
          generalize l[j] = x at *
          clear hup hk hle hb hcl hsu
          go_wp2_with fail
          refine (HK.out _).mono ?_
          rintro e w' ⟨rfl, rfl⟩
          go_wp2_with fail
          go_ret
          exact ⟨by rw [E.out]; rfl, Below.refl _ _⟩
        | false =>
          have HU := Lib.hid (hup.out.succ hlt hk (fun h0 => by
            cases e : leT l[j] (l[j - 1]'(by omega)) with
            | false => rfl
            | true => have := hle.2 ⟨h0, e⟩; rw [hb] at this; cases this))
          have hle2 : (Op.bytesLess l[j].toList (aheadT l j).toList || l[j].toList == (aheadT l j).toList) = false := hb
          have HSu := Lib.hid hsu
          generalize aheadT l j = u at *
          generalize l[j] = x at *
          clear hup hk hle hb hcl hsu
          go_wp2_with fail
          refine (HK.out _).mono ?_
          rintro e w' ⟨rfl, rfl⟩
          go_wp2_with fail
          go_roundw
          case rel => exact ⟨j + 1, by omega, by rw [HSu.out], by go_num, HU.out, trivial⟩
          case measure => simp [intOf]; omega
      · rw [show decide (keyOk l[j]) = false by simpa using hk] at HK
        have E := Lib.hid (risesB_false (not_rises hlt (fun hh => hk hh.1)))
        generalize aheadT l j = u at *
        generalize l[j] = x at *
        clear hup hk hcl hsu
        go_wp2_with fail
        refine (HK.out _).mono ?_
        rintro e w' ⟨rfl, rfl⟩
        go_wp2_with fail
        go_ret
        exact ⟨by rw [E.out]; rfl, Below.refl _ _⟩
    · obtain rfl : j = l.length := by omega
      have E := Lib.hid (risesB_true hup.out.all)
      clear hup
      go_wp2_with fail
      go_ret
      exact ⟨by rw [E.out]; rfl, Below.refl _ _⟩

end Lt
end Go.Proofs.Ytkpcfakfkcghdaa
