/- Parts of the proof, joined: LtPairs, LtCand, LtLaw, LtBook, LtBackW, SuLaw2, SuTurn, LtDone1, LtDone2; their conditions stand with each. -/
import Derived.OneCell
import Derived.Test.YtjehjbkcdpidbaaB2
import Derived.Test.YtjehjbkcdpidbaaB8
import Derived.Test.YtjehjbkcdpidbaaB9

/- What the document's own Pairs answers: writes of flags and texts; contract; no condition but the range. -/
namespace Go.Proofs.Ytjehjbkcdpidbaa
namespace Lt
open Go.RowKit Bk

attribute [local go_sem ↓] Go.wp_at_zero Go.wp_at_succ
attribute [local go_sem] floatUpon pick

theorem Try.infoWrite : (Try.prog.info? 124).map (fun i => (i.zero, i.size, i.bytes)) = some (some (.agg #[.string ⟨#[]⟩, .string ⟨#[]⟩, .bool false]), 3, 40) := by kernel_rfl

/-- a row's cells -/
def wrV (l : List Wr) : List Value := l.flatMap fun x => [.string x.key, .string x.shard, .bool x.dead]

theorem wrV_len (l : List Wr) : (wrV l).length = l.length * 3 := by
  induction l with
  | nil => rfl
  | cons x r ih =>
    show ([_, _, _] ++ wrV r).length = _
    rw [List.length_append, ih, List.length_cons]
    simp; omega

theorem wrV_snoc (l : List Wr) (x : Wr) : wrV (l ++ [x]) = wrV l ++ [.string x.key, .string x.shard, .bool x.dead] := by
  unfold wrV
  rw [List.flatMap_append]; rfl

theorem wrV_at : ∀ (l : List Wr) (i : Nat) (h : i < l.length), (wrV l)[i * 3]? = some (.string l[i].key) ∧ (wrV l)[i * 3 + 1]? = some (.string l[i].shard) ∧ (wrV l)[i * 3 + 2]? = some (.bool l[i].dead)
  | [], _, h => absurd h (by simp)
  | x :: r, 0, _ => ⟨rfl, rfl, rfl⟩
  | x :: r, i + 1, h => by
    have ih := wrV_at r i (by simpa using h)
    have e : wrV (x :: r) = .string x.key :: .string x.shard :: .bool x.dead :: wrV r := rfl
    rw [e, show (i + 1) * 3 = i * 3 + 3 by omega]
    exact ih

theorem wrs_own {w : World} {H n : Nat} {v : Value} {e : TypeId} {l : List Wr} (h : w.ownsRow H e 3 v n (wrV l)) (hl : n = l.length) : ∃ (A : Option Addr) (c : Nat), v = .slice A n c ∧ WrsAt w A l ∧ n ≤ c ∧ c ≤ maxLen ∧ (A = none → c = 0) := by
  rcases h.2 with ⟨rfl, rfl⟩ | ⟨g, cap, cur, rfl, _, hg, h1, h2, hsz, htk⟩
  · exact ⟨none, 0, rfl, fun hp => by omega, Nat.le_refl _, Nat.zero_le _, fun _ => rfl⟩
  · refine ⟨_, cap, rfl, fun _ => ⟨_, rfl, (Array.getElem?_eq_some_iff.1 hg).1, fun i hi => ?_⟩, h1, h2, fun e => by cases e⟩
    obtain ⟨x0, x1, x2⟩ := wrV_at l i hi
    have hlen : (wrV l).length = n * 3 := by rw [wrV_len, hl]
    have hc : ∀ j u, (wrV l)[j]? = some u → w.cell? ((⟨g, 0, none⟩ : Addr).add j) = some u := fun j u hu => by
      rw [addr_head]
      refine blk_cell hg ?_
      have hj := (List.getElem?_eq_some_iff.1 hu).1
      rw [← htk, List.getElem?_take_of_lt (by omega)] at hu
      rw [← Array.getElem?_toList]; exact hu
    exact ⟨hc _ _ x0, hc _ _ x1, hc _ _ x2⟩

/-- the writes of flags and texts -/
def pairL : List Int → List ByteArray → List Wr
  | f :: fs, k :: s :: ts => ⟨k, s, f == 1⟩ :: pairL fs ts
  | _, _ => []

theorem pairL_len : ∀ (fs : List Int) (ts : List ByteArray), ts.length = 2 * fs.length → (pairL fs ts).length = fs.length
  | [], _, _ => by simp [pairL]
  | f :: fs, [], h => by simp at h
  | f :: fs, [k], h => by simp at h; omega
  | f :: fs, k :: s :: ts, h => by
    rw [pairL, List.length_cons, List.length_cons, pairL_len fs ts (by simp at h; omega)]

theorem pairL_at : ∀ (fs : List Int) (ts : List ByteArray) (_h : ts.length = 2 * fs.length) (i : Nat) (hi : i < fs.length) (hp : i < (pairL fs ts).length) (h1 : 2 * i < ts.length) (h2 : 2 * i + 1 < ts.length), (pairL fs ts)[i] = ⟨ts[2 * i], ts[2 * i + 1], fs[i] == 1⟩
  | [], _, _, _, hi, _, _, _ => absurd hi (by simp)
  | f :: fs, [], h, _, _, _, _, _ => by simp at h
  | f :: fs, [k], h, _, _, _, _, _ => by simp at h; omega
  | f :: fs, k :: s :: ts, h, 0, _, _, _, _ => rfl
  | f :: fs, k :: s :: ts, h, i + 1, hi, hp, h1, h2 => by
    have ih := pairL_at fs ts (by simp at h; omega) i (by simpa using hi) (by simpa [pairL] using hp) (by simp at h1; omega) (by simp at h2; omega)
    simp only [pairL, List.getElem_cons_succ, ih]
    congr 1 <;> simp [show 2 * (i + 1) = 2 * i + 1 + 1 by omega]

theorem new_row {w : World} {g : Nat} {t : TypeId} {xs : List Value} (h : w.heap[g]? = some (.cells xs.toArray t (0, 0))) : ∀ j v, xs[j]? = some v → w.cell? ((⟨g, 0, none⟩ : Addr).add j) = some v := fun j v hv => by
  rw [addr_head]
  exact blk_cell h (by rw [List.getElem?_toArray]; exact hv)

/-- what Pairs answers -/
def PairsAns (fs : List Int) (ts : List ByteArray) (w : World) : Ending → World → Prop := fun e w' =>
  (ts.length = 2 * fs.length ∧ ∃ v, e = .returned (.tuple #[v, .bool true]) ∧ w'.ownsRow w.heap.size 124 3 v fs.length (wrV (pairL fs ts)) ∧ Below w.heap.size w w') ∨
  (ts.length ≠ 2 * fs.length ∧ e = .returned (.tuple #[.slice none 0 0, .bool false]) ∧ w' = w)

end Lt
end Go.Proofs.Ytjehjbkcdpidbaa

/- Which letter numbers and texts say, if they say one; no condition. -/
namespace Go.Proofs.Ytjehjbkcdpidbaa
namespace Lt
open Go.RowKit Bk

def manyOf (ns : List Int) : Nat := (ns.getD 6 0).toNat

/-- the one that they may say -/
def cand (ns : List Int) (ts : List ByteArray) : Let :=
  ⟨ns.getD 0 0, ns.getD 1 0, ns.getD 2 0, ns.getD 3 0, ns.getD 4 0, ns.getD 5 0, ts.getD 0 ⟨#[]⟩, (ts.drop 1).take (manyOf ns), pairL (ns.drop 7) (ts.drop (1 + manyOf ns))⟩

theorem pairL_of (ws : List Wr) : pairL (ws.map fun x => if x.dead then 1 else 0) (ws.flatMap fun x => [x.key, x.shard]) = ws := by
  induction ws with
  | nil => rfl
  | cons x r ih =>
    show (⟨x.key, x.shard, (if x.dead then (1 : Int) else 0) == 1⟩ : Wr) :: pairL (r.map fun x => if x.dead then 1 else 0) (r.flatMap fun x => [x.key, x.shard]) = _
    rw [ih]
    obtain ⟨k, s, d⟩ := x
    cases d <;> rfl

theorem cand_of (l : Let) : cand (numsOf l) (textsOf l) = l := by
  obtain ⟨kd, sr, ds, tn, ts, co, tt, ks, ws⟩ := l
  have hm : manyOf (numsOf ⟨kd, sr, ds, tn, ts, co, tt, ks, ws⟩) = ks.length := by
    simp [manyOf, numsOf]
  unfold cand
  rw [hm]
  have e1 : (textsOf ⟨kd, sr, ds, tn, ts, co, tt, ks, ws⟩).drop 1 = ks ++ ws.flatMap fun x => [x.key, x.shard] := rfl
  have e2 : (textsOf ⟨kd, sr, ds, tn, ts, co, tt, ks, ws⟩).drop (1 + ks.length) = ws.flatMap fun x => [x.key, x.shard] := by
    rw [← List.drop_drop, e1, List.drop_left]
  have e3 : (numsOf ⟨kd, sr, ds, tn, ts, co, tt, ks, ws⟩).drop 7 = ws.map fun x => if x.dead then 1 else 0 := rfl
  rw [e1, e2, e3, List.take_left, pairL_of]
  rfl

theorem nums_len (l : Let) : (numsOf l).length = 7 + l.ws.length := by
  unfold numsOf; rw [List.length_append, List.length_map]; rfl
theorem texts_len (l : Let) : (textsOf l).length = 1 + l.keys.length + 2 * l.ws.length := by
  unfold textsOf; rw [List.length_cons, List.length_append, flat_len]; omega
theorem many_of (l : Let) : manyOf (numsOf l) = l.keys.length := by simp [manyOf, numsOf]
theorem six_of (l : Let) : (numsOf l).getD 6 0 = (l.keys.length : Int) := by simp [numsOf]

/-- bytes that are read so are no other letter's -/
theorem says_nums {s : List UInt8} {ns : List Int} {ts : List ByteArray} {l : Let} (h : Pk.decL s = .ok (ns, ts)) (hl : LetOk l) (hs : s = letL l) : ns = numsOf l ∧ ts = textsOf l := by
  rw [hs] at h
  unfold letL at h
  rw [Pk.decL_back hl.pack] at h
  simp only [Except.ok.injEq, Prod.mk.injEq] at h
  exact ⟨h.1.symm, h.2.symm⟩

def noLet : Let := ⟨0, 0, 0, 0, 0, 0, ⟨#[]⟩, [], []⟩

/-- no letter's bytes -/
def NoLet (s : ByteArray) : Prop := ∀ l, LetOk l → s.data.toList ≠ letL l

/-- what the document's Decode answers -/
def LetDec (s : ByteArray) (w : World) : Ending → World → Prop := fun e w' =>
  (∃ (l : Let) (A B : Option Addr) (c d : Nat), LetOk l ∧ s.data.toList = letL l ∧ e = .returned (.tuple #[letV l A B c d, .int .i64 0]) ∧ StrsAt w' A l.keys ∧ WrsAt w' B l.ws ∧ Below w.heap.size w w') ∨
  (NoLet s ∧ e = .returned (.tuple #[letV noLet none none 0 0, .int .i64 70]) ∧ Below w.heap.size w w')

theorem NoLet.err {s : ByteArray} {e : Pk.Er} (h : Pk.decL s.data.toList = .error e) : NoLet s := fun l hl hs => by
  rw [hs] at h
  unfold letL at h
  rw [Pk.decL_back hl.pack] at h
  cases h

theorem NoLet.of {s : ByteArray} {ns : List Int} {ts : List ByteArray} (h : Pk.decL s.data.toList = .ok (ns, ts)) (hn : ∀ l, LetOk l → ns = numsOf l → ts = textsOf l → s.data.toList = letL l → False) : NoLet s := fun l hl hs => by
  obtain ⟨e1, e2⟩ := says_nums h hl hs
  exact hn l hl e1 e2 hs

/-- the ranges of one that a pack may say -/
theorem cand_range {ns : List Int} {ts : List ByteArray} (h : Pk.MayBe ns ts) : LetRng (cand ns ts) := by
  obtain ⟨h1, h2, h3, h4⟩ := h
  have rb : reachBytes = 140737488351232 := by unfold reachBytes; rfl
  have hi : ∀ i, -9223372036854775808 ≤ ns.getD i 0 ∧ ns.getD i 0 ≤ 9223372036854775807 := fun i => by
    rw [List.getD_eq_getElem?_getD]
    cases e : ns[i]? with
    | none => simp
    | some z =>
      have hz := h3 z (List.mem_of_getElem? e)
      unfold Pk.numOk at hz
      simp only [Option.getD_some]; omega
  have ht : ∀ t ∈ ts, t.size ≤ reachBytes := fun t ht => by have := h4 t ht; omega
  have hp : ∀ (fs : List Int) (us : List ByteArray), (∀ u ∈ us, u.size ≤ reachBytes) → ∀ x ∈ pairL fs us, x.key.size ≤ reachBytes ∧ x.shard.size ≤ reachBytes := by
    intro fs
    induction fs with
    | nil => intro us _ x hx; simp [pairL] at hx
    | cons f fs ih =>
      intro us hu x hx
      match us, hu, hx with
      | [], _, hx => simp [pairL] at hx
      | [k], _, hx => simp [pairL] at hx
      | k :: s :: r, hu, hx =>
        rcases List.mem_cons.1 hx with rfl | hx
        · exact ⟨hu _ (by simp), hu _ (by simp)⟩
        · exact ih r (fun u hr => hu u (by simp [hr])) x hx
  have hpl : ∀ (fs : List Int) (us : List ByteArray), (pairL fs us).length ≤ fs.length := by
    intro fs
    induction fs with
    | nil => intro us; simp [pairL]
    | cons f fs ih =>
      intro us
      match us with
      | [] => simp [pairL]
      | [k] => simp [pairL]
      | k :: s :: r => rw [pairL, List.length_cons, List.length_cons]; have := ih r; omega
  refine ⟨hi 0, hi 1, hi 2, hi 3, hi 4, hi 5, ?_, ?_, ?_, ?_, ?_⟩
  · show (ts.getD 0 ⟨#[]⟩).size ≤ _
    rw [List.getD_eq_getElem?_getD]
    cases e : ts[0]? with
    | none => simp only [Option.getD_none]; show (0 : Nat) ≤ _; omega
    | some t => exact ht t (List.mem_of_getElem? e)
  · show ((ts.drop 1).take (manyOf ns)).length * 16 ≤ _
    rw [List.length_take, List.length_drop]; omega
  · show (pairL (ns.drop 7) (ts.drop (1 + manyOf ns))).length * 16 ≤ _
    have := hpl (ns.drop 7) (ts.drop (1 + manyOf ns))
    rw [List.length_drop] at this; omega
  · intro t ht2
    exact ht t (List.mem_of_mem_drop (List.mem_of_mem_take ht2))
  · exact hp _ _ (fun u hu => ht u (List.mem_of_mem_drop hu))

end Lt
end Go.Proofs.Ytjehjbkcdpidbaa

/- What is asked of the landed package letter; which letter any bytes are; the example; whether letters are the same. -/
namespace Go.Proofs.Ytjehjbkcdpidbaa
namespace Lt
open Go.RowKit Bk

attribute [local go_sem ↓] Go.wp_at_zero Go.wp_at_succ
attribute [local go_sem] floatUpon pick

/-- a letter's lists in the memory, as an argument or a result has them -/
structure LetVal (w : World) (A B : Option Addr) (c d : Nat) (l : Let) : Prop where
  ks : StrsAt w A l.keys
  ws : WrsAt w B l.ws
  rng : LetRange l c d
  kn : A = none → l.keys = [] ∧ c = 0
  wn : B = none → l.ws = [] ∧ d = 0

theorem LetVal.below {w W : World} {A B : Option Addr} {c d : Nat} {l : Let} (h : LetVal w A B c d l) (hb : Below w.heap.size w W) : LetVal W A B c d l :=
  ⟨h.ks.below hb, h.ws.below hb, h.rng, h.kn, h.wn⟩

/-- what is asked of letter.Check -/
def CheckAll : Prop := ∀ (A B : Option Addr) (c d : Nat) (l : Let) (w : World), LetVal w A B c d l →
  Calls Try.prog 53 #[letV l A B c d] w fun e w' => e = .returned (.int .i64 (ckN l : Int)) ∧ Below w.heap.size w w'

/-- what is asked of letter.Encode -/
def EncodeAll : Prop := ∀ (A B : Option Addr) (c d : Nat) (l : Let) (w : World), LetVal w A B c d l →
  Calls Try.prog 35 #[letV l A B c d] w fun e w' => e = .returned (encV l) ∧ Below w.heap.size w w'

open Classical in
/-- which letter bytes are, and what is told -/
noncomputable def decX (s : ByteArray) : Let × Nat := if h : ∃ l, LetOk l ∧ s.data.toList = letL l then (Classical.choose h, 0) else (noLet, 70)

theorem decX_ok {s : ByteArray} {l : Let} (h : LetOk l) (hs : s.data.toList = letL l) : decX s = (l, 0) := by
  have hx : ∃ l, LetOk l ∧ s.data.toList = letL l := ⟨l, h, hs⟩
  unfold decX
  rw [dif_pos hx]
  have hc := Classical.choose_spec hx
  rw [letL_inj hc.1 h (hc.2.symm.trans hs)]

theorem decX_no {s : ByteArray} (h : NoLet s) : decX s = (noLet, 70) := by
  unfold decX
  rw [dif_neg (fun ⟨l, h1, h2⟩ => h l h1 h2)]

theorem decX_cases (s : ByteArray) : (∃ l, LetOk l ∧ s.data.toList = letL l ∧ decX s = (l, 0)) ∨ (NoLet s ∧ decX s = (noLet, 70)) := by
  by_cases h : ∃ l, LetOk l ∧ s.data.toList = letL l
  · obtain ⟨l, h1, h2⟩ := h
    exact .inl ⟨l, h1, h2, decX_ok h1 h2⟩
  · have hn : NoLet s := fun l h1 h2 => h ⟨l, h1, h2⟩
    exact .inr ⟨hn, decX_no hn⟩

theorem decX_bytes {l : Let} (h : LetOk l) : decX ⟨(letL l).toArray⟩ = (l, 0) := decX_ok h (by simp)

/-- what is asked of letter.Decode -/
def DecodeAll : Prop := ∀ (s : ByteArray) (w : World), s.size ≤ 1000000000000000 →
  Calls Try.prog 37 #[.string s] w fun e w' => ∃ (A B : Option Addr) (c d : Nat),
    e = .returned (.tuple #[letV (decX s).1 A B c d, .int .i64 ((decX s).2 : Int)]) ∧ LetVal w' A B c d (decX s).1 ∧ Below w.heap.size w w'

/-- what is asked of letter.Key -/
def KeyAll : Prop := ∀ (s : ByteArray) (w : World), s.size ≤ 140737488355328 →
  Calls Try.prog 122 #[.string s] w fun e w' => e = .returned (.bool (decide (keyOk s))) ∧ Below w.heap.size w w'

/-- what is asked of letter.Rising -/
def RisingAll : Prop := ∀ (A : Option Addr) (c : Nat) (l : List ByteArray) (w : World), StrsAt w A l → l.length * 16 ≤ 140737488355328 → (∀ s ∈ l, s.size ≤ 140737488355328) → l.length ≤ c → c ≤ maxLen → (A = none → l = [] ∧ c = 0) →
  Calls Try.prog 110 #[.slice A l.length c] w fun e w' => e = .returned (.bool (risesB l)) ∧ Below w.heap.size w w'

theorem nil_strs (w : World) (A : Option Addr) : StrsAt w A [] := fun h => absurd h (by simp)
theorem nil_wrs (w : World) (A : Option Addr) : WrsAt w A [] := fun h => absurd h (by simp)

theorem LetOk.rng {l : Let} (h : LetOk l) : LetRng l := by
  obtain ⟨b1, b2, b3, b4, b5, b6, b7⟩ := h.bounds
  obtain ⟨⟨h1, h2, h3, h4, h5, h6⟩, _⟩ := h
  have rb : reachBytes = 140737488351232 := by unfold reachBytes; rfl
  unfold addr at h1 h2
  unfold txnOk at h3
  unfold stampOk at h4
  exact ⟨by omega, by omega, by omega, by omega, by omega, by omega, by omega, by omega, by omega, fun k hk => by have := b4 k hk; unfold keyOk at this; omega, fun x hx => by have := b5 x hx; unfold keyOk at this; omega⟩

/-- a letter of numbers alone -/
def bareL (k a b t s : Int) : Let := ⟨k, a, b, t, s, 0, ⟨#[]⟩, [], []⟩

theorem bare_val (w : World) (k a b t s : Int) (h : LetOk (bareL k a b t s)) : LetVal w none none 0 0 (bareL k a b t s) :=
  ⟨nil_strs _ _, nil_wrs _ _, ⟨h.rng, Nat.le_refl _, Nat.le_refl _, Nat.zero_le _, Nat.zero_le _⟩, fun _ => ⟨rfl, rfl⟩, fun _ => ⟨rfl, rfl⟩⟩

theorem example_ok : LetOk (bareL 7 1 2 5 0) := by
  refine ⟨⟨?_, ?_, ?_, ?_, ?_, ?_⟩, (kind_5 (by decide)).2 ⟨⟨rfl, rfl, rfl⟩, rfl⟩⟩
  · show addr 1; decide
  · show addr 2; decide
  · show txnOk 5; decide
  · show stampOk 0; decide
  · show (0 : Int) ≤ 0; decide
  · show (0 : Int) ≤ 4; decide

theorem example_bytes : letL (bareL 7 1 2 5 0) = [7, 14, 2, 4, 10, 0, 0, 0, 1, 0] := by
  have h0 : Pk.plain 7 = [7] := Pk.plain_small (by omega)
  have h1 : Pk.signed 7 = [14] := Pk.plain_small (by show Pk.zig 7 < 128; decide)
  have h2 : Pk.signed 1 = [2] := Pk.plain_small (by show Pk.zig 1 < 128; decide)
  have h3 : Pk.signed 2 = [4] := Pk.plain_small (by show Pk.zig 2 < 128; decide)
  have h4 : Pk.signed 5 = [10] := Pk.plain_small (by show Pk.zig 5 < 128; decide)
  have h5 : Pk.signed 0 = [0] := Pk.plain_small (by show Pk.zig 0 < 128; decide)
  have h6 : Pk.plain 1 = [1] := Pk.plain_small (by omega)
  have h7 : Pk.plain 0 = [0] := Pk.plain_small (by omega)
  show Pk.plain 7 ++ ((Pk.signed 7 ++ (Pk.signed 1 ++ (Pk.signed 2 ++ (Pk.signed 5 ++ (Pk.signed 0 ++ (Pk.signed 0 ++ (Pk.signed 0 ++ []))))))) ++ (Pk.plain 1 ++ ((Pk.plain 0 ++ []) ++ []))) = _
  rw [h0, h1, h2, h3, h4, h5, h6, h7]; rfl

def kK : ByteArray := ⟨#[107]⟩
def kA : ByteArray := ⟨#[97]⟩
def kB : ByteArray := ⟨#[98]⟩

theorem rises_ab : risesB [kA, kB] = true := risesB_true fun i h => by
  match i, h with
  | 0, _ => exact ⟨by show keyOk kA; decide, fun h0 => absurd h0 (by omega)⟩
  | 1, _ =>
    refine ⟨by show keyOk kB; decide, fun _ => ?_⟩
    show leT kB kA = false
    unfold leT; rw [ByteArray.toList_eq, ByteArray.toList_eq]; decide

theorem rises_aa : risesB [kA, kA] = false := risesB_false (not_rises (j := 1) (by decide) (fun h => by
  have h2 := h.2 (by omega)
  have h3 : leT kA kA = true := by unfold leT; rw [ByteArray.toList_eq]; decide
  exact absurd (h3.symm.trans h2) (by decide)))

end Lt
end Go.Proofs.Ytjehjbkcdpidbaa

/- Whether letters are the same, and a letter's copy; contracts; no condition but the range. -/
namespace Go.Proofs.Ytjehjbkcdpidbaa
namespace Lt
open Go.RowKit Bk

attribute [local go_sem ↓] Go.wp_at_zero Go.wp_at_succ
attribute [local go_sem] floatUpon pick

theorem let_ext {x y : Let} (h0 : x.kind = y.kind) (h1 : x.src = y.src) (h2 : x.dst = y.dst) (h3 : x.txn = y.txn) (h4 : x.ts = y.ts) (h5 : x.code = y.code) (h6 : x.text = y.text) (h7 : x.keys = y.keys) (h8 : x.ws = y.ws) : x = y := by
  obtain ⟨a0, a1, a2, a3, a4, a5, a6, a7, a8⟩ := x
  obtain ⟨b0, b1, b2, b3, b4, b5, b6, b7, b8⟩ := y
  simp only at h0 h1 h2 h3 h4 h5 h6 h7 h8
  subst h0 h1 h2 h3 h4 h5 h6 h7 h8; rfl

noncomputable def sameB (x y : Let) : Bool := @decide (x = y) (Classical.propDecidable _)
theorem sameB_true {x y : Let} (h : x = y) : sameB x y = true := by unfold sameB; exact @decide_eq_true _ (Classical.propDecidable _) h
theorem sameB_false {x y : Let} (h : ¬ x = y) : sameB x y = false := by unfold sameB; exact @decide_eq_false _ (Classical.propDecidable _) h
theorem sameB_self (x : Let) : sameB x x = true := sameB_true rfl

/-- what the comparison says, part by part -/
theorem sameB_parts (x y : Let) : sameB x y = (decide (x.kind = y.kind) && (decide (x.src = y.src) && (decide (x.dst = y.dst) && (decide (x.txn = y.txn) && (decide (x.ts = y.ts) && (decide (x.code = y.code) && (decide (x.text = y.text) && (decide (x.keys = y.keys) && decide (x.ws = y.ws))))))))) := by
  by_cases h : x = y
  · subst h; rw [sameB_self]; simp
  · rw [sameB_false h]
    symm
    rw [Bool.eq_false_iff]
    intro hh
    simp only [Bool.and_eq_true, decide_eq_true_eq] at hh
    obtain ⟨h0, h1, h2, h3, h4, h5, h6, h7, h8⟩ := hh
    exact h (let_ext h0 h1 h2 h3 h4 h5 h6 h7 h8)

theorem eql_dec (s t : ByteArray) : (s.toList == t.toList) = decide (s = t) := by
  by_cases h : s = t
  · subst h; simp
  · rw [text_ne h, decide_eq_false h]

set_option maxRecDepth 20000 in
set_option maxHeartbeats 8000000 in
theorem sameLet_any (A B A' B' : Option Addr) (c d c' d' : Nat) (x y : Let) (w : World) (ha : StrsAt w A x.keys) (hb : WrsAt w B x.ws) (ha' : StrsAt w A' y.keys) (hb' : WrsAt w B' y.ws) (hn : x.keys.length ≤ 9223372036854775807) (hn2 : x.ws.length ≤ 9223372036854775807) :
    Calls Try.prog 38 #[letV x A B c d, letV y A' B' c' d'] w fun e w' => e = .returned (.bool (sameB x y)) ∧ Below w.heap.size w w' := by
  have HK := Lib.hid (fun W (hbl : Below w.heap.size w W) => same_any A A' c c' x.keys y.keys W (ha.below hbl) (ha'.below hbl) hn)
  have HW := Lib.hid (fun W (hbl : Below w.heap.size w W) => sameWrs_any B B' d d' x.ws y.ws W (hb.below hbl) (hb'.below hbl) hn2)
  unfold letV
  obtain ⟨s2, b1, b2⟩ := blk2 w (.cells #[.int .i64 x.kind, .int .i64 x.src, .int .i64 x.dst, .int .i64 x.txn, .int .i64 x.ts, .int .i64 x.code, .string x.text, .slice A x.keys.length c, .slice B x.ws.length d] 71) (.cells #[.int .i64 y.kind, .int .i64 y.src, .int .i64 y.dst, .int .i64 y.txn, .int .i64 y.ts, .int .i64 y.code, .string y.text, .slice A' y.keys.length c', .slice B' y.ws.length d'] 71)
  have hB : Below w.heap.size w ((w.alloc (.cells #[.int .i64 x.kind, .int .i64 x.src, .int .i64 x.dst, .int .i64 x.txn, .int .i64 x.ts, .int .i64 x.code, .string x.text, .slice A x.keys.length c, .slice B x.ws.length d] 71)).alloc (.cells #[.int .i64 y.kind, .int .i64 y.src, .int .i64 y.dst, .int .i64 y.txn, .int .i64 y.ts, .int .i64 y.code, .string y.text, .slice A' y.keys.length c', .slice B' y.ws.length d'] 71)) :=
    ((Below.refl _ w).alloc (Nat.le_refl _) _).alloc (by simp) _
  have HB := Lib.hid hB
  have E := Lib.hid (sameB_parts x y)
  have C1 : Cel _ _ _ [_, _, _, _, _, _, _, _, _] := b1
  have C2 : Cel _ _ _ [_, _, _, _, _, _, _, _, _] := b2
  have HC1 := Lib.hid C1
  have HC2 := Lib.hid C2
  clear hB s2 b1 b2 C1 C2 ha hb ha' hb' hn hn2
  go_enter Try.func38, Try.ntmps38
  go_upto_region 1 with fail
  generalize ((w.alloc (.cells #[.int .i64 x.kind, .int .i64 x.src, .int .i64 x.dst, .int .i64 x.txn, .int .i64 x.ts, .int .i64 x.code, .string x.text, .slice A x.keys.length c, .slice B x.ws.length d] 71)).alloc (.cells #[.int .i64 y.kind, .int .i64 y.src, .int .i64 y.dst, .int .i64 y.txn, .int .i64 y.ts, .int .i64 y.code, .string y.text, .slice A' y.keys.length c', .slice B' y.ws.length d'] 71)) = W1 at HB HC1 HC2 ⊢
  have p0 := HC1.out.cell (i := 0) rfl
  have p1 := HC1.out.cell (i := 1) rfl
  have p2 := HC1.out.cell (i := 2) rfl
  have p3 := HC1.out.cell (i := 3) rfl
  have p4 := HC1.out.cell (i := 4) rfl
  have p5 := HC1.out.cell (i := 5) rfl
  have p6 := HC1.out.cell (i := 6) rfl
  have p7 := HC1.out.cell (i := 7) rfl
  have p8 := HC1.out.cell (i := 8) rfl
  have q0 := HC2.out.cell (i := 0) rfl
  have q1 := HC2.out.cell (i := 1) rfl
  have q2 := HC2.out.cell (i := 2) rfl
  have q3 := HC2.out.cell (i := 3) rfl
  have q4 := HC2.out.cell (i := 4) rfl
  have q5 := HC2.out.cell (i := 5) rfl
  have q6 := HC2.out.cell (i := 6) rfl
  have q7 := HC2.out.cell (i := 7) rfl
  have q8 := HC2.out.cell (i := 8) rfl
  have e0 : ((x.kind == y.kind) : Bool) = decide (x.kind = y.kind) := by rfl
  have e1 : ((x.src == y.src) : Bool) = decide (x.src = y.src) := by rfl
  have e2 : ((x.dst == y.dst) : Bool) = decide (x.dst = y.dst) := by rfl
  have e3 : ((x.txn == y.txn) : Bool) = decide (x.txn = y.txn) := by rfl
  have e4 : ((x.ts == y.ts) : Bool) = decide (x.ts = y.ts) := by rfl
  have e5 : ((x.code == y.code) : Bool) = decide (x.code = y.code) := by rfl
  have e6 := eql_dec x.text y.text
  generalize decide (x.kind = y.kind) = r0 at *
  generalize decide (x.src = y.src) = r1 at *
  generalize decide (x.dst = y.dst) = r2 at *
  generalize decide (x.txn = y.txn) = r3 at *
  generalize decide (x.ts = y.ts) = r4 at *
  generalize decide (x.code = y.code) = r5 at *
  generalize decide (x.text = y.text) = r6 at *
  generalize decide (x.keys = y.keys) = r7 at *
  generalize decide (x.ws = y.ws) = r8 at *
  clear HC1 HC2
  cases r0 with
  | false =>
    go_wp2_with fail
    go_ret
    exact ⟨by rw [E.out]; rfl, HB.out⟩
  | true =>
  cases r1 with
  | false =>
    go_wp2_with fail
    go_ret
    exact ⟨by rw [E.out]; rfl, HB.out⟩
  | true =>
  cases r2 with
  | false =>
    go_wp2_with fail
    go_ret
    exact ⟨by rw [E.out]; rfl, HB.out⟩
  | true =>
  cases r3 with
  | false =>
    go_wp2_with fail
    go_ret
    exact ⟨by rw [E.out]; rfl, HB.out⟩
  | true =>
  cases r4 with
  | false =>
    go_wp2_with fail
    go_ret
    exact ⟨by rw [E.out]; rfl, HB.out⟩
  | true =>
  cases r5 with
  | false =>
    go_wp2_with fail
    go_ret
    exact ⟨by rw [E.out]; rfl, HB.out⟩
  | true =>
  cases r6 with
  | false =>
    go_wp2_with fail
    go_ret
    exact ⟨by rw [E.out]; rfl, HB.out⟩
  | true =>
  cases r7 with
  | false =>
    go_wp2_with fail
    refine (HK.out _ HB.out).mono ?_
    rintro e w2 ⟨rfl, n, rfl⟩
    have HB2 : Hid (Below w.heap.size w (W1.drewN n)) := Lib.hid ⟨HB.out.1, HB.out.2, HB.out.3, HB.out.4, HB.out.5⟩
    go_wp2_with fail
    go_ret
    exact ⟨by rw [E.out]; rfl, HB2.out⟩
  | true =>
    go_wp2_with fail
    refine (HK.out _ HB.out).mono ?_
    rintro e w2 ⟨rfl, n, rfl⟩
    have HB2 : Hid (Below w.heap.size w (W1.drewN n)) := Lib.hid ⟨HB.out.1, HB.out.2, HB.out.3, HB.out.4, HB.out.5⟩
    have k8 : (W1.drewN n).cell? ⟨w.heap.size, 8, none⟩ = some (.slice B x.ws.length d) := p8
    have m8 : (W1.drewN n).cell? ⟨w.heap.size + 1, 8, none⟩ = some (.slice B' y.ws.length d') := q8
    clear HB HK p0 p1 p2 p3 p4 p5 p6 p7 p8 q0 q1 q2 q3 q4 q5 q6 q7 q8
    generalize W1.drewN n = W2 at *
    go_wp2_with fail
    refine (HW.out _ HB2.out).mono ?_
    rintro e w3 ⟨rfl, hb⟩
    have HB3 := Lib.hid (HB2.out.trans (hb.mono HB2.out.size))
    clear hb HB2 HW
    go_wp2_with fail
    go_ret
    exact ⟨by rw [E.out]; simp, HB3.out⟩

end Lt
end Go.Proofs.Ytjehjbkcdpidbaa

/- The law of letters there and back; no condition but the range. -/
namespace Go.Proofs.Ytjehjbkcdpidbaa
namespace Lt
open Go.RowKit Bk

attribute [local go_sem ↓] Go.wp_at_zero Go.wp_at_succ
attribute [local go_sem] floatUpon pick

theorem letL_size {l : Let} (h : LetOk l) : (⟨(letL l).toArray⟩ : ByteArray).size ≤ 1000000000000000 := by
  have := Pk.bytesL_le h.pack
  show (letL l).toArray.size ≤ _
  rw [List.size_toArray]
  unfold letL
  omega

theorem sameV (A B A2 B2 : Option Addr) (c d c2 d2 : Nat) (l : Let) (W : World) (h : LetVal W A B c d l) (h2 : StrsAt W A2 l.keys) (h3 : WrsAt W B2 l.ws) :
    Calls Try.prog 38 #[letV l A B c d, letV l A2 B2 c2 d2] W fun e w' => e = .returned (.bool true) ∧ Below W.heap.size W w' := by
  have := sameLet_any A B A2 B2 c d c2 d2 l l W h.ks h.ws h2 h3 (by have := h.rng.k16; unfold reachBytes at this; omega) (by have := h.rng.w16; unfold reachBytes at this; omega)
  rwa [sameB_self] at this

end Lt
end Go.Proofs.Ytjehjbkcdpidbaa

/- Laws over what is asked of the landed package: Cut, Joins. -/
namespace Go.Proofs.Ytjehjbkcdpidbaa
namespace Su
open Go.RowKit Bk

attribute [local go_sem ↓] Go.wp_at_zero Go.wp_at_succ
attribute [local go_sem] floatUpon pick

theorem frame_long {t : ByteArray} (h : 4096 < t.size) : frameV t = .tuple #[.string ⟨#[]⟩, .int .i64 2] := if_pos h

theorem frame_fits {t : ByteArray} (h : t.size ≤ 4096) : frameV t = .tuple #[.string (frameB t), .int .i64 0] := if_neg (by omega)

theorem next_cut (t : ByteArray) (n : Nat) (ht : t.size ≤ 4096) (hn : n < t.size + 6) : nextV ⟨((frameL t.data.toList).take n).toArray⟩ 0 = .tuple #[.string ⟨#[]⟩, .int .i64 0, .int .i64 50] := by
  have h := nextV_at (s := ⟨((frameL t.data.toList).take n).toArray⟩) (a := 0) (Nat.zero_le _)
  rw [show (⟨((frameL t.data.toList).take n).toArray⟩ : ByteArray).data.toList.drop 0 = (frameL t.data.toList).take n from rfl, restR_cut _ (by rw [list_size]; exact ht) n (by rw [list_size]; exact hn)] at h
  exact h

end Su
end Go.Proofs.Ytjehjbkcdpidbaa

/- Laws over what is asked of the landed package: Turned. -/
namespace Go.Proofs.Ytjehjbkcdpidbaa
namespace Su
open Go.RowKit Bk

attribute [local go_sem ↓] Go.wp_at_zero Go.wp_at_succ
attribute [local go_sem] floatUpon pick

theorem bytesRow_cells (a : ByteArray) (cap : Nat) : ∃ rest : List Value, bytesRow a cap = (Lib.byteCells a.data.toList ++ rest).toArray := bytesRow_list a cap

/-- what is turned so far -/
structure Turn (L F : List UInt8) (first i : Nat) : Prop where
  len : F.length = L.length
  two : F.take 2 = L.take 2
  num : ∃ q, q < 2 ^ i ∧ num L ^^^ num F = q * 2 ^ first

theorem Turn.start (L : List UInt8) (first : Nat) : Turn L L first 0 := ⟨rfl, rfl, 0, by omega, by rw [Nat.xor_self, Nat.zero_mul]⟩

theorem Turn.skip {L F : List UInt8} {first i : Nat} (h : Turn L F first i) : Turn L F first (i + 1) := by
  obtain ⟨q, h1, h2⟩ := h.num
  exact ⟨h.len, h.two, q, by rw [Nat.pow_succ]; omega, h2⟩

theorem Turn.flip {L F : List UInt8} {first i j : Nat} (h : Turn L F first i) (hf : 16 ≤ first) (hj : j = (first + i) / 8) (hjl : j < F.length) (v : UInt8) (hv : v.toNat = 2 ^ ((first + i) % 8)) : Turn L (F.set j (F[j] ^^^ v)) first (i + 1) := by
  obtain ⟨q, h1, h2⟩ := h.num
  refine ⟨by rw [List.length_set]; exact h.len, ?_, q ^^^ 2 ^ i, ?_, ?_⟩
  · rw [List.take_set, List.set_eq_of_length_le (by rw [List.length_take]; omega)]
    exact h.two
  · rw [Nat.pow_succ]
    have := Nat.xor_lt_two_pow (n := i + 1) (x := q) (y := 2 ^ i) (by rw [Nat.pow_succ]; omega) (Nat.pow_lt_pow_right (by omega) (by omega))
    rwa [Nat.pow_succ] at this
  · have e : v.toNat * 256 ^ j = 2 ^ i * 2 ^ first := by
      rw [hv, pow256, ← Nat.pow_add, ← Nat.pow_add]
      congr 1
      omega
    have h3 := Nat.shiftLeft_xor_distrib (a := q) (b := 2 ^ i) (i := first)
    simp only [Nat.shiftLeft_eq] at h3
    rw [num_set_xor, ← Nat.xor_assoc, h2, e, h3]

theorem flip_cells (F : List UInt8) (rest : List Value) (j : Nat) (u : UInt8) (h : j < F.length) : (Lib.byteCells F ++ rest).set j (.int .u8 (u.toNat : Int)) = Lib.byteCells (F.set j u) ++ rest := by
  rw [List.set_append_left _ _ (by rw [Lib.byteCells_length]; exact h)]
  congr 1
  unfold Lib.byteCells
  rw [List.map_set]

theorem cell_at (F : List UInt8) (rest : List Value) (j : Nat) (h : j < F.length) : (Lib.byteCells F ++ rest)[j]? = some (.int .u8 (F[j].toNat : Int)) := by
  rw [List.getElem?_append_left (by rw [Lib.byteCells_length]; exact h)]
  unfold Lib.byteCells
  rw [List.getElem?_map, List.getElem?_eq_getElem h]; rfl

theorem celm_string {w : World} {g : Nat} {F : List UInt8} {rest : List Value} (h : CelM w g 5 (Lib.byteCells F ++ rest)) (n cap : Nat) (hn : n = F.length) :
    (convert 52 9 (.slice (some ⟨g, 0, none⟩) n cap)).run Try.prog w = .ok (.string ⟨F.toArray⟩) w := by
  subst hn
  exact run_convert_bytes_back (P := Try.prog) w 52 9 5 ⟨g, 0, none⟩ cap F Try.underlying52 Try.underlying5 Try.underlying9 (fun j hj => by
    rw [addr_head]
    exact h.cell (cell_at F rest j hj))

theorem next_turned {t : ByteArray} {F : List UInt8} {first : Nat} (ht : t.size ≤ 4096) (h : Turn (frameL t.data.toList) F first 32) (hne : F ≠ frameL t.data.toList) : nextV ⟨F.toArray⟩ 0 = .tuple #[.string ⟨#[]⟩, .int .i64 0, .int .i64 51] := by
  obtain ⟨q, h1, h2⟩ := h.num
  have e := nextV_at (s := ⟨F.toArray⟩) (a := 0) (Nat.zero_le _)
  rw [show (⟨F.toArray⟩ : ByteArray).data.toList.drop 0 = F from rfl, restR_turned (t := t.data.toList) (by rw [list_size]; exact ht) (by rw [h.len, frameL_len]) h.two (by simpa using h1) h2 hne] at e
  exact e

theorem u8_xor_nat' (a b : Nat) (ha : a < 256) (hb : b < 256) : bits .xor .u8 (a : Int) (b : Int) = ((a ^^^ b : Nat) : Int) := by
  have h : a ^^^ b < 2 ^ 8 := Nat.xor_lt_two_pow (n := 8) ha hb
  have e : ∀ c : Nat, c < 256 → (BitVec.ofInt 8 (c : Int)).toNat = c := fun c hc => by rw [BitVec.ofInt_natCast, BitVec.toNat_ofNat]; exact Nat.mod_eq_of_lt hc
  show IntKind.u8.wrap ((BitVec.ofInt 8 (a : Int) ^^^ BitVec.ofInt 8 (b : Int)).toNat : Int) = _
  rw [BitVec.toNat_xor, e a ha, e b hb]
  show ((a ^^^ b : Nat) : Int) % 256 = _
  omega

end Su
end Go.Proofs.Ytjehjbkcdpidbaa

/- What the landed package's within, isAddress, Key and Rising answer; contracts; no condition but the range. -/
namespace Go.Proofs.Ytjehjbkcdpidbaa
namespace Lt
open Go.RowKit Bk

attribute [local go_sem ↓] Go.wp_at_zero Go.wp_at_succ
attribute [local go_sem] floatUpon pick

set_option maxHeartbeats 1000000 in
theorem within_any (n a b : Int) (w : World) :
    Calls Try.prog 83 #[.int .i64 n, .int .i64 a, .int .i64 b] w fun e w' => e = .returned (.bool (decide (a ≤ n) && decide (n ≤ b))) ∧ w' = w := by
  by_cases h1 : a ≤ n
  · have E := Lib.hid (show (decide (a ≤ n) && decide (n ≤ b)) = decide (n ≤ b) by rw [decide_eq_true h1, Bool.true_and])
    go_enter Try.func83, Try.ntmps83
    go_wp2_with fail
    go_ret
    exact ⟨by rw [E.out]; rfl, rfl⟩
  · have E := Lib.hid (show (decide (a ≤ n) && decide (n ≤ b)) = false by rw [decide_eq_false h1, Bool.false_and])
    have h2 : n < a := by omega
    clear h1
    go_enter Try.func83, Try.ntmps83
    go_wp2_with fail
    go_ret
    exact ⟨by rw [E.out]; rfl, rfl⟩

set_option maxHeartbeats 1000000 in
theorem isAddress_any (n : Int) (w : World) :
    Calls Try.prog 85 #[.int .i64 n] w fun e w' => e = .returned (.bool (decide (addr n))) ∧ w' = w := by
  have H1 := Lib.hid (within_any n 0 11 w)
  have H2 := Lib.hid (within_any n 100 115 w)
  by_cases h1 : 0 ≤ n ∧ n ≤ 11
  · have E := Lib.hid (show decide (addr n) = true by rw [decide_eq_true_eq]; unfold addr; omega)
    rw [show (decide (0 ≤ n) && decide (n ≤ 11)) = true by simp [h1]] at H1
    clear h1 H2
    go_enter Try.func85, Try.ntmps85
    go_wp2_with fail
    refine H1.out.mono ?_
    rintro e w1 ⟨rfl, rfl⟩
    go_wp2_with fail
    go_ret
    exact ⟨by rw [E.out]; rfl, rfl⟩
  · have E := Lib.hid (show decide (addr n) = (decide (100 ≤ n) && decide (n ≤ 115)) by rw [← Bool.decide_and]; unfold addr; congr 1; exact propext ⟨fun h => by omega, fun h => by omega⟩)
    rw [show (decide (0 ≤ n) && decide (n ≤ 11)) = false by rw [← Bool.decide_and, decide_eq_false h1]] at H1
    clear h1
    generalize (decide (100 ≤ n) && decide (n ≤ 115)) = b at E H2
    go_enter Try.func85, Try.ntmps85
    go_wp2_with fail
    refine H1.out.mono ?_
    rintro e w1 ⟨rfl, rfl⟩
    go_wp2_with fail
    refine H2.out.mono ?_
    rintro e w1 ⟨rfl, rfl⟩
    go_wp2_with fail
    go_ret
    exact ⟨by rw [E.out]; rfl, rfl⟩

set_option maxHeartbeats 1000000 in
theorem lkey_any (s : ByteArray) (w : World) (hs : s.size ≤ 9223372036854775807) :
    Calls Try.prog 122 #[.string s] w fun e w' => e = .returned (.bool (decide (keyOk s))) ∧ w' = w := by
  have H1 := Lib.hid (within_any (s.size : Int) 1 32 w)
  rw [show (decide ((1 : Int) ≤ (s.size : Int)) && decide ((s.size : Int) ≤ 32)) = decide (keyOk s) by rw [← Bool.decide_and]; unfold keyOk; congr 1; exact propext ⟨fun h => by omega, fun h => by omega⟩] at H1
  go_enter Try.func122, Try.ntmps122
  go_wp2_with fail
  refine H1.out.mono ?_
  rintro e w1 ⟨rfl, rfl⟩
  go_wp2_with fail
  go_ret
  exact ⟨rfl, rfl⟩

theorem bytesLess_nil (l : List UInt8) : Op.bytesLess l [] = false := by
  cases l <;> rfl

theorem leT_nil {s : ByteArray} (h : 1 ≤ s.size) : leT s ⟨#[]⟩ = false := by
  unfold leT
  rw [ByteArray.toList_eq, ByteArray.toList_eq]
  show (Op.bytesLess s.data.toList [] || s.data.toList == []) = false
  rw [bytesLess_nil, Bool.false_or]
  obtain ⟨a⟩ := s
  have h2 : 1 ≤ a.size := h
  rw [beq_eq_false_iff_ne]
  intro e
  have := congrArg List.length e
  simp at this
  rw [this] at h2
  simp at h2

/-- the text ahead of place j -/
def aheadT (l : List ByteArray) (j : Nat) : ByteArray := if j = 0 then ⟨#[]⟩ else l.getD (j - 1) ⟨#[]⟩

theorem ahead_succ {l : List ByteArray} {j : Nat} (h : j < l.length) : aheadT l (j + 1) = l[j] := by
  unfold aheadT
  rw [if_neg (by omega), Nat.add_sub_cancel, List.getD_eq_getElem?_getD, List.getElem?_eq_getElem h]; rfl

theorem ahead_le {l : List ByteArray} {j : Nat} (h : j < l.length) (hk : keyOk l[j]) : leT l[j] (aheadT l j) = true ↔ ∃ h0 : 0 < j, leT l[j] (l[j - 1]'(by omega)) = true := by
  unfold aheadT
  by_cases h0 : j = 0
  · subst h0
    rw [if_pos rfl, leT_nil hk.1]
    exact ⟨fun e => (by cases e), fun ⟨e, _⟩ => absurd e (by omega)⟩
  · rw [if_neg h0, List.getD_eq_getElem?_getD, List.getElem?_eq_getElem (by omega)]
    exact ⟨fun e => ⟨by omega, e⟩, fun ⟨_, e⟩ => e⟩

set_option maxRecDepth 20000 in
set_option maxHeartbeats 4000000 in
theorem lrising_any (A : Option Addr) (c : Nat) (l : List ByteArray) (w : World) (h : StrsAt w A l) (hn : l.length ≤ 9223372036854775807) (hr : ∀ s ∈ l, s.size ≤ 9223372036854775807) :
    Calls Try.prog 110 #[.slice A l.length c] w fun e w' => e = .returned (.bool (risesB l)) ∧ Below w.heap.size w w' := by
  have HA := Lib.hid h
  have HRr := Lib.hid hr
  clear h hr
  go_enter Try.func110, Try.ntmps110
  go_wp2_with fail
  go_loopw [3, 8] (fun u i wr => ∃ j : Nat, j ≤ l.length ∧ u = .string (aheadT l j) ∧ i = .int .i64 (j : Int) ∧ Hid (RisesTo l j) ∧ wr = w) (fun _ i _ => l.length - (intOf i).toNat)
  case atStart => exact ⟨0, by omega, rfl, rfl, RisesTo.zero l, rfl⟩
  case round =>
    obtain ⟨j, hj, rfl, rfl, hup, rfl⟩ := hrel
    by_cases hlt : j < l.length
    · have pj : (j : Int) < (l.length : Int) := by omega
      obtain ⟨ad, rfl, hab, hcl⟩ := HA.out (by omega)
      have x1 := hcl j hlt
      have HK := Lib.hid (fun W => lkey_any l[j] W (HRr.out _ (List.getElem_mem hlt)))
      have hsu := ahead_succ hlt
      by_cases hk : keyOk l[j]
      · rw [show decide (keyOk l[j]) = true by simpa using hk] at HK
        have hle := ahead_le hlt hk
        cases hb : leT l[j] (aheadT l j) with
        | true =>
          have E := Lib.hid (risesB_false (not_rises hlt (fun hh => by
            obtain ⟨h0, e⟩ := hle.1 hb
            have := hh.2 h0
            rw [e] at this; cases this)))
          have hle2 : (Op.bytesLess l[j].toList (aheadT l j).toList || l[j].toList == (aheadT l j).toList) = true := hb
          generalize aheadT l j = u at *
          generalize l[j] = x at *
          clear hup hk hle hb hcl hsu
          go_wp2_with fail
          refine (HK.out _).mono ?_
          rintro e w' ⟨rfl, rfl⟩
          go_wp2_with fail
          go_ret
          exact ⟨by rw [E.out]; rfl, Below.refl _ _⟩
        | false =>
          have HU := Lib.hid (hup.out.succ hlt hk (fun h0 => by
            cases e : leT l[j] (l[j - 1]'(by omega)) with
            | false => rfl
            | true => have := hle.2 ⟨h0, e⟩; rw [hb] at this; cases this))
          have hle2 : (Op.bytesLess l[j].toList (aheadT l j).toList || l[j].toList == (aheadT l j).toList) = false := hb
          have HSu := Lib.hid hsu
          generalize aheadT l j = u at *
          generalize l[j] = x at *
          clear hup hk hle hb hcl hsu
          go_wp2_with fail
          refine (HK.out _).mono ?_
          rintro e w' ⟨rfl, rfl⟩
          go_wp2_with fail
          go_roundw
          case rel => exact ⟨j + 1, by omega, by rw [HSu.out], by go_num, HU.out, trivial⟩
          case measure => simp [intOf]; omega
      · rw [show decide (keyOk l[j]) = false by simpa using hk] at HK
        have E := Lib.hid (risesB_false (not_rises hlt (fun hh => hk hh.1)))
        generalize aheadT l j = u at *
        generalize l[j] = x at *
        clear hup hk hcl hsu
        go_wp2_with fail
        refine (HK.out _).mono ?_
        rintro e w' ⟨rfl, rfl⟩
        go_wp2_with fail
        go_ret
        exact ⟨by rw [E.out]; rfl, Below.refl _ _⟩
    · obtain rfl : j = l.length := by omega
      have E := Lib.hid (risesB_true hup.out.all)
      clear hup
      go_wp2_with fail
      go_ret
      exact ⟨by rw [E.out]; rfl, Below.refl _ _⟩

end Lt
end Go.Proofs.Ytjehjbkcdpidbaa

/- What the landed package's areWrites and roomOf answer; contracts; no condition but the range. -/
namespace Go.Proofs.Ytjehjbkcdpidbaa
namespace Lt
open Go.RowKit Bk

attribute [local go_sem ↓] Go.wp_at_zero Go.wp_at_succ
attribute [local go_sem] floatUpon pick

/-- writes whose keys rise -/
def AreOk (l : List Wr) : Prop := (∀ x ∈ l, wrOk x) ∧ Rises (l.map Wr.key)

noncomputable def areB (l : List Wr) : Bool := @decide (AreOk l) (Classical.propDecidable _)
theorem areB_true {l : List Wr} (h : AreOk l) : areB l = true := by unfold areB; exact @decide_eq_true _ (Classical.propDecidable _) h
theorem areB_false {l : List Wr} (h : ¬ AreOk l) : areB l = false := by unfold areB; exact @decide_eq_false _ (Classical.propDecidable _) h
theorem areB_eq {l : List Wr} (h2 : ∀ x ∈ l, wrOk x) : areB l = risesB (l.map Wr.key) := by
  by_cases h : Rises (l.map Wr.key)
  · rw [risesB_true h, areB_true ⟨h2, h⟩]
  · rw [risesB_false h, areB_false (fun hh => h hh.2)]

set_option maxRecDepth 20000 in
set_option maxHeartbeats 4000000 in
theorem areWrites_any (A : Option Addr) (c : Nat) (l : List Wr) (w : World) (h : WrsAt w A l) (hn : l.length * 16 + 16 ≤ 140737488355328) (hr : ∀ x ∈ l, x.key.size ≤ 9223372036854775807 ∧ x.shard.size ≤ 9223372036854775807) :
    Calls Try.prog 111 #[.slice A l.length c] w fun e w' => e = .returned (.bool (areB l)) ∧ Below w.heap.size w w' := by
  obtain ⟨i0, hi, hz0, hz1, hz2⟩ := info_parts Try.infoStr
  have HRr := Lib.hid hr
  have HA := Lib.hid h
  clear h hr
  go_enter Try.func111, Try.ntmps111
  go_wp2_with fail
  go_loopw [3, 8] (fun u i wr => ∃ j : Nat, j ≤ l.length ∧ i = .int .i64 (j : Int) ∧ Hid (∀ x ∈ l.take j, wrOk x) ∧ Hid (wr.ownsRow w.heap.size 9 1 u j (strV ((l.map Wr.key).take j))) ∧ Hid (Below w.heap.size w wr)) (fun _ i _ => l.length - (intOf i).toNat)
  case atStart => exact ⟨0, by omega, rfl, fun x hx => absurd hx (by simp), World.ownsRow_nil _ _ _ _, Below.refl _ _⟩
  case round =>
    obtain ⟨j, hj, rfl, hall, hown, hbel⟩ := hrel
    by_cases hlt : j < l.length
    · have pj : (j : Int) < (l.length : Int) := by omega
      obtain ⟨ad, rfl, _, _⟩ := HA.out (by omega)
      obtain ⟨ad', e', hab, hcl⟩ := (HA.out.below hbel.out) (by omega)
      obtain rfl := Option.some.inj e'
      obtain ⟨x0, x1, x2⟩ := hcl j hlt
      rw [← add_field _ _ _ (by omega)] at x1 x2
      have HKt := Lib.hid (keys_take hlt)
      have hmem : l[j] ∈ l := List.getElem_mem hlt
      have hrs := (HRr.out _ hmem).2
      have hno : ¬ wrOk l[j] → ¬ AreOk l := fun h hw => h (hw.1 _ hmem)
      have hyes : wrOk l[j] → ∀ x ∈ l.take (j + 1), wrOk x := fun h => mem_take_succ hlt hall.out h
      obtain ⟨X, hX⟩ : ∃ X, X = l[j] := ⟨_, rfl⟩
      rw [← hX] at x0 x1 x2 hrs hno hyes HKt
      clear hX hcl e' hab hmem
      obtain ⟨xk, xs, xd⟩ := X
      simp only at *
      go_upto_region 5 with fail
      have hB1 : Below w.heap.size w (wr.alloc (.cells #[.string xk, .string xs, .bool xd] 124)) := hbel.out.alloc hbel.out.size _
      have hO1 : (wr.alloc (.cells #[.string xk, .string xs, .bool xd] 124)).ownsRow w.heap.size 9 1 u3 j (strV ((l.map Wr.key).take j)) := hown.out.alloc _
      have hC1 : Cel (wr.alloc (.cells #[.string xk, .string xs, .bool xd] 124)) wr.heap.size 124 [.string xk, .string xs, .bool xd] := (blk1 _ _).2
      generalize wr.alloc (.cells #[.string xk, .string xs, .bool xd] 124) = W1 at hB1 hO1 hC1 ⊢
      have z0 := hC1.cell (i := 0) rfl
      have z1 := hC1.cell (i := 1) rfl
      have z2 := hC1.cell (i := 2) rfl
      have HB1 := Lib.hid hB1
      have HO1 := Lib.hid hO1
      have HC1 := Lib.hid hC1
      generalize wr.heap.size = g at *
      clear hB1 hO1 hC1 x0 x1 x2 hown hbel
      by_cases hs : xs.size ≤ 2052
      · have ps : (xs.size : Int) ≤ 2052 := by omega
        cases xd with
        | false =>
          have HW := Lib.hid (hyes ⟨hs, fun h => by cases h.1⟩)
          clear hno hyes hs hall
          go_wp2_with (at_builtin; refine wpList_append_own _ rfl _ _ 34 rfl w.heap.size 9 i0 (.string ⟨#[]⟩) 1 16 Try.underlying34 hi hz0 hz1 hz2 rfl (by decide) _ _ _ rfl (HO1.out.alloc _) ⟨W1.heap.size, 0, none⟩ 1 1 [.string xk] rfl rfl ?c1 ?c2 ?c3 ?c4 ?c5 ?_)
          case c1 => exact cell_one_new _ _ _
          case c2 => intro q hq; simp at hq; subst hq; rfl
          case c3 => unfold maxLen; omega
          case c4 => omega
          case c5 => have := HB1.out.size; simp; omega
          intro v' w5 hown' hgrow _
          have HB5 := Lib.hid (below_append HO1.out HB1.out (Nat.le_refl _) hgrow)
          rw [← HKt.out] at hown'
          have HO5 := Lib.hid hown'
          clear hown' hgrow
          go_wp2_with fail
          go_roundw
          case rel => exact ⟨j + 1, by omega, by go_num, HW.out, HO5.out, HB5.out⟩
          case measure => simp [intOf]; omega
        | true =>
          by_cases he : xs = ⟨#[]⟩
          · have HW := Lib.hid (hyes ⟨hs, fun h => h.2 he⟩)
            subst he
            have t0 := text_eq ⟨#[]⟩
            clear hno hyes hs hall
            go_wp2_with (at_builtin; refine wpList_append_own _ rfl _ _ 34 rfl w.heap.size 9 i0 (.string ⟨#[]⟩) 1 16 Try.underlying34 hi hz0 hz1 hz2 rfl (by decide) _ _ _ rfl (HO1.out.alloc _) ⟨W1.heap.size, 0, none⟩ 1 1 [.string xk] rfl rfl ?c1 ?c2 ?c3 ?c4 ?c5 ?_)
            case c1 => exact cell_one_new _ _ _
            case c2 => intro q hq; simp at hq; subst hq; rfl
            case c3 => unfold maxLen; omega
            case c4 => omega
            case c5 => have := HB1.out.size; simp; omega
            intro v' w5 hown' hgrow _
            have HB5 := Lib.hid (below_append HO1.out HB1.out (Nat.le_refl _) hgrow)
            rw [← HKt.out] at hown'
            have HO5 := Lib.hid hown'
            clear hown' hgrow
            go_wp2_with fail
            go_roundw
            case rel => exact ⟨j + 1, by omega, by go_num, HW.out, HO5.out, HB5.out⟩
            case measure => simp [intOf]; omega
          · have E := Lib.hid (areB_false (hno (fun h => h.2 ⟨rfl, he⟩)))
            have t0 := text_ne he
            have t1 : ¬ xs.toList = [] := fun h => he (by
              rw [ByteArray.toList_eq] at h
              obtain ⟨a⟩ := xs
              congr 1
              exact Array.toList_inj.1 h)
            have t2 : xs.toList.isEmpty = false := by rw [List.isEmpty_eq_false_iff]; exact t1
            clear hno hyes hs hall he
            go_wp2_with fail
            go_ret
            exact ⟨by rw [E.out]; rfl, HB1.out⟩
      · have E := Lib.hid (areB_false (hno (fun h => hs h.1)))
        have ps : (2052 : Int) < (xs.size : Int) := by omega
        clear hno hyes hs hall
        go_wp2_with fail
        go_ret
        exact ⟨by rw [E.out]; rfl, HB1.out⟩
    · obtain rfl : j = l.length := by omega
      have hall2 := hall.out
      rw [List.take_length] at hall2
      have hown2 := hown.out
      have hkl : (l.map Wr.key).length = l.length := List.length_map ..
      rw [List.take_of_length_le (by rw [hkl]; exact Nat.le_refl _)] at hown2
      have E := Lib.hid (areB_eq hall2)
      obtain ⟨B, d, rfl, hsb⟩ : ∃ (B : Option Addr) (d : Nat), u3 = .slice B l.length d ∧ StrsAt wr B (l.map Wr.key) := by
        rcases hown2.2 with ⟨h1, h2⟩ | ⟨g, cap, cur, h1, _⟩
        · exact ⟨none, 0, by rw [h1, h2], fun hp => by rw [hkl] at hp; omega⟩
        · subst h1
          exact ⟨_, _, rfl, StrsAt.own hown2 hkl.symm⟩
      have hR := lrising_any B d (l.map Wr.key) wr hsb (by rw [hkl]; omega) (fun s hs => by obtain ⟨x, hx, rfl⟩ := List.mem_map.1 hs; exact (HRr.out x hx).1)
      rw [hkl] at hR
      have HR := Lib.hid hR
      have HBl := hbel
      clear hall hall2 hown hown2 hsb hR hbel hkl
      go_wp2_with fail
      refine HR.out.mono ?_
      rintro e w1 ⟨rfl, hb⟩
      have HB1 := Lib.hid (HBl.out.trans (hb.mono HBl.out.size))
      clear hb HBl HR
      go_wp2_with fail
      go_ret
      exact ⟨by rw [E.out]; rfl, HB1.out⟩

/-- how much letters of a kind may have -/
structure Rm where
  code : Int
  text : Int
  fewest : Int
  most : Int
  writes : Int

def rmV (r : Rm) : Value := .agg #[.int .i64 r.code, .int .i64 r.text, .int .i64 r.fewest, .int .i64 r.most, .int .i64 r.writes]

def roomR (k : Int) : Rm × Bool :=
  if k = 1 then (⟨0, 0, 1, 1, 0⟩, true) else if k = 2 then (⟨4, 2052, 1, 1, 0⟩, true) else if k = 3 then (⟨0, 0, 0, 16, 16⟩, true) else
  if k = 4 then (⟨1, 0, 0, 0, 0⟩, true) else if k = 8 then (⟨2, 0, 0, 0, 0⟩, true) else if k = 5 ∨ k = 6 ∨ k = 7 then (⟨0, 0, 0, 0, 0⟩, true) else (⟨0, 0, 0, 0, 0⟩, false)

theorem room_blk (w : World) : Cel (w.alloc (.cells #[.int .i64 0, .int .i64 0, .int .i64 0, .int .i64 0, .int .i64 0] 132)) w.heap.size 132 [.int .i64 0, .int .i64 0, .int .i64 0, .int .i64 0, .int .i64 0] := (blk1 w _).2

end Lt
end Go.Proofs.Ytjehjbkcdpidbaa
