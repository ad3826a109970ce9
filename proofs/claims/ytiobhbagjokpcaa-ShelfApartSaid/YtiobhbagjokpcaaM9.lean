/- Parts of the proof, joined: LtCand, LtShape, RcMath, RcOpen; their conditions stand with each. -/
import Derived.Test.YtiobhbagjokpcaaM7
import Derived.Test.YtiobhbagjokpcaaM8

/- Which letter numbers and texts say, if they say one; no condition. -/
namespace Go.Proofs.Ytiobhbagjokpcaa
namespace Lt
open Go.RowKit Bk

def manyOf (ns : List Int) : Nat := (ns.getD 6 0).toNat

/-- the one that they may say -/
def cand (ns : List Int) (ts : List ByteArray) : Let :=
  ⟨ns.getD 0 0, ns.getD 1 0, ns.getD 2 0, ns.getD 3 0, ns.getD 4 0, ns.getD 5 0, ts.getD 0 ⟨#[]⟩, (ts.drop 1).take (manyOf ns), pairL (ns.drop 7) (ts.drop (1 + manyOf ns))⟩

theorem pairL_of (ws : List Wr) : pairL (ws.map fun x => if x.dead then 1 else 0) (ws.flatMap fun x => [x.key, x.shard]) = ws := by
  induction ws with
  | nil => rfl
  | cons x r ih =>
    show (⟨x.key, x.shard, (if x.dead then (1 : Int) else 0) == 1⟩ : Wr) :: pairL (r.map fun x => if x.dead then 1 else 0) (r.flatMap fun x => [x.key, x.shard]) = _
    rw [ih]
    obtain ⟨k, s, d⟩ := x
    cases d <;> rfl

theorem cand_of (l : Let) : cand (numsOf l) (textsOf l) = l := by
  obtain ⟨kd, sr, ds, tn, ts, co, tt, ks, ws⟩ := l
  have hm : manyOf (numsOf ⟨kd, sr, ds, tn, ts, co, tt, ks, ws⟩) = ks.length := by
    simp [manyOf, numsOf]
  unfold cand
  rw [hm]
  have e1 : (textsOf ⟨kd, sr, ds, tn, ts, co, tt, ks, ws⟩).drop 1 = ks ++ ws.flatMap fun x => [x.key, x.shard] := rfl
  have e2 : (textsOf ⟨kd, sr, ds, tn, ts, co, tt, ks, ws⟩).drop (1 + ks.length) = ws.flatMap fun x => [x.key, x.shard] := by
    rw [← List.drop_drop, e1, List.drop_left]
  have e3 : (numsOf ⟨kd, sr, ds, tn, ts, co, tt, ks, ws⟩).drop 7 = ws.map fun x => if x.dead then 1 else 0 := rfl
  rw [e1, e2, e3, List.take_left, pairL_of]
  rfl

theorem nums_len (l : Let) : (numsOf l).length = 7 + l.ws.length := by
  unfold numsOf; rw [List.length_append, List.length_map]; rfl
theorem texts_len (l : Let) : (textsOf l).length = 1 + l.keys.length + 2 * l.ws.length := by
  unfold textsOf; rw [List.length_cons, List.length_append, flat_len]; omega
theorem many_of (l : Let) : manyOf (numsOf l) = l.keys.length := by simp [manyOf, numsOf]
theorem six_of (l : Let) : (numsOf l).getD 6 0 = (l.keys.length : Int) := by simp [numsOf]

/-- bytes that are read so are no other letter's -/
theorem says_nums {s : List UInt8} {ns : List Int} {ts : List ByteArray} {l : Let} (h : Pk.decL s = .ok (ns, ts)) (hl : LetOk l) (hs : s = letL l) : ns = numsOf l ∧ ts = textsOf l := by
  rw [hs] at h
  unfold letL at h
  rw [Pk.decL_back hl.pack] at h
  simp only [Except.ok.injEq, Prod.mk.injEq] at h
  exact ⟨h.1.symm, h.2.symm⟩

def noLet : Let := ⟨0, 0, 0, 0, 0, 0, ⟨#[]⟩, [], []⟩

/-- no letter's bytes -/
def NoLet (s : ByteArray) : Prop := ∀ l, LetOk l → s.data.toList ≠ letL l

/-- what the document's Decode answers -/
def LetDec (s : ByteArray) (w : World) : Ending → World → Prop := fun e w' =>
  (∃ (l : Let) (A B : Option Addr) (c d : Nat), LetOk l ∧ s.data.toList = letL l ∧ e = .returned (.tuple #[letV l A B c d, .int .i64 0]) ∧ StrsAt w' A l.keys ∧ WrsAt w' B l.ws ∧ Below w.heap.size w w') ∨
  (NoLet s ∧ e = .returned (.tuple #[letV noLet none none 0 0, .int .i64 70]) ∧ Below w.heap.size w w')

theorem NoLet.err {s : ByteArray} {e : Pk.Er} (h : Pk.decL s.data.toList = .error e) : NoLet s := fun l hl hs => by
  rw [hs] at h
  unfold letL at h
  rw [Pk.decL_back hl.pack] at h
  cases h

theorem NoLet.of {s : ByteArray} {ns : List Int} {ts : List ByteArray} (h : Pk.decL s.data.toList = .ok (ns, ts)) (hn : ∀ l, LetOk l → ns = numsOf l → ts = textsOf l → s.data.toList = letL l → False) : NoLet s := fun l hl hs => by
  obtain ⟨e1, e2⟩ := says_nums h hl hs
  exact hn l hl e1 e2 hs

/-- the ranges of one that a pack may say -/
theorem cand_range {ns : List Int} {ts : List ByteArray} (h : Pk.MayBe ns ts) : LetRng (cand ns ts) := by
  obtain ⟨h1, h2, h3, h4⟩ := h
  have rb : reachBytes = 140737488351232 := by unfold reachBytes; rfl
  have hi : ∀ i, -9223372036854775808 ≤ ns.getD i 0 ∧ ns.getD i 0 ≤ 9223372036854775807 := fun i => by
    rw [List.getD_eq_getElem?_getD]
    cases e : ns[i]? with
    | none => simp
    | some z =>
      have hz := h3 z (List.mem_of_getElem? e)
      unfold Pk.numOk at hz
      simp only [Option.getD_some]; omega
  have ht : ∀ t ∈ ts, t.size ≤ reachBytes := fun t ht => by have := h4 t ht; omega
  have hp : ∀ (fs : List Int) (us : List ByteArray), (∀ u ∈ us, u.size ≤ reachBytes) → ∀ x ∈ pairL fs us, x.key.size ≤ reachBytes ∧ x.shard.size ≤ reachBytes := by
    intro fs
    induction fs with
    | nil => intro us _ x hx; simp [pairL] at hx
    | cons f fs ih =>
      intro us hu x hx
      match us, hu, hx with
      | [], _, hx => simp [pairL] at hx
      | [k], _, hx => simp [pairL] at hx
      | k :: s :: r, hu, hx =>
        rcases List.mem_cons.1 hx with rfl | hx
        · exact ⟨hu _ (by simp), hu _ (by simp)⟩
        · exact ih r (fun u hr => hu u (by simp [hr])) x hx
  have hpl : ∀ (fs : List Int) (us : List ByteArray), (pairL fs us).length ≤ fs.length := by
    intro fs
    induction fs with
    | nil => intro us; simp [pairL]
    | cons f fs ih =>
      intro us
      match us with
      | [] => simp [pairL]
      | [k] => simp [pairL]
      | k :: s :: r => rw [pairL, List.length_cons, List.length_cons]; have := ih r; omega
  refine ⟨hi 0, hi 1, hi 2, hi 3, hi 4, hi 5, ?_, ?_, ?_, ?_, ?_⟩
  · show (ts.getD 0 ⟨#[]⟩).size ≤ _
    rw [List.getD_eq_getElem?_getD]
    cases e : ts[0]? with
    | none => simp only [Option.getD_none]; show (0 : Nat) ≤ _; omega
    | some t => exact ht t (List.mem_of_getElem? e)
  · show ((ts.drop 1).take (manyOf ns)).length * 16 ≤ _
    rw [List.length_take, List.length_drop]; omega
  · show (pairL (ns.drop 7) (ts.drop (1 + manyOf ns))).length * 16 ≤ _
    have := hpl (ns.drop 7) (ts.drop (1 + manyOf ns))
    rw [List.length_drop] at this; omega
  · intro t ht2
    exact ht t (List.mem_of_mem_drop (List.mem_of_mem_take ht2))
  · exact hp _ _ (fun u hu => ht u (List.mem_of_mem_drop hu))

end Lt
end Go.Proofs.Ytiobhbagjokpcaa

/- Which numbers and texts say a letter; no condition. -/
namespace Go.Proofs.Ytiobhbagjokpcaa
namespace Lt
open Go.RowKit Bk

def Shape (ns : List Int) (ts : List ByteArray) : Prop := 7 ≤ ns.length ∧ 0 ≤ ns.getD 6 0 ∧ (ts.length : Int) = 1 + ns.getD 6 0 + 2 * ((ns.length - 7 : Nat) : Int) ∧ ∀ f ∈ ns.drop 7, f = 0 ∨ f = 1

theorem shape_of (l : Let) : Shape (numsOf l) (textsOf l) := by
  refine ⟨by rw [nums_len]; omega, by rw [six_of]; omega, by rw [six_of, nums_len, texts_len]; omega, fun f hf => ?_⟩
  have e3 : (numsOf l).drop 7 = l.ws.map fun x => if x.dead then 1 else 0 := rfl
  rw [e3] at hf
  obtain ⟨x, _, rfl⟩ := List.mem_map.1 hf
  split
  · exact .inr rfl
  · exact .inl rfl

theorem pair_flags : ∀ (fs : List Int) (us : List ByteArray), us.length = 2 * fs.length → (∀ f ∈ fs, f = 0 ∨ f = 1) → ((pairL fs us).map fun x => if x.dead then (1 : Int) else 0) = fs ∧ ((pairL fs us).flatMap fun x => [x.key, x.shard]) = us
  | [], [], _, _ => ⟨rfl, rfl⟩
  | [], _ :: _, h, _ => by simp at h
  | f :: fs, [], h, _ => by simp at h
  | f :: fs, [k], h, _ => by simp at h; omega
  | f :: fs, k :: s :: r, h, h1 => by
    obtain ⟨i1, i2⟩ := pair_flags fs r (by simp at h; omega) (fun g hg => h1 g (by simp [hg]))
    have hf : (if (f == 1) = true then (1 : Int) else 0) = f := by
      rcases h1 f (by simp) with rfl | rfl <;> rfl
    constructor
    · show (if (f == 1) = true then (1 : Int) else 0) :: ((pairL fs r).map _) = _
      rw [hf, i1]
    · show k :: s :: ((pairL fs r).flatMap _) = _
      rw [i2]

theorem seven {ns : List Int} (h : 7 ≤ ns.length) : ns = [ns.getD 0 0, ns.getD 1 0, ns.getD 2 0, ns.getD 3 0, ns.getD 4 0, ns.getD 5 0, ns.getD 6 0] ++ ns.drop 7 := by
  match ns, h with
  | a :: b :: c :: d :: e :: f :: g :: r, _ => rfl

theorem shape_cand {ns : List Int} {ts : List ByteArray} (h : Shape ns ts) : numsOf (cand ns ts) = ns ∧ textsOf (cand ns ts) = ts := by
  obtain ⟨h1, h2, h3, h4⟩ := h
  have hm : ((manyOf ns : Nat) : Int) = ns.getD 6 0 := by unfold manyOf; omega
  have hp := pair_flags (ns.drop 7) (ts.drop (1 + manyOf ns)) (by rw [List.length_drop, List.length_drop]; omega) h4
  have hkl : ((ts.drop 1).take (manyOf ns)).length = manyOf ns := by rw [List.length_take, List.length_drop]; omega
  constructor
  · show [ns.getD 0 0, ns.getD 1 0, ns.getD 2 0, ns.getD 3 0, ns.getD 4 0, ns.getD 5 0, (((ts.drop 1).take (manyOf ns)).length : Int)] ++ (pairL (ns.drop 7) (ts.drop (1 + manyOf ns))).map _ = ns
    rw [hp.1, hkl, hm]
    exact (seven h1).symm
  · show ts.getD 0 ⟨#[]⟩ :: ((ts.drop 1).take (manyOf ns) ++ (pairL (ns.drop 7) (ts.drop (1 + manyOf ns))).flatMap _) = ts
    rw [hp.2, show ts.drop (1 + manyOf ns) = (ts.drop 1).drop (manyOf ns) by rw [List.drop_drop], List.take_append_drop]
    match ts, h3 with
    | [], h3 => rw [List.length_nil] at h3; omega
    | t :: r, _ => rfl

theorem shape_keys {ns : List Int} {ts : List ByteArray} (h : Shape ns ts) : (cand ns ts).keys.length = manyOf ns ∧ (cand ns ts).ws.length = ns.length - 7 := by
  obtain ⟨h1, h2, h3, h4⟩ := h
  have hm : ((manyOf ns : Nat) : Int) = ns.getD 6 0 := by unfold manyOf; omega
  constructor
  · show ((ts.drop 1).take (manyOf ns)).length = _
    rw [List.length_take, List.length_drop]; omega
  · show (pairL _ _).length = _
    rw [pairL_len _ _ (by rw [List.length_drop, List.length_drop]; omega), List.length_drop]

/-- bytes whose numbers and texts have not that shape are no letter's -/
theorem NoLet.shape {s : ByteArray} {ns : List Int} {ts : List ByteArray} (h : Pk.decL s.data.toList = .ok (ns, ts)) (hn : ¬ Shape ns ts) : NoLet s := NoLet.of h fun l _ e1 e2 _ => hn (by rw [e1, e2]; exact shape_of l)

theorem NoLet.bad {s : ByteArray} {ns : List Int} {ts : List ByteArray} (h : Pk.decL s.data.toList = .ok (ns, ts)) (hn : ¬ LetOk (cand ns ts)) : NoLet s := NoLet.of h fun l hl e1 e2 _ => hn (by rw [e1, e2, cand_of]; exact hl)

theorem cand_bytes {s : ByteArray} {ns : List Int} {ts : List ByteArray} (h : Pk.decL s.data.toList = .ok (ns, ts)) (hs : Shape ns ts) : s.data.toList = letL (cand ns ts) := by
  obtain ⟨e1, e2⟩ := shape_cand hs
  unfold letL
  rw [e1, e2]
  exact (Pk.decL_ok h).2

end Lt
end Go.Proofs.Ytiobhbagjokpcaa

/- Records in plain lists: what one may be, its numbers and texts, and which record numbers and texts say; no condition. -/
namespace Go.Proofs.Ytiobhbagjokpcaa
namespace Rc
open Lt

/-- a record -/
structure Rec where
  kind : Int
  txn : Int
  ts : Int
  coord : Int
  key : ByteArray
  text : ByteArray
  dead : Bool
  keys : List ByteArray
  ws : List Wr

def flag (b : Bool) : Int := if b then 1 else 0

theorem flag_inj {a b : Bool} (h : flag a = flag b) : a = b := by
  cases a <;> cases b <;> simp [flag] at h ⊢

def headOk (r : Rec) : Prop := (r.txn = 0 ∨ txnOk r.txn) ∧ stampOk r.ts ∧ 0 ≤ r.coord ∧ r.coord < 16
def ListsOk (r : Rec) : Prop := r.keys = [] ∧ r.ws = []
def TextOk (r : Rec) : Prop := r.key = ⟨#[]⟩ ∧ r.text = ⟨#[]⟩ ∧ r.dead = false
def BareOk (r : Rec) : Prop := ListsOk r ∧ TextOk r ∧ r.coord = 0

/-- what its kind lets it have -/
def kindOk (r : Rec) : Prop :=
  (r.kind = 1 ∧ TextOk r ∧ r.txn ≠ 0 ∧ r.keys.length ≤ 16 ∧ Rises r.keys ∧ WritesOk r.ws) ∨
  (r.kind = 2 ∧ BareOk r ∧ r.txn ≠ 0) ∨
  (r.kind = 3 ∧ ListsOk r ∧ r.coord = 0 ∧ r.txn = 0 ∧ r.ts ≠ 0 ∧ keyOk r.key ∧ r.text.size ≤ 2052 ∧ (r.dead = false ∨ r.text = ⟨#[]⟩)) ∨
  (r.kind = 4 ∧ BareOk r ∧ r.txn = 0) ∨
  (r.kind = 5 ∧ BareOk r ∧ r.txn ≠ 0 ∧ r.ts ≠ 0) ∨
  (r.kind = 6 ∧ BareOk r ∧ r.txn ≠ 0 ∧ r.ts = 0) ∨
  (r.kind = 7 ∧ BareOk r ∧ r.txn = 0 ∧ r.ts ≠ 0)

def RecOk (r : Rec) : Prop := headOk r ∧ kindOk r

def numsOf (r : Rec) : List Int := [r.kind, r.txn, r.ts, r.coord, flag r.dead, (r.keys.length : Int)] ++ r.ws.map fun x => if x.dead then 1 else 0
def textsOf (r : Rec) : List ByteArray := r.key :: r.text :: (r.keys ++ r.ws.flatMap fun x => [x.key, x.shard])
def recL (r : Rec) : List UInt8 := Pk.bytesL (numsOf r) (textsOf r)

theorem rises_keys {m : List ByteArray} (hm : Rises m) : ∀ k ∈ m, keyOk k := fun k hk => by
  obtain ⟨i, hi, e⟩ := List.mem_iff_getElem.1 hk
  rw [← e]; exact (hm i hi).1

theorem RecOk.bounds {r : Rec} (h : RecOk r) : r.keys.length ≤ 16 ∧ r.ws.length ≤ 16 ∧ r.key.size ≤ 32 ∧ r.text.size ≤ 2052 ∧ (∀ k ∈ r.keys, keyOk k) ∧ (∀ x ∈ r.ws, keyOk x.key ∧ x.shard.size ≤ 2052) ∧ 1 ≤ r.kind ∧ r.kind ≤ 7 := by
  obtain ⟨_, h⟩ := h
  have e0 : (⟨#[]⟩ : ByteArray).size = 0 := rfl
  have bare : BareOk r → r.keys.length ≤ 16 ∧ r.ws.length ≤ 16 ∧ r.key.size ≤ 32 ∧ r.text.size ≤ 2052 ∧ (∀ k ∈ r.keys, keyOk k) ∧ (∀ x ∈ r.ws, keyOk x.key ∧ x.shard.size ≤ 2052) := by
    rintro ⟨⟨h1, h2⟩, ⟨h3, h4, _⟩, _⟩
    rw [h1, h2, h3, h4]
    exact ⟨by simp, by simp, by rw [e0]; omega, by rw [e0]; omega, by simp, by simp⟩
  rcases h with ⟨h1, ⟨h2, h3, _⟩, _, h4, h5, h6, h7, h8⟩ | ⟨h1, h2, _⟩ | ⟨h1, ⟨h2, h3⟩, _, _, _, h4, h5, _⟩ | ⟨h1, h2, _⟩ | ⟨h1, h2, _⟩ | ⟨h1, h2, _⟩ | ⟨h1, h2, _⟩
  · rw [h2, h3]
    exact ⟨h4, h6, by rw [e0]; omega, by rw [e0]; omega, rises_keys h5, fun x hx => ⟨rises_keys h8 _ (List.mem_map.2 ⟨x, hx, rfl⟩), (h7 x hx).1⟩, by omega, by omega⟩
  · obtain ⟨a, b, c, d, e, f⟩ := bare h2; exact ⟨a, b, c, d, e, f, by omega, by omega⟩
  · rw [h2, h3]
    exact ⟨by simp, by simp, h4.2, h5, by simp, by simp, by omega, by omega⟩
  all_goals obtain ⟨a, b, c, d, e, f⟩ := bare h2; exact ⟨a, b, c, d, e, f, by omega, by omega⟩

/-- a record that may be is a pack that may be -/
theorem RecOk.pack {r : Rec} (h : RecOk r) : Pk.MayBe (numsOf r) (textsOf r) := by
  obtain ⟨b1, b2, b3, b4, b5, b6, b7, b8⟩ := h.bounds
  obtain ⟨⟨h1, h2, h3, h4⟩, _⟩ := h
  have hfl : ∀ b, Pk.numOk (flag b) := fun b => by cases b <;> (unfold flag Pk.numOk; simp)
  refine ⟨?_, ?_, fun n hn => ?_, fun t ht => ?_⟩
  · unfold numsOf
    rw [List.length_append, List.length_map]
    show 6 + _ ≤ _
    omega
  · unfold textsOf
    rw [List.length_cons, List.length_cons, List.length_append, flat_len]
    omega
  · unfold numsOf at hn
    rcases List.mem_append.1 hn with hn | hn
    · simp only [List.mem_cons, List.not_mem_nil, or_false] at hn
      unfold txnOk at h1
      unfold stampOk at h2
      rcases hn with rfl | rfl | rfl | rfl | rfl | rfl
      all_goals first | exact hfl _ | (unfold Pk.numOk; omega)
    · obtain ⟨x, _, rfl⟩ := List.mem_map.1 hn
      unfold Pk.numOk
      split <;> omega
  · unfold textsOf at ht
    rcases List.mem_cons.1 ht with rfl | ht
    · omega
    rcases List.mem_cons.1 ht with rfl | ht
    · omega
    rcases List.mem_append.1 ht with ht | ht
    · have := b5 t ht; unfold keyOk at this; omega
    · obtain ⟨x, hx, hx2⟩ := List.mem_flatMap.1 ht
      have := b6 x hx
      unfold keyOk at this
      simp only [List.mem_cons, List.not_mem_nil, or_false] at hx2
      rcases hx2 with rfl | rfl <;> omega

def manyOf (ns : List Int) : Nat := (ns.getD 5 0).toNat

/-- the one that numbers and texts may say -/
def cand (ns : List Int) (ts : List ByteArray) : Rec :=
  ⟨ns.getD 0 0, ns.getD 1 0, ns.getD 2 0, ns.getD 3 0, ts.getD 0 ⟨#[]⟩, ts.getD 1 ⟨#[]⟩, ns.getD 4 0 == 1, (ts.drop 2).take (manyOf ns), pairL (ns.drop 6) (ts.drop (2 + manyOf ns))⟩

theorem flag_one (b : Bool) : (flag b == 1) = b := by cases b <;> rfl

theorem cand_of (r : Rec) : cand (numsOf r) (textsOf r) = r := by
  obtain ⟨kd, tn, ts, co, ky, tt, dd, ks, ws⟩ := r
  have hm : manyOf (numsOf ⟨kd, tn, ts, co, ky, tt, dd, ks, ws⟩) = ks.length := by simp [manyOf, numsOf]
  unfold cand
  rw [hm]
  have e1 : (textsOf ⟨kd, tn, ts, co, ky, tt, dd, ks, ws⟩).drop 2 = ks ++ ws.flatMap fun x => [x.key, x.shard] := rfl
  have e2 : (textsOf ⟨kd, tn, ts, co, ky, tt, dd, ks, ws⟩).drop (2 + ks.length) = ws.flatMap fun x => [x.key, x.shard] := by
    rw [← List.drop_drop, e1, List.drop_left]
  have e3 : (numsOf ⟨kd, tn, ts, co, ky, tt, dd, ks, ws⟩).drop 6 = ws.map fun x => if x.dead then 1 else 0 := rfl
  have e4 : ((numsOf ⟨kd, tn, ts, co, ky, tt, dd, ks, ws⟩).getD 4 0 == 1) = dd := flag_one dd
  rw [e1, e2, e3, e4, List.take_left, pairL_of]
  rfl

theorem nums_len (r : Rec) : (numsOf r).length = 6 + r.ws.length := by
  unfold numsOf; rw [List.length_append, List.length_map]; rfl
theorem texts_len (r : Rec) : (textsOf r).length = 2 + r.keys.length + 2 * r.ws.length := by
  unfold textsOf; rw [List.length_cons, List.length_cons, List.length_append, flat_len]; omega
theorem five_of (r : Rec) : (numsOf r).getD 5 0 = (r.keys.length : Int) := by simp [numsOf]

theorem recL_inj {r q : Rec} (hr : RecOk r) (hq : RecOk q) (h : recL r = recL q) : r = q := by
  have h1 := Pk.decL_back hr.pack
  have h2 := Pk.decL_back hq.pack
  unfold recL at h
  rw [h, h2] at h1
  simp only [Except.ok.injEq, Prod.mk.injEq] at h1
  rw [← cand_of r, ← cand_of q, h1.1, h1.2]

/-- bytes that are read so are no other record's -/
theorem says_nums {s : List UInt8} {ns : List Int} {ts : List ByteArray} {r : Rec} (h : Pk.decL s = .ok (ns, ts)) (hr : RecOk r) (hs : s = recL r) : ns = numsOf r ∧ ts = textsOf r := by
  rw [hs] at h
  unfold recL at h
  rw [Pk.decL_back hr.pack] at h
  simp only [Except.ok.injEq, Prod.mk.injEq] at h
  exact ⟨h.1.symm, h.2.symm⟩

def noRec : Rec := ⟨0, 0, 0, 0, ⟨#[]⟩, ⟨#[]⟩, false, [], []⟩

/-- no record's bytes -/
def NoRec (s : ByteArray) : Prop := ∀ r, RecOk r → s.data.toList ≠ recL r

theorem NoRec.err {s : ByteArray} {e : Pk.Er} (h : Pk.decL s.data.toList = .error e) : NoRec s := fun r hr hs => by
  rw [hs] at h
  unfold recL at h
  rw [Pk.decL_back hr.pack] at h
  cases h

theorem NoRec.of {s : ByteArray} {ns : List Int} {ts : List ByteArray} (h : Pk.decL s.data.toList = .ok (ns, ts)) (hn : ∀ r, RecOk r → ns = numsOf r → ts = textsOf r → s.data.toList = recL r → False) : NoRec s := fun r hr hs => by
  obtain ⟨e1, e2⟩ := says_nums h hr hs
  exact hn r hr e1 e2 hs

/-- the numbers and texts of a record -/
def Shape (ns : List Int) (ts : List ByteArray) : Prop := 6 ≤ ns.length ∧ 0 ≤ ns.getD 5 0 ∧ (ts.length : Int) = 2 + ns.getD 5 0 + 2 * ((ns.length - 6 : Nat) : Int) ∧ (ns.getD 4 0 = 0 ∨ ns.getD 4 0 = 1) ∧ ∀ f ∈ ns.drop 6, f = 0 ∨ f = 1

theorem shape_of (r : Rec) : Shape (numsOf r) (textsOf r) := by
  refine ⟨by rw [nums_len]; omega, by rw [five_of]; omega, by rw [five_of, nums_len, texts_len]; omega, ?_, fun f hf => ?_⟩
  · show flag r.dead = 0 ∨ flag r.dead = 1
    cases r.dead
    · exact .inl rfl
    · exact .inr rfl
  · have e3 : (numsOf r).drop 6 = r.ws.map fun x => if x.dead then 1 else 0 := rfl
    rw [e3] at hf
    obtain ⟨x, _, rfl⟩ := List.mem_map.1 hf
    split
    · exact .inr rfl
    · exact .inl rfl

theorem six {ns : List Int} (h : 6 ≤ ns.length) : ns = [ns.getD 0 0, ns.getD 1 0, ns.getD 2 0, ns.getD 3 0, ns.getD 4 0, ns.getD 5 0] ++ ns.drop 6 := by
  match ns, h with
  | a :: b :: c :: d :: e :: f :: r, _ => rfl

theorem two {ts : List ByteArray} (h : 2 ≤ ts.length) : ts = ts.getD 0 ⟨#[]⟩ :: ts.getD 1 ⟨#[]⟩ :: ts.drop 2 := by
  match ts, h with
  | a :: b :: r, _ => rfl

theorem shape_cand {ns : List Int} {ts : List ByteArray} (h : Shape ns ts) : numsOf (cand ns ts) = ns ∧ textsOf (cand ns ts) = ts := by
  obtain ⟨h1, h2, h3, h5, h4⟩ := h
  have hm : ((manyOf ns : Nat) : Int) = ns.getD 5 0 := by unfold manyOf; omega
  have hp := pair_flags (ns.drop 6) (ts.drop (2 + manyOf ns)) (by rw [List.length_drop, List.length_drop]; omega) h4
  have hkl : ((ts.drop 2).take (manyOf ns)).length = manyOf ns := by rw [List.length_take, List.length_drop]; omega
  have hf : flag (ns.getD 4 0 == 1) = ns.getD 4 0 := by
    rcases h5 with e | e <;> (rw [e]; rfl)
  constructor
  · show [ns.getD 0 0, ns.getD 1 0, ns.getD 2 0, ns.getD 3 0, flag (ns.getD 4 0 == 1), (((ts.drop 2).take (manyOf ns)).length : Int)] ++ (pairL (ns.drop 6) (ts.drop (2 + manyOf ns))).map _ = ns
    rw [hp.1, hkl, hm, hf]
    exact (six h1).symm
  · show ts.getD 0 ⟨#[]⟩ :: ts.getD 1 ⟨#[]⟩ :: ((ts.drop 2).take (manyOf ns) ++ (pairL (ns.drop 6) (ts.drop (2 + manyOf ns))).flatMap _) = ts
    rw [hp.2, show ts.drop (2 + manyOf ns) = (ts.drop 2).drop (manyOf ns) by rw [List.drop_drop], List.take_append_drop]
    exact (two (by omega)).symm

theorem shape_keys {ns : List Int} {ts : List ByteArray} (h : Shape ns ts) : (cand ns ts).keys.length = manyOf ns ∧ (cand ns ts).ws.length = ns.length - 6 := by
  obtain ⟨h1, h2, h3, h5, h4⟩ := h
  have hm : ((manyOf ns : Nat) : Int) = ns.getD 5 0 := by unfold manyOf; omega
  constructor
  · show ((ts.drop 2).take (manyOf ns)).length = _
    rw [List.length_take, List.length_drop]; omega
  · show (pairL _ _).length = _
    rw [pairL_len _ _ (by rw [List.length_drop, List.length_drop]; omega), List.length_drop]

theorem NoRec.shape {s : ByteArray} {ns : List Int} {ts : List ByteArray} (h : Pk.decL s.data.toList = .ok (ns, ts)) (hn : ¬ Shape ns ts) : NoRec s := NoRec.of h fun r _ e1 e2 _ => hn (by rw [e1, e2]; exact shape_of r)

theorem NoRec.bad {s : ByteArray} {ns : List Int} {ts : List ByteArray} (h : Pk.decL s.data.toList = .ok (ns, ts)) (hn : ¬ RecOk (cand ns ts)) : NoRec s := NoRec.of h fun r hr e1 e2 _ => hn (by rw [e1, e2, cand_of]; exact hr)

theorem cand_bytes {s : ByteArray} {ns : List Int} {ts : List ByteArray} (h : Pk.decL s.data.toList = .ok (ns, ts)) (hs : Shape ns ts) : s.data.toList = recL (cand ns ts) := by
  obtain ⟨e1, e2⟩ := shape_cand hs
  unfold recL
  rw [e1, e2]
  exact (Pk.decL_ok h).2

end Rc
end Go.Proofs.Ytiobhbagjokpcaa

/- A record as an argument: what its reading says. -/
namespace Go.Proofs.Ytiobhbagjokpcaa
namespace Rc
open Go.ChangeShapes Go.WideShapes Go.ChangeAt Go.RowKit Go.Joins Go.Deep Bk Lt

section
variable {H : Type} {enc : TypeId × Value → H} {W : World}

/-- the ranges of what a record holds -/
structure RecRng (r : Rec) : Prop where
  kind : -9223372036854775808 ≤ r.kind ∧ r.kind ≤ 9223372036854775807
  txn : -9223372036854775808 ≤ r.txn ∧ r.txn ≤ 9223372036854775807
  ts : -9223372036854775808 ≤ r.ts ∧ r.ts ≤ 9223372036854775807
  coord : -9223372036854775808 ≤ r.coord ∧ r.coord ≤ 9223372036854775807
  key : r.key.size ≤ reachBytes
  text : r.text.size ≤ reachBytes
  k16 : r.keys.length * 16 ≤ reachBytes
  w40 : r.ws.length * 40 ≤ reachBytes
  kr : ∀ s ∈ r.keys, s.size ≤ reachBytes
  wr : ∀ x ∈ r.ws, x.key.size ≤ reachBytes ∧ x.shard.size ≤ reachBytes

/-- .. and of its slices -/
structure RecRange (r : Rec) (c d : Nat) : Prop extends RecRng r where
  kc : r.keys.length ≤ c
  wd : r.ws.length ≤ d
  c63 : c ≤ maxLen
  d63 : d ≤ maxLen

/-- the value of a record -/
def recV (r : Rec) (A B : Option Addr) (c d : Nat) : Value := .agg #[.int .i64 r.kind, .int .i64 r.txn, .int .i64 r.ts, .int .i64 r.coord, .string r.key, .string r.text, .bool r.dead, .slice A r.keys.length c, .slice B r.ws.length d]

/-- the value is a record that holds these -/
def RecArg (w : World) (v : Value) (r : Rec) : Prop :=
  ∃ (A B : Option Addr) (c d : Nat), v = recV r A B c d ∧ StrsAt w A r.keys ∧ WrsAt w B r.ws ∧ RecRange r c d ∧ (A = none → r.keys = [] ∧ c = 0) ∧ (B = none → r.ws = [] ∧ d = 0)

set_option maxRecDepth 20000 in
theorem open_record {base : Nat} {v : Value} {d : DataW H} {p : List MemPlace} {ts : List TypeId} {ds : List (DataW H)} {j : Nat}
    (hsz : (DataW.weightsEach Try.prog ts ds).all (· ≤ reachBytes) = true) (hj : ts[j]? = some 32) (hd : ds[j]? = some d)
    (hv : Value.okWide Try.prog W .any base 32 v) (h : DataW.Trod enc Try.prog W 0 (fun _ => true) true 32 v d p) (hl : ∀ x ∈ p, x.block < W.heap.size) : ∃ r, RecArg W v r := by
  obtain ⟨cs, xs, n, rfl, hcl, rfl, rfl, hxl, hall⟩ := open_agg_any Try.underlying32 (by kernel_rfl) (by kernel_rfl) hv h
  have hw := arg_weights hsz hj hd
  match cs, hcl, xs, hxl with
  | [v0, v1, v2, v3, v4, v5, v6, v7, v8], _, [y0, y1, y2, y3, y4, y5, y6, y7, y8], _ =>
    obtain ⟨kind, rfl, r0⟩ := field_int Try.underlying3 (hall 0 _ _ _ rfl rfl rfl)
    obtain ⟨txn, rfl, r1⟩ := field_int Try.underlying3 (hall 1 _ _ _ rfl rfl rfl)
    obtain ⟨ts', rfl, r2⟩ := field_int Try.underlying3 (hall 2 _ _ _ rfl rfl rfl)
    obtain ⟨coord, rfl, r3⟩ := field_int Try.underlying3 (hall 3 _ _ _ rfl rfl rfl)
    obtain ⟨key, rfl, r4⟩ := field_text Try.underlying9 (hall 4 _ _ _ rfl rfl rfl) (agg_weights (i := 4) Try.underlying32 rfl rfl hw)
    obtain ⟨text, rfl, r5⟩ := field_text Try.underlying9 (hall 5 _ _ _ rfl rfl rfl) (agg_weights (i := 5) Try.underlying32 rfl rfl hw)
    obtain ⟨dead, rfl⟩ := field_bool Try.underlying4 (hall 6 _ _ _ rfl rfl rfl)
    obtain ⟨A, c, K, rfl, a1, a2, a3, a4, a5, a6⟩ := field_texts Try.underlying29 Try.underlying9 (by kernel_rfl) (by kernel_rfl) (hall 7 _ _ _ rfl rfl rfl) (agg_weights (i := 7) Try.underlying32 rfl rfl hw) (fun x hx => hl x (List.mem_flatMap.2 ⟨y7, by simp, hx⟩))
    obtain ⟨B, d, L, rfl, b1, b2, b3, b4, b5, b6⟩ := field_writes40 Try.underlying30 Try.underlying36 (by kernel_rfl) (by kernel_rfl) Try.underlying9 Try.underlying9 Try.underlying4 (of_decide_eq_true (by kernel_rfl)) (hall 8 _ _ _ rfl rfl rfl) (agg_weights (i := 8) Try.underlying32 rfl rfl hw) (fun x hx => hl x (List.mem_flatMap.2 ⟨y8, by simp, hx⟩))
    exact ⟨⟨kind, txn, ts', coord, key, text, dead, K, L⟩, A, B, c, d, rfl, a1, b1, ⟨⟨r0, r1, r2, r3, r4, r5, a2, b2, a5, b5⟩, a3, b3, a4, b4⟩, a6, b6⟩

end

end Rc
end Go.Proofs.Ytiobhbagjokpcaa
