/- Records in plain lists: what one may be, its numbers and texts, and which record numbers and texts say; no condition. -/
import Derived.Test.YtibekhigpamnjaaA5
namespace Go.Proofs.Ytibekhigpamnjaa
namespace Rc
open Lt

/-- a record -/
structure Rec where
  kind : Int
  txn : Int
  ts : Int
  coord : Int
  key : ByteArray
  text : ByteArray
  dead : Bool
  keys : List ByteArray
  ws : List Wr

def flag (b : Bool) : Int := if b then 1 else 0

theorem flag_inj {a b : Bool} (h : flag a = flag b) : a = b := by
  cases a <;> cases b <;> simp [flag] at h ⊢

def headOk (r : Rec) : Prop := (r.txn = 0 ∨ txnOk r.txn) ∧ stampOk r.ts ∧ 0 ≤ r.coord ∧ r.coord < 16
def ListsOk (r : Rec) : Prop := r.keys = [] ∧ r.ws = []
def TextOk (r : Rec) : Prop := r.key = ⟨#[]⟩ ∧ r.text = ⟨#[]⟩ ∧ r.dead = false
def BareOk (r : Rec) : Prop := ListsOk r ∧ TextOk r ∧ r.coord = 0

/-- what its kind lets it have -/
def kindOk (r : Rec) : Prop :=
  (r.kind = 1 ∧ TextOk r ∧ r.txn ≠ 0 ∧ r.keys.length ≤ 16 ∧ Rises r.keys ∧ WritesOk r.ws) ∨
  (r.kind = 2 ∧ BareOk r ∧ r.txn ≠ 0) ∨
  (r.kind = 3 ∧ ListsOk r ∧ r.coord = 0 ∧ r.txn = 0 ∧ r.ts ≠ 0 ∧ keyOk r.key ∧ r.text.size ≤ 2052 ∧ (r.dead = false ∨ r.text = ⟨#[]⟩)) ∨
  (r.kind = 4 ∧ BareOk r ∧ r.txn = 0) ∨
  (r.kind = 5 ∧ BareOk r ∧ r.txn ≠ 0 ∧ r.ts ≠ 0) ∨
  (r.kind = 6 ∧ BareOk r ∧ r.txn ≠ 0 ∧ r.ts = 0) ∨
  (r.kind = 7 ∧ BareOk r ∧ r.txn = 0 ∧ r.ts ≠ 0)

def RecOk (r : Rec) : Prop := headOk r ∧ kindOk r

def numsOf (r : Rec) : List Int := [r.kind, r.txn, r.ts, r.coord, flag r.dead, (r.keys.length : Int)] ++ r.ws.map fun x => if x.dead then 1 else 0
def textsOf (r : Rec) : List ByteArray := r.key :: r.text :: (r.keys ++ r.ws.flatMap fun x => [x.key, x.shard])
def recL (r : Rec) : List UInt8 := Pk.bytesL (numsOf r) (textsOf r)

theorem rises_keys {m : List ByteArray} (hm : Rises m) : ∀ k ∈ m, keyOk k := fun k hk => by
  obtain ⟨i, hi, e⟩ := List.mem_iff_getElem.1 hk
  rw [← e]; exact (hm i hi).1

theorem RecOk.bounds {r : Rec} (h : RecOk r) : r.keys.length ≤ 16 ∧ r.ws.length ≤ 16 ∧ r.key.size ≤ 32 ∧ r.text.size ≤ 2052 ∧ (∀ k ∈ r.keys, keyOk k) ∧ (∀ x ∈ r.ws, keyOk x.key ∧ x.shard.size ≤ 2052) ∧ 1 ≤ r.kind ∧ r.kind ≤ 7 := by
  obtain ⟨_, h⟩ := h
  have e0 : (⟨#[]⟩ : ByteArray).size = 0 := rfl
  have bare : BareOk r → r.keys.length ≤ 16 ∧ r.ws.length ≤ 16 ∧ r.key.size ≤ 32 ∧ r.text.size ≤ 2052 ∧ (∀ k ∈ r.keys, keyOk k) ∧ (∀ x ∈ r.ws, keyOk x.key ∧ x.shard.size ≤ 2052) := by
    rintro ⟨⟨h1, h2⟩, ⟨h3, h4, _⟩, _⟩
    rw [h1, h2, h3, h4]
    exact ⟨by simp, by simp, by rw [e0]; omega, by rw [e0]; omega, by simp, by simp⟩
  rcases h with ⟨h1, ⟨h2, h3, _⟩, _, h4, h5, h6, h7, h8⟩ | ⟨h1, h2, _⟩ | ⟨h1, ⟨h2, h3⟩, _, _, _, h4, h5, _⟩ | ⟨h1, h2, _⟩ | ⟨h1, h2, _⟩ | ⟨h1, h2, _⟩ | ⟨h1, h2, _⟩
  · rw [h2, h3]
    exact ⟨h4, h6, by rw [e0]; omega, by rw [e0]; omega, rises_keys h5, fun x hx => ⟨rises_keys h8 _ (List.mem_map.2 ⟨x, hx, rfl⟩), (h7 x hx).1⟩, by omega, by omega⟩
  · obtain ⟨a, b, c, d, e, f⟩ := bare h2; exact ⟨a, b, c, d, e, f, by omega, by omega⟩
  · rw [h2, h3]
    exact ⟨by simp, by simp, h4.2, h5, by simp, by simp, by omega, by omega⟩
  all_goals obtain ⟨a, b, c, d, e, f⟩ := bare h2; exact ⟨a, b, c, d, e, f, by omega, by omega⟩

/-- a record that may be is a pack that may be -/
theorem RecOk.pack {r : Rec} (h : RecOk r) : Pk.MayBe (numsOf r) (textsOf r) := by
  obtain ⟨b1, b2, b3, b4, b5, b6, b7, b8⟩ := h.bounds
  obtain ⟨⟨h1, h2, h3, h4⟩, _⟩ := h
  have hfl : ∀ b, Pk.numOk (flag b) := fun b => by cases b <;> (unfold flag Pk.numOk; simp)
  refine ⟨?_, ?_, fun n hn => ?_, fun t ht => ?_⟩
  · unfold numsOf
    rw [List.length_append, List.length_map]
    show 6 + _ ≤ _
    omega
  · unfold textsOf
    rw [List.length_cons, List.length_cons, List.length_append, flat_len]
    omega
  · unfold numsOf at hn
    rcases List.mem_append.1 hn with hn | hn
    · simp only [List.mem_cons, List.not_mem_nil, or_false] at hn
      unfold txnOk at h1
      unfold stampOk at h2
      rcases hn with rfl | rfl | rfl | rfl | rfl | rfl
      all_goals first | exact hfl _ | (unfold Pk.numOk; omega)
    · obtain ⟨x, _, rfl⟩ := List.mem_map.1 hn
      unfold Pk.numOk
      split <;> omega
  · unfold textsOf at ht
    rcases List.mem_cons.1 ht with rfl | ht
    · omega
    rcases List.mem_cons.1 ht with rfl | ht
    · omega
    rcases List.mem_append.1 ht with ht | ht
    · have := b5 t ht; unfold keyOk at this; omega
    · obtain ⟨x, hx, hx2⟩ := List.mem_flatMap.1 ht
      have := b6 x hx
      unfold keyOk at this
      simp only [List.mem_cons, List.not_mem_nil, or_false] at hx2
      rcases hx2 with rfl | rfl <;> omega

def manyOf (ns : List Int) : Nat := (ns.getD 5 0).toNat

/-- the one that numbers and texts may say -/
def cand (ns : List Int) (ts : List ByteArray) : Rec :=
  ⟨ns.getD 0 0, ns.getD 1 0, ns.getD 2 0, ns.getD 3 0, ts.getD 0 ⟨#[]⟩, ts.getD 1 ⟨#[]⟩, ns.getD 4 0 == 1, (ts.drop 2).take (manyOf ns), pairL (ns.drop 6) (ts.drop (2 + manyOf ns))⟩

theorem flag_one (b : Bool) : (flag b == 1) = b := by cases b <;> rfl

theorem cand_of (r : Rec) : cand (numsOf r) (textsOf r) = r := by
  obtain ⟨kd, tn, ts, co, ky, tt, dd, ks, ws⟩ := r
  have hm : manyOf (numsOf ⟨kd, tn, ts, co, ky, tt, dd, ks, ws⟩) = ks.length := by simp [manyOf, numsOf]
  unfold cand
  rw [hm]
  have e1 : (textsOf ⟨kd, tn, ts, co, ky, tt, dd, ks, ws⟩).drop 2 = ks ++ ws.flatMap fun x => [x.key, x.shard] := rfl
  have e2 : (textsOf ⟨kd, tn, ts, co, ky, tt, dd, ks, ws⟩).drop (2 + ks.length) = ws.flatMap fun x => [x.key, x.shard] := by
    rw [← List.drop_drop, e1, List.drop_left]
  have e3 : (numsOf ⟨kd, tn, ts, co, ky, tt, dd, ks, ws⟩).drop 6 = ws.map fun x => if x.dead then 1 else 0 := rfl
  have e4 : ((numsOf ⟨kd, tn, ts, co, ky, tt, dd, ks, ws⟩).getD 4 0 == 1) = dd := flag_one dd
  rw [e1, e2, e3, e4, List.take_left, pairL_of]
  rfl

theorem nums_len (r : Rec) : (numsOf r).length = 6 + r.ws.length := by
  unfold numsOf; rw [List.length_append, List.length_map]; rfl
theorem texts_len (r : Rec) : (textsOf r).length = 2 + r.keys.length + 2 * r.ws.length := by
  unfold textsOf; rw [List.length_cons, List.length_cons, List.length_append, flat_len]; omega
theorem five_of (r : Rec) : (numsOf r).getD 5 0 = (r.keys.length : Int) := by simp [numsOf]

theorem recL_inj {r q : Rec} (hr : RecOk r) (hq : RecOk q) (h : recL r = recL q) : r = q := by
  have h1 := Pk.decL_back hr.pack
  have h2 := Pk.decL_back hq.pack
  unfold recL at h
  rw [h, h2] at h1
  simp only [Except.ok.injEq, Prod.mk.injEq] at h1
  rw [← cand_of r, ← cand_of q, h1.1, h1.2]

/-- bytes that are read so are no other record's -/
theorem says_nums {s : List UInt8} {ns : List Int} {ts : List ByteArray} {r : Rec} (h : Pk.decL s = .ok (ns, ts)) (hr : RecOk r) (hs : s = recL r) : ns = numsOf r ∧ ts = textsOf r := by
  rw [hs] at h
  unfold recL at h
  rw [Pk.decL_back hr.pack] at h
  simp only [Except.ok.injEq, Prod.mk.injEq] at h
  exact ⟨h.1.symm, h.2.symm⟩

def noRec : Rec := ⟨0, 0, 0, 0, ⟨#[]⟩, ⟨#[]⟩, false, [], []⟩

/-- no record's bytes -/
def NoRec (s : ByteArray) : Prop := ∀ r, RecOk r → s.data.toList ≠ recL r

theorem NoRec.err {s : ByteArray} {e : Pk.Er} (h : Pk.decL s.data.toList = .error e) : NoRec s := fun r hr hs => by
  rw [hs] at h
  unfold recL at h
  rw [Pk.decL_back hr.pack] at h
  cases h

theorem NoRec.of {s : ByteArray} {ns : List Int} {ts : List ByteArray} (h : Pk.decL s.data.toList = .ok (ns, ts)) (hn : ∀ r, RecOk r → ns = numsOf r → ts = textsOf r → s.data.toList = recL r → False) : NoRec s := fun r hr hs => by
  obtain ⟨e1, e2⟩ := says_nums h hr hs
  exact hn r hr e1 e2 hs

/-- the numbers and texts of a record -/
def Shape (ns : List Int) (ts : List ByteArray) : Prop := 6 ≤ ns.length ∧ 0 ≤ ns.getD 5 0 ∧ (ts.length : Int) = 2 + ns.getD 5 0 + 2 * ((ns.length - 6 : Nat) : Int) ∧ (ns.getD 4 0 = 0 ∨ ns.getD 4 0 = 1) ∧ ∀ f ∈ ns.drop 6, f = 0 ∨ f = 1

theorem shape_of (r : Rec) : Shape (numsOf r) (textsOf r) := by
  refine ⟨by rw [nums_len]; omega, by rw [five_of]; omega, by rw [five_of, nums_len, texts_len]; omega, ?_, fun f hf => ?_⟩
  · show flag r.dead = 0 ∨ flag r.dead = 1
    cases r.dead
    · exact .inl rfl
    · exact .inr rfl
  · have e3 : (numsOf r).drop 6 = r.ws.map fun x => if x.dead then 1 else 0 := rfl
    rw [e3] at hf
    obtain ⟨x, _, rfl⟩ := List.mem_map.1 hf
    split
    · exact .inr rfl
    · exact .inl rfl

theorem six {ns : List Int} (h : 6 ≤ ns.length) : ns = [ns.getD 0 0, ns.getD 1 0, ns.getD 2 0, ns.getD 3 0, ns.getD 4 0, ns.getD 5 0] ++ ns.drop 6 := by
  match ns, h with
  | a :: b :: c :: d :: e :: f :: r, _ => rfl

theorem two {ts : List ByteArray} (h : 2 ≤ ts.length) : ts = ts.getD 0 ⟨#[]⟩ :: ts.getD 1 ⟨#[]⟩ :: ts.drop 2 := by
  match ts, h with
  | a :: b :: r, _ => rfl

theorem shape_cand {ns : List Int} {ts : List ByteArray} (h : Shape ns ts) : numsOf (cand ns ts) = ns ∧ textsOf (cand ns ts) = ts := by
  obtain ⟨h1, h2, h3, h5, h4⟩ := h
  have hm : ((manyOf ns : Nat) : Int) = ns.getD 5 0 := by unfold manyOf; omega
  have hp := pair_flags (ns.drop 6) (ts.drop (2 + manyOf ns)) (by rw [List.length_drop, List.length_drop]; omega) h4
  have hkl : ((ts.drop 2).take (manyOf ns)).length = manyOf ns := by rw [List.length_take, List.length_drop]; omega
  have hf : flag (ns.getD 4 0 == 1) = ns.getD 4 0 := by
    rcases h5 with e | e <;> (rw [e]; rfl)
  constructor
  · show [ns.getD 0 0, ns.getD 1 0, ns.getD 2 0, ns.getD 3 0, flag (ns.getD 4 0 == 1), (((ts.drop 2).take (manyOf ns)).length : Int)] ++ (pairL (ns.drop 6) (ts.drop (2 + manyOf ns))).map _ = ns
    rw [hp.1, hkl, hm, hf]
    exact (six h1).symm
  · show ts.getD 0 ⟨#[]⟩ :: ts.getD 1 ⟨#[]⟩ :: ((ts.drop 2).take (manyOf ns) ++ (pairL (ns.drop 6) (ts.drop (2 + manyOf ns))).flatMap _) = ts
    rw [hp.2, show ts.drop (2 + manyOf ns) = (ts.drop 2).drop (manyOf ns) by rw [List.drop_drop], List.take_append_drop]
    exact (two (by omega)).symm

theorem shape_keys {ns : List Int} {ts : List ByteArray} (h : Shape ns ts) : (cand ns ts).keys.length = manyOf ns ∧ (cand ns ts).ws.length = ns.length - 6 := by
  obtain ⟨h1, h2, h3, h5, h4⟩ := h
  have hm : ((manyOf ns : Nat) : Int) = ns.getD 5 0 := by unfold manyOf; omega
  constructor
  · show ((ts.drop 2).take (manyOf ns)).length = _
    rw [List.length_take, List.length_drop]; omega
  · show (pairL _ _).length = _
    rw [pairL_len _ _ (by rw [List.length_drop, List.length_drop]; omega), List.length_drop]

theorem NoRec.shape {s : ByteArray} {ns : List Int} {ts : List ByteArray} (h : Pk.decL s.data.toList = .ok (ns, ts)) (hn : ¬ Shape ns ts) : NoRec s := NoRec.of h fun r _ e1 e2 _ => hn (by rw [e1, e2]; exact shape_of r)

theorem NoRec.bad {s : ByteArray} {ns : List Int} {ts : List ByteArray} (h : Pk.decL s.data.toList = .ok (ns, ts)) (hn : ¬ RecOk (cand ns ts)) : NoRec s := NoRec.of h fun r hr e1 e2 _ => hn (by rw [e1, e2, cand_of]; exact hr)

theorem cand_bytes {s : ByteArray} {ns : List Int} {ts : List ByteArray} (h : Pk.decL s.data.toList = .ok (ns, ts)) (hs : Shape ns ts) : s.data.toList = recL (cand ns ts) := by
  obtain ⟨e1, e2⟩ := shape_cand hs
  unfold recL
  rw [e1, e2]
  exact (Pk.decL_ok h).2

end Rc
end Go.Proofs.Ytibekhigpamnjaa
