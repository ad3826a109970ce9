/- Parts of the proof, joined: RcMath, RcOpen, LtDec0; their conditions stand with each. -/
import Derived.Test.YtiobhbagjokpcaaGreatM8
import Derived.Test.YtiobhbagjokpcaaGreatM10

/- Records in plain lists: what one may be, its numbers and texts, and which record numbers and texts say; no condition. -/
namespace Go.Proofs.YtiobhbagjokpcaaGreat
namespace Rc
open Lt

/-- a record -/
structure Rec where
  kind : Int
  txn : Int
  ts : Int
  coord : Int
  key : ByteArray
  text : ByteArray
  dead : Bool
  keys : List ByteArray
  ws : List Wr

def flag (b : Bool) : Int := if b then 1 else 0

theorem flag_inj {a b : Bool} (h : flag a = flag b) : a = b := by
  cases a <;> cases b <;> simp [flag] at h ⊢

def headOk (r : Rec) : Prop := (r.txn = 0 ∨ txnOk r.txn) ∧ stampOk r.ts ∧ 0 ≤ r.coord ∧ r.coord < 16
def ListsOk (r : Rec) : Prop := r.keys = [] ∧ r.ws = []
def TextOk (r : Rec) : Prop := r.key = ⟨#[]⟩ ∧ r.text = ⟨#[]⟩ ∧ r.dead = false
def BareOk (r : Rec) : Prop := ListsOk r ∧ TextOk r ∧ r.coord = 0

/-- what its kind lets it have -/
def kindOk (r : Rec) : Prop :=
  (r.kind = 1 ∧ TextOk r ∧ r.txn ≠ 0 ∧ r.keys.length ≤ 16 ∧ Rises r.keys ∧ WritesOk r.ws) ∨
  (r.kind = 2 ∧ BareOk r ∧ r.txn ≠ 0) ∨
  (r.kind = 3 ∧ ListsOk r ∧ r.coord = 0 ∧ r.txn = 0 ∧ r.ts ≠ 0 ∧ keyOk r.key ∧ r.text.size ≤ 2052 ∧ (r.dead = false ∨ r.text = ⟨#[]⟩)) ∨
  (r.kind = 4 ∧ BareOk r ∧ r.txn = 0) ∨
  (r.kind = 5 ∧ BareOk r ∧ r.txn ≠ 0 ∧ r.ts ≠ 0) ∨
  (r.kind = 6 ∧ BareOk r ∧ r.txn ≠ 0 ∧ r.ts = 0) ∨
  (r.kind = 7 ∧ BareOk r ∧ r.txn = 0 ∧ r.ts ≠ 0)

def RecOk (r : Rec) : Prop := headOk r ∧ kindOk r

def numsOf (r : Rec) : List Int := [r.kind, r.txn, r.ts, r.coord, flag r.dead, (r.keys.length : Int)] ++ r.ws.map fun x => if x.dead then 1 else 0
def textsOf (r : Rec) : List ByteArray := r.key :: r.text :: (r.keys ++ r.ws.flatMap fun x => [x.key, x.shard])
def recL (r : Rec) : List UInt8 := Pk.bytesL (numsOf r) (textsOf r)

theorem rises_keys {m : List ByteArray} (hm : Rises m) : ∀ k ∈ m, keyOk k := fun k hk => by
  obtain ⟨i, hi, e⟩ := List.mem_iff_getElem.1 hk
  rw [← e]; exact (hm i hi).1

theorem RecOk.bounds {r : Rec} (h : RecOk r) : r.keys.length ≤ 16 ∧ r.ws.length ≤ 16 ∧ r.key.size ≤ 32 ∧ r.text.size ≤ 2052 ∧ (∀ k ∈ r.keys, keyOk k) ∧ (∀ x ∈ r.ws, keyOk x.key ∧ x.shard.size ≤ 2052) ∧ 1 ≤ r.kind ∧ r.kind ≤ 7 := by
  obtain ⟨_, h⟩ := h
  have e0 : (⟨#[]⟩ : ByteArray).size = 0 := rfl
  have bare : BareOk r → r.keys.length ≤ 16 ∧ r.ws.length ≤ 16 ∧ r.key.size ≤ 32 ∧ r.text.size ≤ 2052 ∧ (∀ k ∈ r.keys, keyOk k) ∧ (∀ x ∈ r.ws, keyOk x.key ∧ x.shard.size ≤ 2052) := by
    rintro ⟨⟨h1, h2⟩, ⟨h3, h4, _⟩, _⟩
    rw [h1, h2, h3, h4]
    exact ⟨by simp, by simp, by rw [e0]; omega, by rw [e0]; omega, by simp, by simp⟩
  rcases h with ⟨h1, ⟨h2, h3, _⟩, _, h4, h5, h6, h7, h8⟩ | ⟨h1, h2, _⟩ | ⟨h1, ⟨h2, h3⟩, _, _, _, h4, h5, _⟩ | ⟨h1, h2, _⟩ | ⟨h1, h2, _⟩ | ⟨h1, h2, _⟩ | ⟨h1, h2, _⟩
  · rw [h2, h3]
    exact ⟨h4, h6, by rw [e0]; omega, by rw [e0]; omega, rises_keys h5, fun x hx => ⟨rises_keys h8 _ (List.mem_map.2 ⟨x, hx, rfl⟩), (h7 x hx).1⟩, by omega, by omega⟩
  · obtain ⟨a, b, c, d, e, f⟩ := bare h2; exact ⟨a, b, c, d, e, f, by omega, by omega⟩
  · rw [h2, h3]
    exact ⟨by simp, by simp, h4.2, h5, by simp, by simp, by omega, by omega⟩
  all_goals obtain ⟨a, b, c, d, e, f⟩ := bare h2; exact ⟨a, b, c, d, e, f, by omega, by omega⟩

/-- a record that may be is a pack that may be -/
theorem RecOk.pack {r : Rec} (h : RecOk r) : Pk.MayBe (numsOf r) (textsOf r) := by
  obtain ⟨b1, b2, b3, b4, b5, b6, b7, b8⟩ := h.bounds
  obtain ⟨⟨h1, h2, h3, h4⟩, _⟩ := h
  have hfl : ∀ b, Pk.numOk (flag b) := fun b => by cases b <;> (unfold flag Pk.numOk; simp)
  refine ⟨?_, ?_, fun n hn => ?_, fun t ht => ?_⟩
  · unfold numsOf
    rw [List.length_append, List.length_map]
    show 6 + _ ≤ _
    omega
  · unfold textsOf
    rw [List.length_cons, List.length_cons, List.length_append, flat_len]
    omega
  · unfold numsOf at hn
    rcases List.mem_append.1 hn with hn | hn
    · simp only [List.mem_cons, List.not_mem_nil, or_false] at hn
      unfold txnOk at h1
      unfold stampOk at h2
      rcases hn with rfl | rfl | rfl | rfl | rfl | rfl
      all_goals first | exact hfl _ | (unfold Pk.numOk; omega)
    · obtain ⟨x, _, rfl⟩ := List.mem_map.1 hn
      unfold Pk.numOk
      split <;> omega
  · unfold textsOf at ht
    rcases List.mem_cons.1 ht with rfl | ht
    · omega
    rcases List.mem_cons.1 ht with rfl | ht
    · omega
    rcases List.mem_append.1 ht with ht | ht
    · have := b5 t ht; unfold keyOk at this; omega
    · obtain ⟨x, hx, hx2⟩ := List.mem_flatMap.1 ht
      have := b6 x hx
      unfold keyOk at this
      simp only [List.mem_cons, List.not_mem_nil, or_false] at hx2
      rcases hx2 with rfl | rfl <;> omega

def manyOf (ns : List Int) : Nat := (ns.getD 5 0).toNat

/-- the one that numbers and texts may say -/
def cand (ns : List Int) (ts : List ByteArray) : Rec :=
  ⟨ns.getD 0 0, ns.getD 1 0, ns.getD 2 0, ns.getD 3 0, ts.getD 0 ⟨#[]⟩, ts.getD 1 ⟨#[]⟩, ns.getD 4 0 == 1, (ts.drop 2).take (manyOf ns), pairL (ns.drop 6) (ts.drop (2 + manyOf ns))⟩

theorem flag_one (b : Bool) : (flag b == 1) = b := by cases b <;> rfl

theorem cand_of (r : Rec) : cand (numsOf r) (textsOf r) = r := by
  obtain ⟨kd, tn, ts, co, ky, tt, dd, ks, ws⟩ := r
  have hm : manyOf (numsOf ⟨kd, tn, ts, co, ky, tt, dd, ks, ws⟩) = ks.length := by simp [manyOf, numsOf]
  unfold cand
  rw [hm]
  have e1 : (textsOf ⟨kd, tn, ts, co, ky, tt, dd, ks, ws⟩).drop 2 = ks ++ ws.flatMap fun x => [x.key, x.shard] := rfl
  have e2 : (textsOf ⟨kd, tn, ts, co, ky, tt, dd, ks, ws⟩).drop (2 + ks.length) = ws.flatMap fun x => [x.key, x.shard] := by
    rw [← List.drop_drop, e1, List.drop_left]
  have e3 : (numsOf ⟨kd, tn, ts, co, ky, tt, dd, ks, ws⟩).drop 6 = ws.map fun x => if x.dead then 1 else 0 := rfl
  have e4 : ((numsOf ⟨kd, tn, ts, co, ky, tt, dd, ks, ws⟩).getD 4 0 == 1) = dd := flag_one dd
  rw [e1, e2, e3, e4, List.take_left, pairL_of]
  rfl

theorem nums_len (r : Rec) : (numsOf r).length = 6 + r.ws.length := by
  unfold numsOf; rw [List.length_append, List.length_map]; rfl
theorem texts_len (r : Rec) : (textsOf r).length = 2 + r.keys.length + 2 * r.ws.length := by
  unfold textsOf; rw [List.length_cons, List.length_cons, List.length_append, flat_len]; omega
theorem five_of (r : Rec) : (numsOf r).getD 5 0 = (r.keys.length : Int) := by simp [numsOf]

theorem recL_inj {r q : Rec} (hr : RecOk r) (hq : RecOk q) (h : recL r = recL q) : r = q := by
  have h1 := Pk.decL_back hr.pack
  have h2 := Pk.decL_back hq.pack
  unfold recL at h
  rw [h, h2] at h1
  simp only [Except.ok.injEq, Prod.mk.injEq] at h1
  rw [← cand_of r, ← cand_of q, h1.1, h1.2]

/-- bytes that are read so are no other record's -/
theorem says_nums {s : List UInt8} {ns : List Int} {ts : List ByteArray} {r : Rec} (h : Pk.decL s = .ok (ns, ts)) (hr : RecOk r) (hs : s = recL r) : ns = numsOf r ∧ ts = textsOf r := by
  rw [hs] at h
  unfold recL at h
  rw [Pk.decL_back hr.pack] at h
  simp only [Except.ok.injEq, Prod.mk.injEq] at h
  exact ⟨h.1.symm, h.2.symm⟩

def noRec : Rec := ⟨0, 0, 0, 0, ⟨#[]⟩, ⟨#[]⟩, false, [], []⟩

/-- no record's bytes -/
def NoRec (s : ByteArray) : Prop := ∀ r, RecOk r → s.data.toList ≠ recL r

theorem NoRec.err {s : ByteArray} {e : Pk.Er} (h : Pk.decL s.data.toList = .error e) : NoRec s := fun r hr hs => by
  rw [hs] at h
  unfold recL at h
  rw [Pk.decL_back hr.pack] at h
  cases h

theorem NoRec.of {s : ByteArray} {ns : List Int} {ts : List ByteArray} (h : Pk.decL s.data.toList = .ok (ns, ts)) (hn : ∀ r, RecOk r → ns = numsOf r → ts = textsOf r → s.data.toList = recL r → False) : NoRec s := fun r hr hs => by
  obtain ⟨e1, e2⟩ := says_nums h hr hs
  exact hn r hr e1 e2 hs

/-- the numbers and texts of a record -/
def Shape (ns : List Int) (ts : List ByteArray) : Prop := 6 ≤ ns.length ∧ 0 ≤ ns.getD 5 0 ∧ (ts.length : Int) = 2 + ns.getD 5 0 + 2 * ((ns.length - 6 : Nat) : Int) ∧ (ns.getD 4 0 = 0 ∨ ns.getD 4 0 = 1) ∧ ∀ f ∈ ns.drop 6, f = 0 ∨ f = 1

theorem shape_of (r : Rec) : Shape (numsOf r) (textsOf r) := by
  refine ⟨by rw [nums_len]; omega, by rw [five_of]; omega, by rw [five_of, nums_len, texts_len]; omega, ?_, fun f hf => ?_⟩
  · show flag r.dead = 0 ∨ flag r.dead = 1
    cases r.dead
    · exact .inl rfl
    · exact .inr rfl
  · have e3 : (numsOf r).drop 6 = r.ws.map fun x => if x.dead then 1 else 0 := rfl
    rw [e3] at hf
    obtain ⟨x, _, rfl⟩ := List.mem_map.1 hf
    split
    · exact .inr rfl
    · exact .inl rfl

theorem six {ns : List Int} (h : 6 ≤ ns.length) : ns = [ns.getD 0 0, ns.getD 1 0, ns.getD 2 0, ns.getD 3 0, ns.getD 4 0, ns.getD 5 0] ++ ns.drop 6 := by
  match ns, h with
  | a :: b :: c :: d :: e :: f :: r, _ => rfl

theorem two {ts : List ByteArray} (h : 2 ≤ ts.length) : ts = ts.getD 0 ⟨#[]⟩ :: ts.getD 1 ⟨#[]⟩ :: ts.drop 2 := by
  match ts, h with
  | a :: b :: r, _ => rfl

theorem shape_cand {ns : List Int} {ts : List ByteArray} (h : Shape ns ts) : numsOf (cand ns ts) = ns ∧ textsOf (cand ns ts) = ts := by
  obtain ⟨h1, h2, h3, h5, h4⟩ := h
  have hm : ((manyOf ns : Nat) : Int) = ns.getD 5 0 := by unfold manyOf; omega
  have hp := pair_flags (ns.drop 6) (ts.drop (2 + manyOf ns)) (by rw [List.length_drop, List.length_drop]; omega) h4
  have hkl : ((ts.drop 2).take (manyOf ns)).length = manyOf ns := by rw [List.length_take, List.length_drop]; omega
  have hf : flag (ns.getD 4 0 == 1) = ns.getD 4 0 := by
    rcases h5 with e | e <;> (rw [e]; rfl)
  constructor
  · show [ns.getD 0 0, ns.getD 1 0, ns.getD 2 0, ns.getD 3 0, flag (ns.getD 4 0 == 1), (((ts.drop 2).take (manyOf ns)).length : Int)] ++ (pairL (ns.drop 6) (ts.drop (2 + manyOf ns))).map _ = ns
    rw [hp.1, hkl, hm, hf]
    exact (six h1).symm
  · show ts.getD 0 ⟨#[]⟩ :: ts.getD 1 ⟨#[]⟩ :: ((ts.drop 2).take (manyOf ns) ++ (pairL (ns.drop 6) (ts.drop (2 + manyOf ns))).flatMap _) = ts
    rw [hp.2, show ts.drop (2 + manyOf ns) = (ts.drop 2).drop (manyOf ns) by rw [List.drop_drop], List.take_append_drop]
    exact (two (by omega)).symm

theorem shape_keys {ns : List Int} {ts : List ByteArray} (h : Shape ns ts) : (cand ns ts).keys.length = manyOf ns ∧ (cand ns ts).ws.length = ns.length - 6 := by
  obtain ⟨h1, h2, h3, h5, h4⟩ := h
  have hm : ((manyOf ns : Nat) : Int) = ns.getD 5 0 := by unfold manyOf; omega
  constructor
  · show ((ts.drop 2).take (manyOf ns)).length = _
    rw [List.length_take, List.length_drop]; omega
  · show (pairL _ _).length = _
    rw [pairL_len _ _ (by rw [List.length_drop, List.length_drop]; omega), List.length_drop]

theorem NoRec.shape {s : ByteArray} {ns : List Int} {ts : List ByteArray} (h : Pk.decL s.data.toList = .ok (ns, ts)) (hn : ¬ Shape ns ts) : NoRec s := NoRec.of h fun r _ e1 e2 _ => hn (by rw [e1, e2]; exact shape_of r)

theorem NoRec.bad {s : ByteArray} {ns : List Int} {ts : List ByteArray} (h : Pk.decL s.data.toList = .ok (ns, ts)) (hn : ¬ RecOk (cand ns ts)) : NoRec s := NoRec.of h fun r hr e1 e2 _ => hn (by rw [e1, e2, cand_of]; exact hr)

theorem cand_bytes {s : ByteArray} {ns : List Int} {ts : List ByteArray} (h : Pk.decL s.data.toList = .ok (ns, ts)) (hs : Shape ns ts) : s.data.toList = recL (cand ns ts) := by
  obtain ⟨e1, e2⟩ := shape_cand hs
  unfold recL
  rw [e1, e2]
  exact (Pk.decL_ok h).2

end Rc
end Go.Proofs.YtiobhbagjokpcaaGreat

/- A record as an argument: what its reading says. -/
namespace Go.Proofs.YtiobhbagjokpcaaGreat
namespace Rc
open Go.ChangeShapes Go.WideShapes Go.ChangeAt Go.RowKit Go.Joins Go.Deep Bk Lt

section
variable {H : Type} {enc : TypeId × Value → H} {W : World}

/-- the ranges of what a record holds -/
structure RecRng (r : Rec) : Prop where
  kind : -9223372036854775808 ≤ r.kind ∧ r.kind ≤ 9223372036854775807
  txn : -9223372036854775808 ≤ r.txn ∧ r.txn ≤ 9223372036854775807
  ts : -9223372036854775808 ≤ r.ts ∧ r.ts ≤ 9223372036854775807
  coord : -9223372036854775808 ≤ r.coord ∧ r.coord ≤ 9223372036854775807
  key : r.key.size ≤ reachBytes
  text : r.text.size ≤ reachBytes
  k16 : r.keys.length * 16 ≤ reachBytes
  w40 : r.ws.length * 40 ≤ reachBytes
  kr : ∀ s ∈ r.keys, s.size ≤ reachBytes
  wr : ∀ x ∈ r.ws, x.key.size ≤ reachBytes ∧ x.shard.size ≤ reachBytes

/-- .. and of its slices -/
structure RecRange (r : Rec) (c d : Nat) : Prop extends RecRng r where
  kc : r.keys.length ≤ c
  wd : r.ws.length ≤ d
  c63 : c ≤ maxLen
  d63 : d ≤ maxLen

/-- the value of a record -/
def recV (r : Rec) (A B : Option Addr) (c d : Nat) : Value := .agg #[.int .i64 r.kind, .int .i64 r.txn, .int .i64 r.ts, .int .i64 r.coord, .string r.key, .string r.text, .bool r.dead, .slice A r.keys.length c, .slice B r.ws.length d]

/-- the value is a record that holds these -/
def RecArg (w : World) (v : Value) (r : Rec) : Prop :=
  ∃ (A B : Option Addr) (c d : Nat), v = recV r A B c d ∧ StrsAt w A r.keys ∧ WrsAt w B r.ws ∧ RecRange r c d ∧ (A = none → r.keys = [] ∧ c = 0) ∧ (B = none → r.ws = [] ∧ d = 0)

set_option maxRecDepth 20000 in
theorem open_record {base : Nat} {v : Value} {d : DataW H} {p : List MemPlace} {ts : List TypeId} {ds : List (DataW H)} {j : Nat}
    (hsz : (DataW.weightsEach Tryz.prog ts ds).all (· ≤ reachBytes) = true) (hj : ts[j]? = some 37) (hd : ds[j]? = some d)
    (hv : Value.okWide Tryz.prog W .any base 37 v) (h : DataW.Trod enc Tryz.prog W 0 (fun _ => true) true 37 v d p) (hl : ∀ x ∈ p, x.block < W.heap.size) : ∃ r, RecArg W v r := by
  obtain ⟨cs, xs, n, rfl, hcl, rfl, rfl, hxl, hall⟩ := open_agg_any Tryz.underlying37 (by kernel_rfl) (by kernel_rfl) hv h
  have hw := arg_weights hsz hj hd
  match cs, hcl, xs, hxl with
  | [v0, v1, v2, v3, v4, v5, v6, v7, v8], _, [y0, y1, y2, y3, y4, y5, y6, y7, y8], _ =>
    obtain ⟨kind, rfl, r0⟩ := field_int Tryz.underlying3 (hall 0 _ _ _ rfl rfl rfl)
    obtain ⟨txn, rfl, r1⟩ := field_int Tryz.underlying3 (hall 1 _ _ _ rfl rfl rfl)
    obtain ⟨ts', rfl, r2⟩ := field_int Tryz.underlying3 (hall 2 _ _ _ rfl rfl rfl)
    obtain ⟨coord, rfl, r3⟩ := field_int Tryz.underlying3 (hall 3 _ _ _ rfl rfl rfl)
    obtain ⟨key, rfl, r4⟩ := field_text Tryz.underlying9 (hall 4 _ _ _ rfl rfl rfl) (agg_weights (i := 4) Tryz.underlying37 rfl rfl hw)
    obtain ⟨text, rfl, r5⟩ := field_text Tryz.underlying9 (hall 5 _ _ _ rfl rfl rfl) (agg_weights (i := 5) Tryz.underlying37 rfl rfl hw)
    obtain ⟨dead, rfl⟩ := field_bool Tryz.underlying4 (hall 6 _ _ _ rfl rfl rfl)
    obtain ⟨A, c, K, rfl, a1, a2, a3, a4, a5, a6⟩ := field_texts Tryz.underlying23 Tryz.underlying9 (by kernel_rfl) (by kernel_rfl) (hall 7 _ _ _ rfl rfl rfl) (agg_weights (i := 7) Tryz.underlying37 rfl rfl hw) (fun x hx => hl x (List.mem_flatMap.2 ⟨y7, by simp, hx⟩))
    obtain ⟨B, d, L, rfl, b1, b2, b3, b4, b5, b6⟩ := field_writes40 Tryz.underlying35 Tryz.underlying45 (by kernel_rfl) (by kernel_rfl) Tryz.underlying9 Tryz.underlying9 Tryz.underlying4 (of_decide_eq_true (by kernel_rfl)) (hall 8 _ _ _ rfl rfl rfl) (agg_weights (i := 8) Tryz.underlying37 rfl rfl hw) (fun x hx => hl x (List.mem_flatMap.2 ⟨y8, by simp, hx⟩))
    exact ⟨⟨kind, txn, ts', coord, key, text, dead, K, L⟩, A, B, c, d, rfl, a1, b1, ⟨⟨r0, r1, r2, r3, r4, r5, a2, b2, a5, b5⟩, a3, b3, a4, b4⟩, a6, b6⟩

end

end Rc
end Go.Proofs.YtiobhbagjokpcaaGreat

/- Parts of slices, nine cells that are written over, and writes of the call's own; no condition. -/
namespace Go.Proofs.YtiobhbagjokpcaaGreat
namespace Lt
open Go.RowKit Bk

attribute [local go_sem ↓] Go.wp_at_zero Go.wp_at_succ
attribute [local go_sem] floatUpon pick

/-- the zero letter in its block -/
theorem zero_cells (w : World) : Cel (w.alloc (.cells #[.int .i64 0, .int .i64 0, .int .i64 0, .int .i64 0, .int .i64 0, .int .i64 0, .string ⟨#[]⟩, .slice none 0 0, .slice none 0 0] 169)) w.heap.size 169 [.int .i64 0, .int .i64 0, .int .i64 0, .int .i64 0, .int .i64 0, .int .i64 0, .string ⟨#[]⟩, .slice none 0 0, .slice none 0 0] := (blk1 w _).2

theorem add_add (a : Addr) (k i : Nat) : (a.add k).add i = a.add (k + i) := by
  unfold Addr.add
  by_cases hk : k = 0
  · subst hk; simp
  · by_cases hi : i = 0
    · subst hi; simp [hk]
    · simp [hk, hi, Nat.add_assoc]

theorem add_lit (a : Addr) (k : Nat) (h : 0 < k) : (⟨a.block, a.off + k, none⟩ : Addr) = a.add k := by unfold Addr.add; rw [if_neg (by omega)]

theorem ints_sub {w : World} {a : Addr} {l : List Int} {k c : Nat} (h : IntsAt w (some a) l) (hc : l.length ≤ c) : IntsAt w (if c = k then some a else some (a.add k)) (l.drop k) := fun hp => by
  rw [List.length_drop] at hp
  obtain ⟨a', e, hb, hcl⟩ := h (by omega)
  obtain rfl := Option.some.inj e
  refine ⟨a.add k, by rw [if_neg (by omega)], by rw [st_block]; exact hb, fun i hi => ?_⟩
  rw [List.length_drop] at hi
  rw [add_add, hcl (k + i) (by omega), List.getElem_drop]

theorem strs_sub {w : World} {a : Addr} {l : List ByteArray} {k c : Nat} (h : StrsAt w (some a) l) (hc : l.length ≤ c) : StrsAt w (if c = k then some a else some (a.add k)) (l.drop k) := fun hp => by
  rw [List.length_drop] at hp
  obtain ⟨a', e, hb, hcl⟩ := h (by omega)
  obtain rfl := Option.some.inj e
  refine ⟨a.add k, by rw [if_neg (by omega)], by rw [st_block]; exact hb, fun i hi => ?_⟩
  rw [List.length_drop] at hi
  rw [add_add, hcl (k + i) (by omega), List.getElem_drop]

theorem strs_take {w : World} {A : Option Addr} {l : List ByteArray} (h : StrsAt w A l) (q : Nat) : StrsAt w A (l.take q) := fun hp => by
  rw [List.length_take] at hp
  obtain ⟨a, e, hb, hcl⟩ := h (by omega)
  refine ⟨a, e, hb, fun i hi => ?_⟩
  rw [List.length_take] at hi
  rw [hcl i (by omega), List.getElem_take]

theorem strs_far {w W : World} {A : Option Addr} {l : List ByteArray} (h : StrsAt w A l) {R : Nat} (hR : ∀ a, A = some a → a.block ≠ R) (hs : w.heap.size ≤ W.heap.size) (he : ∀ a : Addr, a.block ≠ R → W.cell? a = w.cell? a) : StrsAt W A l := fun hp => by
  obtain ⟨a, e, hb, hcl⟩ := h hp
  exact ⟨a, e, Nat.lt_of_lt_of_le hb hs, fun i hi => (he _ (by rw [st_block]; exact hR a e)).trans (hcl i hi)⟩

theorem wrs_far {w W : World} {A : Option Addr} {l : List Wr} (h : WrsAt w A l) {R : Nat} (hR : ∀ a, A = some a → a.block ≠ R) (hs : w.heap.size ≤ W.heap.size) (he : ∀ a : Addr, a.block ≠ R → W.cell? a = w.cell? a) : WrsAt W A l := fun hp => by
  obtain ⟨a, e, hb, hcl⟩ := h hp
  exact ⟨a, e, Nat.lt_of_lt_of_le hb hs, fun i hi => ⟨(he _ (by rw [st_block]; exact hR a e)).trans (hcl i hi).1, (he _ (by rw [st_block]; exact hR a e)).trans (hcl i hi).2.1, (he _ (by rw [st_block]; exact hR a e)).trans (hcl i hi).2.2⟩⟩

theorem below_row {w W : World} {H o : Nat} (h : Below H w W) (ho : H ≤ o) (cs : Array Value) : Below H w (W.setRow o cs) :=
  h.trans ⟨rfl, rfl, rfl, by simp, fun k hk => setRow_other _ _ _ _ (by omega)⟩

/-- nine cells are written over -/
def set9 (W : World) (R : Nat) (v0 v1 v2 v3 v4 v5 v6 v7 v8 : Value) : World :=
  (((((((((W.setCell ⟨R, 0, none⟩ v0).setCell ⟨R, 1, none⟩ v1).setCell ⟨R, 2, none⟩ v2).setCell ⟨R, 3, none⟩ v3).setCell ⟨R, 4, none⟩ v4).setCell ⟨R, 5, none⟩ v5).setCell ⟨R, 6, none⟩ v6).setCell ⟨R, 7, none⟩ v7).setCell ⟨R, 8, none⟩ v8)

theorem set9_cel {W : World} {R : Nat} {t : TypeId} {u0 u1 u2 u3 u4 u5 u6 u7 u8 v0 v1 v2 v3 v4 v5 v6 v7 v8 : Value} (h : Cel W R t [u0, u1, u2, u3, u4, u5, u6, u7, u8]) : Cel (set9 W R v0 v1 v2 v3 v4 v5 v6 v7 v8) R t [v0, v1, v2, v3, v4, v5, v6, v7, v8] :=
  ((((((((h.set (i := 0) (v := v0)).set (i := 1) (v := v1)).set (i := 2) (v := v2)).set (i := 3) (v := v3)).set (i := 4) (v := v4)).set (i := 5) (v := v5)).set (i := 6) (v := v6)).set (i := 7) (v := v7)).set (i := 8) (v := v8)

theorem set9_below {w W : World} {H R : Nat} {v0 v1 v2 v3 v4 v5 v6 v7 v8 : Value} (h : Below H w W) (hR : H ≤ R) : Below H w (set9 W R v0 v1 v2 v3 v4 v5 v6 v7 v8) :=
  ((((((((h.setCell (p := ⟨R, 0, none⟩) hR v0).setCell (p := ⟨R, 1, none⟩) hR v1).setCell (p := ⟨R, 2, none⟩) hR v2).setCell (p := ⟨R, 3, none⟩) hR v3).setCell (p := ⟨R, 4, none⟩) hR v4).setCell (p := ⟨R, 5, none⟩) hR v5).setCell (p := ⟨R, 6, none⟩) hR v6).setCell (p := ⟨R, 7, none⟩) hR v7).setCell (p := ⟨R, 8, none⟩) hR v8

theorem set9_other {W : World} {R : Nat} {v0 v1 v2 v3 v4 v5 v6 v7 v8 : Value} {a : Addr} (h : a.block ≠ R) : (set9 W R v0 v1 v2 v3 v4 v5 v6 v7 v8).cell? a = W.cell? a := by
  have hh : (set9 W R v0 v1 v2 v3 v4 v5 v6 v7 v8).heap[a.block]? = W.heap[a.block]? := by
    have e : ∀ (W : World) (i : Nat) (v : Value), (W.setCell ⟨R, i, none⟩ v).heap[a.block]? = W.heap[a.block]? := fun W i v => Below.heap_setCell W ⟨R, i, none⟩ v a.block h
    unfold set9
    rw [e, e, e, e, e, e, e, e, e]
  exact World.cell?_of_block hh

theorem set9_size {W : World} {R : Nat} {v0 v1 v2 v3 v4 v5 v6 v7 v8 : Value} : (set9 W R v0 v1 v2 v3 v4 v5 v6 v7 v8).heap.size = W.heap.size := by
  unfold set9; simp

/-- the writes of a row that was made behind block X -/
def SW (X n : Nat) (L : List Wr) (A : Option Addr) (c : Nat) (W : World) : Prop := WrsAt W A L ∧ n ≤ c ∧ c ≤ maxLen ∧ (A = none → c = 0) ∧ ∀ a, A = some a → X ≤ a.block

theorem SW.keep {X n : Nat} {L : List Wr} {A : Option Addr} {c : Nat} {W W' : World} (h : SW X n L A c W) (hb : Below W.heap.size W W') : SW X n L A c W' := ⟨h.1.below hb, h.2⟩

def S85 (X n : Nat) (L : List Wr) (v : Value) (W : World) : Prop := ∃ A c, v = .tuple #[.slice A n c, .bool true] ∧ SW X n L A c W
def S86 (X n : Nat) (L : List Wr) (v : Value) (W : World) : Prop := ∃ A c, v = .slice A n c ∧ SW X n L A c W
theorem S85.keep {X n : Nat} {L : List Wr} {v : Value} {W W' : World} (h : S85 X n L v W) (hb : Below W.heap.size W W') : S85 X n L v W' := by
  obtain ⟨A, c, e, h⟩ := h; exact ⟨A, c, e, h.keep hb⟩
theorem S86.keep {X n : Nat} {L : List Wr} {v : Value} {W W' : World} (h : S86 X n L v W) (hb : Below W.heap.size W W') : S86 X n L v W' := by
  obtain ⟨A, c, e, h⟩ := h; exact ⟨A, c, e, h.keep hb⟩

theorem wrs_own2 {w : World} {H n : Nat} {v : Value} {e : TypeId} {l : List Wr} (h : w.ownsRow H e 3 v n (wrV l)) (hl : n = l.length) {X : Nat} (hX : X ≤ H) : ∃ (A : Option Addr) (c : Nat), v = .slice A n c ∧ SW X n l A c w := by
  obtain ⟨A, c, rfl, h1, h2, h3, h4⟩ := wrs_own h hl
  exact ⟨A, c, rfl, h1, h2, h3, h4, fun a ea => Nat.le_trans hX (h.lt a.block (by rw [ea]; rfl)).1⟩

end Lt
end Go.Proofs.YtiobhbagjokpcaaGreat
