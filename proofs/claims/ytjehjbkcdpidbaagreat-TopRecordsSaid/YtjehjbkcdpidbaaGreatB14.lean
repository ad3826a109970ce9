/- Parts of the proof, joined: LtBytes, LtCheck, LtEnc, LtPairs, LtCand, LtShape, RcMath, RcOpen, LtDec0, RcEnv, LtBook; their conditions stand with each. -/
import Derived.OneCell
import Derived.Test.YtjehjbkcdpidbaaGreatB5
import Derived.Test.YtjehjbkcdpidbaaGreatB12
import Derived.Test.YtjehjbkcdpidbaaGreatB13

/- What the document's own Bytes and Encode of letters answer; contracts; no condition but the range. -/
namespace Go.Proofs.YtjehjbkcdpidbaaGreat
namespace Lt
open Go.RowKit Bk

attribute [local go_sem ↓] Go.wp_at_zero Go.wp_at_succ
attribute [local go_sem] floatUpon pick

/-- a pack under way in block g, with rows of its own from X on -/
structure BtEnv (w W : World) (X g : Nat) (v1 v2 : Value) (ns : List Int) (ts : List ByteArray) : Prop where
  cel : Cel W g 88 [v1, v2]
  r0 : W.ownsRow X 3 1 v1 ns.length (intV ns)
  r1 : W.ownsRow X 9 1 v2 ts.length (strV ts)
  d : Unlike v1 v2
  n0 : v1.ownBlock ≠ some g
  n1 : v2.ownBlock ≠ some g
  gx : X ≤ g
  bel : Below X w W

theorem BtEnv.lt {w W : World} {X g : Nat} {v1 v2 : Value} {ns : List Int} {ts : List ByteArray} (h : BtEnv w W X g v1 v2 ns ts) : X ≤ W.heap.size := Nat.le_of_lt (Nat.lt_of_le_of_lt h.gx h.cel.lt)

theorem BtEnv.c0 {w W : World} {X g : Nat} {v1 v2 : Value} {ns : List Int} {ts : List ByteArray} (h : BtEnv w W X g v1 v2 ns ts) : W.cell? ⟨g, 0, none⟩ = some v1 := h.cel.cell rfl
theorem BtEnv.c1 {w W : World} {X g : Nat} {v1 v2 : Value} {ns : List Int} {ts : List ByteArray} (h : BtEnv w W X g v1 v2 ns ts) : W.cell? ⟨g, 1, none⟩ = some v2 := h.cel.cell rfl

theorem BtEnv.step {w W W' : World} {X g : Nat} {v1 v2 : Value} {ns : List Int} {ts : List ByteArray} (h : BtEnv w W X g v1 v2 ns ts) (hb : Below W.heap.size W W') : BtEnv w W' X g v1 v2 ns ts :=
  ⟨h.cel.below hb, st_keep h.r0 hb, st_keep h.r1 hb, h.d, h.n0, h.n1, h.gx, h.bel.trans (hb.mono h.lt)⟩

theorem own_ne {W : World} {v v' : Value} {g : Nat} (hn : v.ownBlock ≠ some g) (hg : g < W.heap.size) (hat : v'.ownBlock = v.ownBlock ∨ v'.ownBlock = some W.heap.size) : v'.ownBlock ≠ some g := by
  rcases hat with h | h
  · rw [h]; exact hn
  · rw [h]; intro e; simp only [Option.some.injEq] at e; omega

/-- a row that grew: the world in which its value is not yet stored -/
theorem BtEnv.grow1 {w W W1 : World} {X g n' : Nat} {v1 v2 v' : Value} {ns ns' : List Int} {ts : List ByteArray} (h : BtEnv w W X g v1 v2 ns ts) (ho : W1.ownsRow X 3 1 v' n' (intV ns')) (hl : n' = ns'.length) (hg : W.grownBy W1 v1.ownBlock) (hat : v'.ownBlock = v1.ownBlock ∨ v'.ownBlock = some W.heap.size) :
    Cel W1 g 88 [v1, v2] ∧ BtEnv w (W1.setCell ⟨g, 0, none⟩ v') X g v' v2 ns' ts := by
  subst hl
  have hc : Cel W1 g 88 [v1, v2] := (hg.block g h.cel.lt (fun e => h.n0 e.symm)).trans h.cel
  have h2 := h.r1.kept hg h.d.symm.ne
  have hn := own_ne h.n0 h.cel.lt hat
  exact ⟨hc, hc.set, ownsRow_setCell_other ho hn _, ownsRow_setCell_other h2 h.n1 _, (h.d.symm.next (fun j hj => (h.r1.lt j hj).2) hat (Nat.le_refl _)).symm, hn, h.n1, h.gx, (h.bel.grown hg h.lt (fun k hk => (h.r0.lt k hk).1)).setCell h.gx _⟩

theorem BtEnv.grow2 {w W W1 : World} {X g n' : Nat} {v1 v2 v' : Value} {ns : List Int} {ts ts' : List ByteArray} (h : BtEnv w W X g v1 v2 ns ts) (ho : W1.ownsRow X 9 1 v' n' (strV ts')) (hl : n' = ts'.length) (hg : W.grownBy W1 v2.ownBlock) (hat : v'.ownBlock = v2.ownBlock ∨ v'.ownBlock = some W.heap.size) :
    Cel W1 g 88 [v1, v2] ∧ BtEnv w (W1.setCell ⟨g, 1, none⟩ v') X g v1 v' ns ts' := by
  subst hl
  have hc : Cel W1 g 88 [v1, v2] := (hg.block g h.cel.lt (fun e => h.n1 e.symm)).trans h.cel
  have h2 := h.r0.kept hg h.d.ne
  have hn := own_ne h.n1 h.cel.lt hat
  exact ⟨hc, hc.set, ownsRow_setCell_other h2 h.n0 _, ownsRow_setCell_other ho hn _, h.d.next (fun j hj => (h.r0.lt j hj).2) hat (Nat.le_refl _), h.n0, hn, h.gx, (h.bel.grown hg h.lt (fun k hk => (h.r1.lt k hk).1)).setCell h.gx _⟩

def numsP (l : Let) (j : Nat) : List Int := [l.kind, l.src, l.dst, l.txn, l.ts, l.code, (l.keys.length : Int)] ++ (l.ws.take j).map fun x => if x.dead then 1 else 0
def textsP (l : Let) (j : Nat) : List ByteArray := l.text :: (l.keys ++ (l.ws.take j).flatMap fun x => [x.key, x.shard])

theorem numsP_all (l : Let) : numsP l l.ws.length = numsOf l := by unfold numsP numsOf; rw [List.take_length]
theorem textsP_all (l : Let) : textsP l l.ws.length = textsOf l := by unfold textsP textsOf; rw [List.take_length]
theorem numsP_succ {l : Let} {j : Nat} (h : j < l.ws.length) : numsP l (j + 1) = numsP l j ++ [if l.ws[j].dead then 1 else 0] := by
  unfold numsP
  rw [List.take_add_one, List.getElem?_eq_getElem h, List.map_append]
  simp
theorem textsP_succ {l : Let} {j : Nat} (h : j < l.ws.length) : textsP l (j + 1) = (textsP l j ++ [l.ws[j].key]) ++ [l.ws[j].shard] := by
  unfold textsP
  rw [List.take_add_one, List.getElem?_eq_getElem h, List.flatMap_append]
  simp
theorem numsP_len (l : Let) (j : Nat) : (numsP l j).length ≤ 7 + j := by
  unfold numsP
  rw [List.length_append, List.length_map, List.length_take]
  show 7 + _ ≤ _
  omega
theorem flat_len (ws : List Wr) : (ws.flatMap fun x => [x.key, x.shard]).length = 2 * ws.length := by
  induction ws with
  | nil => rfl
  | cons x r ih => simp only [List.flatMap_cons, List.length_append, List.length_cons, List.length_nil]; omega
theorem textsP_len (l : Let) (j : Nat) : (textsP l j).length ≤ 1 + l.keys.length + 2 * j := by
  unfold textsP
  rw [List.length_cons, List.length_append, flat_len, List.length_take]
  omega

end Lt
end Go.Proofs.YtjehjbkcdpidbaaGreat

/- What the document's own Check of letters answers; contract; no condition but the range. -/
namespace Go.Proofs.YtjehjbkcdpidbaaGreat
namespace Lt
open Go.RowKit Bk

attribute [local go_sem ↓] Go.wp_at_zero Go.wp_at_succ
attribute [local go_sem] floatUpon pick

theorem bool_of {p : Prop} : ∃ b : Bool, (b = true ↔ p) := ⟨@decide p (Classical.propDecidable _), by rw [@decide_eq_true_eq _ (Classical.propDecidable _)]⟩

end Lt
end Go.Proofs.YtjehjbkcdpidbaaGreat

/- What the document's own Encode of letters answers; contract; no condition but the range. -/
namespace Go.Proofs.YtjehjbkcdpidbaaGreat
namespace Lt
open Go.RowKit Bk

attribute [local go_sem ↓] Go.wp_at_zero Go.wp_at_succ
attribute [local go_sem] floatUpon pick

open Classical in
/-- what Encode answers -/
noncomputable def encV (l : Let) : Value := if LetOk l then .tuple #[.string ⟨(letL l).toArray⟩, .int .i64 0] else .tuple #[.string ⟨#[]⟩, .int .i64 70]

theorem encV_ok {l : Let} (h : LetOk l) : encV l = .tuple #[.string ⟨(letL l).toArray⟩, .int .i64 0] := by unfold encV; rw [if_pos h]
theorem encV_bad {l : Let} (h : ¬ LetOk l) : encV l = .tuple #[.string ⟨#[]⟩, .int .i64 70] := by unfold encV; rw [if_neg h]

theorem ckN_of {l : Let} (h : LetOk l) : ckN l = 0 := ckN_zero.2 h
theorem ckN_not {l : Let} (h : ¬ LetOk l) : ckN l = 70 := by unfold ckN; rw [if_neg h]

end Lt
end Go.Proofs.YtjehjbkcdpidbaaGreat

/- What the document's own Pairs answers: writes of flags and texts; contract; no condition but the range. -/
namespace Go.Proofs.YtjehjbkcdpidbaaGreat
namespace Lt
open Go.RowKit Bk

attribute [local go_sem ↓] Go.wp_at_zero Go.wp_at_succ
attribute [local go_sem] floatUpon pick

theorem Tryz.infoWrite : (Tryz.prog.info? 139).map (fun i => (i.zero, i.size, i.bytes)) = some (some (.agg #[.string ⟨#[]⟩, .string ⟨#[]⟩, .bool false]), 3, 40) := by kernel_rfl

/-- a row's cells -/
def wrV (l : List Wr) : List Value := l.flatMap fun x => [.string x.key, .string x.shard, .bool x.dead]

theorem wrV_len (l : List Wr) : (wrV l).length = l.length * 3 := by
  induction l with
  | nil => rfl
  | cons x r ih =>
    show ([_, _, _] ++ wrV r).length = _
    rw [List.length_append, ih, List.length_cons]
    simp; omega

theorem wrV_snoc (l : List Wr) (x : Wr) : wrV (l ++ [x]) = wrV l ++ [.string x.key, .string x.shard, .bool x.dead] := by
  unfold wrV
  rw [List.flatMap_append]; rfl

theorem wrV_at : ∀ (l : List Wr) (i : Nat) (h : i < l.length), (wrV l)[i * 3]? = some (.string l[i].key) ∧ (wrV l)[i * 3 + 1]? = some (.string l[i].shard) ∧ (wrV l)[i * 3 + 2]? = some (.bool l[i].dead)
  | [], _, h => absurd h (by simp)
  | x :: r, 0, _ => ⟨rfl, rfl, rfl⟩
  | x :: r, i + 1, h => by
    have ih := wrV_at r i (by simpa using h)
    have e : wrV (x :: r) = .string x.key :: .string x.shard :: .bool x.dead :: wrV r := rfl
    rw [e, show (i + 1) * 3 = i * 3 + 3 by omega]
    exact ih

theorem wrs_own {w : World} {H n : Nat} {v : Value} {e : TypeId} {l : List Wr} (h : w.ownsRow H e 3 v n (wrV l)) (hl : n = l.length) : ∃ (A : Option Addr) (c : Nat), v = .slice A n c ∧ WrsAt w A l ∧ n ≤ c ∧ c ≤ maxLen ∧ (A = none → c = 0) := by
  rcases h.2 with ⟨rfl, rfl⟩ | ⟨g, cap, cur, rfl, _, hg, h1, h2, hsz, htk⟩
  · exact ⟨none, 0, rfl, fun hp => by omega, Nat.le_refl _, Nat.zero_le _, fun _ => rfl⟩
  · refine ⟨_, cap, rfl, fun _ => ⟨_, rfl, (Array.getElem?_eq_some_iff.1 hg).1, fun i hi => ?_⟩, h1, h2, fun e => by cases e⟩
    obtain ⟨x0, x1, x2⟩ := wrV_at l i hi
    have hlen : (wrV l).length = n * 3 := by rw [wrV_len, hl]
    have hc : ∀ j u, (wrV l)[j]? = some u → w.cell? ((⟨g, 0, none⟩ : Addr).add j) = some u := fun j u hu => by
      rw [addr_head]
      refine blk_cell hg ?_
      have hj := (List.getElem?_eq_some_iff.1 hu).1
      rw [← htk, List.getElem?_take_of_lt (by omega)] at hu
      rw [← Array.getElem?_toList]; exact hu
    exact ⟨hc _ _ x0, hc _ _ x1, hc _ _ x2⟩

/-- the writes of flags and texts -/
def pairL : List Int → List ByteArray → List Wr
  | f :: fs, k :: s :: ts => ⟨k, s, f == 1⟩ :: pairL fs ts
  | _, _ => []

theorem pairL_len : ∀ (fs : List Int) (ts : List ByteArray), ts.length = 2 * fs.length → (pairL fs ts).length = fs.length
  | [], _, _ => by simp [pairL]
  | f :: fs, [], h => by simp at h
  | f :: fs, [k], h => by simp at h; omega
  | f :: fs, k :: s :: ts, h => by
    rw [pairL, List.length_cons, List.length_cons, pairL_len fs ts (by simp at h; omega)]

theorem pairL_at : ∀ (fs : List Int) (ts : List ByteArray) (_h : ts.length = 2 * fs.length) (i : Nat) (hi : i < fs.length) (hp : i < (pairL fs ts).length) (h1 : 2 * i < ts.length) (h2 : 2 * i + 1 < ts.length), (pairL fs ts)[i] = ⟨ts[2 * i], ts[2 * i + 1], fs[i] == 1⟩
  | [], _, _, _, hi, _, _, _ => absurd hi (by simp)
  | f :: fs, [], h, _, _, _, _, _ => by simp at h
  | f :: fs, [k], h, _, _, _, _, _ => by simp at h; omega
  | f :: fs, k :: s :: ts, h, 0, _, _, _, _ => rfl
  | f :: fs, k :: s :: ts, h, i + 1, hi, hp, h1, h2 => by
    have ih := pairL_at fs ts (by simp at h; omega) i (by simpa using hi) (by simpa [pairL] using hp) (by simp at h1; omega) (by simp at h2; omega)
    simp only [pairL, List.getElem_cons_succ, ih]
    congr 1 <;> simp [show 2 * (i + 1) = 2 * i + 1 + 1 by omega]

theorem new_row {w : World} {g : Nat} {t : TypeId} {xs : List Value} (h : w.heap[g]? = some (.cells xs.toArray t (0, 0))) : ∀ j v, xs[j]? = some v → w.cell? ((⟨g, 0, none⟩ : Addr).add j) = some v := fun j v hv => by
  rw [addr_head]
  exact blk_cell h (by rw [List.getElem?_toArray]; exact hv)

/-- what Pairs answers -/
def PairsAns (fs : List Int) (ts : List ByteArray) (w : World) : Ending → World → Prop := fun e w' =>
  (ts.length = 2 * fs.length ∧ ∃ v, e = .returned (.tuple #[v, .bool true]) ∧ w'.ownsRow w.heap.size 139 3 v fs.length (wrV (pairL fs ts)) ∧ Below w.heap.size w w') ∨
  (ts.length ≠ 2 * fs.length ∧ e = .returned (.tuple #[.slice none 0 0, .bool false]) ∧ w' = w)

end Lt
end Go.Proofs.YtjehjbkcdpidbaaGreat

/- Which letter numbers and texts say, if they say one; no condition. -/
namespace Go.Proofs.YtjehjbkcdpidbaaGreat
namespace Lt
open Go.RowKit Bk

def manyOf (ns : List Int) : Nat := (ns.getD 6 0).toNat

/-- the one that they may say -/
def cand (ns : List Int) (ts : List ByteArray) : Let :=
  ⟨ns.getD 0 0, ns.getD 1 0, ns.getD 2 0, ns.getD 3 0, ns.getD 4 0, ns.getD 5 0, ts.getD 0 ⟨#[]⟩, (ts.drop 1).take (manyOf ns), pairL (ns.drop 7) (ts.drop (1 + manyOf ns))⟩

theorem pairL_of (ws : List Wr) : pairL (ws.map fun x => if x.dead then 1 else 0) (ws.flatMap fun x => [x.key, x.shard]) = ws := by
  induction ws with
  | nil => rfl
  | cons x r ih =>
    show (⟨x.key, x.shard, (if x.dead then (1 : Int) else 0) == 1⟩ : Wr) :: pairL (r.map fun x => if x.dead then 1 else 0) (r.flatMap fun x => [x.key, x.shard]) = _
    rw [ih]
    obtain ⟨k, s, d⟩ := x
    cases d <;> rfl

theorem cand_of (l : Let) : cand (numsOf l) (textsOf l) = l := by
  obtain ⟨kd, sr, ds, tn, ts, co, tt, ks, ws⟩ := l
  have hm : manyOf (numsOf ⟨kd, sr, ds, tn, ts, co, tt, ks, ws⟩) = ks.length := by
    simp [manyOf, numsOf]
  unfold cand
  rw [hm]
  have e1 : (textsOf ⟨kd, sr, ds, tn, ts, co, tt, ks, ws⟩).drop 1 = ks ++ ws.flatMap fun x => [x.key, x.shard] := rfl
  have e2 : (textsOf ⟨kd, sr, ds, tn, ts, co, tt, ks, ws⟩).drop (1 + ks.length) = ws.flatMap fun x => [x.key, x.shard] := by
    rw [← List.drop_drop, e1, List.drop_left]
  have e3 : (numsOf ⟨kd, sr, ds, tn, ts, co, tt, ks, ws⟩).drop 7 = ws.map fun x => if x.dead then 1 else 0 := rfl
  rw [e1, e2, e3, List.take_left, pairL_of]
  rfl

theorem nums_len (l : Let) : (numsOf l).length = 7 + l.ws.length := by
  unfold numsOf; rw [List.length_append, List.length_map]; rfl
theorem texts_len (l : Let) : (textsOf l).length = 1 + l.keys.length + 2 * l.ws.length := by
  unfold textsOf; rw [List.length_cons, List.length_append, flat_len]; omega
theorem many_of (l : Let) : manyOf (numsOf l) = l.keys.length := by simp [manyOf, numsOf]
theorem six_of (l : Let) : (numsOf l).getD 6 0 = (l.keys.length : Int) := by simp [numsOf]

/-- bytes that are read so are no other letter's -/
theorem says_nums {s : List UInt8} {ns : List Int} {ts : List ByteArray} {l : Let} (h : Pk.decL s = .ok (ns, ts)) (hl : LetOk l) (hs : s = letL l) : ns = numsOf l ∧ ts = textsOf l := by
  rw [hs] at h
  unfold letL at h
  rw [Pk.decL_back hl.pack] at h
  simp only [Except.ok.injEq, Prod.mk.injEq] at h
  exact ⟨h.1.symm, h.2.symm⟩

def noLet : Let := ⟨0, 0, 0, 0, 0, 0, ⟨#[]⟩, [], []⟩

/-- no letter's bytes -/
def NoLet (s : ByteArray) : Prop := ∀ l, LetOk l → s.data.toList ≠ letL l

/-- what the document's Decode answers -/
def LetDec (s : ByteArray) (w : World) : Ending → World → Prop := fun e w' =>
  (∃ (l : Let) (A B : Option Addr) (c d : Nat), LetOk l ∧ s.data.toList = letL l ∧ e = .returned (.tuple #[letV l A B c d, .int .i64 0]) ∧ StrsAt w' A l.keys ∧ WrsAt w' B l.ws ∧ Below w.heap.size w w') ∨
  (NoLet s ∧ e = .returned (.tuple #[letV noLet none none 0 0, .int .i64 70]) ∧ Below w.heap.size w w')

theorem NoLet.err {s : ByteArray} {e : Pk.Er} (h : Pk.decL s.data.toList = .error e) : NoLet s := fun l hl hs => by
  rw [hs] at h
  unfold letL at h
  rw [Pk.decL_back hl.pack] at h
  cases h

theorem NoLet.of {s : ByteArray} {ns : List Int} {ts : List ByteArray} (h : Pk.decL s.data.toList = .ok (ns, ts)) (hn : ∀ l, LetOk l → ns = numsOf l → ts = textsOf l → s.data.toList = letL l → False) : NoLet s := fun l hl hs => by
  obtain ⟨e1, e2⟩ := says_nums h hl hs
  exact hn l hl e1 e2 hs

/-- the ranges of one that a pack may say -/
theorem cand_range {ns : List Int} {ts : List ByteArray} (h : Pk.MayBe ns ts) : LetRng (cand ns ts) := by
  obtain ⟨h1, h2, h3, h4⟩ := h
  have rb : reachBytes = 140737488351232 := by unfold reachBytes; rfl
  have hi : ∀ i, -9223372036854775808 ≤ ns.getD i 0 ∧ ns.getD i 0 ≤ 9223372036854775807 := fun i => by
    rw [List.getD_eq_getElem?_getD]
    cases e : ns[i]? with
    | none => simp
    | some z =>
      have hz := h3 z (List.mem_of_getElem? e)
      unfold Pk.numOk at hz
      simp only [Option.getD_some]; omega
  have ht : ∀ t ∈ ts, t.size ≤ reachBytes := fun t ht => by have := h4 t ht; omega
  have hp : ∀ (fs : List Int) (us : List ByteArray), (∀ u ∈ us, u.size ≤ reachBytes) → ∀ x ∈ pairL fs us, x.key.size ≤ reachBytes ∧ x.shard.size ≤ reachBytes := by
    intro fs
    induction fs with
    | nil => intro us _ x hx; simp [pairL] at hx
    | cons f fs ih =>
      intro us hu x hx
      match us, hu, hx with
      | [], _, hx => simp [pairL] at hx
      | [k], _, hx => simp [pairL] at hx
      | k :: s :: r, hu, hx =>
        rcases List.mem_cons.1 hx with rfl | hx
        · exact ⟨hu _ (by simp), hu _ (by simp)⟩
        · exact ih r (fun u hr => hu u (by simp [hr])) x hx
  have hpl : ∀ (fs : List Int) (us : List ByteArray), (pairL fs us).length ≤ fs.length := by
    intro fs
    induction fs with
    | nil => intro us; simp [pairL]
    | cons f fs ih =>
      intro us
      match us with
      | [] => simp [pairL]
      | [k] => simp [pairL]
      | k :: s :: r => rw [pairL, List.length_cons, List.length_cons]; have := ih r; omega
  refine ⟨hi 0, hi 1, hi 2, hi 3, hi 4, hi 5, ?_, ?_, ?_, ?_, ?_⟩
  · show (ts.getD 0 ⟨#[]⟩).size ≤ _
    rw [List.getD_eq_getElem?_getD]
    cases e : ts[0]? with
    | none => simp only [Option.getD_none]; show (0 : Nat) ≤ _; omega
    | some t => exact ht t (List.mem_of_getElem? e)
  · show ((ts.drop 1).take (manyOf ns)).length * 16 ≤ _
    rw [List.length_take, List.length_drop]; omega
  · show (pairL (ns.drop 7) (ts.drop (1 + manyOf ns))).length * 16 ≤ _
    have := hpl (ns.drop 7) (ts.drop (1 + manyOf ns))
    rw [List.length_drop] at this; omega
  · intro t ht2
    exact ht t (List.mem_of_mem_drop (List.mem_of_mem_take ht2))
  · exact hp _ _ (fun u hu => ht u (List.mem_of_mem_drop hu))

end Lt
end Go.Proofs.YtjehjbkcdpidbaaGreat

/- Which numbers and texts say a letter; no condition. -/
namespace Go.Proofs.YtjehjbkcdpidbaaGreat
namespace Lt
open Go.RowKit Bk

def Shape (ns : List Int) (ts : List ByteArray) : Prop := 7 ≤ ns.length ∧ 0 ≤ ns.getD 6 0 ∧ (ts.length : Int) = 1 + ns.getD 6 0 + 2 * ((ns.length - 7 : Nat) : Int) ∧ ∀ f ∈ ns.drop 7, f = 0 ∨ f = 1

theorem shape_of (l : Let) : Shape (numsOf l) (textsOf l) := by
  refine ⟨by rw [nums_len]; omega, by rw [six_of]; omega, by rw [six_of, nums_len, texts_len]; omega, fun f hf => ?_⟩
  have e3 : (numsOf l).drop 7 = l.ws.map fun x => if x.dead then 1 else 0 := rfl
  rw [e3] at hf
  obtain ⟨x, _, rfl⟩ := List.mem_map.1 hf
  split
  · exact .inr rfl
  · exact .inl rfl

theorem pair_flags : ∀ (fs : List Int) (us : List ByteArray), us.length = 2 * fs.length → (∀ f ∈ fs, f = 0 ∨ f = 1) → ((pairL fs us).map fun x => if x.dead then (1 : Int) else 0) = fs ∧ ((pairL fs us).flatMap fun x => [x.key, x.shard]) = us
  | [], [], _, _ => ⟨rfl, rfl⟩
  | [], _ :: _, h, _ => by simp at h
  | f :: fs, [], h, _ => by simp at h
  | f :: fs, [k], h, _ => by simp at h; omega
  | f :: fs, k :: s :: r, h, h1 => by
    obtain ⟨i1, i2⟩ := pair_flags fs r (by simp at h; omega) (fun g hg => h1 g (by simp [hg]))
    have hf : (if (f == 1) = true then (1 : Int) else 0) = f := by
      rcases h1 f (by simp) with rfl | rfl <;> rfl
    constructor
    · show (if (f == 1) = true then (1 : Int) else 0) :: ((pairL fs r).map _) = _
      rw [hf, i1]
    · show k :: s :: ((pairL fs r).flatMap _) = _
      rw [i2]

theorem seven {ns : List Int} (h : 7 ≤ ns.length) : ns = [ns.getD 0 0, ns.getD 1 0, ns.getD 2 0, ns.getD 3 0, ns.getD 4 0, ns.getD 5 0, ns.getD 6 0] ++ ns.drop 7 := by
  match ns, h with
  | a :: b :: c :: d :: e :: f :: g :: r, _ => rfl

theorem shape_cand {ns : List Int} {ts : List ByteArray} (h : Shape ns ts) : numsOf (cand ns ts) = ns ∧ textsOf (cand ns ts) = ts := by
  obtain ⟨h1, h2, h3, h4⟩ := h
  have hm : ((manyOf ns : Nat) : Int) = ns.getD 6 0 := by unfold manyOf; omega
  have hp := pair_flags (ns.drop 7) (ts.drop (1 + manyOf ns)) (by rw [List.length_drop, List.length_drop]; omega) h4
  have hkl : ((ts.drop 1).take (manyOf ns)).length = manyOf ns := by rw [List.length_take, List.length_drop]; omega
  constructor
  · show [ns.getD 0 0, ns.getD 1 0, ns.getD 2 0, ns.getD 3 0, ns.getD 4 0, ns.getD 5 0, (((ts.drop 1).take (manyOf ns)).length : Int)] ++ (pairL (ns.drop 7) (ts.drop (1 + manyOf ns))).map _ = ns
    rw [hp.1, hkl, hm]
    exact (seven h1).symm
  · show ts.getD 0 ⟨#[]⟩ :: ((ts.drop 1).take (manyOf ns) ++ (pairL (ns.drop 7) (ts.drop (1 + manyOf ns))).flatMap _) = ts
    rw [hp.2, show ts.drop (1 + manyOf ns) = (ts.drop 1).drop (manyOf ns) by rw [List.drop_drop], List.take_append_drop]
    match ts, h3 with
    | [], h3 => rw [List.length_nil] at h3; omega
    | t :: r, _ => rfl

theorem shape_keys {ns : List Int} {ts : List ByteArray} (h : Shape ns ts) : (cand ns ts).keys.length = manyOf ns ∧ (cand ns ts).ws.length = ns.length - 7 := by
  obtain ⟨h1, h2, h3, h4⟩ := h
  have hm : ((manyOf ns : Nat) : Int) = ns.getD 6 0 := by unfold manyOf; omega
  constructor
  · show ((ts.drop 1).take (manyOf ns)).length = _
    rw [List.length_take, List.length_drop]; omega
  · show (pairL _ _).length = _
    rw [pairL_len _ _ (by rw [List.length_drop, List.length_drop]; omega), List.length_drop]

/-- bytes whose numbers and texts have not that shape are no letter's -/
theorem NoLet.shape {s : ByteArray} {ns : List Int} {ts : List ByteArray} (h : Pk.decL s.data.toList = .ok (ns, ts)) (hn : ¬ Shape ns ts) : NoLet s := NoLet.of h fun l _ e1 e2 _ => hn (by rw [e1, e2]; exact shape_of l)

theorem NoLet.bad {s : ByteArray} {ns : List Int} {ts : List ByteArray} (h : Pk.decL s.data.toList = .ok (ns, ts)) (hn : ¬ LetOk (cand ns ts)) : NoLet s := NoLet.of h fun l hl e1 e2 _ => hn (by rw [e1, e2, cand_of]; exact hl)

theorem cand_bytes {s : ByteArray} {ns : List Int} {ts : List ByteArray} (h : Pk.decL s.data.toList = .ok (ns, ts)) (hs : Shape ns ts) : s.data.toList = letL (cand ns ts) := by
  obtain ⟨e1, e2⟩ := shape_cand hs
  unfold letL
  rw [e1, e2]
  exact (Pk.decL_ok h).2

end Lt
end Go.Proofs.YtjehjbkcdpidbaaGreat

/- Records in plain lists: what one may be, its numbers and texts, and which record numbers and texts say; no condition. -/
namespace Go.Proofs.YtjehjbkcdpidbaaGreat
namespace Rc
open Lt

/-- a record -/
structure Rec where
  kind : Int
  txn : Int
  ts : Int
  coord : Int
  key : ByteArray
  text : ByteArray
  dead : Bool
  keys : List ByteArray
  ws : List Wr

def flag (b : Bool) : Int := if b then 1 else 0

theorem flag_inj {a b : Bool} (h : flag a = flag b) : a = b := by
  cases a <;> cases b <;> simp [flag] at h ⊢

def headOk (r : Rec) : Prop := (r.txn = 0 ∨ txnOk r.txn) ∧ stampOk r.ts ∧ 0 ≤ r.coord ∧ r.coord < 16
def ListsOk (r : Rec) : Prop := r.keys = [] ∧ r.ws = []
def TextOk (r : Rec) : Prop := r.key = ⟨#[]⟩ ∧ r.text = ⟨#[]⟩ ∧ r.dead = false
def BareOk (r : Rec) : Prop := ListsOk r ∧ TextOk r ∧ r.coord = 0

/-- what its kind lets it have -/
def kindOk (r : Rec) : Prop :=
  (r.kind = 1 ∧ TextOk r ∧ r.txn ≠ 0 ∧ r.keys.length ≤ 16 ∧ Rises r.keys ∧ WritesOk r.ws) ∨
  (r.kind = 2 ∧ BareOk r ∧ r.txn ≠ 0) ∨
  (r.kind = 3 ∧ ListsOk r ∧ r.coord = 0 ∧ r.txn = 0 ∧ r.ts ≠ 0 ∧ keyOk r.key ∧ r.text.size ≤ 2052 ∧ (r.dead = false ∨ r.text = ⟨#[]⟩)) ∨
  (r.kind = 4 ∧ BareOk r ∧ r.txn = 0) ∨
  (r.kind = 5 ∧ BareOk r ∧ r.txn ≠ 0 ∧ r.ts ≠ 0) ∨
  (r.kind = 6 ∧ BareOk r ∧ r.txn ≠ 0 ∧ r.ts = 0) ∨
  (r.kind = 7 ∧ BareOk r ∧ r.txn = 0 ∧ r.ts ≠ 0)

def RecOk (r : Rec) : Prop := headOk r ∧ kindOk r

def numsOf (r : Rec) : List Int := [r.kind, r.txn, r.ts, r.coord, flag r.dead, (r.keys.length : Int)] ++ r.ws.map fun x => if x.dead then 1 else 0
def textsOf (r : Rec) : List ByteArray := r.key :: r.text :: (r.keys ++ r.ws.flatMap fun x => [x.key, x.shard])
def recL (r : Rec) : List UInt8 := Pk.bytesL (numsOf r) (textsOf r)

theorem rises_keys {m : List ByteArray} (hm : Rises m) : ∀ k ∈ m, keyOk k := fun k hk => by
  obtain ⟨i, hi, e⟩ := List.mem_iff_getElem.1 hk
  rw [← e]; exact (hm i hi).1

theorem RecOk.bounds {r : Rec} (h : RecOk r) : r.keys.length ≤ 16 ∧ r.ws.length ≤ 16 ∧ r.key.size ≤ 32 ∧ r.text.size ≤ 2052 ∧ (∀ k ∈ r.keys, keyOk k) ∧ (∀ x ∈ r.ws, keyOk x.key ∧ x.shard.size ≤ 2052) ∧ 1 ≤ r.kind ∧ r.kind ≤ 7 := by
  obtain ⟨_, h⟩ := h
  have e0 : (⟨#[]⟩ : ByteArray).size = 0 := rfl
  have bare : BareOk r → r.keys.length ≤ 16 ∧ r.ws.length ≤ 16 ∧ r.key.size ≤ 32 ∧ r.text.size ≤ 2052 ∧ (∀ k ∈ r.keys, keyOk k) ∧ (∀ x ∈ r.ws, keyOk x.key ∧ x.shard.size ≤ 2052) := by
    rintro ⟨⟨h1, h2⟩, ⟨h3, h4, _⟩, _⟩
    rw [h1, h2, h3, h4]
    exact ⟨by simp, by simp, by rw [e0]; omega, by rw [e0]; omega, by simp, by simp⟩
  rcases h with ⟨h1, ⟨h2, h3, _⟩, _, h4, h5, h6, h7, h8⟩ | ⟨h1, h2, _⟩ | ⟨h1, ⟨h2, h3⟩, _, _, _, h4, h5, _⟩ | ⟨h1, h2, _⟩ | ⟨h1, h2, _⟩ | ⟨h1, h2, _⟩ | ⟨h1, h2, _⟩
  · rw [h2, h3]
    exact ⟨h4, h6, by rw [e0]; omega, by rw [e0]; omega, rises_keys h5, fun x hx => ⟨rises_keys h8 _ (List.mem_map.2 ⟨x, hx, rfl⟩), (h7 x hx).1⟩, by omega, by omega⟩
  · obtain ⟨a, b, c, d, e, f⟩ := bare h2; exact ⟨a, b, c, d, e, f, by omega, by omega⟩
  · rw [h2, h3]
    exact ⟨by simp, by simp, h4.2, h5, by simp, by simp, by omega, by omega⟩
  all_goals obtain ⟨a, b, c, d, e, f⟩ := bare h2; exact ⟨a, b, c, d, e, f, by omega, by omega⟩

/-- a record that may be is a pack that may be -/
theorem RecOk.pack {r : Rec} (h : RecOk r) : Pk.MayBe (numsOf r) (textsOf r) := by
  obtain ⟨b1, b2, b3, b4, b5, b6, b7, b8⟩ := h.bounds
  obtain ⟨⟨h1, h2, h3, h4⟩, _⟩ := h
  have hfl : ∀ b, Pk.numOk (flag b) := fun b => by cases b <;> (unfold flag Pk.numOk; simp)
  refine ⟨?_, ?_, fun n hn => ?_, fun t ht => ?_⟩
  · unfold numsOf
    rw [List.length_append, List.length_map]
    show 6 + _ ≤ _
    omega
  · unfold textsOf
    rw [List.length_cons, List.length_cons, List.length_append, flat_len]
    omega
  · unfold numsOf at hn
    rcases List.mem_append.1 hn with hn | hn
    · simp only [List.mem_cons, List.not_mem_nil, or_false] at hn
      unfold txnOk at h1
      unfold stampOk at h2
      rcases hn with rfl | rfl | rfl | rfl | rfl | rfl
      all_goals first | exact hfl _ | (unfold Pk.numOk; omega)
    · obtain ⟨x, _, rfl⟩ := List.mem_map.1 hn
      unfold Pk.numOk
      split <;> omega
  · unfold textsOf at ht
    rcases List.mem_cons.1 ht with rfl | ht
    · omega
    rcases List.mem_cons.1 ht with rfl | ht
    · omega
    rcases List.mem_append.1 ht with ht | ht
    · have := b5 t ht; unfold keyOk at this; omega
    · obtain ⟨x, hx, hx2⟩ := List.mem_flatMap.1 ht
      have := b6 x hx
      unfold keyOk at this
      simp only [List.mem_cons, List.not_mem_nil, or_false] at hx2
      rcases hx2 with rfl | rfl <;> omega

def manyOf (ns : List Int) : Nat := (ns.getD 5 0).toNat

/-- the one that numbers and texts may say -/
def cand (ns : List Int) (ts : List ByteArray) : Rec :=
  ⟨ns.getD 0 0, ns.getD 1 0, ns.getD 2 0, ns.getD 3 0, ts.getD 0 ⟨#[]⟩, ts.getD 1 ⟨#[]⟩, ns.getD 4 0 == 1, (ts.drop 2).take (manyOf ns), pairL (ns.drop 6) (ts.drop (2 + manyOf ns))⟩

theorem flag_one (b : Bool) : (flag b == 1) = b := by cases b <;> rfl

theorem cand_of (r : Rec) : cand (numsOf r) (textsOf r) = r := by
  obtain ⟨kd, tn, ts, co, ky, tt, dd, ks, ws⟩ := r
  have hm : manyOf (numsOf ⟨kd, tn, ts, co, ky, tt, dd, ks, ws⟩) = ks.length := by simp [manyOf, numsOf]
  unfold cand
  rw [hm]
  have e1 : (textsOf ⟨kd, tn, ts, co, ky, tt, dd, ks, ws⟩).drop 2 = ks ++ ws.flatMap fun x => [x.key, x.shard] := rfl
  have e2 : (textsOf ⟨kd, tn, ts, co, ky, tt, dd, ks, ws⟩).drop (2 + ks.length) = ws.flatMap fun x => [x.key, x.shard] := by
    rw [← List.drop_drop, e1, List.drop_left]
  have e3 : (numsOf ⟨kd, tn, ts, co, ky, tt, dd, ks, ws⟩).drop 6 = ws.map fun x => if x.dead then 1 else 0 := rfl
  have e4 : ((numsOf ⟨kd, tn, ts, co, ky, tt, dd, ks, ws⟩).getD 4 0 == 1) = dd := flag_one dd
  rw [e1, e2, e3, e4, List.take_left, pairL_of]
  rfl

theorem nums_len (r : Rec) : (numsOf r).length = 6 + r.ws.length := by
  unfold numsOf; rw [List.length_append, List.length_map]; rfl
theorem texts_len (r : Rec) : (textsOf r).length = 2 + r.keys.length + 2 * r.ws.length := by
  unfold textsOf; rw [List.length_cons, List.length_cons, List.length_append, flat_len]; omega
theorem five_of (r : Rec) : (numsOf r).getD 5 0 = (r.keys.length : Int) := by simp [numsOf]

theorem recL_inj {r q : Rec} (hr : RecOk r) (hq : RecOk q) (h : recL r = recL q) : r = q := by
  have h1 := Pk.decL_back hr.pack
  have h2 := Pk.decL_back hq.pack
  unfold recL at h
  rw [h, h2] at h1
  simp only [Except.ok.injEq, Prod.mk.injEq] at h1
  rw [← cand_of r, ← cand_of q, h1.1, h1.2]

/-- bytes that are read so are no other record's -/
theorem says_nums {s : List UInt8} {ns : List Int} {ts : List ByteArray} {r : Rec} (h : Pk.decL s = .ok (ns, ts)) (hr : RecOk r) (hs : s = recL r) : ns = numsOf r ∧ ts = textsOf r := by
  rw [hs] at h
  unfold recL at h
  rw [Pk.decL_back hr.pack] at h
  simp only [Except.ok.injEq, Prod.mk.injEq] at h
  exact ⟨h.1.symm, h.2.symm⟩

def noRec : Rec := ⟨0, 0, 0, 0, ⟨#[]⟩, ⟨#[]⟩, false, [], []⟩

/-- no record's bytes -/
def NoRec (s : ByteArray) : Prop := ∀ r, RecOk r → s.data.toList ≠ recL r

theorem NoRec.err {s : ByteArray} {e : Pk.Er} (h : Pk.decL s.data.toList = .error e) : NoRec s := fun r hr hs => by
  rw [hs] at h
  unfold recL at h
  rw [Pk.decL_back hr.pack] at h
  cases h

theorem NoRec.of {s : ByteArray} {ns : List Int} {ts : List ByteArray} (h : Pk.decL s.data.toList = .ok (ns, ts)) (hn : ∀ r, RecOk r → ns = numsOf r → ts = textsOf r → s.data.toList = recL r → False) : NoRec s := fun r hr hs => by
  obtain ⟨e1, e2⟩ := says_nums h hr hs
  exact hn r hr e1 e2 hs

/-- the numbers and texts of a record -/
def Shape (ns : List Int) (ts : List ByteArray) : Prop := 6 ≤ ns.length ∧ 0 ≤ ns.getD 5 0 ∧ (ts.length : Int) = 2 + ns.getD 5 0 + 2 * ((ns.length - 6 : Nat) : Int) ∧ (ns.getD 4 0 = 0 ∨ ns.getD 4 0 = 1) ∧ ∀ f ∈ ns.drop 6, f = 0 ∨ f = 1

theorem shape_of (r : Rec) : Shape (numsOf r) (textsOf r) := by
  refine ⟨by rw [nums_len]; omega, by rw [five_of]; omega, by rw [five_of, nums_len, texts_len]; omega, ?_, fun f hf => ?_⟩
  · show flag r.dead = 0 ∨ flag r.dead = 1
    cases r.dead
    · exact .inl rfl
    · exact .inr rfl
  · have e3 : (numsOf r).drop 6 = r.ws.map fun x => if x.dead then 1 else 0 := rfl
    rw [e3] at hf
    obtain ⟨x, _, rfl⟩ := List.mem_map.1 hf
    split
    · exact .inr rfl
    · exact .inl rfl

theorem six {ns : List Int} (h : 6 ≤ ns.length) : ns = [ns.getD 0 0, ns.getD 1 0, ns.getD 2 0, ns.getD 3 0, ns.getD 4 0, ns.getD 5 0] ++ ns.drop 6 := by
  match ns, h with
  | a :: b :: c :: d :: e :: f :: r, _ => rfl

theorem two {ts : List ByteArray} (h : 2 ≤ ts.length) : ts = ts.getD 0 ⟨#[]⟩ :: ts.getD 1 ⟨#[]⟩ :: ts.drop 2 := by
  match ts, h with
  | a :: b :: r, _ => rfl

theorem shape_cand {ns : List Int} {ts : List ByteArray} (h : Shape ns ts) : numsOf (cand ns ts) = ns ∧ textsOf (cand ns ts) = ts := by
  obtain ⟨h1, h2, h3, h5, h4⟩ := h
  have hm : ((manyOf ns : Nat) : Int) = ns.getD 5 0 := by unfold manyOf; omega
  have hp := pair_flags (ns.drop 6) (ts.drop (2 + manyOf ns)) (by rw [List.length_drop, List.length_drop]; omega) h4
  have hkl : ((ts.drop 2).take (manyOf ns)).length = manyOf ns := by rw [List.length_take, List.length_drop]; omega
  have hf : flag (ns.getD 4 0 == 1) = ns.getD 4 0 := by
    rcases h5 with e | e <;> (rw [e]; rfl)
  constructor
  · show [ns.getD 0 0, ns.getD 1 0, ns.getD 2 0, ns.getD 3 0, flag (ns.getD 4 0 == 1), (((ts.drop 2).take (manyOf ns)).length : Int)] ++ (pairL (ns.drop 6) (ts.drop (2 + manyOf ns))).map _ = ns
    rw [hp.1, hkl, hm, hf]
    exact (six h1).symm
  · show ts.getD 0 ⟨#[]⟩ :: ts.getD 1 ⟨#[]⟩ :: ((ts.drop 2).take (manyOf ns) ++ (pairL (ns.drop 6) (ts.drop (2 + manyOf ns))).flatMap _) = ts
    rw [hp.2, show ts.drop (2 + manyOf ns) = (ts.drop 2).drop (manyOf ns) by rw [List.drop_drop], List.take_append_drop]
    exact (two (by omega)).symm

theorem shape_keys {ns : List Int} {ts : List ByteArray} (h : Shape ns ts) : (cand ns ts).keys.length = manyOf ns ∧ (cand ns ts).ws.length = ns.length - 6 := by
  obtain ⟨h1, h2, h3, h5, h4⟩ := h
  have hm : ((manyOf ns : Nat) : Int) = ns.getD 5 0 := by unfold manyOf; omega
  constructor
  · show ((ts.drop 2).take (manyOf ns)).length = _
    rw [List.length_take, List.length_drop]; omega
  · show (pairL _ _).length = _
    rw [pairL_len _ _ (by rw [List.length_drop, List.length_drop]; omega), List.length_drop]

theorem NoRec.shape {s : ByteArray} {ns : List Int} {ts : List ByteArray} (h : Pk.decL s.data.toList = .ok (ns, ts)) (hn : ¬ Shape ns ts) : NoRec s := NoRec.of h fun r _ e1 e2 _ => hn (by rw [e1, e2]; exact shape_of r)

theorem NoRec.bad {s : ByteArray} {ns : List Int} {ts : List ByteArray} (h : Pk.decL s.data.toList = .ok (ns, ts)) (hn : ¬ RecOk (cand ns ts)) : NoRec s := NoRec.of h fun r hr e1 e2 _ => hn (by rw [e1, e2, cand_of]; exact hr)

theorem cand_bytes {s : ByteArray} {ns : List Int} {ts : List ByteArray} (h : Pk.decL s.data.toList = .ok (ns, ts)) (hs : Shape ns ts) : s.data.toList = recL (cand ns ts) := by
  obtain ⟨e1, e2⟩ := shape_cand hs
  unfold recL
  rw [e1, e2]
  exact (Pk.decL_ok h).2

end Rc
end Go.Proofs.YtjehjbkcdpidbaaGreat

/- A record as an argument: what its reading says. -/
namespace Go.Proofs.YtjehjbkcdpidbaaGreat
namespace Rc
open Go.ChangeShapes Go.WideShapes Go.ChangeAt Go.RowKit Go.Joins Go.Deep Bk Lt

section
variable {H : Type} {enc : TypeId × Value → H} {W : World}

/-- the ranges of what a record holds -/
structure RecRng (r : Rec) : Prop where
  kind : -9223372036854775808 ≤ r.kind ∧ r.kind ≤ 9223372036854775807
  txn : -9223372036854775808 ≤ r.txn ∧ r.txn ≤ 9223372036854775807
  ts : -9223372036854775808 ≤ r.ts ∧ r.ts ≤ 9223372036854775807
  coord : -9223372036854775808 ≤ r.coord ∧ r.coord ≤ 9223372036854775807
  key : r.key.size ≤ reachBytes
  text : r.text.size ≤ reachBytes
  k16 : r.keys.length * 16 ≤ reachBytes
  w40 : r.ws.length * 40 ≤ reachBytes
  kr : ∀ s ∈ r.keys, s.size ≤ reachBytes
  wr : ∀ x ∈ r.ws, x.key.size ≤ reachBytes ∧ x.shard.size ≤ reachBytes

/-- .. and of its slices -/
structure RecRange (r : Rec) (c d : Nat) : Prop extends RecRng r where
  kc : r.keys.length ≤ c
  wd : r.ws.length ≤ d
  c63 : c ≤ maxLen
  d63 : d ≤ maxLen

/-- the value of a record -/
def recV (r : Rec) (A B : Option Addr) (c d : Nat) : Value := .agg #[.int .i64 r.kind, .int .i64 r.txn, .int .i64 r.ts, .int .i64 r.coord, .string r.key, .string r.text, .bool r.dead, .slice A r.keys.length c, .slice B r.ws.length d]

/-- the value is a record that holds these -/
def RecArg (w : World) (v : Value) (r : Rec) : Prop :=
  ∃ (A B : Option Addr) (c d : Nat), v = recV r A B c d ∧ StrsAt w A r.keys ∧ WrsAt w B r.ws ∧ RecRange r c d ∧ (A = none → r.keys = [] ∧ c = 0) ∧ (B = none → r.ws = [] ∧ d = 0)

set_option maxRecDepth 20000 in
theorem open_record {base : Nat} {v : Value} {d : DataW H} {p : List MemPlace} {ts : List TypeId} {ds : List (DataW H)} {j : Nat}
    (hsz : (DataW.weightsEach Tryz.prog ts ds).all (· ≤ reachBytes) = true) (hj : ts[j]? = some 49) (hd : ds[j]? = some d)
    (hv : Value.okWide Tryz.prog W .any base 49 v) (h : DataW.Trod enc Tryz.prog W 0 (fun _ => true) true 49 v d p) (hl : ∀ x ∈ p, x.block < W.heap.size) : ∃ r, RecArg W v r := by
  obtain ⟨cs, xs, n, rfl, hcl, rfl, rfl, hxl, hall⟩ := open_agg_any Tryz.underlying49 (by kernel_rfl) (by kernel_rfl) hv h
  have hw := arg_weights hsz hj hd
  match cs, hcl, xs, hxl with
  | [v0, v1, v2, v3, v4, v5, v6, v7, v8], _, [y0, y1, y2, y3, y4, y5, y6, y7, y8], _ =>
    obtain ⟨kind, rfl, r0⟩ := field_int Tryz.underlying3 (hall 0 _ _ _ rfl rfl rfl)
    obtain ⟨txn, rfl, r1⟩ := field_int Tryz.underlying3 (hall 1 _ _ _ rfl rfl rfl)
    obtain ⟨ts', rfl, r2⟩ := field_int Tryz.underlying3 (hall 2 _ _ _ rfl rfl rfl)
    obtain ⟨coord, rfl, r3⟩ := field_int Tryz.underlying3 (hall 3 _ _ _ rfl rfl rfl)
    obtain ⟨key, rfl, r4⟩ := field_text Tryz.underlying9 (hall 4 _ _ _ rfl rfl rfl) (agg_weights (i := 4) Tryz.underlying49 rfl rfl hw)
    obtain ⟨text, rfl, r5⟩ := field_text Tryz.underlying9 (hall 5 _ _ _ rfl rfl rfl) (agg_weights (i := 5) Tryz.underlying49 rfl rfl hw)
    obtain ⟨dead, rfl⟩ := field_bool Tryz.underlying4 (hall 6 _ _ _ rfl rfl rfl)
    obtain ⟨A, c, K, rfl, a1, a2, a3, a4, a5, a6⟩ := field_texts Tryz.underlying37 Tryz.underlying9 (by kernel_rfl) (by kernel_rfl) (hall 7 _ _ _ rfl rfl rfl) (agg_weights (i := 7) Tryz.underlying49 rfl rfl hw) (fun x hx => hl x (List.mem_flatMap.2 ⟨y7, by simp, hx⟩))
    obtain ⟨B, d, L, rfl, b1, b2, b3, b4, b5, b6⟩ := field_writes40 Tryz.underlying47 Tryz.underlying139 (by kernel_rfl) (by kernel_rfl) Tryz.underlying9 Tryz.underlying9 Tryz.underlying4 (of_decide_eq_true (by kernel_rfl)) (hall 8 _ _ _ rfl rfl rfl) (agg_weights (i := 8) Tryz.underlying49 rfl rfl hw) (fun x hx => hl x (List.mem_flatMap.2 ⟨y8, by simp, hx⟩))
    exact ⟨⟨kind, txn, ts', coord, key, text, dead, K, L⟩, A, B, c, d, rfl, a1, b1, ⟨⟨r0, r1, r2, r3, r4, r5, a2, b2, a5, b5⟩, a3, b3, a4, b4⟩, a6, b6⟩

end

end Rc
end Go.Proofs.YtjehjbkcdpidbaaGreat

/- Parts of slices, nine cells that are written over, and writes of the call's own; no condition. -/
namespace Go.Proofs.YtjehjbkcdpidbaaGreat
namespace Lt
open Go.RowKit Bk

attribute [local go_sem ↓] Go.wp_at_zero Go.wp_at_succ
attribute [local go_sem] floatUpon pick

/-- the zero letter in its block -/
theorem zero_cells (w : World) : Cel (w.alloc (.cells #[.int .i64 0, .int .i64 0, .int .i64 0, .int .i64 0, .int .i64 0, .int .i64 0, .string ⟨#[]⟩, .slice none 0 0, .slice none 0 0] 190)) w.heap.size 190 [.int .i64 0, .int .i64 0, .int .i64 0, .int .i64 0, .int .i64 0, .int .i64 0, .string ⟨#[]⟩, .slice none 0 0, .slice none 0 0] := (blk1 w _).2

theorem add_add (a : Addr) (k i : Nat) : (a.add k).add i = a.add (k + i) := by
  unfold Addr.add
  by_cases hk : k = 0
  · subst hk; simp
  · by_cases hi : i = 0
    · subst hi; simp [hk]
    · simp [hk, hi, Nat.add_assoc]

theorem add_lit (a : Addr) (k : Nat) (h : 0 < k) : (⟨a.block, a.off + k, none⟩ : Addr) = a.add k := by unfold Addr.add; rw [if_neg (by omega)]

theorem ints_sub {w : World} {a : Addr} {l : List Int} {k c : Nat} (h : IntsAt w (some a) l) (hc : l.length ≤ c) : IntsAt w (if c = k then some a else some (a.add k)) (l.drop k) := fun hp => by
  rw [List.length_drop] at hp
  obtain ⟨a', e, hb, hcl⟩ := h (by omega)
  obtain rfl := Option.some.inj e
  refine ⟨a.add k, by rw [if_neg (by omega)], by rw [st_block]; exact hb, fun i hi => ?_⟩
  rw [List.length_drop] at hi
  rw [add_add, hcl (k + i) (by omega), List.getElem_drop]

theorem strs_sub {w : World} {a : Addr} {l : List ByteArray} {k c : Nat} (h : StrsAt w (some a) l) (hc : l.length ≤ c) : StrsAt w (if c = k then some a else some (a.add k)) (l.drop k) := fun hp => by
  rw [List.length_drop] at hp
  obtain ⟨a', e, hb, hcl⟩ := h (by omega)
  obtain rfl := Option.some.inj e
  refine ⟨a.add k, by rw [if_neg (by omega)], by rw [st_block]; exact hb, fun i hi => ?_⟩
  rw [List.length_drop] at hi
  rw [add_add, hcl (k + i) (by omega), List.getElem_drop]

theorem strs_take {w : World} {A : Option Addr} {l : List ByteArray} (h : StrsAt w A l) (q : Nat) : StrsAt w A (l.take q) := fun hp => by
  rw [List.length_take] at hp
  obtain ⟨a, e, hb, hcl⟩ := h (by omega)
  refine ⟨a, e, hb, fun i hi => ?_⟩
  rw [List.length_take] at hi
  rw [hcl i (by omega), List.getElem_take]

theorem strs_far {w W : World} {A : Option Addr} {l : List ByteArray} (h : StrsAt w A l) {R : Nat} (hR : ∀ a, A = some a → a.block ≠ R) (hs : w.heap.size ≤ W.heap.size) (he : ∀ a : Addr, a.block ≠ R → W.cell? a = w.cell? a) : StrsAt W A l := fun hp => by
  obtain ⟨a, e, hb, hcl⟩ := h hp
  exact ⟨a, e, Nat.lt_of_lt_of_le hb hs, fun i hi => (he _ (by rw [st_block]; exact hR a e)).trans (hcl i hi)⟩

theorem wrs_far {w W : World} {A : Option Addr} {l : List Wr} (h : WrsAt w A l) {R : Nat} (hR : ∀ a, A = some a → a.block ≠ R) (hs : w.heap.size ≤ W.heap.size) (he : ∀ a : Addr, a.block ≠ R → W.cell? a = w.cell? a) : WrsAt W A l := fun hp => by
  obtain ⟨a, e, hb, hcl⟩ := h hp
  exact ⟨a, e, Nat.lt_of_lt_of_le hb hs, fun i hi => ⟨(he _ (by rw [st_block]; exact hR a e)).trans (hcl i hi).1, (he _ (by rw [st_block]; exact hR a e)).trans (hcl i hi).2.1, (he _ (by rw [st_block]; exact hR a e)).trans (hcl i hi).2.2⟩⟩

theorem below_row {w W : World} {H o : Nat} (h : Below H w W) (ho : H ≤ o) (cs : Array Value) : Below H w (W.setRow o cs) :=
  h.trans ⟨rfl, rfl, rfl, by simp, fun k hk => setRow_other _ _ _ _ (by omega)⟩

/-- nine cells are written over -/
def set9 (W : World) (R : Nat) (v0 v1 v2 v3 v4 v5 v6 v7 v8 : Value) : World :=
  (((((((((W.setCell ⟨R, 0, none⟩ v0).setCell ⟨R, 1, none⟩ v1).setCell ⟨R, 2, none⟩ v2).setCell ⟨R, 3, none⟩ v3).setCell ⟨R, 4, none⟩ v4).setCell ⟨R, 5, none⟩ v5).setCell ⟨R, 6, none⟩ v6).setCell ⟨R, 7, none⟩ v7).setCell ⟨R, 8, none⟩ v8)

theorem set9_cel {W : World} {R : Nat} {t : TypeId} {u0 u1 u2 u3 u4 u5 u6 u7 u8 v0 v1 v2 v3 v4 v5 v6 v7 v8 : Value} (h : Cel W R t [u0, u1, u2, u3, u4, u5, u6, u7, u8]) : Cel (set9 W R v0 v1 v2 v3 v4 v5 v6 v7 v8) R t [v0, v1, v2, v3, v4, v5, v6, v7, v8] :=
  ((((((((h.set (i := 0) (v := v0)).set (i := 1) (v := v1)).set (i := 2) (v := v2)).set (i := 3) (v := v3)).set (i := 4) (v := v4)).set (i := 5) (v := v5)).set (i := 6) (v := v6)).set (i := 7) (v := v7)).set (i := 8) (v := v8)

theorem set9_below {w W : World} {H R : Nat} {v0 v1 v2 v3 v4 v5 v6 v7 v8 : Value} (h : Below H w W) (hR : H ≤ R) : Below H w (set9 W R v0 v1 v2 v3 v4 v5 v6 v7 v8) :=
  ((((((((h.setCell (p := ⟨R, 0, none⟩) hR v0).setCell (p := ⟨R, 1, none⟩) hR v1).setCell (p := ⟨R, 2, none⟩) hR v2).setCell (p := ⟨R, 3, none⟩) hR v3).setCell (p := ⟨R, 4, none⟩) hR v4).setCell (p := ⟨R, 5, none⟩) hR v5).setCell (p := ⟨R, 6, none⟩) hR v6).setCell (p := ⟨R, 7, none⟩) hR v7).setCell (p := ⟨R, 8, none⟩) hR v8

theorem set9_other {W : World} {R : Nat} {v0 v1 v2 v3 v4 v5 v6 v7 v8 : Value} {a : Addr} (h : a.block ≠ R) : (set9 W R v0 v1 v2 v3 v4 v5 v6 v7 v8).cell? a = W.cell? a := by
  have hh : (set9 W R v0 v1 v2 v3 v4 v5 v6 v7 v8).heap[a.block]? = W.heap[a.block]? := by
    have e : ∀ (W : World) (i : Nat) (v : Value), (W.setCell ⟨R, i, none⟩ v).heap[a.block]? = W.heap[a.block]? := fun W i v => Below.heap_setCell W ⟨R, i, none⟩ v a.block h
    unfold set9
    rw [e, e, e, e, e, e, e, e, e]
  exact World.cell?_of_block hh

theorem set9_size {W : World} {R : Nat} {v0 v1 v2 v3 v4 v5 v6 v7 v8 : Value} : (set9 W R v0 v1 v2 v3 v4 v5 v6 v7 v8).heap.size = W.heap.size := by
  unfold set9; simp

/-- the writes of a row that was made behind block X -/
def SW (X n : Nat) (L : List Wr) (A : Option Addr) (c : Nat) (W : World) : Prop := WrsAt W A L ∧ n ≤ c ∧ c ≤ maxLen ∧ (A = none → c = 0) ∧ ∀ a, A = some a → X ≤ a.block

theorem SW.keep {X n : Nat} {L : List Wr} {A : Option Addr} {c : Nat} {W W' : World} (h : SW X n L A c W) (hb : Below W.heap.size W W') : SW X n L A c W' := ⟨h.1.below hb, h.2⟩

def S85 (X n : Nat) (L : List Wr) (v : Value) (W : World) : Prop := ∃ A c, v = .tuple #[.slice A n c, .bool true] ∧ SW X n L A c W
def S86 (X n : Nat) (L : List Wr) (v : Value) (W : World) : Prop := ∃ A c, v = .slice A n c ∧ SW X n L A c W
theorem S85.keep {X n : Nat} {L : List Wr} {v : Value} {W W' : World} (h : S85 X n L v W) (hb : Below W.heap.size W W') : S85 X n L v W' := by
  obtain ⟨A, c, e, h⟩ := h; exact ⟨A, c, e, h.keep hb⟩
theorem S86.keep {X n : Nat} {L : List Wr} {v : Value} {W W' : World} (h : S86 X n L v W) (hb : Below W.heap.size W W') : S86 X n L v W' := by
  obtain ⟨A, c, e, h⟩ := h; exact ⟨A, c, e, h.keep hb⟩

theorem wrs_own2 {w : World} {H n : Nat} {v : Value} {e : TypeId} {l : List Wr} (h : w.ownsRow H e 3 v n (wrV l)) (hl : n = l.length) {X : Nat} (hX : X ≤ H) : ∃ (A : Option Addr) (c : Nat), v = .slice A n c ∧ SW X n l A c w := by
  obtain ⟨A, c, rfl, h1, h2, h3, h4⟩ := wrs_own h hl
  exact ⟨A, c, rfl, h1, h2, h3, h4, fun a ea => Nat.le_trans hX (h.lt a.block (by rw [ea]; rfl)).1⟩

end Lt
end Go.Proofs.YtjehjbkcdpidbaaGreat

/- A record in its block, and what Check answers; no condition. -/
namespace Go.Proofs.YtjehjbkcdpidbaaGreat
namespace Rc
open Go.RowKit Bk Lt

/-- what a walk over a record keeps: its lists, its cells, what was there -/
structure RcEnv (w W : World) (g : Nat) (A B : Option Addr) (c d : Nat) (r : Rec) : Prop where
  ks : StrsAt W A r.keys
  ws : WrsAt W B r.ws
  cel : Cel W g 49 [.int .i64 r.kind, .int .i64 r.txn, .int .i64 r.ts, .int .i64 r.coord, .string r.key, .string r.text, .bool r.dead, .slice A r.keys.length c, .slice B r.ws.length d]
  bel : Below w.heap.size w W

theorem RcEnv.step {w W W' : World} {g : Nat} {A B : Option Addr} {c d : Nat} {r : Rec} (h : RcEnv w W g A B c d r) (hb : Below W.heap.size W W') : RcEnv w W' g A B c d r :=
  ⟨h.ks.below hb, h.ws.below hb, h.cel.below hb, h.bel.trans (hb.mono h.bel.size)⟩

theorem RcEnv.start {w : World} {A B : Option Addr} {c d : Nat} {r : Rec} (ha : StrsAt w A r.keys) (hb : WrsAt w B r.ws) :
    RcEnv w (w.alloc (.cells #[.int .i64 r.kind, .int .i64 r.txn, .int .i64 r.ts, .int .i64 r.coord, .string r.key, .string r.text, .bool r.dead, .slice A r.keys.length c, .slice B r.ws.length d] 49)) w.heap.size A B c d r :=
  ⟨ha.alloc _, hb.alloc _, (blk1 w _).2, (Below.refl _ w).alloc (Nat.le_refl _) _⟩

open Classical in
/-- what Check answers -/
noncomputable def ckN (r : Rec) : Nat := if RecOk r then 0 else 80

theorem ckN_of {r : Rec} (h : RecOk r) : ckN r = 0 := by unfold ckN; rw [if_pos h]
theorem ckN_not {r : Rec} (h : ¬ RecOk r) : ckN r = 80 := by unfold ckN; rw [if_neg h]
theorem ckN_ok {r : Rec} (h : headOk r) (h2 : kindOk r) : ckN r = 0 := ckN_of ⟨h, h2⟩
theorem ckN_bad {r : Rec} (h : ¬ kindOk r) : ckN r = 80 := ckN_not (fun hh => h hh.2)
theorem ckN_head {r : Rec} (h : ¬ headOk r) : ckN r = 80 := ckN_not (fun hh => h hh.1)

theorem kind_1 {r : Rec} (h : r.kind = 1) : kindOk r ↔ TextOk r ∧ r.txn ≠ 0 ∧ r.keys.length ≤ 16 ∧ Rises r.keys ∧ WritesOk r.ws := by
  constructor
  · rintro (h2 | h2 | h2 | h2 | h2 | h2 | h2)
    · exact h2.2
    all_goals omega
  · intro h2; exact .inl ⟨h, h2⟩
theorem kind_2 {r : Rec} (h : r.kind = 2) : kindOk r ↔ BareOk r ∧ r.txn ≠ 0 := by
  constructor
  · rintro (h2 | h2 | h2 | h2 | h2 | h2 | h2)
    · omega
    · exact h2.2
    all_goals omega
  · intro h2; exact .inr (.inl ⟨h, h2⟩)
theorem kind_3 {r : Rec} (h : r.kind = 3) : kindOk r ↔ ListsOk r ∧ r.coord = 0 ∧ r.txn = 0 ∧ r.ts ≠ 0 ∧ keyOk r.key ∧ r.text.size ≤ 2052 ∧ (r.dead = false ∨ r.text = ⟨#[]⟩) := by
  constructor
  · rintro (h2 | h2 | h2 | h2 | h2 | h2 | h2)
    · omega
    · omega
    · exact h2.2
    all_goals omega
  · intro h2; exact .inr (.inr (.inl ⟨h, h2⟩))
theorem kind_4 {r : Rec} (h : r.kind = 4) : kindOk r ↔ BareOk r ∧ r.txn = 0 := by
  constructor
  · rintro (h2 | h2 | h2 | h2 | h2 | h2 | h2)
    · omega
    · omega
    · omega
    · exact h2.2
    all_goals omega
  · intro h2; exact .inr (.inr (.inr (.inl ⟨h, h2⟩)))
theorem kind_5 {r : Rec} (h : r.kind = 5) : kindOk r ↔ BareOk r ∧ r.txn ≠ 0 ∧ r.ts ≠ 0 := by
  constructor
  · rintro (h2 | h2 | h2 | h2 | h2 | h2 | h2)
    · omega
    · omega
    · omega
    · omega
    · exact h2.2
    all_goals omega
  · intro h2; exact .inr (.inr (.inr (.inr (.inl ⟨h, h2⟩))))
theorem kind_6 {r : Rec} (h : r.kind = 6) : kindOk r ↔ BareOk r ∧ r.txn ≠ 0 ∧ r.ts = 0 := by
  constructor
  · rintro (h2 | h2 | h2 | h2 | h2 | h2 | h2)
    · omega
    · omega
    · omega
    · omega
    · omega
    · exact h2.2
    · omega
  · intro h2; exact .inr (.inr (.inr (.inr (.inr (.inl ⟨h, h2⟩)))))
theorem kind_7 {r : Rec} (h : r.kind = 7) : kindOk r ↔ BareOk r ∧ r.txn = 0 ∧ r.ts ≠ 0 := by
  constructor
  · rintro (h2 | h2 | h2 | h2 | h2 | h2 | h2)
    · omega
    · omega
    · omega
    · omega
    · omega
    · omega
    · exact h2.2
  · intro h2; exact .inr (.inr (.inr (.inr (.inr (.inr ⟨h, h2⟩)))))
theorem kind_no {r : Rec} (h : r.kind < 1 ∨ 7 < r.kind) : ¬ kindOk r := by
  rintro (h2 | h2 | h2 | h2 | h2 | h2 | h2) <;> omega

/-- a record's lists in the memory, as an argument or a result has them -/
structure RecVal (w : World) (A B : Option Addr) (c d : Nat) (r : Rec) : Prop where
  ks : StrsAt w A r.keys
  ws : WrsAt w B r.ws
  rng : RecRange r c d
  kn : A = none → r.keys = [] ∧ c = 0
  wn : B = none → r.ws = [] ∧ d = 0

theorem RecVal.below {w W : World} {A B : Option Addr} {c d : Nat} {r : Rec} (h : RecVal w A B c d r) (hb : Below w.heap.size w W) : RecVal W A B c d r :=
  ⟨h.ks.below hb, h.ws.below hb, h.rng, h.kn, h.wn⟩

/-- the ranges of one that a pack may say -/
theorem cand_range {ns : List Int} {ts : List ByteArray} (h : Pk.MayBe ns ts) : RecRng (cand ns ts) := by
  obtain ⟨h1, h2, h3, h4⟩ := h
  have rb : reachBytes = 140737488351232 := by unfold reachBytes; rfl
  have hi : ∀ i, -9223372036854775808 ≤ ns.getD i 0 ∧ ns.getD i 0 ≤ 9223372036854775807 := fun i => by
    rw [List.getD_eq_getElem?_getD]
    cases e : ns[i]? with
    | none => simp
    | some z =>
      have hz := h3 z (List.mem_of_getElem? e)
      unfold Pk.numOk at hz
      simp only [Option.getD_some]; omega
  have ht : ∀ t ∈ ts, t.size ≤ reachBytes := fun t ht => by have := h4 t ht; omega
  have hp : ∀ (fs : List Int) (us : List ByteArray), (∀ u ∈ us, u.size ≤ reachBytes) → ∀ x ∈ pairL fs us, x.key.size ≤ reachBytes ∧ x.shard.size ≤ reachBytes := by
    intro fs
    induction fs with
    | nil => intro us _ x hx; simp [pairL] at hx
    | cons f fs ih =>
      intro us hu x hx
      match us, hu, hx with
      | [], _, hx => simp [pairL] at hx
      | [k], _, hx => simp [pairL] at hx
      | k :: s :: r, hu, hx =>
        rcases List.mem_cons.1 hx with rfl | hx
        · exact ⟨hu _ (by simp), hu _ (by simp)⟩
        · exact ih r (fun u hr => hu u (by simp [hr])) x hx
  have hpl : ∀ (fs : List Int) (us : List ByteArray), (pairL fs us).length ≤ fs.length := by
    intro fs
    induction fs with
    | nil => intro us; simp [pairL]
    | cons f fs ih =>
      intro us
      match us with
      | [] => simp [pairL]
      | [k] => simp [pairL]
      | k :: s :: r => rw [pairL, List.length_cons, List.length_cons]; have := ih r; omega
  have hg : ∀ i, (ts.getD i ⟨#[]⟩).size ≤ reachBytes := fun i => by
    rw [List.getD_eq_getElem?_getD]
    cases e : ts[i]? with
    | none => simp only [Option.getD_none]; show (0 : Nat) ≤ _; omega
    | some t => exact ht t (List.mem_of_getElem? e)
  refine ⟨hi 0, hi 1, hi 2, hi 3, hg 0, hg 1, ?_, ?_, ?_, ?_⟩
  · show ((ts.drop 2).take (manyOf ns)).length * 16 ≤ _
    rw [List.length_take, List.length_drop]; omega
  · show (pairL (ns.drop 6) (ts.drop (2 + manyOf ns))).length * 40 ≤ _
    have := hpl (ns.drop 6) (ts.drop (2 + manyOf ns))
    rw [List.length_drop] at this; omega
  · intro t ht2
    exact ht t (List.mem_of_mem_drop (List.mem_of_mem_take ht2))
  · exact hp _ _ (fun u hu => ht u (List.mem_of_mem_drop hu))

theorem RecOk.rng {r : Rec} (h : RecOk r) : RecRng r := by
  obtain ⟨b1, b2, b3, b4, b5, b6, b7, b8⟩ := h.bounds
  obtain ⟨⟨h1, h2, h3, h4⟩, _⟩ := h
  have rb : reachBytes = 140737488351232 := by unfold reachBytes; rfl
  unfold txnOk at h1
  unfold stampOk at h2
  exact ⟨by omega, by omega, by omega, by omega, by omega, by omega, by omega, by omega, fun k hk => by have := b5 k hk; unfold keyOk at this; omega, fun x hx => by have := b6 x hx; unfold keyOk at this; omega⟩

/-- which record bytes are, and what is told -/
noncomputable def decX (s : ByteArray) : Rec × Nat := open Classical in if h : ∃ r, RecOk r ∧ s.data.toList = recL r then (Classical.choose h, 0) else (noRec, 80)

theorem decX_ok {s : ByteArray} {r : Rec} (h : RecOk r) (hs : s.data.toList = recL r) : decX s = (r, 0) := by
  have hx : ∃ r, RecOk r ∧ s.data.toList = recL r := ⟨r, h, hs⟩
  unfold decX
  rw [dif_pos hx]
  have hc := Classical.choose_spec hx
  rw [recL_inj hc.1 h (hc.2.symm.trans hs)]

theorem decX_no {s : ByteArray} (h : NoRec s) : decX s = (noRec, 80) := by
  unfold decX
  rw [dif_neg (fun ⟨r, h1, h2⟩ => h r h1 h2)]

theorem decX_cases (s : ByteArray) : (∃ r, RecOk r ∧ s.data.toList = recL r ∧ decX s = (r, 0)) ∨ (NoRec s ∧ decX s = (noRec, 80)) := by
  by_cases h : ∃ r, RecOk r ∧ s.data.toList = recL r
  · obtain ⟨r, h1, h2⟩ := h
    exact .inl ⟨r, h1, h2, decX_ok h1 h2⟩
  · have hn : NoRec s := fun r h1 h2 => h ⟨r, h1, h2⟩
    exact .inr ⟨hn, decX_no hn⟩

theorem decX_bytes {r : Rec} (h : RecOk r) : decX ⟨(recL r).toArray⟩ = (r, 0) := decX_ok h (by simp)

theorem recL_size {r : Rec} (h : RecOk r) : (⟨(recL r).toArray⟩ : ByteArray).size ≤ 1000000000000000 := by
  have := Pk.bytesL_le h.pack
  show (recL r).toArray.size ≤ _
  rw [List.size_toArray]
  unfold recL
  omega

open Classical in
/-- what Encode answers -/
noncomputable def encV (r : Rec) : Value := if RecOk r then .tuple #[.string ⟨(recL r).toArray⟩, .int .i64 0] else .tuple #[.string ⟨#[]⟩, .int .i64 80]

theorem encV_ok {r : Rec} (h : RecOk r) : encV r = .tuple #[.string ⟨(recL r).toArray⟩, .int .i64 0] := by unfold encV; rw [if_pos h]
theorem encV_bad {r : Rec} (h : ¬ RecOk r) : encV r = .tuple #[.string ⟨#[]⟩, .int .i64 80] := by unfold encV; rw [if_neg h]

theorem encV_form (r : Rec) : ∃ (t : ByteArray) (e : Int), encV r = .tuple #[.string t, .int .i64 e] := by
  unfold encV
  split
  · exact ⟨_, _, rfl⟩
  · exact ⟨_, _, rfl⟩

end Rc
end Go.Proofs.YtjehjbkcdpidbaaGreat

/- Whether letters are the same, and a letter's copy; contracts; no condition but the range. -/
namespace Go.Proofs.YtjehjbkcdpidbaaGreat
namespace Lt
open Go.RowKit Bk

attribute [local go_sem ↓] Go.wp_at_zero Go.wp_at_succ
attribute [local go_sem] floatUpon pick

theorem let_ext {x y : Let} (h0 : x.kind = y.kind) (h1 : x.src = y.src) (h2 : x.dst = y.dst) (h3 : x.txn = y.txn) (h4 : x.ts = y.ts) (h5 : x.code = y.code) (h6 : x.text = y.text) (h7 : x.keys = y.keys) (h8 : x.ws = y.ws) : x = y := by
  obtain ⟨a0, a1, a2, a3, a4, a5, a6, a7, a8⟩ := x
  obtain ⟨b0, b1, b2, b3, b4, b5, b6, b7, b8⟩ := y
  simp only at h0 h1 h2 h3 h4 h5 h6 h7 h8
  subst h0 h1 h2 h3 h4 h5 h6 h7 h8; rfl

noncomputable def sameB (x y : Let) : Bool := @decide (x = y) (Classical.propDecidable _)
theorem sameB_true {x y : Let} (h : x = y) : sameB x y = true := by unfold sameB; exact @decide_eq_true _ (Classical.propDecidable _) h
theorem sameB_false {x y : Let} (h : ¬ x = y) : sameB x y = false := by unfold sameB; exact @decide_eq_false _ (Classical.propDecidable _) h
theorem sameB_self (x : Let) : sameB x x = true := sameB_true rfl

/-- what the comparison says, part by part -/
theorem sameB_parts (x y : Let) : sameB x y = (decide (x.kind = y.kind) && (decide (x.src = y.src) && (decide (x.dst = y.dst) && (decide (x.txn = y.txn) && (decide (x.ts = y.ts) && (decide (x.code = y.code) && (decide (x.text = y.text) && (decide (x.keys = y.keys) && decide (x.ws = y.ws))))))))) := by
  by_cases h : x = y
  · subst h; rw [sameB_self]; simp
  · rw [sameB_false h]
    symm
    rw [Bool.eq_false_iff]
    intro hh
    simp only [Bool.and_eq_true, decide_eq_true_eq] at hh
    obtain ⟨h0, h1, h2, h3, h4, h5, h6, h7, h8⟩ := hh
    exact h (let_ext h0 h1 h2 h3 h4 h5 h6 h7 h8)

theorem eql_dec (s t : ByteArray) : (s.toList == t.toList) = decide (s = t) := by
  by_cases h : s = t
  · subst h; simp
  · rw [text_ne h, decide_eq_false h]

end Lt
end Go.Proofs.YtjehjbkcdpidbaaGreat
