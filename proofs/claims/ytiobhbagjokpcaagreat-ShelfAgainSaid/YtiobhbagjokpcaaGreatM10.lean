/- Parts of the proof, joined: BkAppend, LtBytes, LtCheck, LtEnc, LtPairs, LtCand, LtShape; their conditions stand with each. -/
import Derived.Maps.AppendAt
import Derived.OneCell
import Derived.Test.YtiobhbagjokpcaaGreatM7
import Derived.Test.YtiobhbagjokpcaaGreatM8
import Derived.Test.YtiobhbagjokpcaaGreatM9

/- append onto an empty literal: a row of its own, no old block written; no condition but the range. -/
namespace Go.Proofs.YtiobhbagjokpcaaGreat
namespace Bk
open Go.RowKit

theorem setRow_same {w : World} {g : Nat} {cs : Array Value} {t : TypeId} {m : Nat × Nat} (h : w.heap[g]? = some (.cells cs t m)) : Below w.heap.size w (w.setRow g cs) :=
  ⟨rfl, rfl, rfl, by simp, fun k hk => by
    by_cases e : k = g
    · subst e; rw [setRow_heap w k cs cs t m h, h]
    · exact setRow_other w g k _ e⟩

theorem run_append_empty {P : Program} (w : World) (base : Nat) (t ty e : TypeId) (i : TypeInfo) (z : Value) (bytes : Nat) (ht : P.underlying t = some (.slice e)) (hi : P.info? e = some i) (hz : i.zero = some z)
    (hsize : i.size = 1) (hby : i.bytes = bytes) (hzs : z.cells.size = 1) (g : Nat) (hg : w.heap[g]? = some (.cells #[] e (0, 0))) (hbg : base ≤ g)
    (A : Option Addr) (m c : Nat) (news : List Value) (hl : news.length = m) (hA : A = none → m = 0 ∧ c = 0) (hnews : ∀ ad, A = some ad → ∀ j u, news[j]? = some u → w.cell? (ad.add j) = some u) (h1 : ∀ u ∈ news, u.oneCell' = true)
    (h63 : m ≤ maxLen) (hbytes : m * bytes ≤ 140737488355328) :
    ∃ v' w', (Builtin.append_ #[t, t] ty #[.slice (some ⟨g, 0, none⟩) 0 0, .slice A m c]).run P w = .ok v' w' ∧ w'.ownsRow base e 1 v' m news ∧ Below w.heap.size w w' ∧ (∃ g' cap, v' = .slice (some ⟨g', 0, none⟩) m cap ∧ (m = 0 → cap = 0)) := by
  have hlt : g < w.heap.size := (Array.getElem?_eq_some_iff.1 hg).1
  have hown : w.ownsRow base e 1 (.slice (some ⟨g, 0, none⟩) 0 0) 0 [] := ⟨rfl, .inr ⟨g, 0, #[], rfl, hbg, hg, Nat.le_refl _, Nat.zero_le _, rfl, rfl⟩⟩
  cases A with
  | none =>
    obtain ⟨rfl, rfl⟩ := hA rfl
    obtain rfl : news = [] := List.eq_nil_of_length_eq_zero hl
    exact ⟨_, _, run_append_owned_none (P := P) w base t ty e i 1 ht hi _ _ _ hown, hown, Below.refl _ _, g, 0, rfl, fun _ => rfl⟩
  | some ad =>
    by_cases hm : m = 0
    · subst hm
      obtain rfl : news = [] := List.eq_nil_of_length_eq_zero hl
      have hr := run_append_room (P := P) w t ty e i ht hi g 0 0 #[] hg ad 0 c [] (by simp) (fun j u h => by simp at h) (fun u h => by simp at h) (by omega) (by simp)
      have he : (List.take (0 * i.size) (#[] : Array Value).toList ++ ([] : List Value) ++ List.drop (0 * i.size + ([] : List Value).length) (#[] : Array Value).toList).toArray = (#[] : Array Value) := by simp
      rw [he] at hr
      refine ⟨_, _, hr, ?_, ?_, g, 0, rfl, fun _ => rfl⟩
      · refine ⟨rfl, .inr ⟨g, 0, #[], rfl, hbg, ?_, Nat.le_refl _, Nat.zero_le _, rfl, rfl⟩⟩
        exact setRow_heap w g _ _ e _ hg
      · exact setRow_same hg
    · have hb2 : (0 + m) * bytes ≤ 140737488355328 := by rw [Nat.zero_add]; exact hbytes
      obtain ⟨v', w', hr, h2, h3, _, _⟩ := run_append_own_at (P := P) w base t ty e i z 1 bytes ht hi hz hsize hby hzs (by decide) _ 0 [] hown ad m c news (by rw [hl, Nat.mul_one]) (hnews ad rfl) h1 (by omega) hb2 (by omega)
      have hr2 := run_append_grow (P := P) w t ty e i z ht hi hz ⟨g, 0, none⟩ 0 0 [] (by simp) (fun j v h => by simp at h) ad m c news (by rw [hl, hsize, Nat.mul_one]) (hnews ad rfl) (by omega) (by unfold maxLen at h63; omega) (growslice_fits (by omega) (by rw [hby]; exact hb2))
      rw [hr] at hr2
      simp only [Result.ok.injEq] at hr2
      obtain ⟨e1, e2⟩ := hr2
      rw [Nat.zero_add, List.nil_append] at h2
      refine ⟨v', w', hr, h2, ?_, w.heap.size, _, by rw [e1, Nat.zero_add], fun h => absurd h hm⟩
      rw [e2]
      exact (Below.refl _ w).drew.alloc (by simp) _

/-- append of a row that may be nil onto an owned row -/
theorem run_append_opt {P : Program} (w : World) (base : Nat) (t ty e : TypeId) (i : TypeInfo) (z : Value) (bytes : Nat) (ht : P.underlying t = some (.slice e)) (hi : P.info? e = some i) (hz : i.zero = some z)
    (hsize : i.size = 1) (hby : i.bytes = bytes) (hzs : z.cells.size = 1) (v : Value) (n : Nat) (xs : List Value) (hown : w.ownsRow base e 1 v n xs)
    (A : Option Addr) (m c : Nat) (news : List Value) (hl : news.length = m) (hA : A = none → m = 0 ∧ c = 0) (hnews : ∀ ad, A = some ad → ∀ j u, news[j]? = some u → w.cell? (ad.add j) = some u) (h1 : ∀ u ∈ news, u.oneCell' = true)
    (h63 : n + m ≤ maxLen) (hbytes : (n + m) * bytes ≤ 140737488355328) (hbase : base ≤ w.heap.size) :
    ∃ v' w', (Builtin.append_ #[t, t] ty #[v, .slice A m c]).run P w = .ok v' w' ∧ w'.ownsRow base e 1 v' (n + m) (xs ++ news) ∧ w.grownBy w' v.ownBlock ∧ (v'.ownBlock = v.ownBlock ∨ v'.ownBlock = some w.heap.size) := by
  cases A with
  | none =>
    obtain ⟨rfl, rfl⟩ := hA rfl
    obtain rfl : news = [] := List.eq_nil_of_length_eq_zero hl
    exact ⟨v, w, run_append_owned_none (P := P) w base t ty e i 1 ht hi _ _ _ hown, by rw [List.append_nil]; exact hown, ⟨rfl, rfl, rfl, Nat.le_refl _, fun _ _ _ => rfl⟩, .inl rfl⟩
  | some ad =>
    obtain ⟨v', w', hr, h2, h3, _, h5⟩ := run_append_own_at (P := P) w base t ty e i z 1 bytes ht hi hz hsize hby hzs (by omega) v n xs hown ad m c news (by omega) (hnews ad rfl) h1 h63 hbytes hbase
    exact ⟨v', w', hr, h2, h3, h5⟩

theorem wpList_append_opt {P : Program} {w : World} {ops : Array Oper} {rest : List Oper} {o : Oper} {a : Act} {Q : Exit → Act → World → Prop} (hgd : o.guard = none) (s x : Operand) (t : TypeId)
    (ho : o.op = .call { callee := .builtin .append, args := #[s, x], argTypes := #[t, t] })
    (base : Nat) (e : TypeId) (i : TypeInfo) (z : Value) (bytes : Nat) (ht : P.underlying t = some (.slice e)) (hi : P.info? e = some i) (hz : i.zero = some z)
    (hsize : i.size = 1) (hby : i.bytes = bytes) (hzs : z.cells.size = 1) (v : Value) (n : Nat) (xs : List Value) (hs : a.eval s = v) (hown : w.ownsRow base e 1 v n xs)
    (A : Option Addr) (m c : Nat) (news : List Value) (hx : a.eval x = .slice A m c) (hl : news.length = m) (hA : A = none → m = 0 ∧ c = 0) (hnews : ∀ ad, A = some ad → ∀ j u, news[j]? = some u → w.cell? (ad.add j) = some u) (h1 : ∀ u ∈ news, u.oneCell' = true)
    (h63 : n + m ≤ maxLen) (hbytes : (n + m) * bytes ≤ 140737488355328) (hbase : base ≤ w.heap.size)
    (h : ∀ v' w', w'.ownsRow base e 1 v' (n + m) (xs ++ news) → w.grownBy w' v.ownBlock → (v'.ownBlock = v.ownBlock ∨ v'.ownBlock = some w.heap.size) → wpList P ops Q rest (a.put o.dst v') w') :
    wpList P ops Q (o :: rest) a w := by
  refine wpList_plain hgd fun K hK => ?_
  obtain ⟨v', w', hr, h2, h3, h5⟩ := run_append_opt (P := P) w base t o.type e i z bytes ht hi hz hsize hby hzs v n xs hown A m c news hl hA hnews h1 h63 hbytes hbase
  unfold Oper.wp execOp
  simp only [ho, resolve, invoke, builtin, Sem.run_bind, Sem.run_pure, Result.andThen_ok, List.map_toArray, List.map_cons, List.map_nil, hs, hx, hr]
  exact hK _ _ (h v' w' h2 h3 h5)

end Bk
end Go.Proofs.YtiobhbagjokpcaaGreat

/- What the document's own Bytes and Encode of letters answer; contracts; no condition but the range. -/
namespace Go.Proofs.YtiobhbagjokpcaaGreat
namespace Lt
open Go.RowKit Bk

attribute [local go_sem ↓] Go.wp_at_zero Go.wp_at_succ
attribute [local go_sem] floatUpon pick

theorem own_ne {W : World} {v v' : Value} {g : Nat} (hn : v.ownBlock ≠ some g) (hg : g < W.heap.size) (hat : v'.ownBlock = v.ownBlock ∨ v'.ownBlock = some W.heap.size) : v'.ownBlock ≠ some g := by
  rcases hat with h | h
  · rw [h]; exact hn
  · rw [h]; intro e; simp only [Option.some.injEq] at e; omega

def numsP (l : Let) (j : Nat) : List Int := [l.kind, l.src, l.dst, l.txn, l.ts, l.code, (l.keys.length : Int)] ++ (l.ws.take j).map fun x => if x.dead then 1 else 0
def textsP (l : Let) (j : Nat) : List ByteArray := l.text :: (l.keys ++ (l.ws.take j).flatMap fun x => [x.key, x.shard])

theorem numsP_all (l : Let) : numsP l l.ws.length = numsOf l := by unfold numsP numsOf; rw [List.take_length]
theorem textsP_all (l : Let) : textsP l l.ws.length = textsOf l := by unfold textsP textsOf; rw [List.take_length]
theorem numsP_succ {l : Let} {j : Nat} (h : j < l.ws.length) : numsP l (j + 1) = numsP l j ++ [if l.ws[j].dead then 1 else 0] := by
  unfold numsP
  rw [List.take_add_one, List.getElem?_eq_getElem h, List.map_append]
  simp
theorem textsP_succ {l : Let} {j : Nat} (h : j < l.ws.length) : textsP l (j + 1) = (textsP l j ++ [l.ws[j].key]) ++ [l.ws[j].shard] := by
  unfold textsP
  rw [List.take_add_one, List.getElem?_eq_getElem h, List.flatMap_append]
  simp
theorem numsP_len (l : Let) (j : Nat) : (numsP l j).length ≤ 7 + j := by
  unfold numsP
  rw [List.length_append, List.length_map, List.length_take]
  show 7 + _ ≤ _
  omega
theorem flat_len (ws : List Wr) : (ws.flatMap fun x => [x.key, x.shard]).length = 2 * ws.length := by
  induction ws with
  | nil => rfl
  | cons x r ih => simp only [List.flatMap_cons, List.length_append, List.length_cons, List.length_nil]; omega
theorem textsP_len (l : Let) (j : Nat) : (textsP l j).length ≤ 1 + l.keys.length + 2 * j := by
  unfold textsP
  rw [List.length_cons, List.length_append, flat_len, List.length_take]
  omega

end Lt
end Go.Proofs.YtiobhbagjokpcaaGreat

/- What the document's own Check of letters answers; contract; no condition but the range. -/
namespace Go.Proofs.YtiobhbagjokpcaaGreat
namespace Lt
open Go.RowKit Bk

attribute [local go_sem ↓] Go.wp_at_zero Go.wp_at_succ
attribute [local go_sem] floatUpon pick

theorem bool_of {p : Prop} : ∃ b : Bool, (b = true ↔ p) := ⟨@decide p (Classical.propDecidable _), by rw [@decide_eq_true_eq _ (Classical.propDecidable _)]⟩

end Lt
end Go.Proofs.YtiobhbagjokpcaaGreat

/- What the document's own Encode of letters answers; contract; no condition but the range. -/
namespace Go.Proofs.YtiobhbagjokpcaaGreat
namespace Lt
open Go.RowKit Bk

attribute [local go_sem ↓] Go.wp_at_zero Go.wp_at_succ
attribute [local go_sem] floatUpon pick

open Classical in
/-- what Encode answers -/
noncomputable def encV (l : Let) : Value := if LetOk l then .tuple #[.string ⟨(letL l).toArray⟩, .int .i64 0] else .tuple #[.string ⟨#[]⟩, .int .i64 70]

theorem encV_ok {l : Let} (h : LetOk l) : encV l = .tuple #[.string ⟨(letL l).toArray⟩, .int .i64 0] := by unfold encV; rw [if_pos h]
theorem encV_bad {l : Let} (h : ¬ LetOk l) : encV l = .tuple #[.string ⟨#[]⟩, .int .i64 70] := by unfold encV; rw [if_neg h]

theorem ckN_of {l : Let} (h : LetOk l) : ckN l = 0 := ckN_zero.2 h
theorem ckN_not {l : Let} (h : ¬ LetOk l) : ckN l = 70 := by unfold ckN; rw [if_neg h]

end Lt
end Go.Proofs.YtiobhbagjokpcaaGreat

/- What the document's own Pairs answers: writes of flags and texts; contract; no condition but the range. -/
namespace Go.Proofs.YtiobhbagjokpcaaGreat
namespace Lt
open Go.RowKit Bk

attribute [local go_sem ↓] Go.wp_at_zero Go.wp_at_succ
attribute [local go_sem] floatUpon pick

theorem Tryz.infoWrite : (Tryz.prog.info? 45).map (fun i => (i.zero, i.size, i.bytes)) = some (some (.agg #[.string ⟨#[]⟩, .string ⟨#[]⟩, .bool false]), 3, 40) := by kernel_rfl

/-- a row's cells -/
def wrV (l : List Wr) : List Value := l.flatMap fun x => [.string x.key, .string x.shard, .bool x.dead]

theorem wrV_len (l : List Wr) : (wrV l).length = l.length * 3 := by
  induction l with
  | nil => rfl
  | cons x r ih =>
    show ([_, _, _] ++ wrV r).length = _
    rw [List.length_append, ih, List.length_cons]
    simp; omega

theorem wrV_snoc (l : List Wr) (x : Wr) : wrV (l ++ [x]) = wrV l ++ [.string x.key, .string x.shard, .bool x.dead] := by
  unfold wrV
  rw [List.flatMap_append]; rfl

theorem wrV_at : ∀ (l : List Wr) (i : Nat) (h : i < l.length), (wrV l)[i * 3]? = some (.string l[i].key) ∧ (wrV l)[i * 3 + 1]? = some (.string l[i].shard) ∧ (wrV l)[i * 3 + 2]? = some (.bool l[i].dead)
  | [], _, h => absurd h (by simp)
  | x :: r, 0, _ => ⟨rfl, rfl, rfl⟩
  | x :: r, i + 1, h => by
    have ih := wrV_at r i (by simpa using h)
    have e : wrV (x :: r) = .string x.key :: .string x.shard :: .bool x.dead :: wrV r := rfl
    rw [e, show (i + 1) * 3 = i * 3 + 3 by omega]
    exact ih

theorem wrs_own {w : World} {H n : Nat} {v : Value} {e : TypeId} {l : List Wr} (h : w.ownsRow H e 3 v n (wrV l)) (hl : n = l.length) : ∃ (A : Option Addr) (c : Nat), v = .slice A n c ∧ WrsAt w A l ∧ n ≤ c ∧ c ≤ maxLen ∧ (A = none → c = 0) := by
  rcases h.2 with ⟨rfl, rfl⟩ | ⟨g, cap, cur, rfl, _, hg, h1, h2, hsz, htk⟩
  · exact ⟨none, 0, rfl, fun hp => by omega, Nat.le_refl _, Nat.zero_le _, fun _ => rfl⟩
  · refine ⟨_, cap, rfl, fun _ => ⟨_, rfl, (Array.getElem?_eq_some_iff.1 hg).1, fun i hi => ?_⟩, h1, h2, fun e => by cases e⟩
    obtain ⟨x0, x1, x2⟩ := wrV_at l i hi
    have hlen : (wrV l).length = n * 3 := by rw [wrV_len, hl]
    have hc : ∀ j u, (wrV l)[j]? = some u → w.cell? ((⟨g, 0, none⟩ : Addr).add j) = some u := fun j u hu => by
      rw [addr_head]
      refine blk_cell hg ?_
      have hj := (List.getElem?_eq_some_iff.1 hu).1
      rw [← htk, List.getElem?_take_of_lt (by omega)] at hu
      rw [← Array.getElem?_toList]; exact hu
    exact ⟨hc _ _ x0, hc _ _ x1, hc _ _ x2⟩

/-- the writes of flags and texts -/
def pairL : List Int → List ByteArray → List Wr
  | f :: fs, k :: s :: ts => ⟨k, s, f == 1⟩ :: pairL fs ts
  | _, _ => []

theorem pairL_len : ∀ (fs : List Int) (ts : List ByteArray), ts.length = 2 * fs.length → (pairL fs ts).length = fs.length
  | [], _, _ => by simp [pairL]
  | f :: fs, [], h => by simp at h
  | f :: fs, [k], h => by simp at h; omega
  | f :: fs, k :: s :: ts, h => by
    rw [pairL, List.length_cons, List.length_cons, pairL_len fs ts (by simp at h; omega)]

theorem pairL_at : ∀ (fs : List Int) (ts : List ByteArray) (_h : ts.length = 2 * fs.length) (i : Nat) (hi : i < fs.length) (hp : i < (pairL fs ts).length) (h1 : 2 * i < ts.length) (h2 : 2 * i + 1 < ts.length), (pairL fs ts)[i] = ⟨ts[2 * i], ts[2 * i + 1], fs[i] == 1⟩
  | [], _, _, _, hi, _, _, _ => absurd hi (by simp)
  | f :: fs, [], h, _, _, _, _, _ => by simp at h
  | f :: fs, [k], h, _, _, _, _, _ => by simp at h; omega
  | f :: fs, k :: s :: ts, h, 0, _, _, _, _ => rfl
  | f :: fs, k :: s :: ts, h, i + 1, hi, hp, h1, h2 => by
    have ih := pairL_at fs ts (by simp at h; omega) i (by simpa using hi) (by simpa [pairL] using hp) (by simp at h1; omega) (by simp at h2; omega)
    simp only [pairL, List.getElem_cons_succ, ih]
    congr 1 <;> simp [show 2 * (i + 1) = 2 * i + 1 + 1 by omega]

theorem new_row {w : World} {g : Nat} {t : TypeId} {xs : List Value} (h : w.heap[g]? = some (.cells xs.toArray t (0, 0))) : ∀ j v, xs[j]? = some v → w.cell? ((⟨g, 0, none⟩ : Addr).add j) = some v := fun j v hv => by
  rw [addr_head]
  exact blk_cell h (by rw [List.getElem?_toArray]; exact hv)

/-- what Pairs answers -/
def PairsAns (fs : List Int) (ts : List ByteArray) (w : World) : Ending → World → Prop := fun e w' =>
  (ts.length = 2 * fs.length ∧ ∃ v, e = .returned (.tuple #[v, .bool true]) ∧ w'.ownsRow w.heap.size 45 3 v fs.length (wrV (pairL fs ts)) ∧ Below w.heap.size w w') ∨
  (ts.length ≠ 2 * fs.length ∧ e = .returned (.tuple #[.slice none 0 0, .bool false]) ∧ w' = w)

end Lt
end Go.Proofs.YtiobhbagjokpcaaGreat

/- Which letter numbers and texts say, if they say one; no condition. -/
namespace Go.Proofs.YtiobhbagjokpcaaGreat
namespace Lt
open Go.RowKit Bk

def manyOf (ns : List Int) : Nat := (ns.getD 6 0).toNat

/-- the one that they may say -/
def cand (ns : List Int) (ts : List ByteArray) : Let :=
  ⟨ns.getD 0 0, ns.getD 1 0, ns.getD 2 0, ns.getD 3 0, ns.getD 4 0, ns.getD 5 0, ts.getD 0 ⟨#[]⟩, (ts.drop 1).take (manyOf ns), pairL (ns.drop 7) (ts.drop (1 + manyOf ns))⟩

theorem pairL_of (ws : List Wr) : pairL (ws.map fun x => if x.dead then 1 else 0) (ws.flatMap fun x => [x.key, x.shard]) = ws := by
  induction ws with
  | nil => rfl
  | cons x r ih =>
    show (⟨x.key, x.shard, (if x.dead then (1 : Int) else 0) == 1⟩ : Wr) :: pairL (r.map fun x => if x.dead then 1 else 0) (r.flatMap fun x => [x.key, x.shard]) = _
    rw [ih]
    obtain ⟨k, s, d⟩ := x
    cases d <;> rfl

theorem cand_of (l : Let) : cand (numsOf l) (textsOf l) = l := by
  obtain ⟨kd, sr, ds, tn, ts, co, tt, ks, ws⟩ := l
  have hm : manyOf (numsOf ⟨kd, sr, ds, tn, ts, co, tt, ks, ws⟩) = ks.length := by
    simp [manyOf, numsOf]
  unfold cand
  rw [hm]
  have e1 : (textsOf ⟨kd, sr, ds, tn, ts, co, tt, ks, ws⟩).drop 1 = ks ++ ws.flatMap fun x => [x.key, x.shard] := rfl
  have e2 : (textsOf ⟨kd, sr, ds, tn, ts, co, tt, ks, ws⟩).drop (1 + ks.length) = ws.flatMap fun x => [x.key, x.shard] := by
    rw [← List.drop_drop, e1, List.drop_left]
  have e3 : (numsOf ⟨kd, sr, ds, tn, ts, co, tt, ks, ws⟩).drop 7 = ws.map fun x => if x.dead then 1 else 0 := rfl
  rw [e1, e2, e3, List.take_left, pairL_of]
  rfl

theorem nums_len (l : Let) : (numsOf l).length = 7 + l.ws.length := by
  unfold numsOf; rw [List.length_append, List.length_map]; rfl
theorem texts_len (l : Let) : (textsOf l).length = 1 + l.keys.length + 2 * l.ws.length := by
  unfold textsOf; rw [List.length_cons, List.length_append, flat_len]; omega
theorem many_of (l : Let) : manyOf (numsOf l) = l.keys.length := by simp [manyOf, numsOf]
theorem six_of (l : Let) : (numsOf l).getD 6 0 = (l.keys.length : Int) := by simp [numsOf]

/-- bytes that are read so are no other letter's -/
theorem says_nums {s : List UInt8} {ns : List Int} {ts : List ByteArray} {l : Let} (h : Pk.decL s = .ok (ns, ts)) (hl : LetOk l) (hs : s = letL l) : ns = numsOf l ∧ ts = textsOf l := by
  rw [hs] at h
  unfold letL at h
  rw [Pk.decL_back hl.pack] at h
  simp only [Except.ok.injEq, Prod.mk.injEq] at h
  exact ⟨h.1.symm, h.2.symm⟩

def noLet : Let := ⟨0, 0, 0, 0, 0, 0, ⟨#[]⟩, [], []⟩

/-- no letter's bytes -/
def NoLet (s : ByteArray) : Prop := ∀ l, LetOk l → s.data.toList ≠ letL l

/-- what the document's Decode answers -/
def LetDec (s : ByteArray) (w : World) : Ending → World → Prop := fun e w' =>
  (∃ (l : Let) (A B : Option Addr) (c d : Nat), LetOk l ∧ s.data.toList = letL l ∧ e = .returned (.tuple #[letV l A B c d, .int .i64 0]) ∧ StrsAt w' A l.keys ∧ WrsAt w' B l.ws ∧ Below w.heap.size w w') ∨
  (NoLet s ∧ e = .returned (.tuple #[letV noLet none none 0 0, .int .i64 70]) ∧ Below w.heap.size w w')

theorem NoLet.err {s : ByteArray} {e : Pk.Er} (h : Pk.decL s.data.toList = .error e) : NoLet s := fun l hl hs => by
  rw [hs] at h
  unfold letL at h
  rw [Pk.decL_back hl.pack] at h
  cases h

theorem NoLet.of {s : ByteArray} {ns : List Int} {ts : List ByteArray} (h : Pk.decL s.data.toList = .ok (ns, ts)) (hn : ∀ l, LetOk l → ns = numsOf l → ts = textsOf l → s.data.toList = letL l → False) : NoLet s := fun l hl hs => by
  obtain ⟨e1, e2⟩ := says_nums h hl hs
  exact hn l hl e1 e2 hs

/-- the ranges of one that a pack may say -/
theorem cand_range {ns : List Int} {ts : List ByteArray} (h : Pk.MayBe ns ts) : LetRng (cand ns ts) := by
  obtain ⟨h1, h2, h3, h4⟩ := h
  have rb : reachBytes = 140737488351232 := by unfold reachBytes; rfl
  have hi : ∀ i, -9223372036854775808 ≤ ns.getD i 0 ∧ ns.getD i 0 ≤ 9223372036854775807 := fun i => by
    rw [List.getD_eq_getElem?_getD]
    cases e : ns[i]? with
    | none => simp
    | some z =>
      have hz := h3 z (List.mem_of_getElem? e)
      unfold Pk.numOk at hz
      simp only [Option.getD_some]; omega
  have ht : ∀ t ∈ ts, t.size ≤ reachBytes := fun t ht => by have := h4 t ht; omega
  have hp : ∀ (fs : List Int) (us : List ByteArray), (∀ u ∈ us, u.size ≤ reachBytes) → ∀ x ∈ pairL fs us, x.key.size ≤ reachBytes ∧ x.shard.size ≤ reachBytes := by
    intro fs
    induction fs with
    | nil => intro us _ x hx; simp [pairL] at hx
    | cons f fs ih =>
      intro us hu x hx
      match us, hu, hx with
      | [], _, hx => simp [pairL] at hx
      | [k], _, hx => simp [pairL] at hx
      | k :: s :: r, hu, hx =>
        rcases List.mem_cons.1 hx with rfl | hx
        · exact ⟨hu _ (by simp), hu _ (by simp)⟩
        · exact ih r (fun u hr => hu u (by simp [hr])) x hx
  have hpl : ∀ (fs : List Int) (us : List ByteArray), (pairL fs us).length ≤ fs.length := by
    intro fs
    induction fs with
    | nil => intro us; simp [pairL]
    | cons f fs ih =>
      intro us
      match us with
      | [] => simp [pairL]
      | [k] => simp [pairL]
      | k :: s :: r => rw [pairL, List.length_cons, List.length_cons]; have := ih r; omega
  refine ⟨hi 0, hi 1, hi 2, hi 3, hi 4, hi 5, ?_, ?_, ?_, ?_, ?_⟩
  · show (ts.getD 0 ⟨#[]⟩).size ≤ _
    rw [List.getD_eq_getElem?_getD]
    cases e : ts[0]? with
    | none => simp only [Option.getD_none]; show (0 : Nat) ≤ _; omega
    | some t => exact ht t (List.mem_of_getElem? e)
  · show ((ts.drop 1).take (manyOf ns)).length * 16 ≤ _
    rw [List.length_take, List.length_drop]; omega
  · show (pairL (ns.drop 7) (ts.drop (1 + manyOf ns))).length * 16 ≤ _
    have := hpl (ns.drop 7) (ts.drop (1 + manyOf ns))
    rw [List.length_drop] at this; omega
  · intro t ht2
    exact ht t (List.mem_of_mem_drop (List.mem_of_mem_take ht2))
  · exact hp _ _ (fun u hu => ht u (List.mem_of_mem_drop hu))

end Lt
end Go.Proofs.YtiobhbagjokpcaaGreat

/- Which numbers and texts say a letter; no condition. -/
namespace Go.Proofs.YtiobhbagjokpcaaGreat
namespace Lt
open Go.RowKit Bk

def Shape (ns : List Int) (ts : List ByteArray) : Prop := 7 ≤ ns.length ∧ 0 ≤ ns.getD 6 0 ∧ (ts.length : Int) = 1 + ns.getD 6 0 + 2 * ((ns.length - 7 : Nat) : Int) ∧ ∀ f ∈ ns.drop 7, f = 0 ∨ f = 1

theorem shape_of (l : Let) : Shape (numsOf l) (textsOf l) := by
  refine ⟨by rw [nums_len]; omega, by rw [six_of]; omega, by rw [six_of, nums_len, texts_len]; omega, fun f hf => ?_⟩
  have e3 : (numsOf l).drop 7 = l.ws.map fun x => if x.dead then 1 else 0 := rfl
  rw [e3] at hf
  obtain ⟨x, _, rfl⟩ := List.mem_map.1 hf
  split
  · exact .inr rfl
  · exact .inl rfl

theorem pair_flags : ∀ (fs : List Int) (us : List ByteArray), us.length = 2 * fs.length → (∀ f ∈ fs, f = 0 ∨ f = 1) → ((pairL fs us).map fun x => if x.dead then (1 : Int) else 0) = fs ∧ ((pairL fs us).flatMap fun x => [x.key, x.shard]) = us
  | [], [], _, _ => ⟨rfl, rfl⟩
  | [], _ :: _, h, _ => by simp at h
  | f :: fs, [], h, _ => by simp at h
  | f :: fs, [k], h, _ => by simp at h; omega
  | f :: fs, k :: s :: r, h, h1 => by
    obtain ⟨i1, i2⟩ := pair_flags fs r (by simp at h; omega) (fun g hg => h1 g (by simp [hg]))
    have hf : (if (f == 1) = true then (1 : Int) else 0) = f := by
      rcases h1 f (by simp) with rfl | rfl <;> rfl
    constructor
    · show (if (f == 1) = true then (1 : Int) else 0) :: ((pairL fs r).map _) = _
      rw [hf, i1]
    · show k :: s :: ((pairL fs r).flatMap _) = _
      rw [i2]

theorem seven {ns : List Int} (h : 7 ≤ ns.length) : ns = [ns.getD 0 0, ns.getD 1 0, ns.getD 2 0, ns.getD 3 0, ns.getD 4 0, ns.getD 5 0, ns.getD 6 0] ++ ns.drop 7 := by
  match ns, h with
  | a :: b :: c :: d :: e :: f :: g :: r, _ => rfl

theorem shape_cand {ns : List Int} {ts : List ByteArray} (h : Shape ns ts) : numsOf (cand ns ts) = ns ∧ textsOf (cand ns ts) = ts := by
  obtain ⟨h1, h2, h3, h4⟩ := h
  have hm : ((manyOf ns : Nat) : Int) = ns.getD 6 0 := by unfold manyOf; omega
  have hp := pair_flags (ns.drop 7) (ts.drop (1 + manyOf ns)) (by rw [List.length_drop, List.length_drop]; omega) h4
  have hkl : ((ts.drop 1).take (manyOf ns)).length = manyOf ns := by rw [List.length_take, List.length_drop]; omega
  constructor
  · show [ns.getD 0 0, ns.getD 1 0, ns.getD 2 0, ns.getD 3 0, ns.getD 4 0, ns.getD 5 0, (((ts.drop 1).take (manyOf ns)).length : Int)] ++ (pairL (ns.drop 7) (ts.drop (1 + manyOf ns))).map _ = ns
    rw [hp.1, hkl, hm]
    exact (seven h1).symm
  · show ts.getD 0 ⟨#[]⟩ :: ((ts.drop 1).take (manyOf ns) ++ (pairL (ns.drop 7) (ts.drop (1 + manyOf ns))).flatMap _) = ts
    rw [hp.2, show ts.drop (1 + manyOf ns) = (ts.drop 1).drop (manyOf ns) by rw [List.drop_drop], List.take_append_drop]
    match ts, h3 with
    | [], h3 => rw [List.length_nil] at h3; omega
    | t :: r, _ => rfl

theorem shape_keys {ns : List Int} {ts : List ByteArray} (h : Shape ns ts) : (cand ns ts).keys.length = manyOf ns ∧ (cand ns ts).ws.length = ns.length - 7 := by
  obtain ⟨h1, h2, h3, h4⟩ := h
  have hm : ((manyOf ns : Nat) : Int) = ns.getD 6 0 := by unfold manyOf; omega
  constructor
  · show ((ts.drop 1).take (manyOf ns)).length = _
    rw [List.length_take, List.length_drop]; omega
  · show (pairL _ _).length = _
    rw [pairL_len _ _ (by rw [List.length_drop, List.length_drop]; omega), List.length_drop]

/-- bytes whose numbers and texts have not that shape are no letter's -/
theorem NoLet.shape {s : ByteArray} {ns : List Int} {ts : List ByteArray} (h : Pk.decL s.data.toList = .ok (ns, ts)) (hn : ¬ Shape ns ts) : NoLet s := NoLet.of h fun l _ e1 e2 _ => hn (by rw [e1, e2]; exact shape_of l)

theorem NoLet.bad {s : ByteArray} {ns : List Int} {ts : List ByteArray} (h : Pk.decL s.data.toList = .ok (ns, ts)) (hn : ¬ LetOk (cand ns ts)) : NoLet s := NoLet.of h fun l hl e1 e2 _ => hn (by rw [e1, e2, cand_of]; exact hl)

theorem cand_bytes {s : ByteArray} {ns : List Int} {ts : List ByteArray} (h : Pk.decL s.data.toList = .ok (ns, ts)) (hs : Shape ns ts) : s.data.toList = letL (cand ns ts) := by
  obtain ⟨e1, e2⟩ := shape_cand hs
  unfold letL
  rw [e1, e2]
  exact (Pk.decL_ok h).2

end Lt
end Go.Proofs.YtiobhbagjokpcaaGreat
