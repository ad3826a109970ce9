/- Parts of the proof, joined: LtOpen, LtOpen2, LtEnv, PkRef, PkRef2; their conditions stand with each. -/
import Derived.Deep.SlicePairs
import Derived.Deep.Cut
import Derived.Deep.CutRange
import Derived.Deep.DeepCutAuto
import Derived.Test.YtiobhbagjokpcaaGreatM3
import Derived.Test.YtiobhbagjokpcaaGreatM5
import Derived.Test.YtiobhbagjokpcaaGreatM7

/- A struct of any number of one-cell fields as an argument; a row of writes in a field of it: what its reading says. -/
namespace Go.Proofs.YtiobhbagjokpcaaGreat
namespace Lt
open Go.ChangeShapes Go.WideShapes Go.ChangeAt Go.RowKit Go.Joins Go.Deep Bk

section
variable {H : Type} {enc : TypeId × Value → H} {W : World}

instance : Inhabited Wr := ⟨⟨⟨#[]⟩, ⟨#[]⟩, false⟩⟩

set_option maxRecDepth 20000 in
theorem open_agg_any {r : Reach} {b0 : Nat} {t : TypeId} {fs : Array Field} {v : Value} {d : DataW H} {p : List MemPlace} (hs : Tryz.prog.underlying t = some (.struct fs)) (hone : oneCellFields Tryz.prog fs = true) (hC : Tryz.prog.cellsOf t = fs.size)
    (hv : Value.okWide Tryz.prog W r b0 t v) (h : DataW.Trod enc Tryz.prog W 0 (fun _ => true) true t v d p) :
    ∃ (cs : List Value) (xs : List (DataW H × List MemPlace)) (n : Nat), v = .agg cs.toArray ∧ cs.length = fs.size ∧ d = .agg (xs.map (·.1)) ∧ p = xs.flatMap (·.2) ∧ xs.length = fs.size ∧
      ∀ (i : Nat) (f : Field) (u : Value) (y : DataW H × List MemPlace), fs[i]? = some f → cs[i]? = some u → xs[i]? = some y → DataW.trod enc Tryz.prog W 0 (fun _ => true) true n f.type [u] = some y := by
  obtain ⟨cs, rfl, hsz⟩ := okWide_struct hs hv
  obtain ⟨fuel, hf⟩ := h
  obtain ⟨xs, n, _, hx, _, hlen, hall⟩ := DataW.trod_struct hs hf
  simp only [Prod.mk.injEq] at hx
  refine ⟨cs.toList, xs, n, by simp, by rw [Array.length_toList, hsz, hC], hx.1, hx.2, hlen, fun i f u y hi hu hy => ?_⟩
  obtain ⟨o, k⟩ := hone_of hone i f hi
  have h1 := hall i f hi
  rw [o, k, hy] at h1
  rw [← h1]
  congr 1
  have hlt : i < cs.toList.length := (List.getElem?_eq_some_iff.1 hu).1
  show [u] = List.take 1 (List.drop i cs.toList)
  rw [List.drop_eq_getElem_cons hlt, List.take_succ_cons, List.take_zero, (List.getElem?_eq_some_iff.1 hu).2]

theorem agg_weights {t : TypeId} {fs : Array Field} (hs : Tryz.prog.underlying t = some (.struct fs)) {xs : List (DataW H × List MemPlace)} {i : Nat} {f : Field} {y : DataW H × List MemPlace} (hi : fs[i]? = some f) (hy : xs[i]? = some y) (hw : ∀ k ∈ (DataW.agg (xs.map (·.1))).weights Tryz.prog t, k ≤ reachBytes) : ∀ k ∈ y.1.weights Tryz.prog f.type, k ≤ reachBytes := fun k hk => hw k (by
  simp only [DataW.weights, hs]
  exact DataW.weights_mem_each (ts := fs.toList.map (·.type)) (ds := xs.map (·.1)) (j := i) (by rw [List.getElem?_map, Array.getElem?_toList, hi]; rfl) (by rw [List.getElem?_map, hy]; rfl) k hk)

theorem field_int {t : TypeId} {v : Value} {fuel : Nat} {y : DataW H × List MemPlace} (ht : Tryz.prog.underlying t = some (.int .i64)) (hf : DataW.trod enc Tryz.prog W 0 (fun _ => true) true fuel t [v] = some y) : ∃ z, v = .int .i64 z ∧ -9223372036854775808 ≤ z ∧ z ≤ 9223372036854775807 := by
  obtain ⟨z, h1, _, h3⟩ := DataW.trod_int ht hf
  obtain rfl : v = .int .i64 z := by simpa using h1
  exact ⟨z, rfl, show IntKind.i64.min ≤ z ∧ z ≤ 9223372036854775807 by simpa [Lit.wf] using h3⟩

theorem field_text {t : TypeId} {v : Value} {fuel : Nat} {y : DataW H × List MemPlace} (ht : Tryz.prog.underlying t = some .string) (hf : DataW.trod enc Tryz.prog W 0 (fun _ => true) true fuel t [v] = some y) (hw : ∀ k ∈ y.1.weights Tryz.prog t, k ≤ reachBytes) : ∃ s : ByteArray, v = .string s ∧ s.size ≤ reachBytes := by
  obtain ⟨s, h1, rfl, _⟩ := DataW.trod_string ht hf
  obtain rfl : v = .string s := by simpa using h1
  exact ⟨s, rfl, by
    have := hw s.data.toList.length (by simp [DataW.weights])
    rwa [Array.length_toList] at this⟩

theorem field_bool {t : TypeId} {v : Value} {fuel : Nat} {y : DataW H × List MemPlace} (ht : Tryz.prog.underlying t = some .bool) (hf : DataW.trod enc Tryz.prog W 0 (fun _ => true) true fuel t [v] = some y) : ∃ b, v = .bool b := by
  obtain ⟨b, h1, _⟩ := DataW.trod_bool ht hf
  exact ⟨b, by simpa using h1⟩

set_option maxRecDepth 20000 in
theorem field_writes {t e : TypeId} {f0 f1 f2 : Field} {v : Value} {fuel : Nat} {y : DataW H × List MemPlace} (ht : Tryz.prog.underlying t = some (.slice e)) (he : Tryz.prog.underlying e = some (.struct #[f0, f1, f2])) (ce : Tryz.prog.cellsOf e = 3) (hone : oneCellFields Tryz.prog #[f0, f1, f2] = true)
    (t0 : Tryz.prog.underlying f0.type = some .string) (t1 : Tryz.prog.underlying f1.type = some .string) (t2 : Tryz.prog.underlying f2.type = some .bool) (hb40 : 16 ≤ Tryz.prog.bytesOf e)
    (hf : DataW.trod enc Tryz.prog W 0 (fun _ => true) true fuel t [v] = some y) (hwt : ∀ k ∈ y.1.weights Tryz.prog t, k ≤ reachBytes) (hl : ∀ x ∈ y.2, x.block < W.heap.size) :
    ∃ (A : Option Addr) (c : Nat) (L : List Wr), v = .slice A L.length c ∧ WrsAt W A L ∧ L.length * 16 ≤ reachBytes ∧ L.length ≤ c ∧ c ≤ maxLen ∧ (∀ x ∈ L, x.key.size ≤ reachBytes ∧ x.shard.size ≤ reachBytes) ∧ (A = none → L = [] ∧ c = 0) := by
  rcases open_slice ht hf with ⟨hcs, _⟩ | ⟨a, len, cap, m, n, D, Pl, hcs, _, hl', hm, hmm, hx, hall⟩
  · obtain rfl : v = .slice none 0 0 := by simpa using hcs
    exact ⟨none, 0, [], rfl, fun h => absurd h (by simp), by simp, by simp, Nat.zero_le _, by simp, fun _ => ⟨rfl, rfl⟩⟩
  · obtain rfl : v = .slice (some a) len cap := by simpa using hcs
    subst hx
    simp only [if_true] at hmm
    subst hmm
    have each : ∀ i, i < len → ∃ q : Wr, W.cell? (a.add (i * 3)) = some (.string q.key) ∧ W.cell? (a.add (i * 3 + 1)) = some (.string q.shard) ∧ W.cell? (a.add (i * 3 + 2)) = some (.bool q.dead) ∧ q.key.size ≤ reachBytes ∧ q.shard.size ≤ reachBytes := by
      intro i hi
      obtain ⟨cs', h1, h2⟩ := hall i (by omega)
      rw [ce] at h1
      obtain ⟨_, hlen, hcell⟩ := World.cells?_some h1
      have hwi : ∀ k ∈ (D i).weights Tryz.prog e, k ≤ reachBytes := fun k hk => hwt k (by
        simp only [DataW.weights, ht, List.mem_cons, List.mem_append]
        refine .inr (.inl ?_)
        have : ∀ (ds : List (DataW H)), D i ∈ ds → k ∈ DataW.weightsAll Tryz.prog e ds := by
          intro ds
          induction ds with
          | nil => intro h; simp at h
          | cons x r ih =>
            intro h
            show k ∈ x.weights Tryz.prog e ++ DataW.weightsAll Tryz.prog e r
            rw [List.mem_append]
            rcases List.mem_cons.1 h with rfl | h
            · exact .inl hk
            · exact .inr (ih h)
        exact this _ (List.mem_map.2 ⟨i, List.mem_range.2 hi, rfl⟩))
      obtain ⟨xs, k, _, hxy, _, hxl, hff⟩ := DataW.trod_struct he h2
      obtain ⟨o0, c0⟩ := hone_of hone 0 f0 rfl
      obtain ⟨o1, c1⟩ := hone_of hone 1 f1 rfl
      obtain ⟨o2, c2⟩ := hone_of hone 2 f2 rfl
      match xs, hxl, cs', hlen with
      | [y0, y1, y2], _, [v0, v1, v2], _ =>
        have g0 := hff 0 f0 rfl
        have g1 := hff 1 f1 rfl
        have g2 := hff 2 f2 rfl
        simp [o0, o1, o2, c0, c1, c2] at g0 g1 g2
        simp only [Prod.mk.injEq] at hxy
        rw [hxy.1] at hwi
        obtain ⟨k0, rfl, s0⟩ := field_text t0 g0 (agg_weights (i := 0) he rfl rfl hwi)
        obtain ⟨k1, rfl, s1⟩ := field_text t1 g1 (agg_weights (i := 1) he rfl rfl hwi)
        obtain ⟨k2, rfl⟩ := field_bool t2 g2
        have e0 := hcell 0 (by omega)
        have e1 := hcell 1 (by omega)
        have e2 := hcell 2 (by omega)
        rw [add_add] at e0 e1 e2
        exact ⟨⟨k0, k1, k2⟩, by simpa using e0, by simpa using e1, by simpa using e2, s0, s1⟩
    obtain ⟨q, hq⟩ := choose_lt each
    have hL : ((List.range len).map q).length = len := by simp
    have hat : ∀ i (h : i < ((List.range len).map q).length), ((List.range len).map q)[i] = q i := fun i h => by simp
    have hs := hwt ((((List.range len).map D).length + ((List.range (m - len)).map fun j => D (len + j)).length) * Tryz.prog.bytesOf e) (by simp [DataW.weights, ht])
    refine ⟨some a, m, (List.range len).map q, by rw [hL], fun hpos => ⟨a, rfl, ?_, fun i hi => ?_⟩, ?_, by rw [hL]; exact hl', hm, fun x hx => ?_, fun h => by cases h⟩
    · obtain ⟨b, off, spot⟩ := a
      rw [hL] at hpos
      exact hl (.cell b off) (List.mem_append_left _ (MemPlace.mem_row.2 ⟨0, by rw [ce]; omega, by simp⟩))
    · rw [hat i hi]
      have := hq i (by rw [hL] at hi; exact hi)
      exact ⟨this.1, this.2.1, this.2.2.1⟩
    · rw [hL]
      refine Nat.le_trans (Nat.mul_le_mul ?_ hb40) hs
      rw [List.length_map, List.length_range]
      omega
    · obtain ⟨i, hi, rfl⟩ := List.mem_map.1 hx
      exact (hq i (List.mem_range.1 hi)).2.2.2

/-- the ranges of what a letter holds -/
structure LetRng (l : Let) : Prop where
  kind : -9223372036854775808 ≤ l.kind ∧ l.kind ≤ 9223372036854775807
  src : -9223372036854775808 ≤ l.src ∧ l.src ≤ 9223372036854775807
  dst : -9223372036854775808 ≤ l.dst ∧ l.dst ≤ 9223372036854775807
  txn : -9223372036854775808 ≤ l.txn ∧ l.txn ≤ 9223372036854775807
  ts : -9223372036854775808 ≤ l.ts ∧ l.ts ≤ 9223372036854775807
  code : -9223372036854775808 ≤ l.code ∧ l.code ≤ 9223372036854775807
  text : l.text.size ≤ reachBytes
  k16 : l.keys.length * 16 ≤ reachBytes
  w16 : l.ws.length * 16 ≤ reachBytes
  kr : ∀ s ∈ l.keys, s.size ≤ reachBytes
  wr : ∀ x ∈ l.ws, x.key.size ≤ reachBytes ∧ x.shard.size ≤ reachBytes

/-- .. and of what a letter as an argument holds -/
structure LetRange (l : Let) (c d : Nat) : Prop extends LetRng l where
  kc : l.keys.length ≤ c
  wd : l.ws.length ≤ d
  c63 : c ≤ maxLen
  d63 : d ≤ maxLen

/-- the value of a letter -/
def letV (l : Let) (A B : Option Addr) (c d : Nat) : Value := .agg #[.int .i64 l.kind, .int .i64 l.src, .int .i64 l.dst, .int .i64 l.txn, .int .i64 l.ts, .int .i64 l.code, .string l.text, .slice A l.keys.length c, .slice B l.ws.length d]

/-- the value is a letter that holds these -/
def LetArg (w : World) (v : Value) (l : Let) : Prop :=
  ∃ (A B : Option Addr) (c d : Nat), v = letV l A B c d ∧ StrsAt w A l.keys ∧ WrsAt w B l.ws ∧ LetRange l c d ∧ (A = none → l.keys = [] ∧ c = 0) ∧ (B = none → l.ws = [] ∧ d = 0)

set_option maxRecDepth 20000 in
theorem open_letter {base : Nat} {v : Value} {d : DataW H} {p : List MemPlace} {ts : List TypeId} {ds : List (DataW H)} {j : Nat}
    (hsz : (DataW.weightsEach Tryz.prog ts ds).all (· ≤ reachBytes) = true) (hj : ts[j]? = some 169) (hd : ds[j]? = some d)
    (hv : Value.okWide Tryz.prog W .any base 169 v) (h : DataW.Trod enc Tryz.prog W 0 (fun _ => true) true 169 v d p) (hl : ∀ x ∈ p, x.block < W.heap.size) : ∃ l, LetArg W v l := by
  obtain ⟨cs, xs, n, rfl, hcl, rfl, rfl, hxl, hall⟩ := open_agg_any Tryz.underlying169 (by kernel_rfl) (by kernel_rfl) hv h
  have hw := arg_weights hsz hj hd
  match cs, hcl, xs, hxl with
  | [v0, v1, v2, v3, v4, v5, v6, v7, v8], _, [y0, y1, y2, y3, y4, y5, y6, y7, y8], _ =>
    obtain ⟨kind, rfl, r0⟩ := field_int Tryz.underlying3 (hall 0 _ _ _ rfl rfl rfl)
    obtain ⟨src, rfl, r1⟩ := field_int Tryz.underlying3 (hall 1 _ _ _ rfl rfl rfl)
    obtain ⟨dst, rfl, r2⟩ := field_int Tryz.underlying3 (hall 2 _ _ _ rfl rfl rfl)
    obtain ⟨txn, rfl, r3⟩ := field_int Tryz.underlying3 (hall 3 _ _ _ rfl rfl rfl)
    obtain ⟨ts', rfl, r4⟩ := field_int Tryz.underlying3 (hall 4 _ _ _ rfl rfl rfl)
    obtain ⟨code, rfl, r5⟩ := field_int Tryz.underlying3 (hall 5 _ _ _ rfl rfl rfl)
    obtain ⟨text, rfl, r6⟩ := field_text Tryz.underlying9 (hall 6 _ _ _ rfl rfl rfl) (agg_weights (i := 6) Tryz.underlying169 rfl rfl hw)
    obtain ⟨A, c, K, rfl, a1, a2, a3, a4, a5, a6⟩ := field_texts Tryz.underlying23 Tryz.underlying9 (by kernel_rfl) (by kernel_rfl) (hall 7 _ _ _ rfl rfl rfl) (agg_weights (i := 7) Tryz.underlying169 rfl rfl hw) (fun x hx => hl x (List.mem_flatMap.2 ⟨y7, by simp, hx⟩))
    obtain ⟨B, d, L, rfl, b1, b2, b3, b4, b5, b6⟩ := field_writes Tryz.underlying35 Tryz.underlying45 (by kernel_rfl) (by kernel_rfl) Tryz.underlying9 Tryz.underlying9 Tryz.underlying4 (of_decide_eq_true (by kernel_rfl)) (hall 8 _ _ _ rfl rfl rfl) (agg_weights (i := 8) Tryz.underlying169 rfl rfl hw) (fun x hx => hl x (List.mem_flatMap.2 ⟨y8, by simp, hx⟩))
    exact ⟨⟨kind, src, dst, txn, ts', code, text, K, L⟩, A, B, c, d, rfl, a1, b1, ⟨⟨r0, r1, r2, r3, r4, r5, r6, a2, b2, a5, b5⟩, a3, b3, a4, b4⟩, a6, b6⟩

end

end Lt
end Go.Proofs.YtiobhbagjokpcaaGreat

/- A letter as an argument, its writes counted at forty bytes each: what its reading says. -/
namespace Go.Proofs.YtiobhbagjokpcaaGreat
namespace Lt
open Go.ChangeShapes Go.WideShapes Go.ChangeAt Go.RowKit Go.Joins Go.Deep Bk

section
variable {H : Type} {enc : TypeId × Value → H} {W : World}

set_option maxRecDepth 20000 in
theorem field_writes40 {t e : TypeId} {f0 f1 f2 : Field} {v : Value} {fuel : Nat} {y : DataW H × List MemPlace} (ht : Tryz.prog.underlying t = some (.slice e)) (he : Tryz.prog.underlying e = some (.struct #[f0, f1, f2])) (ce : Tryz.prog.cellsOf e = 3) (hone : oneCellFields Tryz.prog #[f0, f1, f2] = true)
    (t0 : Tryz.prog.underlying f0.type = some .string) (t1 : Tryz.prog.underlying f1.type = some .string) (t2 : Tryz.prog.underlying f2.type = some .bool) (hb40 : 40 ≤ Tryz.prog.bytesOf e)
    (hf : DataW.trod enc Tryz.prog W 0 (fun _ => true) true fuel t [v] = some y) (hwt : ∀ k ∈ y.1.weights Tryz.prog t, k ≤ reachBytes) (hl : ∀ x ∈ y.2, x.block < W.heap.size) :
    ∃ (A : Option Addr) (c : Nat) (L : List Wr), v = .slice A L.length c ∧ WrsAt W A L ∧ L.length * 40 ≤ reachBytes ∧ L.length ≤ c ∧ c ≤ maxLen ∧ (∀ x ∈ L, x.key.size ≤ reachBytes ∧ x.shard.size ≤ reachBytes) ∧ (A = none → L = [] ∧ c = 0) := by
  rcases open_slice ht hf with ⟨hcs, _⟩ | ⟨a, len, cap, m, n, D, Pl, hcs, _, hl', hm, hmm, hx, hall⟩
  · obtain rfl : v = .slice none 0 0 := by simpa using hcs
    exact ⟨none, 0, [], rfl, fun h => absurd h (by simp), by simp, by simp, Nat.zero_le _, by simp, fun _ => ⟨rfl, rfl⟩⟩
  · obtain rfl : v = .slice (some a) len cap := by simpa using hcs
    subst hx
    simp only [if_true] at hmm
    subst hmm
    have each : ∀ i, i < len → ∃ q : Wr, W.cell? (a.add (i * 3)) = some (.string q.key) ∧ W.cell? (a.add (i * 3 + 1)) = some (.string q.shard) ∧ W.cell? (a.add (i * 3 + 2)) = some (.bool q.dead) ∧ q.key.size ≤ reachBytes ∧ q.shard.size ≤ reachBytes := by
      intro i hi
      obtain ⟨cs', h1, h2⟩ := hall i (by omega)
      rw [ce] at h1
      obtain ⟨_, hlen, hcell⟩ := World.cells?_some h1
      have hwi : ∀ k ∈ (D i).weights Tryz.prog e, k ≤ reachBytes := fun k hk => hwt k (by
        simp only [DataW.weights, ht, List.mem_cons, List.mem_append]
        refine .inr (.inl ?_)
        have : ∀ (ds : List (DataW H)), D i ∈ ds → k ∈ DataW.weightsAll Tryz.prog e ds := by
          intro ds
          induction ds with
          | nil => intro h; simp at h
          | cons x r ih =>
            intro h
            show k ∈ x.weights Tryz.prog e ++ DataW.weightsAll Tryz.prog e r
            rw [List.mem_append]
            rcases List.mem_cons.1 h with rfl | h
            · exact .inl hk
            · exact .inr (ih h)
        exact this _ (List.mem_map.2 ⟨i, List.mem_range.2 hi, rfl⟩))
      obtain ⟨xs, k, _, hxy, _, hxl, hff⟩ := DataW.trod_struct he h2
      obtain ⟨o0, c0⟩ := hone_of hone 0 f0 rfl
      obtain ⟨o1, c1⟩ := hone_of hone 1 f1 rfl
      obtain ⟨o2, c2⟩ := hone_of hone 2 f2 rfl
      match xs, hxl, cs', hlen with
      | [y0, y1, y2], _, [v0, v1, v2], _ =>
        have g0 := hff 0 f0 rfl
        have g1 := hff 1 f1 rfl
        have g2 := hff 2 f2 rfl
        simp [o0, o1, o2, c0, c1, c2] at g0 g1 g2
        simp only [Prod.mk.injEq] at hxy
        rw [hxy.1] at hwi
        obtain ⟨k0, rfl, s0⟩ := field_text t0 g0 (agg_weights (i := 0) he rfl rfl hwi)
        obtain ⟨k1, rfl, s1⟩ := field_text t1 g1 (agg_weights (i := 1) he rfl rfl hwi)
        obtain ⟨k2, rfl⟩ := field_bool t2 g2
        have e0 := hcell 0 (by omega)
        have e1 := hcell 1 (by omega)
        have e2 := hcell 2 (by omega)
        rw [add_add] at e0 e1 e2
        exact ⟨⟨k0, k1, k2⟩, by simpa using e0, by simpa using e1, by simpa using e2, s0, s1⟩
    obtain ⟨q, hq⟩ := choose_lt each
    have hL : ((List.range len).map q).length = len := by simp
    have hat : ∀ i (h : i < ((List.range len).map q).length), ((List.range len).map q)[i] = q i := fun i h => by simp
    have hs := hwt ((((List.range len).map D).length + ((List.range (m - len)).map fun j => D (len + j)).length) * Tryz.prog.bytesOf e) (by simp [DataW.weights, ht])
    refine ⟨some a, m, (List.range len).map q, by rw [hL], fun hpos => ⟨a, rfl, ?_, fun i hi => ?_⟩, ?_, by rw [hL]; exact hl', hm, fun x hx => ?_, fun h => by cases h⟩
    · obtain ⟨b, off, spot⟩ := a
      rw [hL] at hpos
      exact hl (.cell b off) (List.mem_append_left _ (MemPlace.mem_row.2 ⟨0, by rw [ce]; omega, by simp⟩))
    · rw [hat i hi]
      have := hq i (by rw [hL] at hi; exact hi)
      exact ⟨this.1, this.2.1, this.2.2.1⟩
    · rw [hL]
      refine Nat.le_trans (Nat.mul_le_mul ?_ hb40) hs
      rw [List.length_map, List.length_range]
      omega
    · obtain ⟨i, hi, rfl⟩ := List.mem_map.1 hx
      exact (hq i (List.mem_range.1 hi)).2.2.2

/-- .. and forty bytes for each of its writes -/
def LetArg2 (w : World) (v : Value) (l : Let) : Prop :=
  ∃ (A B : Option Addr) (c d : Nat), v = letV l A B c d ∧ StrsAt w A l.keys ∧ WrsAt w B l.ws ∧ LetRange l c d ∧ (A = none → l.keys = [] ∧ c = 0) ∧ (B = none → l.ws = [] ∧ d = 0) ∧ l.ws.length * 40 ≤ reachBytes

set_option maxRecDepth 20000 in
theorem open_letter2 {base : Nat} {v : Value} {d : DataW H} {p : List MemPlace} {ts : List TypeId} {ds : List (DataW H)} {j : Nat}
    (hsz : (DataW.weightsEach Tryz.prog ts ds).all (· ≤ reachBytes) = true) (hj : ts[j]? = some 169) (hd : ds[j]? = some d)
    (hv : Value.okWide Tryz.prog W .any base 169 v) (h : DataW.Trod enc Tryz.prog W 0 (fun _ => true) true 169 v d p) (hl : ∀ x ∈ p, x.block < W.heap.size) : ∃ l, LetArg2 W v l := by
  obtain ⟨cs, xs, n, rfl, hcl, rfl, rfl, hxl, hall⟩ := open_agg_any Tryz.underlying169 (by kernel_rfl) (by kernel_rfl) hv h
  have hw := arg_weights hsz hj hd
  match cs, hcl, xs, hxl with
  | [v0, v1, v2, v3, v4, v5, v6, v7, v8], _, [y0, y1, y2, y3, y4, y5, y6, y7, y8], _ =>
    obtain ⟨kind, rfl, r0⟩ := field_int Tryz.underlying3 (hall 0 _ _ _ rfl rfl rfl)
    obtain ⟨src, rfl, r1⟩ := field_int Tryz.underlying3 (hall 1 _ _ _ rfl rfl rfl)
    obtain ⟨dst, rfl, r2⟩ := field_int Tryz.underlying3 (hall 2 _ _ _ rfl rfl rfl)
    obtain ⟨txn, rfl, r3⟩ := field_int Tryz.underlying3 (hall 3 _ _ _ rfl rfl rfl)
    obtain ⟨ts', rfl, r4⟩ := field_int Tryz.underlying3 (hall 4 _ _ _ rfl rfl rfl)
    obtain ⟨code, rfl, r5⟩ := field_int Tryz.underlying3 (hall 5 _ _ _ rfl rfl rfl)
    obtain ⟨text, rfl, r6⟩ := field_text Tryz.underlying9 (hall 6 _ _ _ rfl rfl rfl) (agg_weights (i := 6) Tryz.underlying169 rfl rfl hw)
    obtain ⟨A, c, K, rfl, a1, a2, a3, a4, a5, a6⟩ := field_texts Tryz.underlying23 Tryz.underlying9 (by kernel_rfl) (by kernel_rfl) (hall 7 _ _ _ rfl rfl rfl) (agg_weights (i := 7) Tryz.underlying169 rfl rfl hw) (fun x hx => hl x (List.mem_flatMap.2 ⟨y7, by simp, hx⟩))
    obtain ⟨B, d, L, rfl, b1, b2, b3, b4, b5, b6⟩ := field_writes40 Tryz.underlying35 Tryz.underlying45 (by kernel_rfl) (by kernel_rfl) Tryz.underlying9 Tryz.underlying9 Tryz.underlying4 (of_decide_eq_true (by kernel_rfl)) (hall 8 _ _ _ rfl rfl rfl) (agg_weights (i := 8) Tryz.underlying169 rfl rfl hw) (fun x hx => hl x (List.mem_flatMap.2 ⟨y8, by simp, hx⟩))
    exact ⟨⟨kind, src, dst, txn, ts', code, text, K, L⟩, A, B, c, d, rfl, a1, b1, ⟨⟨r0, r1, r2, r3, r4, r5, r6, a2, Nat.le_trans (Nat.mul_le_mul_left _ (by omega)) b2, a5, b5⟩, a3, b3, a4, b4⟩, a6, b6, b2⟩

end

end Lt
end Go.Proofs.YtiobhbagjokpcaaGreat

/- What the document's own Check of letters answers; contract; no condition but the range. -/
namespace Go.Proofs.YtiobhbagjokpcaaGreat
namespace Lt
open Go.RowKit Bk

attribute [local go_sem ↓] Go.wp_at_zero Go.wp_at_succ
attribute [local go_sem] floatUpon pick

/-- what a walk over a letter keeps: its lists, its cells, what was there -/
structure LtEnv (w W : World) (g : Nat) (A B : Option Addr) (c d : Nat) (l : Let) : Prop where
  ks : StrsAt W A l.keys
  ws : WrsAt W B l.ws
  cel : Cel W g 169 [.int .i64 l.kind, .int .i64 l.src, .int .i64 l.dst, .int .i64 l.txn, .int .i64 l.ts, .int .i64 l.code, .string l.text, .slice A l.keys.length c, .slice B l.ws.length d]
  bel : Below w.heap.size w W

theorem LtEnv.step {w W W' : World} {g : Nat} {A B : Option Addr} {c d : Nat} {l : Let} (h : LtEnv w W g A B c d l) (hb : Below W.heap.size W W') : LtEnv w W' g A B c d l :=
  ⟨h.ks.below hb, h.ws.below hb, h.cel.below hb, h.bel.trans (hb.mono h.bel.size)⟩

theorem LtEnv.start {w : World} {A B : Option Addr} {c d : Nat} {l : Let} (ha : StrsAt w A l.keys) (hb : WrsAt w B l.ws) :
    LtEnv w (w.alloc (.cells #[.int .i64 l.kind, .int .i64 l.src, .int .i64 l.dst, .int .i64 l.txn, .int .i64 l.ts, .int .i64 l.code, .string l.text, .slice A l.keys.length c, .slice B l.ws.length d] 169)) w.heap.size A B c d l :=
  ⟨ha.alloc _, hb.alloc _, (blk1 w _).2, (Below.refl _ w).alloc (Nat.le_refl _) _⟩

open Classical in
/-- what Check answers -/
noncomputable def ckN (l : Let) : Nat := if LetOk l then 0 else 70

theorem ckN_ok {l : Let} (h : headOk l) (h2 : kindOk l) : ckN l = 0 := by unfold ckN; rw [if_pos ⟨h, h2⟩]
theorem ckN_bad {l : Let} (h : ¬ kindOk l) : ckN l = 70 := by unfold ckN; rw [if_neg (fun hh => h hh.2)]
theorem ckN_head {l : Let} (h : ¬ headOk l) : ckN l = 70 := by unfold ckN; rw [if_neg (fun hh => h hh.1)]
theorem ckN_zero {l : Let} : ckN l = 0 ↔ LetOk l := by
  unfold ckN
  split
  · next h => exact ⟨fun _ => h, fun _ => rfl⟩
  · next h => exact ⟨fun e => by omega, fun hh => absurd hh h⟩
theorem ckN_cases (l : Let) : ckN l = 0 ∨ ckN l = 70 := by unfold ckN; split <;> simp

def OneOk (l : Let) : Prop := l.keys.length = 1 ∧ (∀ k ∈ l.keys, keyOk k) ∧ l.ws = []
def BareOk (l : Let) : Prop := l.keys = [] ∧ l.ws = [] ∧ l.text = ⟨#[]⟩

theorem kind_1 {l : Let} (h : l.kind = 1) : kindOk l ↔ OneOk l ∧ l.text = ⟨#[]⟩ ∧ l.code = 0 := by
  constructor
  · rintro (h2 | h2 | h2 | h2 | h2 | h2)
    · exact h2.2
    all_goals omega
  · intro h2; exact .inl ⟨h, h2⟩
theorem kind_2 {l : Let} (h : l.kind = 2) : kindOk l ↔ OneOk l ∧ l.text.size ≤ 2052 ∧ (l.text = ⟨#[]⟩ ∨ l.code = 1) := by
  constructor
  · rintro (h2 | h2 | h2 | h2 | h2 | h2)
    · omega
    · exact h2.2
    all_goals omega
  · intro h2; exact .inr (.inl ⟨h, h2⟩)
theorem kind_3 {l : Let} (h : l.kind = 3) : kindOk l ↔ l.keys.length ≤ 16 ∧ Rises l.keys ∧ WritesOk l.ws ∧ l.text = ⟨#[]⟩ ∧ l.code = 0 := by
  constructor
  · rintro (h2 | h2 | h2 | h2 | h2 | h2)
    · omega
    · omega
    · exact h2.2
    all_goals omega
  · intro h2; exact .inr (.inr (.inl ⟨h, h2⟩))
theorem kind_4 {l : Let} (h : l.kind = 4) : kindOk l ↔ BareOk l ∧ l.code ≤ 1 := by
  constructor
  · rintro (h2 | h2 | h2 | h2 | h2 | h2)
    · omega
    · omega
    · omega
    · exact h2.2
    all_goals omega
  · intro h2; exact .inr (.inr (.inr (.inl ⟨h, h2⟩)))
theorem kind_5 {l : Let} (h : l.kind = 5 ∨ l.kind = 6 ∨ l.kind = 7) : kindOk l ↔ BareOk l ∧ l.code = 0 := by
  constructor
  · rintro (h2 | h2 | h2 | h2 | h2 | h2)
    · omega
    · omega
    · omega
    · omega
    · exact h2.2
    · omega
  · intro h2; exact .inr (.inr (.inr (.inr (.inl ⟨h, h2⟩))))
theorem kind_8 {l : Let} (h : l.kind = 8) : kindOk l ↔ BareOk l ∧ l.code ≤ 2 := by
  constructor
  · rintro (h2 | h2 | h2 | h2 | h2 | h2)
    · omega
    · omega
    · omega
    · omega
    · omega
    · exact h2.2
  · intro h2; exact .inr (.inr (.inr (.inr (.inr ⟨h, h2⟩))))
theorem kind_no {l : Let} (h : l.kind < 1 ∨ 8 < l.kind) : ¬ kindOk l := by
  rintro (h2 | h2 | h2 | h2 | h2 | h2) <;> omega

theorem empty_list {s : ByteArray} (h : s ≠ ⟨#[]⟩) : ¬ s.toList = [] := fun e => h (by
  rw [ByteArray.toList_eq] at e
  obtain ⟨a⟩ := s
  congr 1
  exact Array.toList_inj.1 e)

theorem list_one {l : List ByteArray} (h : l.length = 1) : ∃ k, l = [k] := by
  match l, h with
  | [k], _ => exact ⟨k, rfl⟩


end Lt
end Go.Proofs.YtiobhbagjokpcaaGreat

/- What the document's own numbers of packs are; contracts; no condition but the range. -/
namespace Go.Proofs.YtiobhbagjokpcaaGreat
namespace Pk
open Go.RowKit Bk

attribute [local go_sem ↓] Go.wp_at_zero Go.wp_at_succ
attribute [local go_sem] floatUpon pick

theorem byteCells_snoc (O : List UInt8) (x : Nat) (h : x < 256) : Lib.byteCells O ++ [.int .u8 (x : Int)] = Lib.byteCells (O ++ [UInt8.ofNat x]) := by
  unfold Lib.byteCells
  rw [List.map_append, List.map_cons, UInt8.toNat_ofNat_of_lt' (by show x < 256; exact h)]; rfl

theorem u8_wrap {x : Int} (h0 : 0 ≤ x) (h1 : x < 256) : IntKind.u8.wrap x = x := by
  simp only [IntKind.wrap, IntKind.bits, IntKind.signed]; simp; omega

/-- what Number answers -/
def numV (z : Int) : Value := if numOk z then .tuple #[.string ⟨(signed z).toArray⟩, .int .i64 0] else .tuple #[.string ⟨#[]⟩, .int .i64 1]

end Pk
end Go.Proofs.YtiobhbagjokpcaaGreat

/- What the document's own Check of packs answers; contract; no condition but the range. -/
namespace Go.Proofs.YtiobhbagjokpcaaGreat
namespace Pk
open Go.RowKit Bk

attribute [local go_sem ↓] Go.wp_at_zero Go.wp_at_succ
attribute [local go_sem] floatUpon pick

/-- the value of a pack -/
def packV (A B : Option Addr) (c d : Nat) (ns : List Int) (ts : List ByteArray) : Value := .agg #[.slice A ns.length c, .slice B ts.length d]

/-- .. that holds these -/
def Holds (w : World) (v : Value) (ns : List Int) (ts : List ByteArray) : Prop :=
  ∃ (A B : Option Addr) (c d : Nat), v = packV A B c d ns ts ∧ IntsAt w A ns ∧ StrsAt w B ts

theorem Holds.below {w w' : World} {v : Value} {ns : List Int} {ts : List ByteArray} (h : Holds w v ns ts) (hb : Below w.heap.size w w') : Holds w' v ns ts := by
  obtain ⟨A, B, c, d, h1, h2, h3⟩ := h
  exact ⟨A, B, c, d, h1, h2.below hb, h3.below hb⟩

theorem ckE_long {ns : List Int} {ts : List ByteArray} (h : 1024 < ns.length ∨ 1024 < ts.length) : ckE ns ts = 2 := by unfold ckE; rw [if_pos h]

theorem ckE_num {ns : List Int} {ts : List ByteArray} (h : ¬ (1024 < ns.length ∨ 1024 < ts.length)) {z : Int} (hz : z ∈ ns) (hn : ¬ numOk z) : ckE ns ts = 1 := by
  unfold ckE
  rw [if_neg h, if_pos (fun hh => hn (hh z hz))]

theorem ckE_text {ns : List Int} {ts : List ByteArray} (h : ¬ (1024 < ns.length ∨ 1024 < ts.length)) (h2 : ∀ n ∈ ns, numOk n) {t : ByteArray} (ht : t ∈ ts) (hn : 4096 < t.size) : ckE ns ts = 2 := by
  unfold ckE
  rw [if_neg h, if_neg (fun hh => hh h2), if_pos (fun hh => by have := hh t ht; omega)]

theorem ckE_ok {ns : List Int} {ts : List ByteArray} (h : ¬ (1024 < ns.length ∨ 1024 < ts.length)) (h2 : ∀ n ∈ ns, numOk n) (h3 : ∀ t ∈ ts, t.size ≤ 4096) : ckE ns ts = 0 := ckE_zero.2 ⟨by omega, by omega, h2, h3⟩

theorem mem_take_succ {α : Type} {l : List α} {j : Nat} (h : j < l.length) {p : α → Prop} (h1 : ∀ x ∈ l.take j, p x) (h2 : p l[j]) : ∀ x ∈ l.take (j + 1), p x := by
  intro x hx
  rw [List.take_add_one, List.getElem?_eq_getElem h] at hx
  rcases List.mem_append.1 hx with hx | hx
  · exact h1 x hx
  · rw [Option.toList_some, List.mem_singleton] at hx
    rw [hx]; exact h2

end Pk
end Go.Proofs.YtiobhbagjokpcaaGreat
