/- Parts of the proof, joined: LtOpen, LtOpen2, LtEnv, PkRef, PkRef2, PkRef3, PkRead, PkDecEnv, PkDecMath, PkDec; their conditions stand with each. -/
import Derived.Deep.SlicePairs
import Derived.Deep.Cut
import Derived.Deep.CutRange
import Derived.Deep.DeepCutAuto
import Derived.Test.YtjehjbkcdpidbaaGreatB1
import Derived.Test.YtjehjbkcdpidbaaGreatB3
import Derived.Test.YtjehjbkcdpidbaaGreatB4
import Derived.Test.YtjehjbkcdpidbaaGreatB12

/- A struct of any number of one-cell fields as an argument; a row of writes in a field of it: what its reading says. -/
namespace Go.Proofs.YtjehjbkcdpidbaaGreat
namespace Lt
open Go.ChangeShapes Go.WideShapes Go.ChangeAt Go.RowKit Go.Joins Go.Deep Bk

section
variable {H : Type} {enc : TypeId × Value → H} {W : World}

instance : Inhabited Wr := ⟨⟨⟨#[]⟩, ⟨#[]⟩, false⟩⟩

set_option maxRecDepth 20000 in
theorem open_agg_any {r : Reach} {b0 : Nat} {t : TypeId} {fs : Array Field} {v : Value} {d : DataW H} {p : List MemPlace} (hs : Tryz.prog.underlying t = some (.struct fs)) (hone : oneCellFields Tryz.prog fs = true) (hC : Tryz.prog.cellsOf t = fs.size)
    (hv : Value.okWide Tryz.prog W r b0 t v) (h : DataW.Trod enc Tryz.prog W 0 (fun _ => true) true t v d p) :
    ∃ (cs : List Value) (xs : List (DataW H × List MemPlace)) (n : Nat), v = .agg cs.toArray ∧ cs.length = fs.size ∧ d = .agg (xs.map (·.1)) ∧ p = xs.flatMap (·.2) ∧ xs.length = fs.size ∧
      ∀ (i : Nat) (f : Field) (u : Value) (y : DataW H × List MemPlace), fs[i]? = some f → cs[i]? = some u → xs[i]? = some y → DataW.trod enc Tryz.prog W 0 (fun _ => true) true n f.type [u] = some y := by
  obtain ⟨cs, rfl, hsz⟩ := okWide_struct hs hv
  obtain ⟨fuel, hf⟩ := h
  obtain ⟨xs, n, _, hx, _, hlen, hall⟩ := DataW.trod_struct hs hf
  simp only [Prod.mk.injEq] at hx
  refine ⟨cs.toList, xs, n, by simp, by rw [Array.length_toList, hsz, hC], hx.1, hx.2, hlen, fun i f u y hi hu hy => ?_⟩
  obtain ⟨o, k⟩ := hone_of hone i f hi
  have h1 := hall i f hi
  rw [o, k, hy] at h1
  rw [← h1]
  congr 1
  have hlt : i < cs.toList.length := (List.getElem?_eq_some_iff.1 hu).1
  show [u] = List.take 1 (List.drop i cs.toList)
  rw [List.drop_eq_getElem_cons hlt, List.take_succ_cons, List.take_zero, (List.getElem?_eq_some_iff.1 hu).2]

theorem agg_weights {t : TypeId} {fs : Array Field} (hs : Tryz.prog.underlying t = some (.struct fs)) {xs : List (DataW H × List MemPlace)} {i : Nat} {f : Field} {y : DataW H × List MemPlace} (hi : fs[i]? = some f) (hy : xs[i]? = some y) (hw : ∀ k ∈ (DataW.agg (xs.map (·.1))).weights Tryz.prog t, k ≤ reachBytes) : ∀ k ∈ y.1.weights Tryz.prog f.type, k ≤ reachBytes := fun k hk => hw k (by
  simp only [DataW.weights, hs]
  exact DataW.weights_mem_each (ts := fs.toList.map (·.type)) (ds := xs.map (·.1)) (j := i) (by rw [List.getElem?_map, Array.getElem?_toList, hi]; rfl) (by rw [List.getElem?_map, hy]; rfl) k hk)

theorem field_int {t : TypeId} {v : Value} {fuel : Nat} {y : DataW H × List MemPlace} (ht : Tryz.prog.underlying t = some (.int .i64)) (hf : DataW.trod enc Tryz.prog W 0 (fun _ => true) true fuel t [v] = some y) : ∃ z, v = .int .i64 z ∧ -9223372036854775808 ≤ z ∧ z ≤ 9223372036854775807 := by
  obtain ⟨z, h1, _, h3⟩ := DataW.trod_int ht hf
  obtain rfl : v = .int .i64 z := by simpa using h1
  exact ⟨z, rfl, show IntKind.i64.min ≤ z ∧ z ≤ 9223372036854775807 by simpa [Lit.wf] using h3⟩

theorem field_text {t : TypeId} {v : Value} {fuel : Nat} {y : DataW H × List MemPlace} (ht : Tryz.prog.underlying t = some .string) (hf : DataW.trod enc Tryz.prog W 0 (fun _ => true) true fuel t [v] = some y) (hw : ∀ k ∈ y.1.weights Tryz.prog t, k ≤ reachBytes) : ∃ s : ByteArray, v = .string s ∧ s.size ≤ reachBytes := by
  obtain ⟨s, h1, rfl, _⟩ := DataW.trod_string ht hf
  obtain rfl : v = .string s := by simpa using h1
  exact ⟨s, rfl, by
    have := hw s.data.toList.length (by simp [DataW.weights])
    rwa [Array.length_toList] at this⟩

theorem field_bool {t : TypeId} {v : Value} {fuel : Nat} {y : DataW H × List MemPlace} (ht : Tryz.prog.underlying t = some .bool) (hf : DataW.trod enc Tryz.prog W 0 (fun _ => true) true fuel t [v] = some y) : ∃ b, v = .bool b := by
  obtain ⟨b, h1, _⟩ := DataW.trod_bool ht hf
  exact ⟨b, by simpa using h1⟩

set_option maxRecDepth 20000 in
theorem field_writes {t e : TypeId} {f0 f1 f2 : Field} {v : Value} {fuel : Nat} {y : DataW H × List MemPlace} (ht : Tryz.prog.underlying t = some (.slice e)) (he : Tryz.prog.underlying e = some (.struct #[f0, f1, f2])) (ce : Tryz.prog.cellsOf e = 3) (hone : oneCellFields Tryz.prog #[f0, f1, f2] = true)
    (t0 : Tryz.prog.underlying f0.type = some .string) (t1 : Tryz.prog.underlying f1.type = some .string) (t2 : Tryz.prog.underlying f2.type = some .bool) (hb40 : 16 ≤ Tryz.prog.bytesOf e)
    (hf : DataW.trod enc Tryz.prog W 0 (fun _ => true) true fuel t [v] = some y) (hwt : ∀ k ∈ y.1.weights Tryz.prog t, k ≤ reachBytes) (hl : ∀ x ∈ y.2, x.block < W.heap.size) :
    ∃ (A : Option Addr) (c : Nat) (L : List Wr), v = .slice A L.length c ∧ WrsAt W A L ∧ L.length * 16 ≤ reachBytes ∧ L.length ≤ c ∧ c ≤ maxLen ∧ (∀ x ∈ L, x.key.size ≤ reachBytes ∧ x.shard.size ≤ reachBytes) ∧ (A = none → L = [] ∧ c = 0) := by
  rcases open_slice ht hf with ⟨hcs, _⟩ | ⟨a, len, cap, m, n, D, Pl, hcs, _, hl', hm, hmm, hx, hall⟩
  · obtain rfl : v = .slice none 0 0 := by simpa using hcs
    exact ⟨none, 0, [], rfl, fun h => absurd h (by simp), by simp, by simp, Nat.zero_le _, by simp, fun _ => ⟨rfl, rfl⟩⟩
  · obtain rfl : v = .slice (some a) len cap := by simpa using hcs
    subst hx
    simp only [if_true] at hmm
    subst hmm
    have each : ∀ i, i < len → ∃ q : Wr, W.cell? (a.add (i * 3)) = some (.string q.key) ∧ W.cell? (a.add (i * 3 + 1)) = some (.string q.shard) ∧ W.cell? (a.add (i * 3 + 2)) = some (.bool q.dead) ∧ q.key.size ≤ reachBytes ∧ q.shard.size ≤ reachBytes := by
      intro i hi
      obtain ⟨cs', h1, h2⟩ := hall i (by omega)
      rw [ce] at h1
      obtain ⟨_, hlen, hcell⟩ := World.cells?_some h1
      have hwi : ∀ k ∈ (D i).weights Tryz.prog e, k ≤ reachBytes := fun k hk => hwt k (by
        simp only [DataW.weights, ht, List.mem_cons, List.mem_append]
        refine .inr (.inl ?_)
        have : ∀ (ds : List (DataW H)), D i ∈ ds → k ∈ DataW.weightsAll Tryz.prog e ds := by
          intro ds
          induction ds with
          | nil => intro h; simp at h
          | cons x r ih =>
            intro h
            show k ∈ x.weights Tryz.prog e ++ DataW.weightsAll Tryz.prog e r
            rw [List.mem_append]
            rcases List.mem_cons.1 h with rfl | h
            · exact .inl hk
            · exact .inr (ih h)
        exact this _ (List.mem_map.2 ⟨i, List.mem_range.2 hi, rfl⟩))
      obtain ⟨xs, k, _, hxy, _, hxl, hff⟩ := DataW.trod_struct he h2
      obtain ⟨o0, c0⟩ := hone_of hone 0 f0 rfl
      obtain ⟨o1, c1⟩ := hone_of hone 1 f1 rfl
      obtain ⟨o2, c2⟩ := hone_of hone 2 f2 rfl
      match xs, hxl, cs', hlen with
      | [y0, y1, y2], _, [v0, v1, v2], _ =>
        have g0 := hff 0 f0 rfl
        have g1 := hff 1 f1 rfl
        have g2 := hff 2 f2 rfl
        simp [o0, o1, o2, c0, c1, c2] at g0 g1 g2
        simp only [Prod.mk.injEq] at hxy
        rw [hxy.1] at hwi
        obtain ⟨k0, rfl, s0⟩ := field_text t0 g0 (agg_weights (i := 0) he rfl rfl hwi)
        obtain ⟨k1, rfl, s1⟩ := field_text t1 g1 (agg_weights (i := 1) he rfl rfl hwi)
        obtain ⟨k2, rfl⟩ := field_bool t2 g2
        have e0 := hcell 0 (by omega)
        have e1 := hcell 1 (by omega)
        have e2 := hcell 2 (by omega)
        rw [add_add] at e0 e1 e2
        exact ⟨⟨k0, k1, k2⟩, by simpa using e0, by simpa using e1, by simpa using e2, s0, s1⟩
    obtain ⟨q, hq⟩ := choose_lt each
    have hL : ((List.range len).map q).length = len := by simp
    have hat : ∀ i (h : i < ((List.range len).map q).length), ((List.range len).map q)[i] = q i := fun i h => by simp
    have hs := hwt ((((List.range len).map D).length + ((List.range (m - len)).map fun j => D (len + j)).length) * Tryz.prog.bytesOf e) (by simp [DataW.weights, ht])
    refine ⟨some a, m, (List.range len).map q, by rw [hL], fun hpos => ⟨a, rfl, ?_, fun i hi => ?_⟩, ?_, by rw [hL]; exact hl', hm, fun x hx => ?_, fun h => by cases h⟩
    · obtain ⟨b, off, spot⟩ := a
      rw [hL] at hpos
      exact hl (.cell b off) (List.mem_append_left _ (MemPlace.mem_row.2 ⟨0, by rw [ce]; omega, by simp⟩))
    · rw [hat i hi]
      have := hq i (by rw [hL] at hi; exact hi)
      exact ⟨this.1, this.2.1, this.2.2.1⟩
    · rw [hL]
      refine Nat.le_trans (Nat.mul_le_mul ?_ hb40) hs
      rw [List.length_map, List.length_range]
      omega
    · obtain ⟨i, hi, rfl⟩ := List.mem_map.1 hx
      exact (hq i (List.mem_range.1 hi)).2.2.2

/-- the ranges of what a letter holds -/
structure LetRng (l : Let) : Prop where
  kind : -9223372036854775808 ≤ l.kind ∧ l.kind ≤ 9223372036854775807
  src : -9223372036854775808 ≤ l.src ∧ l.src ≤ 9223372036854775807
  dst : -9223372036854775808 ≤ l.dst ∧ l.dst ≤ 9223372036854775807
  txn : -9223372036854775808 ≤ l.txn ∧ l.txn ≤ 9223372036854775807
  ts : -9223372036854775808 ≤ l.ts ∧ l.ts ≤ 9223372036854775807
  code : -9223372036854775808 ≤ l.code ∧ l.code ≤ 9223372036854775807
  text : l.text.size ≤ reachBytes
  k16 : l.keys.length * 16 ≤ reachBytes
  w16 : l.ws.length * 16 ≤ reachBytes
  kr : ∀ s ∈ l.keys, s.size ≤ reachBytes
  wr : ∀ x ∈ l.ws, x.key.size ≤ reachBytes ∧ x.shard.size ≤ reachBytes

/-- .. and of what a letter as an argument holds -/
structure LetRange (l : Let) (c d : Nat) : Prop extends LetRng l where
  kc : l.keys.length ≤ c
  wd : l.ws.length ≤ d
  c63 : c ≤ maxLen
  d63 : d ≤ maxLen

/-- the value of a letter -/
def letV (l : Let) (A B : Option Addr) (c d : Nat) : Value := .agg #[.int .i64 l.kind, .int .i64 l.src, .int .i64 l.dst, .int .i64 l.txn, .int .i64 l.ts, .int .i64 l.code, .string l.text, .slice A l.keys.length c, .slice B l.ws.length d]

/-- the value is a letter that holds these -/
def LetArg (w : World) (v : Value) (l : Let) : Prop :=
  ∃ (A B : Option Addr) (c d : Nat), v = letV l A B c d ∧ StrsAt w A l.keys ∧ WrsAt w B l.ws ∧ LetRange l c d ∧ (A = none → l.keys = [] ∧ c = 0) ∧ (B = none → l.ws = [] ∧ d = 0)

set_option maxRecDepth 20000 in
theorem open_letter {base : Nat} {v : Value} {d : DataW H} {p : List MemPlace} {ts : List TypeId} {ds : List (DataW H)} {j : Nat}
    (hsz : (DataW.weightsEach Tryz.prog ts ds).all (· ≤ reachBytes) = true) (hj : ts[j]? = some 190) (hd : ds[j]? = some d)
    (hv : Value.okWide Tryz.prog W .any base 190 v) (h : DataW.Trod enc Tryz.prog W 0 (fun _ => true) true 190 v d p) (hl : ∀ x ∈ p, x.block < W.heap.size) : ∃ l, LetArg W v l := by
  obtain ⟨cs, xs, n, rfl, hcl, rfl, rfl, hxl, hall⟩ := open_agg_any Tryz.underlying190 (by kernel_rfl) (by kernel_rfl) hv h
  have hw := arg_weights hsz hj hd
  match cs, hcl, xs, hxl with
  | [v0, v1, v2, v3, v4, v5, v6, v7, v8], _, [y0, y1, y2, y3, y4, y5, y6, y7, y8], _ =>
    obtain ⟨kind, rfl, r0⟩ := field_int Tryz.underlying3 (hall 0 _ _ _ rfl rfl rfl)
    obtain ⟨src, rfl, r1⟩ := field_int Tryz.underlying3 (hall 1 _ _ _ rfl rfl rfl)
    obtain ⟨dst, rfl, r2⟩ := field_int Tryz.underlying3 (hall 2 _ _ _ rfl rfl rfl)
    obtain ⟨txn, rfl, r3⟩ := field_int Tryz.underlying3 (hall 3 _ _ _ rfl rfl rfl)
    obtain ⟨ts', rfl, r4⟩ := field_int Tryz.underlying3 (hall 4 _ _ _ rfl rfl rfl)
    obtain ⟨code, rfl, r5⟩ := field_int Tryz.underlying3 (hall 5 _ _ _ rfl rfl rfl)
    obtain ⟨text, rfl, r6⟩ := field_text Tryz.underlying9 (hall 6 _ _ _ rfl rfl rfl) (agg_weights (i := 6) Tryz.underlying190 rfl rfl hw)
    obtain ⟨A, c, K, rfl, a1, a2, a3, a4, a5, a6⟩ := field_texts Tryz.underlying37 Tryz.underlying9 (by kernel_rfl) (by kernel_rfl) (hall 7 _ _ _ rfl rfl rfl) (agg_weights (i := 7) Tryz.underlying190 rfl rfl hw) (fun x hx => hl x (List.mem_flatMap.2 ⟨y7, by simp, hx⟩))
    obtain ⟨B, d, L, rfl, b1, b2, b3, b4, b5, b6⟩ := field_writes Tryz.underlying47 Tryz.underlying139 (by kernel_rfl) (by kernel_rfl) Tryz.underlying9 Tryz.underlying9 Tryz.underlying4 (of_decide_eq_true (by kernel_rfl)) (hall 8 _ _ _ rfl rfl rfl) (agg_weights (i := 8) Tryz.underlying190 rfl rfl hw) (fun x hx => hl x (List.mem_flatMap.2 ⟨y8, by simp, hx⟩))
    exact ⟨⟨kind, src, dst, txn, ts', code, text, K, L⟩, A, B, c, d, rfl, a1, b1, ⟨⟨r0, r1, r2, r3, r4, r5, r6, a2, b2, a5, b5⟩, a3, b3, a4, b4⟩, a6, b6⟩

end

end Lt
end Go.Proofs.YtjehjbkcdpidbaaGreat

/- A letter as an argument, its writes counted at forty bytes each: what its reading says. -/
namespace Go.Proofs.YtjehjbkcdpidbaaGreat
namespace Lt
open Go.ChangeShapes Go.WideShapes Go.ChangeAt Go.RowKit Go.Joins Go.Deep Bk

section
variable {H : Type} {enc : TypeId × Value → H} {W : World}

set_option maxRecDepth 20000 in
theorem field_writes40 {t e : TypeId} {f0 f1 f2 : Field} {v : Value} {fuel : Nat} {y : DataW H × List MemPlace} (ht : Tryz.prog.underlying t = some (.slice e)) (he : Tryz.prog.underlying e = some (.struct #[f0, f1, f2])) (ce : Tryz.prog.cellsOf e = 3) (hone : oneCellFields Tryz.prog #[f0, f1, f2] = true)
    (t0 : Tryz.prog.underlying f0.type = some .string) (t1 : Tryz.prog.underlying f1.type = some .string) (t2 : Tryz.prog.underlying f2.type = some .bool) (hb40 : 40 ≤ Tryz.prog.bytesOf e)
    (hf : DataW.trod enc Tryz.prog W 0 (fun _ => true) true fuel t [v] = some y) (hwt : ∀ k ∈ y.1.weights Tryz.prog t, k ≤ reachBytes) (hl : ∀ x ∈ y.2, x.block < W.heap.size) :
    ∃ (A : Option Addr) (c : Nat) (L : List Wr), v = .slice A L.length c ∧ WrsAt W A L ∧ L.length * 40 ≤ reachBytes ∧ L.length ≤ c ∧ c ≤ maxLen ∧ (∀ x ∈ L, x.key.size ≤ reachBytes ∧ x.shard.size ≤ reachBytes) ∧ (A = none → L = [] ∧ c = 0) := by
  rcases open_slice ht hf with ⟨hcs, _⟩ | ⟨a, len, cap, m, n, D, Pl, hcs, _, hl', hm, hmm, hx, hall⟩
  · obtain rfl : v = .slice none 0 0 := by simpa using hcs
    exact ⟨none, 0, [], rfl, fun h => absurd h (by simp), by simp, by simp, Nat.zero_le _, by simp, fun _ => ⟨rfl, rfl⟩⟩
  · obtain rfl : v = .slice (some a) len cap := by simpa using hcs
    subst hx
    simp only [if_true] at hmm
    subst hmm
    have each : ∀ i, i < len → ∃ q : Wr, W.cell? (a.add (i * 3)) = some (.string q.key) ∧ W.cell? (a.add (i * 3 + 1)) = some (.string q.shard) ∧ W.cell? (a.add (i * 3 + 2)) = some (.bool q.dead) ∧ q.key.size ≤ reachBytes ∧ q.shard.size ≤ reachBytes := by
      intro i hi
      obtain ⟨cs', h1, h2⟩ := hall i (by omega)
      rw [ce] at h1
      obtain ⟨_, hlen, hcell⟩ := World.cells?_some h1
      have hwi : ∀ k ∈ (D i).weights Tryz.prog e, k ≤ reachBytes := fun k hk => hwt k (by
        simp only [DataW.weights, ht, List.mem_cons, List.mem_append]
        refine .inr (.inl ?_)
        have : ∀ (ds : List (DataW H)), D i ∈ ds → k ∈ DataW.weightsAll Tryz.prog e ds := by
          intro ds
          induction ds with
          | nil => intro h; simp at h
          | cons x r ih =>
            intro h
            show k ∈ x.weights Tryz.prog e ++ DataW.weightsAll Tryz.prog e r
            rw [List.mem_append]
            rcases List.mem_cons.1 h with rfl | h
            · exact .inl hk
            · exact .inr (ih h)
        exact this _ (List.mem_map.2 ⟨i, List.mem_range.2 hi, rfl⟩))
      obtain ⟨xs, k, _, hxy, _, hxl, hff⟩ := DataW.trod_struct he h2
      obtain ⟨o0, c0⟩ := hone_of hone 0 f0 rfl
      obtain ⟨o1, c1⟩ := hone_of hone 1 f1 rfl
      obtain ⟨o2, c2⟩ := hone_of hone 2 f2 rfl
      match xs, hxl, cs', hlen with
      | [y0, y1, y2], _, [v0, v1, v2], _ =>
        have g0 := hff 0 f0 rfl
        have g1 := hff 1 f1 rfl
        have g2 := hff 2 f2 rfl
        simp [o0, o1, o2, c0, c1, c2] at g0 g1 g2
        simp only [Prod.mk.injEq] at hxy
        rw [hxy.1] at hwi
        obtain ⟨k0, rfl, s0⟩ := field_text t0 g0 (agg_weights (i := 0) he rfl rfl hwi)
        obtain ⟨k1, rfl, s1⟩ := field_text t1 g1 (agg_weights (i := 1) he rfl rfl hwi)
        obtain ⟨k2, rfl⟩ := field_bool t2 g2
        have e0 := hcell 0 (by omega)
        have e1 := hcell 1 (by omega)
        have e2 := hcell 2 (by omega)
        rw [add_add] at e0 e1 e2
        exact ⟨⟨k0, k1, k2⟩, by simpa using e0, by simpa using e1, by simpa using e2, s0, s1⟩
    obtain ⟨q, hq⟩ := choose_lt each
    have hL : ((List.range len).map q).length = len := by simp
    have hat : ∀ i (h : i < ((List.range len).map q).length), ((List.range len).map q)[i] = q i := fun i h => by simp
    have hs := hwt ((((List.range len).map D).length + ((List.range (m - len)).map fun j => D (len + j)).length) * Tryz.prog.bytesOf e) (by simp [DataW.weights, ht])
    refine ⟨some a, m, (List.range len).map q, by rw [hL], fun hpos => ⟨a, rfl, ?_, fun i hi => ?_⟩, ?_, by rw [hL]; exact hl', hm, fun x hx => ?_, fun h => by cases h⟩
    · obtain ⟨b, off, spot⟩ := a
      rw [hL] at hpos
      exact hl (.cell b off) (List.mem_append_left _ (MemPlace.mem_row.2 ⟨0, by rw [ce]; omega, by simp⟩))
    · rw [hat i hi]
      have := hq i (by rw [hL] at hi; exact hi)
      exact ⟨this.1, this.2.1, this.2.2.1⟩
    · rw [hL]
      refine Nat.le_trans (Nat.mul_le_mul ?_ hb40) hs
      rw [List.length_map, List.length_range]
      omega
    · obtain ⟨i, hi, rfl⟩ := List.mem_map.1 hx
      exact (hq i (List.mem_range.1 hi)).2.2.2

/-- .. and forty bytes for each of its writes -/
def LetArg2 (w : World) (v : Value) (l : Let) : Prop :=
  ∃ (A B : Option Addr) (c d : Nat), v = letV l A B c d ∧ StrsAt w A l.keys ∧ WrsAt w B l.ws ∧ LetRange l c d ∧ (A = none → l.keys = [] ∧ c = 0) ∧ (B = none → l.ws = [] ∧ d = 0) ∧ l.ws.length * 40 ≤ reachBytes

set_option maxRecDepth 20000 in
theorem open_letter2 {base : Nat} {v : Value} {d : DataW H} {p : List MemPlace} {ts : List TypeId} {ds : List (DataW H)} {j : Nat}
    (hsz : (DataW.weightsEach Tryz.prog ts ds).all (· ≤ reachBytes) = true) (hj : ts[j]? = some 190) (hd : ds[j]? = some d)
    (hv : Value.okWide Tryz.prog W .any base 190 v) (h : DataW.Trod enc Tryz.prog W 0 (fun _ => true) true 190 v d p) (hl : ∀ x ∈ p, x.block < W.heap.size) : ∃ l, LetArg2 W v l := by
  obtain ⟨cs, xs, n, rfl, hcl, rfl, rfl, hxl, hall⟩ := open_agg_any Tryz.underlying190 (by kernel_rfl) (by kernel_rfl) hv h
  have hw := arg_weights hsz hj hd
  match cs, hcl, xs, hxl with
  | [v0, v1, v2, v3, v4, v5, v6, v7, v8], _, [y0, y1, y2, y3, y4, y5, y6, y7, y8], _ =>
    obtain ⟨kind, rfl, r0⟩ := field_int Tryz.underlying3 (hall 0 _ _ _ rfl rfl rfl)
    obtain ⟨src, rfl, r1⟩ := field_int Tryz.underlying3 (hall 1 _ _ _ rfl rfl rfl)
    obtain ⟨dst, rfl, r2⟩ := field_int Tryz.underlying3 (hall 2 _ _ _ rfl rfl rfl)
    obtain ⟨txn, rfl, r3⟩ := field_int Tryz.underlying3 (hall 3 _ _ _ rfl rfl rfl)
    obtain ⟨ts', rfl, r4⟩ := field_int Tryz.underlying3 (hall 4 _ _ _ rfl rfl rfl)
    obtain ⟨code, rfl, r5⟩ := field_int Tryz.underlying3 (hall 5 _ _ _ rfl rfl rfl)
    obtain ⟨text, rfl, r6⟩ := field_text Tryz.underlying9 (hall 6 _ _ _ rfl rfl rfl) (agg_weights (i := 6) Tryz.underlying190 rfl rfl hw)
    obtain ⟨A, c, K, rfl, a1, a2, a3, a4, a5, a6⟩ := field_texts Tryz.underlying37 Tryz.underlying9 (by kernel_rfl) (by kernel_rfl) (hall 7 _ _ _ rfl rfl rfl) (agg_weights (i := 7) Tryz.underlying190 rfl rfl hw) (fun x hx => hl x (List.mem_flatMap.2 ⟨y7, by simp, hx⟩))
    obtain ⟨B, d, L, rfl, b1, b2, b3, b4, b5, b6⟩ := field_writes40 Tryz.underlying47 Tryz.underlying139 (by kernel_rfl) (by kernel_rfl) Tryz.underlying9 Tryz.underlying9 Tryz.underlying4 (of_decide_eq_true (by kernel_rfl)) (hall 8 _ _ _ rfl rfl rfl) (agg_weights (i := 8) Tryz.underlying190 rfl rfl hw) (fun x hx => hl x (List.mem_flatMap.2 ⟨y8, by simp, hx⟩))
    exact ⟨⟨kind, src, dst, txn, ts', code, text, K, L⟩, A, B, c, d, rfl, a1, b1, ⟨⟨r0, r1, r2, r3, r4, r5, r6, a2, Nat.le_trans (Nat.mul_le_mul_left _ (by omega)) b2, a5, b5⟩, a3, b3, a4, b4⟩, a6, b6, b2⟩

end

end Lt
end Go.Proofs.YtjehjbkcdpidbaaGreat

/- What the document's own Check of letters answers; contract; no condition but the range. -/
namespace Go.Proofs.YtjehjbkcdpidbaaGreat
namespace Lt
open Go.RowKit Bk

attribute [local go_sem ↓] Go.wp_at_zero Go.wp_at_succ
attribute [local go_sem] floatUpon pick

/-- what a walk over a letter keeps: its lists, its cells, what was there -/
structure LtEnv (w W : World) (g : Nat) (A B : Option Addr) (c d : Nat) (l : Let) : Prop where
  ks : StrsAt W A l.keys
  ws : WrsAt W B l.ws
  cel : Cel W g 190 [.int .i64 l.kind, .int .i64 l.src, .int .i64 l.dst, .int .i64 l.txn, .int .i64 l.ts, .int .i64 l.code, .string l.text, .slice A l.keys.length c, .slice B l.ws.length d]
  bel : Below w.heap.size w W

theorem LtEnv.step {w W W' : World} {g : Nat} {A B : Option Addr} {c d : Nat} {l : Let} (h : LtEnv w W g A B c d l) (hb : Below W.heap.size W W') : LtEnv w W' g A B c d l :=
  ⟨h.ks.below hb, h.ws.below hb, h.cel.below hb, h.bel.trans (hb.mono h.bel.size)⟩

theorem LtEnv.start {w : World} {A B : Option Addr} {c d : Nat} {l : Let} (ha : StrsAt w A l.keys) (hb : WrsAt w B l.ws) :
    LtEnv w (w.alloc (.cells #[.int .i64 l.kind, .int .i64 l.src, .int .i64 l.dst, .int .i64 l.txn, .int .i64 l.ts, .int .i64 l.code, .string l.text, .slice A l.keys.length c, .slice B l.ws.length d] 190)) w.heap.size A B c d l :=
  ⟨ha.alloc _, hb.alloc _, (blk1 w _).2, (Below.refl _ w).alloc (Nat.le_refl _) _⟩

open Classical in
/-- what Check answers -/
noncomputable def ckN (l : Let) : Nat := if LetOk l then 0 else 70

theorem ckN_ok {l : Let} (h : headOk l) (h2 : kindOk l) : ckN l = 0 := by unfold ckN; rw [if_pos ⟨h, h2⟩]
theorem ckN_bad {l : Let} (h : ¬ kindOk l) : ckN l = 70 := by unfold ckN; rw [if_neg (fun hh => h hh.2)]
theorem ckN_head {l : Let} (h : ¬ headOk l) : ckN l = 70 := by unfold ckN; rw [if_neg (fun hh => h hh.1)]
theorem ckN_zero {l : Let} : ckN l = 0 ↔ LetOk l := by
  unfold ckN
  split
  · next h => exact ⟨fun _ => h, fun _ => rfl⟩
  · next h => exact ⟨fun e => by omega, fun hh => absurd hh h⟩
theorem ckN_cases (l : Let) : ckN l = 0 ∨ ckN l = 70 := by unfold ckN; split <;> simp

def OneOk (l : Let) : Prop := l.keys.length = 1 ∧ (∀ k ∈ l.keys, keyOk k) ∧ l.ws = []
def BareOk (l : Let) : Prop := l.keys = [] ∧ l.ws = [] ∧ l.text = ⟨#[]⟩

theorem kind_1 {l : Let} (h : l.kind = 1) : kindOk l ↔ OneOk l ∧ l.text = ⟨#[]⟩ ∧ l.code = 0 := by
  constructor
  · rintro (h2 | h2 | h2 | h2 | h2 | h2)
    · exact h2.2
    all_goals omega
  · intro h2; exact .inl ⟨h, h2⟩
theorem kind_2 {l : Let} (h : l.kind = 2) : kindOk l ↔ OneOk l ∧ l.text.size ≤ 2052 ∧ (l.text = ⟨#[]⟩ ∨ l.code = 1) := by
  constructor
  · rintro (h2 | h2 | h2 | h2 | h2 | h2)
    · omega
    · exact h2.2
    all_goals omega
  · intro h2; exact .inr (.inl ⟨h, h2⟩)
theorem kind_3 {l : Let} (h : l.kind = 3) : kindOk l ↔ l.keys.length ≤ 16 ∧ Rises l.keys ∧ WritesOk l.ws ∧ l.text = ⟨#[]⟩ ∧ l.code = 0 := by
  constructor
  · rintro (h2 | h2 | h2 | h2 | h2 | h2)
    · omega
    · omega
    · exact h2.2
    all_goals omega
  · intro h2; exact .inr (.inr (.inl ⟨h, h2⟩))
theorem kind_4 {l : Let} (h : l.kind = 4) : kindOk l ↔ BareOk l ∧ l.code ≤ 1 := by
  constructor
  · rintro (h2 | h2 | h2 | h2 | h2 | h2)
    · omega
    · omega
    · omega
    · exact h2.2
    all_goals omega
  · intro h2; exact .inr (.inr (.inr (.inl ⟨h, h2⟩)))
theorem kind_5 {l : Let} (h : l.kind = 5 ∨ l.kind = 6 ∨ l.kind = 7) : kindOk l ↔ BareOk l ∧ l.code = 0 := by
  constructor
  · rintro (h2 | h2 | h2 | h2 | h2 | h2)
    · omega
    · omega
    · omega
    · omega
    · exact h2.2
    · omega
  · intro h2; exact .inr (.inr (.inr (.inr (.inl ⟨h, h2⟩))))
theorem kind_8 {l : Let} (h : l.kind = 8) : kindOk l ↔ BareOk l ∧ l.code ≤ 2 := by
  constructor
  · rintro (h2 | h2 | h2 | h2 | h2 | h2)
    · omega
    · omega
    · omega
    · omega
    · omega
    · exact h2.2
  · intro h2; exact .inr (.inr (.inr (.inr (.inr ⟨h, h2⟩))))
theorem kind_no {l : Let} (h : l.kind < 1 ∨ 8 < l.kind) : ¬ kindOk l := by
  rintro (h2 | h2 | h2 | h2 | h2 | h2) <;> omega

theorem empty_list {s : ByteArray} (h : s ≠ ⟨#[]⟩) : ¬ s.toList = [] := fun e => h (by
  rw [ByteArray.toList_eq] at e
  obtain ⟨a⟩ := s
  congr 1
  exact Array.toList_inj.1 e)

theorem list_one {l : List ByteArray} (h : l.length = 1) : ∃ k, l = [k] := by
  match l, h with
  | [k], _ => exact ⟨k, rfl⟩


end Lt
end Go.Proofs.YtjehjbkcdpidbaaGreat

/- What the document's own numbers of packs are; contracts; no condition but the range. -/
namespace Go.Proofs.YtjehjbkcdpidbaaGreat
namespace Pk
open Go.RowKit Bk

attribute [local go_sem ↓] Go.wp_at_zero Go.wp_at_succ
attribute [local go_sem] floatUpon pick

theorem byteCells_snoc (O : List UInt8) (x : Nat) (h : x < 256) : Lib.byteCells O ++ [.int .u8 (x : Int)] = Lib.byteCells (O ++ [UInt8.ofNat x]) := by
  unfold Lib.byteCells
  rw [List.map_append, List.map_cons, UInt8.toNat_ofNat_of_lt' (by show x < 256; exact h)]; rfl

theorem u8_wrap {x : Int} (h0 : 0 ≤ x) (h1 : x < 256) : IntKind.u8.wrap x = x := by
  simp only [IntKind.wrap, IntKind.bits, IntKind.signed]; simp; omega

/-- what Number answers -/
def numV (z : Int) : Value := if numOk z then .tuple #[.string ⟨(signed z).toArray⟩, .int .i64 0] else .tuple #[.string ⟨#[]⟩, .int .i64 1]

end Pk
end Go.Proofs.YtjehjbkcdpidbaaGreat

/- What the document's own Check of packs answers; contract; no condition but the range. -/
namespace Go.Proofs.YtjehjbkcdpidbaaGreat
namespace Pk
open Go.RowKit Bk

attribute [local go_sem ↓] Go.wp_at_zero Go.wp_at_succ
attribute [local go_sem] floatUpon pick

/-- the value of a pack -/
def packV (A B : Option Addr) (c d : Nat) (ns : List Int) (ts : List ByteArray) : Value := .agg #[.slice A ns.length c, .slice B ts.length d]

/-- .. that holds these -/
def Holds (w : World) (v : Value) (ns : List Int) (ts : List ByteArray) : Prop :=
  ∃ (A B : Option Addr) (c d : Nat), v = packV A B c d ns ts ∧ IntsAt w A ns ∧ StrsAt w B ts

theorem Holds.below {w w' : World} {v : Value} {ns : List Int} {ts : List ByteArray} (h : Holds w v ns ts) (hb : Below w.heap.size w w') : Holds w' v ns ts := by
  obtain ⟨A, B, c, d, h1, h2, h3⟩ := h
  exact ⟨A, B, c, d, h1, h2.below hb, h3.below hb⟩

theorem ckE_long {ns : List Int} {ts : List ByteArray} (h : 1024 < ns.length ∨ 1024 < ts.length) : ckE ns ts = 2 := by unfold ckE; rw [if_pos h]

theorem ckE_num {ns : List Int} {ts : List ByteArray} (h : ¬ (1024 < ns.length ∨ 1024 < ts.length)) {z : Int} (hz : z ∈ ns) (hn : ¬ numOk z) : ckE ns ts = 1 := by
  unfold ckE
  rw [if_neg h, if_pos (fun hh => hn (hh z hz))]

theorem ckE_text {ns : List Int} {ts : List ByteArray} (h : ¬ (1024 < ns.length ∨ 1024 < ts.length)) (h2 : ∀ n ∈ ns, numOk n) {t : ByteArray} (ht : t ∈ ts) (hn : 4096 < t.size) : ckE ns ts = 2 := by
  unfold ckE
  rw [if_neg h, if_neg (fun hh => hh h2), if_pos (fun hh => by have := hh t ht; omega)]

theorem ckE_ok {ns : List Int} {ts : List ByteArray} (h : ¬ (1024 < ns.length ∨ 1024 < ts.length)) (h2 : ∀ n ∈ ns, numOk n) (h3 : ∀ t ∈ ts, t.size ≤ 4096) : ckE ns ts = 0 := ckE_zero.2 ⟨by omega, by omega, h2, h3⟩

theorem mem_take_succ {α : Type} {l : List α} {j : Nat} (h : j < l.length) {p : α → Prop} (h1 : ∀ x ∈ l.take j, p x) (h2 : p l[j]) : ∀ x ∈ l.take (j + 1), p x := by
  intro x hx
  rw [List.take_add_one, List.getElem?_eq_getElem h] at hx
  rcases List.mem_append.1 hx with hx | hx
  · exact h1 x hx
  · rw [Option.toList_some, List.mem_singleton] at hx
    rw [hx]; exact h2

end Pk
end Go.Proofs.YtjehjbkcdpidbaaGreat

/- What the document's own Bytes and Encode of packs answer; contracts; no condition but the range. -/
namespace Go.Proofs.YtjehjbkcdpidbaaGreat
namespace Pk
open Go.RowKit Bk

attribute [local go_sem ↓] Go.wp_at_zero Go.wp_at_succ
attribute [local go_sem] floatUpon pick

theorem cat_size (L : List UInt8) : (⟨L.toArray⟩ : ByteArray).size = L.length := by
  show L.toArray.size = _
  simp

theorem text_cat (L M : List UInt8) : (⟨L.toArray⟩ : ByteArray) ++ ⟨M.toArray⟩ = ⟨(L ++ M).toArray⟩ := by rw [← ByteArray.mk_append_mk]

theorem numsL_succ {ns : List Int} {j : Nat} (h : j < ns.length) : numsL (ns.take (j + 1)) = numsL (ns.take j) ++ signed ns[j] := by
  unfold numsL
  rw [List.take_add_one, List.getElem?_eq_getElem h, List.flatMap_append]
  simp

theorem textsL_succ {ts : List ByteArray} {j : Nat} (h : j < ts.length) : textsL (ts.take (j + 1)) = textsL (ts.take j) ++ textL ts[j] := by
  unfold textsL
  rw [List.take_add_one, List.getElem?_eq_getElem h, List.flatMap_append]
  simp

theorem bytesL_at {ns : List Int} {ts : List ByteArray} (h : MayBe ns ts) (j k : Nat) : (plain ns.length ++ numsL (ns.take j)).length ≤ 5000000 ∧ (plain ns.length ++ (numsL ns ++ (plain ts.length ++ textsL (ts.take k)))).length ≤ 5000000 := by
  obtain ⟨h1, h2, h3, h4⟩ := h
  have b1 : MayBe (ns.take j) [] := ⟨by rw [List.length_take]; omega, by simp, fun n hn => h3 n (List.mem_of_mem_take hn), by simp⟩
  have a1 := plain_len 9 ns.length (by show _ < 9223372036854775808; omega) (by omega)
  have a2 := plain_len 9 ts.length (by show _ < 9223372036854775808; omega) (by omega)
  have a3 := numsL_le ns h3
  have a4 := numsL_le (ns.take j) (fun n hn => h3 n (List.mem_of_mem_take hn))
  have a5 := textsL_le (ts.take k) (fun n hn => h4 n (List.mem_of_mem_take hn))
  rw [List.length_take] at a4 a5
  simp only [List.length_append]
  omega

/-- what a walk over a pack keeps: its lists, its two cells, what was there -/
def PkEnv (w W : World) (g : Nat) (A B : Option Addr) (c d : Nat) (ns : List Int) (ts : List ByteArray) : Prop :=
  IntsAt W A ns ∧ StrsAt W B ts ∧ Cel W g 88 [.slice A ns.length c, .slice B ts.length d] ∧ Below w.heap.size w W

theorem PkEnv.step {w W W' : World} {g : Nat} {A B : Option Addr} {c d : Nat} {ns : List Int} {ts : List ByteArray} (h : PkEnv w W g A B c d ns ts) (hb : Below W.heap.size W W') : PkEnv w W' g A B c d ns ts :=
  ⟨h.1.below hb, h.2.1.below hb, h.2.2.1.below hb, h.2.2.2.trans (hb.mono h.2.2.2.size)⟩

theorem PkEnv.start {w : World} {A B : Option Addr} {c d : Nat} {ns : List Int} {ts : List ByteArray} (ha : IntsAt w A ns) (hb : StrsAt w B ts) :
    PkEnv w (w.alloc (.cells #[.slice A ns.length c, .slice B ts.length d] 88)) w.heap.size A B c d ns ts :=
  ⟨ha.alloc _, hb.alloc _, (blk1 w _).2, (Below.refl _ w).alloc (Nat.le_refl _) _⟩

theorem PkEnv.c0 {w W : World} {g : Nat} {A B : Option Addr} {c d : Nat} {ns : List Int} {ts : List ByteArray} (h : PkEnv w W g A B c d ns ts) : W.cell? ⟨g, 0, none⟩ = some (.slice A ns.length c) := h.2.2.1.cell rfl
theorem PkEnv.c1 {w W : World} {g : Nat} {A B : Option Addr} {c d : Nat} {ns : List Int} {ts : List ByteArray} (h : PkEnv w W g A B c d ns ts) : W.cell? ⟨g, 1, none⟩ = some (.slice B ts.length d) := h.2.2.1.cell rfl

/-- what Encode answers -/
def encV (ns : List Int) (ts : List ByteArray) : Value := if ckE ns ts = 0 then .tuple #[.string ⟨(bytesL ns ts).toArray⟩, .int .i64 0] else .tuple #[.string ⟨#[]⟩, .int .i64 (ckE ns ts : Int)]

theorem encV_ok {ns : List Int} {ts : List ByteArray} (h : MayBe ns ts) : encV ns ts = .tuple #[.string ⟨(bytesL ns ts).toArray⟩, .int .i64 0] := by unfold encV; rw [if_pos (ckE_zero.2 h)]
theorem encV_bad {ns : List Int} {ts : List ByteArray} (h : ckE ns ts ≠ 0) : encV ns ts = .tuple #[.string ⟨#[]⟩, .int .i64 (ckE ns ts : Int)] := by unfold encV; rw [if_neg h]

theorem ckE_le (ns : List Int) (ts : List ByteArray) : ckE ns ts ≤ 2 := by
  unfold ckE
  split
  · omega
  · split
    · omega
    · split <;> omega

/-- the range of what a pack as an argument holds -/
def InRange (ns : List Int) (ts : List ByteArray) : Prop :=
  ns.length ≤ 9223372036854775807 ∧ ts.length ≤ 9223372036854775807 ∧ (∀ n ∈ ns, -9223372036854775808 ≤ n ∧ n ≤ 9223372036854775807) ∧ ∀ t ∈ ts, t.size ≤ 9223372036854775807

end Pk
end Go.Proofs.YtjehjbkcdpidbaaGreat

/- What the document's own reading of numbers answers; contracts; no condition but the range. -/
namespace Go.Proofs.YtjehjbkcdpidbaaGreat
namespace Pk
open Go.RowKit Bk

attribute [local go_sem ↓] Go.wp_at_zero Go.wp_at_succ
attribute [local go_sem] floatUpon pick

/-- i bytes are read, they say x -/
def liftR (i x : Nat) : Rd → Rd
  | .ok n u => .ok (x + 128 ^ i * n) (i + u)
  | .fin => .fin
  | .form => .form

theorem liftR_push (i x y : Nat) (r : Rd) : liftR i x (r.push y) = liftR (i + 1) (x + 128 ^ i * y) r := by
  cases r with
  | ok n u =>
    simp only [Rd.push, liftR, Rd.ok.injEq]
    refine ⟨?_, by omega⟩
    rw [Nat.mul_add, Nat.pow_succ, Nat.add_assoc, Nat.mul_assoc]
  | fin => rfl
  | form => rfl

theorem readK_hi {k i : Nat} {b : UInt8} {r : List UInt8} (h : 128 ≤ b.toNat) : readK (k + 1) i (b :: r) = (readK k (i + 1) r).push (b.toNat % 128) := by
  rw [readK, if_neg (by omega)]

theorem readK_zero {k i : Nat} {b : UInt8} {r : List UInt8} (h : b.toNat = 0) (hi : 0 < i) : readK (k + 1) i (b :: r) = .form := by
  rw [readK, if_pos (by omega), if_pos ⟨h, hi⟩]

theorem readK_last {k i : Nat} {b : UInt8} {r : List UInt8} (h : b.toNat < 128) (hi : ¬ (b.toNat = 0 ∧ 0 < i)) : readK (k + 1) i (b :: r) = .ok b.toNat 1 := by
  rw [readK, if_pos h, if_neg hi]

/-- what read answers -/
def readV (s : ByteArray) (a : Nat) : Value :=
  match readR (s.data.toList.drop a) with
  | .ok n u => .tuple #[.int .i64 (n : Int), .int .i64 ((a + u : Nat) : Int), .int .i64 0]
  | .fin => .tuple #[.int .i64 0, .int .i64 (s.size : Int), .int .i64 50]
  | .form => .tuple #[.int .i64 0, .int .i64 (a : Int), .int .i64 3]

theorem list_size (s : ByteArray) : s.data.toList.length = s.size := Array.length_toList

theorem drop_at (s : ByteArray) (p : Nat) (h : p < s.size) : s.data.toList.drop p = s[p] :: s.data.toList.drop (p + 1) := by
  have h' : p < s.data.toList.length := by rw [list_size]; exact h
  rw [List.drop_eq_getElem_cons h', Array.getElem_toList]; rfl

theorem pow128 (n : Nat) : 128 ^ n = 2 ^ (7 * n) := by rw [Nat.pow_mul]

/-- what count answers -/
def cntV (s : ByteArray) (a most : Nat) : Value :=
  match readR (s.data.toList.drop a) with
  | .ok n u => if most < n then .tuple #[.int .i64 0, .int .i64 (a : Int), .int .i64 2] else .tuple #[.int .i64 (n : Int), .int .i64 ((a + u : Nat) : Int), .int .i64 0]
  | .fin => .tuple #[.int .i64 0, .int .i64 (s.size : Int), .int .i64 50]
  | .form => .tuple #[.int .i64 0, .int .i64 (a : Int), .int .i64 3]

end Pk
end Go.Proofs.YtjehjbkcdpidbaaGreat

/- What a walk over Decode of packs keeps; the decoding, carried on; no condition. -/
namespace Go.Proofs.YtjehjbkcdpidbaaGreat
namespace Pk
open Go.RowKit Bk

theorem Tryz.infoInt : (Tryz.prog.info? 3).map (fun i => (i.zero, i.size, i.bytes)) = some (some (.int .i64 0), 1, 8) := by kernel_rfl

/-- the pack that is made, in block g: its two cells, the rows that they own, what was there -/
structure DcEnv (w W : World) (g : Nat) (v1 v2 : Value) (ns : List Int) (ts : List ByteArray) : Prop where
  cel : Cel W g 88 [v1, v2]
  r0 : W.ownsRow (g + 1) 3 1 v1 ns.length (intV ns)
  r1 : W.ownsRow (g + 1) 9 1 v2 ts.length (strV ts)
  d : Unlike v1 v2
  bel : Below g w W

theorem DcEnv.lt {w W : World} {g : Nat} {v1 v2 : Value} {ns : List Int} {ts : List ByteArray} (h : DcEnv w W g v1 v2 ns ts) : g + 1 ≤ W.heap.size := h.cel.lt

theorem DcEnv.c0 {w W : World} {g : Nat} {v1 v2 : Value} {ns : List Int} {ts : List ByteArray} (h : DcEnv w W g v1 v2 ns ts) : W.cell? ⟨g, 0, none⟩ = some v1 := h.cel.cell rfl
theorem DcEnv.c1 {w W : World} {g : Nat} {v1 v2 : Value} {ns : List Int} {ts : List ByteArray} (h : DcEnv w W g v1 v2 ns ts) : W.cell? ⟨g, 1, none⟩ = some v2 := h.cel.cell rfl

theorem DcEnv.step {w W W' : World} {g : Nat} {v1 v2 : Value} {ns : List Int} {ts : List ByteArray} (h : DcEnv w W g v1 v2 ns ts) (hb : Below W.heap.size W W') : DcEnv w W' g v1 v2 ns ts :=
  ⟨h.cel.below hb, st_keep h.r0 hb, st_keep h.r1 hb, h.d, h.bel.trans (hb.mono (Nat.le_of_lt h.cel.lt))⟩

/-- a row that grew: the world in which its value is not yet stored -/
theorem DcEnv.grow1 {w W W1 : World} {g n' : Nat} {v1 v2 v' : Value} {ns : List Int} {ts : List ByteArray} {xs' : List Value} (h : DcEnv w W g v1 v2 ns ts) (ho : W1.ownsRow (g + 1) 3 1 v' n' xs') (hg : W.grownBy W1 v1.ownBlock) (hat : v'.ownBlock = v1.ownBlock ∨ v'.ownBlock = some W.heap.size) :
    Cel W1 g 88 [v1, v2] ∧ W1.ownsRow (g + 1) 3 1 v' n' xs' ∧ W1.ownsRow (g + 1) 9 1 v2 ts.length (strV ts) ∧ Unlike v' v2 ∧ Below g w W1 :=
  have hb : Below (g + 1) W W1 := (Below.refl _ W).grown hg h.lt (fun k hk => (h.r0.lt k hk).1)
  ⟨(hb.block g (Nat.lt_succ_self g)).trans h.cel, ho, h.r1.kept hg h.d.symm.ne, (h.d.symm.next (fun j hj => (h.r1.lt j hj).2) hat (Nat.le_refl _)).symm, h.bel.grown hg (Nat.le_of_lt h.cel.lt) (fun k hk => Nat.le_of_succ_le (h.r0.lt k hk).1)⟩

theorem DcEnv.grow2 {w W W1 : World} {g n' : Nat} {v1 v2 v' : Value} {ns : List Int} {ts : List ByteArray} {xs' : List Value} (h : DcEnv w W g v1 v2 ns ts) (ho : W1.ownsRow (g + 1) 9 1 v' n' xs') (hg : W.grownBy W1 v2.ownBlock) (hat : v'.ownBlock = v2.ownBlock ∨ v'.ownBlock = some W.heap.size) :
    Cel W1 g 88 [v1, v2] ∧ W1.ownsRow (g + 1) 3 1 v1 ns.length (intV ns) ∧ W1.ownsRow (g + 1) 9 1 v' n' xs' ∧ Unlike v1 v' ∧ Below g w W1 :=
  have hb : Below (g + 1) W W1 := (Below.refl _ W).grown hg h.lt (fun k hk => (h.r1.lt k hk).1)
  ⟨(hb.block g (Nat.lt_succ_self g)).trans h.cel, h.r0.kept hg h.d.ne, ho, (h.d.next (fun j hj => (h.r0.lt j hj).2) hat (Nat.le_refl _)), h.bel.grown hg (Nat.le_of_lt h.cel.lt) (fun k hk => Nat.le_of_succ_le (h.r1.lt k hk).1)⟩

/-- .. and is stored -/
theorem DcEnv.store1 {w W1 : World} {g n : Nat} {v1 v2 v' : Value} {ns : List Int} {ts : List ByteArray} (h : Cel W1 g 88 [v1, v2] ∧ W1.ownsRow (g + 1) 3 1 v' n (intV ns) ∧ W1.ownsRow (g + 1) 9 1 v2 ts.length (strV ts) ∧ Unlike v' v2 ∧ Below g w W1) (hn : n = ns.length) :
    DcEnv w (W1.setCell ⟨g, 0, none⟩ v') g v' v2 ns ts := by
  obtain ⟨h1, h2, h3, h4, h5⟩ := h
  subst hn
  exact ⟨h1.set, ownsRow_setCell_below h2 (Nat.lt_succ_self g) _, ownsRow_setCell_below h3 (Nat.lt_succ_self g) _, h4, h5.setCell (Nat.le_refl _) _⟩

theorem DcEnv.store2 {w W1 : World} {g n : Nat} {v1 v2 v' : Value} {ns : List Int} {ts : List ByteArray} (h : Cel W1 g 88 [v1, v2] ∧ W1.ownsRow (g + 1) 3 1 v1 ns.length (intV ns) ∧ W1.ownsRow (g + 1) 9 1 v' n (strV ts) ∧ Unlike v1 v' ∧ Below g w W1) (hn : n = ts.length) :
    DcEnv w (W1.setCell ⟨g, 1, none⟩ v') g v1 v' ns ts := by
  obtain ⟨h1, h2, h3, h4, h5⟩ := h
  subst hn
  exact ⟨h1.set, ownsRow_setCell_below h2 (Nat.lt_succ_self g) _, ownsRow_setCell_below h3 (Nat.lt_succ_self g) _, h4, h5.setCell (Nat.le_refl _) _⟩

theorem DcEnv.start (w : World) : DcEnv w (w.alloc (.cells #[.slice none 0 0, .slice none 0 0] 88)) w.heap.size (.slice none 0 0) (.slice none 0 0) [] [] :=
  ⟨(blk1 w _).2, World.ownsRow_nil _ _ _ _, World.ownsRow_nil _ _ _ _, (fun j h => by cases h), (Below.refl _ w).alloc (Nat.le_refl _) _⟩

/-! ### the decoding, carried on -/

def goN (O : List Int) (k : Nat) (L : List UInt8) : Except Er (List Int × List UInt8) :=
  match numsF k L with
  | .error e => .error e
  | .ok (ns, r) => .ok (O ++ ns, r)

theorem goN_start (k : Nat) (L : List UInt8) : goN [] k L = numsF k L := by
  unfold goN
  cases numsF k L with
  | error e => rfl
  | ok x => rfl

theorem goN_done (O : List Int) (L : List UInt8) : goN O 0 L = .ok (O, L) := by simp [goN, numsF]

theorem goN_more {O : List Int} {k n : Nat} {L r : List UInt8} (h : numF L = .ok (n, r)) : goN O (k + 1) L = goN (O ++ [unzig n]) k r := by
  unfold goN
  rw [numsF, h]
  simp only
  cases numsF k r with
  | error e => rfl
  | ok x => obtain ⟨ns, r2⟩ := x; simp

theorem goN_err {O : List Int} {k : Nat} {L : List UInt8} {e : Er} (h : numF L = .error e) : goN O (k + 1) L = .error e := by
  unfold goN
  rw [numsF, h]

def goT (O : List ByteArray) (k : Nat) (L : List UInt8) : Except Er (List ByteArray × List UInt8) :=
  match textsF k L with
  | .error e => .error e
  | .ok (ts, r) => .ok (O ++ ts, r)

theorem goT_start (k : Nat) (L : List UInt8) : goT [] k L = textsF k L := by
  unfold goT
  cases textsF k L with
  | error e => rfl
  | ok x => rfl

theorem goT_done (O : List ByteArray) (L : List UInt8) : goT O 0 L = .ok (O, L) := by simp [goT, textsF]

theorem goT_more {O : List ByteArray} {k : Nat} {t : ByteArray} {L r : List UInt8} (h : textF L = .ok (t, r)) : goT O (k + 1) L = goT (O ++ [t]) k r := by
  unfold goT
  rw [textsF, h]
  simp only
  cases textsF k r with
  | error e => rfl
  | ok x => obtain ⟨ns, r2⟩ := x; simp

theorem goT_err {O : List ByteArray} {k : Nat} {L : List UInt8} {e : Er} (h : textF L = .error e) : goT O (k + 1) L = .error e := by
  unfold goT
  rw [textsF, h]

/-- what a reading says of the decoding: it goes on at a with n, or it stops with the error at a -/
def Said (s : ByteArray) (r : Except Er (Nat × List UInt8)) (n a c : Nat) : Prop :=
  (c = 0 ∧ a ≤ s.size ∧ n < 9223372036854775808 ∧ r = .ok (n, s.data.toList.drop a)) ∨ (c ≠ 0 ∧ c ≤ 50 ∧ a ≤ s.size ∧ n = 0 ∧ ∃ e : Er, r = .error e ∧ a = e.place s.size ∧ c = e.code)

theorem readR_in {s : ByteArray} {a n u : Nat} (ha : a ≤ s.size) (h : readR (s.data.toList.drop a) = .ok n u) : a + u ≤ s.size := by
  obtain ⟨h1, h2, _⟩ := readR_ok h
  have h3 := congrArg List.length h1
  rw [List.length_append, List.length_drop, List.length_drop, List.length_drop, list_size, ← h2] at h3
  omega

theorem read_said (s : ByteArray) (a : Nat) (ha : a ≤ s.size) : ∃ n p c : Nat, readV s a = .tuple #[.int .i64 (n : Int), .int .i64 (p : Int), .int .i64 (c : Int)] ∧ Said s (numF (s.data.toList.drop a)) n p c := by
  cases hr : readR (s.data.toList.drop a) with
  | ok n u =>
    have h9 : n < 9223372036854775808 := (readR_ok hr).2.2
    refine ⟨n, a + u, 0, by unfold readV; rw [hr]; rfl, .inl ⟨rfl, readR_in ha hr, h9, ?_⟩⟩
    unfold numF; rw [hr]; simp only [List.drop_drop]
  | fin => exact ⟨0, s.size, 50, by unfold readV; rw [hr]; rfl, .inr ⟨by omega, by omega, by omega, rfl, .fin, by unfold numF; rw [hr], rfl, rfl⟩⟩
  | form => exact ⟨0, a, 3, by unfold readV; rw [hr]; rfl, .inr ⟨by omega, by omega, by omega, rfl, .bad (s.data.toList.drop a).length 3, by unfold numF; rw [hr], by simp only [Er.place, List.length_drop, list_size]; omega, rfl⟩⟩

theorem cnt_said (s : ByteArray) (a most : Nat) (ha : a ≤ s.size) : ∃ n p c : Nat, cntV s a most = .tuple #[.int .i64 (n : Int), .int .i64 (p : Int), .int .i64 (c : Int)] ∧ Said s (cnt most (s.data.toList.drop a)) n p c ∧ n ≤ most := by
  cases hr : readR (s.data.toList.drop a) with
  | ok n u =>
    have h9 : n < 9223372036854775808 := (readR_ok hr).2.2
    by_cases hm : most < n
    · refine ⟨0, a, 2, by unfold cntV; rw [hr]; simp only; rw [if_pos hm]; rfl, .inr ⟨by omega, by omega, by omega, rfl, .bad (s.data.toList.drop a).length 2, ?_, by simp only [Er.place, List.length_drop, list_size]; omega, rfl⟩, by omega⟩
      unfold cnt; rw [hr]; simp only; rw [if_pos hm]
    · refine ⟨n, a + u, 0, by unfold cntV; rw [hr]; simp only; rw [if_neg hm]; rfl, .inl ⟨rfl, readR_in ha hr, h9, ?_⟩, by omega⟩
      unfold cnt; rw [hr]; simp only; rw [if_neg hm, List.drop_drop]
  | fin => exact ⟨0, s.size, 50, by unfold cntV; rw [hr]; rfl, .inr ⟨by omega, by omega, by omega, rfl, .fin, by unfold cnt; rw [hr], rfl, rfl⟩, by omega⟩
  | form => exact ⟨0, a, 3, by unfold cntV; rw [hr]; rfl, .inr ⟨by omega, by omega, by omega, rfl, .bad (s.data.toList.drop a).length 3, by unfold cnt; rw [hr], by simp only [Er.place, List.length_drop, list_size]; omega, rfl⟩, by omega⟩

end Pk
end Go.Proofs.YtjehjbkcdpidbaaGreat

/- What the document's own Decode answers; contract; no condition but the range. -/
namespace Go.Proofs.YtjehjbkcdpidbaaGreat
namespace Pk
open Go.RowKit Bk

attribute [local go_sem ↓] Go.wp_at_zero Go.wp_at_succ
attribute [local go_sem] floatUpon pick

/-- what Decode answers: the lists, the place, the error -/
def decR (s : ByteArray) : List Int × List ByteArray × Nat × Nat :=
  match decL s.data.toList with
  | .ok (ns, ts) => (ns, ts, 0, 0)
  | .error er => ([], [], er.place s.size, er.code)

def DecAns (s : ByteArray) (w : World) : Ending → World → Prop := fun e w' =>
  ∃ (A B : Option Addr) (c d : Nat), e = .returned (.tuple #[packV A B c d (decR s).1 (decR s).2.1, .int .i64 ((decR s).2.2.1 : Int), .int .i64 ((decR s).2.2.2 : Int)]) ∧ IntsAt w' A (decR s).1 ∧ StrsAt w' B (decR s).2.1 ∧ Below w.heap.size w w' ∧
    ((decR s).1.length ≤ c ∧ (decR s).2.1.length ≤ d ∧ c ≤ maxLen ∧ d ≤ maxLen) ∧ (∀ ad, A = some ad → w.heap.size ≤ ad.block) ∧ (∀ ad, B = some ad → w.heap.size ≤ ad.block)

def Failed (s : ByteArray) (a c : Nat) : Prop := c ≠ 0 ∧ c ≤ 50 ∧ ∃ er : Er, decL s.data.toList = .error er ∧ a = er.place s.size ∧ c = er.code

theorem Failed.out {s : ByteArray} {a c : Nat} (h : Failed s a c) : decR s = ([], [], a, c) := by
  obtain ⟨_, _, er, h1, h2, h3⟩ := h
  unfold decR
  rw [h1, h2, h3]

/-- the numbers are read on -/
def St1 (s : ByteArray) (many j a c : Nat) (O : List Int) : Prop :=
  (c = 0 ∧ ∃ r1, cnt 1024 s.data.toList = .ok (many, r1) ∧ numsF many r1 = goN O (many - j) (s.data.toList.drop a)) ∨ Failed s a c

/-- the texts are read on -/
def St2 (s : ByteArray) (many j a c : Nat) (ns : List Int) (O : List ByteArray) : Prop :=
  (c = 0 ∧ ∃ k r1 r2 r3, cnt 1024 s.data.toList = .ok (k, r1) ∧ numsF k r1 = .ok (ns, r2) ∧ cnt 1024 r2 = .ok (many, r3) ∧ textsF many r3 = goT O (many - j) (s.data.toList.drop a)) ∨ Failed s a c

theorem decL_e1 {L : List UInt8} {e : Er} (h : cnt 1024 L = .error e) : decL L = .error e := by unfold decL; rw [h]
theorem decL_e2 {L r1 : List UInt8} {k : Nat} {e : Er} (h : cnt 1024 L = .ok (k, r1)) (h2 : numsF k r1 = .error e) : decL L = .error e := by unfold decL; rw [h]; simp only; rw [h2]
theorem decL_e3 {L r1 r2 : List UInt8} {k : Nat} {ns : List Int} {e : Er} (h : cnt 1024 L = .ok (k, r1)) (h2 : numsF k r1 = .ok (ns, r2)) (h3 : cnt 1024 r2 = .error e) : decL L = .error e := by unfold decL; rw [h]; simp only; rw [h2]; simp only; rw [h3]
theorem decL_e4 {L r1 r2 r3 : List UInt8} {k m : Nat} {ns : List Int} {e : Er} (h : cnt 1024 L = .ok (k, r1)) (h2 : numsF k r1 = .ok (ns, r2)) (h3 : cnt 1024 r2 = .ok (m, r3)) (h4 : textsF m r3 = .error e) : decL L = .error e := by
  unfold decL; rw [h]; simp only; rw [h2]; simp only; rw [h3]; simp only; rw [h4]
theorem decL_e5 {L r1 r2 r3 r4 : List UInt8} {k m : Nat} {ns : List Int} {ts : List ByteArray} (h : cnt 1024 L = .ok (k, r1)) (h2 : numsF k r1 = .ok (ns, r2)) (h3 : cnt 1024 r2 = .ok (m, r3)) (h4 : textsF m r3 = .ok (ts, r4)) :
    decL L = if r4 = [] then .ok (ns, ts) else .error (.bad r4.length 3) := by
  unfold decL; rw [h]; simp only; rw [h2]; simp only; rw [h3]; simp only; rw [h4]

theorem St1.start {s : ByteArray} {n a c : Nat} (h : Said s (cnt 1024 s.data.toList) n a c) : St1 s n 0 a c [] := by
  rcases h with ⟨h1, h2, h3, h4⟩ | ⟨h1, h2, h3, h4, e, h5, h6, h7⟩
  · exact .inl ⟨h1, _, h4, by rw [Nat.sub_zero, goN_start]⟩
  · exact .inr ⟨h1, h2, e, decL_e1 h5, h6, h7⟩

theorem St1.step {s : ByteArray} {many j a : Nat} {O : List Int} (h : St1 s many j a 0 O) (hj : j < many) {n p c : Nat} (hs : Said s (numF (s.data.toList.drop a)) n p c) : St1 s many (j + 1) p c (O ++ [unzig n]) := by
  rcases h with ⟨_, r1, h1, h2⟩ | h
  · rw [show many - j = (many - (j + 1)) + 1 by omega] at h2
    rcases hs with ⟨k1, k2, k3, k4⟩ | ⟨k1, k2, k3, k4, e, k5, k6, k7⟩
    · exact .inl ⟨k1, r1, h1, by rw [h2, goN_more k4]⟩
    · exact .inr ⟨k1, k2, e, decL_e2 h1 (by rw [h2, goN_err k5]), k6, k7⟩
  · exact absurd rfl h.1

theorem St2.start {s : ByteArray} {many a : Nat} {O : List Int} (h : St1 s many many a 0 O) {n p c : Nat} (hs : Said s (cnt 1024 (s.data.toList.drop a)) n p c) : St2 s n 0 p c O [] := by
  rcases h with ⟨_, r1, h1, h2⟩ | h
  · rw [Nat.sub_self, goN_done] at h2
    rcases hs with ⟨k1, k2, k3, k4⟩ | ⟨k1, k2, k3, k4, e, k5, k6, k7⟩
    · exact .inl ⟨k1, many, r1, _, _, h1, h2, k4, by rw [Nat.sub_zero, goT_start]⟩
    · exact .inr ⟨k1, k2, e, decL_e3 h1 h2 k5, k6, k7⟩
  · exact absurd rfl h.1

theorem textF_err {L : List UInt8} {e : Er} (h : cnt 4096 L = .error e) : textF L = .error e := by unfold textF; rw [h]
theorem textF_cut {L r : List UInt8} {n : Nat} (h : cnt 4096 L = .ok (n, r)) (h2 : r.length < n) : textF L = .error .fin := by unfold textF; rw [h]; simp only; rw [if_pos h2]
theorem textF_all {L r : List UInt8} {n : Nat} (h : cnt 4096 L = .ok (n, r)) (h2 : ¬ r.length < n) : textF L = .ok (⟨(r.take n).toArray⟩, r.drop n) := by unfold textF; rw [h]; simp only; rw [if_neg h2]

theorem St2.err {s : ByteArray} {many j a : Nat} {ns : List Int} {O : List ByteArray} (h : St2 s many j a 0 ns O) (hj : j < many) {e : Er} (hs : textF (s.data.toList.drop a) = .error e) (h0 : e.code ≠ 0) (h5 : e.code ≤ 50) : Failed s (e.place s.size) e.code := by
  rcases h with ⟨_, k, r1, r2, r3, h1, h2, h3, h4⟩ | h
  · rw [show many - j = (many - (j + 1)) + 1 by omega] at h4
    exact ⟨h0, h5, e, decL_e4 h1 h2 h3 (by rw [h4, goT_err hs]), rfl, rfl⟩
  · exact absurd rfl h.1

theorem St2.more {s : ByteArray} {many j a : Nat} {ns : List Int} {O : List ByteArray} (h : St2 s many j a 0 ns O) (hj : j < many) {p : Nat} {t : ByteArray} (hs : textF (s.data.toList.drop a) = .ok (t, s.data.toList.drop p)) : St2 s many (j + 1) p 0 ns (O ++ [t]) := by
  rcases h with ⟨_, k, r1, r2, r3, h1, h2, h3, h4⟩ | h
  · rw [show many - j = (many - (j + 1)) + 1 by omega] at h4
    exact .inl ⟨rfl, k, r1, r2, r3, h1, h2, h3, by rw [h4, goT_more hs]⟩
  · exact absurd rfl h.1

theorem St2.done {s : ByteArray} {many a : Nat} {ns : List Int} {O : List ByteArray} (h : St2 s many many a 0 ns O) : decL s.data.toList = if s.data.toList.drop a = [] then .ok (ns, O) else .error (.bad (s.data.toList.drop a).length 3) := by
  rcases h with ⟨_, k, r1, r2, r3, h1, h2, h3, h4⟩ | h
  · rw [Nat.sub_self, goT_done] at h4
    exact decL_e5 h1 h2 h3 h4
  · exact absurd rfl h.1

theorem St2.whole {s : ByteArray} {many a : Nat} {ns : List Int} {O : List ByteArray} (h : St2 s many many a 0 ns O) (ha : s.size ≤ a) : decR s = (ns, O, 0, 0) := by
  have h1 := h.done
  rw [if_pos (List.drop_eq_nil_of_le (by rw [list_size]; exact ha))] at h1
  unfold decR; rw [h1]

theorem St2.tail {s : ByteArray} {many a : Nat} {ns : List Int} {O : List ByteArray} (h : St2 s many many a 0 ns O) (ha : a < s.size) : decR s = ([], [], a, 3) := by
  have h1 := h.done
  rw [if_neg (fun e => by have := List.drop_eq_nil_iff.1 e; rw [list_size] at this; omega)] at h1
  unfold decR; rw [h1]
  simp only [Er.place, Er.code, List.length_drop, list_size]
  rw [show s.size - (s.size - a) = a by omega]

theorem noInts {w : World} : IntsAt w none [] := fun h => absurd h (by simp)
theorem noStrs {w : World} : StrsAt w none [] := fun h => absurd h (by simp)

theorem cnt_code {most : Nat} {L : List UInt8} {e : Er} (h : cnt most L = .error e) : e.code ≠ 0 := by
  unfold cnt at h
  cases hr : readR L with
  | fin => rw [hr] at h; cases h; decide
  | form => rw [hr] at h; cases h; show (3 : Nat) ≠ 0; omega
  | ok m u =>
    rw [hr] at h
    simp only at h
    split at h
    · cases h; show (2 : Nat) ≠ 0; omega
    · cases h

theorem numF_code {L : List UInt8} {e : Er} (h : numF L = .error e) : e.code ≠ 0 := by
  unfold numF at h
  cases hr : readR L with
  | fin => rw [hr] at h; cases h; decide
  | form => rw [hr] at h; cases h; show (3 : Nat) ≠ 0; omega
  | ok m u => rw [hr] at h; cases h

theorem numsF_code : ∀ (k : Nat) {L : List UInt8} {e : Er}, numsF k L = .error e → e.code ≠ 0
  | 0, L, e, h => by simp [numsF] at h
  | k + 1, L, e, h => by
    rw [numsF] at h
    cases h1 : numF L with
    | error e => rw [h1] at h; cases h; exact numF_code h1
    | ok x =>
      rw [h1] at h
      simp only at h
      cases h2 : numsF k x.2 with
      | error e => rw [h2] at h; cases h; exact numsF_code k h2
      | ok y => rw [h2] at h; cases h

theorem textF_code {L : List UInt8} {e : Er} (h : textF L = .error e) : e.code ≠ 0 := by
  unfold textF at h
  cases h1 : cnt 4096 L with
  | error e => rw [h1] at h; cases h; exact cnt_code h1
  | ok x =>
    rw [h1] at h
    simp only at h
    split at h
    · cases h; decide
    · cases h

theorem textsF_code : ∀ (k : Nat) {L : List UInt8} {e : Er}, textsF k L = .error e → e.code ≠ 0
  | 0, L, e, h => by simp [textsF] at h
  | k + 1, L, e, h => by
    rw [textsF] at h
    cases h1 : textF L with
    | error e => rw [h1] at h; cases h; exact textF_code h1
    | ok x =>
      rw [h1] at h
      simp only at h
      cases h2 : textsF k x.2 with
      | error e => rw [h2] at h; cases h; exact textsF_code k h2
      | ok y => rw [h2] at h; cases h

theorem decL_code {L : List UInt8} {e : Er} (h : decL L = .error e) : e.code ≠ 0 := by
  unfold decL at h
  cases h1 : cnt 1024 L with
  | error e => rw [h1] at h; cases h; exact cnt_code h1
  | ok x =>
    rw [h1] at h
    simp only at h
    cases h2 : numsF x.1 x.2 with
    | error e => rw [h2] at h; cases h; exact numsF_code _ h2
    | ok x2 =>
      rw [h2] at h
      simp only at h
      cases h3 : cnt 1024 x2.2 with
      | error e => rw [h3] at h; cases h; exact cnt_code h3
      | ok x3 =>
        rw [h3] at h
        simp only at h
        cases h4 : textsF x3.1 x3.2 with
        | error e => rw [h4] at h; cases h; exact textsF_code _ h4
        | ok x4 =>
          rw [h4] at h
          simp only at h
          split at h
          · cases h
          · cases h; show (3 : Nat) ≠ 0; omega

theorem own_new {w : World} {H n c : Nat} {A : Option Addr} {e : TypeId} {xs : List Value} (h : w.ownsRow H e 1 (.slice A n c) n xs) {k : Nat} (hk : k ≤ H) : ∀ ad, A = some ad → k ≤ ad.block := fun ad e => by
  have := (h.lt ad.block (by rw [e]; rfl)).1
  omega

theorem own_form {w : World} {H n : Nat} {v : Value} {e : TypeId} {xs : List Value} (h : w.ownsRow H e 1 v n xs) : ∃ (A : Option Addr) (c : Nat), v = .slice A n c ∧ n ≤ c ∧ c ≤ maxLen := by
  rcases h.2 with ⟨rfl, rfl⟩ | ⟨g, cap, cur, rfl, _, _, h1, h2, _⟩
  · exact ⟨none, 0, rfl, Nat.le_refl _, Nat.zero_le _⟩
  · exact ⟨_, cap, rfl, h1, h2⟩

end Pk
end Go.Proofs.YtjehjbkcdpidbaaGreat

/- What the document's own Decode answers; contract; no condition but the range. -/
namespace Go.Proofs.YtjehjbkcdpidbaaGreat
namespace Pk
open Go.RowKit Bk

attribute [local go_sem ↓] Go.wp_at_zero Go.wp_at_succ
attribute [local go_sem] floatUpon pick


theorem strV_snoc2 (O : List ByteArray) (t : ByteArray) : strV (O ++ [t]) = strV O ++ [.string t] := by simp [strV]

theorem ints_own_at {w : World} {H n c : Nat} {A : Option Addr} {e : TypeId} {O : List Int} (h : w.ownsRow H e 1 (.slice A n c) n (intV O)) (hl : n = O.length) : IntsAt w A O := by
  obtain ⟨A', c', e, h2⟩ := ints_of_own h hl
  simp only [Value.slice.injEq] at e
  rw [e.1]; exact h2

theorem strs_own_at {w : World} {H n c : Nat} {A : Option Addr} {e : TypeId} {O : List ByteArray} (h : w.ownsRow H e 1 (.slice A n c) n (strV O)) (hl : n = O.length) : StrsAt w A O := by
  obtain ⟨A', c', e, h2⟩ := strs_of_own2 h hl
  simp only [Value.slice.injEq] at e
  rw [e.1]; exact h2

theorem DcEnv.res {w W : World} {g g' : Nat} {v1 v2 : Value} {ns : List Int} {ts : List ByteArray} {t : TypeId} {xs : List Value} (h : DcEnv w W g v1 v2 ns ts) (hr : Cel w g' t xs) (hg : g' < g) : Cel W g' t xs := (h.bel.block g' hg).trans hr

end Pk
end Go.Proofs.YtjehjbkcdpidbaaGreat
