/- Versions: a row of them in the memory, as an argument and as a row of the call's own; no condition but the range. -/
import Derived.Test.YtpdojkfjgfeijaaChMath
import Derived.Test.YtpdojkfjgfeijaaBkOpen
import Derived.Test.YtpdojkfjgfeijaaBkStr
import Derived.Deep.SlicePairs
namespace Go.Proofs.Ytpdojkfjgfeijaa
namespace Ch
open Go.ChangeShapes Go.WideShapes Go.ChangeAt Go.RowKit Go.Joins Go.Deep Bk

def vcs (x : Vr) : List Value := [.int .i64 x.ts, .string x.shard, .bool x.dead]

def vrV (l : List Vr) : List Value := l.flatMap vcs

/-- the slice v holds the versions l: three cells each -/
def VrsAt (w : World) (A : Option Addr) (l : List Vr) : Prop :=
  0 < l.length → ∃ ad, A = some ad ∧ ad.block < w.heap.size ∧ ∀ i (h : i < l.length), w.cell? (ad.add (i * 3)) = some (.int .i64 l[i].ts) ∧ w.cell? (ad.add (i * 3 + 1)) = some (.string l[i].shard) ∧ w.cell? (ad.add (i * 3 + 2)) = some (.bool l[i].dead)

theorem VrsAt.below {w w' : World} {A : Option Addr} {l : List Vr} (h : VrsAt w A l) (hb : Below w.heap.size w w') : VrsAt w' A l := fun hp => by
  obtain ⟨ad, h1, h2, h3⟩ := h hp
  exact ⟨ad, h1, Nat.lt_of_lt_of_le h2 hb.size, fun i hi => ⟨(cell_kept hb _ (by rw [st_block]; exact h2)).trans (h3 i hi).1, (cell_kept hb _ (by rw [st_block]; exact h2)).trans (h3 i hi).2.1, (cell_kept hb _ (by rw [st_block]; exact h2)).trans (h3 i hi).2.2⟩⟩

theorem VrsAt.alloc {w : World} {A : Option Addr} {l : List Vr} (h : VrsAt w A l) (o : Obj) : VrsAt (w.alloc o) A l := h.below ((Below.refl _ w).alloc (Nat.le_refl _) o)

/-- a version's range -/
structure VrRng (x : Vr) : Prop where
  ts : -9223372036854775808 ≤ x.ts ∧ x.ts ≤ 9223372036854775807
  shard : x.shard.size ≤ reachBytes

/-- the value is a slice of these versions -/
def VrsOf (w : World) (v : Value) (L : List Vr) : Prop :=
  ∃ (A : Option Addr) (c : Nat), v = .slice A L.length c ∧ VrsAt w A L ∧ L.length * 32 ≤ reachBytes ∧ (∀ x ∈ L, VrRng x) ∧ (A = none → L.length = 0 ∧ c = 0) ∧ L.length ≤ c ∧ c ≤ maxLen

section
variable {H : Type} {enc : TypeId × Value → H} {W : World}

set_option maxRecDepth 20000 in
theorem open_agg_any {r : Reach} {b0 : Nat} {t : TypeId} {fs : Array Field} {v : Value} {d : DataW H} {p : List MemPlace} (hs : Try.prog.underlying t = some (.struct fs)) (hone : oneCellFields Try.prog fs = true) (hC : Try.prog.cellsOf t = fs.size)
    (hv : Value.okWide Try.prog W r b0 t v) (h : DataW.Trod enc Try.prog W 0 (fun _ => true) true t v d p) :
    ∃ (cs : List Value) (xs : List (DataW H × List MemPlace)) (n : Nat), v = .agg cs.toArray ∧ cs.length = fs.size ∧ d = .agg (xs.map (·.1)) ∧ p = xs.flatMap (·.2) ∧ xs.length = fs.size ∧
      ∀ (i : Nat) (f : Field) (u : Value) (y : DataW H × List MemPlace), fs[i]? = some f → cs[i]? = some u → xs[i]? = some y → DataW.trod enc Try.prog W 0 (fun _ => true) true n f.type [u] = some y := by
  obtain ⟨cs, rfl, hsz⟩ := okWide_struct hs hv
  obtain ⟨fuel, hf⟩ := h
  obtain ⟨xs, n, _, hx, _, hlen, hall⟩ := DataW.trod_struct hs hf
  simp only [Prod.mk.injEq] at hx
  refine ⟨cs.toList, xs, n, by simp, by rw [Array.length_toList, hsz, hC], hx.1, hx.2, hlen, fun i f u y hi hu hy => ?_⟩
  obtain ⟨o, k⟩ := hone_of hone i f hi
  have h1 := hall i f hi
  rw [o, k, hy] at h1
  rw [← h1]
  congr 1
  have hlt : i < cs.toList.length := (List.getElem?_eq_some_iff.1 hu).1
  show [u] = List.take 1 (List.drop i cs.toList)
  rw [List.drop_eq_getElem_cons hlt, List.take_succ_cons, List.take_zero, (List.getElem?_eq_some_iff.1 hu).2]

theorem agg_weights {t : TypeId} {fs : Array Field} (hs : Try.prog.underlying t = some (.struct fs)) {xs : List (DataW H × List MemPlace)} {i : Nat} {f : Field} {y : DataW H × List MemPlace} (hi : fs[i]? = some f) (hy : xs[i]? = some y) (hw : ∀ k ∈ (DataW.agg (xs.map (·.1))).weights Try.prog t, k ≤ reachBytes) : ∀ k ∈ y.1.weights Try.prog f.type, k ≤ reachBytes := fun k hk => hw k (by
  simp only [DataW.weights, hs]
  exact DataW.weights_mem_each (ts := fs.toList.map (·.type)) (ds := xs.map (·.1)) (j := i) (by rw [List.getElem?_map, Array.getElem?_toList, hi]; rfl) (by rw [List.getElem?_map, hy]; rfl) k hk)

theorem field_int {t : TypeId} {v : Value} {fuel : Nat} {y : DataW H × List MemPlace} (ht : Try.prog.underlying t = some (.int .i64)) (hf : DataW.trod enc Try.prog W 0 (fun _ => true) true fuel t [v] = some y) : ∃ z, v = .int .i64 z ∧ -9223372036854775808 ≤ z ∧ z ≤ 9223372036854775807 := by
  obtain ⟨z, h1, _, h3⟩ := DataW.trod_int ht hf
  obtain rfl : v = .int .i64 z := by simpa using h1
  exact ⟨z, rfl, show IntKind.i64.min ≤ z ∧ z ≤ 9223372036854775807 by simpa [Lit.wf] using h3⟩

theorem field_text {t : TypeId} {v : Value} {fuel : Nat} {y : DataW H × List MemPlace} (ht : Try.prog.underlying t = some .string) (hf : DataW.trod enc Try.prog W 0 (fun _ => true) true fuel t [v] = some y) (hw : ∀ k ∈ y.1.weights Try.prog t, k ≤ reachBytes) : ∃ s : ByteArray, v = .string s ∧ s.size ≤ reachBytes := by
  obtain ⟨s, h1, rfl, _⟩ := DataW.trod_string ht hf
  obtain rfl : v = .string s := by simpa using h1
  exact ⟨s, rfl, by
    have := hw s.data.toList.length (by simp [DataW.weights])
    rwa [Array.length_toList] at this⟩

theorem field_bool {t : TypeId} {v : Value} {fuel : Nat} {y : DataW H × List MemPlace} (ht : Try.prog.underlying t = some .bool) (hf : DataW.trod enc Try.prog W 0 (fun _ => true) true fuel t [v] = some y) : ∃ b, v = .bool b := by
  obtain ⟨b, h1, _⟩ := DataW.trod_bool ht hf
  exact ⟨b, by simpa using h1⟩

theorem weights_at {e t : TypeId} {d : DataW H} {ds sp : List (DataW H)} (ht : Try.prog.underlying t = some (.slice e)) (hm : d ∈ ds) (hwt : ∀ k ∈ (DataW.slice ds sp).weights Try.prog t, k ≤ reachBytes) : ∀ k ∈ d.weights Try.prog e, k ≤ reachBytes := fun k hk => hwt k (by
  simp only [DataW.weights, ht, List.mem_cons, List.mem_append]
  refine .inr (.inl ?_)
  have : ∀ (l : List (DataW H)), d ∈ l → k ∈ DataW.weightsAll Try.prog e l := by
    intro l
    induction l with
    | nil => intro h; simp at h
    | cons x r ih =>
      intro h
      show k ∈ x.weights Try.prog e ++ DataW.weightsAll Try.prog e r
      rw [List.mem_append]
      rcases List.mem_cons.1 h with rfl | h
      · exact .inl hk
      · exact .inr (ih h)
  exact this _ hm)

set_option maxRecDepth 20000 in
set_option maxHeartbeats 4000000 in
theorem field_vrs {t : TypeId} {v : Value} {fuel : Nat} {y : DataW H × List MemPlace} (ht : Try.prog.underlying t = some (.slice 24)) (ce : Try.prog.cellsOf 24 = 3) (hb16 : 32 ≤ Try.prog.bytesOf 24)
    (hf : DataW.trod enc Try.prog W 0 (fun _ => true) true fuel t [v] = some y) (hwt : ∀ k ∈ y.1.weights Try.prog t, k ≤ reachBytes) (hl : ∀ x ∈ y.2, x.block < W.heap.size) :
    ∃ L, VrsOf W v L := by
  rcases open_slice ht hf with ⟨hcs, _⟩ | ⟨a, len, cap, m, n, D, Pl, hcs, _, hl', hm, hmm, hx, hall⟩
  · obtain rfl : v = .slice none 0 0 := by simpa using hcs
    exact ⟨[], none, 0, rfl, fun h => absurd h (by simp), by simp, by simp, fun _ => ⟨rfl, rfl⟩, Nat.zero_le _, Nat.zero_le _⟩
  · obtain rfl : v = .slice (some a) len cap := by simpa using hcs
    subst hx
    simp only [if_true] at hmm
    subst hmm
    have each : ∀ i, i < len → ∃ q : Vr, (W.cell? (a.add (i * 3)) = some (.int .i64 q.ts) ∧ W.cell? (a.add (i * 3 + 1)) = some (.string q.shard) ∧ W.cell? (a.add (i * 3 + 2)) = some (.bool q.dead)) ∧ VrRng q := by
      intro i hi
      obtain ⟨cs', h1, h2⟩ := hall i (by omega)
      rw [ce] at h1
      obtain ⟨_, hlen, hcell⟩ := World.cells?_some h1
      have hwi : ∀ k ∈ (D i).weights Try.prog 24, k ≤ reachBytes := weights_at ht (List.mem_map.2 ⟨i, List.mem_range.2 hi, rfl⟩) hwt
      obtain ⟨xs, k, _, hxy, _, hxl, hff⟩ := DataW.trod_struct Try.underlying24 h2
      simp only [Prod.mk.injEq] at hxy
      rw [hxy.1] at hwi
      match xs, hxl, cs', hlen with
      | [y0, y1, y2], _, [v0, v1, v2], _ =>
        have g0 := hff 0 _ rfl
        have g1 := hff 1 _ rfl
        have g2 := hff 2 _ rfl
        simp at g0 g1 g2
        obtain ⟨ts', rfl, r0⟩ := field_int Try.underlying3 g0
        obtain ⟨shard, rfl, r1⟩ := field_text Try.underlying9 g1 (agg_weights (i := 1) Try.underlying24 rfl rfl hwi)
        obtain ⟨dead, rfl⟩ := field_bool Try.underlying4 g2
        refine ⟨⟨ts', shard, dead⟩, ⟨?_, ?_, ?_⟩, ⟨r0, r1⟩⟩
        · have e := hcell 0 (by omega)
          rw [Go.Deep.add_add] at e
          simpa using e
        · have e := hcell 1 (by omega)
          rw [Go.Deep.add_add] at e
          simpa using e
        · have e := hcell 2 (by omega)
          rw [Go.Deep.add_add] at e
          simpa using e
    obtain ⟨q, hq⟩ := choose_lt each
    have hs := hwt ((((List.range len).map D).length + ((List.range (m - len)).map fun j => D (len + j)).length) * Try.prog.bytesOf 24) (by simp [DataW.weights, ht])
    refine ⟨(List.range len).map q, some a, m, by simp, fun hpos => ⟨a, rfl, ?_, fun i hi => ?_⟩, ?_, fun x hx => ?_, fun e => (by cases e), (by rw [List.length_map, List.length_range]; exact hl'), hm⟩
    · obtain ⟨b, off, spot⟩ := a
      rw [List.length_map, List.length_range] at hpos
      exact hl (.cell b off) (List.mem_append_left _ (MemPlace.mem_row.2 ⟨0, by rw [ce]; omega, by simp⟩))
    · rw [List.length_map, List.length_range] at hi
      simpa using (hq i hi).1
    · rw [List.length_map, List.length_range]
      refine Nat.le_trans (Nat.mul_le_mul ?_ hb16) hs
      rw [List.length_map, List.length_range]
      omega
    · obtain ⟨i, hi, rfl⟩ := List.mem_map.1 hx
      exact (hq i (List.mem_range.1 hi)).2

set_option maxRecDepth 20000 in
theorem open_vrs {base : Nat} {v : Value} {d : DataW H} {p : List MemPlace} {ts : List TypeId} {ds : List (DataW H)} {j : Nat}
    (hsz : (DataW.weightsEach Try.prog ts ds).all (· ≤ reachBytes) = true) (hj : ts[j]? = some 22) (hd : ds[j]? = some d)
    (hv : Value.okWide Try.prog W .any base 22 v) (h : DataW.Trod enc Try.prog W 0 (fun _ => true) true 22 v d p) (hl : ∀ x ∈ p, x.block < W.heap.size) : ∃ L, VrsOf W v L := by
  obtain ⟨a0, len, cap, rfl⟩ := okWide_slice Try.underlying22 hv
  obtain ⟨fuel, hf⟩ := h
  exact field_vrs Try.underlying22 (by kernel_rfl) (of_decide_eq_true (by kernel_rfl)) hf (arg_weights hsz hj hd) hl

set_option maxRecDepth 20000 in
theorem open_vr {base j : Nat} {v : Value} {d : DataW H} {p : List MemPlace} {ts : List TypeId} {ds : List (DataW H)}
    (hsz : (DataW.weightsEach Try.prog ts ds).all (· ≤ reachBytes) = true) (hj : ts[j]? = some 24) (hd : ds[j]? = some d)
    (hv : Value.okWide Try.prog W .any base 24 v) (h : DataW.Trod enc Try.prog W 0 (fun _ => true) true 24 v d p) : ∃ x : Vr, v = .agg (vcs x).toArray ∧ VrRng x := by
  obtain ⟨cs, xs, n, rfl, hcl, rfl, rfl, hxl, hall⟩ := open_agg_any Try.underlying24 (by kernel_rfl) (by kernel_rfl) hv h
  have hw := arg_weights hsz hj hd
  match cs, hcl, xs, hxl with
  | [v0, v1, v2], _, [y0, y1, y2], _ =>
    obtain ⟨ts', rfl, r0⟩ := field_int Try.underlying3 (hall 0 _ _ _ rfl rfl rfl)
    obtain ⟨shard, rfl, r1⟩ := field_text Try.underlying9 (hall 1 _ _ _ rfl rfl rfl) (agg_weights (i := 1) Try.underlying24 rfl rfl hw)
    obtain ⟨dead, rfl⟩ := field_bool Try.underlying4 (hall 2 _ _ _ rfl rfl rfl)
    exact ⟨⟨ts', shard, dead⟩, rfl, ⟨r0, r1⟩⟩

set_option maxRecDepth 20000 in
theorem open_times {base : Nat} {v : Value} {d : DataW H} {p : List MemPlace}
    (hv : Value.okWide Try.prog W .any base 40 v) (h : DataW.Trod enc Try.prog W 0 (fun _ => true) true 40 v d p) :
    ∃ x y : Int, v = .agg #[.int .i64 x, .int .i64 y] ∧ (-9223372036854775808 ≤ x ∧ x ≤ 9223372036854775807) ∧ (-9223372036854775808 ≤ y ∧ y ≤ 9223372036854775807) := by
  obtain ⟨cs, xs, n, rfl, hcl, rfl, rfl, hxl, hall⟩ := open_agg_any Try.underlying40 (by kernel_rfl) (by kernel_rfl) hv h
  match cs, hcl, xs, hxl with
  | [v0, v1], _, [y0, y1], _ =>
    obtain ⟨x, rfl, r0⟩ := field_int Try.underlying3 (hall 0 _ _ _ rfl rfl rfl)
    obtain ⟨y, rfl, r1⟩ := field_int Try.underlying3 (hall 1 _ _ _ rfl rfl rfl)
    exact ⟨x, y, rfl, r0, r1⟩

end

/-! ### a row of the call's own -/

theorem Try.infoVer : (Try.prog.info? 24).map (fun i => (i.zero, i.size, i.bytes)) = some (some (.agg #[.int .i64 0, .string ⟨#[]⟩, .bool false]), 3, 32) := by kernel_rfl

theorem vrV_len (l : List Vr) : (vrV l).length = l.length * 3 := by
  induction l with
  | nil => rfl
  | cons x r ih => unfold vrV at ih ⊢; rw [List.flatMap_cons, List.length_append, ih, List.length_cons]; show 3 + _ = _; omega

theorem vrV_at : ∀ (l : List Vr) (i : Nat) (h : i < l.length), (vrV l)[i * 3]? = some (.int .i64 l[i].ts) ∧ (vrV l)[i * 3 + 1]? = some (.string l[i].shard) ∧ (vrV l)[i * 3 + 2]? = some (.bool l[i].dead)
  | [], _, h => absurd h (by simp)
  | x :: r, 0, _ => ⟨rfl, rfl, rfl⟩
  | x :: r, i + 1, h => by
    have h3 : (vcs x).length = 3 := rfl
    obtain ⟨h0, h1, h2⟩ := vrV_at r i (by simpa using h)
    unfold vrV at h0 h1 h2 ⊢
    rw [List.flatMap_cons, List.getElem?_append_right (by omega), List.getElem?_append_right (by omega), List.getElem?_append_right (by omega), h3]
    rw [show (i + 1) * 3 - 3 = i * 3 by omega, show (i + 1) * 3 + 1 - 3 = i * 3 + 1 by omega, show (i + 1) * 3 + 2 - 3 = i * 3 + 2 by omega]
    exact ⟨h0, h1, h2⟩

theorem vrV_app (a b : List Vr) : vrV (a ++ b) = vrV a ++ vrV b := by unfold vrV; rw [List.flatMap_append]

theorem vrV_snoc (a : List Vr) (x : Vr) : vrV (a ++ [x]) = vrV a ++ vcs x := by rw [vrV_app]; unfold vrV; simp

theorem vrV_one (l : List Vr) : ∀ u ∈ vrV l, u.oneCell' = true := fun u hu => by
  obtain ⟨x, _, hx⟩ := List.mem_flatMap.1 hu
  unfold vcs at hx
  simp only [List.mem_cons, List.not_mem_nil, or_false] at hx
  rcases hx with rfl | rfl | rfl <;> rfl

theorem VrsAt.news {w : World} {ad : Addr} {l : List Vr} (h : VrsAt w (some ad) l) : ∀ j u, (vrV l)[j]? = some u → w.cell? (ad.add j) = some u := fun j u hu => by
  have hj : j < l.length * 3 := by
    have := (List.getElem?_eq_some_iff.1 hu).1
    rwa [vrV_len] at this
  obtain ⟨a', e, _, h3⟩ := h (by omega)
  obtain rfl := Option.some.inj e
  obtain ⟨y0, y1, y2⟩ := vrV_at l (j / 3) (by omega)
  obtain ⟨x0, x1, x2⟩ := h3 (j / 3) (by omega)
  have hc : j % 3 = 0 ∨ j % 3 = 1 ∨ j % 3 = 2 := by omega
  rcases hc with r | r | r
  · have ej : j = j / 3 * 3 := by omega
    rw [← ej] at y0 x0
    rw [y0] at hu; rw [x0]; exact hu
  · have ej : j = j / 3 * 3 + 1 := by omega
    rw [← ej] at y1 x1
    rw [y1] at hu; rw [x1]; exact hu
  · have ej : j = j / 3 * 3 + 2 := by omega
    rw [← ej] at y2 x2
    rw [y2] at hu; rw [x2]; exact hu

end Ch
end Go.Proofs.Ytpdojkfjgfeijaa
