/- Parts of the proof, joined: ChRow, ChSame, ChBook; their conditions stand with each. -/
import Derived.Deep.SlicePairs
import Derived.Test.YtiobhbagjokpcaaGreatM2
import Derived.Test.YtiobhbagjokpcaaGreatM5
import Derived.Test.YtiobhbagjokpcaaGreatM7
import Derived.Test.YtiobhbagjokpcaaGreatM9
import Derived.Test.YtiobhbagjokpcaaGreatM10

/- Versions: a row of them in the memory, as an argument and as a row of the call's own; no condition but the range. -/
namespace Go.Proofs.YtiobhbagjokpcaaGreat
namespace Ch
open Go.ChangeShapes Go.WideShapes Go.ChangeAt Go.RowKit Go.Joins Go.Deep Bk

def vcs (x : Vr) : List Value := [.int .i64 x.ts, .string x.shard, .bool x.dead]

def vrV (l : List Vr) : List Value := l.flatMap vcs

/-- the slice v holds the versions l: three cells each -/
def VrsAt (w : World) (A : Option Addr) (l : List Vr) : Prop :=
  0 < l.length → ∃ ad, A = some ad ∧ ad.block < w.heap.size ∧ ∀ i (h : i < l.length), w.cell? (ad.add (i * 3)) = some (.int .i64 l[i].ts) ∧ w.cell? (ad.add (i * 3 + 1)) = some (.string l[i].shard) ∧ w.cell? (ad.add (i * 3 + 2)) = some (.bool l[i].dead)

theorem VrsAt.below {w w' : World} {A : Option Addr} {l : List Vr} (h : VrsAt w A l) (hb : Below w.heap.size w w') : VrsAt w' A l := fun hp => by
  obtain ⟨ad, h1, h2, h3⟩ := h hp
  exact ⟨ad, h1, Nat.lt_of_lt_of_le h2 hb.size, fun i hi => ⟨(cell_kept hb _ (by rw [st_block]; exact h2)).trans (h3 i hi).1, (cell_kept hb _ (by rw [st_block]; exact h2)).trans (h3 i hi).2.1, (cell_kept hb _ (by rw [st_block]; exact h2)).trans (h3 i hi).2.2⟩⟩

theorem VrsAt.alloc {w : World} {A : Option Addr} {l : List Vr} (h : VrsAt w A l) (o : Obj) : VrsAt (w.alloc o) A l := h.below ((Below.refl _ w).alloc (Nat.le_refl _) o)

/-- a version's range -/
structure VrRng (x : Vr) : Prop where
  ts : -9223372036854775808 ≤ x.ts ∧ x.ts ≤ 9223372036854775807
  shard : x.shard.size ≤ reachBytes

/-- the value is a slice of these versions -/
def VrsOf (w : World) (v : Value) (L : List Vr) : Prop :=
  ∃ (A : Option Addr) (c : Nat), v = .slice A L.length c ∧ VrsAt w A L ∧ L.length * 32 ≤ reachBytes ∧ (∀ x ∈ L, VrRng x) ∧ (A = none → L.length = 0 ∧ c = 0) ∧ L.length ≤ c ∧ c ≤ maxLen

section
variable {H : Type} {enc : TypeId × Value → H} {W : World}

set_option maxRecDepth 20000 in
theorem open_agg_any {r : Reach} {b0 : Nat} {t : TypeId} {fs : Array Field} {v : Value} {d : DataW H} {p : List MemPlace} (hs : Tryz.prog.underlying t = some (.struct fs)) (hone : oneCellFields Tryz.prog fs = true) (hC : Tryz.prog.cellsOf t = fs.size)
    (hv : Value.okWide Tryz.prog W r b0 t v) (h : DataW.Trod enc Tryz.prog W 0 (fun _ => true) true t v d p) :
    ∃ (cs : List Value) (xs : List (DataW H × List MemPlace)) (n : Nat), v = .agg cs.toArray ∧ cs.length = fs.size ∧ d = .agg (xs.map (·.1)) ∧ p = xs.flatMap (·.2) ∧ xs.length = fs.size ∧
      ∀ (i : Nat) (f : Field) (u : Value) (y : DataW H × List MemPlace), fs[i]? = some f → cs[i]? = some u → xs[i]? = some y → DataW.trod enc Tryz.prog W 0 (fun _ => true) true n f.type [u] = some y := by
  obtain ⟨cs, rfl, hsz⟩ := okWide_struct hs hv
  obtain ⟨fuel, hf⟩ := h
  obtain ⟨xs, n, _, hx, _, hlen, hall⟩ := DataW.trod_struct hs hf
  simp only [Prod.mk.injEq] at hx
  refine ⟨cs.toList, xs, n, by simp, by rw [Array.length_toList, hsz, hC], hx.1, hx.2, hlen, fun i f u y hi hu hy => ?_⟩
  obtain ⟨o, k⟩ := hone_of hone i f hi
  have h1 := hall i f hi
  rw [o, k, hy] at h1
  rw [← h1]
  congr 1
  have hlt : i < cs.toList.length := (List.getElem?_eq_some_iff.1 hu).1
  show [u] = List.take 1 (List.drop i cs.toList)
  rw [List.drop_eq_getElem_cons hlt, List.take_succ_cons, List.take_zero, (List.getElem?_eq_some_iff.1 hu).2]

theorem agg_weights {t : TypeId} {fs : Array Field} (hs : Tryz.prog.underlying t = some (.struct fs)) {xs : List (DataW H × List MemPlace)} {i : Nat} {f : Field} {y : DataW H × List MemPlace} (hi : fs[i]? = some f) (hy : xs[i]? = some y) (hw : ∀ k ∈ (DataW.agg (xs.map (·.1))).weights Tryz.prog t, k ≤ reachBytes) : ∀ k ∈ y.1.weights Tryz.prog f.type, k ≤ reachBytes := fun k hk => hw k (by
  simp only [DataW.weights, hs]
  exact DataW.weights_mem_each (ts := fs.toList.map (·.type)) (ds := xs.map (·.1)) (j := i) (by rw [List.getElem?_map, Array.getElem?_toList, hi]; rfl) (by rw [List.getElem?_map, hy]; rfl) k hk)

theorem field_int {t : TypeId} {v : Value} {fuel : Nat} {y : DataW H × List MemPlace} (ht : Tryz.prog.underlying t = some (.int .i64)) (hf : DataW.trod enc Tryz.prog W 0 (fun _ => true) true fuel t [v] = some y) : ∃ z, v = .int .i64 z ∧ -9223372036854775808 ≤ z ∧ z ≤ 9223372036854775807 := by
  obtain ⟨z, h1, _, h3⟩ := DataW.trod_int ht hf
  obtain rfl : v = .int .i64 z := by simpa using h1
  exact ⟨z, rfl, show IntKind.i64.min ≤ z ∧ z ≤ 9223372036854775807 by simpa [Lit.wf] using h3⟩

theorem field_text {t : TypeId} {v : Value} {fuel : Nat} {y : DataW H × List MemPlace} (ht : Tryz.prog.underlying t = some .string) (hf : DataW.trod enc Tryz.prog W 0 (fun _ => true) true fuel t [v] = some y) (hw : ∀ k ∈ y.1.weights Tryz.prog t, k ≤ reachBytes) : ∃ s : ByteArray, v = .string s ∧ s.size ≤ reachBytes := by
  obtain ⟨s, h1, rfl, _⟩ := DataW.trod_string ht hf
  obtain rfl : v = .string s := by simpa using h1
  exact ⟨s, rfl, by
    have := hw s.data.toList.length (by simp [DataW.weights])
    rwa [Array.length_toList] at this⟩

theorem field_bool {t : TypeId} {v : Value} {fuel : Nat} {y : DataW H × List MemPlace} (ht : Tryz.prog.underlying t = some .bool) (hf : DataW.trod enc Tryz.prog W 0 (fun _ => true) true fuel t [v] = some y) : ∃ b, v = .bool b := by
  obtain ⟨b, h1, _⟩ := DataW.trod_bool ht hf
  exact ⟨b, by simpa using h1⟩

theorem weights_at {e t : TypeId} {d : DataW H} {ds sp : List (DataW H)} (ht : Tryz.prog.underlying t = some (.slice e)) (hm : d ∈ ds) (hwt : ∀ k ∈ (DataW.slice ds sp).weights Tryz.prog t, k ≤ reachBytes) : ∀ k ∈ d.weights Tryz.prog e, k ≤ reachBytes := fun k hk => hwt k (by
  simp only [DataW.weights, ht, List.mem_cons, List.mem_append]
  refine .inr (.inl ?_)
  have : ∀ (l : List (DataW H)), d ∈ l → k ∈ DataW.weightsAll Tryz.prog e l := by
    intro l
    induction l with
    | nil => intro h; simp at h
    | cons x r ih =>
      intro h
      show k ∈ x.weights Tryz.prog e ++ DataW.weightsAll Tryz.prog e r
      rw [List.mem_append]
      rcases List.mem_cons.1 h with rfl | h
      · exact .inl hk
      · exact .inr (ih h)
  exact this _ hm)

set_option maxRecDepth 20000 in
set_option maxHeartbeats 4000000 in
theorem field_vrs {t : TypeId} {v : Value} {fuel : Nat} {y : DataW H × List MemPlace} (ht : Tryz.prog.underlying t = some (.slice 55)) (ce : Tryz.prog.cellsOf 55 = 3) (hb16 : 32 ≤ Tryz.prog.bytesOf 55)
    (hf : DataW.trod enc Tryz.prog W 0 (fun _ => true) true fuel t [v] = some y) (hwt : ∀ k ∈ y.1.weights Tryz.prog t, k ≤ reachBytes) (hl : ∀ x ∈ y.2, x.block < W.heap.size) :
    ∃ L, VrsOf W v L := by
  rcases open_slice ht hf with ⟨hcs, _⟩ | ⟨a, len, cap, m, n, D, Pl, hcs, _, hl', hm, hmm, hx, hall⟩
  · obtain rfl : v = .slice none 0 0 := by simpa using hcs
    exact ⟨[], none, 0, rfl, fun h => absurd h (by simp), by simp, by simp, fun _ => ⟨rfl, rfl⟩, Nat.zero_le _, Nat.zero_le _⟩
  · obtain rfl : v = .slice (some a) len cap := by simpa using hcs
    subst hx
    simp only [if_true] at hmm
    subst hmm
    have each : ∀ i, i < len → ∃ q : Vr, (W.cell? (a.add (i * 3)) = some (.int .i64 q.ts) ∧ W.cell? (a.add (i * 3 + 1)) = some (.string q.shard) ∧ W.cell? (a.add (i * 3 + 2)) = some (.bool q.dead)) ∧ VrRng q := by
      intro i hi
      obtain ⟨cs', h1, h2⟩ := hall i (by omega)
      rw [ce] at h1
      obtain ⟨_, hlen, hcell⟩ := World.cells?_some h1
      have hwi : ∀ k ∈ (D i).weights Tryz.prog 55, k ≤ reachBytes := weights_at ht (List.mem_map.2 ⟨i, List.mem_range.2 hi, rfl⟩) hwt
      obtain ⟨xs, k, _, hxy, _, hxl, hff⟩ := DataW.trod_struct Tryz.underlying55 h2
      simp only [Prod.mk.injEq] at hxy
      rw [hxy.1] at hwi
      match xs, hxl, cs', hlen with
      | [y0, y1, y2], _, [v0, v1, v2], _ =>
        have g0 := hff 0 _ rfl
        have g1 := hff 1 _ rfl
        have g2 := hff 2 _ rfl
        simp at g0 g1 g2
        obtain ⟨ts', rfl, r0⟩ := field_int Tryz.underlying3 g0
        obtain ⟨shard, rfl, r1⟩ := field_text Tryz.underlying9 g1 (agg_weights (i := 1) Tryz.underlying55 rfl rfl hwi)
        obtain ⟨dead, rfl⟩ := field_bool Tryz.underlying4 g2
        refine ⟨⟨ts', shard, dead⟩, ⟨?_, ?_, ?_⟩, ⟨r0, r1⟩⟩
        · have e := hcell 0 (by omega)
          rw [Go.Deep.add_add] at e
          simpa using e
        · have e := hcell 1 (by omega)
          rw [Go.Deep.add_add] at e
          simpa using e
        · have e := hcell 2 (by omega)
          rw [Go.Deep.add_add] at e
          simpa using e
    obtain ⟨q, hq⟩ := choose_lt each
    have hs := hwt ((((List.range len).map D).length + ((List.range (m - len)).map fun j => D (len + j)).length) * Tryz.prog.bytesOf 55) (by simp [DataW.weights, ht])
    refine ⟨(List.range len).map q, some a, m, by simp, fun hpos => ⟨a, rfl, ?_, fun i hi => ?_⟩, ?_, fun x hx => ?_, fun e => (by cases e), (by rw [List.length_map, List.length_range]; exact hl'), hm⟩
    · obtain ⟨b, off, spot⟩ := a
      rw [List.length_map, List.length_range] at hpos
      exact hl (.cell b off) (List.mem_append_left _ (MemPlace.mem_row.2 ⟨0, by rw [ce]; omega, by simp⟩))
    · rw [List.length_map, List.length_range] at hi
      simpa using (hq i hi).1
    · rw [List.length_map, List.length_range]
      refine Nat.le_trans (Nat.mul_le_mul ?_ hb16) hs
      rw [List.length_map, List.length_range]
      omega
    · obtain ⟨i, hi, rfl⟩ := List.mem_map.1 hx
      exact (hq i (List.mem_range.1 hi)).2

set_option maxRecDepth 20000 in
theorem open_vrs {base : Nat} {v : Value} {d : DataW H} {p : List MemPlace} {ts : List TypeId} {ds : List (DataW H)} {j : Nat}
    (hsz : (DataW.weightsEach Tryz.prog ts ds).all (· ≤ reachBytes) = true) (hj : ts[j]? = some 66) (hd : ds[j]? = some d)
    (hv : Value.okWide Tryz.prog W .any base 66 v) (h : DataW.Trod enc Tryz.prog W 0 (fun _ => true) true 66 v d p) (hl : ∀ x ∈ p, x.block < W.heap.size) : ∃ L, VrsOf W v L := by
  obtain ⟨a0, len, cap, rfl⟩ := okWide_slice Tryz.underlying66 hv
  obtain ⟨fuel, hf⟩ := h
  exact field_vrs Tryz.underlying66 (by kernel_rfl) (of_decide_eq_true (by kernel_rfl)) hf (arg_weights hsz hj hd) hl

set_option maxRecDepth 20000 in
theorem open_vr {base j : Nat} {v : Value} {d : DataW H} {p : List MemPlace} {ts : List TypeId} {ds : List (DataW H)}
    (hsz : (DataW.weightsEach Tryz.prog ts ds).all (· ≤ reachBytes) = true) (hj : ts[j]? = some 55) (hd : ds[j]? = some d)
    (hv : Value.okWide Tryz.prog W .any base 55 v) (h : DataW.Trod enc Tryz.prog W 0 (fun _ => true) true 55 v d p) : ∃ x : Vr, v = .agg (vcs x).toArray ∧ VrRng x := by
  obtain ⟨cs, xs, n, rfl, hcl, rfl, rfl, hxl, hall⟩ := open_agg_any Tryz.underlying55 (by kernel_rfl) (by kernel_rfl) hv h
  have hw := arg_weights hsz hj hd
  match cs, hcl, xs, hxl with
  | [v0, v1, v2], _, [y0, y1, y2], _ =>
    obtain ⟨ts', rfl, r0⟩ := field_int Tryz.underlying3 (hall 0 _ _ _ rfl rfl rfl)
    obtain ⟨shard, rfl, r1⟩ := field_text Tryz.underlying9 (hall 1 _ _ _ rfl rfl rfl) (agg_weights (i := 1) Tryz.underlying55 rfl rfl hw)
    obtain ⟨dead, rfl⟩ := field_bool Tryz.underlying4 (hall 2 _ _ _ rfl rfl rfl)
    exact ⟨⟨ts', shard, dead⟩, rfl, ⟨r0, r1⟩⟩

end

/-! ### a row of the call's own -/

theorem Tryz.infoVer : (Tryz.prog.info? 55).map (fun i => (i.zero, i.size, i.bytes)) = some (some (.agg #[.int .i64 0, .string ⟨#[]⟩, .bool false]), 3, 32) := by kernel_rfl

theorem vrV_len (l : List Vr) : (vrV l).length = l.length * 3 := by
  induction l with
  | nil => rfl
  | cons x r ih => unfold vrV at ih ⊢; rw [List.flatMap_cons, List.length_append, ih, List.length_cons]; show 3 + _ = _; omega

theorem vrV_at : ∀ (l : List Vr) (i : Nat) (h : i < l.length), (vrV l)[i * 3]? = some (.int .i64 l[i].ts) ∧ (vrV l)[i * 3 + 1]? = some (.string l[i].shard) ∧ (vrV l)[i * 3 + 2]? = some (.bool l[i].dead)
  | [], _, h => absurd h (by simp)
  | x :: r, 0, _ => ⟨rfl, rfl, rfl⟩
  | x :: r, i + 1, h => by
    have h3 : (vcs x).length = 3 := rfl
    obtain ⟨h0, h1, h2⟩ := vrV_at r i (by simpa using h)
    unfold vrV at h0 h1 h2 ⊢
    rw [List.flatMap_cons, List.getElem?_append_right (by omega), List.getElem?_append_right (by omega), List.getElem?_append_right (by omega), h3]
    rw [show (i + 1) * 3 - 3 = i * 3 by omega, show (i + 1) * 3 + 1 - 3 = i * 3 + 1 by omega, show (i + 1) * 3 + 2 - 3 = i * 3 + 2 by omega]
    exact ⟨h0, h1, h2⟩

theorem vrV_app (a b : List Vr) : vrV (a ++ b) = vrV a ++ vrV b := by unfold vrV; rw [List.flatMap_append]

theorem vrV_snoc (a : List Vr) (x : Vr) : vrV (a ++ [x]) = vrV a ++ vcs x := by rw [vrV_app]; unfold vrV; simp

theorem vrV_one (l : List Vr) : ∀ u ∈ vrV l, u.oneCell' = true := fun u hu => by
  obtain ⟨x, _, hx⟩ := List.mem_flatMap.1 hu
  unfold vcs at hx
  simp only [List.mem_cons, List.not_mem_nil, or_false] at hx
  rcases hx with rfl | rfl | rfl <;> rfl

theorem VrsAt.news {w : World} {ad : Addr} {l : List Vr} (h : VrsAt w (some ad) l) : ∀ j u, (vrV l)[j]? = some u → w.cell? (ad.add j) = some u := fun j u hu => by
  have hj : j < l.length * 3 := by
    have := (List.getElem?_eq_some_iff.1 hu).1
    rwa [vrV_len] at this
  obtain ⟨a', e, _, h3⟩ := h (by omega)
  obtain rfl := Option.some.inj e
  obtain ⟨y0, y1, y2⟩ := vrV_at l (j / 3) (by omega)
  obtain ⟨x0, x1, x2⟩ := h3 (j / 3) (by omega)
  have hc : j % 3 = 0 ∨ j % 3 = 1 ∨ j % 3 = 2 := by omega
  rcases hc with r | r | r
  · have ej : j = j / 3 * 3 := by omega
    rw [← ej] at y0 x0
    rw [y0] at hu; rw [x0]; exact hu
  · have ej : j = j / 3 * 3 + 1 := by omega
    rw [← ej] at y1 x1
    rw [y1] at hu; rw [x1]; exact hu
  · have ej : j = j / 3 * 3 + 2 := by omega
    rw [← ej] at y2 x2
    rw [y2] at hu; rw [x2]; exact hu

end Ch
end Go.Proofs.YtiobhbagjokpcaaGreat

/- Whether versions are the same; contract; no condition but the range. -/
namespace Go.Proofs.YtiobhbagjokpcaaGreat
namespace Ch
open Go.RowKit Bk

attribute [local go_sem ↓] Go.wp_at_zero Go.wp_at_succ
attribute [local go_sem] floatUpon pick

theorem add_field (a : Addr) (n k : Nat) (hk : 0 < k) : (⟨(a.add n).block, (a.add n).off + k, none⟩ : Addr) = a.add (n + k) := by
  unfold Addr.add
  by_cases h : n = 0
  · rw [if_pos h, if_neg (by omega), h, Nat.zero_add]
  · rw [if_neg h, if_neg (by omega)]
    simp only [Nat.add_assoc]

end Ch
end Go.Proofs.YtiobhbagjokpcaaGreat

/- A chain that is lent, kept, spoiled: contracts; no condition but the range. -/
namespace Go.Proofs.YtiobhbagjokpcaaGreat
namespace Ch
open Go.RowKit Bk

attribute [local go_sem ↓] Go.wp_at_zero Go.wp_at_succ
attribute [local go_sem] floatUpon pick

/-- append of a row that may be nil onto an owned row, three cells each -/
theorem run_append_opt3 {P : Program} (w : World) (base : Nat) (t ty e : TypeId) (i : TypeInfo) (z : Value) (bytes : Nat) (ht : P.underlying t = some (.slice e)) (hi : P.info? e = some i) (hz : i.zero = some z)
    (hsize : i.size = 3) (hby : i.bytes = bytes) (hzs : z.cells.size = 3) (v : Value) (n : Nat) (xs : List Value) (hown : w.ownsRow base e 3 v n xs)
    (A : Option Addr) (m c : Nat) (news : List Value) (hl : news.length = m * 3) (hA : A = none → m = 0 ∧ c = 0) (hnews : ∀ ad, A = some ad → ∀ j u, news[j]? = some u → w.cell? (ad.add j) = some u) (h1 : ∀ u ∈ news, u.oneCell' = true)
    (h63 : n + m ≤ maxLen) (hbytes : (n + m) * bytes ≤ 140737488355328) (hbase : base ≤ w.heap.size) :
    ∃ v' w', (Builtin.append_ #[t, t] ty #[v, .slice A m c]).run P w = .ok v' w' ∧ w'.ownsRow base e 3 v' (n + m) (xs ++ news) ∧ w.grownBy w' v.ownBlock ∧ (v'.ownBlock = v.ownBlock ∨ v'.ownBlock = some w.heap.size) := by
  cases A with
  | none =>
    obtain ⟨rfl, rfl⟩ := hA rfl
    obtain rfl : news = [] := List.eq_nil_of_length_eq_zero (by omega)
    exact ⟨v, w, run_append_owned_none (P := P) w base t ty e i 3 ht hi _ _ _ hown, by rw [List.append_nil]; exact hown, ⟨rfl, rfl, rfl, Nat.le_refl _, fun _ _ _ => rfl⟩, .inl rfl⟩
  | some ad =>
    obtain ⟨v', w', hr, h2, h3, _, h5⟩ := run_append_own_at (P := P) w base t ty e i z 3 bytes ht hi hz hsize hby hzs (by omega) v n xs hown ad m c news hl (hnews ad rfl) h1 h63 hbytes hbase
    exact ⟨v', w', hr, h2, h3, h5⟩

theorem wpList_append_opt3 {P : Program} {w : World} {ops : Array Oper} {rest : List Oper} {o : Oper} {a : Act} {Q : Exit → Act → World → Prop} (hgd : o.guard = none) (s x : Operand) (t : TypeId)
    (ho : o.op = .call { callee := .builtin .append, args := #[s, x], argTypes := #[t, t] })
    (base : Nat) (e : TypeId) (i : TypeInfo) (z : Value) (bytes : Nat) (ht : P.underlying t = some (.slice e)) (hi : P.info? e = some i) (hz : i.zero = some z)
    (hsize : i.size = 3) (hby : i.bytes = bytes) (hzs : z.cells.size = 3) (v : Value) (n : Nat) (xs : List Value) (hs : a.eval s = v) (hown : w.ownsRow base e 3 v n xs)
    (A : Option Addr) (m c : Nat) (news : List Value) (hx : a.eval x = .slice A m c) (hl : news.length = m * 3) (hA : A = none → m = 0 ∧ c = 0) (hnews : ∀ ad, A = some ad → ∀ j u, news[j]? = some u → w.cell? (ad.add j) = some u) (h1 : ∀ u ∈ news, u.oneCell' = true)
    (h63 : n + m ≤ maxLen) (hbytes : (n + m) * bytes ≤ 140737488355328) (hbase : base ≤ w.heap.size)
    (h : ∀ v' w', w'.ownsRow base e 3 v' (n + m) (xs ++ news) → w.grownBy w' v.ownBlock → (v'.ownBlock = v.ownBlock ∨ v'.ownBlock = some w.heap.size) → wpList P ops Q rest (a.put o.dst v') w') :
    wpList P ops Q (o :: rest) a w := by
  refine wpList_plain hgd fun K hK => ?_
  obtain ⟨v', w', hr, h2, h3, h5⟩ := run_append_opt3 (P := P) w base t o.type e i z bytes ht hi hz hsize hby hzs v n xs hown A m c news hl hA hnews h1 h63 hbytes hbase
  unfold Oper.wp execOp
  simp only [ho, resolve, invoke, builtin, Sem.run_bind, Sem.run_pure, Result.andThen_ok, List.map_toArray, List.map_cons, List.map_nil, hs, hx, hr]
  exact hK _ _ (h v' w' h2 h3 h5)

def markV : Vr := ⟨-77, ⟨#[]⟩, false⟩

theorem new_cells (w : World) (x : Vr) (t : TypeId) : ∀ j u, (vcs x)[j]? = some u → (w.alloc (.cells (vcs x).toArray t)).cell? ((⟨w.heap.size, 0, none⟩ : Addr).add j) = some u := fun j u hj => by
  rw [addr_head]
  exact blk_cell (blk1 w _).2 (by rw [List.getElem?_toArray]; exact hj)

theorem vcs_one (x : Vr) : ∀ u ∈ vcs x, u.oneCell' = true := fun u hu => by
  unfold vcs at hu
  simp only [List.mem_cons, List.not_mem_nil, or_false] at hu
  rcases hu with rfl | rfl | rfl <;> rfl

theorem vrs_own {w : World} {H n : Nat} {v : Value} {e : TypeId} {l : List Vr} (h : w.ownsRow H e 3 v n (vrV l)) (hl : n = l.length) : ∃ (A : Option Addr) (c : Nat), v = .slice A n c ∧ VrsAt w A l ∧ n ≤ c ∧ c ≤ maxLen ∧ (A = none → n = 0 ∧ c = 0) := by
  rcases h.2 with ⟨rfl, rfl⟩ | ⟨g, cap, cur, rfl, _, hg, h1, h2, hsz, htk⟩
  · exact ⟨none, 0, rfl, fun hp => by omega, Nat.le_refl _, Nat.zero_le _, fun _ => ⟨rfl, rfl⟩⟩
  · refine ⟨_, cap, rfl, fun _ => ⟨_, rfl, (Array.getElem?_eq_some_iff.1 hg).1, fun i hi => ?_⟩, h1, h2, fun e => by cases e⟩
    obtain ⟨x0, x1, x2⟩ := vrV_at l i hi
    have hlen : (vrV l).length = n * 3 := by rw [vrV_len, hl]
    have hc : ∀ j u, (vrV l)[j]? = some u → w.cell? ((⟨g, 0, none⟩ : Addr).add j) = some u := fun j u hu => by
      rw [addr_head]
      refine blk_cell hg ?_
      have hj := (List.getElem?_eq_some_iff.1 hu).1
      rw [← htk, List.getElem?_take_of_lt (by omega)] at hu
      rw [← Array.getElem?_toList]; exact hu
    exact ⟨hc _ _ x0, hc _ _ x1, hc _ _ x2⟩

/-- what is lent: a row of the call's own, a mark behind it -/
def Lent (W : World) (H : Nat) (l : List Vr) (g cap : Nat) : Prop := W.ownsRow H 55 3 (.slice (some ⟨g, 0, none⟩) (l.length + 1) cap) (l.length + 1) (vrV (l ++ [markV]))

theorem Lent.cap {W : World} {H g cap : Nat} {l : List Vr} (h : Lent W H l g cap) : l.length + 1 ≤ cap ∧ cap ≤ 9223372036854775807 ∧ g < W.heap.size ∧ H ≤ g := by
  rcases h.2 with ⟨h1, h2⟩ | ⟨g', cap', cur, h1, h0, h2, h3, h4, _⟩
  · simp at h1
  · simp only [Value.slice.injEq, Option.some.injEq, Addr.mk.injEq] at h1
    obtain ⟨⟨rfl, -⟩, -, rfl⟩ := h1
    unfold maxLen at h4
    exact ⟨h3, h4, (Array.getElem?_eq_some_iff.1 h2).1, h0⟩

theorem Lent.vrs {W : World} {H g cap : Nat} {l : List Vr} (h : Lent W H l g cap) : VrsAt W (some ⟨g, 0, none⟩) l := by
  obtain ⟨A, c, e, h1, _⟩ := vrs_own h (by simp)
  simp only [Value.slice.injEq] at e
  obtain ⟨rfl, -, -⟩ := e
  intro hp
  obtain ⟨ad, e, h2, h3⟩ := h1 (by simp)
  refine ⟨ad, e, h2, fun i hi => ?_⟩
  have := h3 i (by rw [List.length_append]; omega)
  rwa [List.getElem_append_left hi] at this

theorem Lent.mark {W : World} {H g cap : Nat} {l : List Vr} (h : Lent W H l g cap) : W.cell? ⟨g, l.length * 3, none⟩ = some (.int .i64 (-77)) ∧ W.cell? ⟨g, l.length * 3 + 1, none⟩ = some (.string ⟨#[]⟩) ∧ W.cell? ⟨g, l.length * 3 + 2, none⟩ = some (.bool false) := by
  obtain ⟨A, c, e, h1, _⟩ := vrs_own h (by simp)
  simp only [Value.slice.injEq] at e
  obtain ⟨rfl, -, -⟩ := e
  obtain ⟨ad, e, h2, h3⟩ := h1 (by simp)
  obtain rfl := Option.some.inj e
  have := h3 l.length (by simp)
  rw [List.getElem_append_right (Nat.le_refl _)] at this
  simp only [Nat.sub_self, List.getElem_cons_zero, addr_head] at this
  exact this

theorem Lent.below {W W' : World} {H g cap : Nat} {l : List Vr} (h : Lent W H l g cap) (hb : Below W.heap.size W W') : Lent W' H l g cap := st_keep h hb

end Ch
end Go.Proofs.YtiobhbagjokpcaaGreat
