/- A row of records in the memory, as an argument and as a row of the call's own; no condition but the range. -/
import Derived.Test.YtjehjbkcdpidbaaGreatB15
import Derived.Test.YtjehjbkcdpidbaaGreatB14
namespace Go.Proofs.YtjehjbkcdpidbaaGreat
namespace Tr
open Go.ChangeShapes Go.WideShapes Go.ChangeAt Go.RowKit Go.Joins Go.Deep Bk Lt Rc

/-- a record, and where its lists lie -/
structure RI where
  l : Rec
  A : Option Addr
  B : Option Addr
  c : Nat
  d : Nat

instance : Inhabited RI := ⟨⟨noRec, none, none, 0, 0⟩⟩

def rcs (x : RI) : List Value := [.int .i64 x.l.kind, .int .i64 x.l.txn, .int .i64 x.l.ts, .int .i64 x.l.coord, .string x.l.key, .string x.l.text, .bool x.l.dead, .slice x.A x.l.keys.length x.c, .slice x.B x.l.ws.length x.d]

def RecsAt (w : World) (A : Option Addr) (L : List RI) : Prop :=
  0 < L.length → ∃ ad, A = some ad ∧ ad.block < w.heap.size ∧ ∀ i (h : i < L.length) (j : Nat) (v : Value), (rcs L[i])[j]? = some v → w.cell? (ad.add (i * 9 + j)) = some v

/-- the value is a slice of these records -/
def RecsOf (w : World) (v : Value) (L : List RI) : Prop :=
  ∃ (A : Option Addr) (c : Nat), v = .slice A L.length c ∧ RecsAt w A L ∧ L.length * 16 ≤ reachBytes ∧ (∀ x ∈ L, RecVal w x.A x.B x.c x.d x.l)

section
variable {H : Type} {enc : TypeId × Value → H} {W : World}

theorem weights_at {e t : TypeId} {d : DataW H} {ds sp : List (DataW H)} (ht : Tryz.prog.underlying t = some (.slice e)) (hm : d ∈ ds) (hwt : ∀ k ∈ (DataW.slice ds sp).weights Tryz.prog t, k ≤ reachBytes) : ∀ k ∈ d.weights Tryz.prog e, k ≤ reachBytes := fun k hk => hwt k (by
  simp only [DataW.weights, ht, List.mem_cons, List.mem_append]
  refine .inr (.inl ?_)
  have : ∀ (l : List (DataW H)), d ∈ l → k ∈ DataW.weightsAll Tryz.prog e l := by
    intro l
    induction l with
    | nil => intro h; simp at h
    | cons x r ih =>
      intro h
      show k ∈ x.weights Tryz.prog e ++ DataW.weightsAll Tryz.prog e r
      rw [List.mem_append]
      rcases List.mem_cons.1 h with rfl | h
      · exact .inl hk
      · exact .inr (ih h)
  exact this _ hm)

set_option maxRecDepth 20000 in
set_option maxHeartbeats 4000000 in
theorem field_recs {t : TypeId} {v : Value} {fuel : Nat} {y : DataW H × List MemPlace} (ht : Tryz.prog.underlying t = some (.slice 49)) (ce : Tryz.prog.cellsOf 49 = 9) (hb16 : 16 ≤ Tryz.prog.bytesOf 49)
    (hf : DataW.trod enc Tryz.prog W 0 (fun _ => true) true fuel t [v] = some y) (hwt : ∀ k ∈ y.1.weights Tryz.prog t, k ≤ reachBytes) (hl : ∀ x ∈ y.2, x.block < W.heap.size) :
    ∃ L, RecsOf W v L := by
  rcases open_slice ht hf with ⟨hcs, _⟩ | ⟨a, len, cap, m, n, D, Pl, hcs, _, hl', hm, hmm, hx, hall⟩
  · obtain rfl : v = .slice none 0 0 := by simpa using hcs
    exact ⟨[], none, 0, rfl, fun h => absurd h (by simp), by simp, by simp⟩
  · obtain rfl : v = .slice (some a) len cap := by simpa using hcs
    subst hx
    simp only [if_true] at hmm
    subst hmm
    have each : ∀ i, i < len → ∃ q : RI, (∀ (j : Nat) (v : Value), (rcs q)[j]? = some v → W.cell? (a.add (i * 9 + j)) = some v) ∧ RecVal W q.A q.B q.c q.d q.l := by
      intro i hi
      obtain ⟨cs', h1, h2⟩ := hall i (by omega)
      rw [ce] at h1
      obtain ⟨_, hlen, hcell⟩ := World.cells?_some h1
      have hwi : ∀ k ∈ (D i).weights Tryz.prog 49, k ≤ reachBytes := weights_at ht (List.mem_map.2 ⟨i, List.mem_range.2 hi, rfl⟩) hwt
      obtain ⟨xs, k, _, hxy, _, hxl, hff⟩ := DataW.trod_struct Tryz.underlying49 h2
      simp only [Prod.mk.injEq] at hxy
      rw [hxy.1] at hwi
      have hpl : ∀ y ∈ xs, ∀ x ∈ y.2, x.block < W.heap.size := fun y hy x hx => hl x (by
        refine List.mem_append_right _ (List.mem_flatMap.2 ⟨i, List.mem_range.2 (by omega), ?_⟩)
        rw [hxy.2]
        exact List.mem_flatMap.2 ⟨y, hy, hx⟩)
      match xs, hxl, cs', hlen with
      | [y0, y1, y2, y3, y4, y5, y6, y7, y8], _, [v0, v1, v2, v3, v4, v5, v6, v7, v8], _ =>
        have g0 := hff 0 _ rfl
        have g1 := hff 1 _ rfl
        have g2 := hff 2 _ rfl
        have g3 := hff 3 _ rfl
        have g4 := hff 4 _ rfl
        have g5 := hff 5 _ rfl
        have g6 := hff 6 _ rfl
        have g7 := hff 7 _ rfl
        have g8 := hff 8 _ rfl
        simp at g0 g1 g2 g3 g4 g5 g6 g7 g8
        obtain ⟨kind, rfl, r0⟩ := field_int Tryz.underlying3 g0
        obtain ⟨txn, rfl, r1⟩ := field_int Tryz.underlying3 g1
        obtain ⟨ts', rfl, r2⟩ := field_int Tryz.underlying3 g2
        obtain ⟨coord, rfl, r3⟩ := field_int Tryz.underlying3 g3
        obtain ⟨key, rfl, r4⟩ := field_text Tryz.underlying9 g4 (agg_weights (i := 4) Tryz.underlying49 rfl rfl hwi)
        obtain ⟨text, rfl, r5⟩ := field_text Tryz.underlying9 g5 (agg_weights (i := 5) Tryz.underlying49 rfl rfl hwi)
        obtain ⟨dead, rfl⟩ := field_bool Tryz.underlying4 g6
        obtain ⟨A, c, K, rfl, a1, a2, a3, a4, a5, a6⟩ := field_texts Tryz.underlying37 Tryz.underlying9 (by kernel_rfl) (by kernel_rfl) g7 (agg_weights (i := 7) Tryz.underlying49 rfl rfl hwi) (hpl y7 (by simp))
        obtain ⟨B, d, M, rfl, b1, b2, b3, b4, b5, b6⟩ := field_writes40 Tryz.underlying47 Tryz.underlying139 (by kernel_rfl) (by kernel_rfl) Tryz.underlying9 Tryz.underlying9 Tryz.underlying4 (of_decide_eq_true (by kernel_rfl)) g8 (agg_weights (i := 8) Tryz.underlying49 rfl rfl hwi) (hpl y8 (by simp))
        refine ⟨⟨⟨kind, txn, ts', coord, key, text, dead, K, M⟩, A, B, c, d⟩, fun j v hv => ?_, ⟨a1, b1, ⟨⟨r0, r1, r2, r3, r4, r5, a2, b2, a5, b5⟩, a3, b3, a4, b4⟩, a6, b6⟩⟩
        have hj : j < 9 := (List.getElem?_eq_some_iff.1 hv).1
        have e := hcell j hj
        rw [Lt.add_add] at e
        rw [e]
        exact hv
    obtain ⟨q, hq⟩ := choose_lt each
    have hL : ((List.range len).map q).length = len := by simp
    have hat : ∀ i (h : i < ((List.range len).map q).length), ((List.range len).map q)[i] = q i := fun i h => by simp
    have hs := hwt ((((List.range len).map D).length + ((List.range (m - len)).map fun j => D (len + j)).length) * Tryz.prog.bytesOf 49) (by simp [DataW.weights, ht])
    refine ⟨(List.range len).map q, some a, m, by rw [hL], fun hpos => ⟨a, rfl, ?_, fun i hi j v hv => ?_⟩, ?_, fun x hx => ?_⟩
    · obtain ⟨b, off, spot⟩ := a
      rw [hL] at hpos
      exact hl (.cell b off) (List.mem_append_left _ (MemPlace.mem_row.2 ⟨0, by rw [ce]; omega, by simp⟩))
    · rw [hat i hi] at hv
      exact (hq i (by rw [hL] at hi; exact hi)).1 j v hv
    · rw [hL]
      refine Nat.le_trans (Nat.mul_le_mul ?_ hb16) hs
      rw [List.length_map, List.length_range]
      omega
    · obtain ⟨i, hi, rfl⟩ := List.mem_map.1 hx
      exact (hq i (List.mem_range.1 hi)).2

set_option maxRecDepth 20000 in
theorem open_recs {base : Nat} {v : Value} {d : DataW H} {p : List MemPlace} {ts : List TypeId} {ds : List (DataW H)} {j : Nat}
    (hsz : (DataW.weightsEach Tryz.prog ts ds).all (· ≤ reachBytes) = true) (hj : ts[j]? = some 42) (hd : ds[j]? = some d)
    (hv : Value.okWide Tryz.prog W .any base 42 v) (h : DataW.Trod enc Tryz.prog W 0 (fun _ => true) true 42 v d p) (hl : ∀ x ∈ p, x.block < W.heap.size) : ∃ L, RecsOf W v L := by
  obtain ⟨a0, len, cap, rfl⟩ := okWide_slice Tryz.underlying42 hv
  obtain ⟨fuel, hf⟩ := h
  exact field_recs Tryz.underlying42 (by kernel_rfl) (of_decide_eq_true (by kernel_rfl)) hf (arg_weights hsz hj hd) hl

end

/-! ### a row of the call's own -/

theorem Tryz.infoRec : (Tryz.prog.info? 49).map (fun i => (i.zero.map (·.cells.size), i.size, i.bytes)) = some (some 9, 9, 120) := by kernel_rfl

theorem info_rec : ∃ i z, Tryz.prog.info? 49 = some i ∧ i.zero = some z ∧ z.cells.size = 9 ∧ i.size = 9 ∧ i.bytes = 120 := by
  have h := Tryz.infoRec
  cases hi : Tryz.prog.info? 49 with
  | none => rw [hi] at h; cases h
  | some i =>
    rw [hi] at h
    simp only [Option.map_some, Option.some.injEq, Prod.mk.injEq] at h
    obtain ⟨h1, h2, h3⟩ := h
    cases hz : i.zero with
    | none => rw [hz] at h1; cases h1
    | some z =>
      rw [hz] at h1
      simp only [Option.map_some, Option.some.injEq] at h1
      exact ⟨i, z, rfl, hz, h1, h2, h3⟩

theorem flat_len (K : List RI) : (K.flatMap rcs).length = K.length * 9 := by
  induction K with
  | nil => rfl
  | cons x r ih => rw [List.flatMap_cons, List.length_append, ih, List.length_cons]; show 9 + _ = _; omega

theorem flat_at : ∀ {K : List RI} {i : Nat} (h : i < K.length) {j : Nat} (_ : j < 9), (K.flatMap rcs)[i * 9 + j]? = (rcs K[i])[j]?
  | [], _, h, _, _ => absurd h (by simp)
  | x :: r, 0, _, j, hj => by
    rw [List.flatMap_cons, List.getElem?_append_left (by show _ < 9; omega), Nat.zero_mul, Nat.zero_add]; rfl
  | x :: r, i + 1, h, j, hj => by
    have h9 : (rcs x).length = 9 := rfl
    rw [List.flatMap_cons, List.getElem?_append_right (by rw [h9]; omega), h9, show (i + 1) * 9 + j - 9 = i * 9 + j by omega, flat_at (K := r) (by simpa using h) hj]
    rfl

theorem flat_snoc (K : List RI) (x : RI) : (K ++ [x]).flatMap rcs = K.flatMap rcs ++ rcs x := by
  rw [List.flatMap_append]; simp

theorem new_cells (w : World) (x : RI) (t : TypeId) : ∀ j u, (rcs x)[j]? = some u → (w.alloc (.cells (rcs x).toArray t)).cell? ((⟨w.heap.size, 0, none⟩ : Addr).add j) = some u := fun j u hj => by
  rw [addr_head]
  exact blk_cell (blk1 w _).2 (by rw [List.getElem?_toArray]; exact hj)

theorem one_cells (x : RI) : ∀ u ∈ rcs x, u.oneCell' = true := fun u hu => by
  unfold rcs at hu
  simp only [List.mem_cons, List.not_mem_nil, or_false] at hu
  rcases hu with rfl | rfl | rfl | rfl | rfl | rfl | rfl | rfl | rfl <;> rfl

end Tr
end Go.Proofs.YtjehjbkcdpidbaaGreat
