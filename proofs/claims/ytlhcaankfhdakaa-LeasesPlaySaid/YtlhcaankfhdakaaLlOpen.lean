/- Rows of structs of three numbers as arguments; no condition but the reach. -/
import Derived.Test.YtlhcaankfhdakaaLlMath
import Derived.Test.YtlhcaankfhdakaaBkOpen
import Derived.Deep.SlicePairs
namespace Go.Proofs.Ytlhcaankfhdakaa
namespace Ll
open Go.ChangeShapes Go.WideShapes Go.ChangeAt Go.RowKit Go.Joins Go.Deep Bk

section
variable {H : Type} {enc : TypeId × Value → H} {W : World}

theorem field_int {t : TypeId} {v : Value} {fuel : Nat} {y : DataW H × List MemPlace} (ht : Try.prog.underlying t = some (.int .i64)) (hf : DataW.trod enc Try.prog W 0 (fun _ => true) true fuel t [v] = some y) : ∃ z, v = .int .i64 z ∧ -9223372036854775808 ≤ z ∧ z ≤ 9223372036854775807 := by
  obtain ⟨z, h1, _, h3⟩ := DataW.trod_int ht hf
  obtain rfl : v = .int .i64 z := by simpa using h1
  exact ⟨z, rfl, show IntKind.i64.min ≤ z ∧ z ≤ 9223372036854775807 by simpa [Lit.wf] using h3⟩

end

/-- one of the argument's -/
structure OneI where
  gap : Int
  ts : Int
  kept : Int
instance : Inhabited OneI := ⟨⟨0, 0, 0⟩⟩

def onesRng (x : OneI) : Prop := (-9223372036854775808 ≤ x.gap ∧ x.gap ≤ 9223372036854775807) ∧ (-9223372036854775808 ≤ x.ts ∧ x.ts ≤ 9223372036854775807) ∧ (-9223372036854775808 ≤ x.kept ∧ x.kept ≤ 9223372036854775807)

def onesAt (w : World) (A : Option Addr) (L : List OneI) : Prop :=
  0 < L.length → ∃ ad, A = some ad ∧ ad.block < w.heap.size ∧ ∀ i (h : i < L.length), w.cell? (ad.add (i * 3)) = some (.int .i64 L[i].gap) ∧ w.cell? (ad.add (i * 3 + 1)) = some (.int .i64 L[i].ts) ∧ w.cell? (ad.add (i * 3 + 2)) = some (.int .i64 L[i].kept)

theorem onesAt.below {w w' : World} {A : Option Addr} {L : List OneI} (h : onesAt w A L) (hb : Below w.heap.size w w') : onesAt w' A L := fun hp => by
  obtain ⟨ad, h1, h2, h3⟩ := h hp
  refine ⟨ad, h1, Nat.lt_of_lt_of_le h2 hb.size, fun i hi => ?_⟩
  have h4 := h3 i hi
  refine ⟨(cell_kept hb _ (by rw [st_block]; exact h2)).trans h4.1, (cell_kept hb _ (by rw [st_block]; exact h2)).trans h4.2.1, (cell_kept hb _ (by rw [st_block]; exact h2)).trans h4.2.2⟩

def onesOf (w : World) (v : Value) (L : List OneI) : Prop := ∃ (A : Option Addr) (c : Nat), v = .slice A L.length c ∧ onesAt w A L ∧ L.length * 16 ≤ reachBytes ∧ ∀ x ∈ L, onesRng x

set_option maxRecDepth 20000 in
set_option maxHeartbeats 4000000 in
theorem field_ones {H : Type} {enc : TypeId × Value → H} {W : World} {v : Value} {fuel : Nat} {y : DataW H × List MemPlace}
    (hf : DataW.trod enc Try.prog W 0 (fun _ => true) true fuel 43 [v] = some y) (hwt : ∀ k ∈ y.1.weights Try.prog 43, k ≤ reachBytes) (hl : ∀ x ∈ y.2, x.block < W.heap.size) : ∃ L, onesOf W v L := by
  have ht : Try.prog.underlying 43 = some (.slice 46) := Try.underlying43
  have ce : Try.prog.cellsOf 46 = 3 := of_decide_eq_true (by kernel_rfl)
  have hb16 : 16 ≤ Try.prog.bytesOf 46 := of_decide_eq_true (by kernel_rfl)
  rcases open_slice ht hf with ⟨hcs, _⟩ | ⟨a, len', cap', m, n, D, Pl, hcs, _, hl', hm, hmm, hx, hall⟩
  · obtain rfl : v = .slice none 0 0 := by simpa using hcs
    exact ⟨[], none, 0, rfl, fun h => absurd h (by simp), by simp, by simp⟩
  · obtain rfl : v = .slice (some a) len' cap' := by simpa using hcs
    subst hx
    simp only [if_true] at hmm
    subst hmm
    have each : ∀ i, i < len' → ∃ q : OneI, (W.cell? (a.add (i * 3)) = some (.int .i64 q.gap) ∧ W.cell? (a.add (i * 3 + 1)) = some (.int .i64 q.ts) ∧ W.cell? (a.add (i * 3 + 2)) = some (.int .i64 q.kept)) ∧ onesRng q := by
      intro i hi
      obtain ⟨cs', h1, h2⟩ := hall i (by omega)
      rw [ce] at h1
      obtain ⟨_, hlen, hcell⟩ := World.cells?_some h1
      obtain ⟨xs, k, _, hxy, _, hxl, hff⟩ := DataW.trod_struct Try.underlying46 h2
      match xs, hxl, cs', hlen with
      | [y0, y1, y2], _, [v0, v1, v2], _ =>
        have g0 := hff 0 _ rfl
        have g1 := hff 1 _ rfl
        have g2 := hff 2 _ rfl
        simp at g0 g1 g2
        obtain ⟨a, rfl, r0⟩ := field_int Try.underlying3 g0
        obtain ⟨u, rfl, r1⟩ := field_int Try.underlying3 g1
        obtain ⟨o, rfl, r2⟩ := field_int Try.underlying3 g2
        refine ⟨⟨a, u, o⟩, ⟨?_, ?_, ?_⟩, ⟨r0, r1, r2⟩⟩
        · have e := hcell 0 (by omega)
          rw [Go.Deep.add_add] at e
          simpa using e
        · have e := hcell 1 (by omega)
          rw [Go.Deep.add_add] at e
          simpa using e
        · have e := hcell 2 (by omega)
          rw [Go.Deep.add_add] at e
          simpa using e
    obtain ⟨q, hq⟩ := choose_lt each
    have hs := hwt ((((List.range len').map D).length + ((List.range (m - len')).map fun j => D (len' + j)).length) * Try.prog.bytesOf 46) (by simp [DataW.weights, ht])
    refine ⟨(List.range len').map q, some a, m, by simp, fun hpos => ⟨a, rfl, ?_, fun i hi => ?_⟩, ?_, fun x hx => ?_⟩
    · obtain ⟨b, off, spot⟩ := a
      rw [List.length_map, List.length_range] at hpos
      exact hl (.cell b off) (List.mem_append_left _ (MemPlace.mem_row.2 ⟨0, by rw [ce]; omega, by simp⟩))
    · rw [List.length_map, List.length_range] at hi
      simpa using (hq i hi).1
    · rw [List.length_map, List.length_range]
      refine Nat.le_trans (Nat.mul_le_mul ?_ hb16) hs
      rw [List.length_map, List.length_range]
      omega
    · obtain ⟨i, hi, rfl⟩ := List.mem_map.1 hx
      exact (hq i (List.mem_range.1 hi)).2

set_option maxRecDepth 20000 in
theorem open_ones {H : Type} {enc : TypeId × Value → H} {W : World} {base : Nat} {v : Value} {d : DataW H} {p : List MemPlace} {ts : List TypeId} {ds : List (DataW H)} {j : Nat}
    (hsz : (DataW.weightsEach Try.prog ts ds).all (· ≤ reachBytes) = true) (hj : ts[j]? = some 43) (hd : ds[j]? = some d)
    (hv : Value.okWide Try.prog W .any base 43 v) (h : DataW.Trod enc Try.prog W 0 (fun _ => true) true 43 v d p) (hl : ∀ x ∈ p, x.block < W.heap.size) : ∃ L, onesOf W v L := by
  obtain ⟨a0, len, cap, rfl⟩ := okWide_slice Try.underlying43 hv
  obtain ⟨fuel, hf⟩ := h
  exact field_ones hf (arg_weights hsz hj hd) hl

/-- one of the argument's -/
structure ActI where
  k : Int
  now : Int
  n : Int
instance : Inhabited ActI := ⟨⟨0, 0, 0⟩⟩

def actsRng (x : ActI) : Prop := (-9223372036854775808 ≤ x.k ∧ x.k ≤ 9223372036854775807) ∧ (-9223372036854775808 ≤ x.now ∧ x.now ≤ 9223372036854775807) ∧ (-9223372036854775808 ≤ x.n ∧ x.n ≤ 9223372036854775807)

def actsAt (w : World) (A : Option Addr) (L : List ActI) : Prop :=
  0 < L.length → ∃ ad, A = some ad ∧ ad.block < w.heap.size ∧ ∀ i (h : i < L.length), w.cell? (ad.add (i * 3)) = some (.int .i64 L[i].k) ∧ w.cell? (ad.add (i * 3 + 1)) = some (.int .i64 L[i].now) ∧ w.cell? (ad.add (i * 3 + 2)) = some (.int .i64 L[i].n)

theorem actsAt.below {w w' : World} {A : Option Addr} {L : List ActI} (h : actsAt w A L) (hb : Below w.heap.size w w') : actsAt w' A L := fun hp => by
  obtain ⟨ad, h1, h2, h3⟩ := h hp
  refine ⟨ad, h1, Nat.lt_of_lt_of_le h2 hb.size, fun i hi => ?_⟩
  have h4 := h3 i hi
  refine ⟨(cell_kept hb _ (by rw [st_block]; exact h2)).trans h4.1, (cell_kept hb _ (by rw [st_block]; exact h2)).trans h4.2.1, (cell_kept hb _ (by rw [st_block]; exact h2)).trans h4.2.2⟩

def actsOf (w : World) (v : Value) (L : List ActI) : Prop := ∃ (A : Option Addr) (c : Nat), v = .slice A L.length c ∧ actsAt w A L ∧ L.length * 16 ≤ reachBytes ∧ ∀ x ∈ L, actsRng x

set_option maxRecDepth 20000 in
set_option maxHeartbeats 4000000 in
theorem field_acts {H : Type} {enc : TypeId × Value → H} {W : World} {v : Value} {fuel : Nat} {y : DataW H × List MemPlace}
    (hf : DataW.trod enc Try.prog W 0 (fun _ => true) true fuel 22 [v] = some y) (hwt : ∀ k ∈ y.1.weights Try.prog 22, k ≤ reachBytes) (hl : ∀ x ∈ y.2, x.block < W.heap.size) : ∃ L, actsOf W v L := by
  have ht : Try.prog.underlying 22 = some (.slice 32) := Try.underlying22
  have ce : Try.prog.cellsOf 32 = 3 := of_decide_eq_true (by kernel_rfl)
  have hb16 : 16 ≤ Try.prog.bytesOf 32 := of_decide_eq_true (by kernel_rfl)
  rcases open_slice ht hf with ⟨hcs, _⟩ | ⟨a, len', cap', m, n, D, Pl, hcs, _, hl', hm, hmm, hx, hall⟩
  · obtain rfl : v = .slice none 0 0 := by simpa using hcs
    exact ⟨[], none, 0, rfl, fun h => absurd h (by simp), by simp, by simp⟩
  · obtain rfl : v = .slice (some a) len' cap' := by simpa using hcs
    subst hx
    simp only [if_true] at hmm
    subst hmm
    have each : ∀ i, i < len' → ∃ q : ActI, (W.cell? (a.add (i * 3)) = some (.int .i64 q.k) ∧ W.cell? (a.add (i * 3 + 1)) = some (.int .i64 q.now) ∧ W.cell? (a.add (i * 3 + 2)) = some (.int .i64 q.n)) ∧ actsRng q := by
      intro i hi
      obtain ⟨cs', h1, h2⟩ := hall i (by omega)
      rw [ce] at h1
      obtain ⟨_, hlen, hcell⟩ := World.cells?_some h1
      obtain ⟨xs, k, _, hxy, _, hxl, hff⟩ := DataW.trod_struct Try.underlying32 h2
      match xs, hxl, cs', hlen with
      | [y0, y1, y2], _, [v0, v1, v2], _ =>
        have g0 := hff 0 _ rfl
        have g1 := hff 1 _ rfl
        have g2 := hff 2 _ rfl
        simp at g0 g1 g2
        obtain ⟨a, rfl, r0⟩ := field_int Try.underlying3 g0
        obtain ⟨u, rfl, r1⟩ := field_int Try.underlying3 g1
        obtain ⟨o, rfl, r2⟩ := field_int Try.underlying3 g2
        refine ⟨⟨a, u, o⟩, ⟨?_, ?_, ?_⟩, ⟨r0, r1, r2⟩⟩
        · have e := hcell 0 (by omega)
          rw [Go.Deep.add_add] at e
          simpa using e
        · have e := hcell 1 (by omega)
          rw [Go.Deep.add_add] at e
          simpa using e
        · have e := hcell 2 (by omega)
          rw [Go.Deep.add_add] at e
          simpa using e
    obtain ⟨q, hq⟩ := choose_lt each
    have hs := hwt ((((List.range len').map D).length + ((List.range (m - len')).map fun j => D (len' + j)).length) * Try.prog.bytesOf 32) (by simp [DataW.weights, ht])
    refine ⟨(List.range len').map q, some a, m, by simp, fun hpos => ⟨a, rfl, ?_, fun i hi => ?_⟩, ?_, fun x hx => ?_⟩
    · obtain ⟨b, off, spot⟩ := a
      rw [List.length_map, List.length_range] at hpos
      exact hl (.cell b off) (List.mem_append_left _ (MemPlace.mem_row.2 ⟨0, by rw [ce]; omega, by simp⟩))
    · rw [List.length_map, List.length_range] at hi
      simpa using (hq i hi).1
    · rw [List.length_map, List.length_range]
      refine Nat.le_trans (Nat.mul_le_mul ?_ hb16) hs
      rw [List.length_map, List.length_range]
      omega
    · obtain ⟨i, hi, rfl⟩ := List.mem_map.1 hx
      exact (hq i (List.mem_range.1 hi)).2

set_option maxRecDepth 20000 in
theorem open_acts {H : Type} {enc : TypeId × Value → H} {W : World} {base : Nat} {v : Value} {d : DataW H} {p : List MemPlace} {ts : List TypeId} {ds : List (DataW H)} {j : Nat}
    (hsz : (DataW.weightsEach Try.prog ts ds).all (· ≤ reachBytes) = true) (hj : ts[j]? = some 22) (hd : ds[j]? = some d)
    (hv : Value.okWide Try.prog W .any base 22 v) (h : DataW.Trod enc Try.prog W 0 (fun _ => true) true 22 v d p) (hl : ∀ x ∈ p, x.block < W.heap.size) : ∃ L, actsOf W v L := by
  obtain ⟨a0, len, cap, rfl⟩ := okWide_slice Try.underlying22 hv
  obtain ⟨fuel, hf⟩ := h
  exact field_acts hf (arg_weights hsz hj hd) hl

end Ll
end Go.Proofs.Ytlhcaankfhdakaa
