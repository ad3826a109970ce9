/- Rows of acts and numbers as arguments; no condition but the reach. -/
import Derived.Test.YtkpcfakfkcghdaaNtRow
import Derived.Test.YtkpcfakfkcghdaaA6
import Derived.Deep.SlicePairs
namespace Go.Proofs.Ytkpcfakfkcghdaa
namespace Nt
open Go.ChangeShapes Go.WideShapes Go.ChangeAt Go.RowKit Go.Joins Go.Deep Bk Lt
set_option linter.unusedVariables false

section
variable {H : Type} {enc : TypeId × Value → H} {W : World}

theorem weights_at {e t : TypeId} {d : DataW H} {ds sp : List (DataW H)} (ht : Try.prog.underlying t = some (.slice e)) (hm : d ∈ ds) (hwt : ∀ k ∈ (DataW.slice ds sp).weights Try.prog t, k ≤ reachBytes) : ∀ k ∈ d.weights Try.prog e, k ≤ reachBytes := fun k hk => hwt k (by
  simp only [DataW.weights, ht, List.mem_cons, List.mem_append]
  refine .inr (.inl ?_)
  have : ∀ (l : List (DataW H)), d ∈ l → k ∈ DataW.weightsAll Try.prog e l := by
    intro l
    induction l with
    | nil => intro h; simp at h
    | cons x r ih =>
      intro h
      show k ∈ x.weights Try.prog e ++ DataW.weightsAll Try.prog e r
      rw [List.mem_append]
      rcases List.mem_cons.1 h with rfl | h
      · exact .inl hk
      · exact .inr (ih h)
  exact this _ hm)

def IntsOf (w : World) (v : Value) (l : List Int) : Prop :=
  ∃ (A : Option Addr) (c : Nat), v = .slice A l.length c ∧ IntsAt w A l ∧ l.length * 8 ≤ reachBytes ∧ ∀ n ∈ l, -9223372036854775808 ≤ n ∧ n ≤ 9223372036854775807

set_option maxRecDepth 20000 in
theorem open_intsOf {base : Nat} {v : Value} {d : DataW H} {p : List MemPlace} {ts : List TypeId} {ds : List (DataW H)} {j : Nat}
    (hsz : (DataW.weightsEach Try.prog ts ds).all (· ≤ reachBytes) = true) (hj : ts[j]? = some 43) (hd : ds[j]? = some d)
    (hv : Value.okWide Try.prog W .any base 43 v) (h : DataW.Trod enc Try.prog W 0 (fun _ => true) true 43 v d p) (hl : ∀ x ∈ p, x.block < W.heap.size) : ∃ l, IntsOf W v l := by
  obtain ⟨a0, len, cap, rfl⟩ := okWide_slice Try.underlying43 hv
  obtain ⟨fuel, hf⟩ := h
  obtain ⟨A, c, L, e, q1, q2, _, _, q5, _⟩ := field_ints Try.underlying43 Try.underlying3 (by kernel_rfl) (by kernel_rfl) hf (arg_weights hsz hj hd) hl
  exact ⟨L, A, c, e, q1, q2, q5⟩

end

/-- an act of the argument's -/
structure AI where
  k : Int
  n : Int
  x : LI
  text : ByteArray
instance : Inhabited AI := ⟨⟨0, 0, default, ⟨#[]⟩⟩⟩

def acs (a : AI) : List Value := [.int .i64 a.k, .int .i64 a.n, .int .i64 a.x.l.kind, .int .i64 a.x.l.src, .int .i64 a.x.l.dst, .int .i64 a.x.l.txn, .int .i64 a.x.l.ts, .int .i64 a.x.l.code, .string a.x.l.text, .slice a.x.A a.x.l.keys.length a.x.c, .slice a.x.B a.x.l.ws.length a.x.d, .string a.text]

structure ActRng (w : World) (a : AI) : Prop where
  k : -9223372036854775808 ≤ a.k ∧ a.k ≤ 9223372036854775807
  n : -9223372036854775808 ≤ a.n ∧ a.n ≤ 9223372036854775807
  x : LetVal w a.x.A a.x.B a.x.c a.x.d a.x.l
  w40 : a.x.l.ws.length * 40 ≤ reachBytes
  text : a.text.size ≤ reachBytes

theorem ActRng.below {w w' : World} {a : AI} (h : ActRng w a) (hb : Below w.heap.size w w') : ActRng w' a := ⟨h.k, h.n, h.x.below hb, h.w40, h.text⟩

def ActsAt (w : World) (A : Option Addr) (L : List AI) : Prop :=
  0 < L.length → ∃ ad, A = some ad ∧ ad.block < w.heap.size ∧ ∀ i (h : i < L.length) (j : Nat) (v : Value), (acs L[i])[j]? = some v → w.cell? (ad.add (i * 12 + j)) = some v

theorem ActsAt.below {w w' : World} {A : Option Addr} {L : List AI} (h : ActsAt w A L) (hb : Below w.heap.size w w') : ActsAt w' A L := fun hp => by
  obtain ⟨ad, h1, h2, h3⟩ := h hp
  exact ⟨ad, h1, Nat.lt_of_lt_of_le h2 hb.size, fun i hi j v hv => (cell_kept hb _ (by rw [st_block]; exact h2)).trans (h3 i hi j v hv)⟩

def actsOf (w : World) (v : Value) (L : List AI) : Prop := ∃ (A : Option Addr) (c : Nat), v = .slice A L.length c ∧ ActsAt w A L ∧ L.length * 16 ≤ reachBytes ∧ ∀ a ∈ L, ActRng w a

set_option maxRecDepth 20000 in
set_option maxHeartbeats 4000000 in
theorem field_acts {H : Type} {enc : TypeId × Value → H} {W : World} {v : Value} {fuel : Nat} {y : DataW H × List MemPlace}
    (hf : DataW.trod enc Try.prog W 0 (fun _ => true) true fuel 22 [v] = some y) (hwt : ∀ k ∈ y.1.weights Try.prog 22, k ≤ reachBytes) (hl : ∀ x ∈ y.2, x.block < W.heap.size) : ∃ L, actsOf W v L := by
  have ht : Try.prog.underlying 22 = some (.slice 37) := Try.underlying22
  have ce : Try.prog.cellsOf 37 = 12 := of_decide_eq_true (by kernel_rfl)
  have cl : Try.prog.cellsOf 35 = 9 := of_decide_eq_true (by kernel_rfl)
  have ci : Try.prog.cellsOf 3 = 1 := of_decide_eq_true (by kernel_rfl)
  have cs : Try.prog.cellsOf 9 = 1 := of_decide_eq_true (by kernel_rfl)
  have hb16 : 16 ≤ Try.prog.bytesOf 37 := of_decide_eq_true (by kernel_rfl)
  rcases open_slice ht hf with ⟨hcs, _⟩ | ⟨a, len', cap', m, n, D, Pl, hcs, _, hl', hm, hmm, hx, hall⟩
  · obtain rfl : v = .slice none 0 0 := by simpa using hcs
    exact ⟨[], none, 0, rfl, fun h => absurd h (by simp), by simp, by simp⟩
  · obtain rfl : v = .slice (some a) len' cap' := by simpa using hcs
    subst hx
    simp only [if_true] at hmm
    subst hmm
    have each : ∀ i, i < len' → ∃ q : AI, (∀ (j : Nat) (v : Value), (acs q)[j]? = some v → W.cell? (a.add (i * 12 + j)) = some v) ∧ ActRng W q := by
      intro i hi
      obtain ⟨cs', h1, h2⟩ := hall i (by omega)
      rw [ce] at h1
      obtain ⟨_, hlen, hcell⟩ := World.cells?_some h1
      have hwi : ∀ k ∈ (D i).weights Try.prog 37, k ≤ reachBytes := weights_at ht (List.mem_map.2 ⟨i, List.mem_range.2 hi, rfl⟩) hwt
      obtain ⟨xs, k, _, hxy, _, hxl, hff⟩ := DataW.trod_struct Try.underlying37 h2
      simp only [Prod.mk.injEq] at hxy
      rw [hxy.1] at hwi
      have hpl : ∀ y ∈ xs, ∀ x ∈ y.2, x.block < W.heap.size := fun y hy x hx => hl x (by
        refine List.mem_append_right _ (List.mem_flatMap.2 ⟨i, List.mem_range.2 (by omega), ?_⟩)
        rw [hxy.2]
        exact List.mem_flatMap.2 ⟨y, hy, hx⟩)
      match xs, hxl, cs', hlen with
      | [y0, y1, y2, y3], _, [u0, u1, v0, v1, v2, v3, v4, v5, v6, v7, v8, u3], _ =>
        have b0 := hff 0 _ rfl
        have b1 := hff 1 _ rfl
        have b2 := hff 2 _ rfl
        have b3 := hff 3 _ rfl
        simp [ci, cs, cl] at b0 b1 b2 b3
        obtain ⟨kk, rfl, s0⟩ := field_int Try.underlying3 b0
        obtain ⟨nn, rfl, s1⟩ := field_int Try.underlying3 b1
        obtain ⟨tt, rfl, s3⟩ := field_text Try.underlying9 b3 (agg_weights (i := 3) Try.underlying37 rfl rfl hwi)
        have hw2 := agg_weights (i := 2) Try.underlying37 rfl rfl hwi
        have hp2 : ∀ x ∈ y2.2, x.block < W.heap.size := hpl y2 (by simp)
        obtain ⟨zs, k2, _, hzy, _, hzl, hgf⟩ := DataW.trod_struct Try.underlying35 b2
        obtain ⟨y2a, y2b⟩ := y2
        simp only [Prod.mk.injEq] at hzy
        obtain ⟨rfl, rfl⟩ := hzy
        simp only at hw2 hp2
        match zs, hzl with
        | [z0, z1, z2, z3, z4, z5, z6, z7, z8], _ =>
          have g0 := hgf 0 _ rfl
          have g1 := hgf 1 _ rfl
          have g2 := hgf 2 _ rfl
          have g3 := hgf 3 _ rfl
          have g4 := hgf 4 _ rfl
          have g5 := hgf 5 _ rfl
          have g6 := hgf 6 _ rfl
          have g7 := hgf 7 _ rfl
          have g8 := hgf 8 _ rfl
          simp at g0 g1 g2 g3 g4 g5 g6 g7 g8
          obtain ⟨kind, rfl, r0⟩ := field_int Try.underlying3 g0
          obtain ⟨src, rfl, r1⟩ := field_int Try.underlying3 g1
          obtain ⟨dst, rfl, r2⟩ := field_int Try.underlying3 g2
          obtain ⟨txn, rfl, r3⟩ := field_int Try.underlying3 g3
          obtain ⟨ts', rfl, r4⟩ := field_int Try.underlying3 g4
          obtain ⟨code, rfl, r5⟩ := field_int Try.underlying3 g5
          obtain ⟨text, rfl, r6⟩ := field_text Try.underlying9 g6 (agg_weights (i := 6) Try.underlying35 rfl rfl hw2)
          obtain ⟨A, c, K, rfl, a1, a2, a3, a4, a5, a6⟩ := field_texts Try.underlying32 Try.underlying9 (by kernel_rfl) (by kernel_rfl) g7 (agg_weights (i := 7) Try.underlying35 rfl rfl hw2) (fun x hx => hp2 x (List.mem_flatMap.2 ⟨z7, by simp, hx⟩))
          obtain ⟨B, d, M, rfl, e1, e2, e3, e4, e5, e6⟩ := field_writes40 Try.underlying33 Try.underlying82 (by kernel_rfl) (by kernel_rfl) Try.underlying9 Try.underlying9 Try.underlying4 (of_decide_eq_true (by kernel_rfl)) g8 (agg_weights (i := 8) Try.underlying35 rfl rfl hw2) (fun x hx => hp2 x (List.mem_flatMap.2 ⟨z8, by simp, hx⟩))
          refine ⟨⟨kk, nn, ⟨⟨kind, src, dst, txn, ts', code, text, K, M⟩, A, B, c, d⟩, tt⟩, fun j v hv => ?_, s0, s1, ⟨a1, e1, ⟨⟨r0, r1, r2, r3, r4, r5, r6, a2, Nat.le_trans (Nat.mul_le_mul_left _ (by omega)) e2, a5, e5⟩, a3, e3, a4, e4⟩, a6, e6⟩, e2, s3⟩
          have hj : j < 12 := (List.getElem?_eq_some_iff.1 hv).1
          have e := hcell j hj
          rw [Go.Deep.add_add] at e
          rw [e]
          exact hv
    obtain ⟨q, hq⟩ := choose_lt each
    have hL : ((List.range len').map q).length = len' := by simp
    have hat : ∀ i (h : i < ((List.range len').map q).length), ((List.range len').map q)[i] = q i := fun i h => by simp
    have hs := hwt ((((List.range len').map D).length + ((List.range (m - len')).map fun j => D (len' + j)).length) * Try.prog.bytesOf 37) (by simp [DataW.weights, ht])
    refine ⟨(List.range len').map q, some a, m, by rw [hL], fun hpos => ⟨a, rfl, ?_, fun i hi j v hv => ?_⟩, ?_, fun x hx => ?_⟩
    · obtain ⟨b, off, spot⟩ := a
      rw [hL] at hpos
      exact hl (.cell b off) (List.mem_append_left _ (MemPlace.mem_row.2 ⟨0, by rw [ce]; omega, by simp⟩))
    · rw [hat i hi] at hv
      exact (hq i (by rw [hL] at hi; exact hi)).1 j v hv
    · rw [hL]
      refine Nat.le_trans (Nat.mul_le_mul ?_ hb16) hs
      rw [List.length_map, List.length_range]
      omega
    · obtain ⟨i, hi, rfl⟩ := List.mem_map.1 hx
      exact (hq i (List.mem_range.1 hi)).2

set_option maxRecDepth 20000 in
theorem open_acts {H : Type} {enc : TypeId × Value → H} {W : World} {base : Nat} {v : Value} {d : DataW H} {p : List MemPlace} {ts : List TypeId} {ds : List (DataW H)} {j : Nat}
    (hsz : (DataW.weightsEach Try.prog ts ds).all (· ≤ reachBytes) = true) (hj : ts[j]? = some 22) (hd : ds[j]? = some d)
    (hv : Value.okWide Try.prog W .any base 22 v) (h : DataW.Trod enc Try.prog W 0 (fun _ => true) true 22 v d p) (hl : ∀ x ∈ p, x.block < W.heap.size) : ∃ L, actsOf W v L := by
  obtain ⟨a0, len, cap, rfl⟩ := okWide_slice Try.underlying22 hv
  obtain ⟨fuel, hf⟩ := h
  exact field_acts hf (arg_weights hsz hj hd) hl

end Nt
end Go.Proofs.Ytkpcfakfkcghdaa
