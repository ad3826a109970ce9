/- Calls as an argument: a row of structs, each with a row of numbers in it: what its reading says. -/
import Derived.Test.YtecgimnmccmpjaaBkOpen
import Derived.Test.YtecgimnmccmpjaaScStep
import Derived.Deep.SlicePairs
namespace Go.Proofs.Ytecgimnmccmpjaa
namespace Sc
open Go.ChangeShapes Go.WideShapes Go.ChangeAt Go.RowKit Go.Joins Go.Deep Bk

/-- a call that is asked for, and where its numbers lie -/
structure Ac where
  kind : Int
  n : Int
  text : ByteArray
  raw : Bool
  A : Option Addr
  c : Nat
  ps : List Int

instance : Inhabited Ac := ⟨⟨0, 0, ⟨#[]⟩, false, none, 0, []⟩⟩

def acV (x : Ac) : Value := .agg #[.int .i64 x.kind, .int .i64 x.n, .string x.text, .bool x.raw, .slice x.A x.ps.length x.c]

def ActsAt (w : World) (A : Option Addr) (L : List Ac) : Prop :=
  0 < L.length → ∃ ad, A = some ad ∧ ad.block < w.heap.size ∧ ∀ i (h : i < L.length), w.cell? (ad.add (i * 5)) = some (.int .i64 L[i].kind) ∧ w.cell? (ad.add (i * 5 + 1)) = some (.int .i64 L[i].n) ∧ w.cell? (ad.add (i * 5 + 2)) = some (.string L[i].text) ∧ w.cell? (ad.add (i * 5 + 3)) = some (.bool L[i].raw) ∧ w.cell? (ad.add (i * 5 + 4)) = some (.slice L[i].A L[i].ps.length L[i].c)

/-- the value is a slice of these calls -/
def ActsOf (w : World) (v : Value) (L : List Ac) : Prop :=
  ∃ (A : Option Addr) (c : Nat), v = .slice A L.length c ∧ ActsAt w A L ∧ L.length * 16 ≤ reachBytes ∧ (∀ x ∈ L, ActOk w x.A x.c x.n x.text x.ps)

section
variable {H : Type} {enc : TypeId × Value → H} {W : World}

theorem agg_weights {t : TypeId} {fs : Array Field} (hs : Try.prog.underlying t = some (.struct fs)) {xs : List (DataW H × List MemPlace)} {i : Nat} {f : Field} {y : DataW H × List MemPlace} (hi : fs[i]? = some f) (hy : xs[i]? = some y) (hw : ∀ k ∈ (DataW.agg (xs.map (·.1))).weights Try.prog t, k ≤ reachBytes) : ∀ k ∈ y.1.weights Try.prog f.type, k ≤ reachBytes := fun k hk => hw k (by
  simp only [DataW.weights, hs]
  exact DataW.weights_mem_each (ts := fs.toList.map (·.type)) (ds := xs.map (·.1)) (j := i) (by rw [List.getElem?_map, Array.getElem?_toList, hi]; rfl) (by rw [List.getElem?_map, hy]; rfl) k hk)

theorem field_int {t : TypeId} {v : Value} {fuel : Nat} {y : DataW H × List MemPlace} (ht : Try.prog.underlying t = some (.int .i64)) (hf : DataW.trod enc Try.prog W 0 (fun _ => true) true fuel t [v] = some y) : ∃ z, v = .int .i64 z ∧ -9223372036854775808 ≤ z ∧ z ≤ 9223372036854775807 := by
  obtain ⟨z, h1, _, h3⟩ := DataW.trod_int ht hf
  obtain rfl : v = .int .i64 z := by simpa using h1
  exact ⟨z, rfl, show IntKind.i64.min ≤ z ∧ z ≤ 9223372036854775807 by simpa [Lit.wf] using h3⟩

theorem field_text {t : TypeId} {v : Value} {fuel : Nat} {y : DataW H × List MemPlace} (ht : Try.prog.underlying t = some .string) (hf : DataW.trod enc Try.prog W 0 (fun _ => true) true fuel t [v] = some y) (hw : ∀ k ∈ y.1.weights Try.prog t, k ≤ reachBytes) : ∃ s : ByteArray, v = .string s ∧ s.size ≤ reachBytes := by
  obtain ⟨s, h1, rfl, _⟩ := DataW.trod_string ht hf
  obtain rfl : v = .string s := by simpa using h1
  exact ⟨s, rfl, by
    have := hw s.data.toList.length (by simp [DataW.weights])
    rwa [Array.length_toList] at this⟩

theorem field_bool {t : TypeId} {v : Value} {fuel : Nat} {y : DataW H × List MemPlace} (ht : Try.prog.underlying t = some .bool) (hf : DataW.trod enc Try.prog W 0 (fun _ => true) true fuel t [v] = some y) : ∃ b, v = .bool b := by
  obtain ⟨b, h1, _⟩ := DataW.trod_bool ht hf
  exact ⟨b, by simpa using h1⟩

theorem weights_at {e t : TypeId} {d : DataW H} {ds sp : List (DataW H)} (ht : Try.prog.underlying t = some (.slice e)) (hm : d ∈ ds) (hwt : ∀ k ∈ (DataW.slice ds sp).weights Try.prog t, k ≤ reachBytes) : ∀ k ∈ d.weights Try.prog e, k ≤ reachBytes := fun k hk => hwt k (by
  simp only [DataW.weights, ht, List.mem_cons, List.mem_append]
  refine .inr (.inl ?_)
  have : ∀ (l : List (DataW H)), d ∈ l → k ∈ DataW.weightsAll Try.prog e l := by
    intro l
    induction l with
    | nil => intro h; simp at h
    | cons x r ih =>
      intro h
      show k ∈ x.weights Try.prog e ++ DataW.weightsAll Try.prog e r
      rw [List.mem_append]
      rcases List.mem_cons.1 h with rfl | h
      · exact .inl hk
      · exact .inr (ih h)
  exact this _ hm)

set_option maxRecDepth 20000 in
theorem field_acts {t e : TypeId} {f0 f1 f2 f3 f4 : Field} {v : Value} {fuel : Nat} {y : DataW H × List MemPlace} (ht : Try.prog.underlying t = some (.slice e)) (he : Try.prog.underlying e = some (.struct #[f0, f1, f2, f3, f4])) (ce : Try.prog.cellsOf e = 5) (hone : oneCellFields Try.prog #[f0, f1, f2, f3, f4] = true)
    (t0 : Try.prog.underlying f0.type = some (.int .i64)) (t1 : Try.prog.underlying f1.type = some (.int .i64)) (t2 : Try.prog.underlying f2.type = some .string) (t3 : Try.prog.underlying f3.type = some .bool) (t4 : Try.prog.underlying f4.type = some (.slice 3)) (ti : Try.prog.underlying 3 = some (.int .i64)) (ci : Try.prog.cellsOf 3 = 1) (bi : Try.prog.bytesOf 3 = 8) (hb16 : 16 ≤ Try.prog.bytesOf e)
    (hf : DataW.trod enc Try.prog W 0 (fun _ => true) true fuel t [v] = some y) (hwt : ∀ k ∈ y.1.weights Try.prog t, k ≤ reachBytes) (hl : ∀ x ∈ y.2, x.block < W.heap.size) :
    ∃ L, ActsOf W v L := by
  rcases open_slice ht hf with ⟨hcs, _⟩ | ⟨a, len, cap, m, n, D, Pl, hcs, _, hl', hm, hmm, hx, hall⟩
  · obtain rfl : v = .slice none 0 0 := by simpa using hcs
    exact ⟨[], none, 0, rfl, fun h => absurd h (by simp), by simp, by simp⟩
  · obtain rfl : v = .slice (some a) len cap := by simpa using hcs
    subst hx
    simp only [if_true] at hmm
    subst hmm
    have each : ∀ i, i < len → ∃ q : Ac, W.cell? (a.add (i * 5)) = some (.int .i64 q.kind) ∧ W.cell? (a.add (i * 5 + 1)) = some (.int .i64 q.n) ∧ W.cell? (a.add (i * 5 + 2)) = some (.string q.text) ∧ W.cell? (a.add (i * 5 + 3)) = some (.bool q.raw) ∧ W.cell? (a.add (i * 5 + 4)) = some (.slice q.A q.ps.length q.c) ∧ ActOk W q.A q.c q.n q.text q.ps := by
      intro i hi
      obtain ⟨cs', h1, h2⟩ := hall i (by omega)
      rw [ce] at h1
      obtain ⟨_, hlen, hcell⟩ := World.cells?_some h1
      have hwi : ∀ k ∈ (D i).weights Try.prog e, k ≤ reachBytes := weights_at ht (List.mem_map.2 ⟨i, List.mem_range.2 hi, rfl⟩) hwt
      obtain ⟨xs, k, _, hxy, _, hxl, hff⟩ := DataW.trod_struct he h2
      obtain ⟨o0, c0⟩ := hone_of hone 0 f0 rfl
      obtain ⟨o1, c1⟩ := hone_of hone 1 f1 rfl
      obtain ⟨o2, c2⟩ := hone_of hone 2 f2 rfl
      obtain ⟨o3, c3⟩ := hone_of hone 3 f3 rfl
      obtain ⟨o4, c4⟩ := hone_of hone 4 f4 rfl
      match xs, hxl, cs', hlen with
      | [y0, y1, y2, y3, y4], _, [v0, v1, v2, v3, v4], _ =>
        have g0 := hff 0 f0 rfl
        have g1 := hff 1 f1 rfl
        have g2 := hff 2 f2 rfl
        have g3 := hff 3 f3 rfl
        have g4 := hff 4 f4 rfl
        simp [o0, o1, o2, o3, o4, c0, c1, c2, c3, c4] at g0 g1 g2 g3 g4
        simp only [Prod.mk.injEq] at hxy
        rw [hxy.1] at hwi
        have hpl : ∀ x ∈ y4.2, x.block < W.heap.size := fun x hx => hl x (by
          refine List.mem_append_right _ (List.mem_flatMap.2 ⟨i, List.mem_range.2 (by omega), ?_⟩)
          rw [hxy.2]
          exact List.mem_flatMap.2 ⟨y4, by simp, hx⟩)
        obtain ⟨z0, rfl, _⟩ := field_int t0 g0
        obtain ⟨z1, rfl, r1⟩ := field_int t1 g1
        obtain ⟨z2, rfl, r2⟩ := field_text t2 g2 (agg_weights (i := 2) he rfl rfl hwi)
        obtain ⟨z3, rfl⟩ := field_bool t3 g3
        obtain ⟨A, c, L, rfl, q1, q2, q3, q4, q5, q6⟩ := field_ints t4 ti ci bi g4 (agg_weights (i := 4) he rfl rfl hwi) hpl
        have e0 := hcell 0 (by omega)
        have e1 := hcell 1 (by omega)
        have e2 := hcell 2 (by omega)
        have e3 := hcell 3 (by omega)
        have e4 := hcell 4 (by omega)
        rw [add_add] at e0 e1 e2 e3 e4
        exact ⟨⟨z0, z1, z2, z3, A, c, L⟩, by simpa using e0, by simpa using e1, by simpa using e2, by simpa using e3, by simpa using e4, ⟨r1, r2, q1, q2, q5, q3, q4, q6⟩⟩
    obtain ⟨q, hq⟩ := choose_lt each
    have hL : ((List.range len).map q).length = len := by simp
    have hat : ∀ i (h : i < ((List.range len).map q).length), ((List.range len).map q)[i] = q i := fun i h => by simp
    have hs := hwt ((((List.range len).map D).length + ((List.range (m - len)).map fun j => D (len + j)).length) * Try.prog.bytesOf e) (by simp [DataW.weights, ht])
    refine ⟨(List.range len).map q, some a, m, by rw [hL], fun hpos => ⟨a, rfl, ?_, fun i hi => ?_⟩, ?_, fun x hx => ?_⟩
    · obtain ⟨b, off, spot⟩ := a
      rw [hL] at hpos
      exact hl (.cell b off) (List.mem_append_left _ (MemPlace.mem_row.2 ⟨0, by rw [ce]; omega, by simp⟩))
    · rw [hat i hi]
      have := hq i (by rw [hL] at hi; exact hi)
      exact ⟨this.1, this.2.1, this.2.2.1, this.2.2.2.1, this.2.2.2.2.1⟩
    · rw [hL]
      refine Nat.le_trans (Nat.mul_le_mul ?_ hb16) hs
      rw [List.length_map, List.length_range]
      omega
    · obtain ⟨i, hi, rfl⟩ := List.mem_map.1 hx
      exact (hq i (List.mem_range.1 hi)).2.2.2.2.2

set_option maxRecDepth 20000 in
theorem open_acts {base : Nat} {v : Value} {d : DataW H} {p : List MemPlace} {ts : List TypeId} {ds : List (DataW H)} {j : Nat}
    (hsz : (DataW.weightsEach Try.prog ts ds).all (· ≤ reachBytes) = true) (hj : ts[j]? = some 22) (hd : ds[j]? = some d)
    (hv : Value.okWide Try.prog W .any base 22 v) (h : DataW.Trod enc Try.prog W 0 (fun _ => true) true 22 v d p) (hl : ∀ x ∈ p, x.block < W.heap.size) : ∃ L, ActsOf W v L := by
  obtain ⟨a0, len, cap, rfl⟩ := okWide_slice Try.underlying22 hv
  obtain ⟨fuel, hf⟩ := h
  exact field_acts Try.underlying22 Try.underlying34 (by kernel_rfl) (by kernel_rfl) Try.underlying3 Try.underlying3 Try.underlying9 Try.underlying4 Try.underlying32 Try.underlying3 (by kernel_rfl) (by kernel_rfl) (of_decide_eq_true (by kernel_rfl)) hf (arg_weights hsz hj hd) hl

end

end Sc
end Go.Proofs.Ytecgimnmccmpjaa
