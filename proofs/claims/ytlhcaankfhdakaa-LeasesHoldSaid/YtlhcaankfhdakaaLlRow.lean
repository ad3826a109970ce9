/- The landed table of leases in the memory: its row and its block; no condition. -/
import Derived.Test.YtlhcaankfhdakaaLsGrow
namespace Go.Proofs.Ytlhcaankfhdakaa
namespace Ll
open Go.RowKit Bk Ls

section
variable {W W' : World} {base : Nat} {v : Value} {l : List Le}

/-- a row of the call's own holds these tasks -/
def DRow (W : World) (base : Nat) (v : Value) (l : List Le) : Prop := W.ownsRow base 58 3 v l.length (l.flatMap leC)

/-- the row's block, known whole -/
theorem DRow.blk {W : World} {base : Nat} {v : Value} {l : List Le} (h : DRow W base v l) (hp : 0 < l.length) :
    ∃ (p cap : Nat) (rest : List Value), v = .slice (some ⟨p, 0, none⟩) l.length cap ∧ base ≤ p ∧ Cel W p 58 (l.flatMap leC ++ rest) ∧ l.length ≤ cap ∧ cap ≤ maxLen ∧ l.length * 3 + rest.length = cap * 3 := by
  obtain ⟨hl, h⟩ := h
  rcases h with ⟨_, h0⟩ | ⟨p, cap, cur, e1, h2, h3, h4, h5, h6, h7⟩
  · omega
  · refine ⟨p, cap, cur.toList.drop (l.length * 3), e1, h2, ?_, h4, h5, ?_⟩
    · unfold Cel
      rw [← h7, List.take_append_drop]
      exact h3
    · have e : cur.toList.length = cap * 3 := h6
      rw [List.length_drop, e]; omega

theorem DRow.of {W : World} {base p cap : Nat} {l : List Le} {rest : List Value} (hb : base ≤ p) (h : Cel W p 58 (l.flatMap leC ++ rest)) (h1 : l.length ≤ cap) (h2 : cap ≤ maxLen) (h3 : l.length * 3 + rest.length = cap * 3) : DRow W base (.slice (some ⟨p, 0, none⟩) l.length cap) l :=
  ⟨fl_len l, .inr ⟨p, cap, _, rfl, hb, h, h1, h2, by rw [List.size_toArray, List.length_append, fl_len]; exact h3, by rw [List.toList_toArray, ← fl_len l, List.take_left]⟩⟩

theorem dcell_of {W : World} {p : Nat} {l : List Le} {rest : List Value} (h : Cel W p 58 (l.flatMap leC ++ rest)) {k : Nat} (hk : k < l.length) {j : Nat} (hj : j < 3) {u : Value} (hu : (leC (g l k))[j]? = some u) : W.cell? ⟨p, k * 3 + j, none⟩ = some u :=
  h.cell (by rw [List.getElem?_append_left (by rw [fl_len]; omega), fl_at (at_g hk) hj]; exact hu)

theorem Try.infoLl : (Try.prog.info? 58).map (fun i => (i.zero.map (·.cells.size), i.size, i.bytes)) = some (some 3, 3, 24) := by kernel_rfl

theorem info_le : ∃ i z, Try.prog.info? 58 = some i ∧ i.zero = some z ∧ z.cells.size = 3 ∧ i.size = 3 ∧ i.bytes = 24 := by
  have h := Try.infoLl
  cases hi : Try.prog.info? 58 with
  | none => rw [hi] at h; cases h
  | some i =>
    rw [hi] at h
    simp only [Option.map_some, Option.some.injEq, Prod.mk.injEq] at h
    obtain ⟨h1, h2, h3⟩ := h
    cases hz : i.zero with
    | none => rw [hz] at h1; cases h1
    | some z =>
      rw [hz] at h1
      simp only [Option.map_some, Option.some.injEq] at h1
      exact ⟨i, z, rfl, hz, h1, h2, h3⟩

theorem DRow.mono {base' : Nat} (h : DRow W base v l) (hb : base' ≤ base) : DRow W base' v l := by
  refine ⟨h.1, ?_⟩
  rcases h.2 with h' | ⟨p, cap, cur, e, h2, h3⟩
  · exact .inl h'
  · exact .inr ⟨p, cap, cur, e, by omega, h3⟩

theorem DRow.lt (h : DRow W base v l) {p : Nat} (hp : v.ownBlock = some p) : p < W.heap.size ∧ base ≤ p := by
  rcases h.2 with ⟨e, _⟩ | ⟨q, cap, cur, e, e2, e3, _⟩
  · rw [e] at hp; cases hp
  · rw [e] at hp
    obtain rfl : q = p := Option.some.inj hp
    exact ⟨(Array.getElem?_eq_some_iff.1 e3).1, e2⟩

theorem DRow.same (h : DRow W base v l) (hk : ∀ p, v.ownBlock = some p → W'.heap[p]? = W.heap[p]?) : DRow W' base v l := by
  refine ⟨h.1, ?_⟩
  rcases h.2 with h' | ⟨p, cap, cur, e, h2, h3, h4⟩
  · exact .inl h'
  · exact .inr ⟨p, cap, cur, e, h2, (hk p (by rw [e]; rfl)).trans h3, h4⟩

theorem DRow.form (h : DRow W base v l) : ∃ A c, v = .slice A l.length c := by
  rcases h.2 with ⟨e, e2⟩ | ⟨p, cap, cur, e, _⟩
  · exact ⟨none, 0, by rw [e, e2]⟩
  · exact ⟨_, _, e⟩


theorem d_cells {A : Option Addr} {c : Nat} (h : DRow W base (.slice A l.length c) l) {k : Nat} (hk : k < l.length) : ∃ p, A = some ⟨p, 0, none⟩ ∧ W.cell? ⟨p, k * 3, none⟩ = some (.int .i64 (g l k).n) ∧ W.cell? ⟨p, k * 3 + 1, none⟩ = some (.int .i64 (g l k).t) ∧ W.cell? ⟨p, k * 3 + 2, none⟩ = some (.int .i64 (g l k).u) := by
  obtain ⟨p, cap, rest, e, _, hc, _⟩ := h.blk (by omega)
  simp only [Value.slice.injEq] at e
  exact ⟨p, e.1, dcell_of hc hk (j := 0) (by omega) rfl, dcell_of hc hk (j := 1) (by omega) rfl, dcell_of hc hk (j := 2) (by omega) rfl⟩

/-- the document's table in block r -/
structure LQ (W : World) (base r : Nat) (v : Value) (D : Tb) : Prop where
  cel : Cel W r 51 [.int .i64 D.long, .int .i64 D.many, v]
  row : DRow W base v D.L
  far : v.ownBlock ≠ some r
  rb : base ≤ r
  bs : base ≤ W.heap.size

/-- behind a call of it: its block and its row may be written; its row is the old one, or a new one -/
structure LM (W W' : World) (r : Nat) (v v' : Value) : Prop where
  os : W'.os = W.os
  tape : W'.tape = W.tape
  output : W'.output = W.output
  size : W.heap.size ≤ W'.heap.size
  block : ∀ k, k < W.heap.size → k ≠ r → v.ownBlock ≠ some k → W'.heap[k]? = W.heap[k]?
  own : ∀ q, v'.ownBlock = some q → v.ownBlock = some q ∨ W.heap.size ≤ q

def LP (W : World) (base r : Nat) (v : Value) (D' : Tb) (W' : World) : Prop := ∃ v', LQ W' base r v' D' ∧ LM W W' r v v'

theorem LM.of {r : Nat} (h : Below W.heap.size W W') : LM W W' r v v := ⟨h.os, h.tape, h.output, h.size, fun k hk _ _ => h.block k hk, fun _ h => .inl h⟩

theorem LQ.below {r : Nat} {D : Tb} (h : LQ W base r v D) (hb : Below W.heap.size W W') : LQ W' base r v D := ⟨h.cel.below hb, st_keep h.row hb, h.far, h.rb, Nat.le_trans h.bs hb.size⟩

theorem LQ.turn {r p c k : Nat} {D : Tb} (h : LQ W base r v D) (hv : v = .slice (some ⟨p, 0, none⟩) D.L.length c) (hk : k < D.L.length) (x : Int) :
    LP W base r v ⟨D.long, D.many, D.L.set k ⟨(g D.L k).n, (g D.L k).t, x⟩⟩ (W.setCell ⟨p, k * 3 + 2, none⟩ (.int .i64 x)) := by
  obtain ⟨p', cap, rest, e1, hbp, hc, h1, h2, h3⟩ := h.row.blk (by omega)
  rw [hv] at e1
  simp only [Value.slice.injEq, Option.some.injEq, Addr.mk.injEq, and_true, true_and] at e1
  obtain ⟨rfl, rfl⟩ := e1
  subst hv
  have hr : p ≠ r := fun e => h.far (by rw [← e]; rfl)
  have g1 := grow_put W p (k * 3 + 2) (.int .i64 x)
  have hcel : Cel (W.setCell ⟨p, k * 3 + 2, none⟩ (.int .i64 x)) p 58 ((D.L.set k ⟨(g D.L k).n, (g D.L k).t, x⟩).flatMap leC ++ rest) := by
    rw [← fl_put _ _ _ _ hk]
    exact hc.set (i := k * 3 + 2) (v := .int .i64 x)
  refine ⟨_, ⟨?_, ?_, h.far, h.rb, Nat.le_trans h.bs g1.size⟩, g1.os, g1.tape, g1.output, g1.size, fun q hq hn hm => g1.block q hq (fun e => hm (by rw [Option.some.inj e]; rfl)), fun _ h => .inl h⟩
  · exact (g1.block r h.cel.lt (fun e => hr (Option.some.inj e).symm)).trans h.cel
  · have := DRow.of hbp hcel (by rw [List.length_set]; exact h1) h2 (by rw [List.length_set]; exact h3)
    rw [List.length_set] at this
    exact this

/-- a new row is put into the table's block -/
theorem LQ.put {r : Nat} {D D' : Tb} {v' : Value} (h : LQ W base r v D) (hb : Below W.heap.size W W') (hr : DRow W' W.heap.size v' D'.L) (h1 : D'.long = D.long) (h2 : D'.many = D.many) : LP W base r v D' (W'.setCell ⟨r, 2, none⟩ v') := by
  have hf : v'.ownBlock ≠ some r := fun e => by have := (hr.lt e).2; have := h.cel.lt; omega
  have g := grow_put W' r 2 v'
  refine ⟨v', ⟨?_, (hr.mono h.bs).same (fun p hp => g.block p (hr.lt hp).1 (fun e => hf (by rw [hp, e]))), hf, h.rb, Nat.le_trans h.bs (Nat.le_trans hb.size g.size)⟩,
    g.os.trans hb.os, g.tape.trans hb.tape, g.output.trans hb.output, Nat.le_trans hb.size g.size, fun k hk hn _ => (g.block k (Nat.lt_of_lt_of_le hk hb.size) (fun e => hn (Option.some.inj e))).trans (hb.block k hk), fun q hq => .inr (hr.lt hq).2⟩
  rw [h1, h2]
  exact (h.cel.below hb).set (i := 2) (v := v')

end

end Ll
end Go.Proofs.Ytlhcaankfhdakaa
