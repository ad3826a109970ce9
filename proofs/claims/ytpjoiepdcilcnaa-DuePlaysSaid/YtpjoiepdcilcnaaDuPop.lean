/- What is put behind a row of tasks, and what is taken from its end; no condition but the range. -/
import Derived.Test.YtpjoiepdcilcnaaDuMeth
namespace Go.Proofs.Ytpjoiepdcilcnaa
namespace Du
open Go.RowKit Bk

attribute [local go_sem ↓] Go.wp_at_zero Go.wp_at_succ
attribute [local go_sem] floatUpon pick

/-- a heap of the queue in block b: the field at o holds the row of these tasks -/
structure HS (W : World) (base b o : Nat) (cs : List Value) (v : Value) (l : List Tk) : Prop where
  cel : Cel W b 56 cs
  at' : cs[o]? = some v
  row : TRow W base v l
  far : v.ownBlock ≠ some b

/-- the queue's block, the row's block and new ones alone are turned -/
structure HM (W W' : World) (b : Nat) (v v' : Value) : Prop where
  os : W'.os = W.os
  tape : W'.tape = W.tape
  output : W'.output = W.output
  size : W.heap.size ≤ W'.heap.size
  block : ∀ k, k < W.heap.size → k ≠ b → some k ≠ v.ownBlock → W'.heap[k]? = W.heap[k]?
  own : v'.ownBlock = v.ownBlock ∨ ∃ k, v'.ownBlock = some k ∧ W.heap.size ≤ k

theorem HM.refl (W : World) (b : Nat) (v : Value) : HM W W b v v := ⟨rfl, rfl, rfl, Nat.le_refl _, fun _ _ _ _ => rfl, .inl rfl⟩
theorem HM.trans {A B C : World} {b : Nat} {u v x : Value} (h : HM A B b u v) (k : HM B C b v x) : HM A C b u x :=
  ⟨k.os.trans h.os, k.tape.trans h.tape, k.output.trans h.output, Nat.le_trans h.size k.size,
    fun i hi hb hn => (k.block i (Nat.lt_of_lt_of_le hi h.size) hb (fun e => h.own.elim (fun e2 => hn (e.trans e2)) (fun ⟨q, e2, e3⟩ => by rw [e2] at e; have := Option.some.inj e; omega))).trans (h.block i hi hb hn),
    k.own.elim (fun e => by rw [e]; exact h.own) (fun ⟨q, e2, e3⟩ => .inr ⟨q, e2, Nat.le_trans h.size e3⟩)⟩
theorem HM.of {W W' : World} {b : Nat} {v : Value} (h : Below W.heap.size W W') : HM W W' b v v := ⟨h.os, h.tape, h.output, h.size, fun k hk _ _ => h.block k hk, .inl rfl⟩

section
variable {W W' : World} {base b o : Nat} {cs : List Value} {v : Value} {l l' : List Tk}

theorem HS.cell (h : HS W base b o cs v l) : W.cell? ⟨b, o, none⟩ = some v := h.cel.cell h.at'
theorem HS.below (h : HS W base b o cs v l) (hb : Below W.heap.size W W') : HS W' base b o cs v l := ⟨h.cel.below hb, h.at', st_keep h.row hb, h.far⟩
theorem HS.ne (h : HS W base b o cs v l) : some b ≠ v.ownBlock := fun e => h.far e.symm
/-- the row's block is turned -/
theorem HS.turn (h : HS W base b o cs v l) (hr : TRow W' base v l') (hg : W.grownBy W' v.ownBlock) : HS W' base b o cs v l' := ⟨(hg.block b h.cel.lt h.ne).trans h.cel, h.at', hr, h.far⟩
theorem HM.grown (hg : W.grownBy W' v.ownBlock) : HM W W' b v v := ⟨hg.os, hg.tape, hg.output, hg.size, fun k hk _ hn => hg.block k hk hn, .inl rfl⟩
theorem TRow.form (h : TRow W base v l) : ∃ A c, v = .slice A l.length c := by
  rcases h.2 with ⟨e, e2⟩ | ⟨p, cap, cur, e, _⟩
  · exact ⟨none, 0, by rw [e, e2]⟩
  · exact ⟨_, _, e⟩

theorem set_at {xs : List Value} {k : Nat} {u x : Value} (h : xs[k]? = some x) : (xs.set k u)[k]? = some u := by
  rw [List.getElem?_set_self (List.getElem?_eq_some_iff.1 h).1]

theorem fl_take {l : List Tk} {n : Nat} (h : n ≤ l.length) : (l.flatMap tkC).take (n * 4) = (l.take n).flatMap tkC := by
  have e : l.flatMap tkC = (l.take n).flatMap tkC ++ (l.drop n).flatMap tkC := by rw [← List.flatMap_append, List.take_append_drop]
  have hn : ((l.take n).flatMap tkC).length = n * 4 := by rw [fl_len, List.length_take, Nat.min_eq_left h]
  rw [e, ← hn, List.take_left]

theorem TRow.cut {p m n cap : Nat} (h : TRow W base (.slice (some ⟨p, 0, none⟩) m cap) l) (hm : m = l.length) (hn : n ≤ l.length) : TRow W base (.slice (some ⟨p, 0, none⟩) n cap) (l.take n) := by
  subst hm
  obtain ⟨_, h⟩ := h
  rcases h with ⟨e, _⟩ | ⟨p', cap', cur, e, h2, h3, h4, h5, h6, h7⟩
  · cases e
  · simp only [Value.slice.injEq, Option.some.injEq, Addr.mk.injEq] at e
    obtain ⟨⟨rfl, -, -⟩, -, rfl⟩ := e
    have hl : (l.take n).length = n := by rw [List.length_take, Nat.min_eq_left hn]
    refine ⟨fl_len _, .inr ⟨p, cap, cur, by rw [hl], h2, h3, by omega, h5, h6, ?_⟩⟩
    rw [hl, ← fl_take hn, ← h7, List.take_take, Nat.min_eq_left (by omega)]

theorem grow_put (W : World) (b o : Nat) (v : Value) : W.grownBy (W.setCell ⟨b, o, none⟩ v) (some b) :=
  ⟨rfl, rfl, rfl, by simp [World.setCell], fun k _ hn => Below.heap_setCell _ ⟨b, o, none⟩ _ k (fun e => hn (by rw [e]))⟩

theorem TRow.put {v' u : Value} (h : TRow W base v' l') (hf : v'.ownBlock ≠ some b) : TRow (W.setCell ⟨b, o, none⟩ u) base v' l' := by
  refine ⟨h.1, ?_⟩
  rcases h.2 with h' | ⟨p, cap, cur, e, h2, h3, h4⟩
  · exact .inl h'
  · refine .inr ⟨p, cap, cur, e, h2, ?_, h4⟩
    rw [← h3]
    exact Below.heap_setCell _ ⟨b, o, none⟩ _ p (fun e2 => hf (by rw [e]; show some p = some b; rw [show p = b from e2]))

/-- another row is put into the field -/
theorem HS.put {v' : Value} (h : HS W base b o cs v l) (hr : TRow W base v' l') (hf : v'.ownBlock ≠ some b) : HS (W.setCell ⟨b, o, none⟩ v') base b o (cs.set o v') v' l' := ⟨h.cel.set, set_at h.at', hr.put hf, hf⟩

theorem HM.put {v' : Value} (h : v'.ownBlock = v.ownBlock) : HM W (W.setCell ⟨b, o, none⟩ v') b v v' :=
  have g := grow_put W b o v'
  ⟨g.os, g.tape, g.output, g.size, fun k hk hb _ => g.block k hk (fun e => hb (Option.some.inj e)), .inl h⟩

set_option maxHeartbeats 4000000 in
/-- the last task is taken off the row -/
theorem poplast_any {n : Nat} (h : HS W base b o cs v l) (hn : l.length = n + 1) (h10 : l.length ≤ 1000000) :
    Calls Try.prog 58 #[.pointer (some ⟨b, o, none⟩)] W fun e W' => e = .returned (.iface 60 (tkV (g l n))) ∧ ∃ v', HS W' base b o (cs.set o v') v' (l.take n) ∧ HM W W' b v v' := by
  obtain ⟨p, cap, rest, rfl, hb, hc, h1, h2, h3⟩ := h.row.blk (by omega)
  have HQ := Lib.hid (h.row.cut (n := n) rfl (by omega))
  have HH := Lib.hid h
  have c0 := h.cell
  have fr := h.cel.free (i := o)
  have hm : cap < 9223372036854775808 := by simp only [maxLen] at h2; omega
  have hp := hc.lt
  have hbl := h.cel.lt
  have e0 : W.cell? ⟨p, n * 4, none⟩ = some (.int .i64 (g l n).a) := cell_of hc (by omega) (j := 0) (by omega) rfl
  have e1 : W.cell? ⟨p, n * 4 + 1, none⟩ = some (.int .i64 (g l n).u) := cell_of hc (by omega) (j := 1) (by omega) rfl
  have e2 : W.cell? ⟨p, n * 4 + 2, none⟩ = some (.int .i64 (g l n).i) := cell_of hc (by omega) (j := 2) (by omega) rfl
  have e3 : W.cell? ⟨p, n * 4 + 3, none⟩ = some (.int .i64 (g l n).n) := cell_of hc (by omega) (j := 3) (by omega) rfl
  have HC := Lib.hid hc
  clear h hc
  unfold tkV
  rw [hn] at *
  go_enter Try.func58, Try.ntmps58
  go_wp2
  go_ret
  have hs := HH.out.put HQ.out (by exact HH.out.far)
  have hm2 : HM W (W.setCell ⟨b, o, none⟩ (.slice (some ⟨p, 0, none⟩) n cap)) b (.slice (some ⟨p, 0, none⟩) (n + 1) cap) (.slice (some ⟨p, 0, none⟩) n cap) := HM.put rfl
  have hal := (Below.refl _ (W.setCell ⟨b, o, none⟩ (.slice (some ⟨p, 0, none⟩) n cap))).alloc (Nat.le_refl _) (.cells #[.int .i64 (g l n).a, .int .i64 (g l n).u, .int .i64 (g l n).i, .int .i64 (g l n).n] 60)
  exact ⟨rfl, _, hs.below hal, hm2.trans (HM.of hal)⟩

theorem Try.infoTk : (Try.prog.info? 60).map (fun i => (i.zero.map (·.cells.size), i.size, i.bytes)) = some (some 4, 4, 32) := by kernel_rfl

theorem info_tk : ∃ i z, Try.prog.info? 60 = some i ∧ i.zero = some z ∧ z.cells.size = 4 ∧ i.size = 4 ∧ i.bytes = 32 := by
  have h := Try.infoTk
  cases hi : Try.prog.info? 60 with
  | none => rw [hi] at h; cases h
  | some i =>
    rw [hi] at h
    simp only [Option.map_some, Option.some.injEq, Prod.mk.injEq] at h
    obtain ⟨h1, h2, h3⟩ := h
    cases hz : i.zero with
    | none => rw [hz] at h1; cases h1
    | some z =>
      rw [hz] at h1
      simp only [Option.map_some, Option.some.injEq] at h1
      exact ⟨i, z, rfl, hz, h1, h2, h3⟩

theorem push_end {X w9 : World} {gg cap : Nat} {x : Tk} (h : HS W base b o cs v l) (hA : Below W.heap.size W X) (hk9 : Cel w9 b 56 cs) (hown9 : w9.ownsRow base 60 4 (.slice (some ⟨gg, 0, none⟩) (l.length + 1) cap) (l.length + 1) (l.flatMap tkC ++ tkC x))
    (hgrow9 : X.grownBy w9 v.ownBlock) (hat9 : v.ownBlock = some gg ∨ gg = W.heap.size + 1) :
    ∃ v', HS (w9.setCell ⟨b, o, none⟩ (.slice (some ⟨gg, 0, none⟩) (l.length + 1) cap)) base b o (cs.set o v') v' (l ++ [x]) ∧ HM W (w9.setCell ⟨b, o, none⟩ (.slice (some ⟨gg, 0, none⟩) (l.length + 1) cap)) b v v' := by
  have hf9 : (Value.slice (some ⟨gg, 0, none⟩) (l.length + 1) cap).ownBlock ≠ some b := fun e => by
    have e2 : gg = b := Option.some.inj e
    rcases hat9 with h1 | h1
    · exact h.far (by rw [h1, e2])
    · have := h.cel.lt; omega
  have hr9 : TRow w9 base (.slice (some ⟨gg, 0, none⟩) (l.length + 1) cap) (l ++ [x]) := by
    unfold TRow
    rw [List.length_append, List.flatMap_append]
    simpa using hown9
  refine ⟨_, ⟨hk9.set, set_at h.at', hr9.put hf9, hf9⟩, ?_⟩
  have g9 := grow_put w9 b o (.slice (some ⟨gg, 0, none⟩) (l.length + 1) cap)
  exact ⟨g9.os.trans (hgrow9.os.trans hA.os), g9.tape.trans (hgrow9.tape.trans hA.tape), g9.output.trans (hgrow9.output.trans hA.output), Nat.le_trans hA.size (Nat.le_trans hgrow9.size g9.size),
    fun k hk hb2 hn => (g9.block k (Nat.lt_of_lt_of_le hk (Nat.le_trans hA.size hgrow9.size)) (fun e => hb2 (Option.some.inj e))).trans ((hgrow9.block k (Nat.lt_of_lt_of_le hk hA.size) hn).trans (hA.block k hk)), hat9.elim (fun e => .inl e.symm) (fun e => .inr ⟨gg, rfl, by omega⟩)⟩

set_option maxHeartbeats 4000000 in
/-- a task is put behind the row -/
theorem pushlast_any (h : HS W base b o cs v l) (x : Tk) (h10 : l.length ≤ 1000000) (hbs : base ≤ W.heap.size) :
    Calls Try.prog 59 #[.pointer (some ⟨b, o, none⟩), .iface 60 (tkV x)] W fun e W' => e = .returned (.tuple #[]) ∧ ∃ v', HS W' base b o (cs.set o v') v' (l ++ [x]) ∧ HM W W' b v v' := by
  obtain ⟨A, c, hv⟩ := h.row.form
  obtain ⟨i0, z0, hi, hz0, hz1, hz2, hz3⟩ := info_tk
  have HH := Lib.hid h
  have c0 := h.cell
  have fr := h.cel.free (i := o)
  have hbl := h.cel.lt
  clear h
  unfold tkV
  have hta : ∀ V : World, (Instr.typeAssert (.iface 60 (.agg #[.int .i64 x.a, .int .i64 x.u, .int .i64 x.i, .int .i64 x.n])) 20 60 false).run Try.prog V = .ok (.agg #[.int .i64 x.a, .int .i64 x.u, .int .i64 x.i, .int .i64 x.n]) V := fun _ => rfl
  go_enter Try.func59, Try.ntmps59
  have hal := (Below.refl W.heap.size W).drew.alloc (Nat.le_refl _) (.cells #[.int .i64 x.a, .int .i64 x.u, .int .i64 x.i, .int .i64 x.n] 60)
  have HA := Lib.hid hal
  have hz : W.heap.size < (W.drew.alloc (.cells #[.int .i64 x.a, .int .i64 x.u, .int .i64 x.i, .int .i64 x.n] 60)).heap.size := by simp
  have HZ := Lib.hid hz
  have c1 := keep1 c0 hbl
  clear hal hz
  go_region_law
    (first
      | (refine step_append_lies _ (by rfl) _ _ 51 (by rfl) base 60 i0 z0 4 32 Try.underlying51 hi hz0 hz2 hz3 hz1 (by decide) v l.length (l.flatMap tkC) (by rw [hv]; rfl) (HH.out.below HA.out).row ⟨W.heap.size, 0, none⟩ 1 1 (tkC x) (by rfl) rfl (fun j u hu => by rw [addr_head]; exact (show Cel (W.alloc _) W.heap.size 60 (tkC x) from (blk1 W _).2).cell hu) (by intro u hu; simp [tkC] at hu; rcases hu with rfl | rfl | rfl | rfl <;> rfl) (by omega) (by unfold maxLen; omega) (by omega) (by simp; omega) (W.heap.size + 1) (by simp) ?_
         intro gg cap w9 hown9 hgrow9 hat9 hlt9
         have hk9 : Cel w9 b 56 cs := (hgrow9.block b (Nat.lt_of_lt_of_le HH.out.cel.lt HA.out.size) HH.out.ne).trans (HH.out.cel.below HA.out)
         have c9 := hk9.cell HH.out.at'
         have f9 := hk9.free (i := o)
         have HW := Lib.hid (And.intro hk9 (And.intro hown9 (And.intro hgrow9 hat9)))
         clear hown9 hgrow9 hat9 hk9))
  all_goals
    obtain ⟨z1, z2, z3, z4⟩ := HW.out
    go_end0
    exact ⟨rfl, push_end HH.out HA.out (x := x) z1 z2 z3 z4⟩

end

end Du
end Go.Proofs.Ytpjoiepdcilcnaa
