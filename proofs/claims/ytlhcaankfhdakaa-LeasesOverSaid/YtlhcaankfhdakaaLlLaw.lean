/- A table of leases of the law's own, beside other blocks; the chapter's example; no condition but the ranges. -/
import Derived.Test.YtlhcaankfhdakaaLlC6
namespace Go.Proofs.Ytlhcaankfhdakaa
namespace Ll
open Go.RowKit Bk Ls

attribute [local go_sem ↓] Go.wp_at_zero Go.wp_at_succ
attribute [local go_sem] floatUpon pick

/-- a table of the call's own; S: blocks beside it -/
structure TS (w0 W : World) (S : Nat → Prop) (b : Nat) (D : Tb) : Prop where
  q : ∃ v, LQ W w0.heap.size b v D ∧ ∀ k, S k → k < W.heap.size ∧ k ≠ b ∧ v.ownBlock ≠ some k
  ok : Ok D
  bel : Below w0.heap.size w0 W

section
variable {w0 W W' : World} {S : Nat → Prop} {b : Nat} {D D' : Tb}

theorem TS.below (h : TS w0 W S b D) (hb : Below W.heap.size W W') : TS w0 W' S b D := by
  obtain ⟨⟨v, h1, h2⟩, h3, h4⟩ := h
  exact ⟨⟨v, h1.below hb, fun k hk => ⟨Nat.lt_of_lt_of_le (h2 k hk).1 hb.size, (h2 k hk).2⟩⟩, h3, h4.trans (hb.mono h4.size)⟩

theorem TS.post {v : Value} (h1 : LQ W w0.heap.size b v D) (h2 : ∀ k, S k → k < W.heap.size ∧ k ≠ b ∧ v.ownBlock ≠ some k) (h4 : Below w0.heap.size w0 W) (ho : Ok D') (hp : LP W w0.heap.size b v D' W') : TS w0 W' S b D' ∧ ∀ k, S k → W'.heap[k]? = W.heap[k]? := by
  obtain ⟨v', h5, h6⟩ := hp
  refine ⟨⟨⟨v', h5, fun k hk => ⟨Nat.lt_of_lt_of_le (h2 k hk).1 h6.size, (h2 k hk).2.1, fun e => (h6.own k e).elim (h2 k hk).2.2 (fun s => by have := (h2 k hk).1; omega)⟩⟩, ho, h4.trans ⟨h6.os, h6.tape, h6.output, h6.size, fun k hk => h6.block k (Nat.lt_of_lt_of_le hk h4.size) (fun e => by have := h1.rb; omega) (fun e => by have := (h1.row.lt e).2; omega)⟩⟩, fun k hk => h6.block k (h2 k hk).1 (h2 k hk).2.1 (h2 k hk).2.2⟩

/-- a block beside it -/
theorem TS.beside (h : TS w0 W S b D) {p : Nat} {o : Obj} (hp : p = W.heap.size) : TS w0 (W.alloc o) (fun k => S k ∨ k = p) b D := by
  obtain ⟨⟨v, h1, h2⟩, h3, h4⟩ := h
  have hb := (Below.refl W.heap.size W).alloc (Nat.le_refl _) o
  refine ⟨⟨v, h1.below hb, fun k hk => ?_⟩, h3, h4.trans (hb.mono h4.size)⟩
  rcases hk with hk | rfl
  · exact ⟨Nat.lt_of_lt_of_le (h2 k hk).1 hb.size, (h2 k hk).2⟩
  · exact ⟨by simp; omega, fun e => by have := h1.cel.lt; omega, fun e => by have := (h1.row.lt e).1; omega⟩

theorem TS.aside {S' : Nat → Prop} (h : TS w0 W S b D) (hs : ∀ k, S' k → S k) : TS w0 W S' b D := by
  obtain ⟨⟨v, h1, h2⟩, h3, h4⟩ := h
  exact ⟨⟨v, h1, fun k hk => h2 k (hs k hk)⟩, h3, h4⟩

/-- a block beside it is written -/
theorem TS.put (h : TS w0 W S b D) {p o : Nat} (hp : S p) (hw : w0.heap.size ≤ p) (x : Value) : TS w0 (W.setCell ⟨p, o, none⟩ x) S b D := by
  obtain ⟨⟨v, h1, h2⟩, h3, h4⟩ := h
  have g := grow_put W p o x
  refine ⟨⟨v, ⟨(g.block b h1.cel.lt (fun e => (h2 p hp).2.1 (Option.some.inj e).symm)).trans h1.cel, h1.row.same (fun q hq => g.block q (h1.row.lt hq).1 (fun e => (h2 p hp).2.2 (by rw [hq, e]))), h1.far, h1.rb, Nat.le_trans h1.bs g.size⟩, fun k hk => ⟨Nat.lt_of_lt_of_le (h2 k hk).1 g.size, (h2 k hk).2⟩⟩, h3, h4.trans ⟨g.os, g.tape, g.output, g.size, fun k hk => g.block k (Nat.lt_of_lt_of_le hk h4.size) (fun e => by have := Option.some.inj e; omega)⟩⟩

theorem snew {long : Int} (hl : 0 ≤ long ∧ long ≤ 1048576) (hb : Below w0.heap.size w0 W) : Calls Try.prog 6 #[.int .i64 long] W fun e W' => ∃ b, e = .returned (.tuple #[.pointer (some ⟨b, 0, none⟩), .int .i64 0]) ∧ TS w0 W' (fun _ => False) b ⟨long, 0, []⟩ := by
  refine (lnew_any long W).mono ?_
  intro e W' h
  unfold LNewP at h
  rw [if_pos hl] at h
  obtain ⟨r, rfl, hq, hbl⟩ := h
  refine ⟨r, rfl, ⟨_, ⟨hq.cel, hq.row.mono hb.size, hq.far, Nat.le_trans hb.size hq.rb, Nat.le_trans hb.size hq.bs⟩, fun k hk => hk.elim⟩, Ok.new hl, hb.trans (hbl.mono hb.size)⟩

theorem stake (h : TS w0 W S b D) (hm : D.many ≤ 4611686018427387904) (now ts : Int) : Calls Try.prog 10 #[.pointer (some ⟨b, 0, none⟩), .int .i64 now, .int .i64 ts] W fun e W' => e = .returned (.tuple #[.int .i64 (takeB D now ts).2.1, .int .i64 (takeB D now ts).2.2]) ∧ TS w0 W' S b (takeB D now ts).1 ∧ ∀ k, S k → W'.heap[k]? = W.heap[k]? := by
  obtain ⟨⟨v, h1, h2⟩, h3, h4⟩ := h
  refine (ltake_any h1 h3 hm now ts).mono ?_
  rintro e W' ⟨rfl, hp⟩
  exact ⟨rfl, TS.post h1 h2 h4 (h3.take now ts) hp⟩
theorem skeep (h : TS w0 W S b D) (now n : Int) : Calls Try.prog 12 #[.pointer (some ⟨b, 0, none⟩), .int .i64 now, .int .i64 n] W fun e W' => e = .returned (.int .i64 (keepB D now n).2) ∧ TS w0 W' S b (keepB D now n).1 ∧ ∀ k, S k → W'.heap[k]? = W.heap[k]? := by
  obtain ⟨⟨v, h1, h2⟩, h3, h4⟩ := h
  refine (lkeep_any h1 h3 now n).mono ?_
  rintro e W' ⟨rfl, hp⟩
  exact ⟨rfl, TS.post h1 h2 h4 (h3.keep now n) hp⟩
theorem sendd (h : TS w0 W S b D) (n : Int) : Calls Try.prog 14 #[.pointer (some ⟨b, 0, none⟩), .int .i64 n] W fun e W' => e = .returned (.int .i64 (endB D n).2) ∧ TS w0 W' S b (endB D n).1 ∧ ∀ k, S k → W'.heap[k]? = W.heap[k]? := by
  obtain ⟨⟨v, h1, h2⟩, h3, h4⟩ := h
  refine (lend_any h1 h3 n).mono ?_
  rintro e W' ⟨rfl, hp⟩
  exact ⟨rfl, TS.post h1 h2 h4 (h3.endd n) hp⟩
theorem scheck (h : TS w0 W S b D) (now n : Int) : Calls Try.prog 16 #[.pointer (some ⟨b, 0, none⟩), .int .i64 now, .int .i64 n] W fun e W' => e = .returned (.tuple #[.int .i64 (checkB D now n).1, .int .i64 (checkB D now n).2]) ∧ Below W.heap.size W W' := by
  obtain ⟨⟨v, h1, h2⟩, h3, h4⟩ := h
  exact lcheck_any h1 h3 now n
theorem slow (h : TS w0 W S b D) (now last : Int) : Calls Try.prog 18 #[.pointer (some ⟨b, 0, none⟩), .int .i64 now, .int .i64 last] W fun e W' => e = .returned (.tuple #[.int .i64 (lowB D now last).1, .int .i64 (lowB D now last).2]) ∧ Below W.heap.size W W' := by
  obtain ⟨⟨v, h1, h2⟩, h3, h4⟩ := h
  exact llow_any h1 h3 now last
theorem slen (h : TS w0 W S b D) : Calls Try.prog 20 #[.pointer (some ⟨b, 0, none⟩)] W fun e W' => e = .returned (.int .i64 (D.L.length : Int)) ∧ W' = W := by
  obtain ⟨⟨v, h1, h2⟩, h3, h4⟩ := h
  exact llen_any h1

end

def ex1 : Tb := ⟨5, 1, [⟨1, 7, 15⟩]⟩

set_option maxRecDepth 20000 in
set_option maxHeartbeats 8000000 in
theorem works_any (w : World) : Calls Try.prog 8 #[] w fun e w' => e = .returned (.bool true) ∧ Below w.heap.size w w' := by
  go_enter Try.func8, Try.ntmps8
  go_wp2_with fail
  refine (snew (long := 5) (by omega) (Below.refl w.heap.size w)).mono ?_
  rintro e w1 ⟨b, rfl, h1⟩
  have hT := stake h1 (by show (0 : Int) ≤ _; omega) 10 7
  rw [show takeB ⟨5, 0, []⟩ 10 7 = (ex1, 1, 0) from rfl] at hT
  have HT := Lib.hid hT
  clear hT h1
  go_wp2_with fail
  refine HT.out.mono ?_
  rintro e w2 ⟨rfl, h2, _⟩
  have hL := fun V (hV : Below w2.heap.size w2 V) => slow (h2.below hV) 15 9
  have hM := fun V (hV : Below w2.heap.size w2 V) => slow (h2.below hV) 16 9
  rw [show lowB ex1 15 9 = (7, 0) from rfl] at hL
  rw [show lowB ex1 16 9 = (9, 0) from rfl] at hM
  have HL := Lib.hid hL
  have HM := Lib.hid hM
  have HB := Lib.hid h2.bel
  clear h2 hL hM HT
  go_wp2_with fail
  refine (HL.out _ (Below.refl _ _)).mono ?_
  rintro e w3 ⟨rfl, hb3⟩
  have HB3 := Lib.hid hb3
  clear hb3 HL
  go_wp2_with fail
  refine (HM.out _ HB3.out).mono ?_
  rintro e w4 ⟨rfl, hb4⟩
  have HB4 := Lib.hid (HB.out.trans ((HB3.out.trans (hb4.mono HB3.out.size)).mono HB.out.size))
  clear hb4 HM
  go_wp2_with fail
  go_ret
  exact ⟨rfl, HB4.out⟩

end Ll
end Go.Proofs.Ytlhcaankfhdakaa
