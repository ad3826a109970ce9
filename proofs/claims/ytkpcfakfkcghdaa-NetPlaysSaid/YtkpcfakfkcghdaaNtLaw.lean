/- The net in a law: its calls beside blocks of the law's own; plain letters; the chapter's example; no condition but the ranges. -/
import Derived.Test.YtkpcfakfkcghdaaNtFor
namespace Go.Proofs.Ytkpcfakfkcghdaa
namespace Nt
open Go.RowKit Bk Lt
set_option linter.unusedVariables false

attribute [local go_sem ↓] Go.wp_at_zero Go.wp_at_succ
attribute [local go_sem] floatUpon pick

/-- a net that the law made, away from the blocks M of the law's own -/
structure NS (w0 wr : World) (M : Nat → Prop) (g : Nat) (room : Int) (l : List Let) : Prop where
  rep : ∃ F : Nat → Prop, (∀ k, F k → w0.heap.size ≤ k ∧ ¬ M k) ∧ LRep wr F g room l
  bel : Below w0.heap.size w0 wr
  mlt : ∀ k, M k → k < wr.heap.size

/-- behind a call: the net is another one, the law's own blocks are as they were -/
structure NP (w0 wr w' : World) (M : Nat → Prop) (g : Nat) (room : Int) (l' : List Let) : Prop extends NS w0 w' M g room l' where
  keep : ∀ k, M k → w'.heap[k]? = wr.heap[k]?
  size : wr.heap.size ≤ w'.heap.size

section
variable {w0 wr w' : World} {M M' : Nat → Prop} {g : Nat} {room : Int} {l l' : List Let}

theorem NS.below (h : NS w0 wr M g room l) (hb : Below wr.heap.size wr w') : NS w0 w' M g room l := by
  obtain ⟨⟨F, hF, hr⟩, hbel, hm⟩ := h
  exact ⟨⟨F, hF, hr.below hb⟩, hbel.trans (hb.mono hbel.size), fun k hk => Nat.lt_of_lt_of_le (hm k hk) hb.size⟩

/-- another block, that is new -/
theorem NS.new (h : NS w0 wr M g room l) (hb : Below wr.heap.size wr w') (hM : ∀ k, M' k → M k ∨ (wr.heap.size ≤ k ∧ k < w'.heap.size)) : NS w0 w' M' g room l := by
  obtain ⟨⟨F, hF, hr⟩, hbel, hm⟩ := h
  refine ⟨⟨F, fun k hk => ⟨(hF k hk).1, fun hmk => (hM k hmk).elim (hF k hk).2 (fun h2 => by have := hr.lt k hk; omega)⟩, hr.below hb⟩, hbel.trans (hb.mono hbel.size), fun k hk => (hM k hk).elim (fun h => Nat.lt_of_lt_of_le (hm k h) hb.size) (fun h => h.2)⟩

/-- the law's own blocks are turned, or new -/
theorem NS.own (h : NS w0 wr M g room l) (hs : wr.heap.size ≤ w'.heap.size) (hst : St wr w') (hk : ∀ k, k < wr.heap.size → ¬ M k → w'.heap[k]? = wr.heap[k]?) (hM0 : ∀ k, M k → w0.heap.size ≤ k) (hM : ∀ k, M' k → M k ∨ (wr.heap.size ≤ k ∧ k < w'.heap.size)) : NS w0 w' M' g room l := by
  obtain ⟨⟨F, hF, hr⟩, hbel, hm⟩ := h
  exact ⟨⟨F, fun k hk => ⟨(hF k hk).1, fun hmk => (hM k hmk).elim (hF k hk).2 (fun h2 => by have := hr.lt k hk; omega)⟩, hr.same hs (fun k hf => hk k (hr.lt k hf) (hF k hf).2)⟩, ⟨hst.os.trans hbel.os, hst.tape.trans hbel.tape, hst.output.trans hbel.output, Nat.le_trans hbel.size hs, fun k hk0 => (hk k (Nat.lt_of_lt_of_le hk0 hbel.size) (fun hmk => by have := hM0 k hmk; omega)).trans (hbel.block k hk0)⟩, fun k hk => (hM k hk).elim (fun h => Nat.lt_of_lt_of_le (hm k h) hs) (fun h => h.2)⟩

theorem NP.of {F F' : Nat → Prop} (h : NS w0 wr M g room l) (hF : ∀ k, F k → w0.heap.size ≤ k ∧ ¬ M k) (hF' : ∀ k, F' k → F k ∨ (wr.heap.size ≤ k ∧ k < w'.heap.size)) (hr : LRep w' F' g room l') (hf : Far F wr w') : NP w0 wr w' M g room l' :=
  ⟨⟨⟨F', fun k hk => (hF' k hk).elim (hF k) (fun h2 => ⟨Nat.le_trans h.bel.size h2.1, fun hm => by have := h.mlt k hm; omega⟩), hr⟩, h.bel.trans (hf.below (fun k hk => (hF k hk).1) h.bel.size), fun k hk => Nat.lt_of_lt_of_le (h.mlt k hk) hf.size⟩, fun k hk => hf.block k (h.mlt k hk) (fun hfk => (hF k hfk).2 hk), hf.size⟩

theorem NP.gr {F : Nat → Prop} (h : NS w0 wr M g room l) (hF : ∀ k, F k → w0.heap.size ≤ k ∧ ¬ M k) (hr : LRep w' (Gr F wr w') g room l') (hf : Far F wr w') : NP w0 wr w' M g room l' := NP.of h hF (fun _ h => h) hr hf

theorem NP.same (h : NS w0 wr M g room l) (hb : Below wr.heap.size wr w') : NP w0 wr w' M g room l := ⟨h.below hb, fun k hk => hb.block k (h.mlt k hk), hb.size⟩

theorem NP.cel {k : Nat} {t : TypeId} {xs : List Value} (h : NP w0 wr w' M g room l') (hc : Cel wr k t xs) (hk : M k) : Cel w' k t xs := (h.keep k hk).trans hc
theorem NP.row {H sz n : Nat} {e : TypeId} {v : Value} {xs : List Value} (h : NP w0 wr w' M g room l') (hc : wr.ownsRow H e sz v n xs) (hk : ∀ k, v.ownBlock = some k → M k) : w'.ownsRow H e sz v n xs := row_same hc (fun p hp => h.keep p (hk p hp))

theorem ns_new (room : Int) (hb : Below w0.heap.size w0 wr) (h1 : 1 ≤ room) (h2 : room ≤ 1024) :
    Calls Try.prog 8 #[.int .i64 room] wr fun e w' => e = .returned (.tuple #[.pointer (some ⟨wr.heap.size, 0, none⟩), .int .i64 0]) ∧ NS w0 w' (fun _ => False) wr.heap.size room [] :=
  (lnew_any room wr h1 h2).mono fun e w' ⟨e1, hr, hb2⟩ => ⟨e1, ⟨_, fun k hk => ⟨by rw [hk]; exact hb.size, fun h => h⟩, hr⟩, hb.trans (hb2.mono hb.size), fun k hk => hk.elim⟩

theorem ns_len (h : NS w0 wr M g room l) : Calls Try.prog 12 #[.pointer (some ⟨g, 0, none⟩)] wr fun e w' => e = .returned (.int .i64 (l.length : Int)) ∧ w' = wr := by
  obtain ⟨⟨F, hF, hr⟩, _, _⟩ := h
  exact llen_any hr

theorem NS.len10 (h : NS w0 wr M g room l) : l.length ≤ 1024 ∧ (l.length : Int) ≤ room := by
  obtain ⟨⟨F, hF, v, L, hr, rfl⟩, _, _⟩ := h
  rw [List.length_map]
  exact ⟨hr.len10, hr.len⟩

theorem ns_send (h : NS w0 wr M g room l) (x : LI) (hx : LOwn wr 0 x) : Calls Try.prog 14 #[.pointer (some ⟨g, 0, none⟩), letV x.l x.A x.B x.c x.d] wr fun e w' => e = .returned (.int .i64 (sendL room l x.l).2) ∧ NP w0 wr w' M g room (sendL room l x.l).1 := by
  have h0 := h
  obtain ⟨⟨F, hF, hr⟩, _, _⟩ := h
  exact (lsend_any hr x hx).mono fun e w' ⟨e1, hr2, hf⟩ => ⟨e1, NP.gr h0 hF hr2 hf⟩

theorem ns_copy (h : NS w0 wr M g room l) (p : Int) : Calls Try.prog 18 #[.pointer (some ⟨g, 0, none⟩), .int .i64 p] wr fun e w' => e = .returned (.int .i64 (copyL room l p).2) ∧ NP w0 wr w' M g room (copyL room l p).1 := by
  have h0 := h
  obtain ⟨⟨F, hF, hr⟩, _, _⟩ := h
  exact (lcopy_any hr p).mono fun e w' ⟨e1, hr2, hf⟩ => ⟨e1, NP.gr h0 hF hr2 hf⟩

theorem ns_take0 (h : NS w0 wr M g room []) (p : Int) : Calls Try.prog 16 #[.pointer (some ⟨g, 0, none⟩), .int .i64 p] wr fun e w' => e = .returned (.tuple #[letV noLet none none 0 0, .int .i64 5]) ∧ NP w0 wr w' M g room [] := by
  have h0 := h
  obtain ⟨⟨F, hF, hr⟩, _, _⟩ := h
  exact (ltake_none hr p).mono fun e w' ⟨e1, hb⟩ => ⟨e1, NP.same h0 hb⟩

theorem ns_take (h : NS w0 wr M g room l) (hn : 1 ≤ l.length) (p : Int) : Calls Try.prog 16 #[.pointer (some ⟨g, 0, none⟩), .int .i64 p] wr fun e w' => ∃ x : LI, e = .returned (.tuple #[letV x.l x.A x.B x.c x.d, .int .i64 0]) ∧ x.l = l.getD (amongV p l.length) noLet ∧ LOwn w' 0 x ∧ NP w0 wr w' M g room (l.eraseIdx (amongV p l.length)) := by
  have h0 := h
  obtain ⟨⟨F, hF, hr⟩, _, _⟩ := h
  refine (ltake_any hr hn p).mono ?_
  rintro e w' ⟨x, hi, e1, e2, e3, e4, e5, e6, e7⟩
  exact ⟨x, e1, by rw [e2, List.getD_eq_getElem?_getD, List.getElem?_eq_getElem hi, Option.getD_some], e3, NP.of h0 hF (fun k hk => .inl hk.1) e6 e7⟩

theorem ns_inject (h : NS w0 wr M g room l) (s : ByteArray) (hs : s.size ≤ 1000000000000000) : Calls Try.prog 20 #[.pointer (some ⟨g, 0, none⟩), .string s] wr fun e w' => ∃ x : LI, e = .returned (.tuple #[letV x.l x.A x.B x.c x.d, .int .i64 (injL room l s).2.2]) ∧ x.l = (injL room l s).2.1 ∧ LOwn w' 0 x ∧ NP w0 wr w' M g room (injL room l s).1 ∧ NS w0 w' (fun k => M k ∨ Lb x k) g room (injL room l s).1 := by
  have h0 := h
  obtain ⟨⟨F, hF, hr⟩, _, _⟩ := h
  refine (linject_any hr s hs).mono ?_
  rintro e w' ⟨x, F', e1, e2, e3, e4, e5, e6, e7⟩
  have hnp := NP.of h0 hF (fun k hk => (e4 k hk).elim .inl (fun h => .inr ⟨h, e6.lt k hk⟩)) e6 e7
  exact ⟨x, e1, e2, e3.mono (Nat.zero_le _), hnp, ⟨⟨F', fun k hk => ⟨(e4 k hk).elim (fun h => (hF k h).1) (fun h => Nat.le_trans h0.bel.size h), fun hm => hm.elim (fun hm => (e4 k hk).elim (fun h => (hF k h).2 hm) (fun h => by have := h0.mlt k hm; omega)) (fun hb => e5 k hb hk)⟩, e6⟩, hnp.bel, fun k hk => hk.elim (hnp.mlt k) (fun hb => (e3.lt hb).1)⟩⟩

theorem ns_for (h : NS w0 wr M g room l) (dn : Int) : Calls Try.prog 22 #[.pointer (some ⟨g, 0, none⟩), .int .i64 dn] wr fun e w' => ∃ v, e = .returned v ∧ w'.ownsRow wr.heap.size 3 1 v (forL l dn l.length).length (intV (forL l dn l.length)) ∧ Below wr.heap.size wr w' := by
  obtain ⟨⟨F, hF, hr⟩, _, _⟩ := h
  exact lfor_any hr dn
end

/-- a plain letter -/
def plL (t a : Int) : Let := bareL 7 0 a t 0

theorem plL_ok {t a : Int} (h1 : 1 ≤ t) (h2 : t ≤ 1000000) (h3 : 0 ≤ a) (h4 : a < 12) : LetOk (plL t a) := by
  unfold plL
  refine ⟨⟨?_, ?_, ?_, ?_, ?_, ?_⟩, (kind_5 (by show (7 : Int) = 5 ∨ (7 : Int) = 6 ∨ (7 : Int) = 7; decide)).2 ⟨⟨rfl, rfl, rfl⟩, rfl⟩⟩
  · show addr 0; decide
  · exact .inl ⟨h3, h4⟩
  · exact ⟨h1, by show t ≤ _; omega⟩
  · show stampOk 0; decide
  · show (0 : Int) ≤ 0; decide
  · show (0 : Int) ≤ 4; decide

def plI (t a : Int) : LI := ⟨plL t a, none, none, 0, 0⟩

theorem plI_own (W : World) {t a : Int} (h1 : 1 ≤ t) (h2 : t ≤ 1000000) (h3 : 0 ≤ a) (h4 : a < 12) : LOwn W 0 (plI t a) :=
  ⟨⟨rfl, .inl ⟨rfl, rfl⟩⟩, ⟨rfl, .inl ⟨rfl, rfl⟩⟩, (plL_ok h1 h2 h3 h4).rng⟩

set_option maxRecDepth 20000 in
set_option maxHeartbeats 4000000 in
theorem plain_any (t a : Int) (w : World) : Calls Try.prog 15 #[.int .i64 t, .int .i64 a] w fun e w' => e = .returned (letV (plI t a).l (plI t a).A (plI t a).B (plI t a).c (plI t a).d) ∧ Below w.heap.size w w' := by
  have hb1 : Below w.heap.size w (w.alloc zeroO) := (Below.refl _ w).alloc (Nat.le_refl _) _
  have hR0 := zero_cells w
  unfold zeroO at hb1
  go_enter Try.func15, Try.ntmps15
  go_upto_region 1 with fail
  generalize w.alloc (.cells #[.int .i64 0, .int .i64 0, .int .i64 0, .int .i64 0, .int .i64 0, .int .i64 0, .string ⟨#[]⟩, .slice none 0 0, .slice none 0 0] 35) = W1 at hb1 hR0 ⊢
  have HR2 := Lib.hid hR0
  have HB := Lib.hid hb1
  clear hb1 hR0
  have y0 := HR2.out.cell (i := 0) rfl
  have y1 := HR2.out.cell (i := 1) rfl
  have y2 := HR2.out.cell (i := 2) rfl
  have y3 := HR2.out.cell (i := 3) rfl
  have y4 := HR2.out.cell (i := 4) rfl
  have y5 := HR2.out.cell (i := 5) rfl
  have y6 := HR2.out.cell (i := 6) rfl
  have y7 := HR2.out.cell (i := 7) rfl
  have y8 := HR2.out.cell (i := 8) rfl
  have zq := fun i => HR2.out.free (i := i)
  go_wp2_with fail
  have HF := Lib.hid (set9_cel (v0 := .int .i64 7) (v1 := .int .i64 0) (v2 := .int .i64 a) (v3 := .int .i64 t) (v4 := .int .i64 0) (v5 := .int .i64 0) (v6 := .string ⟨#[]⟩) (v7 := .slice none 0 0) (v8 := .slice none 0 0) HR2.out)
  have z0 := HF.out.cell (i := 0) rfl
  have z1 := HF.out.cell (i := 1) rfl
  have z2 := HF.out.cell (i := 2) rfl
  have z3 := HF.out.cell (i := 3) rfl
  have z4 := HF.out.cell (i := 4) rfl
  have z5 := HF.out.cell (i := 5) rfl
  have z6 := HF.out.cell (i := 6) rfl
  have z7 := HF.out.cell (i := 7) rfl
  have z8 := HF.out.cell (i := 8) rfl
  unfold set9 at z0 z1 z2 z3 z4 z5 z6 z7 z8
  exact bodyPost_ret (v := letV (plL t a) none none 0 0) (by simp [results, Try.results15, go_sem, letV, plL, bareL, z0, z1, z2, z3, z4, z5, z6, z7, z8]) rfl ⟨rfl, set9_below HB.out (Nat.le_refl _)⟩

end Nt
end Go.Proofs.Ytkpcfakfkcghdaa
