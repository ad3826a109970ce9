/- Both nets side by side, and blocks of the law's own; marks over a letter's lists; no condition but the ranges. -/
import Derived.Test.YtkpcfakfkcghdaaNtRef5
import Derived.Test.YtkpcfakfkcghdaaNtLaw
namespace Go.Proofs.Ytkpcfakfkcghdaa
namespace Nt
open Go.RowKit Bk Lt
set_option linter.unusedVariables false

attribute [local go_sem ↓] Go.wp_at_zero Go.wp_at_succ
attribute [local go_sem] floatUpon pick

/-- both nets, away from the blocks M of the law's own -/
structure TM (w0 W : World) (M : Nat → Prop) (g b : Nat) (room : Int) (ll ld : List Let) : Prop where
  rep : ∃ F : Nat → Prop, (∀ k, F k → w0.heap.size ≤ k ∧ ¬ M k ∧ k ≠ b) ∧ LRep W F g room ll ∧ RRep W (fun k => F k ∨ k = b ∨ M k) b room ld
  bel : Below w0.heap.size w0 W
  mlt : ∀ k, M k → w0.heap.size ≤ k ∧ k < W.heap.size ∧ k ≠ b
  bw : w0.heap.size ≤ b ∧ b < W.heap.size

structure TP (w0 W w' : World) (M : Nat → Prop) (g b : Nat) (room : Int) (ll ld : List Let) : Prop extends TM w0 w' M g b room ll ld where
  keep : ∀ k, M k → w'.heap[k]? = W.heap[k]?
  size : W.heap.size ≤ w'.heap.size

theorem RAt.on {W w' : World} {P P' Q : Nat → Prop} {b : Nat} {room : Int} {A : Option Addr} {c : Nat} {L : List LI} (h : RAt W P b room A c L) (hf : Away Q W w') (hQ : ∀ k, Q k → P k) (hb : w'.heap[b]? = W.heap[b]?) (hP : ∀ k, P' k → P k ∨ W.heap.size ≤ k) (hpb : P' b) (hl : ∀ k, P' k → k < w'.heap.size) : RAt w' P' b room A c L := by
  have hf2 : Away (fun k => P k ∨ P' k) W w' := ⟨hf.size, fun k hk hn => hf.block k hk (fun hq => hn (.inl (hQ k hq)))⟩
  have ht : ∀ k, (P k ∨ P' k) → P k ∨ W.heap.size ≤ k := fun k hk => hk.elim .inl (hP k)
  exact ⟨hb.trans h.cel, ((h.row.turn ht).away hf2).turn (fun k hk => .inl (.inr hk)), h.cap, fun x hx => (((h.rv x hx).turn ht).away hf2).turn (fun k hk => .inl (.inr hk)), hpb, hl, h.rm, h.len, h.ok⟩

theorem RRep.on {W w' : World} {P P' Q : Nat → Prop} {b : Nat} {room : Int} {l : List Let} (h : RRep W P b room l) (hf : Away Q W w') (hQ : ∀ k, Q k → P k) (hb : w'.heap[b]? = W.heap[b]?) (hP : ∀ k, P' k → P k ∨ W.heap.size ≤ k) (hpb : P' b) (hl : ∀ k, P' k → k < w'.heap.size) : RRep w' P' b room l := by
  obtain ⟨A, c, L, h, e⟩ := h
  exact ⟨A, c, L, h.on hf hQ hb hP hpb hl, e⟩

section
variable {w0 W w' : World} {M M' : Nat → Prop} {g b : Nat} {room : Int} {ll ld ll' ld' : List Let}

theorem TM.land {F F' : Nat → Prop} (h : TM w0 W M g b room ll ld) (hF : ∀ k, F k → w0.heap.size ≤ k ∧ ¬ M k ∧ k ≠ b) (hd : RRep W (fun k => F k ∨ k = b ∨ M k) b room ld) (hFl : ∀ k, F k → k < W.heap.size) (hr' : LRep w' F' g room ll') (hF' : ∀ k, F' k → F k ∨ (W.heap.size ≤ k ∧ k < w'.heap.size)) (hf : Far F W w')
    (hM' : ∀ k, M' k → M k ∨ ((F k ∨ (W.heap.size ≤ k ∧ k < w'.heap.size)) ∧ ¬ F' k)) : TM w0 w' M' g b room ll' ld := by
  have hbF : ¬ F b := fun hb => (hF b hb).2.2 rfl
  have hM2 : ∀ k, M' k → w0.heap.size ≤ k ∧ k < w'.heap.size ∧ k ≠ b := fun k hk => by
    rcases hM' k hk with h1 | ⟨h1 | h1, -⟩
    · have := h.mlt k h1; exact ⟨this.1, Nat.lt_of_lt_of_le this.2.1 hf.size, this.2.2⟩
    · have := hF k h1; exact ⟨this.1, Nat.lt_of_lt_of_le (hFl k h1) hf.size, this.2.2⟩
    · have := h.bw; have := h.bel.size; exact ⟨by omega, h1.2, by omega⟩
  refine ⟨⟨F', fun k hk => ⟨?_, fun hm => ?_, fun e => ?_⟩, hr', hd.on hf.toAway (fun k hk => .inl hk) (hf.block b h.bw.2 hbF) (fun k hk => ?_) (.inr (.inl rfl)) (fun k hk => ?_)⟩, h.bel.trans (hf.below (fun k hk => (hF k hk).1) h.bel.size), hM2, ⟨h.bw.1, Nat.lt_of_lt_of_le h.bw.2 hf.size⟩⟩
  · rcases hF' k hk with h1 | h1
    · exact (hF k h1).1
    · have := h.bel.size; omega
  · rcases hM' k hm with h1 | ⟨-, h1⟩
    · rcases hF' k hk with h2 | h2
      · exact (hF k h2).2.1 h1
      · have := (h.mlt k h1).2.1; omega
    · exact h1 hk
  · rcases hF' k hk with h2 | h2
    · exact (hF k h2).2.2 e
    · have := h.bw.2; omega
  · rcases hk with hk | hk | hk
    · exact (hF' k hk).elim (fun h => .inl (.inl h)) (fun h => .inr h.1)
    · exact .inl (.inr (.inl hk))
    · rcases hM' k hk with h1 | ⟨h1 | h1, -⟩
      · exact .inl (.inr (.inr h1))
      · exact .inl (.inl h1)
      · exact .inr h1.1
  · rcases hk with hk | hk | hk
    · exact hr'.lt k hk
    · rw [hk]; exact Nat.lt_of_lt_of_le h.bw.2 hf.size
    · exact (hM2 k hk).2.1

theorem TM.keepF {F : Nat → Prop} (h : TM w0 W M g b room ll ld) (hF : ∀ k, F k → w0.heap.size ≤ k ∧ ¬ M k ∧ k ≠ b) (hf : Far F W w') : ∀ k, M k → w'.heap[k]? = W.heap[k]? := fun k hk => hf.block k (h.mlt k hk).2.1 (fun hfk => (hF k hfk).2.1 hk)

/-- the law's own blocks are turned, and new ones are its own -/
theorem TM.own (h : TM w0 W M g b room ll ld) (hf : Far M W w') (hM' : ∀ k, M' k → M k ∨ (W.heap.size ≤ k ∧ k < w'.heap.size)) : TM w0 w' M' g b room ll ld := by
  obtain ⟨⟨F, hF, hr, hd⟩, hbel, hm, hbw⟩ := h
  have hb0 := hbel.size
  refine ⟨⟨F, fun k hk => ⟨(hF k hk).1, fun hmk => (hM' k hmk).elim (hF k hk).2.1 (fun h2 => by have := hr.lt k hk; omega), (hF k hk).2.2⟩, hr.same hf.size (fun k hk => hf.block k (hr.lt k hk) (fun hmk => (hF k hk).2.1 hmk)), hd.on hf.toAway (fun k hk => .inr (.inr hk)) (hf.block b hbw.2 (fun hmb => (hm b hmb).2.2 rfl)) (fun k hk => ?_) (.inr (.inl rfl)) (fun k hk => ?_)⟩, hbel.trans (hf.below (fun k hk => (hm k hk).1) hb0), fun k hk => (hM' k hk).elim (fun h => ⟨(hm k h).1, Nat.lt_of_lt_of_le (hm k h).2.1 hf.size, (hm k h).2.2⟩) (fun h => ⟨by omega, h.2, by omega⟩), ⟨hbw.1, Nat.lt_of_lt_of_le hbw.2 hf.size⟩⟩
  · rcases hk with hk | hk | hk
    · exact .inl (.inl hk)
    · exact .inl (.inr (.inl hk))
    · exact (hM' k hk).elim (fun h => .inl (.inr (.inr h))) (fun h => .inr h.1)
  · rcases hk with hk | hk | hk
    · exact Nat.lt_of_lt_of_le (hr.lt k hk) hf.size
    · rw [hk]; exact Nat.lt_of_lt_of_le hbw.2 hf.size
    · exact (hM' k hk).elim (fun h => Nat.lt_of_lt_of_le (hm k h).2.1 hf.size) (fun h => h.2)

theorem TM.below (h : TM w0 W M g b room ll ld) (hb : Below W.heap.size W w') : TM w0 w' M g b room ll ld := h.own (Far.of hb) (fun k hk => .inl hk)
theorem TM.new (h : TM w0 W M g b room ll ld) (hb : Below W.heap.size W w') (hM' : ∀ k, M' k → M k ∨ (W.heap.size ≤ k ∧ k < w'.heap.size)) : TM w0 w' M' g b room ll ld := h.own (Far.of hb) hM'

theorem TP.cel {k : Nat} {t : TypeId} {xs : List Value} (h : TP w0 W w' M g b room ll' ld') (hc : Cel W k t xs) (hk : M k) : Cel w' k t xs := (h.keep k hk).trans hc
theorem TP.lown {H : Nat} {x : LI} (h : TP w0 W w' M g b room ll' ld') (hx : LOwn W H x) (hk : ∀ k, Lb x k → M k) : LOwn w' H x := hx.same (fun k hb => h.keep k (hk k hb))

/-! ### the landed net's calls -/

theorem tm_len (h : TM w0 W M g b room ll ld) : Calls Try.prog 12 #[.pointer (some ⟨g, 0, none⟩)] W fun e w' => e = .returned (.int .i64 (ll.length : Int)) ∧ w' = W := by
  obtain ⟨⟨F, hF, hr, hd⟩, _, _, _⟩ := h
  exact llen_any hr

theorem tm_send (h : TM w0 W M g b room ll ld) (x : LI) (hx : LOwn W 0 x) : Calls Try.prog 14 #[.pointer (some ⟨g, 0, none⟩), letV x.l x.A x.B x.c x.d] W fun e w' => e = .returned (.int .i64 (sendL room ll x.l).2) ∧ TP w0 W w' M g b room (sendL room ll x.l).1 ld := by
  have h0 := h
  obtain ⟨⟨F, hF, hr, hd⟩, _, _, _⟩ := h
  exact (lsend_any hr x hx).mono fun e w' ⟨e1, hr2, hf⟩ => ⟨e1, ⟨h0.land hF hd hr.lt hr2 (fun _ h => h) hf (fun k hk => .inl hk), h0.keepF hF hf, hf.size⟩⟩

theorem tm_copy (h : TM w0 W M g b room ll ld) (p : Int) : Calls Try.prog 18 #[.pointer (some ⟨g, 0, none⟩), .int .i64 p] W fun e w' => e = .returned (.int .i64 (copyL room ll p).2) ∧ TP w0 W w' M g b room (copyL room ll p).1 ld := by
  have h0 := h
  obtain ⟨⟨F, hF, hr, hd⟩, _, _, _⟩ := h
  exact (lcopy_any hr p).mono fun e w' ⟨e1, hr2, hf⟩ => ⟨e1, ⟨h0.land hF hd hr.lt hr2 (fun _ h => h) hf (fun k hk => .inl hk), h0.keepF hF hf, hf.size⟩⟩

/-- what a call that takes a letter tells -/
def TkP (w0 W : World) (M : Nat → Prop) (g b : Nat) (room : Int) (ll ld : List Let) (p : Int) : Ending → World → Prop := fun e w' =>
  ∃ x : LI, e = .returned (.tuple #[letV x.l x.A x.B x.c x.d, .int .i64 (if ll = [] then 5 else 0)]) ∧ x.l = (if ll = [] then noLet else ll.getD (amongV p ll.length) noLet) ∧ LOwn w' 0 x ∧ TM w0 w' (fun k => M k ∨ Lb x k) g b room (ll.eraseIdx (amongV p ll.length)) ld ∧ (∀ k, M k → w'.heap[k]? = W.heap[k]?) ∧ W.heap.size ≤ w'.heap.size

theorem tk_of {F : Nat → Prop} {p : Int} (h0 : TM w0 W M g b room ll ld) (hF : ∀ k, F k → w0.heap.size ≤ k ∧ ¬ M k ∧ k ≠ b) (hr : LRep W F g room ll) (hd : RRep W (fun k => F k ∨ k = b ∨ M k) b room ld) (hn : ll ≠ []) {e : Ending} {w' : World} (h : TakePost W F g room ll (amongV p ll.length) e w') : TkP w0 W M g b room ll ld p e w' := by
  obtain ⟨x, hi, e1, e2, e3, e4, e5, e6, e7⟩ := h
  exact ⟨x, by rw [e1, if_neg hn], by rw [if_neg hn, e2, List.getD_eq_getElem?_getD, List.getElem?_eq_getElem hi, Option.getD_some], e3, h0.land hF hd hr.lt e6 (fun k hk => .inl hk.1) e7 (fun k hk => hk.elim .inl (fun hb => .inr ⟨.inl (e4 k hb), fun hf => hf.2 hb⟩)), h0.keepF hF e7, e7.size⟩

theorem tk_none {p : Int} (h0 : TM w0 W M g b room [] ld) {e : Ending} {w' : World} (he : e = .returned (.tuple #[letV noLet none none 0 0, .int .i64 5])) (hb : Below W.heap.size W w') : TkP w0 W M g b room [] ld p e w' :=
  ⟨default, he, rfl, noLet_own _ _, (h0.below hb).new (Below.refl _ _) (fun k hk => hk.elim .inl (fun hb => by rcases hb with e | e <;> cases e)), fun k hk => hb.block k (h0.mlt k hk).2.1, hb.size⟩

theorem tm_take (h : TM w0 W M g b room ll ld) (p : Int) : Calls Try.prog 16 #[.pointer (some ⟨g, 0, none⟩), .int .i64 p] W (TkP w0 W M g b room ll ld p) := by
  by_cases hn : ll = []
  · subst hn
    have h0 := h
    obtain ⟨⟨F, hF, hr, hd⟩, _, _, _⟩ := h
    exact (ltake_none hr p).mono fun e w' ⟨e1, hb⟩ => tk_none h0 e1 hb
  · have h0 := h
    obtain ⟨⟨F, hF, hr, hd⟩, _, _, _⟩ := h
    exact (ltake_any hr (List.length_pos_iff.2 hn) p).mono fun e w' ht => tk_of h0 hF hr hd hn ht

theorem tm_drop (h : TM w0 W M g b room ll ld) (p : Int) : Calls Try.prog 27 #[.pointer (some ⟨g, 0, none⟩), .int .i64 p] W (TkP w0 W M g b room ll ld p) := by
  by_cases hn : ll = []
  · subst hn
    have h0 := h
    obtain ⟨⟨F, hF, hr, hd⟩, _, _, _⟩ := h
    exact (ldrop_none hr p).mono fun e w' ⟨e1, hb⟩ => tk_none h0 e1 hb
  · have h0 := h
    obtain ⟨⟨F, hF, hr, hd⟩, _, _, _⟩ := h
    exact (ldrop_any hr (List.length_pos_iff.2 hn) p).mono fun e w' ht => tk_of h0 hF hr hd hn ht

theorem tm_inject (h : TM w0 W M g b room ll ld) (s : ByteArray) (hs : s.size ≤ 1000000000000000) : Calls Try.prog 20 #[.pointer (some ⟨g, 0, none⟩), .string s] W fun e w' => ∃ x : LI, e = .returned (.tuple #[letV x.l x.A x.B x.c x.d, .int .i64 (injL room ll s).2.2]) ∧ x.l = (injL room ll s).2.1 ∧ LOwn w' 0 x ∧ TM w0 w' (fun k => M k ∨ Lb x k) g b room (injL room ll s).1 ld ∧ (∀ k, M k → w'.heap[k]? = W.heap[k]?) ∧ W.heap.size ≤ w'.heap.size := by
  have h0 := h
  obtain ⟨⟨F, hF, hr, hd⟩, _, _, _⟩ := h
  refine (linject_any hr s hs).mono ?_
  rintro e w' ⟨x, F', e1, e2, e3, e4, e5, e6, e7⟩
  exact ⟨x, e1, e2, e3.mono (Nat.zero_le _), h0.land hF hd hr.lt e6 (fun k hk => (e4 k hk).elim .inl (fun h => .inr ⟨h, e6.lt k hk⟩)) e7 (fun k hk => hk.elim .inl (fun hb => .inr ⟨.inr ⟨(e3.lt hb).2, (e3.lt hb).1⟩, e5 k hb⟩)), h0.keepF hF e7, e7.size⟩

theorem tm_for (h : TM w0 W M g b room ll ld) (dn : Int) : Calls Try.prog 22 #[.pointer (some ⟨g, 0, none⟩), .int .i64 dn] W fun e w' => ∃ v, e = .returned v ∧ w'.ownsRow W.heap.size 3 1 v (forL ll dn ll.length).length (intV (forL ll dn ll.length)) ∧ Below W.heap.size W w' := by
  obtain ⟨⟨F, hF, hr, hd⟩, _, _, _⟩ := h
  exact lfor_any hr dn

/-! ### the document's -/

theorem TM.doc {F : Nat → Prop} (h : TM w0 W M g b room ll ld) (hF : ∀ k, F k → w0.heap.size ≤ k ∧ ¬ M k ∧ k ≠ b) (hr : LRep W F g room ll) (hp : RPost W (fun k => F k ∨ k = b ∨ M k) b room ld' w') : TP w0 W w' M g b room ll ld' :=
  ⟨⟨⟨F, hF, hr.same hp.2.size (fun k hk => hp.2.block k (hr.lt k hk) (hF k hk).2.2), hp.1⟩, h.bel.trans (hp.2.below (fun k hk => by rw [hk]; exact h.bw.1) h.bel.size), fun k hk => ⟨(h.mlt k hk).1, Nat.lt_of_lt_of_le (h.mlt k hk).2.1 hp.2.size, (h.mlt k hk).2.2⟩, ⟨h.bw.1, Nat.lt_of_lt_of_le h.bw.2 hp.2.size⟩⟩, fun k hk => hp.2.block k (h.mlt k hk).2.1 (h.mlt k hk).2.2, hp.2.size⟩

theorem dm_send (h : TM w0 W M g b room ll ld) (x : LI) (hx : LetVal W x.A x.B x.c x.d x.l) (hA : ∀ ad, x.A = some ad → 0 < x.l.keys.length → ad.block < w0.heap.size) (hB : ∀ ad, x.B = some ad → 0 < x.l.ws.length → ad.block < w0.heap.size) : Calls Try.prog 25 #[.pointer (some ⟨b, 0, none⟩), letV x.l x.A x.B x.c x.d] W fun e w' => e = .returned (.int .i64 (sendL room ld x.l).2) ∧ TP w0 W w' M g b room ll (sendL room ld x.l).1 := by
  have h0 := h
  obtain ⟨⟨F, hF, hr, A, c, L, hd, rfl⟩, _, _, _⟩ := h
  have hlow : ∀ k, (F k ∨ k = b ∨ M k) → w0.heap.size ≤ k := fun k hk => by
    rcases hk with hk | hk | hk
    · exact (hF k hk).1
    · rw [hk]; exact h0.bw.1
    · exact (h0.mlt k hk).1
  exact (rsend_any hd x ⟨hx, fun hp ad e hk => by have := hlow _ hk; have := hA ad e hp; omega, fun hp ad e hk => by have := hlow _ hk; have := hB ad e hp; omega⟩).mono fun e w' ⟨e1, hp⟩ => ⟨e1, h0.doc hF hr hp⟩

theorem dm_copy (h : TM w0 W M g b room ll ld) (p : Int) : Calls Try.prog 28 #[.pointer (some ⟨b, 0, none⟩), .int .i64 p] W fun e w' => e = .returned (.int .i64 (copyL room ld p).2) ∧ TP w0 W w' M g b room ll (copyL room ld p).1 := by
  have h0 := h
  obtain ⟨⟨F, hF, hr, A, c, L, hd, rfl⟩, _, _, _⟩ := h
  exact (rcopy_any hd p).mono fun e w' ⟨e1, hp⟩ => ⟨e1, h0.doc hF hr hp⟩

theorem dm_take (h : TM w0 W M g b room ll ld) (p : Int) : Calls Try.prog 26 #[.pointer (some ⟨b, 0, none⟩), .int .i64 p] W fun e w' => ∃ x : LI, e = .returned (.tuple #[letV x.l x.A x.B x.c x.d, .int .i64 (if ld = [] then 5 else 0)]) ∧ x.l = (if ld = [] then noLet else ld.getD (amongV p ld.length) noLet) ∧ LetVal w' x.A x.B x.c x.d x.l ∧ TP w0 W w' M g b room ll (ld.eraseIdx (amongV p ld.length)) := by
  have h0 := h
  obtain ⟨⟨F, hF, hr, A, c, L, hd, rfl⟩, _, _, _⟩ := h
  by_cases hn : L = []
  · subst hn
    refine (rtake_none hd p).mono fun e w' ⟨e1, hb⟩ => ⟨default, e1, rfl, no_valN _, ?_⟩
    exact ⟨h0.below hb, fun k hk => hb.block k (h0.mlt k hk).2.1, hb.size⟩
  · have hm : L.map (·.l) ≠ [] := fun e => hn (List.map_eq_nil_iff.1 e)
    have hl : (L.map (·.l)).length = L.length := List.length_map _
    refine (rtake_any hd (List.length_pos_iff.2 hn) p).mono ?_
    rintro e w' ⟨x, e1, e2, e3, e4⟩
    have hi := amongV_lt p L.length (List.length_pos_iff.2 hn)
    refine ⟨x, by rw [e1, if_neg hm], ?_, e3.val, ?_⟩
    · rw [if_neg hm, hl, e2, List.getD_eq_getElem?_getD, List.getD_eq_getElem?_getD, List.getElem?_map, List.getElem?_eq_getElem hi]; rfl
    · rw [hl]; exact h0.doc hF hr e4

theorem dm_inject (h : TM w0 W M g b room ll ld) (s : ByteArray) (hs : s.size ≤ 1000000000000000) : Calls Try.prog 29 #[.pointer (some ⟨b, 0, none⟩), .string s] W fun e w' => ∃ x : LI, e = .returned (.tuple #[letV x.l x.A x.B x.c x.d, .int .i64 (injL room ld s).2.2]) ∧ x.l = (injL room ld s).2.1 ∧ LetVal w' x.A x.B x.c x.d x.l ∧ TP w0 W w' M g b room ll (injL room ld s).1 := by
  have h0 := h
  obtain ⟨⟨F, hF, hr, A, c, L, hd, rfl⟩, _, _, _⟩ := h
  refine (rinject_any hd s hs).mono ?_
  rintro e w' ⟨x, e1, e2, e3, e4⟩
  exact ⟨x, e1, e2, e3.val, h0.doc hF hr e4⟩

theorem dm_for (h : TM w0 W M g b room ll ld) (dn : Int) : Calls Try.prog 31 #[.pointer (some ⟨b, 0, none⟩), .int .i64 dn] W fun e w' => ∃ v, e = .returned v ∧ w'.ownsRow W.heap.size 3 1 v (forL ld dn ld.length).length (intV (forL ld dn ld.length)) ∧ Below W.heap.size W w' := by
  obtain ⟨⟨F, hF, hr, A, c, L, hd, rfl⟩, _, _, _⟩ := h
  have hl : (L.map (·.l)).length = L.length := List.length_map _
  rw [hl]
  exact rfor_any hd dn

/-- the document's list, in its block -/
theorem dm_len (h : TM w0 W M g b room ll ld) : ∃ A c, W.cell? ⟨b, 1, none⟩ = some (.slice A ld.length c) := by
  obtain ⟨⟨F, hF, hr, A, c, L, hd, rfl⟩, _, _, _⟩ := h
  exact ⟨A, c, by rw [List.length_map]; exact hd.cel.cell (i := 1) rfl⟩
end

end Nt
end Go.Proofs.Ytkpcfakfkcghdaa
