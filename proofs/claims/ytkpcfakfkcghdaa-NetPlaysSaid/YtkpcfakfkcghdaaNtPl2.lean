/- A call of either net, with its answer and its code named; no condition but the ranges. -/
import Derived.Test.YtkpcfakfkcghdaaNtPl1
import Derived.Test.YtkpcfakfkcghdaaNtOpen
namespace Go.Proofs.Ytkpcfakfkcghdaa
namespace Nt
open Go.RowKit Bk Lt
set_option linter.unusedVariables false

def actV (a : AI) : Value := .agg #[.int .i64 a.k, .int .i64 a.n, .int .i64 a.x.l.kind, .int .i64 a.x.l.src, .int .i64 a.x.l.dst, .int .i64 a.x.l.txn, .int .i64 a.x.l.ts, .int .i64 a.x.l.code, .string a.x.l.text, .slice a.x.A a.x.l.keys.length a.x.c, .slice a.x.B a.x.l.ws.length a.x.d, .string a.text]

/-- behind a call of the landed net that hands out a letter -/
def LP (w0 W : World) (M : Nat → Prop) (g b : Nat) (room : Int) (ll ld : List Let) (xl : Let) (c : Int) : Ending → World → Prop := fun e w' =>
  ∃ (x : LI) (ec : Int), e = .returned (.tuple #[letV x.l x.A x.B x.c x.d, .int .i64 ec]) ∧ Hid (ec = c) ∧ Hid (x.l = xl) ∧ Hid (LOwn w' 0 x) ∧ Hid (TM w0 w' (fun k => M k ∨ Lb x k) g b room ll ld) ∧ Hid (∀ k, M k → w'.heap[k]? = W.heap[k]?)

/-- behind a call of the document's that hands out a letter -/
def DP (w0 W : World) (M : Nat → Prop) (g b : Nat) (room : Int) (ll ld : List Let) (xl : Let) (c : Int) : Ending → World → Prop := fun e w' =>
  ∃ (y : LI) (ec : Int), e = .returned (.tuple #[letV y.l y.A y.B y.c y.d, .int .i64 ec]) ∧ Hid (ec = c) ∧ Hid (y.l = xl) ∧ Hid (LetVal w' y.A y.B y.c y.d y.l) ∧ Hid (TP w0 W w' M g b room ll ld)

section
variable {w0 W : World} {M : Nat → Prop} {g b : Nat} {room : Int} {l : List Let}

theorem lp_take {ld : List Let} (h : TM w0 W M g b room l ld) (p : Int) : Calls Try.prog 16 #[.pointer (some ⟨g, 0, none⟩), .int .i64 p] W (LP w0 W M g b room (l.eraseIdx (amongV p l.length)) ld (if l = [] then noLet else l.getD (amongV p l.length) noLet) (if l = [] then 5 else 0)) :=
  (tm_take h p).mono fun e w' ⟨x, e1, e2, e3, e4, e5, e6⟩ => ⟨x, _, e1, Lib.hid rfl, Lib.hid e2, Lib.hid e3, Lib.hid e4, Lib.hid e5⟩
theorem lp_drop {ld : List Let} (h : TM w0 W M g b room l ld) (p : Int) : Calls Try.prog 27 #[.pointer (some ⟨g, 0, none⟩), .int .i64 p] W (LP w0 W M g b room (l.eraseIdx (amongV p l.length)) ld (if l = [] then noLet else l.getD (amongV p l.length) noLet) (if l = [] then 5 else 0)) :=
  (tm_drop h p).mono fun e w' ⟨x, e1, e2, e3, e4, e5, e6⟩ => ⟨x, _, e1, Lib.hid rfl, Lib.hid e2, Lib.hid e3, Lib.hid e4, Lib.hid e5⟩
theorem lp_inject {ld : List Let} (h : TM w0 W M g b room l ld) (s : ByteArray) (hs : s.size ≤ 1000000000000000) : Calls Try.prog 20 #[.pointer (some ⟨g, 0, none⟩), .string s] W (LP w0 W M g b room (injL room l s).1 ld (injL room l s).2.1 (injL room l s).2.2) :=
  (tm_inject h s hs).mono fun e w' ⟨x, e1, e2, e3, e4, e5, e6⟩ => ⟨x, _, e1, Lib.hid rfl, Lib.hid e2, Lib.hid e3, Lib.hid e4, Lib.hid e5⟩
theorem dp_take {ll : List Let} (h : TM w0 W M g b room ll l) (p : Int) : Calls Try.prog 26 #[.pointer (some ⟨b, 0, none⟩), .int .i64 p] W (DP w0 W M g b room ll (l.eraseIdx (amongV p l.length)) (if l = [] then noLet else l.getD (amongV p l.length) noLet) (if l = [] then 5 else 0)) :=
  (dm_take h p).mono fun e w' ⟨x, e1, e2, e3, e4⟩ => ⟨x, _, e1, Lib.hid rfl, Lib.hid e2, Lib.hid e3, Lib.hid e4⟩
theorem dp_inject {ll : List Let} (h : TM w0 W M g b room ll l) (s : ByteArray) (hs : s.size ≤ 1000000000000000) : Calls Try.prog 29 #[.pointer (some ⟨b, 0, none⟩), .string s] W (DP w0 W M g b room ll (injL room l s).1 (injL room l s).2.1 (injL room l s).2.2) :=
  (dm_inject h s hs).mono fun e w' ⟨x, e1, e2, e3, e4⟩ => ⟨x, _, e1, Lib.hid rfl, Lib.hid e2, Lib.hid e3, Lib.hid e4⟩

/-- a letter's box, and the letter's own lists beside -/
theorem TM.box {ll ld : List Let} {k0 : Nat} {w' : World} (h : TM w0 W M g b room ll ld) (hb : Below W.heap.size W w') (hk : k0 = W.heap.size) (hs : k0 < w'.heap.size) : TM w0 w' (fun k => M k ∨ k = k0) g b room ll ld :=
  h.new hb (fun k hm => hm.elim .inl (fun e => .inr ⟨by omega, by omega⟩))

theorem TM.none {ll ld : List Let} (h : TM w0 W M g b room ll ld) : TM w0 W (fun _ => False) g b room ll ld := h.own (Far.refl _ _) (fun _ h => h.elim)

theorem TM.spoilt {ll ld : List Let} {F : Nat → Prop} {w' : World} (h : TM w0 W M g b room ll ld) (hf : Far F W w') (hF : ∀ k, F k → M k) : TM w0 w' (fun _ => False) g b room ll ld :=
  h.own (hf.more (fun k hk => .inl (hF k hk))) (fun _ h => h.elim)

theorem rng_keys {x : Let} (h : LetRng x) : x.keys.length ≤ 9223372036854775807 := by have := h.k16; unfold reachBytes at this; omega
theorem rng_ws {x : Let} (h : LetRng x) : x.ws.length ≤ 9223372036854775807 := by have := h.w16; unfold reachBytes at this; omega

theorem same_of {x y : LI} {w : World} (h : LetVal w x.A x.B x.c x.d x.l) (h' : LetVal w y.A y.B y.c y.d y.l) (e : x.l = y.l) : Calls Try.prog 17 #[letV x.l x.A x.B x.c x.d, letV y.l y.A y.B y.c y.d] w fun e w' => e = .returned (.bool true) ∧ Below w.heap.size w w' := by
  have hs := sameLet_any x.A x.B y.A y.B x.c x.d y.c y.d x.l y.l w h.ks h.ws h'.ks h'.ws (rng_keys h.rng.toLetRng) (rng_ws h.rng.toLetRng)
  rw [sameB_true e] at hs
  exact hs
theorem lp_send {ld : List Let} {m : Let} (h : TM w0 W M g b room l ld) (x : LI) (hx : LOwn W 0 x) (hm : x.l = m) : Calls Try.prog 14 #[.pointer (some ⟨g, 0, none⟩), letV x.l x.A x.B x.c x.d] W fun e w' => ∃ ec : Int, e = .returned (.int .i64 ec) ∧ Hid (ec = (sendL room l m).2) ∧ Hid (TP w0 W w' M g b room (sendL room l m).1 ld) := by
  subst hm
  exact (tm_send h x hx).mono fun e w' ⟨e1, hp⟩ => ⟨_, e1, Lib.hid rfl, Lib.hid hp⟩

theorem dp_send {ll : List Let} (h : TM w0 W M g b room ll l) (x : LI) (hx : LetVal w0 x.A x.B x.c x.d x.l) : Calls Try.prog 25 #[.pointer (some ⟨b, 0, none⟩), letV x.l x.A x.B x.c x.d] W fun e w' => ∃ ec : Int, e = .returned (.int .i64 ec) ∧ Hid (ec = (sendL room l x.l).2) ∧ Hid (TP w0 W w' M g b room ll (sendL room l x.l).1) :=
  (dm_send h x (hx.below h.bel) (fun ad e hp => by
    obtain ⟨a', e2, h2, _⟩ := hx.ks hp
    obtain rfl := Option.some.inj (e.symm.trans e2)
    exact h2) (fun ad e hp => by
    obtain ⟨a', e2, h2, _⟩ := hx.ws hp
    obtain rfl := Option.some.inj (e.symm.trans e2)
    exact h2)).mono fun e w' ⟨e1, hp⟩ => ⟨_, e1, Lib.hid rfl, Lib.hid hp⟩

theorem lq_copy {ld : List Let} {b0 : Nat} {t : TypeId} {cs : List Value} (h : TM w0 W M g b room l ld) (hc : Cel W b0 t cs) (hb : M b0) (p : Int) : ∀ V, Below W.heap.size W V → Calls Try.prog 18 #[.pointer (some ⟨g, 0, none⟩), .int .i64 p] V fun e w' => ∃ ec : Int, e = .returned (.int .i64 ec) ∧ Hid (ec = (copyL room l p).2) ∧ Hid (TM w0 w' M g b room (copyL room l p).1 ld) ∧ Hid (Cel w' b0 t cs) :=
  fun V hV => (tm_copy (h.below hV) p).mono fun e w' ⟨e1, hp⟩ => ⟨_, e1, Lib.hid rfl, Lib.hid hp.toTM, Lib.hid (hp.cel (hc.below hV) hb)⟩
theorem dq_copy {ll : List Let} {b0 : Nat} {t : TypeId} {cs : List Value} (h : TM w0 W M g b room ll l) (hc : Cel W b0 t cs) (hb : M b0) (p : Int) : ∀ V, Below W.heap.size W V → Calls Try.prog 28 #[.pointer (some ⟨b, 0, none⟩), .int .i64 p] V fun e w' => ∃ ec : Int, e = .returned (.int .i64 ec) ∧ Hid (ec = (copyL room l p).2) ∧ Hid (TM w0 w' M g b room ll (copyL room l p).1) ∧ Hid (Cel w' b0 t cs) :=
  fun V hV => (dm_copy (h.below hV) p).mono fun e w' ⟨e1, hp⟩ => ⟨_, e1, Lib.hid rfl, Lib.hid hp.toTM, Lib.hid (hp.cel (hc.below hV) hb)⟩

theorem lq_for {ld : List Let} {b0 : Nat} {t : TypeId} {cs : List Value} (h : TM w0 W M g b room l ld) (hc : Cel W b0 t cs) (p : Int) : ∀ V, Below W.heap.size W V → Calls Try.prog 22 #[.pointer (some ⟨g, 0, none⟩), .int .i64 p] V fun e w' => ∃ (A : Option Addr) (c : Nat), e = .returned (.slice A (forL l p l.length).length c) ∧ Hid (IntsAt w' A (forL l p l.length)) ∧ Hid (Below W.heap.size W w') ∧ Hid (Cel w' b0 t cs) :=
  fun V hV => (tm_for (h.below hV) p).mono fun e w' ⟨v, e1, ho, hb⟩ => by
    obtain ⟨A, c, rfl, hi⟩ := ints_of_own ho rfl
    exact ⟨A, c, e1, Lib.hid hi, Lib.hid (hV.trans (hb.mono hV.size)), Lib.hid ((hc.below hV).below hb)⟩
theorem dq_for {ll : List Let} {b0 : Nat} {t : TypeId} {cs : List Value} (h : TM w0 W M g b room ll l) (hc : Cel W b0 t cs) (p : Int) : ∀ V, Below W.heap.size W V → Calls Try.prog 31 #[.pointer (some ⟨b, 0, none⟩), .int .i64 p] V fun e w' => ∃ (A : Option Addr) (c : Nat), e = .returned (.slice A (forL l p l.length).length c) ∧ Hid (IntsAt w' A (forL l p l.length)) ∧ Hid (Below W.heap.size W w') ∧ Hid (Cel w' b0 t cs) :=
  fun V hV => (dm_for (h.below hV) p).mono fun e w' ⟨v, e1, ho, hb⟩ => by
    obtain ⟨A, c, rfl, hi⟩ := ints_of_own ho rfl
    exact ⟨A, c, e1, Lib.hid hi, Lib.hid (hV.trans (hb.mono hV.size)), Lib.hid ((hc.below hV).below hb)⟩

theorem for_len {ld : List Let} (h : TM w0 W M g b room l ld) (p : Int) : (forL l p l.length).length ≤ 1024 := by
  obtain ⟨⟨F, hF, ⟨v, L, hr, rfl⟩, hd⟩, _, _, _⟩ := h
  have h1 := hr.len
  have h2 := hr.rm
  unfold forL
  rw [List.length_map]
  refine Nat.le_trans (List.length_filter_le _ _) ?_
  rw [List.length_range, List.length_map]; omega

theorem sameI_any {A B : Option Addr} {c d : Nat} {k : List Int} (hk : k.length ≤ 1024) {V1 : World} (ha : IntsAt V1 A k) (hb : IntsAt V1 B k) : ∀ V, Below V1.heap.size V1 V → Calls Try.prog 30 #[.slice A k.length c, .slice B k.length d] V fun e w' => e = .returned (.bool true) ∧ Hid (Below V1.heap.size V1 w') := fun V hV => by
  have h1 := sameInts_any A B c d k k V (ha.below hV) (hb.below hV) (by omega)
  rw [decide_eq_true rfl] at h1
  refine h1.mono ?_
  rintro e w' ⟨e1, n, rfl⟩
  exact ⟨e1, Lib.hid (hV.trans (⟨rfl, rfl, rfl, Nat.le_refl _, fun _ _ => rfl⟩ : Below V1.heap.size V (V.drewN n)))⟩

end

end Nt
end Go.Proofs.Ytkpcfakfkcghdaa
