/- The landed queue: its calls; no condition but the ranges. -/
import Derived.Test.YtpjoiepdcilcnaaDuHeap2
import Derived.Test.YtpjoiepdcilcnaaDuSpec
namespace Go.Proofs.Ytpjoiepdcilcnaa
namespace Du
open Go.RowKit Bk

/-- the queue in block b: its tick, its count, both rows -/
structure QAt (W : World) (base b : Nat) (now puts : Int) (vw vr : Value) (A B : List Tk) : Prop where
  cel : Cel W b 56 [.int .i64 now, .int .i64 puts, vw, vr]
  rw' : TRow W base vw A
  rr : TRow W base vr B
  fw : vw.ownBlock ≠ some b
  fr : vr.ownBlock ≠ some b
  un : Unlike vw vr
  bb : base ≤ b
  bs : base ≤ W.heap.size

section
variable {W W' : World} {base b : Nat} {now puts : Int} {vw vr v' : Value} {A B l' : List Tk} {D : Ds}

theorem QAt.w (h : QAt W base b now puts vw vr A B) : HS W base b 2 [.int .i64 now, .int .i64 puts, vw, vr] vw A := ⟨h.cel, rfl, h.rw', h.fw⟩
theorem QAt.r (h : QAt W base b now puts vw vr A B) : HS W base b 3 [.int .i64 now, .int .i64 puts, vw, vr] vr B := ⟨h.cel, rfl, h.rr, h.fr⟩

theorem TRow.lt (h : TRow W base v' l') {p : Nat} (hp : v'.ownBlock = some p) : p < W.heap.size ∧ base ≤ p := by
  rcases h.2 with ⟨e, _⟩ | ⟨q, cap, cur, e, e2, e3, _⟩
  · rw [e] at hp; cases hp
  · rw [e] at hp
    obtain rfl : q = p := Option.some.inj hp
    exact ⟨(Array.getElem?_eq_some_iff.1 e3).1, e2⟩

/-- the blocks of a queue -/
def foot (b : Nat) (vw vr : Value) (k : Nat) : Prop := k = b ∨ vw.ownBlock = some k ∨ vr.ownBlock = some k

/-- those of F alone are turned, and new ones; F' lies in both -/
structure Fd (F F' : Nat → Prop) (w w' : World) : Prop where
  os : w'.os = w.os
  tape : w'.tape = w.tape
  output : w'.output = w.output
  size : w.heap.size ≤ w'.heap.size
  block : ∀ k, k < w.heap.size → ¬ F k → w'.heap[k]? = w.heap[k]?
  foot : ∀ k, F' k → F k ∨ w.heap.size ≤ k

theorem Fd.refl (F : Nat → Prop) (w : World) : Fd F F w w := ⟨rfl, rfl, rfl, Nat.le_refl _, fun _ _ _ => rfl, fun _ h => .inl h⟩
theorem Fd.trans {F G H : Nat → Prop} {a b c : World} (h : Fd F G a b) (k : Fd G H b c) : Fd F H a c :=
  ⟨k.os.trans h.os, k.tape.trans h.tape, k.output.trans h.output, Nat.le_trans h.size k.size,
    fun i hi hn => (k.block i (Nat.lt_of_lt_of_le hi h.size) (fun hg => (h.foot i hg).elim hn (by omega))).trans (h.block i hi hn),
    fun i hi => (k.foot i hi).elim (h.foot i) (fun hs => .inr (Nat.le_trans h.size hs))⟩
theorem Fd.of {F : Nat → Prop} {w w' : World} (h : Below w.heap.size w w') : Fd F F w w' := ⟨h.os, h.tape, h.output, h.size, fun k hk _ => h.block k hk, fun _ h => .inl h⟩
theorem Fd.below {F F' : Nat → Prop} {n : Nat} {w w' : World} (h : Fd F F' w w') (hF : ∀ k, F k → n ≤ k) (hn : n ≤ w.heap.size) : Below n w w' :=
  ⟨h.os, h.tape, h.output, h.size, fun k hk => h.block k (by omega) (fun hf => by have := hF k hf; omega)⟩

/-- behind a call on the waiting heap -/
theorem QAt.actW (h : QAt W base b now puts vw vr A B) {v' : Value} {l' : List Tk} (h2 : HS W' base b 2 [.int .i64 now, .int .i64 puts, v', vr] v' l') (m : HM W W' b vw v') : QAt W' base b now puts v' vr l' B ∧ Fd (foot b vw vr) (foot b v' vr) W W' := by
  have hne : ∀ p, vr.ownBlock = some p → some p ≠ vw.ownBlock := fun p hp e => h.un p e.symm hp
  refine ⟨⟨h2.cel, h2.row, h.rr.same fun p hp => m.block p (h.rr.lt hp).1 (fun e => h.fr (e ▸ hp)) (hne p hp), h2.far, h.fr, ?_, h.bb, Nat.le_trans h.bs m.size⟩, m.os, m.tape, m.output, m.size, fun k hk hn => m.block k hk (fun e => hn (.inl e)) (fun e => hn (.inr (.inl e.symm))), fun k hk => ?_⟩
  · intro j h3 h4
    rcases m.own with e | ⟨q, e, hq⟩
    · exact h.un j (e ▸ h3) h4
    · rw [e] at h3
      have := Option.some.inj h3
      have := (h.rr.lt h4).1
      omega
  · rcases hk with hk | hk | hk
    · exact .inl (.inl hk)
    · rcases m.own with e | ⟨q, e, hq⟩
      · exact .inl (.inr (.inl (e ▸ hk)))
      · rw [e] at hk; have := Option.some.inj hk; exact .inr (by omega)
    · exact .inl (.inr (.inr hk))

theorem QAt.actR (h : QAt W base b now puts vw vr A B) {v' : Value} {l' : List Tk} (h2 : HS W' base b 3 [.int .i64 now, .int .i64 puts, vw, v'] v' l') (m : HM W W' b vr v') : QAt W' base b now puts vw v' A l' ∧ Fd (foot b vw vr) (foot b vw v') W W' := by
  have hne : ∀ p, vw.ownBlock = some p → some p ≠ vr.ownBlock := fun p hp e => h.un p hp e.symm
  refine ⟨⟨h2.cel, h.rw'.same fun p hp => m.block p (h.rw'.lt hp).1 (fun e => h.fw (e ▸ hp)) (hne p hp), h2.row, h.fw, h2.far, ?_, h.bb, Nat.le_trans h.bs m.size⟩, m.os, m.tape, m.output, m.size, fun k hk hn => m.block k hk (fun e => hn (.inl e)) (fun e => hn (.inr (.inr e.symm))), fun k hk => ?_⟩
  · intro j h3 h4
    rcases m.own with e | ⟨q, e, hq⟩
    · exact h.un j h3 (e ▸ h4)
    · rw [e] at h4
      have := Option.some.inj h4
      have := (h.rw'.lt h3).1
      omega
  · rcases hk with hk | hk | hk
    · exact .inl (.inl hk)
    · exact .inl (.inr (.inl hk))
    · rcases m.own with e | ⟨q, e, hq⟩
      · exact .inl (.inr (.inr (e ▸ hk)))
      · rw [e] at hk; have := Option.some.inj hk; exact .inr (by omega)

/-- the landed queue is the plain one -/
def LQ (W : World) (base : Nat) (F : Nat → Prop) (b : Nat) (D : Ds) : Prop :=
  ∃ (vw vr : Value) (A B : List Tk), F = foot b vw vr ∧ QAt W base b D.tick D.many vw vr A B ∧ QInv D A B

theorem QAt.below (h : QAt W base b now puts vw vr A B) (hb : Below W.heap.size W W') : QAt W' base b now puts vw vr A B :=
  ⟨h.cel.below hb, st_keep h.rw' hb, st_keep h.rr hb, h.fw, h.fr, h.un, h.bb, Nat.le_trans h.bs hb.size⟩

theorem LQ.lt {F : Nat → Prop} (h : LQ W base F b D) : ∀ k, F k → k < W.heap.size ∧ base ≤ k := by
  obtain ⟨vw, vr, A, B, rfl, q, _⟩ := h
  rintro k (rfl | hk | hk)
  · exact ⟨q.cel.lt, q.bb⟩
  · exact q.rw'.lt hk
  · exact q.rr.lt hk

theorem LQ.kept {F : Nat → Prop} (h : LQ W base F b D) (hs : W.heap.size ≤ W'.heap.size) (hk : ∀ k, F k → W'.heap[k]? = W.heap[k]?) : LQ W' base F b D := by
  obtain ⟨vw, vr, A, B, rfl, q, i⟩ := h
  exact ⟨vw, vr, A, B, rfl, ⟨(hk b (.inl rfl)).trans q.cel, q.rw'.same fun p hp => hk p (.inr (.inl hp)), q.rr.same fun p hp => hk p (.inr (.inr hp)), q.fw, q.fr, q.un, q.bb, Nat.le_trans q.bs hs⟩, i⟩

theorem LQ.below {F : Nat → Prop} (h : LQ W base F b D) (hb : Below W.heap.size W W') : LQ W' base F b D := h.kept hb.size fun k hk => hb.block k (h.lt k hk).1

set_option maxHeartbeats 4000000 in
theorem qnew_any (hbs : base ≤ W.heap.size) : Calls Try.prog 7 #[] W fun e W' => ∃ b F, e = .returned (.pointer (some ⟨b, 0, none⟩)) ∧ LQ W' base F b newD ∧ Fd (fun _ => False) F W W' := by
  go_enter Try.func7, Try.ntmps7
  go_wp2
  go_ret
  refine ⟨_, _, rfl, ⟨.slice none 0 0, .slice none 0 0, [], [], rfl, ⟨(blk1 W _).2, ⟨rfl, .inl ⟨rfl, rfl⟩⟩, ⟨rfl, .inl ⟨rfl, rfl⟩⟩, by simp [Value.ownBlock], by simp [Value.ownBlock], fun j hj => by simp [Value.ownBlock] at hj, hbs, Nat.le_trans hbs (by simp)⟩, qinv_new⟩, ?_⟩
  have hb := (Below.refl W.heap.size W).alloc (Nat.le_refl _) (.cells #[.int .i64 0, .int .i64 0, .slice none 0 0, .slice none 0 0] 56)
  exact ⟨hb.os, hb.tape, hb.output, hb.size, fun k hk _ => hb.block k hk, fun k hk => .inr (by
    rcases hk with hk | hk | hk
    · omega
    · simp [Value.ownBlock] at hk
    · simp [Value.ownBlock] at hk)⟩

set_option maxHeartbeats 4000000 in
theorem qlen_any {F : Nat → Prop} (h : LQ W base F b D) : Calls Try.prog 22 #[.pointer (some ⟨b, 0, none⟩)] W fun e W' => e = .returned (.int .i64 (D.L.length : Int)) ∧ Below W.heap.size W W' := by
  obtain ⟨vw, vr, A, B, rfl, q, i⟩ := h
  have hl := i.lens
  have h10 := i.len
  obtain ⟨A1, c1, e1⟩ := q.rw'.form
  obtain ⟨A2, c2, e2⟩ := q.rr.form
  have k2 := q.cel.cell (i := 2) rfl
  have k3 := q.cel.cell (i := 3) rfl
  rw [e1] at k2
  rw [e2] at k3
  rw [← hl] at h10 ⊢
  clear q i e1 e2 hl
  go_enter Try.func22, Try.ntmps22
  go_upto_region 1 with fail
  go_quiet ((go_at_call 24; exact Calls.quiet_of_same len_any))
  go_wp2
  go_ret
  exact ⟨by simp, ⟨rfl, rfl, rfl, Nat.le_refl _, fun _ _ => rfl⟩⟩

set_option maxHeartbeats 4000000 in
theorem qnow_any {F : Nat → Prop} (h : LQ W base F b D) : Calls Try.prog 21 #[.pointer (some ⟨b, 0, none⟩)] W fun e W' => e = .returned (.int .i64 D.tick) ∧ W' = W := by
  obtain ⟨vw, vr, A, B, rfl, q, i⟩ := h
  have k0 := q.cel.cell (i := 0) rfl
  clear q i
  go_enter Try.func21, Try.ntmps21
  go_wp2
  go_ret
  exact ⟨rfl, rfl⟩

end

end Du
end Go.Proofs.Ytpjoiepdcilcnaa
