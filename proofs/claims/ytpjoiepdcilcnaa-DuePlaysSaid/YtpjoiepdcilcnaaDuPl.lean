/- Both queues under one act: what the law's calls leave; no condition but the ranges. -/
import Derived.Test.YtpjoiepdcilcnaaDuRef3
namespace Go.Proofs.Ytpjoiepdcilcnaa
namespace Du
open Go.RowKit Bk

/-- both queues; S: blocks beside them -/
structure T2 (w0 W : World) (S : Nat → Prop) (b r : Nat) (D E : Ds) : Prop where
  q : ∃ F v, LQ W w0.heap.size F b D ∧ RQ W w0.heap.size r v E ∧ ¬ F r ∧ (∀ p, v.ownBlock = some p → ¬ F p ∧ ¬ S p) ∧ (∀ k, S k → k < W.heap.size ∧ ¬ F k ∧ k ≠ r)
  bel : Below w0.heap.size w0 W

section
variable {w0 W W' : World} {S : Nat → Prop} {b r : Nat} {D E D' E' : Ds}

theorem T2.below (h : T2 w0 W S b r D E) (hb : Below W.heap.size W W') : T2 w0 W' S b r D E := by
  obtain ⟨⟨F, v, h1, h2, h3, h4, h5⟩, h6⟩ := h
  exact ⟨⟨F, v, h1.below hb, h2.below hb, h3, h4, fun k hk => ⟨Nat.lt_of_lt_of_le (h5 k hk).1 hb.size, (h5 k hk).2⟩⟩, h6.trans (hb.mono h6.size)⟩

theorem T2.beside (h : T2 w0 W S b r D E) {p : Nat} {o : Obj} (hp : p = W.heap.size) : T2 w0 (W.alloc o) (fun k => S k ∨ k = p) b r D E := by
  obtain ⟨⟨F, v, h1, h2, h3, h4, h5⟩, h6⟩ := h
  have hb := (Below.refl W.heap.size W).alloc (Nat.le_refl _) o
  refine ⟨⟨F, v, h1.below hb, h2.below hb, h3, fun q hq => ⟨(h4 q hq).1, fun hs => hs.elim (h4 q hq).2 (fun e => by have := (h2.row.lt hq).1; omega)⟩, fun k hk => ?_⟩, h6.trans (hb.mono h6.size)⟩
  rcases hk with hk | rfl
  · exact ⟨Nat.lt_of_lt_of_le (h5 k hk).1 hb.size, (h5 k hk).2⟩
  · exact ⟨by simp; omega, fun hf => by have := (h1.lt _ hf).1; omega, fun e => by have := h2.cel.lt; omega⟩

theorem T2.aside {S' : Nat → Prop} (h : T2 w0 W S b r D E) (hs : ∀ k, S' k → S k) : T2 w0 W S' b r D E := by
  obtain ⟨⟨F, v, h1, h2, h3, h4, h5⟩, h6⟩ := h
  exact ⟨⟨F, v, h1, h2, h3, fun q hq => ⟨(h4 q hq).1, fun k => (h4 q hq).2 (hs q k)⟩, fun k hk => h5 k (hs k hk)⟩, h6⟩

/-- a call of the landed queue -/
theorem T2.actL (h1 : ∃ F v, (LQ W w0.heap.size F b D ∧ RQ W w0.heap.size r v E ∧ ¬ F r ∧ (∀ p, v.ownBlock = some p → ¬ F p ∧ ¬ S p) ∧ (∀ k, S k → k < W.heap.size ∧ ¬ F k ∧ k ≠ r)) ∧ QPost W w0.heap.size b F D' W') (h6 : Below w0.heap.size w0 W) : T2 w0 W' S b r D' E ∧ ∀ k, S k → W'.heap[k]? = W.heap[k]? := by
  obtain ⟨F, v, ⟨h1, h2, h3, h4, h5⟩, F', h7, h8⟩ := h1
  have keep : ∀ k, k < W.heap.size → ¬ F k → ¬ F' k := fun k hk hn hf => (h8.foot k hf).elim hn (fun hs => by omega)
  refine ⟨⟨⟨F', v, h7, ⟨(h8.block r h2.cel.lt h3).trans h2.cel, h2.row.same (fun p hp => h8.block p (h2.row.lt hp).1 (h4 p hp).1), h2.far, h2.rb, Nat.le_trans h2.bs h8.size⟩, keep r h2.cel.lt h3, fun p hp => ⟨keep p (h2.row.lt hp).1 (h4 p hp).1, (h4 p hp).2⟩, fun k hk => ⟨Nat.lt_of_lt_of_le (h5 k hk).1 h8.size, keep k (h5 k hk).1 (h5 k hk).2.1, (h5 k hk).2.2⟩⟩, h6.trans (h8.below (fun k hk => (h1.lt k hk).2) h6.size)⟩, fun k hk => h8.block k (h5 k hk).1 (h5 k hk).2.1⟩

/-- a call of the document's queue -/
theorem T2.actR {F : Nat → Prop} {v : Value} (h1 : LQ W w0.heap.size F b D) (h2 : RQ W w0.heap.size r v E) (h3 : ¬ F r) (h4 : ∀ p, v.ownBlock = some p → ¬ F p ∧ ¬ S p) (h5 : ∀ k, S k → k < W.heap.size ∧ ¬ F k ∧ k ≠ r) (h6 : Below w0.heap.size w0 W) (hp : RP W w0.heap.size r v E' W') : T2 w0 W' S b r D E' ∧ ∀ k, S k → W'.heap[k]? = W.heap[k]? := by
  obtain ⟨v', h7, h8⟩ := hp
  have hFr : ∀ k, F k → k ≠ r := fun k hk e => h3 (e ▸ hk)
  refine ⟨⟨⟨F, v', h1.kept h8.size (fun k hk => h8.block k (h1.lt k hk).1 (hFr k hk)), h7, h3, fun p hp => ?_, fun k hk => ⟨Nat.lt_of_lt_of_le (h5 k hk).1 h8.size, (h5 k hk).2⟩⟩, h6.trans ⟨h8.os, h8.tape, h8.output, h8.size, fun k hk => h8.block k (Nat.lt_of_lt_of_le hk h6.size) (fun e => by have := h2.rb; omega)⟩⟩, fun k hk => h8.block k (h5 k hk).1 (h5 k hk).2.2⟩
  rcases h8.own p hp with e | e
  · exact h4 p e
  · exact ⟨fun hf => by have := (h1.lt p hf).1; omega, fun hs => by have := (h5 p hs).1; omega⟩

theorem tput (h : T2 w0 W S b r D E) (a u i : Int) (hm : D.many ≤ 4611686018427387904) : Calls Try.prog 10 #[.pointer (some ⟨b, 0, none⟩), .int .i64 a, .int .i64 u, .int .i64 i] W fun e W' => e = .returned (.tuple #[.int .i64 (putD D a u i).2.1, .int .i64 (putD D a u i).2.2]) ∧ T2 w0 W' S b r (putD D a u i).1 E ∧ ∀ k, S k → W'.heap[k]? = W.heap[k]? := by
  obtain ⟨⟨F, v, h1, h2⟩, h6⟩ := h
  refine (qput_any h1 a u i hm).mono ?_
  rintro e W' ⟨rfl, hp⟩
  exact ⟨rfl, T2.actL ⟨F, v, ⟨h1, h2⟩, hp⟩ h6⟩
theorem ttake (h : T2 w0 W S b r D E) : Calls Try.prog 13 #[.pointer (some ⟨b, 0, none⟩)] W fun e W' => e = .returned (.tuple #[.int .i64 (takeD D).2.1, .bool (takeD D).2.2]) ∧ T2 w0 W' S b r (takeD D).1 E ∧ ∀ k, S k → W'.heap[k]? = W.heap[k]? := by
  obtain ⟨⟨F, v, h1, h2⟩, h6⟩ := h
  refine (qtake_any h1).mono ?_
  rintro e W' ⟨rfl, hp⟩
  exact ⟨rfl, T2.actL ⟨F, v, ⟨h1, h2⟩, hp⟩ h6⟩
theorem tdrop (h : T2 w0 W S b r D E) (n : Int) : Calls Try.prog 15 #[.pointer (some ⟨b, 0, none⟩), .int .i64 n] W fun e W' => e = .returned (.int .i64 (dropD D n).2) ∧ T2 w0 W' S b r (dropD D n).1 E ∧ ∀ k, S k → W'.heap[k]? = W.heap[k]? := by
  obtain ⟨⟨F, v, h1, h2⟩, h6⟩ := h
  refine (qdrop_any h1 n).mono ?_
  rintro e W' ⟨rfl, hp⟩
  exact ⟨rfl, T2.actL ⟨F, v, ⟨h1, h2⟩, hp⟩ h6⟩
theorem tgo (h : T2 w0 W S b r D E) (t : Int) : Calls Try.prog 17 #[.pointer (some ⟨b, 0, none⟩), .int .i64 t] W fun e W' => e = .returned (.int .i64 (goD D t).2) ∧ T2 w0 W' S b r (goD D t).1 E ∧ ∀ k, S k → W'.heap[k]? = W.heap[k]? := by
  obtain ⟨⟨F, v, h1, h2⟩, h6⟩ := h
  refine (qgo_any h1 t).mono ?_
  rintro e W' ⟨rfl, hp⟩
  exact ⟨rfl, T2.actL ⟨F, v, ⟨h1, h2⟩, hp⟩ h6⟩
theorem tnext (h : T2 w0 W S b r D E) : Calls Try.prog 19 #[.pointer (some ⟨b, 0, none⟩)] W fun e W' => e = .returned (.tuple #[.int .i64 (nextD D).1, .bool (nextD D).2]) ∧ Below W.heap.size W W' := by
  obtain ⟨⟨F, v, h1, h2⟩, h6⟩ := h
  exact qnext_any h1

theorem uput (h : T2 w0 W S b r D E) (a u i : Int) (h0 : 0 ≤ E.many) (hm : E.many ≤ 4611686018427387904) (h10 : E.L.length ≤ 1024) : Calls Try.prog 12 #[.pointer (some ⟨r, 0, none⟩), .int .i64 a, .int .i64 u, .int .i64 i] W fun e W' => e = .returned (.tuple #[.int .i64 (putD E a u i).2.1, .int .i64 (putD E a u i).2.2]) ∧ T2 w0 W' S b r D (putD E a u i).1 ∧ ∀ k, S k → W'.heap[k]? = W.heap[k]? := by
  obtain ⟨⟨F, v, h1, h2, h3, h4, h5⟩, h6⟩ := h
  refine (rput_any h2 a u i h0 hm h10).mono ?_
  rintro e W' ⟨rfl, hp⟩
  exact ⟨rfl, T2.actR h1 h2 h3 h4 h5 h6 hp⟩
theorem utake (h : T2 w0 W S b r D E) (h10 : E.L.length ≤ 1024) : Calls Try.prog 14 #[.pointer (some ⟨r, 0, none⟩)] W fun e W' => e = .returned (.tuple #[.int .i64 (takeD E).2.1, .bool (takeD E).2.2]) ∧ T2 w0 W' S b r D (takeD E).1 ∧ ∀ k, S k → W'.heap[k]? = W.heap[k]? := by
  obtain ⟨⟨F, v, h1, h2, h3, h4, h5⟩, h6⟩ := h
  refine (rtake_any h2 h10).mono ?_
  rintro e W' ⟨rfl, hp⟩
  exact ⟨rfl, T2.actR h1 h2 h3 h4 h5 h6 hp⟩
theorem udrop (h : T2 w0 W S b r D E) (n : Int) (h10 : E.L.length ≤ 1024) : Calls Try.prog 16 #[.pointer (some ⟨r, 0, none⟩), .int .i64 n] W fun e W' => e = .returned (.int .i64 (dropD E n).2) ∧ T2 w0 W' S b r D (dropD E n).1 ∧ ∀ k, S k → W'.heap[k]? = W.heap[k]? := by
  obtain ⟨⟨F, v, h1, h2, h3, h4, h5⟩, h6⟩ := h
  refine (rdrop_any h2 n (by omega)).mono ?_
  rintro e W' ⟨rfl, hp⟩
  exact ⟨rfl, T2.actR h1 h2 h3 h4 h5 h6 hp⟩
theorem ugo (h : T2 w0 W S b r D E) (t : Int) : Calls Try.prog 18 #[.pointer (some ⟨r, 0, none⟩), .int .i64 t] W fun e W' => e = .returned (.int .i64 (goD E t).2) ∧ T2 w0 W' S b r D (goD E t).1 ∧ ∀ k, S k → W'.heap[k]? = W.heap[k]? := by
  obtain ⟨⟨F, v, h1, h2, h3, h4, h5⟩, h6⟩ := h
  refine (rgo_any h2 t).mono ?_
  rintro e W' ⟨rfl, hp⟩
  exact ⟨rfl, T2.actR h1 h2 h3 h4 h5 h6 hp⟩
theorem unext (h : T2 w0 W S b r D E) (h10 : E.L.length ≤ 1024) : Calls Try.prog 20 #[.pointer (some ⟨r, 0, none⟩)] W fun e W' => e = .returned (.tuple #[.int .i64 (nextD E).1, .bool (nextD E).2]) ∧ W' = W := by
  obtain ⟨⟨F, v, h1, h2, h3⟩, h6⟩ := h
  exact rnext_any h2 h10
theorem T2.tick (h : T2 w0 W S b r D E) : W.cell? ⟨r, 1, none⟩ = some (.int .i64 E.tick) := by
  obtain ⟨⟨F, v, h1, h2, h3⟩, h6⟩ := h
  exact h2.cel.cell (i := 1) rfl
theorem T2.list (h : T2 w0 W S b r D E) : ∃ A c, W.cell? ⟨r, 0, none⟩ = some (.slice A E.L.length c) := by
  obtain ⟨⟨F, v, h1, h2, h3⟩, h6⟩ := h
  obtain ⟨A, c, e⟩ := h2.row.form
  exact ⟨A, c, by rw [← e]; exact h2.cel.cell (i := 0) rfl⟩
theorem T2.len (h : T2 w0 W S b r D E) : D.L.length ≤ 1024 ∧ 0 ≤ D.many ∧ 0 ≤ D.tick ∧ D.tick ≤ 1099511627776 := by
  obtain ⟨⟨F, v, h1, h2, h3⟩, h6⟩ := h
  obtain ⟨_, _, _, _, _, _, i⟩ := h1
  exact ⟨i.len, i.many, i.tick⟩

end

/-- an act's tick -/
def atV (x : Ac) (now : Int) : Int := if x.far = true ∨ 2199023255552 < x.a ∨ x.a < -2199023255552 then x.a else now + x.a

set_option maxHeartbeats 2000000 in
theorem at_any (x : Ac) (now : Int) (hn : 0 ≤ now ∧ now ≤ 1099511627776) (W : World) : Calls Try.prog 11 #[.agg #[.int .i64 x.k, .int .i64 x.a, .int .i64 x.u, .int .i64 x.i, .bool x.far], .int .i64 now] W fun e W' => e = .returned (.int .i64 (atV x now)) ∧ Below W.heap.size W W' := by
  have HB := Lib.hid ((Below.refl W.heap.size W).alloc (Nat.le_refl _) (.cells #[.int .i64 x.k, .int .i64 x.a, .int .i64 x.u, .int .i64 x.i, .bool x.far] 31))
  have walk : ∀ t, (x.far = true ∨ 2199023255552 < x.a ∨ x.a < -2199023255552) → t = x.a → atV x now = t := fun t h e => by unfold atV; rw [if_pos h, e]
  cases hf : x.far with
  | true =>
    rw [walk x.a (.inl hf) rfl]
    rw [hf] at HB
    clear walk
    go_enter Try.func11, Try.ntmps11
    go_wp2
    go_ret
    exact ⟨rfl, HB.out⟩
  | false =>
    rw [hf] at HB
    by_cases h1 : 2199023255552 < x.a
    · rw [walk x.a (.inr (.inl h1)) rfl]
      clear walk
      go_enter Try.func11, Try.ntmps11
      go_wp2
      go_ret
      exact ⟨rfl, HB.out⟩
    · by_cases h2 : x.a < -2199023255552
      · rw [walk x.a (.inr (.inr h2)) rfl]
        have p1 : x.a ≤ 2199023255552 := by omega
        clear walk
        go_enter Try.func11, Try.ntmps11
        go_wp2
        go_ret
        exact ⟨rfl, HB.out⟩
      · have p1 : x.a ≤ 2199023255552 := by omega
        have p2 : -2199023255552 ≤ x.a := by omega
        have he : atV x now = now + x.a := by unfold atV; rw [if_neg (by rw [hf]; simp; omega)]
        rw [he]
        clear walk he h1 h2
        go_enter Try.func11, Try.ntmps11
        go_wp2
        go_ret
        exact ⟨rfl, HB.out⟩

end Du
end Go.Proofs.Ytpjoiepdcilcnaa
