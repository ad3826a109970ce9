/- The landed queue's Put, Take, Drop, Go, Next: contracts; no condition but the ranges. -/
import Derived.Test.YtpjoiepdcilcnaaDuFind
namespace Go.Proofs.Ytpjoiepdcilcnaa
namespace Du
open Go.RowKit Bk

section
variable {W W' : World} {base b : Nat} {F : Nat → Prop} {D : Ds}

/-- behind a call -/
def QPost (W : World) (base b : Nat) (F : Nat → Prop) (D' : Ds) (W' : World) : Prop := ∃ F', LQ W' base F' b D' ∧ Fd F F' W W'

theorem QPost.same (h : LQ W base F b D) (hb : Below W.heap.size W W') : QPost W base b F D W' := ⟨F, h.below hb, Fd.of hb⟩

theorem fd_cells {vw vr vw' vr' : Value} {X : World} (h : Fd (foot b vw vr) (foot b vw' vr') W X) {W2 : World} (hg : X.grownBy W2 (some b)) : Fd (foot b vw vr) (foot b vw' vr') W W2 :=
  h.trans ⟨hg.os, hg.tape, hg.output, hg.size, fun k hk hn => hg.block k hk (fun e => hn (.inl (Option.some.inj e))), fun _ hk => .inl hk⟩

set_option maxHeartbeats 4000000 in
theorem qnext_any (h : LQ W base F b D) : Calls Try.prog 19 #[.pointer (some ⟨b, 0, none⟩)] W fun e W' => e = .returned (.tuple #[.int .i64 (nextD D).1, .bool (nextD D).2]) ∧ Below W.heap.size W W' := by
  obtain ⟨vw, vr, A, B, rfl, q, i⟩ := h
  have hl := i.lens
  have h10 := i.len
  obtain ⟨A1, c1, e1⟩ := q.rw'.form
  obtain ⟨A2, c2, e2⟩ := q.rr.form
  have k2 := q.cel.cell (i := 2) rfl
  have k3 := q.cel.cell (i := 3) rfl
  cases hB : B with
  | cons x r =>
    have HE := Lib.hid (earliest_any (x := x) (r := r) (base := base) (v := vr) (W := W) (hB ▸ q.rr) (by rw [← hB]; omega))
    rw [i.next_r hB]
    have hb1 : 0 < B.length := by rw [hB]; simp
    have p1 : (0 : Int) < (B.length : Int) := by omega
    rw [e2] at k3 HE
    clear q i e1 e2 k2 hB hl
    go_enter Try.func19, Try.ntmps19
    go_wp2_with fail
    refine len_any.mono ?_
    rintro e W' ⟨rfl, rfl⟩
    go_wp2_with fail
    refine HE.out.mono ?_
    rintro e W2 ⟨rfl, hb⟩
    have HB := Lib.hid hb
    clear hb HE
    go_wp2_with fail
    go_ret2
    exact ⟨rfl, HB.out⟩
  | nil =>
    subst hB
    cases hA : A with
    | nil =>
      subst hA
      rw [i.next_none]
      rw [e1] at k2
      rw [e2] at k3
      clear q i e1 e2 hl
      simp only [List.length_nil] at k2 k3
      go_enter Try.func19, Try.ntmps19
      go_wp2_with fail
      refine len_any.mono ?_
      rintro e W' ⟨rfl, rfl⟩
      go_wp2_with fail
      refine len_any.mono ?_
      rintro e W' ⟨rfl, rfl⟩
      go_wp2_with fail
      go_ret2
      exact ⟨rfl, Below.refl _ _⟩
    | cons y s =>
      have hl1 : 0 < A.length := by rw [hA]; simp
      obtain ⟨p, cap, rest, e3, hbp, hc, h1, h2, h3⟩ := q.rw'.blk hl1
      have e0 : W.cell? ⟨p, 0, none⟩ = some (.int .i64 (g A 0).a) := cell_of hc (k := 0) hl1 (j := 0) (by omega) rfl
      rw [i.next_w hl1]
      rw [e3] at k2
      rw [e2] at k3
      have p1 : (0 : Int) < (A.length : Int) := by omega
      have hm : cap < 9223372036854775808 := by simp only [maxLen] at h2; omega
      clear q i e1 e2 e3 hl hA hc h2 h3
      simp only [List.length_nil] at k3
      go_enter Try.func19, Try.ntmps19
      go_wp2_with fail
      refine len_any.mono ?_
      rintro e W' ⟨rfl, rfl⟩
      go_wp2_with fail
      refine len_any.mono ?_
      rintro e W' ⟨rfl, rfl⟩
      go_wp2_with fail
      go_ret2
      exact ⟨rfl, Below.refl _ _⟩

set_option maxHeartbeats 4000000 in
theorem qtake_any (h : LQ W base F b D) : Calls Try.prog 13 #[.pointer (some ⟨b, 0, none⟩)] W fun e W' => e = .returned (.tuple #[.int .i64 (takeD D).2.1, .bool (takeD D).2.2]) ∧ QPost W base b F (takeD D).1 W' := by
  have hh := h
  obtain ⟨vw, vr, A, B, rfl, q, i⟩ := h
  have hl := i.lens
  have h10 := i.len
  obtain ⟨A2, c2, e2⟩ := q.rr.form
  have k3 := q.cel.cell (i := 3) rfl
  cases hB : B.length with
  | zero =>
    obtain rfl := List.eq_nil_of_length_eq_zero hB
    rw [i.take_none]
    have HQ := Lib.hid hh
    rw [e2] at k3
    simp only [List.length_nil] at k3
    clear q i e2 hl hh hB
    go_enter Try.func13, Try.ntmps13
    go_wp2_with fail
    refine len_any.mono ?_
    rintro e W' ⟨rfl, rfl⟩
    go_wp2_with fail
    go_ret2
    exact ⟨rfl, QPost.same HQ.out (Below.refl _ _)⟩
  | succ n =>
    obtain ⟨D', hD, ht, hm, hi⟩ := i.take_some hB
    rw [hD]
    have HC := Lib.hid (firstR_any q.r hB (by omega))
    have HQ := Lib.hid (And.intro q (And.intro hi (And.intro ht hm)))
    have p1 : (0 : Int) < (B.length : Int) := by omega
    rw [e2] at k3
    clear q i hl hh hi ht hm hD e2
    rw [hB] at k3 p1
    clear hB
    go_enter Try.func13, Try.ntmps13
    go_wp2_with fail
    refine len_any.mono ?_
    rintro e W' ⟨rfl, rfl⟩
    go_wp2_with fail
    refine HC.out.mono ?_
    rintro e W2 ⟨rfl, v', h2, m2⟩
    have hz := HQ.out.1.actR (v' := v') (l' := (popM ltR B n).take n) h2 m2
    have HZ := Lib.hid hz
    clear HC h2 m2 hz
    unfold tkV
    have hfd : ∀ V : World, (Instr.field 60 (.agg #[.int .i64 (g B 0).a, .int .i64 (g B 0).u, .int .i64 (g B 0).i, .int .i64 (g B 0).n]) 2).run Try.prog V = .ok (.int .i64 (g B 0).i) V := fun _ => rfl
    go_wp2_with fail
    go_ret2
    refine ⟨rfl, _, ⟨vw, v', A, _, rfl, ?_, HQ.out.2.1⟩, HZ.out.2⟩
    rw [HQ.out.2.2.1, HQ.out.2.2.2]
    exact HZ.out.1

end

end Du
end Go.Proofs.Ytpjoiepdcilcnaa
