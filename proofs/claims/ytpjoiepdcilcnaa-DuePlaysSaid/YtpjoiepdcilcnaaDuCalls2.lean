/- The landed queue's Put, Drop, Go: contracts; no condition but the ranges. -/
import Derived.Test.YtpjoiepdcilcnaaDuCalls
namespace Go.Proofs.Ytpjoiepdcilcnaa
namespace Du
open Go.RowKit Bk

section
variable {W W' : World} {base b : Nat} {F : Nat → Prop} {D : Ds} {now puts : Int} {vw vr : Value} {A B : List Tk}

theorem QAt.setPuts (h : QAt W base b now puts vw vr A B) (n : Int) : QAt (W.setCell ⟨b, 1, none⟩ (.int .i64 n)) base b now n vw vr A B :=
  ⟨h.cel.set (i := 1) (v := .int .i64 n), h.rw'.put h.fw, h.rr.put h.fr, h.fw, h.fr, h.un, h.bb, Nat.le_trans h.bs (by simp [World.setCell])⟩
theorem QAt.setNow (h : QAt W base b now puts vw vr A B) (n : Int) : QAt (W.setCell ⟨b, 0, none⟩ (.int .i64 n)) base b n puts vw vr A B :=
  ⟨h.cel.set (i := 0) (v := .int .i64 n), h.rw'.put h.fw, h.rr.put h.fr, h.fw, h.fr, h.un, h.bb, Nat.le_trans h.bs (by simp [World.setCell])⟩

theorem fd_put (W : World) (b o : Nat) (v : Value) : Fd (foot b vw vr) (foot b vw vr) W (W.setCell ⟨b, o, none⟩ v) :=
  have g := grow_put W b o v
  ⟨g.os, g.tape, g.output, g.size, fun k hk hn => g.block k hk (fun e => hn (.inl (Option.some.inj e))), fun _ hk => .inl hk⟩

theorem task_kept {W' : World} {v v' : Value} {r : Nat} {cs : List Value} {t : TypeId} (h : Cel W r t cs) (m : HM W W' b v v') (hb : r ≠ b) (hv : some r ≠ v.ownBlock) : Cel W' r t cs := (m.block r h.lt hb hv).trans h

set_option maxHeartbeats 4000000 in
set_option maxRecDepth 20000 in
theorem qput_any (h : LQ W base F b D) (a u i : Int) (hmany : D.many ≤ 4611686018427387904) : Calls Try.prog 10 #[.pointer (some ⟨b, 0, none⟩), .int .i64 a, .int .i64 u, .int .i64 i] W fun e W' => e = .returned (.tuple #[.int .i64 (putD D a u i).2.1, .int .i64 (putD D a u i).2.2]) ∧ QPost W base b F (putD D a u i).1 W' := by
  have HQ := Lib.hid h
  by_cases h1 : a < 0
  · unfold putD
    rw [if_pos (.inl h1)]
    clear h
    go_enter Try.func10, Try.ntmps10
    go_wp2_with fail
    go_ret2
    exact ⟨rfl, QPost.same HQ.out (Below.refl _ _)⟩
  · by_cases h2 : 1099511627776 < a
    · unfold putD
      rw [if_pos (.inr h2)]
      clear h
      go_enter Try.func10, Try.ntmps10
      go_wp2_with fail
      go_ret2
      exact ⟨rfl, QPost.same HQ.out (Below.refl _ _)⟩
    · have p1 : 0 ≤ a := by omega
      have p2 : a ≤ 1099511627776 := by omega
      have HL := Lib.hid (qlen_any h)
      have hlen : D.L.length ≤ 1024 := by obtain ⟨_, _, _, _, _, _, j⟩ := h; exact j.len
      by_cases h3 : 1024 ≤ D.L.length
      · unfold putD
        rw [if_neg (by omega), if_pos h3]
        have p3 : (1024 : Int) ≤ (D.L.length : Int) := by omega
        clear h h1 h2
        go_enter Try.func10, Try.ntmps10
        go_wp2_with fail
        refine HL.out.mono ?_
        rintro e W1 ⟨rfl, hb⟩
        have HB := Lib.hid hb
        clear hb HL
        go_wp2_with fail
        go_ret2
        exact ⟨rfl, QPost.same HQ.out HB.out⟩
      · have hput : putD D a u i = (⟨D.L ++ [⟨a, u, i, D.many + 1⟩], D.tick, D.many + 1⟩, D.many + 1, 0) := by unfold putD; rw [if_neg (by omega), if_neg h3]
        rw [hput]
        have p3 : (D.L.length : Int) < 1024 := by omega
        obtain ⟨vw, vr, A, B, rfl, q, j⟩ := h
        have HJ := Lib.hid (j.put (a := a) (u := u) (i := i) (by omega))
        have hm0 := j.many
        have hl := j.lens
        have HQA := Lib.hid q
        clear h1 h2 hput q j
        have hA10 : A.length ≤ 1024 := by omega
        have hB10 : B.length ≤ 1024 := by omega
        go_enter Try.func10, Try.ntmps10
        go_wp2_with fail
        refine HL.out.mono ?_
        rintro e W1 ⟨rfl, hb⟩
        have HB := Lib.hid hb
        have q1 := HQA.out.below hb
        have HQ1 := Lib.hid q1
        have k0 := q1.cel.cell (i := 0) rfl
        have k1 := q1.cel.cell (i := 1) rfl
        have f1 := q1.cel.free (i := 1)
        have hbl := q1.cel.lt
        have pm : D.many + 1 ≤ 9223372036854775807 := by omega
        have pm0 : 0 ≤ D.many + 1 := by omega
        clear hb HL q1 HQA
        go_upto_region 7 with fail
        have q2 := HQ1.out.setPuts (D.many + 1)
        have hal := (Below.refl (W1.setCell ⟨b, 1, none⟩ (.int .i64 (D.many + 1))).heap.size (W1.setCell ⟨b, 1, none⟩ (.int .i64 (D.many + 1)))).alloc (Nat.le_refl _) (.cells #[.int .i64 a, .int .i64 u, .int .i64 i, .int .i64 (D.many + 1)] 60)
        have hsz : (W1.setCell ⟨b, 1, none⟩ (.int .i64 (D.many + 1))).heap.size = W1.heap.size := by simp [World.setCell]
        have kt : Cel ((W1.setCell ⟨b, 1, none⟩ (.int .i64 (D.many + 1))).alloc (.cells #[.int .i64 a, .int .i64 u, .int .i64 i, .int .i64 (D.many + 1)] 60)) W1.heap.size 60 [.int .i64 a, .int .i64 u, .int .i64 i, .int .i64 (D.many + 1)] := by rw [← hsz]; exact (blk1 _ _).2
        have q3 := q2.below hal
        have hfd : Fd (foot b vw vr) (foot b vw vr) W ((W1.setCell ⟨b, 1, none⟩ (.int .i64 (D.many + 1))).alloc (.cells #[.int .i64 a, .int .i64 u, .int .i64 i, .int .i64 (D.many + 1)] 60)) := ((Fd.of HB.out).trans (fd_put W1 b 1 _)).trans (Fd.of hal)
        have hne : W1.heap.size ≠ b := by omega
        have hn1 : some W1.heap.size ≠ vw.ownBlock := fun e => by have := (HQ1.out.rw'.lt e.symm).1; omega
        have hn2 : some W1.heap.size ≠ vr.ownBlock := fun e => by have := (HQ1.out.rr.lt e.symm).1; omega
        generalize ((W1.setCell ⟨b, 1, none⟩ (.int .i64 (D.many + 1))).alloc (.cells #[.int .i64 a, .int .i64 u, .int .i64 i, .int .i64 (D.many + 1)] 60)) = W3 at kt q3 hfd ⊢
        clear hal q2 hsz f1 k1 k0 hbl
        generalize W1.heap.size = r at kt hne hn1 hn2 ⊢
        have HK := Lib.hid (And.intro kt (And.intro hne (And.intro hn1 hn2)))
        have HF := Lib.hid hfd
        have k0 := q3.cel.cell (i := 0) rfl
        have t0 := kt.cell (i := 0) rfl
        have t1 := kt.cell (i := 1) rfl
        have t2 := kt.cell (i := 2) rfl
        have t3 := kt.cell (i := 3) rfl
        have HQ3 := Lib.hid q3
        clear q3 hfd hne hn1 hn2 HQ1 HB kt
        by_cases h4 : D.tick < a
        · skip
          have HC := Lib.hid (fun n => hpushW_any ((HQ3.out.below (W' := W3.drewN n) ⟨rfl, rfl, rfl, Nat.le_refl _, fun _ _ => rfl⟩).w) ⟨a, u, i, D.many + 1⟩ (by omega) HQ3.out.bs)
          unfold tkV at HC
          have HJ2 := Lib.hid (HJ.out.1 h4)
          go_upto_region 8 with fail
          go_region_with (first
            | (refine (HC.out 1).mono ?_
               rintro e W4 ⟨rfl, v', h4, m4⟩
               have m5 : HM W3 W4 b vw v' := ⟨m4.os, m4.tape, m4.output, m4.size, m4.block, m4.own⟩
               have kt4 := task_kept HK.out.1 m5 HK.out.2.1 HK.out.2.2.1
               have t4 := kt4.cell (i := 3) rfl
               have HZ := Lib.hid (HQ3.out.actW h4 m5)
               clear h4 m4 kt4 m5))
          all_goals
            go_wp2
            go_ret2
            exact ⟨rfl, _, ⟨v', vr, _, B, rfl, HZ.out.1, HJ2.out⟩, HF.out.trans HZ.out.2⟩
        · replace h4 : a ≤ D.tick := by omega
          have HC := Lib.hid (fun n => hpushR_any ((HQ3.out.below (W' := W3.drewN n) ⟨rfl, rfl, rfl, Nat.le_refl _, fun _ _ => rfl⟩).r) ⟨a, u, i, D.many + 1⟩ (by omega) HQ3.out.bs)
          unfold tkV at HC
          have HJ2 := Lib.hid (HJ.out.2 h4)
          go_upto_region 9 with fail
          go_region_with (first
            | (refine (HC.out 1).mono ?_
               rintro e W4 ⟨rfl, v', h4, m4⟩
               have m5 : HM W3 W4 b vr v' := ⟨m4.os, m4.tape, m4.output, m4.size, m4.block, m4.own⟩
               have kt4 := task_kept HK.out.1 m5 HK.out.2.1 HK.out.2.2.2
               have t4 := kt4.cell (i := 3) rfl
               have HZ := Lib.hid (HQ3.out.actR h4 m5)
               clear h4 m4 kt4 m5))
          all_goals
            go_wp2
            go_ret2
            exact ⟨rfl, _, ⟨vw, v', A, _, rfl, HZ.out.1, HJ2.out⟩, HF.out.trans HZ.out.2⟩

set_option maxHeartbeats 4000000 in
set_option maxRecDepth 20000 in
theorem qdrop_any (h : LQ W base F b D) (n : Int) : Calls Try.prog 15 #[.pointer (some ⟨b, 0, none⟩), .int .i64 n] W fun e W' => e = .returned (.int .i64 (dropD D n).2) ∧ QPost W base b F (dropD D n).1 W' := by
  have hh := h
  obtain ⟨vw, vr, A, B, rfl, q, j⟩ := h
  have hl := j.lens
  have h10 := j.len
  have HQ := Lib.hid hh
  have HQA := Lib.hid q
  have HJ := Lib.hid j
  have HP := Lib.hid (place_any q.rw' (by omega) n)
  have k2 := q.cel.cell (i := 2) rfl
  clear hh q j
  go_enter Try.func15, Try.ntmps15
  go_wp2_with fail
  refine HP.out.mono ?_
  rintro e W1 ⟨r, rfl, hb1, hr⟩
  rcases hr with ⟨i, hi, rfl, hn⟩ | ⟨rfl, hno⟩
  · obtain ⟨m, hm⟩ : ∃ m, A.length = m + 1 := ⟨A.length - 1, by omega⟩
    obtain ⟨D', hD, ht, hmy, hi'⟩ := HJ.out.drop_w hm (by omega) hn
    have HD := Lib.hid hD
    have q1 := HQA.out.below hb1
    have HC := Lib.hid (hremW_any q1.w i hm (by omega) (by omega))
    have HQ1 := Lib.hid (And.intro q1 (And.intro hi' (And.intro ht hmy)))
    have HF := Lib.hid (Fd.of (F := foot b vw vr) hb1)
    have p1 : (0 : Int) ≤ (i : Int) := by omega
    clear hb1 HP k2 hD ht hmy hi' q1 hn HQ
    go_wp2_with fail
    refine HC.out.mono ?_
    rintro e W2 ⟨⟨z, rfl⟩, v', h2, m2⟩
    have HZ := Lib.hid (HQ1.out.1.actW h2 m2)
    clear h2 m2 HC
    go_wp2_with fail
    go_ret
    rw [HD.out]
    refine ⟨rfl, _, ⟨v', vr, _, B, rfl, ?_, HQ1.out.2.1⟩, HF.out.trans HZ.out.2⟩
    rw [HQ1.out.2.2.1, HQ1.out.2.2.2]
    exact HZ.out.1
  · have q1 := HQA.out.below hb1
    have HP2 := Lib.hid (place_any q1.rr (by omega) n)
    have k3 := q1.cel.cell (i := 3) rfl
    have HB1 := Lib.hid hb1
    have HN := Lib.hid hno
    clear hb1 HP k2 hno q1
    go_wp2_with fail
    refine HP2.out.mono ?_
    rintro e W2 ⟨r, rfl, hb2, hr⟩
    rcases hr with ⟨i, hi, rfl, hn⟩ | ⟨rfl, hno⟩
    · obtain ⟨m, hm⟩ : ∃ m, B.length = m + 1 := ⟨B.length - 1, by omega⟩
      obtain ⟨D', hD, ht, hmy, hi'⟩ := HJ.out.drop_r hm (by omega) hn
      have HD := Lib.hid hD
      have hb3 := HB1.out.trans (hb2.mono HB1.out.size)
      have q1 := HQA.out.below hb3
      have HC := Lib.hid (hremR_any q1.r i hm (by omega) (by omega))
      have HQ1 := Lib.hid (And.intro q1 (And.intro hi' (And.intro ht hmy)))
      have HF := Lib.hid (Fd.of (F := foot b vw vr) hb3)
      have p1 : (0 : Int) ≤ (i : Int) := by omega
      clear hb2 hb3 HP2 k3 hD ht hmy hi' q1 hn HQ HB1 HN
      go_wp2_with fail
      refine HC.out.mono ?_
      rintro e W3 ⟨⟨z, rfl⟩, v', h2, m2⟩
      have HZ := Lib.hid (HQ1.out.1.actR h2 m2)
      clear h2 m2 HC
      go_wp2_with fail
      go_ret
      rw [HD.out]
      refine ⟨rfl, _, ⟨vw, v', A, _, rfl, ?_, HQ1.out.2.1⟩, HF.out.trans HZ.out.2⟩
      rw [HQ1.out.2.2.1, HQ1.out.2.2.2]
      exact HZ.out.1
    · have HD := Lib.hid (HJ.out.drop_none HN.out hno)
      have HB := Lib.hid (HB1.out.trans (hb2.mono HB1.out.size))
      clear hb2 HB1 HP2 k3 hno HN
      go_wp2_with fail
      go_ret
      rw [HD.out]
      exact ⟨rfl, QPost.same HQ.out HB.out⟩

/-- how many wait -/
def waitN (b : Nat) (w : World) : Nat := match w.cell? ⟨b, 2, none⟩ with | some (.slice _ n _) => n | _ => 0

theorem QAt.waitN_eq (h : QAt W base b now puts vw vr A B) : waitN b W = A.length := by
  unfold waitN
  rw [h.cel.cell (i := 2) rfl]
  obtain ⟨A1, c1, e⟩ := h.rw'.form
  rw [e]

set_option maxHeartbeats 4000000 in
set_option maxRecDepth 20000 in
theorem qgo_any (h : LQ W base F b D) (t : Int) : Calls Try.prog 17 #[.pointer (some ⟨b, 0, none⟩), .int .i64 t] W fun e W' => e = .returned (.int .i64 (goD D t).2) ∧ QPost W base b F (goD D t).1 W' := by
  have hh := h
  obtain ⟨vw, vr, A, B, rfl, q, j⟩ := h
  have HQ := Lib.hid hh
  have k0 := q.cel.cell (i := 0) rfl
  by_cases h1 : t < D.tick
  · unfold goD
    rw [if_pos (.inl h1)]
    clear hh q j
    go_enter Try.func17, Try.ntmps17
    go_wp2_with fail
    go_ret
    exact ⟨rfl, QPost.same HQ.out (Below.refl _ _)⟩
  · by_cases h2 : 1099511627776 < t
    · unfold goD
      rw [if_pos (.inr h2)]
      have p1 : D.tick ≤ t := by omega
      clear hh q j h1
      go_enter Try.func17, Try.ntmps17
      go_wp2_with fail
      go_ret
      exact ⟨rfl, QPost.same HQ.out (Below.refl _ _)⟩
    · have p1 : D.tick ≤ t := by omega
      have p2 : t ≤ 1099511627776 := by omega
      unfold goD
      rw [if_neg (by omega)]
      have f0 := q.cel.free (i := 0)
      have q1 := q.setNow t
      have HA := Lib.hid (And.intro q1 (And.intro (j.go_start p1) j))
      have h10 := j.len
      have hl := j.lens
      clear hh q j h1 h2 q1
      go_enter Try.func17, Try.ntmps17
      go_wp2_with fail
      go_loopw [46] (fun _ wr => ∃ (vw' vr' : Value) (A' B' : List Tk), Hid (QAt wr base b t D.many vw' vr' A' B') ∧ Hid (GoI D t A' B') ∧ Hid (Fd (foot b vw vr) (foot b vw' vr') W wr)) (fun _ wr => waitN b wr)
      case atStart => exact ⟨vw, vr, A, B, HA.out.1, HA.out.2.1, fd_put W b 0 _⟩
      case round =>
        obtain ⟨vw', vr', A', B', hq, hg, hf⟩ := hrel
        have hA10 : A'.length + B'.length ≤ 1024 := by have := hg.out.perm.length_eq; rw [List.length_append] at this; omega
        have k2 := hq.out.cel.cell (i := 2) rfl
        cases hA : A'.length with
        | zero =>
          obtain ⟨A1, c1, e1⟩ := hq.out.rw'.form
          rw [e1, hA] at k2
          clear e1
          go_wp2_with fail
          refine len_any.mono ?_
          rintro e W2 ⟨rfl, rfl⟩
          go_wp2_with fail
          go_ret
          exact ⟨rfl, _, ⟨vw', vr', A', B', rfl, hq.out, hg.out.over HA.out.2.2 p1 p2 (.inl (List.eq_nil_of_length_eq_zero hA))⟩, hf.out⟩
        | succ n =>
          obtain ⟨p, cap, rest, e1, hbp, hc, h1, h2, h3⟩ := hq.out.rw'.blk (by omega)
          have e0 : wr.cell? ⟨p, 0, none⟩ = some (.int .i64 (g A' 0).a) := cell_of hc (k := 0) (by omega) (j := 0) (by omega) rfl
          have hm : cap < 9223372036854775808 := by simp only [maxLen] at h2; omega
          rw [e1, hA] at k2
          rw [hA] at h1
          clear hc h2 h3 hbp
          have p3 : (0 : Int) < (n : Int) + 1 := by omega
          by_cases h0 : (g A' 0).a ≤ t
          · have HF1 := Lib.hid (fun k => firstW_any ((hq.out.below (W' := wr.drewN k) ⟨rfl, rfl, rfl, Nat.le_refl _, fun _ _ => rfl⟩).w) hA (by omega))
            unfold tkV at HF1
            go_wp2_with fail
            refine len_any.mono ?_
            rintro e W2 ⟨rfl, rfl⟩
            go_upto_region 5 with fail
            go_region_with (first
              | (refine (HF1.out 1).mono ?_
                 rintro e W3 ⟨rfl, v3, h3, m3⟩
                 have m3' : HM W2 W3 b vw' v3 := ⟨m3.os, m3.tape, m3.output, m3.size, m3.block, m3.own⟩
                 have q3 := hq.out.actW h3 m3'
                 have HQ3 := Lib.hid q3
                 have HP3 := Lib.hid (hpushR_any q3.1.r (g A' 0) (by omega) q3.1.bs)
                 unfold tkV at HP3
                 clear h3 m3 m3' q3)
              | (refine HP3.out.mono ?_
                 rintro e W4 ⟨rfl, v4, h4, m4⟩
                 have HQ4 := Lib.hid (HQ3.out.1.actR h4 m4)
                 clear h4 m4))
            all_goals
              go_wp2_with fail
              go_roundw
              case rel => exact ⟨v3, v4, _, _, HQ4.out.1, hg.out.step hA h0, hf.out.trans (HQ3.out.2.trans HQ4.out.2)⟩
              case measure =>
                rw [HQ4.out.1.waitN_eq, hq.out.waitN_eq, List.length_take, pop_len]
                omega
          · go_wp2_with fail
            refine len_any.mono ?_
            rintro e W2 ⟨rfl, rfl⟩
            go_wp2_with fail
            go_ret
            exact ⟨rfl, _, ⟨vw', vr', A', B', rfl, hq.out, hg.out.over HA.out.2.2 p1 p2 (.inr (by omega))⟩, hf.out⟩

end

end Du
end Go.Proofs.Ytpjoiepdcilcnaa
