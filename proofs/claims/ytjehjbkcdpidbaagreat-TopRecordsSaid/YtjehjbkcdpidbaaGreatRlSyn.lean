/- A landed log's Sync; contract; no condition but the range. -/
import Derived.Test.YtjehjbkcdpidbaaGreatRlSync
namespace Go.Proofs.YtjehjbkcdpidbaaGreat
namespace Rd
open Go.RowKit Sc Bk

attribute [local go_sem ↓] Go.wp_at_zero Go.wp_at_succ
attribute [local go_sem] floatUpon pick

section
variable {Rep : RepT} {w : World} {F : Nat → Prop} {p g c a n m mn : Nat} {A B : Value} {l : Lg} {D : Dev}

theorem fr_llp {F F' : Nat → Prop} {A B : Value} {w W : World} (h : Fr (fun k => F k ∨ k = p) (fun k => F' k ∨ k = p) w W) : Fr (fun k => F k ∨ LFt p A B k) (fun k => F' k ∨ LFt p A B k) w W :=
  ⟨h.os, h.tape, h.output, h.size, fun i hi hn => h.block i hi (fun hq => hn (hq.elim .inl (fun e => .inr (.inl e)))), fun k hk => by
    rcases hk with hk | hk
    · exact (h.foot k (.inl hk)).elim (fun hq => .inl (hq.elim .inl (fun e => .inr (.inl e)))) .inr
    · exact .inl (.inr hk)⟩

theorem ll_rows {F G : Nat → Prop} {w W : World} (hL : LL w p g A B l) (hd : ∀ k, LFt p A B k → ¬ F k) (hf : Fr (fun k => F k ∨ k = p) G w W) :
    W.ownsRow 0 9 1 A l.ts.length (strV l.ts) ∧ W.ownsRow 0 5 1 B (waitL l).length (Lib.byteCells (waitL l)) :=
  ⟨own_kept hL.txt fun j hj => hf.block j (own_lt hL.txt j hj) (fun hq => hq.elim (hd j (.inr (.inl hj))) (fun e => hL.dA (e ▸ hj))),
   own_kept hL.wt fun j hj => hf.block j (own_lt hL.wt j hj) (fun hq => hq.elim (hd j (.inr (.inr hj))) (fun e => hL.dB (e ▸ hj)))⟩

/-- rows that stood stay off the device's new blocks -/
theorem lft_off {F F' : Nat → Prop} {w W : World} (hL : LL w p g A B l) (hd : ∀ k, LFt p A B k → ¬ F k) (hf : Fr (fun k => F k ∨ k = p) (fun k => F' k ∨ k = p) w W) (hp : ¬ F' p) : ∀ k, LFt p A B k → ¬ F' k := fun k hk hf' => by
  by_cases e : k = p
  · exact hp (e ▸ hf')
  · rcases hf.foot k (.inl hf') with h | h
    · exact h.elim (hd k hk) e
    · have := hL.lt k hk; omega

set_option maxRecDepth 20000 in
set_option maxHeartbeats 8000000 in
theorem sync_any (HRt : RepTxt) (HB : DevBase Rep) (H : DevQ Rep) (hr : Rep w F g D) (hL : LL w p g A B l) (hd : ∀ k, LFt p A B k → ¬ F k) (hi : LgIn D l) (hu : D.down = false) :
    Calls Tryz.prog 15 #[.pointer (some ⟨p, 0, none⟩)] w (LPost Rep w F p g A B (syncP D l)) := by
  have hok := H.ok hr
  have hlo := hi.ok
  obtain ⟨X, cX, hX, hlc⟩ := own_form2 hL.wt
  by_cases hm : l.mn = l.ts.length
  · have hw0 : waitL l = [] := by unfold waitL; rw [hm]; exact frs_same _ _
    have hS : syncP D l = (D, l, 0) := by unfold syncP; rw [if_pos hm]
    rw [hS]
    have HE := Lib.hid (And.intro hr hL)
    have y6 := hL.cel.cell (i := 6) rfl
    rw [hX, hw0] at y6
    have y6' : w.cell? ⟨p, 6, none⟩ = some (.slice X 0 cX) := y6
    clear y6 hr hL hS hw0
    generalize hPst : LPost Rep w F p g A B (D, l, 0) = Pst
    have HPst := Lib.hid hPst
    clear hPst
    go_enter Tryz.func15, Tryz.ntmps15
    go_wp2_with fail
    rw [← HPst.out]
    exact ⟨rfl, F, A, B, HE.out.1, HE.out.2, hd, Fr.refl _ _⟩
  · have hwp : 0 < (waitL l).length := by
      have := frames_ge l.ts l.mn l.ts.length hlo.mn (Nat.le_refl _)
      have := hlo.mn
      unfold waitL
      omega
    have hwne : waitL l ≠ [] := fun e => by rw [e] at hwp; exact absurd hwp (by decide)
    have hfull := stored_tail hok hlo.dev hlo.ar (n := l.bs.length) (by have := hlo.room; omega)
    rw [hi.st] at hfull
    have hst := settle_any HRt HB H hr hL.cel (hd p (.inl rfl)) hlo.dev hu hi.cnt l.ar l.bs (waitL l) hlo.ar (by rw [List.length_append]; exact hlo.room) (fun _ => hfull)
    have hS : syncP D l = if (settleP D l.cnt l.ar l.bs (waitL l)).2 = 0 then ((settleP D l.cnt l.ar l.bs (waitL l)).1, ⟨l.cnt + 1, l.ar, l.bs ++ waitL l, l.ts, l.ts.length⟩, 0) else ((settleP D l.cnt l.ar l.bs (waitL l)).1, l, (settleP D l.cnt l.ar l.bs (waitL l)).2) := by
      unfold syncP; rw [if_neg hm]
    have hwm : (waitL l).length ≤ 65536 := by have := hlo.room; have := hok.max; unfold areaN at *; omega
    have HST := Lib.hid (fun W (h1 : Rep W F g D) (h2 : LL W p g A B l) => settle_any HRt HB H h1 h2.cel (hd p (.inl rfl)) hlo.dev hu hi.cnt l.ar l.bs (waitL l) hlo.ar (by rw [List.length_append]; exact hlo.room) (fun _ => hfull))
    clear hst hfull
    generalize settleP D l.cnt l.ar l.bs (waitL l) = rs at hS HST
    obtain ⟨D1, e1⟩ := rs
    have HCv := Lib.hid (fun W (h : LL W p g A B l) => show ∃ X', B = .slice (some ⟨X', 0, none⟩) (waitL l).length cX ∧ (convert 82 9 B).run Tryz.prog W = .ok (.string ⟨(waitL l).toArray⟩) W from by
      obtain ⟨g', cap, hv, h1, h2⟩ := World.ownsRow.form h.wt hwp
      rw [hX] at hv
      simp only [Value.slice.injEq] at hv
      obtain ⟨hv1, -, rfl⟩ := hv
      have hw := h.wt
      rw [hX, hv1] at hw ⊢
      have := own_bytes hw rfl 0 (waitL l).length cX (by omega)
      rw [List.drop_zero, List.take_of_length_le (Nat.le_refl _)] at this
      exact ⟨g', rfl, this⟩)
    obtain ⟨X', hX', -⟩ := HCv.out w hL
    have hXX : X = some ⟨X', 0, none⟩ := by rw [hX] at hX'; simpa using hX'
    subst hXX
    have HE : Hid (Rep w F g D ∧ LL w p g A B l) := Lib.hid ⟨hr, hL⟩
    have y6 := hL.cel.cell (i := 6) rfl
    rw [hX] at y6
    have hwz : ¬ ((waitL l).length : Int) = 0 := by omega
    have hwz2 : (((waitL l).length : Int) == 0) = false := by simpa using hwz
    generalize hPst : LPost Rep w F p g A B (syncP D l) = Pst
    have HPst := Lib.hid hPst
    have HS := Lib.hid hS
    have HX := Lib.hid hX
    have HCv2 := Lib.hid (fun W (h : LL W p g A B l) => show (convert 82 9 (.slice (some ⟨X', 0, none⟩) (waitL l).length cX)).run Tryz.prog W = .ok (.string ⟨(waitL l).toArray⟩) W from by
      obtain ⟨_, _, h2⟩ := HCv.out W h
      rw [hX] at h2
      exact h2)
    clear hPst hS hX hX' hr hL HCv hlc hm hwne hwm
    obtain ⟨wl, hwl⟩ : ∃ wl, wl = (waitL l).length := ⟨_, rfl⟩
    obtain ⟨WS, hWS⟩ : ∃ WS : ByteArray, WS = ⟨(waitL l).toArray⟩ := ⟨_, rfl⟩
    rw [← hwl] at y6 hwz hwz2 HCv2 hwp HX
    rw [← hWS] at HCv2 HST
    clear hwl hWS
    go_enter Tryz.func15, Tryz.ntmps15
    go_upto_region 3 with fail
    clear y6
    refine wp_region_said 16 [10, 11, 12, 13, 14, 15, 16, 17, 18, 19, 20, 21, 22, 23, 24, 25]
      [.is (.pointer (some ⟨p, 0, none⟩)), .is (.pointer (some ⟨p, 0, none⟩)), .is (.pointer (some ⟨p, 0, none⟩)), .is (.pointer (some ⟨p, 1, none⟩)), .is (.pointer (some ⟨p, 2, none⟩)), .is (.int .i64 (l.ar : Int)), .is (.pointer (some ⟨p, 0, none⟩)), .is (.pointer (some ⟨p, 0, none⟩)), .is (.pointer (some ⟨p, 1, none⟩)), .is (.pointer (some ⟨p, 3, none⟩)), .is (.int .i64 (l.bs.length : Int)), .is (.pointer (some ⟨p, 0, none⟩)), .is (.pointer (some ⟨p, 0, none⟩)), .is (.pointer (some ⟨p, 6, none⟩)), .is (.slice (some ⟨X', 0, none⟩) wl cX), .is (.string WS)]
      (fun W => Rep W F g D ∧ LL W p g A B l) (by kernel_rfl) (by kernel_rfl) (by kernel_rfl) (by kernel_rfl) (by kernel_rfl) (fun W W' h hb => ⟨H.step h.1 hb, h.2.step hb⟩) HE.out ?steps ?last
    case steps =>
      simp only [List.take_succ_cons, List.take_zero]
      refine ⟨?_, ?_, ?_, ?_, ?_, ?_, ?_, ?_, ?_, ?_, ?_, ?_, ?_, ?_, ?_, ?_, trivial⟩
      all_goals
        intro vs W ρ hρ hc hf hg hI hH hd' R' hR
        have y2 := hI.2.cel.cell (i := 2) rfl
        have y3 := hI.2.cel.cell (i := 3) rfl
        have y6 := hI.2.cel.cell (i := 6) rfl
        rw [HX.out] at y6
        have hcv := HCv2.out W hI.2
        have HR := Lib.hid hR
        simp [depsOf, Region.binds, sayAt, Say.holds] at hd'
        clear hR hI
        go_simp
        first
          | exact HR.out _ _ (by simp [sayAt, Say.holds]) (Below.refl _ _) (by simp [sayAt, Say.isBlk])
          | trace_state
    case last =>
      intro vs W hI hbw hg hd'
      have e0 := hg 0 (by omega)
      have e5 := hg 5 (by omega)
      have e10 := hg 10 (by omega)
      have e15 := hg 15 (by omega)
      simp only [sayAt, Say.holds, List.getD_cons_succ, List.getD_cons_zero] at e0 e5 e10 e15
      simp only [List.take_succ_cons, List.take_zero, List.drop_succ_cons, List.drop_zero, putAll, Act.put, List.setIfInBounds_toArray, List.set_cons_succ, List.set_cons_zero, Nat.zero_add, Nat.reduceAdd]
      rw [e0, e5, e10, e15]
      have HI := Lib.hid hI
      have HBW := Lib.hid hbw
      have HS2 := Lib.hid (HST.out W hI.1 hI.2)
      clear e0 e5 e10 e15 hg hd' hbw hI HST
      go_wp2_with fail
      refine HS2.out.mono ?_
      intro e w7 hpost
      obtain ⟨rfl, F1, h1, h2, h3, h5, h6⟩ := hpost
      have HQ := Lib.hid (And.intro h1 (And.intro h2 (And.intro h3 (And.intro h5 h6))))
      clear h1 h2 h3 h5 h6 HS2
      by_cases h0 : e1 = 0
      rotate_left
      · have hnz : (e1 != 0) = true := by simpa using h0
        go_wp2_with fail
        rw [← HPst.out, HS.out, if_neg h0]
        obtain ⟨q1, q2, q3, q4, q5⟩ := HQ.out
        have hrw := ll_rows HI.out.2 hd q5
        have hof := lft_off HI.out.2 hd q5 q2
        refine ⟨rfl, F1, A, B, q1, ⟨q4 h0, hrw.1, hrw.2⟩, hof, ?_⟩
        exact below_fr HBW.out (fr_llp q5)
      subst h0
      obtain ⟨q1, q2, q3, q4, q5⟩ := HQ.out
      have HC7 := Lib.hid (q3 rfl)
      have hrw := ll_rows HI.out.2 hd q5
      have HRw := Lib.hid hrw
      obtain ⟨XA, cA, hXA, -⟩ := own_form2 hrw.1
      have z4 := HC7.out.cell (i := 4) rfl
      rw [hXA] at z4
      have z5 := HC7.out.cell (i := 5) rfl
      have z6 := HC7.out.cell (i := 6) rfl
      have zq := fun i => HC7.out.free (i := i)
      clear q1 q2 q3 q4 q5 hrw hXA
      go_wp2_with fail
      rw [← HPst.out, HS.out, if_pos (by trivial)]
      obtain ⟨q1, q2, q3, q4, q5⟩ := HQ.out
      have hof := lft_off HI.out.2 hd q5 q2
      have hfs : ∀ v0 v1, Fr (fun k => k = p) (fun k => k = p) w7 ((w7.setCell ⟨p, 6, none⟩ v0).setCell ⟨p, 5, none⟩ v1) := fun v0 v1 => ((Fr.refl (fun k => k = p) w7).set (p := ⟨p, 6, none⟩) rfl v0).set (p := ⟨p, 5, none⟩) rfl v1
      refine ⟨rfl, F1, A, .slice none 0 0, H.kept q1 fun j hj => (hfs _ _).block j (H.lt q1 j hj) (fun e => q2 (e ▸ hj)), ⟨(HC7.out.set (i := 6) (v := .slice none 0 0)).set (i := 5) (v := .int .i64 (l.ts.length : Int)), own_kept HRw.out.1 fun j hj => (hfs _ _).block j (own_lt HRw.out.1 j hj) (fun e => HI.out.2.dA (e ▸ hj)), ?_⟩, fun k hk => ?_, ?_⟩
      · show World.ownsRow _ 0 5 1 (.slice none 0 0) (waitL ⟨l.cnt + 1, l.ar, l.bs ++ waitL l, l.ts, l.ts.length⟩).length (Lib.byteCells (waitL ⟨l.cnt + 1, l.ar, l.bs ++ waitL l, l.ts, l.ts.length⟩))
        have e0 : waitL ⟨l.cnt + 1, l.ar, l.bs ++ waitL l, l.ts, l.ts.length⟩ = [] := frs_same _ _
        rw [e0]
        exact World.ownsRow_nil _ _ _ _
      · rcases hk with e | e | e
        · exact hof k (.inl e)
        · exact hof k (.inr (.inl e))
        · cases e
      · have h1 := below_fr HBW.out (fr_llp (A := A) (B := B) q5)
        have h2 : Fr (fun k => F1 k ∨ LFt p A B k) (fun k => F1 k ∨ LFt p A B k) w7 _ := ⟨(hfs (.slice none 0 0) (.int .i64 (l.ts.length : Int))).os, (hfs _ _).tape, (hfs _ _).output, (hfs _ _).size, fun i hi hn => (hfs _ _).block i hi (fun e => hn (.inr (.inl e))), fun _ hk => .inl hk⟩
        refine fr_less (h1.trans h2) (fun k hk => ?_)
        rcases hk with e | e | e | e
        · exact .inl e
        · exact .inr (.inl e)
        · exact .inr (.inr (.inl e))
        · cases e

end

end Rd
end Go.Proofs.YtjehjbkcdpidbaaGreat
