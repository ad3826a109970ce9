/- How the landed log finds its head, or puts the first one; contract; no condition but the range. -/
import Derived.Test.YtjehjbkcdpidbaaGreatRlPut
namespace Go.Proofs.YtjehjbkcdpidbaaGreat
namespace Rd
open Go.RowKit Sc Bk

attribute [local go_sem ↓] Go.wp_at_zero Go.wp_at_succ
attribute [local go_sem] floatUpon pick

/-- the head that counts, and what stands then -/
def startP (D : Dev) : (Dev × Int) × (Nat × Nat × Nat) :=
  if D.down = true then ((D, 90), (0, 0, 0)) else if (nwP D).1 = 0 then (putP D 1 0 0, (1, 0, 0)) else ((D, 0), nwP D)

section
variable {Rep : RepT} {w : World} {F : Nat → Prop} {p g c0 a0 n0 c a n m mn : Nat} {A B : Value} {l : Lg} {D : Dev}

theorem fr_refl_below {G : Nat → Prop} {w W : World} (h : Below w.heap.size w W) : Fr G G w W := (Fr.refl G w).below h

set_option maxRecDepth 20000 in
set_option maxHeartbeats 8000000 in
theorem start_any (HRt : RepTxt) (HB : DevBase Rep) (H : DevQ Rep) (hr : Rep w F g D) (hc : LC w p g c0 a0 n0 A mn B) (hpF : ¬ F p) (h4 : 4 ≤ D.on.length) :
    Calls Tryz.prog 40 #[.pointer (some ⟨p, 0, none⟩)] w (PutPost Rep w F p g c0 a0 n0 A mn B (startP D).2.1 (startP D).2.2.1 (startP D).2.2.2 (startP D).1) := by
  have hFl := H.lt hr
  by_cases hu : D.down = true
  · have HN := Lib.hid (newest_down H hr hc hu)
    have HS := Lib.hid (show startP D = ((D, 90), (0, 0, 0)) from by unfold startP; rw [if_pos hu])
    have HR0 := Lib.hid hr
    have HC0 := Lib.hid hc
    clear hr hc
    generalize hPst : PutPost Rep w F p g c0 a0 n0 A mn B (startP D).2.1 (startP D).2.2.1 (startP D).2.2.2 (startP D).1 = Pst
    have HPst := Lib.hid hPst
    clear hPst
    unfold hdV at HN
    go_enter Tryz.func40, Tryz.ntmps40
    go_wp2_with fail
    refine HN.out.mono ?_
    rintro e w2 ⟨rfl, hb⟩
    have hal2 := alloc3 w2 (.int .i64 0) (.int .i64 0) (.int .i64 0) 81
    have HB2 := Lib.hid (hb.trans (hal2.1.mono hb.size))
    clear hb hal2
    go_wp2_with fail
    rw [← HPst.out, HS.out]
    exact ⟨rfl, F, H.step HR0.out HB2.out, hpF, fun h => absurd h (show ¬ ((90 : Int) = 0) by decide), fun _ => Cel.below HC0.out HB2.out, fr_refl_below HB2.out⟩
  · have hu2 : D.down = false := by simpa using hu
    have HN := Lib.hid (newest_up HRt H hr hc h4 hu2)
    have HR0 := Lib.hid hr
    have HC0 := Lib.hid hc
    by_cases hz : (nwP D).1 = 0
    · have HS := Lib.hid (show startP D = (putP D 1 0 0, (1, 0, 0)) from by unfold startP; rw [if_neg hu, if_pos hz])
      have HPut := Lib.hid (fun W (h : Below w.heap.size w W) => show Calls Tryz.prog 78 #[.pointer (some ⟨p, 0, none⟩), .agg #[.int .i64 1, .int .i64 0, .int .i64 0]] W (PutPost Rep W F p g c0 a0 n0 A mn B 1 0 0 (putP D 1 0 0)) from putHead_any (c := 1) (a := 0) (n := 0) HRt HB H (H.step hr h) (Cel.below hc h) hpF (by omega) (by omega) (by omega))
      generalize hPst : PutPost Rep w F p g c0 a0 n0 A mn B (startP D).2.1 (startP D).2.2.1 (startP D).2.2.2 (startP D).1 = Pst
      have HPst := Lib.hid hPst
      clear hPst hr hc
      unfold hdW hdV at HN
      generalize nwP D = q at HN hz
      obtain ⟨x0, x1, x2⟩ := q
      simp only at hz HN
      subst hz
      go_enter Tryz.func40, Tryz.ntmps40
      go_wp2_with fail
      refine HN.out.mono ?_
      rintro e w2 ⟨rfl, hb⟩
      have hal2 := alloc3 w2 (.int .i64 0) (.int .i64 (x1 : Int)) (.int .i64 (x2 : Int)) 81
      have HB2 := Lib.hid (hb.trans (hal2.1.mono hb.size))
      have HX2 := Lib.hid hal2.2
      clear hb hal2 HN
      go_upto_region 2 with fail
      generalize w2.alloc _ = w3 at HB2 HX2 ⊢
      generalize w2.heap.size = k at HX2 ⊢
      have y0 := HX2.out.cell (i := 0) rfl
      go_wp2_with fail
      refine (HPut.out _ HB2.out).mono ?_
      intro e w5 hp
      obtain ⟨rfl, F', h1, h2, h3, h5, h6⟩ := hp
      have HE := Lib.hid (And.intro h1 (And.intro h2 (And.intro h3 (And.intro h5 h6))))
      clear h1 h2 h3 h5 h6
      go_wp2_with fail
      rw [← HPst.out, HS.out]
      obtain ⟨h1, h2, h3, h5, h6⟩ := HE.out
      exact ⟨rfl, F', h1, h2, h3, h5, below_fr HB2.out h6⟩
    · have HS := Lib.hid (show startP D = ((D, 0), nwP D) from by unfold startP; rw [if_neg hu, if_neg hz])
      generalize hPst : PutPost Rep w F p g c0 a0 n0 A mn B (startP D).2.1 (startP D).2.2.1 (startP D).2.2.2 (startP D).1 = Pst
      have HPst := Lib.hid hPst
      clear hPst hr hc
      unfold hdW hdV at HN
      generalize nwP D = q at HN hz HS
      obtain ⟨x0, x1, x2⟩ := q
      simp only at hz HN
      have hne : ¬ ((x0 : Int) = 0) := by omega
      have hne2 : ((x0 : Int) == 0) = false := by simpa using hz
      clear hz
      go_enter Tryz.func40, Tryz.ntmps40
      go_wp2_with fail
      refine HN.out.mono ?_
      rintro e w2 ⟨rfl, hb⟩
      have hal2 := alloc3 w2 (.int .i64 (x0 : Int)) (.int .i64 (x1 : Int)) (.int .i64 (x2 : Int)) 81
      have HB2 := Lib.hid (hb.trans (hal2.1.mono hb.size))
      have HX2 := Lib.hid hal2.2
      clear hb hal2 HN
      go_upto_region 2 with fail
      generalize w2.alloc _ = w3 at HB2 HX2 ⊢
      generalize w2.heap.size = k at HX2 ⊢
      have HC3 := Lib.hid (Cel.below HC0.out HB2.out)
      have y0 := HX2.out.cell (i := 0) rfl
      have y1 := HX2.out.cell (i := 1) rfl
      have y2 := HX2.out.cell (i := 2) rfl
      have zq := fun i => HC3.out.free (i := i)
      have z1 := HC3.out.cell (i := 1) rfl
      have z2 := HC3.out.cell (i := 2) rfl
      have z3 := HC3.out.cell (i := 3) rfl
      go_wp2_with fail
      rw [← HPst.out, HS.out]
      have hr3 := H.step HR0.out HB2.out
      exact ⟨rfl, F, H.kept hr3 fun j hj => setL_other (fun e => hpF (e ▸ hj)), hpF, fun _ => setL_cel HC3.out, fun h => absurd rfl h, setL_fr (fr_refl_below HB2.out) (.inr rfl)⟩

/-- the head that counts, as the document's words have it -/
theorem hds_nw (D : Dev) : hdsP D 2 = if (nwP D).1 = 0 then none else some (nwP D) := by
  have h0 : hdsP D 1 = if okH (areaN D) (flushF D 0).data.toList then some (hd1 D 0) else none := by
    unfold hdsP hd1
    by_cases h : okH (areaN D) (flushF D 0).data.toList
    · rw [if_pos ⟨h, fun h e => by cases e⟩, if_pos h, if_pos h]
    · rw [if_neg (fun e => h e.1), if_neg h]; rfl
  have e2 : hdsP D 2 = if okH (areaN D) (flushF D 1).data.toList ∧ (∀ h, hdsP D 1 = some h → h.1 < cOf (flushF D 1).data.toList) then some (cOf (flushF D 1).data.toList, aOf (flushF D 1).data.toList, lOf (flushF D 1).data.toList) else hdsP D 1 := rfl
  rw [e2, h0]
  unfold nwP
  by_cases k0 : okH (areaN D) (flushF D 0).data.toList
  · have p0 : hd1 D 0 = (cOf (flushF D 0).data.toList, aOf (flushF D 0).data.toList, lOf (flushF D 0).data.toList) := by unfold hd1; rw [if_pos k0]
    have q0 := k0.1
    rw [if_pos k0]
    by_cases k1 : okH (areaN D) (flushF D 1).data.toList
    · have p1 : hd1 D 1 = (cOf (flushF D 1).data.toList, aOf (flushF D 1).data.toList, lOf (flushF D 1).data.toList) := by unfold hd1; rw [if_pos k1]
      have q1 := k1.1
      rw [p0, p1]
      by_cases hlt : cOf (flushF D 0).data.toList < cOf (flushF D 1).data.toList
      · rw [if_pos ⟨k1, fun h e => by rw [← Option.some.inj e]; exact hlt⟩, if_pos hlt, if_neg (by show ¬ cOf (flushF D 1).data.toList = 0; omega)]
      · rw [if_neg (fun e => hlt (e.2 _ rfl)), if_neg hlt, if_neg (by show ¬ cOf (flushF D 0).data.toList = 0; omega)]
    · have p1 : hd1 D 1 = (0, 0, 0) := by unfold hd1; rw [if_neg k1]
      rw [p1, if_neg (fun e => k1 e.1), p0, if_neg (show ¬ cOf (flushF D 0).data.toList < 0 by omega), if_neg (by show ¬ cOf (flushF D 0).data.toList = 0; omega)]
  · have p0 : hd1 D 0 = (0, 0, 0) := by unfold hd1; rw [if_neg k0]
    rw [if_neg k0, p0]
    by_cases k1 : okH (areaN D) (flushF D 1).data.toList
    · have p1 : hd1 D 1 = (cOf (flushF D 1).data.toList, aOf (flushF D 1).data.toList, lOf (flushF D 1).data.toList) := by unfold hd1; rw [if_pos k1]
      have q1 := k1.1
      rw [p1, if_pos ⟨k1, fun h e => by cases e⟩, if_pos (show 0 < cOf (flushF D 1).data.toList by omega), if_neg (by show ¬ cOf (flushF D 1).data.toList = 0; omega)]
    · have p1 : hd1 D 1 = (0, 0, 0) := by unfold hd1; rw [if_neg k1]
      rw [p1, if_neg (fun e => k1 e.1)]; rfl

end

end Rd
end Go.Proofs.YtjehjbkcdpidbaaGreat
