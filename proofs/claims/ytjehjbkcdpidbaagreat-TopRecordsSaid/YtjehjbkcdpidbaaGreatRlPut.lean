/- How a head is put, in the landed log; contract; no condition but the range. -/
import Derived.Test.YtjehjbkcdpidbaaGreatRlNew
namespace Go.Proofs.YtjehjbkcdpidbaaGreat
namespace Rd
open Go.RowKit Sc Bk

attribute [local go_sem ↓] Go.wp_at_zero Go.wp_at_succ
attribute [local go_sem] floatUpon pick

/-- a head is put -/
def putP (D : Dev) (c a n : Nat) : Dev × Int := andD (wrD D ((c % 2 : Nat) : Int) (headB c a n)) flD

section
variable {Rep : RepT} {w : World} {F : Nat → Prop} {p g c0 a0 n0 c a n m mn : Nat} {A B : Value} {l : Lg} {D : Dev}

theorem setL_cel {W : World} {R : Nat} {t : TypeId} {u0 u1 u2 u3 u4 u5 u6 v0 v1 v2 : Value} (h : Cel W R t [u0, u1, u2, u3, u4, u5, u6]) : Cel (setL W R v0 v1 v2) R t [u0, v0, v1, v2, u4, u5, u6] := ((h.set (i := 1) (v := v0)).set (i := 2) (v := v1)).set (i := 3) (v := v2)

set_option maxRecDepth 20000 in
set_option maxHeartbeats 8000000 in
theorem putHead_any (HRt : RepTxt) (HB : DevBase Rep) (H : DevQ Rep) (hr : Rep w F g D) (hc : LC w p g c0 a0 n0 A mn B) (hpF : ¬ F p) (hcc : c ≤ 4611686018427388001) (ha : a ≤ 1) (hn : n ≤ 9223372036854775807) :
    Calls Tryz.prog 78 #[.pointer (some ⟨p, 0, none⟩), hdV c a n] w (PutPost Rep w F p g c0 a0 n0 A mn B c a n (putP D c a n)) := by
  have hal := alloc3 w (.int .i64 (c : Int)) (.int .i64 (a : Int)) (.int .i64 (n : Int)) 81
  have hFl := H.lt hr
  have hSec := fun V => sec_any HRt c a n V (by omega) ha hn
  unfold hdV at hSec
  have HSec := Lib.hid hSec
  obtain ⟨rm, hrm⟩ : ∃ rm, rm = c % 2 := ⟨_, rfl⟩
  have v1 : (c : Int).tmod 2 = (rm : Int) := by rw [Int.tmod_eq_emod_of_nonneg (by omega), hrm]; omega
  have v2 : (c : Int) % 2 = (rm : Int) := by rw [hrm]; omega
  have HP := Lib.hid (show putP D c a n = andD (wrD D (rm : Int) (headB c a n)) flD from by unfold putP; rw [hrm])
  have hpl := hc.lt
  have hr1 := H.step hr hal.1
  have hc1 := Cel.below hc hal.1
  generalize hPst : PutPost Rep w F p g c0 a0 n0 A mn B c a n (putP D c a n) = Pst
  have HPst := Lib.hid hPst
  have hhs := headB_size c a n
  clear hPst hSec hrm hr hc
  generalize headB c a n = hdB at HSec HP hhs
  unfold hdV
  go_enter Tryz.func78, Tryz.ntmps78
  go_upto_region 1 with fail
  have hFb : ∀ W' : World, True := fun _ => trivial
  have HB1 := Lib.hid hal.1
  have HX1 := Lib.hid hal.2
  have HR1 := Lib.hid hr1
  have HC1 := Lib.hid hc1
  clear hal hr1 hc1 hFb
  generalize w.alloc (.cells #[.int .i64 (c : Int), .int .i64 (a : Int), .int .i64 (n : Int)] 81) = W1 at *
  have hkF : ¬ F w.heap.size := fun hf => by have := hFl _ hf; omega
  generalize hk : w.heap.size = k at HX1 hkF ⊢
  clear hFl
  refine wp_region_said 9 [7, 8, 9, 10, 11, 12, 13, 14, 15]
    [.is (.pointer (some ⟨p, 0, none⟩)), .is (.pointer (some ⟨p, 0, none⟩)), .is (.pointer (some ⟨p, 0, none⟩)), .is (.pointer (some ⟨g, 0, none⟩)), .is (.pointer (some ⟨k, 0, none⟩)), .is (.int .i64 (c : Int)), .is (.int .i64 (rm : Int)), .is (.agg #[.int .i64 (c : Int), .int .i64 (a : Int), .int .i64 (n : Int)]), .is (.string hdB)]
    (fun W => Rep W F g D ∧ LC W p g c0 a0 n0 A mn B ∧ Cel W k 81 [.int .i64 (c : Int), .int .i64 (a : Int), .int .i64 (n : Int)]) (by kernel_rfl) (by kernel_rfl) (by kernel_rfl) (by kernel_rfl) (by kernel_rfl) (fun W W' h hb => ⟨H.step h.1 hb, Cel.below h.2.1 hb, h.2.2.below hb⟩) ⟨HR1.out, HC1.out, HX1.out⟩ ?steps ?last
  case steps =>
    simp only [List.take_succ_cons, List.take_zero]
    refine ⟨?_, ?_, ?_, ?_, ?_, ?_, ?_, ?_, ?_, trivial⟩
    all_goals
      intro vs W ρ hρ hc hf hg hI hH hd R' hR
      have y0 := hI.2.1.cell (i := 0) rfl
      have z0 := hI.2.2.cell (i := 0) rfl
      have z1 := hI.2.2.cell (i := 1) rfl
      have z2 := hI.2.2.cell (i := 2) rfl
      have HR := Lib.hid hR
      simp [depsOf, Region.binds, sayAt, Say.holds] at hd
      clear hR hI
      go_simp
      first
        | exact HR.out _ _ (by simp [sayAt, Say.holds]) (Below.refl _ _) (by simp [sayAt, Say.isBlk])
        | (refine (HSec.out _).mono ?_; rintro e w' ⟨rfl, hb⟩; exact ⟨_, rfl, HR.out _ _ (by simp [sayAt, Say.holds]) hb (by simp [sayAt, Say.isBlk])⟩)
        | trace_state
  case last =>
    intro vs W hI hb hg hd
    have e3 := hg 3 (by omega)
    have e6 := hg 6 (by omega)
    have e8 := hg 8 (by omega)
    simp only [sayAt, Say.holds, List.getD_cons_succ, List.getD_cons_zero] at e3 e6 e8
    simp only [List.take_succ_cons, List.take_zero, List.drop_succ_cons, List.drop_zero, putAll, Act.put, List.setIfInBounds_toArray, List.set_cons_succ, List.set_cons_zero, Nat.zero_add, Nat.reduceAdd]
    rw [e3, e6, e8]
    have hwr := HB.write (rm : Int) hdB W hI.1 ⟨by omega, by omega⟩ (by rw [hhs]; unfold reachBytes; omega)
    have HI := Lib.hid hI
    have hBW : Below w.heap.size w W := HB1.out.trans (hb.mono HB1.out.size)
    have HBW := Lib.hid hBW
    generalize wrD D (rm : Int) hdB = rr at hwr HP
    obtain ⟨D3, e3'⟩ := rr
    have HWr := Lib.hid hwr
    clear e3 e6 e8 hg hd hb hI hwr hBW
    go_wp2_with fail
    refine HWr.out.mono ?_
    rintro e w7 ⟨rfl, F1, hr7, hf7⟩
    have hC7 := cel_fr HI.out.2.1 hf7 hpF
    have hX7 := cel_fr HI.out.2.2 hf7 hkF
    have hp7 := foot_not hf7 hpF HI.out.2.1.lt
    have hk7 := foot_not hf7 hkF HI.out.2.2.lt
    have HF7 := Lib.hid (below_fr HBW.out hf7)
    have HR7 := Lib.hid hr7
    have HC7 := Lib.hid hC7
    have HX7 := Lib.hid hX7
    have y0 := hC7.cell (i := 0) rfl
    clear hr7 hf7 hC7 hX7 HWr HI HBW
    by_cases h0 : e3' = 0
    rotate_left
    · have hne : (e3' != 0) = true := by simpa using h0
      go_wp2_with fail
      rw [← HPst.out, HP.out, and_stop h0]
      exact ⟨rfl, F1, HR7.out, hp7, fun h => absurd h h0, fun _ => HC7.out, fr_p HF7.out⟩
    subst h0
    have hfl := HB.flush w7 HR7.out
    generalize hfd : flD D3 = r2 at hfl
    obtain ⟨D4, e4⟩ := r2
    have HFd := Lib.hid hfd
    have HFl := Lib.hid hfl
    clear hfl hfd
    go_wp2_with fail
    refine HFl.out.mono ?_
    rintro e w8 ⟨rfl, F2, hr8, hf8⟩
    have hC8 := cel_fr HC7.out hf8 hp7
    have hX8 := cel_fr HX7.out hf8 hk7
    have hp8 := foot_not hf8 hp7 HC7.out.lt
    have HF8 := Lib.hid (HF7.out.trans hf8)
    have HR8 := Lib.hid hr8
    have HC8 := Lib.hid hC8
    have HX8 := Lib.hid hX8
    clear hr8 hf8 hC8 hX8 HFl HC7 HX7 HF7 HR7 y0
    by_cases h0 : e4 = 0
    rotate_left
    · have hne : (e4 != 0) = true := by simpa using h0
      go_wp2_with fail
      rw [← HPst.out, HP.out, and_go rfl, HFd.out]
      exact ⟨rfl, F2, HR8.out, hp8, fun h => absurd h h0, fun _ => HC8.out, fr_p HF8.out⟩
    subst h0
    have y0 := HX8.out.cell (i := 0) rfl
    have y1 := HX8.out.cell (i := 1) rfl
    have y2 := HX8.out.cell (i := 2) rfl
    have zq := fun i => HC8.out.free (i := i)
    have z1 := HC8.out.cell (i := 1) rfl
    have z2 := HC8.out.cell (i := 2) rfl
    have z3 := HC8.out.cell (i := 3) rfl
    go_wp2_with fail
    rw [← HPst.out, HP.out, and_go rfl, HFd.out]
    have hfr := setL_fr (R := p) (v0 := .int .i64 (c : Int)) (v1 := .int .i64 (a : Int)) (v2 := .int .i64 (n : Int)) (fr_p (p := p) HF8.out) (.inr rfl)
    refine ⟨rfl, F2, H.kept HR8.out fun j hj => setL_other (fun e => hp8 (e ▸ hj)), hp8, fun _ => setL_cel HC8.out, fun h => absurd rfl h, hfr⟩

end

end Rd
end Go.Proofs.YtjehjbkcdpidbaaGreat
