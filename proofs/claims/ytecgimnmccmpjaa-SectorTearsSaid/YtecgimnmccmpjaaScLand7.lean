/- What the landed device does at a crash: the walk; no condition but the range. -/
import Derived.Test.YtecgimnmccmpjaaScLand6
namespace Go.Proofs.Ytecgimnmccmpjaa
namespace Sc
open Go.RowKit Bk

attribute [local go_sem ↓] Go.wp_at_zero Go.wp_at_succ
attribute [local go_sem] floatUpon pick

section
variable {w w' : World} {g a b : Nat} {D : Dev}

theorem CrMid.step {W W' : World} {vb : Nat} {A : Option Addr} {ps : List Int} {j : Nat} {n : ByteArray} (h : CrMid w W g a b vb A D ps j n) (hb : Below W.heap.size W W') : CrMid w W' g a b vb A D ps j n := ⟨h.e.step hb, h.c.below hb⟩

set_option maxRecDepth 20000 in
set_option maxHeartbeats 8000000 in
theorem lcrash_any (h : LAt w g a b D) (hok : DevOk D) (A : Option Addr) (c : Nat) (ps : List Int) (hp : IntsAt w A ps) (hpd : 0 < ps.length → ∀ x, A = some x → ¬ LFoot g a b x.block) (hpl : ps.length ≤ 140737488351232) :
    Calls Try.prog 17 #[.pointer (some ⟨g, 0, none⟩), .slice A ps.length c] w fun e w' => e = .returned (.tuple #[]) ∧ LAt w' g a b (crD D ps) ∧ Fr (LFoot g a b) (LFoot g a b) w w' := by
  have k1 := h.cel.cell (i := 1) rfl
  have hmx := hok.max
  have HSk := Lib.hid (sorted_keys h.mp (by rw [hok.len]; exact hmx))
  have hlt0 := Lib.hid (And.intro h.ro.lt h.mp.lt)
  have HPs := Lib.hid (fun wr (hf : Fr (LFoot g a b) (LFoot g a b) w wr) (k : Nat) (hk : k < ps.length) => show ∃ ad, A = some ad ∧ wr.cell? (ad.add k) = some (.int .i64 ps[k]) from by
    obtain ⟨ad, e, hb, hc⟩ := hp (by omega)
    refine ⟨ad, e, ?_⟩
    have hkp : wr.heap[(ad.add k).block]? = w.heap[(ad.add k).block]? := by rw [st_block]; exact hf.block _ hb (hpd (by omega) ad e)
    rw [show wr.cell? (ad.add k) = w.cell? (ad.add k) from by unfold World.cell?; rw [hkp]]
    exact hc k hk)
  have H := Lib.hid h
  have HOk := Lib.hid hok
  have hzs := zero_sec
  obtain ⟨Z, hZ⟩ : ∃ Z, Z = secC zero64 := ⟨_, rfl⟩
  have hZl : Z.length = 64 := by rw [hZ, secC_len]; rfl
  unfold secV at hzs
  rw [← hZ] at hzs
  have HZ := Lib.hid hZl
  have hle : cnt D.new D.new.length ≤ 2048 := by have := cnt_le D.new D.new.length; rw [hok.len] at this ⊢; omega
  clear h hok hp hpd hZ hZl
  go_enter Try.func17, Try.ntmps17
  go_wp2_with fail
  refine (keys_call _ _).mono ?_
  rintro e w1 ⟨rfl, rfl⟩
  go_wp2_with fail
  refine HSk.out.mono ?_
  rintro e w2 ⟨B, cB, rfl, hB, hBn, hb2⟩
  have HE0 : Hid (CrEnv w w2 g a b B D ps 0) := Lib.hid (by
    refine ⟨?_, (Fr.refl _ w).below hb2, hB, hBn⟩
    rw [crL_start]
    exact H.out.step hb2)
  obtain ⟨N, hN⟩ : ∃ N, N = cnt D.new D.new.length := ⟨_, rfl⟩
  rw [← hN] at hle ⊢
  have HN := Lib.hid hN
  clear hB hBn hb2 HSk k1 hN
  have pN : (N : Int) ≤ 2048 := by omega
  go_wp2_with fail
  go_loopw [4, 5, 6, 7, 15] (fun _ _ _ _ i wr => ∃ j : Nat, j ≤ N ∧ i = .int .i64 (j : Int) ∧ Hid (CrEnv w wr g a b B D ps j)) (fun _ _ _ _ i _ => N - (intOf i).toNat)
  case atStart => exact ⟨0, by omega, rfl, HE0.out⟩
  case round =>
    obtain ⟨j, hj, rfl, hr⟩ := hrel
    clear HE0
    by_cases hlt : j < N
    · have hlk : j < (dirtyK D.new D.new.length).length := by rw [dirtyK_cnt (Nat.le_refl _), ← HN.out]; exact hlt
      obtain ⟨i, hx, hi, hw, hc⟩ := dirtyK_at (Nat.le_refl _) (List.getElem?_eq_getElem hlk)
      obtain ⟨bd, hBe, hbl, hcell⟩ := hr.out.ks (by omega)
      have xk := hcell j hlk
      rw [hx] at xk
      subst hBe
      have hn : i < D.on.length := by rw [← HOk.out.len]; exact hi
      have hn64 := (HOk.out.new64 _ (getD_mem hi)).resolve_left hw
      have hsl := slot_nat hi
      rw [if_neg hw] at hsl
      have k1 := hr.out.d.cel.cell (i := 1) rfl
      have hgl := hr.out.d.cel.lt
      have pn : (i : Int) < (D.on.length : Int) := by omega
      have pj : (j : Int) < (N : Int) := by omega
      have hn48 : (i : Int) ≤ 2048 := by omega
      have hlk1 := hr.out.d.mp.look1 (x := (i : Int)) (by omega) (by omega) hsl
      obtain ⟨n, hnv⟩ : ∃ n, n = D.new.getD i nil0 := ⟨_, rfl⟩
      rw [← hnv] at hn64 hlk1
      obtain ⟨p, hpv⟩ : ∃ p, p = ps.getD j 0 := ⟨_, rfl⟩
      obtain ⟨m, hm⟩ : ∃ m, cutN p = m := ⟨_, rfl⟩
      have hm64 : m ≤ 64 := by rw [← hm]; exact cut_le p
      have pm : (m : Int) ≤ 64 := by omega
      have HRe := Lib.hid (fun W => by have := reached_any p W; rw [hm] at this; exact this)
      have htc := torn_cells (HOk.out.on64 _ (List.getElem_mem hn)) hn64 p
      rw [hm] at htc
      have hs1 := put_cells wr Z HZ.out hn64
      have hcl : (secC n).length = 64 := by rw [secC_len, hn64]
      unfold secV at hlk1
      have HM : Hid (CrMid w (wr.alloc (.cells (secC n).toArray 64)) g a b wr.heap.size (some bd) D ps j n) := Lib.hid
        ⟨hr.out.step ((Below.refl _ wr).alloc (Nat.le_refl _) _), heap_alloc_new wr _⟩
      have HI := Lib.hid (And.intro hi (And.intro hw (And.intro hc (And.intro hn (And.intro hn64 (And.intro hnv (And.intro hpv (And.intro htc hm64))))))))
      have hP := HPs.out wr hr.out.f
      clear hlk hx hi hw hc hn64 hnv htc hm64 hsl hcell hle
      obtain ⟨C1, hC⟩ : ∃ C1, secC n = C1 := ⟨_, rfl⟩
      have HC := Lib.hid hC
      rw [hC] at hs1 hlk1 hcl HM
      clear hC
      by_cases hk : j < ps.length
      case neg =>
        have hp0 : p = 0 := by rw [hpv, List.getD_eq_getElem?_getD, List.getElem?_eq_none (by omega)]; rfl
        have pk : (ps.length : Int) ≤ (j : Int) := by omega
        have hmv : m = 0 := by rw [← hm, hp0]; rfl
        subst hp0
        clear hm hpv hk hP hmv
        go_upto_region 7 with fail
        generalize wr.alloc (.cells C1.toArray 64) = W1 at HM ⊢
        generalize wr.heap.size = vb at HM ⊢
        clear hs1 hlk1 hcl k1 hgl xk
        refine wp_region_said 10 [34, 35, 36, 37, 38, 39, 40, 41, 42, 43]
          [.is (.pointer (some ⟨g, 0, none⟩)), .is (.pointer (some ⟨g, 0, none⟩)), .is (.pointer (some ⟨g, 0, none⟩)), .is (.slice (some ⟨a, 0, none⟩) D.on.length D.on.length), .is (.int .i64 (i : Int)), .is (.pointer (some ⟨a, i * 64, none⟩)), .is (.slice (some ⟨a, i * 64, none⟩) 64 64), .is (.int .i64 0), .is (.int .i64 (m : Int)), .is (.slice (some ⟨vb, 0, none⟩) m 64)]
          (fun W => CrMid w W g a b vb (some bd) D ps j n) (by kernel_rfl) (by kernel_rfl) (by kernel_rfl) (by kernel_rfl) (by kernel_rfl) (fun W W' h hb => h.step hb) HM.out ?stepsa ?lasta
        case stepsa =>
          simp only [List.take_succ_cons, List.take_zero]
          refine ⟨?_, ?_, ?_, ?_, ?_, ?_, ?_, ?_, ?_, ?_, trivial⟩
          all_goals
            intro vs W ρ hρ hc hf hg hI hH hd R' hR
            have z0 := hI.e.d.cel.cell (i := 0) rfl
            simp only [crL_len] at z0
            have HR := Lib.hid hR
            simp [depsOf, Region.binds, sayAt, Say.holds] at hd
            clear hR hI
            go_simp
            first
              | exact HR.out _ _ (by simp [sayAt, Say.holds]) (Below.refl _ _) (by simp [sayAt, Say.isBlk])
              | (refine (HRe.out _).mono ?_; rintro e w' ⟨rfl, rfl⟩; exact ⟨_, rfl, HR.out _ _ (by simp [sayAt, Say.holds]) (Below.refl _ _) (by simp [sayAt, Say.isBlk])⟩)
              | trace_state
        case lasta =>
          intro vs W hI hb hg hd
          have e6 := hg 6 (by omega)
          have e9 := hg 9 (by omega)
          simp only [sayAt, Say.holds, List.getD_cons_succ, List.getD_cons_zero] at e6 e9
          simp only [List.take_succ_cons, List.take_zero, List.drop_succ_cons, List.drop_zero, putAll, Act.put, List.setIfInBounds_toArray, List.set_cons_succ, List.set_cons_zero, Nat.zero_add, Nat.reduceAdd]
          rw [e6, e9]
          have hcp := fun ty => copy_part ty hI.e.d.ro (crL_64 HOk.out ps j) (i := i) (by rw [crL_len]; exact HI.out.2.2.2.1) hI.c HI.out.2.2.2.2.1 HI.out.2.2.2.2.2.2.2.2 (torn D.on[i] n 0) (by
            rw [crL_at HI.out.2.2.2.1 HI.out.2.2.1]; exact HI.out.2.2.2.2.2.2.2.1)
          have hA := CrEnv.put HOk.out hlt0.out.1 HI.out.2.2.2.1 HI.out.2.1 HI.out.2.2.1 hI.e HI.out.2.2.2.2.2.1 HI.out.2.2.2.2.2.2.1
          have HA := Lib.hid hA
          clear hA
          generalize W.setRow a (onC ((crL D ps j).set i (torn D.on[i] n 0))).toArray = W6 at HA hcp ⊢
          have wj : IntKind.i64.wrap ((j : Int) + 1) = (j : Int) + 1 := i64_wrap (by omega) (by omega)
          clear e6 e9 hg hd hb hI HM HC HI HRe
          go_wp2_with fail
          go_roundw
          case rel => exact ⟨j + 1, by omega, by go_num, HA.out⟩
          case measure => simp [intOf]; omega
      case pos =>
        obtain ⟨ad, hAe, xp⟩ := hP j hk
        have hp1 : ps[j] = p := by rw [hpv, List.getD_eq_getElem?_getD, List.getElem?_eq_getElem hk]; rfl
        rw [hp1] at xp
        have pk : (j : Int) < (ps.length : Int) := by omega
        subst hAe
        clear hm hpv hk hP hp1
        go_upto_region 7 with fail
        generalize wr.alloc (.cells C1.toArray 64) = W1 at HM ⊢
        generalize wr.heap.size = vb at HM ⊢
        clear hs1 hlk1 hcl k1 hgl xk
        refine wp_region_said 10 [34, 35, 36, 37, 38, 39, 40, 41, 42, 43]
          [.is (.pointer (some ⟨g, 0, none⟩)), .is (.pointer (some ⟨g, 0, none⟩)), .is (.pointer (some ⟨g, 0, none⟩)), .is (.slice (some ⟨a, 0, none⟩) D.on.length D.on.length), .is (.int .i64 (i : Int)), .is (.pointer (some ⟨a, i * 64, none⟩)), .is (.slice (some ⟨a, i * 64, none⟩) 64 64), .is (.int .i64 p), .is (.int .i64 (m : Int)), .is (.slice (some ⟨vb, 0, none⟩) m 64)]
          (fun W => CrMid w W g a b vb (some bd) D ps j n) (by kernel_rfl) (by kernel_rfl) (by kernel_rfl) (by kernel_rfl) (by kernel_rfl) (fun W W' h hb => h.step hb) HM.out ?stepsb ?lastb
        case stepsb =>
          simp only [List.take_succ_cons, List.take_zero]
          refine ⟨?_, ?_, ?_, ?_, ?_, ?_, ?_, ?_, ?_, ?_, trivial⟩
          all_goals
            intro vs W ρ hρ hc hf hg hI hH hd R' hR
            have z0 := hI.e.d.cel.cell (i := 0) rfl
            simp only [crL_len] at z0
            have HR := Lib.hid hR
            simp [depsOf, Region.binds, sayAt, Say.holds] at hd
            clear hR hI
            go_simp
            first
              | exact HR.out _ _ (by simp [sayAt, Say.holds]) (Below.refl _ _) (by simp [sayAt, Say.isBlk])
              | (refine (HRe.out _).mono ?_; rintro e w' ⟨rfl, rfl⟩; exact ⟨_, rfl, HR.out _ _ (by simp [sayAt, Say.holds]) (Below.refl _ _) (by simp [sayAt, Say.isBlk])⟩)
              | trace_state
        case lastb =>
          intro vs W hI hb hg hd
          have e6 := hg 6 (by omega)
          have e9 := hg 9 (by omega)
          simp only [sayAt, Say.holds, List.getD_cons_succ, List.getD_cons_zero] at e6 e9
          simp only [List.take_succ_cons, List.take_zero, List.drop_succ_cons, List.drop_zero, putAll, Act.put, List.setIfInBounds_toArray, List.set_cons_succ, List.set_cons_zero, Nat.zero_add, Nat.reduceAdd]
          rw [e6, e9]
          have hcp := fun ty => copy_part ty hI.e.d.ro (crL_64 HOk.out ps j) (i := i) (by rw [crL_len]; exact HI.out.2.2.2.1) hI.c HI.out.2.2.2.2.1 HI.out.2.2.2.2.2.2.2.2 (torn D.on[i] n p) (by
            rw [crL_at HI.out.2.2.2.1 HI.out.2.2.1]; exact HI.out.2.2.2.2.2.2.2.1)
          have hA := CrEnv.put HOk.out hlt0.out.1 HI.out.2.2.2.1 HI.out.2.1 HI.out.2.2.1 hI.e HI.out.2.2.2.2.2.1 HI.out.2.2.2.2.2.2.1
          have HA := Lib.hid hA
          clear hA
          generalize W.setRow a (onC ((crL D ps j).set i (torn D.on[i] n p))).toArray = W6 at HA hcp ⊢
          have wj : IntKind.i64.wrap ((j : Int) + 1) = (j : Int) + 1 := i64_wrap (by omega) (by omega)
          clear e6 e9 hg hd hb hI HM HC HI HRe
          go_wp2_with fail
          go_roundw
          case rel => exact ⟨j + 1, by omega, by go_num, HA.out⟩
          case measure => simp [intOf]; omega
    · obtain rfl : j = N := by omega
      have HR := Lib.hid (lrestart_any hr.out.d D.on.length)
      have HF := Lib.hid hr.out.f
      clear hr
      go_wp2_with fail
      refine HR.out.mono ?_
      rintro e w5 ⟨rfl, hb⟩
      have HB := Lib.hid hb
      clear hb
      go_wp2_with fail
      refine bodyPost_end (results_none rfl _ _ _) rfl ?_
      refine ⟨rfl, ?_, HF.out.trans HB.out.2⟩
      have e1 : calm ⟨crL D ps j, D.new, D.left, D.down⟩ D.on.length = crD D ps := by
        unfold calm crD
        rw [HN.out, crL_end HOk.out, ← HOk.out.len, upd_all]
      rw [← e1]
      exact HB.out.1

end

end Sc
end Go.Proofs.Ytecgimnmccmpjaa
