/- The walk of the law on logs of gf: it ends in true, and makes new memory alone; no condition but the arguments' range. -/
import Derived.Test.YtkpigidndjjekaaGfTheorems
namespace Go.Proofs.Ytkpigidndjjekaa
open Go.RowKit
open GfM (dbl pw lgA lg)

theorem expv_eq {n : Int} {k : Nat} (h : n % 255 = ((k : Nat) : Int) % 255) : GfM.expv n = pw k := by
  unfold GfM.expv
  rw [h, ← GfM.pw_mod k, show ((k : Int) % 255).toNat = k % 255 from by omega]
theorem expv_per (n : Int) : GfM.expv (n + 255) = GfM.expv n := by
  unfold GfM.expv; rw [show (n + 255) % 255 = n % 255 from by omega]
theorem expv_succ (n : Int) : GfM.mul (GfM.expv n) 2 = GfM.expv (n + 1) := by
  rw [expv_eq (n := n + 1) (k := (n % 255).toNat + 1) (by omega)]
  exact pw_succ_mul _
theorem lg_mul {a b : Nat} (ha0 : a ≠ 0) (hb0 : b ≠ 0) : GfM.logv (GfM.mul a b) = (lg a + lg b) % 255 := by
  have h : GfM.mul a b ≠ 0 := fun e => ((GfM.mul_eq_zero a b).1 e).elim ha0 hb0
  unfold GfM.logv
  rw [if_neg h, GfM.mul_pos ha0 hb0, GfM.lg_pw]
theorem go_rem (n : Int) : ∃ r : Int, -255 < r ∧ r < 255 ∧ ((0 ≤ n ∧ n % 255 = r) ∨ (n < 0 ∧ n.tmod 255 = r)) := by
  by_cases hn : 0 ≤ n
  · exact ⟨n % 255, by omega, by omega, Or.inl ⟨hn, rfl⟩⟩
  · have hq : n.tmod 255 = -((-n) % 255) := by
      have h := Int.neg_tmod (-n) 255
      rw [Int.neg_neg] at h
      rw [h, Int.tmod_eq_emod_of_nonneg (a := -n) (by omega)]
    exact ⟨n.tmod 255, by omega, by omega, Or.inr ⟨by omega, rfl⟩⟩

set_option maxRecDepth 20000 in
set_option maxHeartbeats 2000000 in
theorem logs_zero_walk (a b : Nat) (n : Int) (ha : a ≤ 255) (hb : b ≤ 255) (h0 : -9223372036854775808 ≤ n) (h1 : n ≤ 9223372036854775807) (hz : a = 0 ∨ b = 0) (w : World) :
    Calls Try.prog 9 #[.int .u8 (a : Int), .int .u8 (b : Int), .int .i64 n] w fun e w' => e = .returned (.bool true) ∧ Grown w w' := by
  obtain ⟨r, r1, r2, hr⟩ := go_rem n
  have E1 := Lib.hid (expv_per r)
  have E2 := Lib.hid (expv_succ r)
  have e255 := GfM.expv_le r
  have e1 : 1 ≤ GfM.expv r := (GfM.pw_rng _).1
  have t0 : ((GfM.expv r : Int) == 0) = false := by simp; omega
  have KA : Hid (((GfM.dive a : Nat) : Int) = if a = 0 then 1 else 0) := by unfold GfM.dive; split <;> rfl
  obtain ⟨qa, ta⟩ : ∃ q, ((a : Int) == 0) = q := ⟨_, rfl⟩
  obtain ⟨qb, tb⟩ : ∃ q, ((b : Int) == 0) = q := ⟨_, rfl⟩
  have da : ((GfM.dive a : Nat) : Int) = if qa then 1 else 0 := by rw [← ta]; unfold GfM.dive; by_cases h : a = 0 <;> simp [h]
  have db : ((GfM.dive b : Nat) : Int) = if qb then 1 else 0 := by rw [← tb]; unfold GfM.dive; by_cases h : b = 0 <;> simp [h]
  have hq : qa = true ∨ qb = true := by rw [← ta, ← tb]; simp; omega
  clear hz KA
  cases qa <;> cases qb <;> (try (simp at hq; done)) <;> (simp only [if_true, Bool.false_eq_true, if_false] at da db) <;> clear hq <;> rcases hr with ⟨hn, hr⟩ | ⟨hn, hr⟩
  all_goals
    go_enter Try.func9, Try.ntmps9
    go_wp2_with fail
    refine (field_any _).mono ?_
    rintro e w1 ⟨rfl, hF, hG⟩
    have HF := Lib.hid hF
    have HG := Lib.hid hG
    clear hF hG
    go_wp2_with fail
    refine (exp_to _ _ (GfM.expv r) _ HF.out (by omega) (by omega) rfl).mono ?_
    rintro e w2 ⟨rfl, rfl⟩
    go_wp2_with fail
    refine (exp_to _ _ (GfM.expv r) _ HF.out (by omega) (by omega) E1.out).mono ?_
    rintro e w2 ⟨rfl, rfl⟩
    go_wp2_with fail
    refine (exp_to _ _ (GfM.expv r) _ HF.out (by omega) (by omega) rfl).mono ?_
    rintro e w2 ⟨rfl, rfl⟩
    go_wp2_with fail
    refine (exp_to _ _ (GfM.expv r) _ HF.out (by omega) (by omega) rfl).mono ?_
    rintro e w2 ⟨rfl, rfl⟩
    go_wp2_with fail
    refine (mul_to _ _ _ (GfM.expv r) 2 (GfM.expv (r + 1)) _ HF.out rfl rfl e255 (by omega) E2.out).mono ?_
    rintro e w2 ⟨rfl, n1, rfl⟩
    go_wp2_with fail
    refine (exp_to _ _ (GfM.expv (r + 1)) _ (HF.out.drewN _) (by omega) (by omega) rfl).mono ?_
    rintro e w2 ⟨rfl, rfl⟩
    go_wp2_with fail
    refine (log_to _ _ a (GfM.logv a) (GfM.dive a) _ (HF.out.drewN _) rfl ha rfl rfl).mono ?_
    rintro e w2 ⟨rfl, rfl⟩
    go_wp2_with fail
    refine (log_to _ _ b (GfM.logv b) (GfM.dive b) _ (HF.out.drewN _) rfl hb rfl rfl).mono ?_
    rintro e w2 ⟨rfl, rfl⟩
    go_wp2_with fail
    go_ret
    exact ⟨rfl, grown_drewN HG.out _⟩

set_option maxRecDepth 20000 in
set_option maxHeartbeats 2000000 in
theorem logs_pos_walk (a b : Nat) (n : Int) (ha : a ≤ 255) (hb : b ≤ 255) (h0 : -9223372036854775808 ≤ n) (h1 : n ≤ 9223372036854775807) (ha0 : a ≠ 0) (hb0 : b ≠ 0) (w : World) :
    Calls Try.prog 9 #[.int .u8 (a : Int), .int .u8 (b : Int), .int .i64 n] w fun e w' => e = .returned (.bool true) ∧ Grown w w' := by
  obtain ⟨r, r1, r2, hr⟩ := go_rem n
  have E1 := Lib.hid (expv_per r)
  have E2 := Lib.hid (expv_succ r)
  have e255 := GfM.expv_le r
  have e1 : 1 ≤ GfM.expv r := (GfM.pw_rng _).1
  have t0 : ((GfM.expv r : Int) == 0) = false := by simp; omega
  have ta : ((a : Int) == 0) = false := by simp; omega
  have tb : ((b : Int) == 0) = false := by simp; omega
  have LA : Hid (GfM.logv a = lg a) := by unfold GfM.logv; exact if_neg ha0
  have LB : Hid (GfM.logv b = lg b) := by unfold GfM.logv; exact if_neg hb0
  have LM : Hid (GfM.logv (GfM.mul a b) = (lg a + lg b) % 255) := lg_mul ha0 hb0
  have la := GfM.lg_lt ha0 ha
  have lb := GfM.lg_lt hb0 hb
  have mab := GfM.mul_le a b
  have m0 : GfM.mul a b ≠ 0 := fun e => ((GfM.mul_eq_zero a b).1 e).elim ha0 hb0
  have EA : Hid (GfM.expv (lg a : Int) = a) := by rw [expv_eq (k := lg a) rfl]; exact GfM.pw_lg ha0 ha
  rcases hr with ⟨hn, hr⟩ | ⟨hn, hr⟩
  all_goals
    go_enter Try.func9, Try.ntmps9
    go_wp2_with fail
    refine (field_any _).mono ?_
    rintro e w1 ⟨rfl, hF, hG⟩
    have HF := Lib.hid hF
    have HG := Lib.hid hG
    clear hF hG
    go_wp2_with fail
    refine (exp_to _ _ (GfM.expv r) _ HF.out (by omega) (by omega) rfl).mono ?_
    rintro e w2 ⟨rfl, rfl⟩
    go_wp2_with fail
    refine (exp_to _ _ (GfM.expv r) _ HF.out (by omega) (by omega) E1.out).mono ?_
    rintro e w2 ⟨rfl, rfl⟩
    go_wp2_with fail
    refine (exp_to _ _ (GfM.expv r) _ HF.out (by omega) (by omega) rfl).mono ?_
    rintro e w2 ⟨rfl, rfl⟩
    go_wp2_with fail
    refine (exp_to _ _ (GfM.expv r) _ HF.out (by omega) (by omega) rfl).mono ?_
    rintro e w2 ⟨rfl, rfl⟩
    go_wp2_with fail
    refine (mul_to _ _ _ (GfM.expv r) 2 (GfM.expv (r + 1)) _ HF.out rfl rfl e255 (by omega) E2.out).mono ?_
    rintro e w2 ⟨rfl, n1, rfl⟩
    go_wp2_with fail
    refine (exp_to _ _ (GfM.expv (r + 1)) _ (HF.out.drewN _) (by omega) (by omega) rfl).mono ?_
    rintro e w2 ⟨rfl, rfl⟩
    go_wp2_with fail
    refine (log_to _ _ a (lg a) 0 _ (HF.out.drewN _) rfl ha LA.out (dive_pos ha0)).mono ?_
    rintro e w2 ⟨rfl, rfl⟩
    go_wp2_with fail
    refine (log_to _ _ b (lg b) 0 _ (HF.out.drewN _) rfl hb LB.out (dive_pos hb0)).mono ?_
    rintro e w2 ⟨rfl, rfl⟩
    go_wp2_with fail
    refine (mul_to _ _ _ a b (GfM.mul a b) _ (HF.out.drewN _) rfl rfl ha hb rfl).mono ?_
    rintro e w2 ⟨rfl, n2, rfl⟩
    go_wp2_with fail
    refine (log_to _ _ (GfM.mul a b) ((lg a + lg b) % 255) 0 _ (HF.out.drewN _) rfl mab LM.out (dive_pos m0)).mono ?_
    rintro e w2 ⟨rfl, rfl⟩
    go_wp2_with fail
    refine (exp_to _ _ a _ (HF.out.drewN _) (by omega) (by omega) EA.out).mono ?_
    rintro e w2 ⟨rfl, rfl⟩
    go_wp2_with fail
    go_ret
    exact ⟨rfl, grown_drewN HG.out _⟩

theorem logs_walk (a' b' n : Int) (wa : (Lit.int .u8 a').wf = true) (wb : (Lit.int .u8 b').wf = true) (wn : (Lit.int .i64 n).wf = true) (w : World) :
    Calls Try.prog 9 #[.int .u8 a', .int .u8 b', .int .i64 n] w fun e w' => e = .returned (.bool true) ∧ Grown w w' := by
  obtain ⟨a, rfl, ha⟩ := wf_u8 wa
  obtain ⟨b, rfl, hb⟩ := wf_u8 wb
  obtain ⟨h0, h1⟩ := wf_i64' wn
  by_cases hz : a = 0 ∨ b = 0
  · exact logs_zero_walk a b n ha hb h0 h1 hz w
  · exact logs_pos_walk a b n ha hb h0 h1 (fun e => hz (Or.inl e)) (fun e => hz (Or.inr e)) w
end Go.Proofs.Ytkpigidndjjekaa
