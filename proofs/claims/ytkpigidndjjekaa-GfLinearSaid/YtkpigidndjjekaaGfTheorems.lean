/- The walks of the laws of a field over gf: the ring's laws, what is divided comes back, logs add up; each ends in true, and makes new memory alone; no condition but the arguments' range. -/
import Derived.Test.YtkpigidndjjekaaGfLaws
namespace Go.Proofs.Ytkpigidndjjekaa
open Go.RowKit
open GfM (dbl pw lgA lg)

set_option maxRecDepth 20000 in
set_option maxHeartbeats 1000000 in
theorem ring_walk (a' b' c' : Int) (wa : (Lit.int .u8 a').wf = true) (wb : (Lit.int .u8 b').wf = true) (wc : (Lit.int .u8 c').wf = true) (w : World) :
    Calls Try.prog 7 #[.int .u8 a', .int .u8 b', .int .u8 c'] w fun e w' => e = .returned (.bool true) ∧ Grown w w' := by
  obtain ⟨a, rfl, ha⟩ := wf_u8 wa
  obtain ⟨b, rfl, hb⟩ := wf_u8 wb
  obtain ⟨c, rfl, hc⟩ := wf_u8 wc
  clear wa wb wc
  have hab := GfM.xor_le ha hb
  have hbc := GfM.xor_le hb hc
  have mab := GfM.mul_le a b
  have mbc := GfM.mul_le b c
  have mac := GfM.mul_le a c
  go_enter Try.func7, Try.ntmps7
  go_wp2_with fail
  refine (field_any _).mono ?_
  rintro e w1 ⟨rfl, hF, hG⟩
  have HF := Lib.hid hF
  have HG := Lib.hid hG
  clear hF hG
  go_wp2_with fail
  refine (add_to _ _ a b (a ^^^ b) _ rfl rfl ha hb rfl).mono ?_
  rintro e w2 ⟨rfl, rfl⟩
  go_wp2_with fail
  refine (add_to _ _ b a (a ^^^ b) _ rfl rfl hb ha (Nat.xor_comm b a)).mono ?_
  rintro e w2 ⟨rfl, rfl⟩
  go_wp2_with fail
  refine (add_to _ _ a b (a ^^^ b) _ rfl rfl ha hb rfl).mono ?_
  rintro e w2 ⟨rfl, rfl⟩
  go_wp2_with fail
  refine (add_to _ _ (a ^^^ b) c (a ^^^ (b ^^^ c)) _ rfl rfl hab hc (Nat.xor_assoc a b c)).mono ?_
  rintro e w2 ⟨rfl, rfl⟩
  go_wp2_with fail
  refine (add_to _ _ b c (b ^^^ c) _ rfl rfl hb hc rfl).mono ?_
  rintro e w2 ⟨rfl, rfl⟩
  go_wp2_with fail
  refine (add_to _ _ a (b ^^^ c) (a ^^^ (b ^^^ c)) _ rfl rfl ha hbc rfl).mono ?_
  rintro e w2 ⟨rfl, rfl⟩
  go_wp2_with fail
  refine (add_to _ _ a 0 a _ rfl rfl ha (by omega) (Nat.xor_zero a)).mono ?_
  rintro e w2 ⟨rfl, rfl⟩
  go_wp2_with fail
  refine (add_to _ _ a a 0 _ rfl rfl ha ha (Nat.xor_self a)).mono ?_
  rintro e w2 ⟨rfl, rfl⟩
  go_wp2_with fail
  refine (mul_to _ _ _ a b (GfM.mul a b) _ HF.out rfl rfl ha hb rfl).mono ?_
  rintro e w2 ⟨rfl, n1, rfl⟩
  go_wp2_with fail
  refine (mul_to _ _ _ b a (GfM.mul a b) _ (HF.out.drewN _) rfl rfl hb ha (GfM.mul_comm b a)).mono ?_
  rintro e w2 ⟨rfl, n2, rfl⟩
  go_wp2_with fail
  refine (mul_to _ _ _ a b (GfM.mul a b) _ (HF.out.drewN _) rfl rfl ha hb rfl).mono ?_
  rintro e w2 ⟨rfl, n3, rfl⟩
  go_wp2_with fail
  refine (mul_to _ _ _ (GfM.mul a b) c (GfM.mul a (GfM.mul b c)) _ (HF.out.drewN _) rfl rfl mab hc (GfM.mul_assoc ha hb hc)).mono ?_
  rintro e w2 ⟨rfl, n4, rfl⟩
  go_wp2_with fail
  refine (mul_to _ _ _ b c (GfM.mul b c) _ (HF.out.drewN _) rfl rfl hb hc rfl).mono ?_
  rintro e w2 ⟨rfl, n5, rfl⟩
  go_wp2_with fail
  refine (mul_to _ _ _ a (GfM.mul b c) (GfM.mul a (GfM.mul b c)) _ (HF.out.drewN _) rfl rfl ha mbc rfl).mono ?_
  rintro e w2 ⟨rfl, n6, rfl⟩
  go_wp2_with fail
  refine (mul_to _ _ _ a 1 a _ (HF.out.drewN _) rfl rfl ha (by omega) (GfM.mul_one ha)).mono ?_
  rintro e w2 ⟨rfl, n7, rfl⟩
  go_wp2_with fail
  refine (mul_to _ _ _ a 0 0 _ (HF.out.drewN _) rfl rfl ha (by omega) (GfM.mul_zero a)).mono ?_
  rintro e w2 ⟨rfl, n8, rfl⟩
  go_wp2_with fail
  refine (add_to _ _ b c (b ^^^ c) _ rfl rfl hb hc rfl).mono ?_
  rintro e w2 ⟨rfl, rfl⟩
  go_wp2_with fail
  refine (mul_to _ _ _ a (b ^^^ c) (GfM.mul a (b ^^^ c)) _ (HF.out.drewN _) rfl rfl ha hbc rfl).mono ?_
  rintro e w2 ⟨rfl, n9, rfl⟩
  go_wp2_with fail
  refine (mul_to _ _ _ a b (GfM.mul a b) _ (HF.out.drewN _) rfl rfl ha hb rfl).mono ?_
  rintro e w2 ⟨rfl, n10, rfl⟩
  go_wp2_with fail
  refine (mul_to _ _ _ a c (GfM.mul a c) _ (HF.out.drewN _) rfl rfl ha hc rfl).mono ?_
  rintro e w2 ⟨rfl, n11, rfl⟩
  go_wp2_with fail
  refine (add_to _ _ (GfM.mul a b) (GfM.mul a c) (GfM.mul a (b ^^^ c)) _ rfl rfl mab mac (GfM.mul_xor ha hb hc).symm).mono ?_
  rintro e w2 ⟨rfl, rfl⟩
  go_wp2_with fail
  go_ret
  exact ⟨rfl, grown_drewN HG.out _⟩

theorem inv_to (B : Nat) (a' : Int) (a v g : Nat) (w : World) (hF : FieldAt w B) (ea : a' = (a : Int)) (ha : a ≤ 255) (h : GfM.divv 1 a = v) (h' : GfM.dive a = g) :
    Calls Try.prog 18 #[.pointer (some ⟨B, 0, none⟩), .int .u8 a'] w fun e w' =>
      e = .returned (.tuple #[.int .u8 (v : Int), .int .i64 (g : Int)]) ∧ ∃ n, w' = w.drewN n := by
  subst h h'; exact inv_at B a' a w hF ea ha
theorem div_to (B : Nat) (a' b' : Int) (a b v g : Nat) (w : World) (hF : FieldAt w B) (ea : a' = (a : Int)) (eb : b' = (b : Int)) (ha : a ≤ 255) (hb : b ≤ 255) (h : GfM.divv a b = v) (h' : GfM.dive b = g) :
    Calls Try.prog 20 #[.pointer (some ⟨B, 0, none⟩), .int .u8 a', .int .u8 b'] w fun e w' =>
      e = .returned (.tuple #[.int .u8 (v : Int), .int .i64 (g : Int)]) ∧ ∃ n, w' = w.drewN n := by
  subst h h'; exact div_at B a' b' a b w hF ea eb ha hb
theorem log_to (B : Nat) (a' : Int) (a v g : Nat) (w : World) (hF : FieldAt w B) (ea : a' = (a : Int)) (ha : a ≤ 255) (h : GfM.logv a = v) (h' : GfM.dive a = g) :
    Calls Try.prog 22 #[.pointer (some ⟨B, 0, none⟩), .int .u8 a'] w fun e w' =>
      e = .returned (.tuple #[.int .i64 (v : Int), .int .i64 (g : Int)]) ∧ w = w' := by
  subst h h'; exact logm_at B a' a w hF ea ha
theorem divv_zero (a : Nat) : GfM.divv a 0 = 0 := by unfold GfM.divv; rw [if_pos (Or.inr rfl)]
theorem dive_pos {b : Nat} (h : b ≠ 0) : GfM.dive b = 0 := by unfold GfM.dive; rw [if_neg h]

set_option maxRecDepth 20000 in
set_option maxHeartbeats 1000000 in
theorem back_walk (a' b' : Int) (wa : (Lit.int .u8 a').wf = true) (wb : (Lit.int .u8 b').wf = true) (w : World) :
    Calls Try.prog 8 #[.int .u8 a', .int .u8 b'] w fun e w' => e = .returned (.bool true) ∧ Grown w w' := by
  obtain ⟨a, rfl, ha⟩ := wf_u8 wa
  obtain ⟨b, rfl, hb⟩ := wf_u8 wb
  clear wa wb
  have d1 := GfM.divv_le 1 b
  have d2 := GfM.divv_le a b
  by_cases hb0 : b = 0
  · subst hb0
    clear d1 d2
    obtain ⟨q, t1⟩ : ∃ q, ((a : Int) == 0) = q := ⟨_, rfl⟩
    cases q
    · go_enter Try.func8, Try.ntmps8
      go_wp2_with fail
      refine (field_any _).mono ?_
      rintro e w1 ⟨rfl, hF, hG⟩
      have HF := Lib.hid hF
      have HG := Lib.hid hG
      clear hF hG
      go_wp2_with fail
      refine (mul_to _ _ _ a 0 0 _ HF.out rfl rfl ha hb (GfM.mul_zero a)).mono ?_
      rintro e w2 ⟨rfl, n1, rfl⟩
      go_wp2_with fail
      refine (inv_to _ _ 0 0 1 _ (HF.out.drewN _) rfl hb rfl rfl).mono ?_
      rintro e w2 ⟨rfl, n2, rfl⟩
      go_wp2_with fail
      refine (div_to _ _ _ a 0 0 1 _ (HF.out.drewN _) rfl rfl ha hb (divv_zero a) rfl).mono ?_
      rintro e w2 ⟨rfl, n3, rfl⟩
      go_wp2_with fail
      go_ret
      exact ⟨rfl, grown_drewN HG.out _⟩
    · go_enter Try.func8, Try.ntmps8
      go_wp2_with fail
      refine (field_any _).mono ?_
      rintro e w1 ⟨rfl, hF, hG⟩
      have HF := Lib.hid hF
      have HG := Lib.hid hG
      clear hF hG
      go_wp2_with fail
      refine (mul_to _ _ _ a 0 0 _ HF.out rfl rfl ha hb (GfM.mul_zero a)).mono ?_
      rintro e w2 ⟨rfl, n1, rfl⟩
      go_wp2_with fail
      refine (inv_to _ _ 0 0 1 _ (HF.out.drewN _) rfl hb rfl rfl).mono ?_
      rintro e w2 ⟨rfl, n2, rfl⟩
      go_wp2_with fail
      refine (div_to _ _ _ a 0 0 1 _ (HF.out.drewN _) rfl rfl ha hb (divv_zero a) rfl).mono ?_
      rintro e w2 ⟨rfl, n3, rfl⟩
      go_wp2_with fail
      go_ret
      exact ⟨rfl, grown_drewN HG.out _⟩
  · have t2 : ((b : Int) == 0) = false := by simp; omega
    by_cases ha0 : a = 0
    · have t1 : ((a : Int) == 0) = true := by simp [ha0]
      have t3 : ((GfM.mul a b : Int) == 0) = true := by simp [ha0, GfM.zero_mul]
      clear ha0
      go_enter Try.func8, Try.ntmps8
      go_wp2_with fail
      refine (field_any _).mono ?_
      rintro e w1 ⟨rfl, hF, hG⟩
      have HF := Lib.hid hF
      have HG := Lib.hid hG
      clear hF hG
      go_wp2_with fail
      refine (mul_to _ _ _ a b (GfM.mul a b) _ HF.out rfl rfl ha hb rfl).mono ?_
      rintro e w2 ⟨rfl, n1, rfl⟩
      go_wp2_with fail
      refine (inv_to _ _ b (GfM.divv 1 b) 0 _ (HF.out.drewN _) rfl hb rfl (dive_pos hb0)).mono ?_
      rintro e w2 ⟨rfl, n2, rfl⟩
      go_wp2_with fail
      refine (div_to _ _ _ a b (GfM.divv a b) 0 _ (HF.out.drewN _) rfl rfl ha hb rfl (dive_pos hb0)).mono ?_
      rintro e w2 ⟨rfl, n3, rfl⟩
      go_wp2_with fail
      refine (mul_to _ _ _ b (GfM.divv 1 b) 1 _ (HF.out.drewN _) rfl rfl hb d1 (by rw [GfM.mul_comm]; exact GfM.mul_divv (by omega) hb hb0)).mono ?_
      rintro e w2 ⟨rfl, n4, rfl⟩
      go_wp2_with fail
      refine (mul_to _ _ _ (GfM.divv a b) b a _ (HF.out.drewN _) rfl rfl d2 hb (GfM.mul_divv ha hb hb0)).mono ?_
      rintro e w2 ⟨rfl, n5, rfl⟩
      go_wp2_with fail
      refine (mul_to _ _ _ a (GfM.divv 1 b) (GfM.divv a b) _ (HF.out.drewN _) rfl rfl ha d1 (GfM.divv_one ha hb hb0).symm).mono ?_
      rintro e w2 ⟨rfl, n6, rfl⟩
      go_wp2_with fail
      go_ret
      exact ⟨rfl, grown_drewN HG.out _⟩
    · have t1 : ((a : Int) == 0) = false := by simp; omega
      have t3 : ((GfM.mul a b : Int) == 0) = false := by
        have := GfM.mul_eq_zero a b
        simp; omega
      go_enter Try.func8, Try.ntmps8
      go_wp2_with fail
      refine (field_any _).mono ?_
      rintro e w1 ⟨rfl, hF, hG⟩
      have HF := Lib.hid hF
      have HG := Lib.hid hG
      clear hF hG
      go_wp2_with fail
      refine (mul_to _ _ _ a b (GfM.mul a b) _ HF.out rfl rfl ha hb rfl).mono ?_
      rintro e w2 ⟨rfl, n1, rfl⟩
      go_wp2_with fail
      refine (inv_to _ _ b (GfM.divv 1 b) 0 _ (HF.out.drewN _) rfl hb rfl (dive_pos hb0)).mono ?_
      rintro e w2 ⟨rfl, n2, rfl⟩
      go_wp2_with fail
      refine (div_to _ _ _ a b (GfM.divv a b) 0 _ (HF.out.drewN _) rfl rfl ha hb rfl (dive_pos hb0)).mono ?_
      rintro e w2 ⟨rfl, n3, rfl⟩
      go_wp2_with fail
      refine (mul_to _ _ _ b (GfM.divv 1 b) 1 _ (HF.out.drewN _) rfl rfl hb d1 (by rw [GfM.mul_comm]; exact GfM.mul_divv (by omega) hb hb0)).mono ?_
      rintro e w2 ⟨rfl, n4, rfl⟩
      go_wp2_with fail
      refine (mul_to _ _ _ (GfM.divv a b) b a _ (HF.out.drewN _) rfl rfl d2 hb (GfM.mul_divv ha hb hb0)).mono ?_
      rintro e w2 ⟨rfl, n5, rfl⟩
      go_wp2_with fail
      refine (mul_to _ _ _ a (GfM.divv 1 b) (GfM.divv a b) _ (HF.out.drewN _) rfl rfl ha d1 (GfM.divv_one ha hb hb0).symm).mono ?_
      rintro e w2 ⟨rfl, n6, rfl⟩
      go_wp2_with fail
      go_ret
      exact ⟨rfl, grown_drewN HG.out _⟩

end Go.Proofs.Ytkpigidndjjekaa
