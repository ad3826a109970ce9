/- The walks of the laws on squares and powers of gf: each ends in true, and makes new memory alone; no condition but the arguments' range. -/
import Derived.Test.YtkpigidndjjekaaGfLogs
namespace Go.Proofs.Ytkpigidndjjekaa
open Go.RowKit
open GfM (dbl pw lgA lg)

set_option maxRecDepth 20000 in
set_option maxHeartbeats 400000 in
theorem among_to (n k : Int) (m : Nat) (w : World) (h0 : -9223372036854775808 ≤ n) (h1 : n ≤ 9223372036854775807) (k0 : 0 < k) (k1 : k ≤ 1152921504606846976) (h : n % k = (m : Int)) :
    Calls Try.prog 31 #[.int .i64 n, .int .i64 k] w fun e w' => e = .returned (.int .i64 (m : Int)) ∧ w = w' := by
  have hm : (m : Int) < k := by rw [← h]; exact Int.emod_lt_of_pos _ k0
  have t1 : (k == 0) = false := by simp; omega
  obtain ⟨r, hr, r1, r2, hs⟩ : ∃ r : Int, ((0 ≤ n ∧ n % k = r) ∨ (n < 0 ∧ n.tmod k = r)) ∧ -k < r ∧ r < k ∧ (r + k) % k = (m : Int) := by
    by_cases hn : 0 ≤ n
    · exact ⟨n % k, Or.inl ⟨hn, rfl⟩, by have := Int.emod_nonneg n (by omega : k ≠ 0); omega, Int.emod_lt_of_pos _ k0, by rw [Int.add_emod_right, Int.emod_emod_of_dvd _ (Int.dvd_refl k), h]⟩
    · have hq : n.tmod k = -((-n) % k) := by
        have h := Int.neg_tmod (-n) k
        rw [Int.neg_neg] at h
        rw [h, Int.tmod_eq_emod_of_nonneg (a := -n) (by omega)]
      have a1 := Int.emod_nonneg (-n) (by omega : k ≠ 0)
      have a2 := Int.emod_lt_of_pos (-n) k0
      refine ⟨n.tmod k, Or.inr ⟨by omega, rfl⟩, by omega, by omega, ?_⟩
      rw [Int.add_emod_right, hq, ← h]
      have : -((-n) % k) = n + k * ((-n) / k) := by have := Int.emod_add_mul_ediv (-n) k; omega
      rw [this, Int.add_mul_emod_self_left]
  have s1 : r + k < 9223372036854775808 := by omega
  rcases hr with ⟨hn, hr⟩ | ⟨hn, hr⟩
  all_goals
    clear h
    go_enter Try.func31, Try.ntmps31
    go_wp2
    go_ret
    exact ⟨ret_int hs, rfl⟩

theorem among_is (n k : Int) (k0 : 0 < k) : ∃ m : Nat, n % k = (m : Int) ∧ (m : Int) < k := by
  have a1 := Int.emod_nonneg n (by omega : k ≠ 0)
  have a2 := Int.emod_lt_of_pos n k0
  exact ⟨(n % k).toNat, by omega, by omega⟩

set_option maxRecDepth 20000 in
set_option maxHeartbeats 1000000 in
theorem squares_walk (a' b' n : Int) (wa : (Lit.int .u8 a').wf = true) (wb : (Lit.int .u8 b').wf = true) (wn : (Lit.int .i64 n).wf = true) (w : World) :
    Calls Try.prog 11 #[.int .u8 a', .int .u8 b', .int .i64 n] w fun e w' => e = .returned (.bool true) ∧ Grown w w' := by
  obtain ⟨a, rfl, ha⟩ := wf_u8 wa
  obtain ⟨b, rfl, hb⟩ := wf_u8 wb
  obtain ⟨h0, h1⟩ := wf_i64' wn
  obtain ⟨m, hm, hm8⟩ := among_is n 8 (by omega)
  have HM := Lib.hid hm
  clear wa wb wn hm
  have e1 : bits .xor .u8 (a : Int) (b : Int) = ((a ^^^ b : Nat) : Int) := u8_xor_nat a b (by omega) (by omega)
  go_enter Try.func11, Try.ntmps11
  go_wp2_with fail
  refine (field_any _).mono ?_
  rintro e w1 ⟨rfl, hF, hG⟩
  have HF := Lib.hid hF
  have HG := Lib.hid hG
  clear hF hG
  go_wp2_with fail
  refine (among_to n 8 m _ h0 h1 (by omega) (by omega) HM.out).mono ?_
  rintro e w2 ⟨rfl, rfl⟩
  go_wp2_with fail
  go_loopw [0, 1, 9, 22] (fun xs ys ss i wr => ∃ k x y d : Nat, k ≤ m + 1 ∧ x ≤ 255 ∧ y ≤ 255 ∧ i = .int .i64 (k : Int) ∧ xs = .int .u8 (x : Int) ∧ ys = .int .u8 (y : Int) ∧ ss = .int .u8 ((x ^^^ y : Nat) : Int) ∧ wr = w1.drewN d) (fun _ _ _ i _ => m + 1 - (intOf i).toNat)
  case atStart => exact ⟨0, a, b, 0, by omega, ha, hb, rfl, rfl, rfl, rfl, rfl⟩
  case round =>
    obtain ⟨k, x, y, d, hk, hx, hy, rfl, rfl, rfl, rfl, rfl⟩ := hrel
    have hxy := GfM.xor_le hx hy
    by_cases hlt : k < m + 1
    · go_wp2_with fail
      refine (mul_to _ _ _ x x (GfM.mul x x) _ (HF.out.drewN _) rfl rfl hx hx rfl).mono ?_
      rintro e w2 ⟨rfl, n1, rfl⟩
      go_wp2_with fail
      refine (mul_to _ _ _ y y (GfM.mul y y) _ (HF.out.drewN _) rfl rfl hy hy rfl).mono ?_
      rintro e w2 ⟨rfl, n2, rfl⟩
      go_wp2_with fail
      refine (mul_to _ _ _ (x ^^^ y) (x ^^^ y) (GfM.mul x x ^^^ GfM.mul y y) _ (HF.out.drewN _) rfl rfl hxy hxy (GfM.sq_xor hx hy)).mono ?_
      rintro e w2 ⟨rfl, n3, rfl⟩
      go_wp2_with fail
      go_roundw
      case rel => exact ⟨k + 1, _, _, _, by omega, GfM.mul_le x x, GfM.mul_le y y, by go_num, rfl, rfl, rfl, rfl⟩
      case measure => simp [intOf]; omega
    · have e2 : bits .xor .u8 (x : Int) (y : Int) = ((x ^^^ y : Nat) : Int) := u8_xor_nat x y (by omega) (by omega)
      obtain rfl : k = m + 1 := by omega
      go_wp2_with fail
      go_ret
      exact ⟨rfl, grown_drewN HG.out _⟩

/-- an element times itself, k times -/
def powv (a : Nat) : Nat → Nat
  | 0 => 1
  | k + 1 => GfM.mul (powv a k) a
theorem powv_le (a k : Nat) : powv a k ≤ 255 := by
  cases k with
  | zero => simp [powv]
  | succ k => exact GfM.mul_le _ _
theorem powv_pw {a : Nat} (k : Nat) (h0 : a ≠ 0) (ha : a ≤ 255) : powv a k = pw (lg a * k) := by
  induction k with
  | zero => rfl
  | succ k ih => show GfM.mul (powv a k) a = _; rw [ih, mul_pw_lg k h0 ha]
theorem powv_255 {a : Nat} (h0 : a ≠ 0) (ha : a ≤ 255) : powv a 255 = 1 := by
  rw [powv_pw 255 h0 ha, Nat.mul_comm, show 255 * lg a = 0 + 255 * lg a from by omega, GfM.pw_mul]; rfl
theorem powv_zero (k : Nat) : powv 0 (k + 1) = 0 := GfM.mul_zero _

set_option maxRecDepth 20000 in
set_option maxHeartbeats 1000000 in
theorem powersof_walk (a' n : Int) (wa : (Lit.int .u8 a').wf = true) (wn : (Lit.int .i64 n).wf = true) (w : World) :
    Calls Try.prog 12 #[.int .u8 a', .int .i64 n] w fun e w' => e = .returned (.bool true) ∧ Grown w w' := by
  obtain ⟨a, rfl, ha⟩ := wf_u8 wa
  obtain ⟨h0, h1⟩ := wf_i64' wn
  obtain ⟨m, hm, hm8⟩ := among_is n 600 (by omega)
  have HM := Lib.hid hm
  clear wa wn hm
  have hl := GfM.logv_le a
  go_enter Try.func12, Try.ntmps12
  go_wp2_with fail
  refine (field_any _).mono ?_
  rintro e w1 ⟨rfl, hF, hG⟩
  have HF := Lib.hid hF
  have HG := Lib.hid hG
  clear hF hG
  go_wp2_with fail
  refine (among_to n 600 m _ h0 h1 (by omega) (by omega) HM.out).mono ?_
  rintro e w2 ⟨rfl, rfl⟩
  go_wp2_with fail
  refine (logm_at _ _ a _ HF.out rfl ha).mono ?_
  rintro e w2 ⟨rfl, rfl⟩
  go_wp2_with fail
  go_loopw [9, 26] (fun xs i wr => ∃ k d : Nat, k ≤ m ∧ i = .int .i64 (k : Int) ∧ xs = .int .u8 ((powv a k : Nat) : Int) ∧ wr = w1.drewN d) (fun _ i _ => m - (intOf i).toNat)
  case atStart => exact ⟨0, 0, by omega, rfl, rfl, rfl⟩
  case round =>
    obtain ⟨k, d, hk, rfl, rfl, rfl⟩ := hrel
    have hp := powv_le a k
    by_cases hlt : k < m
    · go_wp2_with fail
      refine (mul_to _ _ _ (powv a k) a (powv a (k + 1)) _ (HF.out.drewN _) rfl rfl hp ha rfl).mono ?_
      rintro e w2 ⟨rfl, n1, rfl⟩
      go_wp2_with fail
      go_roundw
      case rel => exact ⟨k + 1, _, by omega, by go_num, rfl, rfl⟩
      case measure => simp [intOf]; omega
    · obtain rfl : k = m := by omega
      go_wp2_with fail
      go_loopw [10, 33] (fun xs i wr => ∃ j d : Nat, j ≤ 255 ∧ i = .int .i64 (j : Int) ∧ xs = .int .u8 ((powv a j : Nat) : Int) ∧ wr = w1.drewN d) (fun _ i _ => 255 - (intOf i).toNat)
      case atStart => exact ⟨0, _, by omega, rfl, rfl, rfl⟩
      case round =>
        obtain ⟨j, d2, hj, rfl, rfl, rfl⟩ := hrel
        have hp2 := powv_le a j
        by_cases hlt2 : j < 255
        · go_wp2_with fail
          refine (mul_to _ _ _ (powv a j) a (powv a (j + 1)) _ (HF.out.drewN _) rfl rfl hp2 ha rfl).mono ?_
          rintro e w2 ⟨rfl, n1, rfl⟩
          go_wp2_with fail
          go_roundw
          case rel => exact ⟨j + 1, _, by omega, by go_num, rfl, rfl⟩
          case measure => simp [intOf]; omega
        · obtain rfl : j = 255 := by omega
          by_cases ha0 : a = 0
          · have t1 : ((a : Int) == 0) = true := by simp [ha0]
            have t2 : ((powv a 255 : Int) == 0) = true := by rw [ha0, powv_zero 254]; rfl
            clear ha0
            go_wp2_with fail
            go_ret
            exact ⟨rfl, grown_drewN HG.out _⟩
          · have t1 : ((a : Int) == 0) = false := by simp; omega
            have t3 : ((a : Int) != 0) = true := by simp; omega
            have t2 : ((powv a 255 : Int) == 1) = true := by rw [powv_255 ha0 ha]; rfl
            have q : (GfM.logv a * k : Nat) ≤ 254 * 600 := Nat.mul_le_mul hl (by omega)
            have q2 : (GfM.logv a : Int) * (k : Int) ≤ 254 * 600 := by rw [← Int.natCast_mul]; omega
            have q0 : 0 ≤ (GfM.logv a : Int) * (k : Int) := by rw [← Int.natCast_mul]; omega
            have E : Hid (GfM.expv ((GfM.logv a : Int) * (k : Int)) = powv a k) := by
              rw [powv_pw k ha0 ha, ← Int.natCast_mul, expv_eq (k := GfM.logv a * k) rfl, show GfM.logv a = lg a from by unfold GfM.logv; exact if_neg ha0]
              exact rfl
            clear q
            go_wp2_with fail
            refine (exp_to _ _ (powv a k) _ (HF.out.drewN _) (by omega) (by omega) E.out).mono ?_
            rintro e w2 ⟨rfl, rfl⟩
            go_wp2_with fail
            go_ret
            exact ⟨rfl, grown_drewN HG.out _⟩
end Go.Proofs.Ytkpigidndjjekaa
