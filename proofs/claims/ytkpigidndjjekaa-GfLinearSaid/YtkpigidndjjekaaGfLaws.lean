/- The walks of the laws on sums, products, inverses, powers and logs of gf: each ends in true, and makes new memory alone; no condition but the arguments' range. -/
import Derived.Test.YtkpigidndjjekaaGfRef
namespace Go.Proofs.Ytkpigidndjjekaa
open Go.RowKit
open GfM (dbl pw lgA lg)

theorem wf_u8 {a : Int} (h : (Lit.int .u8 a).wf = true) : ∃ n : Nat, a = n ∧ n ≤ 255 := by
  have : 0 ≤ a ∧ a ≤ 255 := by simpa [Lit.wf, IntKind.min, IntKind.max, IntKind.signed, IntKind.bits] using h
  exact ⟨a.toNat, by omega, by omega⟩
theorem wf_i64' {a : Int} (h : (Lit.int .i64 a).wf = true) : -9223372036854775808 ≤ a ∧ a ≤ 9223372036854775807 := by
  simpa [Lit.wf, IntKind.min, IntKind.max, IntKind.signed, IntKind.bits] using h

theorem grown_drewN {w w1 : World} (h : Grown w w1) (n : Nat) : Grown w (w1.drewN n) := by
  induction n generalizing w1 with
  | zero => exact h
  | succ n ih => exact ih h.drew

theorem new_field (w : World) :
    Calls Try.prog 13 #[] w fun e w' => e = .returned (.pointer (some ⟨w.heap.size, 0, none⟩)) ∧ FieldAt w' w.heap.size ∧ Grown w w' := by
  refine (new_any w).mono ?_
  rintro e w' ⟨rfl, rfl⟩
  exact ⟨rfl, FieldAt.new w, (Grown.refl w).alloc _ _⟩

theorem mul_to (B : Nat) (a' b' : Int) (a b v : Nat) (w : World) (hF : FieldAt w B) (ea : a' = (a : Int)) (eb : b' = (b : Int)) (ha : a ≤ 255) (hb : b ≤ 255) (h : GfM.mul a b = v) :
    Calls Try.prog 14 #[.pointer (some ⟨B, 0, none⟩), .int .u8 a', .int .u8 b'] w fun e w' => e = .returned (.int .u8 (v : Int)) ∧ ∃ n, w' = w.drewN n := by
  subst h; exact mul_at B a' b' a b w hF ea eb ha hb
theorem add_to (a' b' : Int) (a b v : Nat) (w : World) (ea : a' = (a : Int)) (eb : b' = (b : Int)) (ha : a ≤ 255) (hb : b ≤ 255) (h : a ^^^ b = v) :
    Calls Try.prog 16 #[.int .u8 a', .int .u8 b'] w fun e w' => e = .returned (.int .u8 (v : Int)) ∧ w = w' := by
  subst h; exact add_at a' b' a b w ea eb ha hb
theorem exp_to (B : Nat) (n : Int) (v : Nat) (w : World) (hF : FieldAt w B) (h0 : -9223372036854775808 ≤ n) (h1 : n ≤ 9223372036854775807) (h : GfM.expv n = v) :
    Calls Try.prog 24 #[.pointer (some ⟨B, 0, none⟩), .int .i64 n] w fun e w' => e = .returned (.int .u8 (v : Int)) ∧ w = w' := by
  subst h; exact exp_any B n w hF h0 h1

set_option maxHeartbeats 400000 in
theorem names_true (w : World) : Calls Try.prog 17 #[] w fun e w' => e = .returned (.bool true) ∧ w = w' := by
  go_enter Try.func17, Try.ntmps17
  go_wp2
  go_ret
  exact ⟨rfl, rfl⟩

set_option maxRecDepth 20000 in
set_option maxHeartbeats 400000 in
theorem field_any (w : World) :
    Calls Try.prog 30 #[] w fun e w' => e = .returned (.tuple #[.pointer (some ⟨w.heap.size, 0, none⟩), .bool true]) ∧ FieldAt w' w.heap.size ∧ Grown w w' := by
  have m1 : GfM.mul 2 128 = 29 := by decide +kernel
  have m2 : GfM.expv 25 = 3 := by decide +kernel
  have m3 : ((GfM.divv 1 2 : Nat) : Int) = 142 := by decide +kernel
  have m4 : ((GfM.dive 2 : Nat) : Int) = 0 := by decide +kernel
  have M1 := Lib.hid m1
  have M2 := Lib.hid m2
  clear m1 m2
  go_enter Try.func30, Try.ntmps30
  go_wp2_with fail
  refine (new_field _).mono ?_
  rintro e w1 ⟨rfl, hF, hG⟩
  have HF := Lib.hid hF
  have HG := Lib.hid hG
  clear hF hG
  go_wp2_with fail
  refine (mul_to _ _ _ 2 128 29 _ HF.out rfl rfl (by omega) (by omega) M1.out).mono ?_
  rintro e w2 ⟨rfl, n1, rfl⟩
  go_wp2_with fail
  refine (exp_to _ _ 3 _ (HF.out.drewN _) (by omega) (by omega) M2.out).mono ?_
  rintro e w2 ⟨rfl, rfl⟩
  go_wp2_with fail
  refine (inv_at _ _ 2 _ (HF.out.drewN _) rfl (by omega)).mono ?_
  rintro e w2 ⟨rfl, n2, rfl⟩
  go_wp2_with fail
  go_ret2
  exact ⟨rfl, HF.out.drewN _, grown_drewN HG.out _⟩

set_option maxRecDepth 20000 in
set_option maxHeartbeats 400000 in
theorem products_walk (a' b' : Int) (wa : (Lit.int .u8 a').wf = true) (wb : (Lit.int .u8 b').wf = true) (w : World) :
    Calls Try.prog 3 #[.int .u8 a', .int .u8 b'] w fun e w' => e = .returned (.bool true) ∧ Grown w w' := by
  obtain ⟨a, rfl, ha⟩ := wf_u8 wa
  obtain ⟨b, rfl, hb⟩ := wf_u8 wb
  clear wa wb
  have e1 : bits .xor .u8 (a : Int) (b : Int) = ((a ^^^ b : Nat) : Int) := u8_xor_nat a b (by omega) (by omega)
  go_enter Try.func3, Try.ntmps3
  go_wp2_with fail
  refine (new_field _).mono ?_
  rintro e w1 ⟨rfl, hF, hG⟩
  have HF := Lib.hid hF
  have HG := Lib.hid hG
  clear hF hG
  go_wp2_with fail
  refine (mul_any _ a b _ HF.out ha hb).mono ?_
  rintro e w2 ⟨rfl, n1, rfl⟩
  go_wp2_with fail
  refine (rmul_any a b _ ha hb).mono ?_
  rintro e w2 ⟨rfl, rfl⟩
  go_wp2_with fail
  refine (add_at _ _ a b _ rfl rfl ha hb).mono ?_
  rintro e w2 ⟨rfl, rfl⟩
  go_wp2_with fail
  refine (names_true _).mono ?_
  rintro e w2 ⟨rfl, rfl⟩
  go_wp2_with fail
  go_ret
  exact ⟨rfl, grown_drewN HG.out _⟩

set_option maxRecDepth 20000 in
set_option maxHeartbeats 400000 in
theorem inverses_walk (a' b' : Int) (wa : (Lit.int .u8 a').wf = true) (wb : (Lit.int .u8 b').wf = true) (w : World) :
    Calls Try.prog 4 #[.int .u8 a', .int .u8 b'] w fun e w' => e = .returned (.bool true) ∧ Grown w w' := by
  obtain ⟨a, rfl, ha⟩ := wf_u8 wa
  obtain ⟨b, rfl, hb⟩ := wf_u8 wb
  clear wa wb
  go_enter Try.func4, Try.ntmps4
  go_wp2_with fail
  refine (new_field _).mono ?_
  rintro e w1 ⟨rfl, hF, hG⟩
  have HF := Lib.hid hF
  have HG := Lib.hid hG
  clear hF hG
  go_wp2_with fail
  refine (inv_at _ _ a _ HF.out rfl ha).mono ?_
  rintro e w2 ⟨rfl, n1, rfl⟩
  go_wp2_with fail
  refine (rinv_at _ a _ rfl ha).mono ?_
  rintro e w2 ⟨rfl, rfl⟩
  go_wp2_with fail
  refine (div_at _ _ _ a b _ (HF.out.drewN _) rfl rfl ha hb).mono ?_
  rintro e w2 ⟨rfl, n2, rfl⟩
  go_wp2_with fail
  refine (rdiv_at _ _ a b _ rfl rfl ha hb).mono ?_
  rintro e w2 ⟨rfl, rfl⟩
  go_wp2_with fail
  go_ret
  exact ⟨rfl, grown_drewN HG.out _⟩

set_option maxRecDepth 20000 in
set_option maxHeartbeats 400000 in
theorem powers_walk (n : Int) (b' : Int) (wn : (Lit.int .i64 n).wf = true) (wb : (Lit.int .u8 b').wf = true) (w : World) :
    Calls Try.prog 5 #[.int .i64 n, .int .u8 b'] w fun e w' => e = .returned (.bool true) ∧ Grown w w' := by
  obtain ⟨b, rfl, hb⟩ := wf_u8 wb
  obtain ⟨h0, h1⟩ := wf_i64' wn
  clear wn wb
  go_enter Try.func5, Try.ntmps5
  go_wp2_with fail
  refine (new_field _).mono ?_
  rintro e w1 ⟨rfl, hF, hG⟩
  have HF := Lib.hid hF
  have HG := Lib.hid hG
  clear hF hG
  go_wp2_with fail
  refine (logm_at _ _ b _ HF.out rfl hb).mono ?_
  rintro e w2 ⟨rfl, rfl⟩
  go_wp2_with fail
  refine (rlog_at _ b _ rfl hb).mono ?_
  rintro e w2 ⟨rfl, rfl⟩
  go_wp2_with fail
  refine (exp_any _ n _ HF.out h0 h1).mono ?_
  rintro e w2 ⟨rfl, rfl⟩
  go_wp2_with fail
  refine (rexp_any n _ h0 h1).mono ?_
  rintro e w2 ⟨rfl, rfl⟩
  go_wp2_with fail
  go_ret
  exact ⟨rfl, HG.out⟩
end Go.Proofs.Ytkpigidndjjekaa
