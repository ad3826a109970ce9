/- Parts of the proof, joined: Book, GfRef, GfLaws, GfTheorems, GfLogs, GfMore, GfTexts, GfLinear; their conditions stand with each. -/
import Derived.WalkKit
import Derived.ProofKit
import Derived.Below
import Derived.Deep.Draws
import Derived.IntWalk
import Derived.SizedLaws
import Derived.Test.YtemcjnbgcecinaaA1

/- The functions that all layers' laws use: contracts. -/
namespace Go.Proofs.Ytemcjnbgcecinaa
open Go.RowKit

/-- a number from 0 to n - 1 -/
def amongV (x : Int) (n : Nat) : Nat := (x % (n : Int)).toNat

theorem amongV_lt (x : Int) (n : Nat) (h : 1 ≤ n) : amongV x n < n := by
  have h1 := Int.emod_nonneg x (show (n : Int) ≠ 0 by omega)
  have h2 := Int.emod_lt_of_pos x (show (0 : Int) < n by omega)
  unfold amongV
  omega

theorem amongV_emod (x : Int) (n : Nat) (h : 1 ≤ n) : ((amongV x n : Nat) : Int) = x % (n : Int) := by
  have h1 := Int.emod_nonneg x (show (n : Int) ≠ 0 by omega)
  unfold amongV
  omega

theorem among_eq (x : Int) (n : Nat) (h1 : 1 ≤ n) : (x.tmod (n : Int) + (n : Int)).tmod (n : Int) = ((amongV x n : Nat) : Int) ∧ -(n : Int) < x.tmod (n : Int) ∧ x.tmod (n : Int) < (n : Int) := by
  have a1 : x.tmod (n : Int) < (n : Int) := Int.tmod_lt_of_pos x (by omega)
  have a2 : -(n : Int) < x.tmod (n : Int) := by
    rcases Int.le_total 0 x with h | h
    · have := Int.tmod_nonneg (n : Int) h; omega
    · have := Int.tmod_lt_of_pos (-x) (show (0 : Int) < n by omega)
      rw [Int.neg_tmod] at this
      omega
  refine ⟨?_, a2, a1⟩
  rw [Int.tmod_eq_emod_of_nonneg (by omega), amongV_emod x n h1, Int.add_emod_right, Int.tmod_def, Int.sub_mul_emod_self_left]

set_option maxHeartbeats 1000000 in
theorem among_any (x : Int) (n : Nat) (w : World) (h1 : 1 ≤ n) (h2 : n ≤ 1000000) :
    Calls Try.prog 24 #[.int .i64 x, .int .i64 (n : Int)] w fun e w' => e = .returned (.int .i64 ((amongV x n : Nat) : Int)) ∧ w' = w := by
  obtain ⟨e1, e2, e3⟩ := among_eq x n h1
  have e4 : ((n : Int) == 0) = false := by simp; omega
  have e6 : wrap64 (x.tmod (n : Int) + (n : Int)) = x.tmod (n : Int) + (n : Int) := IntWalk.wrap64_in _ ⟨by omega, by omega⟩
  have E : Hid ((wrap64 (x.tmod (n : Int) + (n : Int))).tmod (n : Int) = ((amongV x n : Nat) : Int)) := by
    show _ = _
    rw [e6, e1]
  clear e1 e2 e3 e6
  go_enter Try.func24, Try.ntmps24
  go_wp2
  go_ret
  exact ⟨ret_int E.out, rfl⟩

end Go.Proofs.Ytemcjnbgcecinaa

/- What the document's own answers for gf do, one contract a function: products bit by bit, inverses, quotients, powers and logs; no condition but the elements' range. -/
namespace Go.Proofs.Ytemcjnbgcecinaa
open Go.RowKit
open GfM (dbl pw lgA lg)

theorem dbl_xor (x : Nat) (hx : x ≤ 255) (h : 255 < 2 * x) : bits .xor .i64 ((x : Int) * 2) 285 = ((dbl x : Nat) : Int) := by
  have := i64_xor_nat (x * 2) 285 (by omega) (by omega)
  rw [Int.natCast_mul] at this
  unfold dbl; rw [if_pos h, Nat.mul_comm 2 x]; exact this

theorem dbl_le (x : Nat) (hx : x ≤ 255) : dbl x ≤ 255 := by
  rw [← GfM.mul_two hx]; exact GfM.mul_le _ _

set_option maxRecDepth 20000 in
set_option maxHeartbeats 1000000 in
theorem rmul_any (a b : Nat) (w : World) (ha : a ≤ 255) (hb : b ≤ 255) :
    Calls Try.prog 79 #[.int .u8 (a : Int), .int .u8 (b : Int)] w fun e w' => e = .returned (.int .u8 ((GfM.mul a b : Nat) : Int)) ∧ w = w' := by
  have E := Lib.hid (GfM.mul_bits ha hb)
  go_enter Try.func79, Try.ntmps79
  go_wp2
  go_loop [5, 6, 7, 8] (fun xs ys os i => ∃ k x y o : Nat, k ≤ 8 ∧ x ≤ 255 ∧ y ≤ 255 ∧ o ≤ 255 ∧ i = .int .i64 (k : Int) ∧ xs = .int .i64 (x : Int) ∧ ys = .int .i64 (y : Int) ∧ os = .int .i64 (o : Int) ∧ Hid (GfM.bits (8 - k) x y o = GfM.bits 8 a b 0)) (fun _ _ _ i => 8 - (intOf i).toNat)
  case atStart => exact ⟨0, a, b, 0, by omega, ha, hb, by omega, rfl, rfl, rfl, rfl, rfl⟩
  case round =>
    obtain ⟨k, x, y, o, hk, hx, hy, ho, rfl, rfl, rfl, rfl, hB⟩ := hrel
    by_cases hlt : k < 8
    · have D := dbl_le x hx
      have hB' : Hid (GfM.bits (8 - (k + 1)) (dbl x) (y / 2) (if y % 2 = 1 then o ^^^ x else o) = GfM.bits 8 a b 0) := by
        have := hB.out
        rw [show 8 - k = (8 - (k + 1)) + 1 from by omega] at this
        exact this
      clear hB
      have hox := GfM.xor_le ho hx
      by_cases h1 : y % 2 = 1
      · have t1 : (y : Int) % 2 = 1 := by omega
        have e1 := i64_xor_nat o x (by omega) (by omega)
        have hB2 : Hid (GfM.bits (8 - (k + 1)) (dbl x) (y / 2) (o ^^^ x) = GfM.bits 8 a b 0) := by
          have := hB'.out; rw [if_pos h1] at this; exact this
        clear hB' h1
        by_cases h2 : 255 < 2 * x
        · have e2 := dbl_xor x hx h2
          have t2 : 256 ≤ (x : Int) * 2 := by omega
          go_wp2
          go_round
          case rel => exact ⟨k + 1, dbl x, y / 2, o ^^^ x, by omega, D, by omega, hox, by go_num, rfl, by go_num, rfl, hB2⟩
          case measure => simp [intOf]; omega
        · have t2 : (x : Int) * 2 < 256 := by omega
          have e2 : dbl x = x * 2 := by unfold dbl; rw [if_neg h2]; omega
          rw [e2] at D hB2
          clear e2
          go_wp2
          go_round
          case rel => exact ⟨k + 1, x * 2, y / 2, o ^^^ x, by omega, D, by omega, hox, by go_num, by go_num, by go_num, rfl, hB2⟩
          case measure => simp [intOf]; omega
      · have t1 : (y : Int) % 2 = 0 := by omega
        have hB2 : Hid (GfM.bits (8 - (k + 1)) (dbl x) (y / 2) o = GfM.bits 8 a b 0) := by
          have := hB'.out; rw [if_neg h1] at this; exact this
        clear hB' h1
        by_cases h2 : 255 < 2 * x
        · have e2 := dbl_xor x hx h2
          have t2 : 256 ≤ (x : Int) * 2 := by omega
          go_wp2
          go_round
          case rel => exact ⟨k + 1, dbl x, y / 2, o, by omega, D, by omega, ho, by go_num, rfl, by go_num, rfl, hB2⟩
          case measure => simp [intOf]; omega
        · have t2 : (x : Int) * 2 < 256 := by omega
          have e2 : dbl x = x * 2 := by unfold dbl; rw [if_neg h2]; omega
          rw [e2] at D hB2
          clear e2
          go_wp2
          go_round
          case rel => exact ⟨k + 1, x * 2, y / 2, o, by omega, D, by omega, ho, by go_num, by go_num, by go_num, rfl, hB2⟩
          case measure => simp [intOf]; omega
    · obtain rfl : k = 8 := by omega
      go_wp2
      go_ret
      exact ⟨ret_int (by rw [E.out, ← hB.out]; rfl), rfl⟩

theorem rmul_at (a' b' : Int) (a b : Nat) (w : World) (ea : a' = (a : Int)) (eb : b' = (b : Int)) (ha : a ≤ 255) (hb : b ≤ 255) :
    Calls Try.prog 79 #[.int .u8 a', .int .u8 b'] w fun e w' => e = .returned (.int .u8 ((GfM.mul a b : Nat) : Int)) ∧ w = w' := by
  subst ea eb; exact rmul_any a b w ha hb

theorem pw_254 {a : Nat} (h0 : a ≠ 0) (ha : a ≤ 255) : pw (lg a * 254) = GfM.divv 1 a := by
  have hl := GfM.lg_lt h0 ha
  have h1 : lg 1 = 0 := GfM.lg_pw 0
  unfold GfM.divv
  rw [if_neg (fun h => h.elim (by omega) h0), h1, ← GfM.pw_per (lg a * 254), show lg a * 254 + 255 = (0 + 255 - lg a) + 255 * lg a from by omega, GfM.pw_mul]

theorem mul_pw_lg {a : Nat} (k : Nat) (h0 : a ≠ 0) (ha : a ≤ 255) : GfM.mul (pw (lg a * k)) a = pw (lg a * (k + 1)) := by
  have e : GfM.mul (pw (lg a * k)) a = GfM.mul (pw (lg a * k)) (pw (lg a)) := by rw [GfM.pw_lg h0 ha]
  rw [e, GfM.mul_pw, Nat.mul_succ]

set_option maxRecDepth 20000 in
set_option maxHeartbeats 1000000 in
theorem rinv_at (a' : Int) (a : Nat) (w : World) (ea : a' = (a : Int)) (ha : a ≤ 255) :
    Calls Try.prog 53 #[.int .u8 a'] w fun e w' => e = .returned (.tuple #[.int .u8 ((GfM.divv 1 a : Nat) : Int), .int .i64 ((GfM.dive a : Nat) : Int)]) ∧ w = w' := by
  subst ea
  by_cases h0 : a = 0
  · subst h0
    go_enter Try.func53, Try.ntmps53
    go_wp2_with fail
    go_ret2
    exact ⟨rfl, rfl⟩
  · have k1 : ((a : Int) == 0) = false := by simp; omega
    have E := Lib.hid (pw_254 h0 ha)
    go_enter Try.func53, Try.ntmps53
    go_wp2_with fail
    go_loop [4, 5] (fun o i => ∃ k : Nat, k ≤ 254 ∧ i = .int .i64 (k : Int) ∧ o = .int .u8 ((pw (lg a * k) : Nat) : Int)) (fun _ i => 254 - (intOf i).toNat)
    case atStart => exact ⟨0, by omega, rfl, rfl⟩
    case round =>
      obtain ⟨k, hk, rfl, rfl⟩ := hrel
      have hp := (GfM.pw_rng (lg a * k)).2
      by_cases hlt : k < 254
      · have M := Lib.hid (mul_pw_lg k h0 ha)
        go_wp2_with (go_at_call 79; refine (rmul_any _ _ _ hp ha).mono ?_; rintro e w' ⟨rfl, rfl⟩)
        go_round
        case rel => exact ⟨k + 1, by omega, by go_num, by rw [M.out]⟩
        case measure => simp [intOf]; omega
      · obtain rfl : k = 254 := by omega
        go_wp2_with fail
        go_ret2
        exact ⟨ret_pair (by rw [E.out]) (by simp [GfM.dive, h0]), rfl⟩

theorem mul_divv_one {a b : Nat} (ha : a ≤ 255) (hb : b ≤ 255) (hb0 : b ≠ 0) : GfM.mul a (GfM.divv 1 b) = GfM.divv a b := (GfM.divv_one ha hb hb0).symm

theorem pw_succ_mul (k : Nat) : GfM.mul (pw k) 2 = pw (k + 1) := by rw [GfM.mul_two (GfM.pw_rng k).2]; rfl

end Go.Proofs.Ytemcjnbgcecinaa

/- The walks of the laws on sums, products, inverses, powers and logs of gf: each ends in true, and makes new memory alone; no condition but the arguments' range. -/
namespace Go.Proofs.Ytemcjnbgcecinaa
open Go.RowKit
open GfM (dbl pw lgA lg)

theorem wf_u8 {a : Int} (h : (Lit.int .u8 a).wf = true) : ∃ n : Nat, a = n ∧ n ≤ 255 := by
  have : 0 ≤ a ∧ a ≤ 255 := by simpa [Lit.wf, IntKind.min, IntKind.max, IntKind.signed, IntKind.bits] using h
  exact ⟨a.toNat, by omega, by omega⟩

theorem wf_i64' {a : Int} (h : (Lit.int .i64 a).wf = true) : -9223372036854775808 ≤ a ∧ a ≤ 9223372036854775807 := by
  simpa [Lit.wf, IntKind.min, IntKind.max, IntKind.signed, IntKind.bits] using h

theorem grown_drewN {w w1 : World} (h : Grown w w1) (n : Nat) : Grown w (w1.drewN n) := by
  induction n generalizing w1 with
  | zero => exact h
  | succ n ih => exact ih h.drew

theorem new_field (w : World) :
    Calls Try.prog 43 #[] w fun e w' => e = .returned (.pointer (some ⟨w.heap.size, 0, none⟩)) ∧ FieldAt w' w.heap.size ∧ Grown w w' := by
  refine (new_any w).mono ?_
  rintro e w' ⟨rfl, rfl⟩
  exact ⟨rfl, FieldAt.new w, (Grown.refl w).alloc _ _⟩

theorem mul_to (B : Nat) (a' b' : Int) (a b v : Nat) (w : World) (hF : FieldAt w B) (ea : a' = (a : Int)) (eb : b' = (b : Int)) (ha : a ≤ 255) (hb : b ≤ 255) (h : GfM.mul a b = v) :
    Calls Try.prog 93 #[.pointer (some ⟨B, 0, none⟩), .int .u8 a', .int .u8 b'] w fun e w' => e = .returned (.int .u8 (v : Int)) ∧ ∃ n, w' = w.drewN n := by
  subst h; exact mul_at B a' b' a b w hF ea eb ha hb

theorem add_to (a' b' : Int) (a b v : Nat) (w : World) (ea : a' = (a : Int)) (eb : b' = (b : Int)) (ha : a ≤ 255) (hb : b ≤ 255) (h : a ^^^ b = v) :
    Calls Try.prog 77 #[.int .u8 a', .int .u8 b'] w fun e w' => e = .returned (.int .u8 (v : Int)) ∧ w = w' := by
  subst h; exact add_at a' b' a b w ea eb ha hb

end Go.Proofs.Ytemcjnbgcecinaa

/- The walks of the laws of a field over gf: the ring's laws, what is divided comes back, logs add up; each ends in true, and makes new memory alone; no condition but the arguments' range. -/
namespace Go.Proofs.Ytemcjnbgcecinaa
open Go.RowKit
open GfM (dbl pw lgA lg)

theorem inv_to (B : Nat) (a' : Int) (a v g : Nat) (w : World) (hF : FieldAt w B) (ea : a' = (a : Int)) (ha : a ≤ 255) (h : GfM.divv 1 a = v) (h' : GfM.dive a = g) :
    Calls Try.prog 68 #[.pointer (some ⟨B, 0, none⟩), .int .u8 a'] w fun e w' =>
      e = .returned (.tuple #[.int .u8 (v : Int), .int .i64 (g : Int)]) ∧ ∃ n, w' = w.drewN n := by
  subst h h'; exact inv_at B a' a w hF ea ha

theorem div_to (B : Nat) (a' b' : Int) (a b v g : Nat) (w : World) (hF : FieldAt w B) (ea : a' = (a : Int)) (eb : b' = (b : Int)) (ha : a ≤ 255) (hb : b ≤ 255) (h : GfM.divv a b = v) (h' : GfM.dive b = g) :
    Calls Try.prog 86 #[.pointer (some ⟨B, 0, none⟩), .int .u8 a', .int .u8 b'] w fun e w' =>
      e = .returned (.tuple #[.int .u8 (v : Int), .int .i64 (g : Int)]) ∧ ∃ n, w' = w.drewN n := by
  subst h h'; exact div_at B a' b' a b w hF ea eb ha hb

theorem divv_zero (a : Nat) : GfM.divv a 0 = 0 := by unfold GfM.divv; rw [if_pos (Or.inr rfl)]

theorem dive_pos {b : Nat} (h : b ≠ 0) : GfM.dive b = 0 := by unfold GfM.dive; rw [if_neg h]

end Go.Proofs.Ytemcjnbgcecinaa

/- The walk of the law on logs of gf: it ends in true, and makes new memory alone; no condition but the arguments' range. -/
namespace Go.Proofs.Ytemcjnbgcecinaa
open Go.RowKit
open GfM (dbl pw lgA lg)

theorem expv_eq {n : Int} {k : Nat} (h : n % 255 = ((k : Nat) : Int) % 255) : GfM.expv n = pw k := by
  unfold GfM.expv
  rw [h, ← GfM.pw_mod k, show ((k : Int) % 255).toNat = k % 255 from by omega]

theorem expv_per (n : Int) : GfM.expv (n + 255) = GfM.expv n := by
  unfold GfM.expv; rw [show (n + 255) % 255 = n % 255 from by omega]

theorem expv_succ (n : Int) : GfM.mul (GfM.expv n) 2 = GfM.expv (n + 1) := by
  rw [expv_eq (n := n + 1) (k := (n % 255).toNat + 1) (by omega)]
  exact pw_succ_mul _

theorem lg_mul {a b : Nat} (ha0 : a ≠ 0) (hb0 : b ≠ 0) : GfM.logv (GfM.mul a b) = (lg a + lg b) % 255 := by
  have h : GfM.mul a b ≠ 0 := fun e => ((GfM.mul_eq_zero a b).1 e).elim ha0 hb0
  unfold GfM.logv
  rw [if_neg h, GfM.mul_pos ha0 hb0, GfM.lg_pw]

theorem go_rem (n : Int) : ∃ r : Int, -255 < r ∧ r < 255 ∧ ((0 ≤ n ∧ n % 255 = r) ∨ (n < 0 ∧ n.tmod 255 = r)) := by
  by_cases hn : 0 ≤ n
  · exact ⟨n % 255, by omega, by omega, Or.inl ⟨hn, rfl⟩⟩
  · have hq : n.tmod 255 = -((-n) % 255) := by
      have h := Int.neg_tmod (-n) 255
      rw [Int.neg_neg] at h
      rw [h, Int.tmod_eq_emod_of_nonneg (a := -n) (by omega)]
    exact ⟨n.tmod 255, by omega, by omega, Or.inr ⟨by omega, rfl⟩⟩

end Go.Proofs.Ytemcjnbgcecinaa

/- The walks of the laws on squares and powers of gf: each ends in true, and makes new memory alone; no condition but the arguments' range. -/
namespace Go.Proofs.Ytemcjnbgcecinaa
open Go.RowKit
open GfM (dbl pw lgA lg)

set_option maxRecDepth 20000 in
set_option maxHeartbeats 400000 in
theorem among_to (n k : Int) (m : Nat) (w : World) (h0 : -9223372036854775808 ≤ n) (h1 : n ≤ 9223372036854775807) (k0 : 0 < k) (k1 : k ≤ 1152921504606846976) (h : n % k = (m : Int)) :
    Calls Try.prog 24 #[.int .i64 n, .int .i64 k] w fun e w' => e = .returned (.int .i64 (m : Int)) ∧ w = w' := by
  have hm : (m : Int) < k := by rw [← h]; exact Int.emod_lt_of_pos _ k0
  have t1 : (k == 0) = false := by simp; omega
  obtain ⟨r, hr, r1, r2, hs⟩ : ∃ r : Int, ((0 ≤ n ∧ n % k = r) ∨ (n < 0 ∧ n.tmod k = r)) ∧ -k < r ∧ r < k ∧ (r + k) % k = (m : Int) := by
    by_cases hn : 0 ≤ n
    · exact ⟨n % k, Or.inl ⟨hn, rfl⟩, by have := Int.emod_nonneg n (by omega : k ≠ 0); omega, Int.emod_lt_of_pos _ k0, by rw [Int.add_emod_right, Int.emod_emod_of_dvd _ (Int.dvd_refl k), h]⟩
    · have hq : n.tmod k = -((-n) % k) := by
        have h := Int.neg_tmod (-n) k
        rw [Int.neg_neg] at h
        rw [h, Int.tmod_eq_emod_of_nonneg (a := -n) (by omega)]
      have a1 := Int.emod_nonneg (-n) (by omega : k ≠ 0)
      have a2 := Int.emod_lt_of_pos (-n) k0
      refine ⟨n.tmod k, Or.inr ⟨by omega, rfl⟩, by omega, by omega, ?_⟩
      rw [Int.add_emod_right, hq, ← h]
      have : -((-n) % k) = n + k * ((-n) / k) := by have := Int.emod_add_mul_ediv (-n) k; omega
      rw [this, Int.add_mul_emod_self_left]
  have s1 : r + k < 9223372036854775808 := by omega
  rcases hr with ⟨hn, hr⟩ | ⟨hn, hr⟩
  all_goals
    clear h
    go_enter Try.func24, Try.ntmps24
    go_wp2
    go_ret
    exact ⟨ret_int hs, rfl⟩

theorem among_is (n k : Int) (k0 : 0 < k) : ∃ m : Nat, n % k = (m : Int) ∧ (m : Int) < k := by
  have a1 := Int.emod_nonneg n (by omega : k ≠ 0)
  have a2 := Int.emod_lt_of_pos n k0
  exact ⟨(n % k).toNat, by omega, by omega⟩

/-- an element times itself, k times -/
def powv (a : Nat) : Nat → Nat
  | 0 => 1
  | k + 1 => GfM.mul (powv a k) a

theorem powv_le (a k : Nat) : powv a k ≤ 255 := by
  cases k with
  | zero => simp [powv]
  | succ k => exact GfM.mul_le _ _

theorem powv_pw {a : Nat} (k : Nat) (h0 : a ≠ 0) (ha : a ≤ 255) : powv a k = pw (lg a * k) := by
  induction k with
  | zero => rfl
  | succ k ih => show GfM.mul (powv a k) a = _; rw [ih, mul_pw_lg k h0 ha]

theorem powv_255 {a : Nat} (h0 : a ≠ 0) (ha : a ≤ 255) : powv a 255 = 1 := by
  rw [powv_pw 255 h0 ha, Nat.mul_comm, show 255 * lg a = 0 + 255 * lg a from by omega, GfM.pw_mul]; rfl

theorem powv_zero (k : Nat) : powv 0 (k + 1) = 0 := GfM.mul_zero _

end Go.Proofs.Ytemcjnbgcecinaa

/- What gf's Dot and Scale do to texts of any bytes, and the document's own, and the walks of the two laws on texts; no condition but the arguments' range. -/
namespace Go.Proofs.Ytemcjnbgcecinaa
open Go.RowKit
open GfM (dbl pw lgA lg)

/-- the byte at place k, a number; behind the end 0 -/
def bt (s : ByteArray) (k : Nat) : Nat := (s.data[k]?.getD 0).toNat

theorem bt_le (s : ByteArray) (k : Nat) : bt s k ≤ 255 := by unfold bt; have := (s.data[k]?.getD 0).toNat_lt; omega

theorem bt_at (s : ByteArray) (k : Nat) (h : k < s.size) : (s[k]'h).toNat = bt s k := by
  unfold bt
  have h' : k < s.data.size := h
  rw [Array.getElem?_eq_getElem h']; rfl

/-- the sum of the products of the first k places -/
def dotk (s t : ByteArray) : Nat → Nat
  | 0 => 0
  | k + 1 => dotk s t k ^^^ GfM.mul (bt s k) (bt t k)

theorem dotk_le (s t : ByteArray) (k : Nat) : dotk s t k ≤ 255 := by
  induction k with
  | zero => simp [dotk]
  | succ k ih => exact GfM.xor_le ih (GfM.mul_le _ _)

theorem rmul_in (a b : Nat) (w : World) (ha : a ≤ 255) (hb : b ≤ 255) :
    Calls Try.prog 79 #[.int .u8 (a : Int), .int .u8 (b : Int)] w fun e w' => e = .returned (.int .u8 ((GfM.mul a b : Nat) : Int)) ∧ w' = w :=
  (rmul_any a b w ha hb).mono fun _ _ ⟨h1, h2⟩ => ⟨h1, h2.symm⟩

theorem add_in (a b : Nat) (w : World) (ha : a ≤ 255) (hb : b ≤ 255) :
    Calls Try.prog 77 #[.int .u8 (a : Int), .int .u8 (b : Int)] w fun e w' => e = .returned (.int .u8 ((a ^^^ b : Nat) : Int)) ∧ w' = w :=
  (add_at _ _ a b w rfl rfl ha hb).mono fun _ _ ⟨h1, h2⟩ => ⟨h1, h2.symm⟩

set_option maxRecDepth 20000 in
set_option maxHeartbeats 1000000 in
theorem dot_any (B : Nat) (s t : ByteArray) (w : World) (hF : FieldAt w B) (hs : s.size ≤ maxLen) (hst : s.size = t.size) :
    Calls Try.prog 85 #[.pointer (some ⟨B, 0, none⟩), .string s, .string t] w fun e w' =>
      e = .returned (.tuple #[.int .u8 ((dotk s t s.size : Nat) : Int), .int .i64 0]) ∧ ∃ n, w' = w.drewN n := by
  unfold maxLen at hs
  have HF := Lib.hid hF
  clear hF
  have hst1 : ((s.size : Int) == (t.size : Int)) = true := by simp; omega
  have hst2 : ((s.size : Int) != (t.size : Int)) = false := by simp; omega
  have hle : s.size ≤ t.size := by omega
  have HST := Lib.hid hst
  clear hst
  go_enter Try.func85, Try.ntmps85
  go_wp2_with fail
  go_loopw [8, 17] (fun os i wr => ∃ k d : Nat, k ≤ s.size ∧ i = .int .i64 (k : Int) ∧ os = .int .u8 ((dotk s t k : Nat) : Int) ∧ wr = w.drewN d) (fun _ i _ => s.size - (intOf i).toNat)
  case atStart => exact ⟨0, 0, by omega, rfl, rfl, rfl⟩
  case round =>
    obtain ⟨k, d, hk, rfl, rfl, rfl⟩ := hrel
    have hd := dotk_le s t k
    by_cases hlt : k < s.size
    · have ht : k < t.size := by omega
      have p1 : (k : Int) < (s.size : Int) := by omega
      have p2 : (k : Int) < (t.size : Int) := by omega
      have b1 : (s[k]'hlt).toNat ≤ 255 := by rw [bt_at]; exact bt_le _ _
      have b2 : (t[k]'ht).toNat ≤ 255 := by rw [bt_at]; exact bt_le _ _
      have E : Hid (dotk s t (k + 1) = dotk s t k ^^^ GfM.mul (s[k]'hlt).toNat (t[k]'ht).toNat) := by rw [bt_at, bt_at]; exact rfl
      have mm := GfM.mul_le (s[k]'hlt).toNat (t[k]'ht).toNat
      have HFd : Hid (FieldAt (w.drewN d) B) := HF.out.drewN d
      generalize hW : w.drewN d = W at HFd
      have HW := Lib.hid hW
      clear hW
      go_wp2_with fail
      go_quiet ((first | (go_at_call 93; exact Calls.quiet_of (mul_any _ _ _ _ (HFd.out.drewN _) b1 b2)) | (go_at_call 77; exact Calls.quiet_of_same (add_in _ _ _ hd mm))))
      go_wp2
      go_roundw
      case rel => exact ⟨k + 1, _, by omega, by go_num, by rw [E.out], by rw [← HW.out, World.drewN_drewN]⟩
      case measure => simp [intOf]; omega
    · obtain rfl : k = s.size := by omega
      go_wp2_with fail
      go_ret2
      exact ⟨rfl, _, rfl⟩

theorem FieldAt.lt {w : World} {B : Nat} (h : FieldAt w B) : B < w.heap.size := World.block_lt_of_cell? _ _ (h.1 0 (by omega))

theorem FieldAt.below {w w' : World} {B H : Nat} (h : FieldAt w B) (hb : Below H w w') (hH : B < H) : FieldAt w' B :=
  ⟨fun i hi => (hb.cell (p := ⟨B, i, none⟩) hH).trans (h.1 i hi), fun i hi => (hb.cell (p := ⟨B, 510 + i, none⟩) hH).trans (h.2 i hi)⟩

theorem addr_head (b j : Nat) : (⟨b, 0, none⟩ : Addr).add j = ⟨b, j, none⟩ := by unfold Addr.add; split <;> simp_all

/-- each byte times a -/
def scl (a : Nat) (s : ByteArray) : List UInt8 := s.data.toList.map fun b => UInt8.ofNat (GfM.mul a b.toNat)

theorem scl_length (a : Nat) (s : ByteArray) : (scl a s).length = s.size := by simp [scl]

theorem scl_at (a : Nat) (s : ByteArray) (k : Nat) (h : k < s.size) : ((scl a s)[k]'(by rw [scl_length]; exact h)).toNat = GfM.mul a (s[k]'h).toNat := by
  have := GfM.mul_le a (s[k]'h).toNat
  unfold scl
  rw [List.getElem_map]
  show (UInt8.ofNat (GfM.mul a (s[k]'h).toNat)).toNat = _
  rw [UInt8.toNat_ofNat_of_lt']
  show _ < 256
  omega

/-- the cells of the new text when k bytes stand in it -/
def sclC (a : Nat) (s : ByteArray) (k : Nat) : List Value := ((scl a s).take k).map (fun b => Value.int .u8 (b.toNat : Int)) ++ List.replicate (s.size - k) (.int .u8 0)

theorem sclC_length (a : Nat) (s : ByteArray) (k : Nat) (h : k ≤ s.size) : (sclC a s k).length = s.size := by
  simp [sclC, scl_length]; omega

theorem sclC_set (a : Nat) (s : ByteArray) (k : Nat) (h : k < s.size) : (sclC a s k).set k (.int .u8 ((GfM.mul a (s[k]'h).toNat : Nat) : Int)) = sclC a s (k + 1) := by
  have hl := scl_length a s
  unfold sclC
  rw [show s.size - k = (s.size - (k + 1)) + 1 from by omega, List.replicate_succ, List.take_succ_eq_append_getElem (by omega), List.map_append]
  rw [List.set_append_right _ _ (by simp; omega)]
  simp only [List.length_map, List.length_take, hl, Nat.min_eq_left (Nat.le_of_lt h), Nat.sub_self, List.set_cons_zero, List.append_assoc, List.map_cons, List.map_nil, List.cons_append, List.nil_append]
  rw [scl_at a s k h]

theorem sclC_at (a : Nat) (s : ByteArray) (k : Nat) (h : k < s.size) : ∃ v, (sclC a s k)[k]? = some v :=
  ⟨_, List.getElem?_eq_getElem (by rw [sclC_length _ _ _ (by omega)]; exact h)⟩

theorem sclC_end (a : Nat) (s : ByteArray) (j : Nat) (h : j < (scl a s).length) : (sclC a s s.size)[j]? = some (.int .u8 (((scl a s)[j]'h).toNat : Int)) := by
  unfold sclC
  rw [Nat.sub_self, List.replicate_zero, List.append_nil, List.take_of_length_le (by rw [scl_length]; omega), List.getElem?_map, List.getElem?_eq_getElem h]; rfl

theorem Try.infoU8 : (Try.prog.info? 5).map (fun i => (i.zero, i.size, i.bytes)) = some (some (.int .u8 0), 1, 1) := by kernel_rfl

set_option maxRecDepth 20000 in
set_option maxHeartbeats 1000000 in
theorem scale_any (B a : Nat) (s : ByteArray) (w : World) (hF : FieldAt w B) (ha : a ≤ 255) (hs : s.size ≤ 140737488351232) :
    Calls Try.prog 76 #[.pointer (some ⟨B, 0, none⟩), .int .u8 (a : Int), .string s] w fun e w' =>
      e = .returned (.string ⟨(scl a s).toArray⟩) ∧ Below w.heap.size w w' := by
  have hB := hF.lt
  have HF := Lib.hid hF
  clear hF
  obtain ⟨i0, hi, hz0, hz1, hz2⟩ := info_parts Try.infoU8
  go_enter Try.func76, Try.ntmps76
  go_wp2_with (at_make; refine wpList_make_full _ rfl (.tmp 10) (.tmp 10) 48 rfl w.heap.size 5 i0 (.int .u8 0) 1 Try.underlying48 hi hz0 hz1 .i64 .i64 _ _ s.size rfl rfl rfl rfl (by rw [hz2]; omega) (by unfold maxLen; omega) (by simp) ?_; intro w1 hown hgrow)
  have hown0 : w1.ownsRow w.heap.size 5 1 (.slice (some ⟨w.heap.size, 0, none⟩) s.size s.size) s.size (sclC a s 0) := by
    rw [Nat.mul_one, show (Value.int .u8 0).cells = #[.int .u8 0] from rfl, toList_madeCells_one] at hown
    simpa [sclC] using hown
  have hbel0 : Below w.heap.size w w1 := (Below.refl _ _).grown hgrow (Nat.le_refl _) (fun k hk => by cases hk)
  clear hown hgrow
  go_loopw [14] (fun i wr => ∃ k : Nat, k ≤ s.size ∧ i = .int .i64 (k : Int) ∧ Hid (wr.ownsRow w.heap.size 5 1 (.slice (some ⟨w.heap.size, 0, none⟩) s.size s.size) s.size (sclC a s k)) ∧ Hid (Below w.heap.size w wr)) (fun i _ => s.size - (intOf i).toNat)
  case atStart => exact ⟨0, by omega, rfl, hown0, hbel0⟩
  case round =>
    obtain ⟨k, hk, rfl, hown, hbel⟩ := hrel
    clear hown0 hbel0
    by_cases hlt : k < s.size
    · have HFr := Lib.hid (HF.out.below hbel.out hB)
      have p1 : (k : Int) < (s.size : Int) := by omega
      have b1 : (s[k]'hlt).toNat ≤ 255 := by rw [bt_at]; exact bt_le _ _
      obtain ⟨v, hv⟩ := sclC_at a s k hlt
      have hcell := (hown.out.cellAt k (by omega)).trans hv
      have hfro := hown.out.frozenAt k
      clear hv
      go_wp2_with fail
      refine (mul_any _ a (s[k]'hlt).toNat _ HFr.out ha b1).mono ?_
      rintro e w2 ⟨rfl, n1, rfl⟩
      go_wp2_with fail
      go_roundw
      case rel =>
        have R := hown.out.stored k (.int .u8 ((GfM.mul a (s[k]'hlt).toNat : Nat) : Int))
        rw [sclC_set a s k hlt] at R
        exact ⟨k + 1, by omega, by go_num, R.1, below_drewN (hbel.out.setCell (Nat.le_refl _) _) _⟩
      case measure => simp [intOf]; omega
    · obtain rfl : k = s.size := by omega
      have hcv := run_convert_bytes_back (P := Try.prog) wr 48 9 5 ⟨w.heap.size, 0, none⟩ s.size (scl a s) Try.underlying48 Try.underlying5 Try.underlying9 (fun j hj => by
        have h1 := hown.out.cellAt j (by rw [scl_length] at hj; omega)
        rw [sclC_end a s j hj] at h1
        rw [addr_head]; exact h1)
      rw [scl_length] at hcv
      go_wp2_with fail
      go_ret
      exact ⟨rfl, hbel.out⟩

/-- the cells of the first k bytes, each times a -/
def sclK (a : Nat) (s : ByteArray) (k : Nat) : List Value := ((scl a s).take k).map (fun b => Value.int .u8 (b.toNat : Int))

theorem sclK_succ (a : Nat) (s : ByteArray) (k : Nat) (h : k < s.size) : sclK a s k ++ [.int .u8 ((GfM.mul a (s[k]'h).toNat : Nat) : Int)] = sclK a s (k + 1) := by
  have hl := scl_length a s
  unfold sclK
  rw [List.take_succ_eq_append_getElem (by omega), List.map_append, List.map_cons, List.map_nil, scl_at a s k h]

theorem sclK_end (a : Nat) (s : ByteArray) (j : Nat) (h : j < (scl a s).length) : (sclK a s s.size)[j]? = some (.int .u8 (((scl a s)[j]'h).toNat : Int)) := by
  unfold sclK
  rw [List.take_of_length_le (by rw [scl_length]; omega), List.getElem?_map, List.getElem?_eq_getElem h]; rfl

theorem scl_empty (a : Nat) (s : ByteArray) (h : s.size = 0) : (⟨(scl a s).toArray⟩ : ByteArray) = ⟨#[]⟩ := by
  have := scl_length a s
  rw [h] at this
  rw [List.length_eq_zero_iff.1 this]

theorem run_nil_string {P : Program} (w : World) (src dst e : TypeId) (c : Nat) (hs : P.underlying src = some (.slice e)) (he : P.underlying e = some (.int .u8)) (hd : P.underlying dst = some .string) :
    (convert src dst (.slice none 0 c)).run P w = .ok (.string ⟨#[]⟩) w := by
  rw [run_convert_bytes_string w src dst e none 0 c hs he hd]
  simp [Conv.bytesToString]
  rfl

theorem below_append {H : Nat} {w wr w1 : World} {v : Value} {o : Obj} {e : TypeId} {n : Nat} {xs : List Value} (hown : wr.ownsRow H e 1 v n xs) (hb : Below H w wr) (hH : H ≤ w.heap.size) (hg : (wr.alloc o).grownBy w1 v.ownBlock) : Below H w w1 :=
  (hb.alloc (Nat.le_trans hH hb.size) o).grown hg (by have := hb.size; simp; omega) (fun j hj => (hown.lt j hj).1)

set_option maxRecDepth 20000 in
set_option maxHeartbeats 1000000 in
theorem rscale_any (a : Nat) (s : ByteArray) (w : World) (ha : a ≤ 255) (hs : s.size ≤ 140737488351232) :
    Calls Try.prog 54 #[.int .u8 (a : Int), .string s] w fun e w' =>
      e = .returned (.string ⟨(scl a s).toArray⟩) ∧ Below w.heap.size w w' := by
  obtain ⟨i0, hi, hz0, hz1, hz2⟩ := info_parts Try.infoU8
  go_enter Try.func54, Try.ntmps54
  go_wp2_with fail
  go_loopw [5, 6] (fun v i wr => ∃ k : Nat, k ≤ s.size ∧ i = .int .i64 (k : Int) ∧ Hid (wr.ownsRow w.heap.size 5 1 v k (sclK a s k)) ∧ Hid (Below w.heap.size w wr) ∧ Hid (k = 0 → v = .slice none 0 0)) (fun _ i _ => s.size - (intOf i).toNat)
  case atStart => exact ⟨0, by omega, rfl, World.ownsRow_nil _ _ _ _, Below.refl _ _, fun _ => rfl⟩
  case round =>
    obtain ⟨k, hk, rfl, hown, hbel, hnil⟩ := hrel
    by_cases hlt : k < s.size
    · have p1 : (k : Int) < (s.size : Int) := by omega
      have b1 : (s[k]'hlt).toNat ≤ 255 := by rw [bt_at]; exact bt_le _ _
      clear hnil
      go_wp2_with fail
      refine (rmul_any a (s[k]'hlt).toNat _ ha b1).mono ?_
      rintro e w2 ⟨rfl, rfl⟩
      go_wp2_with (at_builtin; refine wpList_append_own _ rfl _ _ 48 rfl w.heap.size 5 i0 (.int .u8 0) 1 1 Try.underlying48 hi hz0 hz1 hz2 rfl (by decide) _ _ _ rfl (hown.out.alloc _) ⟨wr.heap.size, 0, none⟩ 1 1 [.int .u8 ((GfM.mul a (s[k]'hlt).toNat : Nat) : Int)] rfl rfl ?c1 ?c2 ?c3 ?c4 ?c5 ?_)
      case c1 => exact cell_one_new _ _ _
      case c2 => intro u hu; simp at hu; subst hu; rfl
      case c3 => unfold maxLen; omega
      case c4 => omega
      case c5 => have := hbel.out.size; simp; omega
      intro v' w1 hown' hgrow _
      have HB := Lib.hid (below_append hown.out hbel.out (Nat.le_refl _) hgrow)
      rw [sclK_succ a s k hlt] at hown'
      have HO := Lib.hid hown'
      clear hown' hgrow
      go_wp2_with fail
      go_roundw
      case rel => exact ⟨k + 1, by omega, by go_num, HO.out, HB.out, fun h => absurd h (by omega)⟩
      case measure => simp [intOf]; omega
    · obtain rfl : k = s.size := by omega
      by_cases h0 : s.size = 0
      · obtain rfl := hnil.out h0
        have hcv := run_nil_string (P := Try.prog) wr 48 9 5 0 Try.underlying48 Try.underlying5 Try.underlying9
        have E := Lib.hid (scl_empty a s h0)
        clear h0 hown hnil
        go_wp2_with fail
        go_ret
        exact ⟨by rw [E.out]; rfl, hbel.out⟩
      · rcases hown.out.2 with ⟨_, h⟩ | ⟨g, cap, cur, rfl, _⟩
        · exact absurd h h0
        · have hcv := run_convert_bytes_back (P := Try.prog) wr 48 9 5 ⟨g, 0, none⟩ cap (scl a s) Try.underlying48 Try.underlying5 Try.underlying9 (fun j hj => by
            have h1 := hown.out.cellAt j (by rw [scl_length] at hj; omega)
            rw [sclK_end a s j hj] at h1
            rw [addr_head]; exact h1)
          rw [scl_length] at hcv
          clear hown hnil
          go_wp2_with fail
          go_ret
          exact ⟨rfl, hbel.out⟩

set_option maxHeartbeats 400000 in
theorem dot_shape (B : Nat) (s t : ByteArray) (w : World) (hst : s.size ≠ t.size) :
    Calls Try.prog 85 #[.pointer (some ⟨B, 0, none⟩), .string s, .string t] w fun e w' => e = .returned (.tuple #[.int .u8 0, .int .i64 4]) ∧ w = w' := by
  have hst1 : ((s.size : Int) == (t.size : Int)) = false := by simp; omega
  have hst2 : ((s.size : Int) != (t.size : Int)) = true := by simp; omega
  go_enter Try.func85, Try.ntmps85
  go_wp2_with fail
  go_ret2
  exact ⟨rfl, rfl⟩

/-- the answer of Dot: its sum, its error -/
def dotv (s t : ByteArray) : Nat := if s.size = t.size then dotk s t s.size else 0

def dote (s t : ByteArray) : Nat := if s.size = t.size then 0 else 4

theorem dotv_le (s t : ByteArray) : dotv s t ≤ 255 := by
  unfold dotv; split
  · exact dotk_le _ _ _
  · omega

theorem dot_to (B : Nat) (s t : ByteArray) (w : World) (hF : FieldAt w B) (hs : s.size ≤ maxLen) :
    Calls Try.prog 85 #[.pointer (some ⟨B, 0, none⟩), .string s, .string t] w fun e w' =>
      e = .returned (.tuple #[.int .u8 ((dotv s t : Nat) : Int), .int .i64 ((dote s t : Nat) : Int)]) ∧ ∃ n, w' = w.drewN n := by
  by_cases h : s.size = t.size
  · refine (dot_any B s t w hF hs h).mono ?_
    rintro e w' ⟨rfl, hw⟩
    exact ⟨ret_pair (by simp [dotv, h]) (by simp [dote, h]), hw⟩
  · refine (dot_shape B s t w h).mono ?_
    rintro e w' ⟨rfl, rfl⟩
    exact ⟨ret_pair (by simp [dotv, h]) (by simp [dote, h]), 0, rfl⟩

theorem new_below (w : World) :
    Calls Try.prog 43 #[] w fun e w' => e = .returned (.pointer (some ⟨w.heap.size, 0, none⟩)) ∧ FieldAt w' w.heap.size ∧ Below w.heap.size w w' := by
  refine (new_any w).mono ?_
  rintro e w' ⟨rfl, rfl⟩
  exact ⟨rfl, FieldAt.new w, (Below.refl _ w).alloc (Nat.le_refl _) _⟩

theorem below_step {H : Nat} {w w1 w2 : World} (h : Below H w w1) (h2 : Below w1.heap.size w1 w2) (hH : H ≤ w1.heap.size) : Below H w w2 := h.trans (h2.mono hH)

end Go.Proofs.Ytemcjnbgcecinaa

/- The walk of the law that sums of products of gf go over sums and over what is scaled: it ends in true, and makes new memory alone; no condition but the form's reach. -/
namespace Go.Proofs.Ytemcjnbgcecinaa
open Go.RowKit
open GfM (dbl pw lgA lg)

/-- a row of bytes of which the first k stand -/
def preC (L : List UInt8) (k : Nat) : List Value := (L.take k).map (fun b => Value.int .u8 (b.toNat : Int)) ++ List.replicate (L.length - k) (.int .u8 0)

theorem preC_length (L : List UInt8) (k : Nat) (h : k ≤ L.length) : (preC L k).length = L.length := by simp [preC]; omega

theorem preC_set (L : List UInt8) (k : Nat) (h : k < L.length) (v : Int) (hv : v = ((L[k]'h).toNat : Int)) : (preC L k).set k (.int .u8 v) = preC L (k + 1) := by
  subst hv
  unfold preC
  rw [show L.length - k = (L.length - (k + 1)) + 1 from by omega, List.replicate_succ, List.take_succ_eq_append_getElem h, List.map_append]
  rw [List.set_append_right _ _ (by simp; omega)]
  simp only [List.length_map, List.length_take, Nat.min_eq_left (Nat.le_of_lt h), Nat.sub_self, List.set_cons_zero, List.append_assoc, List.map_cons, List.map_nil, List.cons_append, List.nil_append]

theorem preC_at (L : List UInt8) (k : Nat) (h : k < L.length) : ∃ v, (preC L k)[k]? = some v :=
  ⟨_, List.getElem?_eq_getElem (by rw [preC_length _ _ (by omega)]; exact h)⟩

theorem preC_end (L : List UInt8) (j : Nat) (h : j < L.length) : (preC L L.length)[j]? = some (.int .u8 ((L[j]'h).toNat : Int)) := by
  unfold preC
  rw [Nat.sub_self, List.replicate_zero, List.append_nil, List.take_length, List.getElem?_map, List.getElem?_eq_getElem h]; rfl

theorem preC_zero (L : List UInt8) (n : Nat) (h : L.length = n) : (madeCells (Value.int .u8 0).cells (n * 1)).toList = preC L 0 := by
  rw [Nat.mul_one, show (Value.int .u8 0).cells = #[.int .u8 0] from rfl, toList_madeCells_one]
  simp [preC, h]

/-- 'string(b)' of a row that is the call's own and stands whole -/
theorem run_own_string {P : Program} {w : World} {H g n cap : Nat} {e src dst : TypeId} {L : List UInt8} (hown : w.ownsRow H e 1 (.slice (some ⟨g, 0, none⟩) n cap) n (preC L n)) (hL : L.length = n)
    (hs : P.underlying src = some (.slice e)) (he : P.underlying e = some (.int .u8)) (hd : P.underlying dst = some .string) :
    (convert src dst (.slice (some ⟨g, 0, none⟩) n cap)).run P w = .ok (.string ⟨L.toArray⟩) w := by
  subst hL
  exact run_convert_bytes_back (P := P) w src dst e ⟨g, 0, none⟩ cap L hs he hd (fun j hj => by
    have h1 := hown.cellAt j (by omega)
    rw [preC_end L j hj] at h1
    rw [addr_head]; exact h1)

theorem bt_list (L : List UInt8) (k : Nat) : bt ⟨L.toArray⟩ k = (L[k]?.getD 0).toNat := by simp [bt]

theorem dotk_add (u s v t : ByteArray) (k : Nat) (h : ∀ j, j < k → bt u j = bt s j ^^^ bt v j) : dotk u t k = dotk s t k ^^^ dotk v t k := by
  induction k with
  | zero => simp [dotk]
  | succ k ih =>
    unfold dotk
    rw [ih (fun j hj => h j (by omega)), h k (by omega), GfM.xor_mul (bt_le _ _) (bt_le _ _) (bt_le _ _)]
    generalize dotk s t k = A; generalize dotk v t k = B
    generalize GfM.mul (bt s k) (bt t k) = C; generalize GfM.mul (bt v k) (bt t k) = D
    rw [Nat.xor_assoc, Nat.xor_assoc, ← Nat.xor_assoc B, Nat.xor_comm B C, Nat.xor_assoc C]

theorem dotk_scale (a : Nat) (ha : a ≤ 255) (u s t : ByteArray) (k : Nat) (h : ∀ j, j < k → bt u j = GfM.mul a (bt s j)) : dotk u t k = GfM.mul a (dotk s t k) := by
  induction k with
  | zero => exact (GfM.mul_zero a).symm
  | succ k ih =>
    unfold dotk
    rw [ih (fun j hj => h j (by omega)), h k (by omega), GfM.mul_assoc ha (bt_le _ _) (bt_le _ _), GfM.mul_xor ha (dotk_le _ _ _) (GfM.mul_le _ _)]

/-- the bytes of numbers; the bytes of a text, each xor its number -/
def numL (n : Nat) : List UInt8 := (List.range n).map fun i => UInt8.ofNat (i % 256)

def mixL (s : ByteArray) : List UInt8 := (List.range s.size).map fun i => UInt8.ofNat (bt s i ^^^ (i % 256))

theorem numL_length (n : Nat) : (numL n).length = n := by simp [numL]

theorem mixL_length (s : ByteArray) : (mixL s).length = s.size := by simp [mixL]

theorem ofNat_nat (x : Nat) (h : x ≤ 255) : (UInt8.ofNat x).toNat = x := by
  rw [UInt8.toNat_ofNat_of_lt']
  show _ < 256
  omega

theorem numL_at (n k : Nat) (h : k < (numL n).length) : ((numL n)[k]'h).toNat = k % 256 := by
  simp only [numL, List.getElem_map, List.getElem_range]
  exact ofNat_nat _ (by omega)

theorem mixL_at (s : ByteArray) (k : Nat) (h : k < (mixL s).length) : ((mixL s)[k]'h).toNat = bt s k ^^^ (k % 256) := by
  simp only [mixL, List.getElem_map, List.getElem_range]
  exact ofNat_nat _ (GfM.xor_le (bt_le _ _) (by omega))

theorem mix_bt (s : ByteArray) (j : Nat) (h : j < s.size) : bt ⟨(mixL s).toArray⟩ j = bt s j ^^^ bt ⟨(numL s.size).toArray⟩ j := by
  have h1 : j < (mixL s).length := by rw [mixL_length]; exact h
  have h2 : j < (numL s.size).length := by rw [numL_length]; exact h
  rw [bt_list (mixL s), bt_list (numL s.size), List.getElem?_eq_getElem h1, List.getElem?_eq_getElem h2, Option.getD_some, Option.getD_some, mixL_at s j h1, numL_at _ j h2]

theorem scl_bt (a : Nat) (s : ByteArray) (j : Nat) (h : j < s.size) : bt ⟨(scl a s).toArray⟩ j = GfM.mul a (bt s j) := by
  have h1 : j < (scl a s).length := by rw [scl_length]; exact h
  rw [bt_list, List.getElem?_eq_getElem h1, Option.getD_some, scl_at a s j h, bt_at]

theorem dot_v (B : Nat) (s t : ByteArray) (v : Nat) (w : World) (hF : FieldAt w B) (hs : s.size ≤ maxLen) (hst : s.size = t.size) (h : dotk s t s.size = v) :
    Calls Try.prog 85 #[.pointer (some ⟨B, 0, none⟩), .string s, .string t] w fun e w' =>
      e = .returned (.tuple #[.int .u8 (v : Int), .int .i64 0]) ∧ ∃ n, w' = w.drewN n := by
  subst h; exact dot_any B s t w hF hs hst

theorem size_list (L : List UInt8) : (⟨L.toArray⟩ : ByteArray).size = L.length := by show L.toArray.size = _; simp

theorem mix_xor (S : ByteArray) (k : Nat) (h : k < S.size) : bits .xor .u8 ((S[k]'h).toNat : Int) ((k : Int) % 256) = (((mixL S)[k]'(by rw [mixL_length]; exact h)).toNat : Int) := by
  have e : ((k : Int) % 256) = ((k % 256 : Nat) : Int) := by omega
  rw [e, bt_at, mixL_at, u8_xor_nat _ _ (by have := bt_le S k; omega) (by omega)]

theorem owns_below {H H2 g n cap : Nat} {w w' : World} {e : TypeId} {xs : List Value} (h : w.ownsRow H e 1 (.slice (some ⟨g, 0, none⟩) n cap) n xs) (hb : Below H2 w w') (hg : g < H2) :
    w'.ownsRow H e 1 (.slice (some ⟨g, 0, none⟩) n cap) n xs := by
  refine ⟨h.1, ?_⟩
  rcases h.2 with h' | ⟨g', cap', cur, hv, h1, h2, h3, h4, h5, h6⟩
  · exact .inl h'
  · refine .inr ⟨g', cap', cur, hv, h1, ?_, h3, h4, h5, h6⟩
    simp only [Value.slice.injEq, Option.some.injEq, Addr.mk.injEq] at hv
    obtain ⟨⟨rfl, -⟩, -⟩ := hv
    rw [hb.block g hg, h2]

end Go.Proofs.Ytemcjnbgcecinaa
