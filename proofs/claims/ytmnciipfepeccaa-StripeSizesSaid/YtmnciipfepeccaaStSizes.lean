/- The walk of the law that shards are just long enough; no condition. -/
import Derived.Test.YtmnciipfepeccaaStLaw0
namespace Go.Proofs.Ytmnciipfepeccaa
open Go.RowKit

theorem sz_next {k n : Nat} (hk : 1 ≤ k) : St.szN k (n + 1) ≤ St.szN k n + 1 := by
  unfold St.szN
  rw [← Nat.add_div_right (4 + n + k - 1) (show 0 < k by omega)]
  exact Nat.div_le_div_right (by omega)

theorem sz_lt {k n : Nat} (hk : 1 ≤ k) : (St.szN k n - 1) * k < n + 4 := by
  have h := St.sz_le k n
  have hp := St.sz_pos (n := n) hk
  rw [Nat.sub_mul, Nat.one_mul, Nat.mul_comm]
  omega

theorem Size_is (k n : Int) (v : Value) (w : World) (h : sizeAns k n = v) : Calls Try.prog 19 #[.int .i64 k, .int .i64 n] w fun e w' => e = .returned v ∧ w' = w := by
  subst h; exact Size_any k n w

set_option maxRecDepth 20000 in
set_option maxHeartbeats 400000 in
theorem sizes_walk (k0 n0 : Int) (w : World) :
    Calls Try.prog 11 #[.int .i64 k0, .int .i64 n0] w fun e w' => e = .returned (.bool true) ∧ Below w.heap.size w w' := by
  have hka := amongV_lt k0 255 (by omega)
  have hn1 := amongV_lt n0 2049 (by omega)
  have HA1 := Lib.hid (fun w => among_any k0 255 w (by omega) (by omega))
  have HA2 := Lib.hid (fun w => among_any n0 2049 w (by omega) (by omega))
  generalize amongV k0 255 = ka at *
  generalize amongV n0 2049 = n at *
  obtain ⟨k, hk⟩ : ∃ k, k = 1 + ka := ⟨_, rfl⟩
  have k1 : 1 ≤ k := by omega
  have k2 : k ≤ 255 := by omega
  have n2 : n ≤ 2048 := by omega
  obtain ⟨m, hm⟩ : ∃ m, m = min 2048 (n + 1) := ⟨_, rfl⟩
  have m1 : n ≤ m := by omega
  have m2 : m ≤ n + 1 := by omega
  have m3 : m ≤ 2048 := by omega
  have HK := Lib.hid (show (1 : Int) + ((ka : Nat) : Int) = (k : Int) by omega)
  have a1 := St.sz_ge (n := n) k1
  have a2 := sz_lt (n := n) k1
  have a3 := St.sz_mono (k := k) m1
  have a4 : St.szN k m ≤ St.szN k n + 1 := Nat.le_trans (St.sz_mono m2) (sz_next k1)
  have a5 := St.sz_bound1 (n := n) k1 n2
  have a6 := St.sz_bound1 (n := m) k1 m3
  have a7 := St.sz_pos (n := n) k1
  have a8 := St.sz_bound (n := n) k2 n2
  have HS1 := Lib.hid (sizeAns_yes k1 k2 n2)
  have HS2 := Lib.hid (sizeAns_yes k1 k2 m3)
  generalize St.szN k n = x at *
  generalize St.szN k m = y at *
  have e1 : (x : Int) * (k : Int) = ((k * x : Nat) : Int) := by rw [Int.natCast_mul, Int.mul_comm]
  have e2 : ((x : Int) - 1) * (k : Int) = (((x - 1) * k : Nat) : Int) := by rw [Int.natCast_mul]; congr 1; omega
  have q1 : (n : Int) + 4 ≤ (x : Int) * (k : Int) := by rw [e1]; omega
  have q2 : (x : Int) * (k : Int) ≤ 2306 := by rw [e1]; omega
  have q3 : ((x : Int) - 1) * (k : Int) < (n : Int) + 4 := by rw [e2]; omega
  have q4 : (0 : Int) ≤ ((x : Int) - 1) * (k : Int) := by rw [e2]; omega
  have HMm := Lib.hid hm
  have a3' : (x : Int) ≤ (y : Int) := by omega
  have a4' : (y : Int) ≤ (x : Int) + 1 := by omega
  clear hk hn1 e1 e2 a1 a2 hm a3 a4 m1 m2 m3 a8
  go_enter Try.func11, Try.ntmps11
  go_wp2_with fail
  refine (stworks _).mono ?_
  rintro e w1 ⟨rfl, hb⟩
  have B1 := Lib.hid hb
  clear hb
  go_wp2_with fail
  refine (HA1.out _).mono ?_
  rintro e w2 ⟨rfl, rfl⟩
  go_wp2_with fail
  rw [HK.out]
  refine (HA2.out _).mono ?_
  rintro e w2 ⟨rfl, rfl⟩
  go_wp2_with fail
  have hz1 := Size_any (k : Int) (n : Int) w2
  rw [HS1.out] at hz1
  have HZ1 := Lib.hid hz1
  clear hz1
  refine HZ1.out.mono ?_
  rintro e w3 ⟨rfl, rfl⟩
  go_wp2_with fail
  · have E2 : Hid (sizeAns (k : Int) ((n : Int) + 1) = .tuple #[.int .i64 (y : Int), .int .i64 0]) := by
      show _ = _
      rw [← HS2.out, show (n : Int) + 1 = (m : Int) by have := HMm.out; omega]
    have HZ2 := Lib.hid (fun w => Size_is (k : Int) ((n : Int) + 1) _ w E2.out)
    refine (HZ2.out _).mono ?_
    rintro e w4 ⟨rfl, rfl⟩
    go_wp2_with fail
    go_ret
    exact ⟨rfl, B1.out⟩
  · have E2 : Hid (sizeAns (k : Int) 2048 = .tuple #[.int .i64 (y : Int), .int .i64 0]) := by
      show _ = _
      rw [← HS2.out, show (2048 : Int) = (m : Int) by have := HMm.out; omega]
    have HZ2 := Lib.hid (fun w => Size_is (k : Int) (2048) _ w E2.out)
    refine (HZ2.out _).mono ?_
    rintro e w4 ⟨rfl, rfl⟩
    go_wp2_with fail
    go_ret
    exact ⟨rfl, B1.out⟩

end Go.Proofs.Ytmnciipfepeccaa
