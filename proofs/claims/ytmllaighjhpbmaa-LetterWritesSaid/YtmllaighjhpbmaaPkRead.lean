/- What the document's own reading of numbers answers; contracts; no condition but the range. -/
import Derived.Test.YtmllaighjhpbmaaPkRef3
namespace Go.Proofs.Ytmllaighjhpbmaa
namespace Pk
open Go.RowKit Bk

attribute [local go_sem ↓] Go.wp_at_zero Go.wp_at_succ
attribute [local go_sem] floatUpon pick

/-- i bytes are read, they say x -/
def liftR (i x : Nat) : Rd → Rd
  | .ok n u => .ok (x + 128 ^ i * n) (i + u)
  | .fin => .fin
  | .form => .form

theorem liftR_push (i x y : Nat) (r : Rd) : liftR i x (r.push y) = liftR (i + 1) (x + 128 ^ i * y) r := by
  cases r with
  | ok n u =>
    simp only [Rd.push, liftR, Rd.ok.injEq]
    refine ⟨?_, by omega⟩
    rw [Nat.mul_add, Nat.pow_succ, Nat.add_assoc, Nat.mul_assoc]
  | fin => rfl
  | form => rfl

theorem readK_hi {k i : Nat} {b : UInt8} {r : List UInt8} (h : 128 ≤ b.toNat) : readK (k + 1) i (b :: r) = (readK k (i + 1) r).push (b.toNat % 128) := by
  rw [readK, if_neg (by omega)]

theorem readK_zero {k i : Nat} {b : UInt8} {r : List UInt8} (h : b.toNat = 0) (hi : 0 < i) : readK (k + 1) i (b :: r) = .form := by
  rw [readK, if_pos (by omega), if_pos ⟨h, hi⟩]

theorem readK_last {k i : Nat} {b : UInt8} {r : List UInt8} (h : b.toNat < 128) (hi : ¬ (b.toNat = 0 ∧ 0 < i)) : readK (k + 1) i (b :: r) = .ok b.toNat 1 := by
  rw [readK, if_pos h, if_neg hi]

/-- what read answers -/
def readV (s : ByteArray) (a : Nat) : Value :=
  match readR (s.data.toList.drop a) with
  | .ok n u => .tuple #[.int .i64 (n : Int), .int .i64 ((a + u : Nat) : Int), .int .i64 0]
  | .fin => .tuple #[.int .i64 0, .int .i64 (s.size : Int), .int .i64 50]
  | .form => .tuple #[.int .i64 0, .int .i64 (a : Int), .int .i64 3]

theorem list_size (s : ByteArray) : s.data.toList.length = s.size := Array.length_toList

theorem drop_at (s : ByteArray) (p : Nat) (h : p < s.size) : s.data.toList.drop p = s[p] :: s.data.toList.drop (p + 1) := by
  have h' : p < s.data.toList.length := by rw [list_size]; exact h
  rw [List.drop_eq_getElem_cons h', Array.getElem_toList]; rfl

theorem pow128 (n : Nat) : 128 ^ n = 2 ^ (7 * n) := by rw [Nat.pow_mul]

set_option maxRecDepth 20000 in
set_option maxHeartbeats 1000000 in
theorem read_any (s : ByteArray) (a : Nat) (w : World) (ha : a ≤ s.size) (hs : s.size ≤ 1000000000000000) :
    Calls Try.prog 58 #[.string s, .int .i64 (a : Int)] w fun e w' => e = .returned (readV s a) ∧ w' = w := by
  have hB : (s.size : Int) ≤ 1000000000000000 := by omega
  have pa : (a : Int) ≤ (s.size : Int) := by omega
  go_enter Try.func58, Try.ntmps58
  go_wp2_with fail
  go_loopw [7, 8] (fun x i wr => ∃ (k m : Nat), k ≤ 9 ∧ a + k ≤ s.size ∧ Hid (m < 128 ^ k) ∧ i = .int .i64 (k : Int) ∧ x = .int .i64 (m : Int) ∧ Hid (readR (s.data.toList.drop a) = liftR k m (readK (9 - k) k (s.data.toList.drop (a + k)))) ∧ wr = w) (fun _ i _ => 9 - (intOf i).toNat)
  case atStart =>
    refine ⟨0, 0, by omega, by omega, by show 0 < 128 ^ 0; omega, rfl, rfl, ?_, rfl⟩
    show readR _ = liftR 0 0 (readK 9 0 _)
    unfold readR
    rw [Nat.add_zero]
    cases readK 9 0 (s.data.toList.drop a) <;> simp [liftR]
  case round =>
    obtain ⟨k, m, hk, hak, hm, rfl, rfl, hrd, rfl⟩ := hrel
    by_cases hk9 : k < 9
    · have pk : (k : Int) < 9 := by omega
      have pak : (a : Int) + (k : Int) ≤ (s.size : Int) := by omega
      by_cases hin : a + k < s.size
      · have pin : (a : Int) + (k : Int) < (s.size : Int) := by omega
        have hdr := drop_at s (a + k) hin
        have hix : ∀ W, (Instr.index 9 (.string s) (.int .i64 ((a : Int) + (k : Int)))).run Try.prog W = .ok (.int .u8 ((s[a + k]'hin).toNat : Int)) W := fun W => by
          rw [run_index_string W 9 s .i64 _ Try.underlying9, dif_pos (by omega)]
          congr 3
        have hb8 : (s[a + k]'hin).toNat < 256 := (s[a + k]'hin).toNat_lt
        have hrd2 := hrd.out
        rw [hdr, show 9 - k = (8 - k) + 1 by omega] at hrd2
        generalize hbv : s[a + k]'hin = b at hix hb8 hrd2
        obtain ⟨y, hy⟩ : ∃ y, y = b.toNat := ⟨_, rfl⟩
        rw [← hy] at hix hb8
        have hyi : (y : Int) < 256 := by omega
        have hmod : (y : Int).tmod 128 = ((y % 128 : Nat) : Int) := by rw [Int.tmod_eq_emod_of_nonneg (by omega)]; omega
        have hp : 128 ^ k ≤ 128 ^ 8 := Nat.pow_le_pow_right (by omega) (by omega)
        have hmul : 128 ^ k * (y % 128) ≤ 128 ^ k * 127 := Nat.mul_le_mul_left _ (by omega)
        have hm2 : m + 128 ^ k * (y % 128) < 128 ^ (k + 1) := by have := hm.out; rw [Nat.pow_succ]; omega
        have hp9 : 128 ^ (k + 1) ≤ 128 ^ 9 := Nat.pow_le_pow_right (by omega) (by omega)
        have hbnd : (m : Int) + ((128 ^ k * (y % 128) : Nat) : Int) ≤ 9223372036854775807 := by
          have h9 : m + 128 ^ k * (y % 128) < 9223372036854775808 := Nat.lt_of_lt_of_le hm2 hp9
          omega
        have hshl : ((y % 128 : Nat) : Int) * 2 ^ (7 * (k : Int)).toNat = ((128 ^ k * (y % 128) : Nat) : Int) := by
          rw [show (7 * (k : Int)).toNat = 7 * k by omega, Nat.mul_comm (128 ^ k), Int.natCast_mul, pow128, Int.natCast_pow]; rfl
        have hwr : IntKind.i64.wrap ((128 ^ k * (y % 128) : Nat) : Int) = ((128 ^ k * (y % 128) : Nat) : Int) := i64_wrap (by omega) (by omega)
        have HM2 := Lib.hid hm2
        by_cases hlo : y < 128
        · have plo : (y : Int) < 128 := by omega
          have hy7 : y % 128 = y := by omega
          rw [hy7] at hmod hshl hwr hbnd
          by_cases hz : y = 0 ∧ 0 < k
          · have E := Lib.hid (show readR (s.data.toList.drop a) = .form by rw [hrd2, readK_zero (by omega) hz.2]; rfl)
            obtain ⟨rfl, hz2⟩ := hz
            have pz : (0 : Int) < (k : Int) := by omega
            clear hm hrd hrd2 hdr hbv hy hb8 hp hmul hm2 hp9 HM2 hy7
            generalize 128 ^ k * 0 = q at hshl hwr hbnd
            go_wp2_with fail
            go_ret3
            exact ⟨by unfold readV; rw [E.out]; rfl, rfl⟩
          · have E := Lib.hid (show readR (s.data.toList.drop a) = .ok (m + 128 ^ k * y) (k + 1) by rw [hrd2, readK_last (by omega) (by omega), ← hy]; rfl)
            have hq : 0 ≤ ((128 ^ k * y : Nat) : Int) := by omega
            obtain ⟨q, hqe⟩ : ∃ q, q = 128 ^ k * y := ⟨_, rfl⟩
            rw [← hqe] at hshl hwr hbnd hq E
            clear hm hrd hrd2 hdr hbv hy hb8 hp hmul hm2 hp9 HM2 hy7 hqe
            by_cases hy0 : y = 0
            · have hk0 : ¬ 0 < k := fun h => hz ⟨hy0, h⟩
              have pe : ((y : Int) == 0) = true := by simp [hy0]
              have pk0 : (k : Int) ≤ 0 := by omega
              clear hz hk0 hy0
              go_wp2_with fail
              go_ret3
              exact ⟨by unfold readV; rw [E.out]; rfl, rfl⟩
            · have py : (1 : Int) ≤ (y : Int) := by omega
              have pne : ((y : Int) == 0) = false := by simp; omega
              clear hz hy0
              go_wp2_with fail
              go_ret3
              exact ⟨by unfold readV; rw [E.out]; rfl, rfl⟩
        · have plo : (128 : Int) ≤ (y : Int) := by omega
          have E := Lib.hid (show readR (s.data.toList.drop a) = liftR (k + 1) (m + 128 ^ k * (y % 128)) (readK (9 - (k + 1)) (k + 1) (s.data.toList.drop (a + (k + 1)))) by
            rw [hrd2, readK_hi (by omega), liftR_push, ← hy, show 8 - k = 9 - (k + 1) by omega, show a + k + 1 = a + (k + 1) by omega])
          have hq : 0 ≤ ((128 ^ k * (y % 128) : Nat) : Int) := by omega
          obtain ⟨q, hqe⟩ : ∃ q, q = 128 ^ k * (y % 128) := ⟨_, rfl⟩
          rw [← hqe] at hshl hwr hbnd hq E HM2
          have hx : y % 128 < 128 := by omega
          generalize y % 128 = x at hmod hshl hx
          have hxi : (x : Int) < 128 := by omega
          clear hm hrd hrd2 hdr hbv hy hb8 hp hmul hm2 hp9 hqe
          go_wp2_with fail
          go_roundw
          case rel => exact ⟨k + 1, m + q, by omega, by omega, HM2.out, by go_num, by go_num, E.out, trivial⟩
          case measure => simp [intOf]; omega
      · have E := Lib.hid (show readR (s.data.toList.drop a) = .fin by
          rw [hrd.out, List.drop_eq_nil_of_le (by rw [list_size]; omega), show 9 - k = (8 - k) + 1 by omega]; rfl)
        have pin : (s.size : Int) ≤ (a : Int) + (k : Int) := by omega
        clear hm hrd
        go_wp2_with fail
        go_ret3
        exact ⟨by unfold readV; rw [E.out]; rfl, rfl⟩
    · obtain rfl : k = 9 := by omega
      have E := Lib.hid (show readR (s.data.toList.drop a) = .form by rw [hrd.out]; rfl)
      clear hm hrd
      go_wp2_with fail
      go_ret3
      exact ⟨by unfold readV; rw [E.out]; rfl, rfl⟩

/-- what count answers -/
def cntV (s : ByteArray) (a most : Nat) : Value :=
  match readR (s.data.toList.drop a) with
  | .ok n u => if most < n then .tuple #[.int .i64 0, .int .i64 (a : Int), .int .i64 2] else .tuple #[.int .i64 (n : Int), .int .i64 ((a + u : Nat) : Int), .int .i64 0]
  | .fin => .tuple #[.int .i64 0, .int .i64 (s.size : Int), .int .i64 50]
  | .form => .tuple #[.int .i64 0, .int .i64 (a : Int), .int .i64 3]

set_option maxRecDepth 20000 in
set_option maxHeartbeats 1000000 in
theorem count_any (s : ByteArray) (a most : Nat) (w : World) (ha : a ≤ s.size) (hs : s.size ≤ 1000000000000000) (hmost : most ≤ 4096) :
    Calls Try.prog 57 #[.string s, .int .i64 (a : Int), .int .i64 (most : Int)] w fun e w' => e = .returned (cntV s a most) ∧ w' = w := by
  have hB : (s.size : Int) ≤ 1000000000000000 := by omega
  have pa : (a : Int) ≤ (s.size : Int) := by omega
  have pm : (most : Int) ≤ 4096 := by omega
  have HR := Lib.hid (fun W => read_any s a W ha hs)
  cases hr : readR (s.data.toList.drop a) with
  | ok n u =>
    have h1 : readV s a = .tuple #[.int .i64 (n : Int), .int .i64 ((a + u : Nat) : Int), .int .i64 0] := by unfold readV; rw [hr]
    obtain ⟨_, hu, hn9⟩ := readR_ok hr
    have hn9' : n < 9223372036854775808 := hn9
    rw [h1] at HR
    by_cases hlt : most < n
    · have E := Lib.hid (show cntV s a most = .tuple #[.int .i64 0, .int .i64 (a : Int), .int .i64 2] by unfold cntV; rw [hr]; simp only; rw [if_pos hlt])
      have pl : (most : Int) < (n : Int) := by omega
      clear hr h1 hn9 hn9' hu
      generalize a + u = z at HR
      go_enter Try.func57, Try.ntmps57
      go_wp2_with fail
      refine (HR.out _).mono ?_
      rintro e w' ⟨rfl, rfl⟩
      go_wp2_with fail
      go_ret3
      exact ⟨by rw [E.out]; rfl, rfl⟩
    · have E := Lib.hid (show cntV s a most = .tuple #[.int .i64 (n : Int), .int .i64 ((a + u : Nat) : Int), .int .i64 0] by unfold cntV; rw [hr]; simp only; rw [if_neg hlt])
      have pl : (n : Int) ≤ (most : Int) := by omega
      clear hr h1 hn9 hn9' hu
      generalize a + u = z at HR E
      go_enter Try.func57, Try.ntmps57
      go_wp2_with fail
      refine (HR.out _).mono ?_
      rintro e w' ⟨rfl, rfl⟩
      go_wp2_with fail
      go_ret3
      exact ⟨by rw [E.out]; rfl, rfl⟩
  | fin =>
    have h1 : readV s a = .tuple #[.int .i64 0, .int .i64 (s.size : Int), .int .i64 50] := by unfold readV; rw [hr]
    have E := Lib.hid (show cntV s a most = .tuple #[.int .i64 0, .int .i64 (s.size : Int), .int .i64 50] by unfold cntV; rw [hr])
    rw [h1] at HR
    clear hr h1
    go_enter Try.func57, Try.ntmps57
    go_wp2_with fail
    refine (HR.out _).mono ?_
    rintro e w' ⟨rfl, rfl⟩
    go_wp2_with fail
    go_ret3
    exact ⟨by rw [E.out]; rfl, rfl⟩
  | form =>
    have h1 : readV s a = .tuple #[.int .i64 0, .int .i64 (a : Int), .int .i64 3] := by unfold readV; rw [hr]
    have E := Lib.hid (show cntV s a most = .tuple #[.int .i64 0, .int .i64 (a : Int), .int .i64 3] by unfold cntV; rw [hr])
    rw [h1] at HR
    clear hr h1
    go_enter Try.func57, Try.ntmps57
    go_wp2_with fail
    refine (HR.out _).mono ?_
    rintro e w' ⟨rfl, rfl⟩
    go_wp2_with fail
    go_ret3
    exact ⟨by rw [E.out]; rfl, rfl⟩

end Pk
end Go.Proofs.Ytmllaighjhpbmaa
