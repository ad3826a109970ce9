/- What the landed package reads: read, readUpTo, unfold, readSigned, readText; contracts; no condition but the range. -/
import Derived.Test.YtmllaighjhpbmaaPkDone2
import Derived.Test.YtmllaighjhpbmaaBkClone
namespace Go.Proofs.Ytmllaighjhpbmaa
namespace Pk
open Go.RowKit Bk

attribute [local go_sem ↓] Go.wp_at_zero Go.wp_at_succ
attribute [local go_sem] floatUpon pick

/-- what read of a folded number answers -/
def readVF (s : ByteArray) (a : Nat) : Value :=
  match readR (s.data.toList.drop a) with
  | .ok n u => .tuple #[.int .u64 (n : Int), .int .i64 ((a + u : Nat) : Int), .int .i64 0]
  | .fin => .tuple #[.int .u64 0, .int .i64 (s.size : Int), .int .i64 50]
  | .form => .tuple #[.int .u64 0, .int .i64 (a : Int), .int .i64 3]

set_option maxRecDepth 20000 in
set_option maxHeartbeats 1000000 in
theorem readInt_any (s : ByteArray) (a : Nat) (w : World) (ha : a ≤ s.size) (hs : s.size ≤ 1000000000000000) :
    Calls Try.prog 70 #[.string s, .int .i64 (a : Int)] w fun e w' => e = .returned (readV s a) ∧ w' = w := by
  have hB : (s.size : Int) ≤ 1000000000000000 := by omega
  have pa : (a : Int) ≤ (s.size : Int) := by omega
  go_enter Try.func70, Try.ntmps70
  go_wp2_with fail
  go_loopw [4, 10] (fun x i wr => ∃ (k m : Nat), k ≤ 9 ∧ a + k ≤ s.size ∧ Hid (m < 128 ^ k) ∧ i = .int .i64 (k : Int) ∧ x = .int .i64 (m : Int) ∧ Hid (readR (s.data.toList.drop a) = liftR k m (readK (9 - k) k (s.data.toList.drop (a + k)))) ∧ wr = w) (fun _ i _ => 9 - (intOf i).toNat)
  case atStart =>
    refine ⟨0, 0, by omega, by omega, by show 0 < 128 ^ 0; omega, rfl, rfl, ?_, rfl⟩
    show readR _ = liftR 0 0 (readK 9 0 _)
    unfold readR
    rw [Nat.add_zero]
    cases readK 9 0 (s.data.toList.drop a) <;> simp [liftR]
  case round =>
    obtain ⟨k, m, hk, hak, hm, rfl, rfl, hrd, rfl⟩ := hrel
    by_cases hk9 : k < 9
    · have pk : (k : Int) < 9 := by omega
      have pak : (a : Int) + (k : Int) ≤ (s.size : Int) := by omega
      by_cases hin : a + k < s.size
      · have pin : (a : Int) + (k : Int) < (s.size : Int) := by omega
        have pine : ((a : Int) + (k : Int) == (s.size : Int)) = false := by rw [beq_eq_false_iff_ne]; omega
        have hdr := drop_at s (a + k) hin
        have hix : ∀ W, (Instr.index 9 (.string s) (.int .i64 ((a : Int) + (k : Int)))).run Try.prog W = .ok (.int .u8 ((s[a + k]'hin).toNat : Int)) W := fun W => by
          rw [run_index_string W 9 s .i64 _ Try.underlying9, dif_pos (by omega)]
          congr 3
        have hb8 : (s[a + k]'hin).toNat < 256 := (s[a + k]'hin).toNat_lt
        have hrd2 := hrd.out
        rw [hdr, show 9 - k = (8 - k) + 1 by omega] at hrd2
        generalize hbv : s[a + k]'hin = b at hix hb8 hrd2
        obtain ⟨y, hy⟩ : ∃ y, y = b.toNat := ⟨_, rfl⟩
        rw [← hy] at hix hb8
        have hyi : (y : Int) < 256 := by omega
        have hmod : (y : Int).tmod 128 = ((y % 128 : Nat) : Int) := by rw [Int.tmod_eq_emod_of_nonneg (by omega)]; omega
        have hp : 128 ^ k ≤ 128 ^ 8 := Nat.pow_le_pow_right (by omega) (by omega)
        have hmul : 128 ^ k * (y % 128) ≤ 128 ^ k * 127 := Nat.mul_le_mul_left _ (by omega)
        have hm2 : m + 128 ^ k * (y % 128) < 128 ^ (k + 1) := by have := hm.out; rw [Nat.pow_succ]; omega
        have hp9 : 128 ^ (k + 1) ≤ 128 ^ 9 := Nat.pow_le_pow_right (by omega) (by omega)
        have hbnd : (m : Int) + ((128 ^ k * (y % 128) : Nat) : Int) ≤ 9223372036854775807 := by
          have h9 : m + 128 ^ k * (y % 128) < 9223372036854775808 := Nat.lt_of_lt_of_le hm2 hp9
          omega
        have hshl : ((y % 128 : Nat) : Int) * 2 ^ (7 * (k : Int)).toNat = ((128 ^ k * (y % 128) : Nat) : Int) := by
          rw [show (7 * (k : Int)).toNat = 7 * k by omega, Nat.mul_comm (128 ^ k), Int.natCast_mul, pow128, Int.natCast_pow]; rfl
        have hwr : IntKind.i64.wrap ((128 ^ k * (y % 128) : Nat) : Int) = ((128 ^ k * (y % 128) : Nat) : Int) := i64_wrap (by omega) (by omega)
        have HM2 := Lib.hid hm2
        by_cases hlo : y < 128
        · have plo : (y : Int) < 128 := by omega
          have hy7 : y % 128 = y := by omega
          rw [hy7] at hmod hshl hwr hbnd
          by_cases hz : y = 0 ∧ 0 < k
          · have E := Lib.hid (show readR (s.data.toList.drop a) = .form by rw [hrd2, readK_zero (by omega) hz.2]; rfl)
            obtain ⟨rfl, hz2⟩ := hz
            have pz : (0 : Int) < (k : Int) := by omega
            clear hm hrd hrd2 hdr hbv hy hb8 hp hmul hm2 hp9 HM2 hy7
            generalize 128 ^ k * 0 = q at hshl hwr hbnd
            go_wp2_with fail
            go_ret3
            exact ⟨by unfold readV; rw [E.out]; rfl, rfl⟩
          · have E := Lib.hid (show readR (s.data.toList.drop a) = .ok (m + 128 ^ k * y) (k + 1) by rw [hrd2, readK_last (by omega) (by omega), ← hy]; rfl)
            have hq : 0 ≤ ((128 ^ k * y : Nat) : Int) := by omega
            obtain ⟨q, hqe⟩ : ∃ q, q = 128 ^ k * y := ⟨_, rfl⟩
            rw [← hqe] at hshl hwr hbnd hq E
            clear hm hrd hrd2 hdr hbv hy hb8 hp hmul hm2 hp9 HM2 hy7 hqe
            by_cases hy0 : y = 0
            · have hk0 : ¬ 0 < k := fun h => hz ⟨hy0, h⟩
              have pe : ((y : Int) == 0) = true := by simp [hy0]
              have pk0 : (k : Int) ≤ 0 := by omega
              clear hz hk0 hy0
              go_wp2_with fail
              go_ret3
              exact ⟨by unfold readV; rw [E.out]; rfl, rfl⟩
            · have py : (1 : Int) ≤ (y : Int) := by omega
              have pne : ((y : Int) == 0) = false := by simp; omega
              clear hz hy0
              go_wp2_with fail
              go_ret3
              exact ⟨by unfold readV; rw [E.out]; rfl, rfl⟩
        · have plo : (128 : Int) ≤ (y : Int) := by omega
          have pne : ((y : Int) == 0) = false := by simp; omega
          have E := Lib.hid (show readR (s.data.toList.drop a) = liftR (k + 1) (m + 128 ^ k * (y % 128)) (readK (9 - (k + 1)) (k + 1) (s.data.toList.drop (a + (k + 1)))) by
            rw [hrd2, readK_hi (by omega), liftR_push, ← hy, show 8 - k = 9 - (k + 1) by omega, show a + k + 1 = a + (k + 1) by omega])
          have hq : 0 ≤ ((128 ^ k * (y % 128) : Nat) : Int) := by omega
          obtain ⟨q, hqe⟩ : ∃ q, q = 128 ^ k * (y % 128) := ⟨_, rfl⟩
          rw [← hqe] at hshl hwr hbnd hq E HM2
          have hx : y % 128 < 128 := by omega
          generalize y % 128 = x at hmod hshl hx
          have hxi : (x : Int) < 128 := by omega
          clear hm hrd hrd2 hdr hbv hy hb8 hp hmul hm2 hp9 hqe
          go_wp2_with fail
          go_roundw
          case rel => exact ⟨k + 1, m + q, by omega, by omega, HM2.out, by go_num, by go_num, E.out, trivial⟩
          case measure => simp [intOf]; omega
      · have E := Lib.hid (show readR (s.data.toList.drop a) = .fin by
          rw [hrd.out, List.drop_eq_nil_of_le (by rw [list_size]; omega), show 9 - k = (8 - k) + 1 by omega]; rfl)
        have pine : ((a : Int) + (k : Int) == (s.size : Int)) = true := by rw [beq_iff_eq]; omega
        have pin : (a : Int) + (k : Int) = (s.size : Int) := by omega
        have E2 := Lib.hid pin
        clear hm hrd pin
        go_wp2_with fail
        go_ret3
        exact ⟨by unfold readV; rw [E.out, ← E2.out]; rfl, rfl⟩
    · obtain rfl : k = 9 := by omega
      have E := Lib.hid (show readR (s.data.toList.drop a) = .form by rw [hrd.out]; rfl)
      clear hm hrd
      go_wp2_with fail
      go_ret3
      exact ⟨by unfold readV; rw [E.out]; rfl, rfl⟩

set_option maxRecDepth 20000 in
set_option maxHeartbeats 1000000 in
theorem readFolded_any (s : ByteArray) (a : Nat) (w : World) (ha : a ≤ s.size) (hs : s.size ≤ 1000000000000000) :
    Calls Try.prog 66 #[.string s, .int .i64 (a : Int)] w fun e w' => e = .returned (readVF s a) ∧ w' = w := by
  have hB : (s.size : Int) ≤ 1000000000000000 := by omega
  have pa : (a : Int) ≤ (s.size : Int) := by omega
  go_enter Try.func66, Try.ntmps66
  go_wp2_with fail
  go_loopw [4, 10] (fun x i wr => ∃ (k m : Nat), k ≤ 9 ∧ a + k ≤ s.size ∧ Hid (m < 128 ^ k) ∧ i = .int .i64 (k : Int) ∧ x = .int .u64 (m : Int) ∧ Hid (readR (s.data.toList.drop a) = liftR k m (readK (9 - k) k (s.data.toList.drop (a + k)))) ∧ wr = w) (fun _ i _ => 9 - (intOf i).toNat)
  case atStart =>
    refine ⟨0, 0, by omega, by omega, by show 0 < 128 ^ 0; omega, rfl, rfl, ?_, rfl⟩
    show readR _ = liftR 0 0 (readK 9 0 _)
    unfold readR
    rw [Nat.add_zero]
    cases readK 9 0 (s.data.toList.drop a) <;> simp [liftR]
  case round =>
    obtain ⟨k, m, hk, hak, hm, rfl, rfl, hrd, rfl⟩ := hrel
    by_cases hk9 : k < 9
    · have pk : (k : Int) < 9 := by omega
      have pak : (a : Int) + (k : Int) ≤ (s.size : Int) := by omega
      by_cases hin : a + k < s.size
      · have pin : (a : Int) + (k : Int) < (s.size : Int) := by omega
        have pine : ((a : Int) + (k : Int) == (s.size : Int)) = false := by rw [beq_eq_false_iff_ne]; omega
        have hdr := drop_at s (a + k) hin
        have hix : ∀ W, (Instr.index 9 (.string s) (.int .i64 ((a : Int) + (k : Int)))).run Try.prog W = .ok (.int .u8 ((s[a + k]'hin).toNat : Int)) W := fun W => by
          rw [run_index_string W 9 s .i64 _ Try.underlying9, dif_pos (by omega)]
          congr 3
        have hb8 : (s[a + k]'hin).toNat < 256 := (s[a + k]'hin).toNat_lt
        have hrd2 := hrd.out
        rw [hdr, show 9 - k = (8 - k) + 1 by omega] at hrd2
        generalize hbv : s[a + k]'hin = b at hix hb8 hrd2
        obtain ⟨y, hy⟩ : ∃ y, y = b.toNat := ⟨_, rfl⟩
        rw [← hy] at hix hb8
        have hyi : (y : Int) < 256 := by omega
        have hmod : (y : Int).tmod 128 = ((y % 128 : Nat) : Int) := by rw [Int.tmod_eq_emod_of_nonneg (by omega)]; omega
        have hp : 128 ^ k ≤ 128 ^ 8 := Nat.pow_le_pow_right (by omega) (by omega)
        have hmul : 128 ^ k * (y % 128) ≤ 128 ^ k * 127 := Nat.mul_le_mul_left _ (by omega)
        have hm2 : m + 128 ^ k * (y % 128) < 128 ^ (k + 1) := by have := hm.out; rw [Nat.pow_succ]; omega
        have hp9 : 128 ^ (k + 1) ≤ 128 ^ 9 := Nat.pow_le_pow_right (by omega) (by omega)
        have hbnd : (m : Int) + ((128 ^ k * (y % 128) : Nat) : Int) ≤ 9223372036854775807 := by
          have h9 : m + 128 ^ k * (y % 128) < 9223372036854775808 := Nat.lt_of_lt_of_le hm2 hp9
          omega
        have hshl : ((y % 128 : Nat) : Int) * 2 ^ (7 * (k : Int)).toNat = ((128 ^ k * (y % 128) : Nat) : Int) := by
          rw [show (7 * (k : Int)).toNat = 7 * k by omega, Nat.mul_comm (128 ^ k), Int.natCast_mul, pow128, Int.natCast_pow]; rfl
        have hwr : IntKind.u64.wrap ((128 ^ k * (y % 128) : Nat) : Int) = ((128 ^ k * (y % 128) : Nat) : Int) := u64_wrap (by omega) (by omega)
        have HM2 := Lib.hid hm2
        by_cases hlo : y < 128
        · have plo : (y : Int) < 128 := by omega
          have hy7 : y % 128 = y := by omega
          rw [hy7] at hmod hshl hwr hbnd
          by_cases hz : y = 0 ∧ 0 < k
          · have E := Lib.hid (show readR (s.data.toList.drop a) = .form by rw [hrd2, readK_zero (by omega) hz.2]; rfl)
            obtain ⟨rfl, hz2⟩ := hz
            have pz : (0 : Int) < (k : Int) := by omega
            clear hm hrd hrd2 hdr hbv hy hb8 hp hmul hm2 hp9 HM2 hy7
            generalize 128 ^ k * 0 = q at hshl hwr hbnd
            go_wp2_with fail
            go_ret3
            exact ⟨by unfold readVF; rw [E.out]; rfl, rfl⟩
          · have E := Lib.hid (show readR (s.data.toList.drop a) = .ok (m + 128 ^ k * y) (k + 1) by rw [hrd2, readK_last (by omega) (by omega), ← hy]; rfl)
            have hq : 0 ≤ ((128 ^ k * y : Nat) : Int) := by omega
            obtain ⟨q, hqe⟩ : ∃ q, q = 128 ^ k * y := ⟨_, rfl⟩
            rw [← hqe] at hshl hwr hbnd hq E
            clear hm hrd hrd2 hdr hbv hy hb8 hp hmul hm2 hp9 HM2 hy7 hqe
            by_cases hy0 : y = 0
            · have hk0 : ¬ 0 < k := fun h => hz ⟨hy0, h⟩
              have pe : ((y : Int) == 0) = true := by simp [hy0]
              have pk0 : (k : Int) ≤ 0 := by omega
              clear hz hk0 hy0
              go_wp2_with fail
              go_ret3
              exact ⟨by unfold readVF; rw [E.out]; rfl, rfl⟩
            · have py : (1 : Int) ≤ (y : Int) := by omega
              have pne : ((y : Int) == 0) = false := by simp; omega
              clear hz hy0
              go_wp2_with fail
              go_ret3
              exact ⟨by unfold readVF; rw [E.out]; rfl, rfl⟩
        · have plo : (128 : Int) ≤ (y : Int) := by omega
          have pne : ((y : Int) == 0) = false := by simp; omega
          have E := Lib.hid (show readR (s.data.toList.drop a) = liftR (k + 1) (m + 128 ^ k * (y % 128)) (readK (9 - (k + 1)) (k + 1) (s.data.toList.drop (a + (k + 1)))) by
            rw [hrd2, readK_hi (by omega), liftR_push, ← hy, show 8 - k = 9 - (k + 1) by omega, show a + k + 1 = a + (k + 1) by omega])
          have hq : 0 ≤ ((128 ^ k * (y % 128) : Nat) : Int) := by omega
          obtain ⟨q, hqe⟩ : ∃ q, q = 128 ^ k * (y % 128) := ⟨_, rfl⟩
          rw [← hqe] at hshl hwr hbnd hq E HM2
          have hx : y % 128 < 128 := by omega
          generalize y % 128 = x at hmod hshl hx
          have hxi : (x : Int) < 128 := by omega
          clear hm hrd hrd2 hdr hbv hy hb8 hp hmul hm2 hp9 hqe
          go_wp2_with fail
          go_roundw
          case rel => exact ⟨k + 1, m + q, by omega, by omega, HM2.out, by go_num, by go_num, E.out, trivial⟩
          case measure => simp [intOf]; omega
      · have E := Lib.hid (show readR (s.data.toList.drop a) = .fin by
          rw [hrd.out, List.drop_eq_nil_of_le (by rw [list_size]; omega), show 9 - k = (8 - k) + 1 by omega]; rfl)
        have pine : ((a : Int) + (k : Int) == (s.size : Int)) = true := by rw [beq_iff_eq]; omega
        have pin : (a : Int) + (k : Int) = (s.size : Int) := by omega
        have E2 := Lib.hid pin
        clear hm hrd pin
        go_wp2_with fail
        go_ret3
        exact ⟨by unfold readVF; rw [E.out, ← E2.out]; rfl, rfl⟩
    · obtain rfl : k = 9 := by omega
      have E := Lib.hid (show readR (s.data.toList.drop a) = .form by rw [hrd.out]; rfl)
      clear hm hrd
      go_wp2_with fail
      go_ret3
      exact ⟨by unfold readVF; rw [E.out]; rfl, rfl⟩

end Pk
end Go.Proofs.Ytmllaighjhpbmaa
