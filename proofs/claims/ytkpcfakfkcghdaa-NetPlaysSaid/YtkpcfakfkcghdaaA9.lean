/- Parts of the proof, joined: PkDone3, PkDone4, PkDone5, PkDone, LtEncL; their conditions stand with each. -/
import Derived.Test.YtkpcfakfkcghdaaA6
import Derived.Test.YtkpcfakfkcghdaaA7
import Derived.Test.YtkpcfakfkcghdaaA8

/- What the landed package reads: read, readUpTo, unfold, readSigned, readText; contracts; no condition but the range. -/
namespace Go.Proofs.Ytkpcfakfkcghdaa
namespace Pk
open Go.RowKit Bk

attribute [local go_sem ↓] Go.wp_at_zero Go.wp_at_succ
attribute [local go_sem] floatUpon pick

/-- what read of a folded number answers -/
def readVF (s : ByteArray) (a : Nat) : Value :=
  match readR (s.data.toList.drop a) with
  | .ok n u => .tuple #[.int .u64 (n : Int), .int .i64 ((a + u : Nat) : Int), .int .i64 0]
  | .fin => .tuple #[.int .u64 0, .int .i64 (s.size : Int), .int .i64 50]
  | .form => .tuple #[.int .u64 0, .int .i64 (a : Int), .int .i64 3]

set_option maxRecDepth 20000 in
set_option maxHeartbeats 1000000 in
theorem readInt_any (s : ByteArray) (a : Nat) (w : World) (ha : a ≤ s.size) (hs : s.size ≤ 1000000000000000) :
    Calls Try.prog 90 #[.string s, .int .i64 (a : Int)] w fun e w' => e = .returned (readV s a) ∧ w' = w := by
  have hB : (s.size : Int) ≤ 1000000000000000 := by omega
  have pa : (a : Int) ≤ (s.size : Int) := by omega
  go_enter Try.func90, Try.ntmps90
  go_wp2_with fail
  go_loopw [4, 10] (fun x i wr => ∃ (k m : Nat), k ≤ 9 ∧ a + k ≤ s.size ∧ Hid (m < 128 ^ k) ∧ i = .int .i64 (k : Int) ∧ x = .int .i64 (m : Int) ∧ Hid (readR (s.data.toList.drop a) = liftR k m (readK (9 - k) k (s.data.toList.drop (a + k)))) ∧ wr = w) (fun _ i _ => 9 - (intOf i).toNat)
  case atStart =>
    refine ⟨0, 0, by omega, by omega, by show 0 < 128 ^ 0; omega, rfl, rfl, ?_, rfl⟩
    show readR _ = liftR 0 0 (readK 9 0 _)
    unfold readR
    rw [Nat.add_zero]
    cases readK 9 0 (s.data.toList.drop a) <;> simp [liftR]
  case round =>
    obtain ⟨k, m, hk, hak, hm, rfl, rfl, hrd, rfl⟩ := hrel
    by_cases hk9 : k < 9
    · have pk : (k : Int) < 9 := by omega
      have pak : (a : Int) + (k : Int) ≤ (s.size : Int) := by omega
      by_cases hin : a + k < s.size
      · have pin : (a : Int) + (k : Int) < (s.size : Int) := by omega
        have pine : ((a : Int) + (k : Int) == (s.size : Int)) = false := by rw [beq_eq_false_iff_ne]; omega
        have hdr := drop_at s (a + k) hin
        have hix : ∀ W, (Instr.index 9 (.string s) (.int .i64 ((a : Int) + (k : Int)))).run Try.prog W = .ok (.int .u8 ((s[a + k]'hin).toNat : Int)) W := fun W => by
          rw [run_index_string W 9 s .i64 _ Try.underlying9, dif_pos (by omega)]
          congr 3
        have hb8 : (s[a + k]'hin).toNat < 256 := (s[a + k]'hin).toNat_lt
        have hrd2 := hrd.out
        rw [hdr, show 9 - k = (8 - k) + 1 by omega] at hrd2
        generalize hbv : s[a + k]'hin = b at hix hb8 hrd2
        obtain ⟨y, hy⟩ : ∃ y, y = b.toNat := ⟨_, rfl⟩
        rw [← hy] at hix hb8
        have hyi : (y : Int) < 256 := by omega
        have hmod : (y : Int).tmod 128 = ((y % 128 : Nat) : Int) := by rw [Int.tmod_eq_emod_of_nonneg (by omega)]; omega
        have hp : 128 ^ k ≤ 128 ^ 8 := Nat.pow_le_pow_right (by omega) (by omega)
        have hmul : 128 ^ k * (y % 128) ≤ 128 ^ k * 127 := Nat.mul_le_mul_left _ (by omega)
        have hm2 : m + 128 ^ k * (y % 128) < 128 ^ (k + 1) := by have := hm.out; rw [Nat.pow_succ]; omega
        have hp9 : 128 ^ (k + 1) ≤ 128 ^ 9 := Nat.pow_le_pow_right (by omega) (by omega)
        have hbnd : (m : Int) + ((128 ^ k * (y % 128) : Nat) : Int) ≤ 9223372036854775807 := by
          have h9 : m + 128 ^ k * (y % 128) < 9223372036854775808 := Nat.lt_of_lt_of_le hm2 hp9
          omega
        have hshl : ((y % 128 : Nat) : Int) * 2 ^ (7 * (k : Int)).toNat = ((128 ^ k * (y % 128) : Nat) : Int) := by
          rw [show (7 * (k : Int)).toNat = 7 * k by omega, Nat.mul_comm (128 ^ k), Int.natCast_mul, pow128, Int.natCast_pow]; rfl
        have hwr : IntKind.i64.wrap ((128 ^ k * (y % 128) : Nat) : Int) = ((128 ^ k * (y % 128) : Nat) : Int) := i64_wrap (by omega) (by omega)
        have HM2 := Lib.hid hm2
        by_cases hlo : y < 128
        · have plo : (y : Int) < 128 := by omega
          have hy7 : y % 128 = y := by omega
          rw [hy7] at hmod hshl hwr hbnd
          by_cases hz : y = 0 ∧ 0 < k
          · have E := Lib.hid (show readR (s.data.toList.drop a) = .form by rw [hrd2, readK_zero (by omega) hz.2]; rfl)
            obtain ⟨rfl, hz2⟩ := hz
            have pz : (0 : Int) < (k : Int) := by omega
            clear hm hrd hrd2 hdr hbv hy hb8 hp hmul hm2 hp9 HM2 hy7
            generalize 128 ^ k * 0 = q at hshl hwr hbnd
            go_wp2_with fail
            go_ret3
            exact ⟨by unfold readV; rw [E.out]; rfl, rfl⟩
          · have E := Lib.hid (show readR (s.data.toList.drop a) = .ok (m + 128 ^ k * y) (k + 1) by rw [hrd2, readK_last (by omega) (by omega), ← hy]; rfl)
            have hq : 0 ≤ ((128 ^ k * y : Nat) : Int) := by omega
            obtain ⟨q, hqe⟩ : ∃ q, q = 128 ^ k * y := ⟨_, rfl⟩
            rw [← hqe] at hshl hwr hbnd hq E
            clear hm hrd hrd2 hdr hbv hy hb8 hp hmul hm2 hp9 HM2 hy7 hqe
            by_cases hy0 : y = 0
            · have hk0 : ¬ 0 < k := fun h => hz ⟨hy0, h⟩
              have pe : ((y : Int) == 0) = true := by simp [hy0]
              have pk0 : (k : Int) ≤ 0 := by omega
              clear hz hk0 hy0
              go_wp2_with fail
              go_ret3
              exact ⟨by unfold readV; rw [E.out]; rfl, rfl⟩
            · have py : (1 : Int) ≤ (y : Int) := by omega
              have pne : ((y : Int) == 0) = false := by simp; omega
              clear hz hy0
              go_wp2_with fail
              go_ret3
              exact ⟨by unfold readV; rw [E.out]; rfl, rfl⟩
        · have plo : (128 : Int) ≤ (y : Int) := by omega
          have pne : ((y : Int) == 0) = false := by simp; omega
          have E := Lib.hid (show readR (s.data.toList.drop a) = liftR (k + 1) (m + 128 ^ k * (y % 128)) (readK (9 - (k + 1)) (k + 1) (s.data.toList.drop (a + (k + 1)))) by
            rw [hrd2, readK_hi (by omega), liftR_push, ← hy, show 8 - k = 9 - (k + 1) by omega, show a + k + 1 = a + (k + 1) by omega])
          have hq : 0 ≤ ((128 ^ k * (y % 128) : Nat) : Int) := by omega
          obtain ⟨q, hqe⟩ : ∃ q, q = 128 ^ k * (y % 128) := ⟨_, rfl⟩
          rw [← hqe] at hshl hwr hbnd hq E HM2
          have hx : y % 128 < 128 := by omega
          generalize y % 128 = x at hmod hshl hx
          have hxi : (x : Int) < 128 := by omega
          clear hm hrd hrd2 hdr hbv hy hb8 hp hmul hm2 hp9 hqe
          go_wp2_with fail
          go_roundw
          case rel => exact ⟨k + 1, m + q, by omega, by omega, HM2.out, by go_num, by go_num, E.out, trivial⟩
          case measure => simp [intOf]; omega
      · have E := Lib.hid (show readR (s.data.toList.drop a) = .fin by
          rw [hrd.out, List.drop_eq_nil_of_le (by rw [list_size]; omega), show 9 - k = (8 - k) + 1 by omega]; rfl)
        have pine : ((a : Int) + (k : Int) == (s.size : Int)) = true := by rw [beq_iff_eq]; omega
        have pin : (a : Int) + (k : Int) = (s.size : Int) := by omega
        have E2 := Lib.hid pin
        clear hm hrd pin
        go_wp2_with fail
        go_ret3
        exact ⟨by unfold readV; rw [E.out, ← E2.out]; rfl, rfl⟩
    · obtain rfl : k = 9 := by omega
      have E := Lib.hid (show readR (s.data.toList.drop a) = .form by rw [hrd.out]; rfl)
      clear hm hrd
      go_wp2_with fail
      go_ret3
      exact ⟨by unfold readV; rw [E.out]; rfl, rfl⟩

set_option maxRecDepth 20000 in
set_option maxHeartbeats 1000000 in
theorem readFolded_any (s : ByteArray) (a : Nat) (w : World) (ha : a ≤ s.size) (hs : s.size ≤ 1000000000000000) :
    Calls Try.prog 80 #[.string s, .int .i64 (a : Int)] w fun e w' => e = .returned (readVF s a) ∧ w' = w := by
  have hB : (s.size : Int) ≤ 1000000000000000 := by omega
  have pa : (a : Int) ≤ (s.size : Int) := by omega
  go_enter Try.func80, Try.ntmps80
  go_wp2_with fail
  go_loopw [4, 10] (fun x i wr => ∃ (k m : Nat), k ≤ 9 ∧ a + k ≤ s.size ∧ Hid (m < 128 ^ k) ∧ i = .int .i64 (k : Int) ∧ x = .int .u64 (m : Int) ∧ Hid (readR (s.data.toList.drop a) = liftR k m (readK (9 - k) k (s.data.toList.drop (a + k)))) ∧ wr = w) (fun _ i _ => 9 - (intOf i).toNat)
  case atStart =>
    refine ⟨0, 0, by omega, by omega, by show 0 < 128 ^ 0; omega, rfl, rfl, ?_, rfl⟩
    show readR _ = liftR 0 0 (readK 9 0 _)
    unfold readR
    rw [Nat.add_zero]
    cases readK 9 0 (s.data.toList.drop a) <;> simp [liftR]
  case round =>
    obtain ⟨k, m, hk, hak, hm, rfl, rfl, hrd, rfl⟩ := hrel
    by_cases hk9 : k < 9
    · have pk : (k : Int) < 9 := by omega
      have pak : (a : Int) + (k : Int) ≤ (s.size : Int) := by omega
      by_cases hin : a + k < s.size
      · have pin : (a : Int) + (k : Int) < (s.size : Int) := by omega
        have pine : ((a : Int) + (k : Int) == (s.size : Int)) = false := by rw [beq_eq_false_iff_ne]; omega
        have hdr := drop_at s (a + k) hin
        have hix : ∀ W, (Instr.index 9 (.string s) (.int .i64 ((a : Int) + (k : Int)))).run Try.prog W = .ok (.int .u8 ((s[a + k]'hin).toNat : Int)) W := fun W => by
          rw [run_index_string W 9 s .i64 _ Try.underlying9, dif_pos (by omega)]
          congr 3
        have hb8 : (s[a + k]'hin).toNat < 256 := (s[a + k]'hin).toNat_lt
        have hrd2 := hrd.out
        rw [hdr, show 9 - k = (8 - k) + 1 by omega] at hrd2
        generalize hbv : s[a + k]'hin = b at hix hb8 hrd2
        obtain ⟨y, hy⟩ : ∃ y, y = b.toNat := ⟨_, rfl⟩
        rw [← hy] at hix hb8
        have hyi : (y : Int) < 256 := by omega
        have hmod : (y : Int).tmod 128 = ((y % 128 : Nat) : Int) := by rw [Int.tmod_eq_emod_of_nonneg (by omega)]; omega
        have hp : 128 ^ k ≤ 128 ^ 8 := Nat.pow_le_pow_right (by omega) (by omega)
        have hmul : 128 ^ k * (y % 128) ≤ 128 ^ k * 127 := Nat.mul_le_mul_left _ (by omega)
        have hm2 : m + 128 ^ k * (y % 128) < 128 ^ (k + 1) := by have := hm.out; rw [Nat.pow_succ]; omega
        have hp9 : 128 ^ (k + 1) ≤ 128 ^ 9 := Nat.pow_le_pow_right (by omega) (by omega)
        have hbnd : (m : Int) + ((128 ^ k * (y % 128) : Nat) : Int) ≤ 9223372036854775807 := by
          have h9 : m + 128 ^ k * (y % 128) < 9223372036854775808 := Nat.lt_of_lt_of_le hm2 hp9
          omega
        have hshl : ((y % 128 : Nat) : Int) * 2 ^ (7 * (k : Int)).toNat = ((128 ^ k * (y % 128) : Nat) : Int) := by
          rw [show (7 * (k : Int)).toNat = 7 * k by omega, Nat.mul_comm (128 ^ k), Int.natCast_mul, pow128, Int.natCast_pow]; rfl
        have hwr : IntKind.u64.wrap ((128 ^ k * (y % 128) : Nat) : Int) = ((128 ^ k * (y % 128) : Nat) : Int) := u64_wrap (by omega) (by omega)
        have HM2 := Lib.hid hm2
        by_cases hlo : y < 128
        · have plo : (y : Int) < 128 := by omega
          have hy7 : y % 128 = y := by omega
          rw [hy7] at hmod hshl hwr hbnd
          by_cases hz : y = 0 ∧ 0 < k
          · have E := Lib.hid (show readR (s.data.toList.drop a) = .form by rw [hrd2, readK_zero (by omega) hz.2]; rfl)
            obtain ⟨rfl, hz2⟩ := hz
            have pz : (0 : Int) < (k : Int) := by omega
            clear hm hrd hrd2 hdr hbv hy hb8 hp hmul hm2 hp9 HM2 hy7
            generalize 128 ^ k * 0 = q at hshl hwr hbnd
            go_wp2_with fail
            go_ret3
            exact ⟨by unfold readVF; rw [E.out]; rfl, rfl⟩
          · have E := Lib.hid (show readR (s.data.toList.drop a) = .ok (m + 128 ^ k * y) (k + 1) by rw [hrd2, readK_last (by omega) (by omega), ← hy]; rfl)
            have hq : 0 ≤ ((128 ^ k * y : Nat) : Int) := by omega
            obtain ⟨q, hqe⟩ : ∃ q, q = 128 ^ k * y := ⟨_, rfl⟩
            rw [← hqe] at hshl hwr hbnd hq E
            clear hm hrd hrd2 hdr hbv hy hb8 hp hmul hm2 hp9 HM2 hy7 hqe
            by_cases hy0 : y = 0
            · have hk0 : ¬ 0 < k := fun h => hz ⟨hy0, h⟩
              have pe : ((y : Int) == 0) = true := by simp [hy0]
              have pk0 : (k : Int) ≤ 0 := by omega
              clear hz hk0 hy0
              go_wp2_with fail
              go_ret3
              exact ⟨by unfold readVF; rw [E.out]; rfl, rfl⟩
            · have py : (1 : Int) ≤ (y : Int) := by omega
              have pne : ((y : Int) == 0) = false := by simp; omega
              clear hz hy0
              go_wp2_with fail
              go_ret3
              exact ⟨by unfold readVF; rw [E.out]; rfl, rfl⟩
        · have plo : (128 : Int) ≤ (y : Int) := by omega
          have pne : ((y : Int) == 0) = false := by simp; omega
          have E := Lib.hid (show readR (s.data.toList.drop a) = liftR (k + 1) (m + 128 ^ k * (y % 128)) (readK (9 - (k + 1)) (k + 1) (s.data.toList.drop (a + (k + 1)))) by
            rw [hrd2, readK_hi (by omega), liftR_push, ← hy, show 8 - k = 9 - (k + 1) by omega, show a + k + 1 = a + (k + 1) by omega])
          have hq : 0 ≤ ((128 ^ k * (y % 128) : Nat) : Int) := by omega
          obtain ⟨q, hqe⟩ : ∃ q, q = 128 ^ k * (y % 128) := ⟨_, rfl⟩
          rw [← hqe] at hshl hwr hbnd hq E HM2
          have hx : y % 128 < 128 := by omega
          generalize y % 128 = x at hmod hshl hx
          have hxi : (x : Int) < 128 := by omega
          clear hm hrd hrd2 hdr hbv hy hb8 hp hmul hm2 hp9 hqe
          go_wp2_with fail
          go_roundw
          case rel => exact ⟨k + 1, m + q, by omega, by omega, HM2.out, by go_num, by go_num, E.out, trivial⟩
          case measure => simp [intOf]; omega
      · have E := Lib.hid (show readR (s.data.toList.drop a) = .fin by
          rw [hrd.out, List.drop_eq_nil_of_le (by rw [list_size]; omega), show 9 - k = (8 - k) + 1 by omega]; rfl)
        have pine : ((a : Int) + (k : Int) == (s.size : Int)) = true := by rw [beq_iff_eq]; omega
        have pin : (a : Int) + (k : Int) = (s.size : Int) := by omega
        have E2 := Lib.hid pin
        clear hm hrd pin
        go_wp2_with fail
        go_ret3
        exact ⟨by unfold readVF; rw [E.out, ← E2.out]; rfl, rfl⟩
    · obtain rfl : k = 9 := by omega
      have E := Lib.hid (show readR (s.data.toList.drop a) = .form by rw [hrd.out]; rfl)
      clear hm hrd
      go_wp2_with fail
      go_ret3
      exact ⟨by unfold readVF; rw [E.out]; rfl, rfl⟩

end Pk
end Go.Proofs.Ytkpcfakfkcghdaa

/- What the landed package reads: readUpTo, unfold, readSigned, readText; contracts; no condition but the range. -/
namespace Go.Proofs.Ytkpcfakfkcghdaa
namespace Pk
open Go.RowKit Bk

attribute [local go_sem ↓] Go.wp_at_zero Go.wp_at_succ
attribute [local go_sem] floatUpon pick

/-- what a reading of one thing says: it is x, and goes on at p; or it fails at p with c -/
def Sd {α : Type} (s : ByteArray) (r : Except Er (α × List UInt8)) (z x : α) (p c : Nat) : Prop :=
  (c = 0 ∧ p ≤ s.size ∧ r = .ok (x, s.data.toList.drop p)) ∨ (c ≠ 0 ∧ c ≤ 50 ∧ p ≤ s.size ∧ x = z ∧ ∃ e : Er, r = .error e ∧ p = e.place s.size ∧ c = e.code)

theorem Sd.in {α : Type} {s : ByteArray} {r : Except Er (α × List UInt8)} {z x : α} {p c : Nat} (h : Sd s r z x p c) : p ≤ s.size ∧ c ≤ 50 := by
  rcases h with ⟨h1, h2, _⟩ | ⟨_, h1, h2, _⟩ <;> exact ⟨by omega, by omega⟩

set_option maxRecDepth 20000 in
set_option maxHeartbeats 1000000 in
theorem upTo_any (s : ByteArray) (a most : Nat) (w : World) (ha : a ≤ s.size) (hs : s.size ≤ 1000000000000000) (hmost : most ≤ 4096) :
    Calls Try.prog 79 #[.int .i64 (most : Int), .string s, .int .i64 (a : Int)] w fun e w' => e = .returned (cntV s a most) ∧ w' = w := by
  have hB : (s.size : Int) ≤ 1000000000000000 := by omega
  have pa : (a : Int) ≤ (s.size : Int) := by omega
  have pm : (most : Int) ≤ 4096 := by omega
  have HR := Lib.hid (fun W => readInt_any s a W ha hs)
  cases hr : readR (s.data.toList.drop a) with
  | ok n u =>
    have h1 : readV s a = .tuple #[.int .i64 (n : Int), .int .i64 ((a + u : Nat) : Int), .int .i64 0] := by unfold readV; rw [hr]
    obtain ⟨_, hu, hn9⟩ := readR_ok hr
    have hn9' : n < 9223372036854775808 := hn9
    rw [h1] at HR
    by_cases hlt : most < n
    · have E := Lib.hid (show cntV s a most = .tuple #[.int .i64 0, .int .i64 (a : Int), .int .i64 2] by unfold cntV; rw [hr]; simp only; rw [if_pos hlt])
      have pl : (most : Int) < (n : Int) := by omega
      clear hr h1 hn9 hn9' hu
      generalize a + u = z at HR
      go_enter Try.func79, Try.ntmps79
      go_wp2_with fail
      refine (HR.out _).mono ?_
      rintro e w' ⟨rfl, rfl⟩
      go_wp2_with fail
      go_ret3
      exact ⟨by rw [E.out]; rfl, rfl⟩
    · have E := Lib.hid (show cntV s a most = .tuple #[.int .i64 (n : Int), .int .i64 ((a + u : Nat) : Int), .int .i64 0] by unfold cntV; rw [hr]; simp only; rw [if_neg hlt])
      have pl : (n : Int) ≤ (most : Int) := by omega
      clear hr h1 hn9 hn9' hu
      generalize a + u = z at HR E
      go_enter Try.func79, Try.ntmps79
      go_wp2_with fail
      refine (HR.out _).mono ?_
      rintro e w' ⟨rfl, rfl⟩
      go_wp2_with fail
      go_ret3
      exact ⟨by rw [E.out]; rfl, rfl⟩
  | fin =>
    have h1 : readV s a = .tuple #[.int .i64 0, .int .i64 (s.size : Int), .int .i64 50] := by unfold readV; rw [hr]
    have E := Lib.hid (show cntV s a most = .tuple #[.int .i64 0, .int .i64 (s.size : Int), .int .i64 50] by unfold cntV; rw [hr])
    rw [h1] at HR
    have pl : (0 : Int) ≤ (most : Int) := by omega
    clear hr h1
    go_enter Try.func79, Try.ntmps79
    go_wp2_with fail
    refine (HR.out _).mono ?_
    rintro e w' ⟨rfl, rfl⟩
    go_wp2_with fail
    go_ret3
    exact ⟨by rw [E.out]; rfl, rfl⟩
  | form =>
    have h1 : readV s a = .tuple #[.int .i64 0, .int .i64 (a : Int), .int .i64 3] := by unfold readV; rw [hr]
    have E := Lib.hid (show cntV s a most = .tuple #[.int .i64 0, .int .i64 (a : Int), .int .i64 3] by unfold cntV; rw [hr])
    rw [h1] at HR
    have pl : (0 : Int) ≤ (most : Int) := by omega
    clear hr h1
    go_enter Try.func79, Try.ntmps79
    go_wp2_with fail
    refine (HR.out _).mono ?_
    rintro e w' ⟨rfl, rfl⟩
    go_wp2_with fail
    go_ret3
    exact ⟨by rw [E.out]; rfl, rfl⟩

set_option maxRecDepth 20000 in
set_option maxHeartbeats 1000000 in
theorem unfold_any (n : Nat) (w : World) (hn : n < 9223372036854775808) :
    Calls Try.prog 81 #[.int .u64 (n : Int)] w fun e w' => e = .returned (.int .i64 (unzig n)) ∧ w' = w := by
  have hy : n / 2 ≤ 4611686018427387903 := by omega
  have hdiv : (n : Int).tdiv 2 = ((n / 2 : Nat) : Int) := by rw [Int.tdiv_eq_ediv_of_nonneg (by omega)]; omega
  have hmod : (n : Int).tmod 2 = ((n % 2 : Nat) : Int) := by rw [Int.tmod_eq_emod_of_nonneg (by omega)]; omega
  by_cases hodd : n % 2 = 1
  · have E := Lib.hid (show unzig n = -((n / 2 : Nat) : Int) - 1 by unfold unzig; rw [if_pos hodd])
    have hb : ((n : Int) % 2 == 1) = true := by rw [show (n : Int) % 2 = 1 by omega]; rfl
    rw [hodd] at hmod
    generalize n / 2 = y at hdiv hy E
    have hyi : (y : Int) ≤ 4611686018427387903 := by omega
    have hcv : IntKind.i64.wrap (y : Int) = (y : Int) := i64_wrap (by omega) (by omega)
    clear hodd
    go_enter Try.func81, Try.ntmps81
    go_wp2_with fail
    go_ret
    exact ⟨by rw [E.out]; rfl, rfl⟩
  · have E := Lib.hid (show unzig n = ((n / 2 : Nat) : Int) by unfold unzig; rw [if_neg hodd])
    have hb : ((n : Int) % 2 == 1) = false := by rw [show (n : Int) % 2 = 0 by omega]; rfl
    have hm0 : n % 2 = 0 := by omega
    rw [hm0] at hmod
    generalize n / 2 = y at hdiv hy E
    have hyi : (y : Int) ≤ 4611686018427387903 := by omega
    have hcv : IntKind.i64.wrap (y : Int) = (y : Int) := i64_wrap (by omega) (by omega)
    clear hodd hm0
    go_enter Try.func81, Try.ntmps81
    go_wp2_with fail
    go_ret
    exact ⟨by rw [E.out]; rfl, rfl⟩

/-- a signed number is read -/
def sgnF (L : List UInt8) : Except Er (Int × List UInt8) :=
  match numF L with
  | .error e => .error e
  | .ok (n, r) => .ok (unzig n, r)

theorem readF_said (s : ByteArray) (a : Nat) (ha : a ≤ s.size) : ∃ n p c : Nat, readVF s a = .tuple #[.int .u64 (n : Int), .int .i64 (p : Int), .int .i64 (c : Int)] ∧ Said s (numF (s.data.toList.drop a)) n p c := by
  cases hr : readR (s.data.toList.drop a) with
  | ok n u =>
    have h9 : n < 9223372036854775808 := (readR_ok hr).2.2
    refine ⟨n, a + u, 0, by unfold readVF; rw [hr]; rfl, .inl ⟨rfl, readR_in ha hr, h9, ?_⟩⟩
    unfold numF; rw [hr]; simp only [List.drop_drop]
  | fin => exact ⟨0, s.size, 50, by unfold readVF; rw [hr]; rfl, .inr ⟨by omega, by omega, by omega, rfl, .fin, by unfold numF; rw [hr], rfl, rfl⟩⟩
  | form => exact ⟨0, a, 3, by unfold readVF; rw [hr]; rfl, .inr ⟨by omega, by omega, by omega, rfl, .bad (s.data.toList.drop a).length 3, by unfold numF; rw [hr], by simp only [Er.place, List.length_drop, list_size]; omega, rfl⟩⟩

theorem sgn_said {s : ByteArray} {a n p c : Nat} (h : Said s (numF (s.data.toList.drop a)) n p c) : Sd s (sgnF (s.data.toList.drop a)) 0 (unzig n) p c := by
  rcases h with ⟨h1, h2, _, h4⟩ | ⟨h1, h2, h3, h4, e, h5, h6, h7⟩
  · exact .inl ⟨h1, h2, by unfold sgnF; rw [h4]⟩
  · exact .inr ⟨h1, h2, h3, by rw [h4]; rfl, e, by unfold sgnF; rw [h5], h6, h7⟩

set_option maxRecDepth 20000 in
set_option maxHeartbeats 1000000 in
theorem readSigned_any (s : ByteArray) (a : Nat) (ha : a ≤ s.size) (hs : s.size ≤ 1000000000000000) : ∃ (z : Int) (p c : Nat), Sd s (sgnF (s.data.toList.drop a)) 0 z p c ∧ ∀ w,
    Calls Try.prog 58 #[.string s, .int .i64 (a : Int)] w fun e w' => e = .returned (.tuple #[.int .i64 z, .int .i64 (p : Int), .int .i64 (c : Int)]) ∧ w' = w := by
  obtain ⟨n, p, c, hv, hsd⟩ := readF_said s a ha
  refine ⟨unzig n, p, c, sgn_said hsd, fun w => ?_⟩
  have hn9 : n < 9223372036854775808 := by rcases hsd with ⟨_, _, h, _⟩ | ⟨_, _, _, h, _⟩ <;> omega
  have HU := Lib.hid (fun W => unfold_any n W hn9)
  have hR := fun W => readFolded_any s a W ha hs
  rw [hv] at hR
  have HR := Lib.hid hR
  clear hR hsd hv hn9
  go_enter Try.func58, Try.ntmps58
  go_wp2_with fail
  refine (HR.out _).mono ?_
  rintro e w' ⟨rfl, rfl⟩
  go_wp2_with fail
  refine (HU.out _).mono ?_
  rintro e w2 ⟨rfl, rfl⟩
  go_wp2_with fail
  go_ret3
  exact ⟨rfl, rfl⟩

set_option maxRecDepth 20000 in
set_option maxHeartbeats 1000000 in
theorem readText_any (s : ByteArray) (a : Nat) (ha : a ≤ s.size) (hs : s.size ≤ 1000000000000000) : ∃ (t : ByteArray) (p c : Nat), t.size ≤ 4096 ∧ Sd s (textF (s.data.toList.drop a)) ⟨#[]⟩ t p c ∧ ∀ w,
    Calls Try.prog 60 #[.string s, .int .i64 (a : Int)] w fun e w' => e = .returned (.tuple #[.string t, .int .i64 (p : Int), .int .i64 (c : Int)]) ∧ Below w.heap.size w w' := by
  have hB : (s.size : Int) ≤ 1000000000000000 := by omega
  obtain ⟨n, p, c, hv, hsd, hn⟩ := cnt_said s a 4096 ha
  have hC : ∀ W, Calls Try.prog 79 #[.int .i64 4096, .string s, .int .i64 (a : Int)] W fun e w' => e = .returned (.tuple #[.int .i64 (n : Int), .int .i64 (p : Int), .int .i64 (c : Int)]) ∧ w' = W := fun W => by
    have h := upTo_any s a 4096 W ha hs (by omega)
    rw [hv] at h
    exact h
  have HC := Lib.hid hC
  clear hC hv
  rcases hsd with ⟨rfl, hp, _, hok⟩ | ⟨hc, hc5, hp, rfl, e, herr, hpe, hce⟩
  · have pp : (p : Int) ≤ (s.size : Int) := by omega
    have pn : (n : Int) ≤ 4096 := by omega
    have hlen : (s.data.toList.drop p).length = s.size - p := by rw [List.length_drop, list_size]
    by_cases hcut : s.size - p < n
    · have pcut : (s.size : Int) - (p : Int) < (n : Int) := by omega
      refine ⟨⟨#[]⟩, s.size, 50, by show (0 : Nat) ≤ 4096; omega, .inr ⟨by omega, by omega, by omega, rfl, .fin, textF_cut hok (by rw [hlen]; exact hcut), rfl, rfl⟩, fun w => ?_⟩
      clear hok hlen hcut
      go_enter Try.func60, Try.ntmps60
      go_wp2_with fail
      refine (HC.out _).mono ?_
      rintro e w' ⟨rfl, rfl⟩
      go_wp2_with fail
      go_ret3
      exact ⟨rfl, Below.refl _ _⟩
    · have pcut : (n : Int) ≤ (s.size : Int) - (p : Int) := by omega
      have pin : (p : Int) + (n : Int) ≤ (s.size : Int) := by omega
      have hall := textF_all hok (by rw [hlen]; exact hcut)
      have hsz : (⟨((s.data.toList.drop p).take n).toArray⟩ : ByteArray).size ≤ 4096 := by rw [text_size, List.length_take]; omega
      refine ⟨⟨((s.data.toList.drop p).take n).toArray⟩, p + n, 0, hsz, .inl ⟨rfl, by omega, by rw [hall, List.drop_drop]⟩, fun w => ?_⟩
      have hsl : ∀ W, (Instr.slice 9 (.string s) (some (.int .i64 (p : Int))) (some (.int .i64 ((p : Int) + (n : Int)))) none).run Try.prog W = .ok (.string ⟨((s.data.toList.drop p).take n).toArray⟩) W := fun W => by
        have := str_mid s p (p + n) (by omega) (by omega) (p : Int) ((p : Int) + (n : Int)) rfl (by omega) W
        rw [show p + n - p = n by omega] at this
        exact this
      generalize (⟨((s.data.toList.drop p).take n).toArray⟩ : ByteArray) = t at hsz hsl ⊢
      have HT := Lib.hid (fun W => clone_any t W (by omega))
      have HP := Lib.hid (show ((p + n : Nat) : Int) = (p : Int) + (n : Int) by omega)
      clear hok hlen hcut hall hsz
      go_enter Try.func60, Try.ntmps60
      go_wp2_with fail
      refine (HC.out _).mono ?_
      rintro e w' ⟨rfl, rfl⟩
      go_wp2_with fail
      refine (HT.out _).mono ?_
      rintro e w2 ⟨rfl, hb⟩
      have HB := Lib.hid hb
      clear hb
      go_wp2_with fail
      go_ret3
      exact ⟨by rw [HP.out]; rfl, HB.out⟩
  · refine ⟨⟨#[]⟩, p, c, by show (0 : Nat) ≤ 4096; omega, .inr ⟨hc, hc5, hp, rfl, e, textF_err herr, hpe, hce⟩, fun w => ?_⟩
    have pne : ((c : Int) != 0) = true := by simp; omega
    clear herr hpe hce
    go_enter Try.func60, Try.ntmps60
    go_wp2_with fail
    refine (HC.out _).mono ?_
    rintro e w' ⟨rfl, rfl⟩
    go_wp2_with fail
    go_ret3
    exact ⟨rfl, Below.refl _ _⟩

end Pk
end Go.Proofs.Ytkpcfakfkcghdaa

/- What the landed package reads of lists: readList of numbers and of texts; contracts; no condition but the range. -/
namespace Go.Proofs.Ytkpcfakfkcghdaa
namespace Pk
open Go.RowKit Bk

attribute [local go_sem ↓] Go.wp_at_zero Go.wp_at_succ
attribute [local go_sem] floatUpon pick

theorem goN_more2 {O : List Int} {k : Nat} {z : Int} {L r : List UInt8} (h : sgnF L = .ok (z, r)) : goN O (k + 1) L = goN (O ++ [z]) k r := by
  unfold sgnF at h
  cases h1 : numF L with
  | error e => rw [h1] at h; cases h
  | ok x =>
    obtain ⟨n, r1⟩ := x
    rw [h1] at h
    simp only [Except.ok.injEq, Prod.mk.injEq] at h
    obtain ⟨rfl, rfl⟩ := h
    exact goN_more h1

theorem goN_err2 {O : List Int} {k : Nat} {L : List UInt8} {e : Er} (h : sgnF L = .error e) : goN O (k + 1) L = .error e := by
  unfold sgnF at h
  cases h1 : numF L with
  | error e2 => rw [h1] at h; cases h; exact goN_err h1
  | ok x => obtain ⟨n, r1⟩ := x; rw [h1] at h; cases h

/-- a count, and so many signed numbers -/
def intsF (L : List UInt8) : Except Er (List Int × List UInt8) :=
  match cnt 1024 L with
  | .error e => .error e
  | .ok (k, r) => numsF k r

/-- a count, and so many texts -/
def txtsF (L : List UInt8) : Except Er (List ByteArray × List UInt8) :=
  match cnt 1024 L with
  | .error e => .error e
  | .ok (k, r) => textsF k r

theorem intsF_err {L : List UInt8} {e : Er} (h : cnt 1024 L = .error e) : intsF L = .error e := by unfold intsF; rw [h]
theorem intsF_ok {L r : List UInt8} {k : Nat} (h : cnt 1024 L = .ok (k, r)) : intsF L = goN [] (k - 0) r := by unfold intsF; rw [h, Nat.sub_zero, goN_start]
theorem txtsF_err {L : List UInt8} {e : Er} (h : cnt 1024 L = .error e) : txtsF L = .error e := by unfold txtsF; rw [h]
theorem txtsF_ok {L r : List UInt8} {k : Nat} (h : cnt 1024 L = .ok (k, r)) : txtsF L = goT [] (k - 0) r := by unfold txtsF; rw [h, Nat.sub_zero, goT_start]

theorem decL_lists (L : List UInt8) : decL L = match intsF L with
    | .error e => .error e
    | .ok (ns, r) => match txtsF r with
      | .error e => .error e
      | .ok (ts, r4) => if r4 = [] then .ok (ns, ts) else .error (.bad r4.length 3) := by
  unfold decL intsF
  cases cnt 1024 L with
  | error e => rfl
  | ok x =>
    obtain ⟨k, r1⟩ := x
    simp only
    cases numsF k r1 with
    | error e => rfl
    | ok y =>
      obtain ⟨ns, r2⟩ := y
      simp only
      unfold txtsF
      cases cnt 1024 r2 with
      | error e => rfl
      | ok z => rfl

/-- what a reading of a list of numbers answers -/
def IntsAns (s : ByteArray) (a : Nat) (w : World) : Ending → World → Prop := fun e w' =>
  ∃ (v : Value) (ns : List Int) (p c : Nat), e = .returned (.tuple #[v, .int .i64 (p : Int), .int .i64 (c : Int)]) ∧ w'.ownsRow w.heap.size 3 1 v ns.length (intV ns) ∧ Sd s (intsF (s.data.toList.drop a)) [] ns p c ∧ Below w.heap.size w w'

def TxtsAns (s : ByteArray) (a : Nat) (w : World) : Ending → World → Prop := fun e w' =>
  ∃ (v : Value) (ts : List ByteArray) (p c : Nat), e = .returned (.tuple #[v, .int .i64 (p : Int), .int .i64 (c : Int)]) ∧ w'.ownsRow w.heap.size 9 1 v ts.length (strV ts) ∧ Sd s (txtsF (s.data.toList.drop a)) [] ts p c ∧ Below w.heap.size w w'

set_option maxRecDepth 20000 in
set_option maxHeartbeats 2000000 in
theorem readInts_any (s : ByteArray) (a : Nat) (w : World) (ha : a ≤ s.size) (hs : s.size ≤ 1000000000000000) :
    Calls Try.prog 57 #[.string s, .int .i64 (a : Int), .func (.func 58) #[] #[]] w (IntsAns s a w) := by
  obtain ⟨i1, hi', hz0', hz1', hz2'⟩ := info_parts Try.infoInt
  have hB : (s.size : Int) ≤ 1000000000000000 := by omega
  obtain ⟨many, a0, c0, hv0, hs0, hmany⟩ := cnt_said s a 1024 ha
  have hC : ∀ W, Calls Try.prog 79 #[.int .i64 1024, .string s, .int .i64 (a : Int)] W fun e w' => e = .returned (.tuple #[.int .i64 (many : Int), .int .i64 (a0 : Int), .int .i64 (c0 : Int)]) ∧ w' = W := fun W => by
    have h := upTo_any s a 1024 W ha hs (by omega)
    rw [hv0] at h
    exact h
  have HC := Lib.hid hC
  have pmany : (many : Int) ≤ 1024 := by omega
  have HMk : Hid (∀ (v : Value) (ns : List Int) (p c : Nat) (w' : World), w'.ownsRow w.heap.size 3 1 v ns.length (intV ns) → Sd s (intsF (s.data.toList.drop a)) [] ns p c → Below w.heap.size w w' → IntsAns s a w (.returned (.tuple #[v, .int .i64 (p : Int), .int .i64 (c : Int)])) w') := Lib.hid (fun v ns p c w' h1 h2 h3 => ⟨v, ns, p, c, rfl, h1, h2, h3⟩)
  have hItem := fun b (hb : b ≤ s.size) => readSigned_any s b hb hs
  have HItem := Lib.hid hItem
  clear hC hv0 hItem hs
  rcases hs0 with ⟨rfl, hp0, _, hok⟩ | ⟨hc, hc5, hp, _, er, herr, hpe, hce⟩
  · have HF := Lib.hid (intsF_ok hok)
    clear hok
    go_enter Try.func57, Try.ntmps57
    go_wp2_with fail
    refine (HC.out _).mono ?_
    rintro e w' ⟨rfl, rfl⟩
    clear HC
    go_wp2_with fail
    obtain ⟨wo, rfl⟩ : ∃ wo : World, wo = w' := ⟨_, rfl⟩
    go_loopw [6, 7, 23] (fun v x i wr => ∃ (j p : Nat) (O : List Int) (u : Value), u = v ∧ j ≤ many ∧ p ≤ s.size ∧ O.length = j ∧ i = .int .i64 (j : Int) ∧ x = .int .i64 (p : Int) ∧ Hid (intsF (s.data.toList.drop a) = goN O (many - j) (s.data.toList.drop p)) ∧ Hid (wr.ownsRow wo.heap.size 3 1 v j (intV O)) ∧ Hid (Below wo.heap.size wo wr)) (fun _ _ i _ => many - (intOf i).toNat)
    case atStart => exact ⟨0, a0, [], _, rfl, by omega, hp0, rfl, rfl, rfl, HF.out, World.ownsRow_nil _ _ _ _, Below.refl _ _⟩
    case round =>
      obtain ⟨j, p, O, u, rfl, hj, hp, hOl, rfl, rfl, hst, hown, hbel⟩ := hrel
      clear HF
      have pp : (p : Int) ≤ (s.size : Int) := by omega
      by_cases hlt : j < many
      · have pj : (j : Int) < (many : Int) := by omega
        have hst2 := hst.out
        rw [show many - j = (many - (j + 1)) + 1 by omega] at hst2
        obtain ⟨z, q, c, hsd, hcall⟩ := HItem.out p hp
        have HR := Lib.hid hcall
        have hin := hsd.in
        clear hcall hst
        by_cases hc0 : c = 0
        · subst hc0
          have hok : sgnF (s.data.toList.drop p) = .ok (z, s.data.toList.drop q) := by
            rcases hsd with ⟨_, _, h⟩ | ⟨h, _⟩
            · exact h
            · exact absurd rfl h
          have HS := Lib.hid (hst2.trans (goN_more2 hok))
          have HSn := Lib.hid (intV_snoc O z)
          have hq := hin.1
          clear hsd hok hst2 hin
          go_wp2_with fail
          refine (HR.out _).mono ?_
          rintro e w2 ⟨rfl, rfl⟩
          go_wp2_with (at_builtin; refine wpList_append_own_at _ rfl _ _ 43 rfl wo.heap.size 3 i1 (.int .i64 0) 1 8 Try.underlying43 hi' hz0' hz1' hz2' rfl (by decide) _ _ _ rfl (hown.out.alloc _) ⟨w2.heap.size, 0, none⟩ 1 1 [.int .i64 z] rfl rfl ?c1 ?c2 ?c3 ?c4 ?c5 ?_)
          case c1 => exact cell_one_new _ _ _
          case c2 => intro u hu; simp at hu; subst hu; rfl
          case c3 => unfold maxLen; omega
          case c4 => omega
          case c5 => have := hbel.out.size; simp; omega
          intro v' w5 hown' hgrow _ hat
          have HB5 := Lib.hid (below_append hown.out hbel.out (Nat.le_refl _) hgrow)
          rw [← HSn.out] at hown'
          have HO5 := Lib.hid hown'
          clear hown' hgrow hat hown hbel
          go_wp2_with fail
          go_roundw
          case rel => exact ⟨j + 1, q, O ++ [z], _, rfl, by omega, hq, by rw [List.length_append, List.length_singleton, hOl], by go_num, rfl, HS.out, HO5.out, HB5.out⟩
          case measure => simp [intOf]; omega
        · have HS : Hid (Sd s (intsF (s.data.toList.drop a)) [] [] q c) := by
            rcases hsd with ⟨h, _⟩ | ⟨h1, h2, h3, _, er, h4, h5, h6⟩
            · exact absurd h hc0
            · exact .inr ⟨h1, h2, h3, rfl, er, hst2.trans (goN_err2 h4), h5, h6⟩
          have pne : ((c : Int) != 0) = true := by simp; omega
          clear hsd hst2 hin hc0
          go_wp2_with fail
          refine (HR.out _).mono ?_
          rintro e w2 ⟨rfl, rfl⟩
          go_wp2_with fail
          go_ret3
          exact HMk.out _ [] q c _ (World.ownsRow_nil _ _ _ _) HS.out hbel.out
      · obtain rfl : j = many := by omega
        have hst2 := hst.out
        rw [Nat.sub_self, goN_done] at hst2
        have HS : Hid (Sd s (intsF (s.data.toList.drop a)) [] O p 0) := .inl ⟨rfl, hp, hst2⟩
        have HO : Hid (wr.ownsRow wo.heap.size 3 1 u O.length (intV O)) := by rw [hOl]; exact hown.out
        clear hst hst2 hown
        go_wp2_with fail
        go_ret3
        exact HMk.out _ O p 0 _ HO.out HS.out hbel.out
  · have HS : Hid (Sd s (intsF (s.data.toList.drop a)) [] [] a0 c0) := .inr ⟨hc, hc5, hp, rfl, er, intsF_err herr, hpe, hce⟩
    have pne : ((c0 : Int) != 0) = true := by simp; omega
    clear herr hpe hce hc
    go_enter Try.func57, Try.ntmps57
    go_wp2_with fail
    refine (HC.out _).mono ?_
    rintro e w' ⟨rfl, rfl⟩
    go_wp2_with fail
    go_ret3
    exact HMk.out _ [] a0 c0 _ (World.ownsRow_nil _ _ _ _) HS.out (Below.refl _ _)

set_option maxRecDepth 20000 in
set_option maxHeartbeats 2000000 in
theorem readTexts_any (s : ByteArray) (a : Nat) (w : World) (ha : a ≤ s.size) (hs : s.size ≤ 1000000000000000) :
    Calls Try.prog 59 #[.string s, .int .i64 (a : Int), .func (.func 60) #[] #[]] w (TxtsAns s a w) := by
  obtain ⟨i1, hi', hz0', hz1', hz2'⟩ := info_parts Try.infoStr
  have hB : (s.size : Int) ≤ 1000000000000000 := by omega
  obtain ⟨many, a0, c0, hv0, hs0, hmany⟩ := cnt_said s a 1024 ha
  have hC : ∀ W, Calls Try.prog 79 #[.int .i64 1024, .string s, .int .i64 (a : Int)] W fun e w' => e = .returned (.tuple #[.int .i64 (many : Int), .int .i64 (a0 : Int), .int .i64 (c0 : Int)]) ∧ w' = W := fun W => by
    have h := upTo_any s a 1024 W ha hs (by omega)
    rw [hv0] at h
    exact h
  have HC := Lib.hid hC
  have pmany : (many : Int) ≤ 1024 := by omega
  have HMk : Hid (∀ (v : Value) (ns : List ByteArray) (p c : Nat) (w' : World), w'.ownsRow w.heap.size 9 1 v ns.length (strV ns) → Sd s (txtsF (s.data.toList.drop a)) [] ns p c → Below w.heap.size w w' → TxtsAns s a w (.returned (.tuple #[v, .int .i64 (p : Int), .int .i64 (c : Int)])) w') := Lib.hid (fun v ns p c w' h1 h2 h3 => ⟨v, ns, p, c, rfl, h1, h2, h3⟩)
  have hItem := fun b (hb : b ≤ s.size) => readText_any s b hb hs
  have HItem := Lib.hid hItem
  clear hC hv0 hItem hs
  rcases hs0 with ⟨rfl, hp0, _, hok⟩ | ⟨hc, hc5, hp, _, er, herr, hpe, hce⟩
  · have HF := Lib.hid (txtsF_ok hok)
    clear hok
    go_enter Try.func59, Try.ntmps59
    go_wp2_with fail
    refine (HC.out _).mono ?_
    rintro e w' ⟨rfl, rfl⟩
    clear HC
    go_wp2_with fail
    obtain ⟨wo, rfl⟩ : ∃ wo : World, wo = w' := ⟨_, rfl⟩
    go_loopw [6, 7, 23] (fun v x i wr => ∃ (j p : Nat) (O : List ByteArray) (u : Value), u = v ∧ j ≤ many ∧ p ≤ s.size ∧ O.length = j ∧ i = .int .i64 (j : Int) ∧ x = .int .i64 (p : Int) ∧ Hid (txtsF (s.data.toList.drop a) = goT O (many - j) (s.data.toList.drop p)) ∧ Hid (wr.ownsRow wo.heap.size 9 1 v j (strV O)) ∧ Hid (Below wo.heap.size wo wr)) (fun _ _ i _ => many - (intOf i).toNat)
    case atStart => exact ⟨0, a0, [], _, rfl, by omega, hp0, rfl, rfl, rfl, HF.out, World.ownsRow_nil _ _ _ _, Below.refl _ _⟩
    case round =>
      obtain ⟨j, p, O, u, rfl, hj, hp, hOl, rfl, rfl, hst, hown, hbel⟩ := hrel
      clear HF
      have pp : (p : Int) ≤ (s.size : Int) := by omega
      by_cases hlt : j < many
      · have pj : (j : Int) < (many : Int) := by omega
        have hst2 := hst.out
        rw [show many - j = (many - (j + 1)) + 1 by omega] at hst2
        obtain ⟨z, q, c, _hz, hsd, hcall⟩ := HItem.out p hp
        have HR := Lib.hid hcall
        have hin := hsd.in
        clear hcall hst
        by_cases hc0 : c = 0
        · subst hc0
          have hok : textF (s.data.toList.drop p) = .ok (z, s.data.toList.drop q) := by
            rcases hsd with ⟨_, _, h⟩ | ⟨h, _⟩
            · exact h
            · exact absurd rfl h
          have HS := Lib.hid (hst2.trans (goT_more hok))
          have HSn := Lib.hid (strV_snoc2 O z)
          have hq := hin.1
          clear hsd hok hst2 hin
          go_wp2_with fail
          refine (HR.out _).mono ?_
          rintro e w2 ⟨rfl, hb⟩
          have HO2 := Lib.hid (st_keep hown.out hb)
          have HL2 := Lib.hid (hbel.out.trans (hb.mono hbel.out.size))
          clear hb
          go_wp2_with (at_builtin; refine wpList_append_own_at _ rfl _ _ 32 rfl wo.heap.size 9 i1 (.string ⟨#[]⟩) 1 16 Try.underlying32 hi' hz0' hz1' hz2' rfl (by decide) _ _ _ rfl (HO2.out.alloc _) ⟨w2.heap.size, 0, none⟩ 1 1 [.string z] rfl rfl ?c1 ?c2 ?c3 ?c4 ?c5 ?_)
          case c1 => exact cell_one_new _ _ _
          case c2 => intro u hu; simp at hu; subst hu; rfl
          case c3 => unfold maxLen; omega
          case c4 => omega
          case c5 => have := HL2.out.size; simp; omega
          intro v' w5 hown' hgrow _ hat
          have HB5 := Lib.hid (below_append HO2.out HL2.out (Nat.le_refl _) hgrow)
          rw [← HSn.out] at hown'
          have HO5 := Lib.hid hown'
          clear hown' hgrow hat hown hbel
          go_wp2_with fail
          go_roundw
          case rel => exact ⟨j + 1, q, O ++ [z], _, rfl, by omega, hq, by rw [List.length_append, List.length_singleton, hOl], by go_num, rfl, HS.out, HO5.out, HB5.out⟩
          case measure => simp [intOf]; omega
        · have HS : Hid (Sd s (txtsF (s.data.toList.drop a)) [] [] q c) := by
            rcases hsd with ⟨h, _⟩ | ⟨h1, h2, h3, _, er, h4, h5, h6⟩
            · exact absurd h hc0
            · exact .inr ⟨h1, h2, h3, rfl, er, hst2.trans (goT_err h4), h5, h6⟩
          have pne : ((c : Int) != 0) = true := by simp; omega
          clear hsd hst2 hin hc0
          go_wp2_with fail
          refine (HR.out _).mono ?_
          rintro e w2 ⟨rfl, hb⟩
          have HL2 := Lib.hid (hbel.out.trans (hb.mono hbel.out.size))
          clear hb
          go_wp2_with fail
          go_ret3
          exact HMk.out _ [] q c _ (World.ownsRow_nil _ _ _ _) HS.out HL2.out
      · obtain rfl : j = many := by omega
        have hst2 := hst.out
        rw [Nat.sub_self, goT_done] at hst2
        have HS : Hid (Sd s (txtsF (s.data.toList.drop a)) [] O p 0) := .inl ⟨rfl, hp, hst2⟩
        have HO : Hid (wr.ownsRow wo.heap.size 9 1 u O.length (strV O)) := by rw [hOl]; exact hown.out
        clear hst hst2 hown
        go_wp2_with fail
        go_ret3
        exact HMk.out _ O p 0 _ HO.out HS.out hbel.out
  · have HS : Hid (Sd s (txtsF (s.data.toList.drop a)) [] [] a0 c0) := .inr ⟨hc, hc5, hp, rfl, er, txtsF_err herr, hpe, hce⟩
    have pne : ((c0 : Int) != 0) = true := by simp; omega
    clear herr hpe hce hc
    go_enter Try.func59, Try.ntmps59
    go_wp2_with fail
    refine (HC.out _).mono ?_
    rintro e w' ⟨rfl, rfl⟩
    go_wp2_with fail
    go_ret3
    exact HMk.out _ [] a0 c0 _ (World.ownsRow_nil _ _ _ _) HS.out (Below.refl _ _)

end Pk
end Go.Proofs.Ytkpcfakfkcghdaa

/- What the landed package's Decode answers: contract; no condition but the range. -/
namespace Go.Proofs.Ytkpcfakfkcghdaa
namespace Pk
open Go.RowKit Bk

attribute [local go_sem ↓] Go.wp_at_zero Go.wp_at_succ
attribute [local go_sem] floatUpon pick

set_option maxRecDepth 20000 in
set_option maxHeartbeats 2000000 in
theorem decodeAll : DecodeAll := by
  intro s w hs
  have hB : (s.size : Int) ≤ 1000000000000000 := by omega
  have HMk : Hid (∀ (A B : Option Addr) (c d : Nat) (x y : Nat) (ns : List Int) (ts : List ByteArray) (w' : World), decR s = (ns, ts, x, y) → IntsAt w' A ns → StrsAt w' B ts → Below w.heap.size w w' → ns.length ≤ c → ts.length ≤ d → c ≤ maxLen → d ≤ maxLen → DecAns2 s w (.returned (.tuple #[packV A B c d ns ts, .int .i64 (x : Int), .int .i64 (y : Int)])) w') := Lib.hid (fun A B c d x y ns ts w' h1 h2 h3 h4 h5 h6 h7 h8 => by
    refine ⟨A, B, c, d, ?_, ?_, ?_, h4, ?_, ?_, h7, h8⟩ <;> rw [h1]
    · exact h2
    · exact h3
    · exact h5
    · exact h6)
  unfold packV at HMk
  have HI := Lib.hid (fun W => readInts_any s 0 W (by omega) hs)
  have HT := Lib.hid (fun a (ha : a ≤ s.size) W => readTexts_any s a W ha hs)
  unfold IntsAns at HI
  unfold TxtsAns at HT
  clear hs
  go_enter Try.func40, Try.ntmps40
  go_upto_region 1 with fail
  have hR0 : Cel (w.alloc (.cells #[.slice none 0 0, .slice none 0 0] 71)) w.heap.size 71 [.slice none 0 0, .slice none 0 0] := (blk1 w _).2
  have hBW : Below w.heap.size w (w.alloc (.cells #[.slice none 0 0, .slice none 0 0] 71)) := (Below.refl _ w).alloc (Nat.le_refl _) _
  generalize w.alloc (.cells #[.slice none 0 0, .slice none 0 0] 71) = W1 at hR0 hBW ⊢
  have HR0 := Lib.hid hR0
  have HBW := Lib.hid hBW
  clear hR0 hBW
  go_wp2_with fail
  refine (HI.out _).mono ?_
  rintro e w2 ⟨v1, ns, p, c, rfl, hown1, hsd, hb⟩
  rw [List.drop_zero] at hsd
  have HR2 := Lib.hid (HR0.out.below hb)
  have HB2 := Lib.hid (HBW.out.trans (hb.mono HBW.out.size))
  have hlt1 : w.heap.size < W1.heap.size := HR0.out.lt
  have HS12 := Lib.hid hb.size
  clear HI hb
  rcases hsd with ⟨rfl, hp, hok⟩ | ⟨hc, hc5, hp, rfl, er, herr, hpe, hce⟩
  · have HO1 := Lib.hid hown1
    have HOk := Lib.hid hok
    have HTp := Lib.hid (HT.out p hp)
    clear hown1 hok HT hp HR0 HBW
    go_wp2_with fail
    refine (HTp.out _).mono ?_
    rintro e w3 ⟨v2, ts, q, c, rfl, hown2, hsd, hb⟩
    have HR3 := Lib.hid (HR2.out.below hb)
    have HO3 := Lib.hid (st_keep HO1.out hb)
    have HB3 := Lib.hid (HB2.out.trans (hb.mono HB2.out.size))
    have hw12 : W1.heap.size ≤ w2.heap.size := HS12.out
    have HO2 := Lib.hid (owns_lower hown2 hw12)
    clear hown2 hb HO1 HR2 HB2 HTp hw12 HS12
    rcases hsd with ⟨rfl, hq, hok2⟩ | ⟨hc, hc5, hq, rfl, er, herr, hpe, hce⟩
    · by_cases hlt : q < s.size
      · have HD := Lib.hid (show decR s = ([], [], q, 3) by
          unfold decR
          rw [decL_lists, HOk.out]; simp only; rw [hok2]; simp only
          rw [if_neg (fun e => by have := List.drop_eq_nil_iff.1 e; rw [list_size] at this; omega)]
          simp only [Er.place, Er.code, List.length_drop, list_size]
          rw [show s.size - (s.size - q) = q by omega])
        have pq : (q : Int) < (s.size : Int) := by omega
        have q0 := HR3.out.cell (i := 0) rfl
        have q1 := HR3.out.cell (i := 1) rfl
        have q2 := HR3.out.free (i := 0)
        have q3 := HR3.out.free (i := 1)
        clear hok2 hlt
        go_wp2_with fail
        have HF := Lib.hid ((HR3.out.set (i := 0) (v := .slice none 0 0)).set (i := 1) (v := .slice none 0 0))
        have z0 := HF.out.cell (i := 0) rfl
        have z1 := HF.out.cell (i := 1) rfl
        exact bodyPost_ret (v := .tuple #[.agg #[.slice none 0 0, .slice none 0 0], .int .i64 (q : Int), .int .i64 (3 : Int)]) (by simp [results, Try.results40, go_sem, z0, z1]) rfl
          (HMk.out none none 0 0 q 3 [] [] _ HD.out noInts noStrs ((HB3.out.setCell (Nat.le_refl _) _).setCell (Nat.le_refl _) _) (Nat.zero_le _) (Nat.zero_le _) (Nat.zero_le _) (Nat.zero_le _))
      · have HD := Lib.hid (show decR s = (ns, ts, 0, 0) by
          unfold decR
          rw [decL_lists, HOk.out]; simp only; rw [hok2]; simp only
          rw [if_pos (List.drop_eq_nil_of_le (by rw [list_size]; omega))])
        have pq : (s.size : Int) ≤ (q : Int) := by omega
        have q0 := HR3.out.cell (i := 0) rfl
        have q1 := HR3.out.cell (i := 1) rfl
        have q2 := HR3.out.free (i := 0)
        have q3 := HR3.out.free (i := 1)
        obtain ⟨A1, cA, rfl, l1, l2⟩ := own_form HO3.out
        obtain ⟨B1, cB, rfl, l3, l4⟩ := own_form HO2.out
        have HL := Lib.hid (And.intro l1 (And.intro l2 (And.intro l3 l4)))
        clear hok2 hlt l1 l2 l3 l4
        go_wp2_with fail
        have HF := Lib.hid ((HR3.out.set (i := 0) (v := .slice A1 ns.length cA)).set (i := 1) (v := .slice B1 ts.length cB))
        have z0 := HF.out.cell (i := 0) rfl
        have z1 := HF.out.cell (i := 1) rfl
        have rr0 := ownsRow_setCell_below (ownsRow_setCell_below HO3.out (a := ⟨w.heap.size, 0, none⟩) hlt1 (.slice A1 ns.length cA)) (a := ⟨w.heap.size, 1, none⟩) hlt1 (.slice B1 ts.length cB)
        have rr1 := ownsRow_setCell_below (ownsRow_setCell_below HO2.out (a := ⟨w.heap.size, 0, none⟩) hlt1 (.slice A1 ns.length cA)) (a := ⟨w.heap.size, 1, none⟩) hlt1 (.slice B1 ts.length cB)
        exact bodyPost_ret (v := .tuple #[.agg #[.slice A1 ns.length cA, .slice B1 ts.length cB], .int .i64 ((0 : Nat) : Int), .int .i64 ((0 : Nat) : Int)]) (by simp [results, Try.results40, go_sem, z0, z1]) rfl
          (HMk.out A1 B1 cA cB 0 0 ns ts _ HD.out (ints_own_at rr0 rfl) (strs_own_at rr1 rfl) ((HB3.out.setCell (Nat.le_refl _) _).setCell (Nat.le_refl _) _) HL.out.1 HL.out.2.2.1 HL.out.2.1 HL.out.2.2.2)
    · have HD := Lib.hid (show decR s = ([], [], q, c) by
        unfold decR
        rw [decL_lists, HOk.out]; simp only; rw [herr, hpe, hce])
      have pne : ((c : Int) != 0) = true := by simp; omega
      have q0 := HR3.out.cell (i := 0) rfl
      have q1 := HR3.out.cell (i := 1) rfl
      have q2 := HR3.out.free (i := 0)
      have q3 := HR3.out.free (i := 1)
      clear herr hpe hce hc
      go_wp2_with fail
      have HF := Lib.hid ((HR3.out.set (i := 0) (v := .slice none 0 0)).set (i := 1) (v := .slice none 0 0))
      have z0 := HF.out.cell (i := 0) rfl
      have z1 := HF.out.cell (i := 1) rfl
      exact bodyPost_ret (v := .tuple #[.agg #[.slice none 0 0, .slice none 0 0], .int .i64 (q : Int), .int .i64 (c : Int)]) (by simp [results, Try.results40, go_sem, z0, z1]) rfl
        (HMk.out none none 0 0 q c [] [] _ HD.out noInts noStrs ((HB3.out.setCell (Nat.le_refl _) _).setCell (Nat.le_refl _) _) (Nat.zero_le _) (Nat.zero_le _) (Nat.zero_le _) (Nat.zero_le _))
  · have HD := Lib.hid (show decR s = ([], [], p, c) by
      unfold decR; rw [decL_lists, herr, hpe, hce])
    have pne : ((c : Int) != 0) = true := by simp; omega
    have q0 := HR2.out.cell (i := 0) rfl
    have q1 := HR2.out.cell (i := 1) rfl
    have q2 := HR2.out.free (i := 0)
    have q3 := HR2.out.free (i := 1)
    clear herr hpe hce hc hown1 HT HR0 HBW
    go_wp2_with fail
    have HF := Lib.hid ((HR2.out.set (i := 0) (v := .slice none 0 0)).set (i := 1) (v := .slice none 0 0))
    have z0 := HF.out.cell (i := 0) rfl
    have z1 := HF.out.cell (i := 1) rfl
    exact bodyPost_ret (v := .tuple #[.agg #[.slice none 0 0, .slice none 0 0], .int .i64 (p : Int), .int .i64 (c : Int)]) (by simp [results, Try.results40, go_sem, z0, z1]) rfl
      (HMk.out none none 0 0 p c [] [] _ HD.out noInts noStrs ((HB2.out.setCell (Nat.le_refl _) _).setCell (Nat.le_refl _) _) (Nat.zero_le _) (Nat.zero_le _) (Nat.zero_le _) (Nat.zero_le _))

end Pk
end Go.Proofs.Ytkpcfakfkcghdaa

/- What the landed package's Check, Encode, Key and Rising answer: all that is asked; no condition but the range. -/
namespace Go.Proofs.Ytkpcfakfkcghdaa
namespace Lt
open Go.RowKit Bk

attribute [local go_sem ↓] Go.wp_at_zero Go.wp_at_succ
attribute [local go_sem] floatUpon pick

theorem lcheckAll : CheckAll := fun A B c d l w h => lcheck_any A B c d l w h.ks h.ws h.rng.toLetRng

theorem lkeyAll : KeyAll := fun s w hs => (lkey_any s w (by omega)).mono fun e w' ⟨h1, h2⟩ => ⟨h1, by rw [h2]; exact Below.refl _ _⟩

theorem lrisingAll : RisingAll := fun A c l w h hn hr _ _ _ => lrising_any A c l w h (by omega) (fun s hs => by have := hr s hs; omega)

theorem LetOk.arg {l : Let} (h : LetOk l) {c d : Nat} (h1 : (numsOf l).length ≤ c) (h2 : (textsOf l).length ≤ d) (h3 : c ≤ maxLen) (h4 : d ≤ maxLen) : Pk.ArgOk c d (numsOf l) (textsOf l) := by
  obtain ⟨m1, m2, m3, m4⟩ := h.pack
  exact ⟨by omega, by omega, fun n hn => by have := m3 n hn; unfold Pk.numOk at this; omega, fun t ht => by have := m4 t ht; omega, h1, h2, h3, h4⟩

set_option maxRecDepth 20000 in
set_option maxHeartbeats 2000000 in
theorem lencodeAll : EncodeAll := by
  intro A B c d l w h
  have HC := Lib.hid (fun W (hbl : Below w.heap.size w W) => lcheck_any A B c d l W (h.ks.below hbl) (h.ws.below hbl) h.rng.toLetRng)
  have henv := LtEnv.start (c := c) (d := d) h.ks h.ws
  by_cases hm : LetOk l
  · have E := Lib.hid (encV_ok hm)
    have HB := Lib.hid (fun W (hbl : Below w.heap.size w W) => toPack_any A B c d l W (h.ks.below hbl) (h.ws.below hbl) (fun e => (h.kn e).2) hm)
    have HP := Lib.hid (fun A1 B1 c1 d1 W (h1 : IntsAt W A1 (numsOf l)) (h2 : StrsAt W B1 (textsOf l)) (h3 : (numsOf l).length ≤ c1) (h4 : (textsOf l).length ≤ d1) (h5 : c1 ≤ maxLen) (h6 : d1 ≤ maxLen) => Pk.encodeAll A1 B1 c1 d1 (numsOf l) (textsOf l) W h1 h2 (hm.arg h3 h4 h5 h6))
    rw [Pk.encV_ok hm.pack] at HP
    rw [ckN_of hm] at HC
    have HE := Lib.hid henv
    unfold letV at HC HB ⊢
    unfold Pk.packV at HB HP
    clear h hm henv
    go_enter Try.func19, Try.ntmps19
    go_wp2_with fail
    refine (HC.out _ ((Below.refl _ w).alloc (Nat.le_refl _) _)).mono ?_
    rintro e w1 ⟨rfl, hb⟩
    have henv := HE.out.step hb
    have HB1 := Lib.hid henv.bel
    have k0 := henv.cel.cell (i := 0) rfl
    have k1 := henv.cel.cell (i := 1) rfl
    have k2 := henv.cel.cell (i := 2) rfl
    have k3 := henv.cel.cell (i := 3) rfl
    have k4 := henv.cel.cell (i := 4) rfl
    have k5 := henv.cel.cell (i := 5) rfl
    have k6 := henv.cel.cell (i := 6) rfl
    have k7 := henv.cel.cell (i := 7) rfl
    have k8 := henv.cel.cell (i := 8) rfl
    clear hb HC HE henv
    go_wp2_with fail
    refine (HB.out _ HB1.out).mono ?_
    rintro e w2 ⟨A1, B1, c1, d1, rfl, g1, g2, g3, g4, g5, g6, hb⟩
    have HB2 := Lib.hid (HB1.out.trans (hb.mono HB1.out.size))
    have HP2 := Lib.hid (HP.out A1 B1 c1 d1 w2 g1 g2 g3 g4 g5 g6)
    clear hb g1 g2 g3 g4 g5 g6 HP HB
    go_wp2_with fail
    refine HP2.out.mono ?_
    rintro e w3 ⟨rfl, hb⟩
    have HB3 := Lib.hid (HB2.out.trans (hb.mono HB2.out.size))
    clear hb
    go_wp2_with fail
    go_ret2
    exact ⟨by rw [E.out]; rfl, HB3.out⟩
  · have E := Lib.hid (encV_bad hm)
    rw [ckN_not hm] at HC
    unfold letV at HC ⊢
    clear h hm henv
    go_enter Try.func19, Try.ntmps19
    go_wp2_with fail
    refine (HC.out _ ((Below.refl _ w).alloc (Nat.le_refl _) _)).mono ?_
    rintro e w1 ⟨rfl, hb⟩
    have HB1 := Lib.hid (below_new hb)
    clear hb HC
    go_wp2_with fail
    go_ret2
    exact ⟨by rw [E.out]; rfl, HB1.out⟩

end Lt
end Go.Proofs.Ytkpcfakfkcghdaa
