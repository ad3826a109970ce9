/- What the landed package writes of numbers: write, fold, isNumber, Number; contracts; no condition but the range. -/
import Derived.Test.YtmllaighjhpbmaaPkLaw
import Derived.Test.YtmllaighjhpbmaaBkBuild
namespace Go.Proofs.Ytmllaighjhpbmaa
namespace Pk
open Go.RowKit Bk

attribute [local go_sem ↓] Go.wp_at_zero Go.wp_at_succ
attribute [local go_sem] floatUpon pick

theorem u64_wrap {x : Int} (h0 : 0 ≤ x) (h1 : x ≤ 18446744073709551615) : IntKind.u64.wrap x = x := by
  simp only [IntKind.wrap, IntKind.bits, IntKind.signed]; simp; omega

set_option maxRecDepth 20000 in
set_option maxHeartbeats 1000000 in
theorem writeInt_any (b n : Nat) (L : List UInt8) (w : World) (h : Bld b L w) (hn : n ≤ 9223372036854775807) (hL : L.length ≤ 1000000000000) :
    Calls Try.prog 42 #[.pointer (some ⟨b, 0, none⟩), .int .i64 (n : Int)] w fun e w' => e = .returned (.tuple #[]) ∧ Bld b (L ++ plain n) w' ∧ Below b w w' := by
  have H := Lib.hid h
  clear h
  go_enter Try.func42, Try.ntmps42
  go_wp2_with fail
  go_loopw [1] (fun c wr => ∃ (m : Nat) (O : List UInt8), m ≤ n ∧ Hid (plain n = O ++ plain m) ∧ c = .int .i64 (m : Int) ∧ Hid (Bld b (L ++ O) wr) ∧ Hid (Below b w wr)) (fun c _ => (intOf c).toNat)
  case atStart => exact ⟨n, [], Nat.le_refl _, rfl, rfl, by rw [List.append_nil]; exact H.out, Below.refl _ _⟩
  case round =>
    obtain ⟨m, O, hmn, hpl, rfl, hB, hbel⟩ := hrel
    have hOl : O.length ≤ 8 := by
      have h1 := plain_len 9 n (by show n < 9223372036854775808; omega) (by omega)
      have h2 := plain_pos m
      rw [hpl.out, List.length_append] at h1
      omega
    have hlen : (L ++ O).length + 1 ≤ 140737488355328 := by rw [List.length_append]; omega
    by_cases hlt : 128 ≤ m
    · have pm : (128 : Int) ≤ (m : Int) := by omega
      have hmod : (m : Int).tmod 128 = ((m % 128 : Nat) : Int) := by rw [Int.tmod_eq_emod_of_nonneg (by omega)]; omega
      have hdiv : (m : Int).tdiv 128 = ((m / 128 : Nat) : Int) := by rw [Int.tdiv_eq_ediv_of_nonneg (by omega)]; omega
      have hp2 : plain n = (O ++ [UInt8.ofNat (m % 128 + 128)]) ++ plain (m / 128) := by rw [hpl.out, plain_big hlt, List.append_assoc]; rfl
      have hx : m % 128 < 128 := by omega
      have hy : m / 128 + 1 ≤ m := by omega
      have hc1 := bld_byte (m % 128 + 128) hB.out (by omega) hlen
      rw [Int.natCast_add] at hc1
      generalize hxe : m % 128 = x at hmod hc1 hx hp2
      generalize hye : m / 128 = y at hdiv hy hp2
      have hxi : (x : Int) < 128 := by omega
      have hcv : IntKind.u8.wrap (x : Int) = (x : Int) := u8_wrap (by omega) (by omega)
      have hcv2 : IntKind.u8.wrap ((x : Int) + 128) = (x : Int) + 128 := u8_wrap (by omega) (by omega)
      have HC := Lib.hid hc1
      have HP := Lib.hid hp2
      clear hc1 hp2 hxe hye hpl hB hlen hOl
      go_wp2_with fail
      refine HC.out.mono ?_
      rintro e w2 ⟨rfl, h2, hb⟩
      have HB2 := Lib.hid h2
      have HL2 := Lib.hid (hbel.out.trans hb)
      clear h2 hb hbel HC
      go_wp2_with fail
      go_roundw
      case rel => exact ⟨y, O ++ [UInt8.ofNat (x + 128)], by omega, HP.out, rfl, by rw [← List.append_assoc]; exact HB2.out, HL2.out⟩
      case measure => simp [intOf]; omega
    · have pm : (m : Int) < 128 := by omega
      have hcv : IntKind.u8.wrap (m : Int) = (m : Int) := u8_wrap (by omega) (by omega)
      have hp2 : plain n = O ++ [UInt8.ofNat m] := by rw [hpl.out, plain_small (by omega)]
      have HC := Lib.hid (bld_byte m hB.out (by omega) hlen)
      have HP := Lib.hid hp2
      clear hp2 hpl hB hlen hOl
      go_wp2_with fail
      refine HC.out.mono ?_
      rintro e w2 ⟨rfl, h2, hb⟩
      have HB2 := Lib.hid h2
      have HL2 := Lib.hid (hbel.out.trans hb)
      clear h2 hb hbel HC
      go_wp2_with fail
      go_end0
      exact ⟨rfl, by rw [HP.out, ← List.append_assoc]; exact HB2.out, HL2.out⟩

set_option maxRecDepth 20000 in
set_option maxHeartbeats 1000000 in
theorem writeFolded_any (b n : Nat) (L : List UInt8) (w : World) (h : Bld b L w) (hn : n < 9223372036854775808) (hL : L.length ≤ 1000000000000) :
    Calls Try.prog 43 #[.pointer (some ⟨b, 0, none⟩), .int .u64 (n : Int)] w fun e w' => e = .returned (.tuple #[]) ∧ Bld b (L ++ plain n) w' ∧ Below b w w' := by
  have H := Lib.hid h
  clear h
  go_enter Try.func43, Try.ntmps43
  go_wp2_with fail
  go_loopw [1] (fun c wr => ∃ (m : Nat) (O : List UInt8), m ≤ n ∧ Hid (plain n = O ++ plain m) ∧ c = .int .u64 (m : Int) ∧ Hid (Bld b (L ++ O) wr) ∧ Hid (Below b w wr)) (fun c _ => (intOf c).toNat)
  case atStart => exact ⟨n, [], Nat.le_refl _, rfl, rfl, by rw [List.append_nil]; exact H.out, Below.refl _ _⟩
  case round =>
    obtain ⟨m, O, hmn, hpl, rfl, hB, hbel⟩ := hrel
    have hOl : O.length ≤ 8 := by
      have h1 := plain_len 9 n (by show n < 9223372036854775808; omega) (by omega)
      have h2 := plain_pos m
      rw [hpl.out, List.length_append] at h1
      omega
    have hlen : (L ++ O).length + 1 ≤ 140737488355328 := by rw [List.length_append]; omega
    by_cases hlt : 128 ≤ m
    · have pm : (128 : Int) ≤ (m : Int) := by omega
      have hmod : (m : Int).tmod 128 = ((m % 128 : Nat) : Int) := by rw [Int.tmod_eq_emod_of_nonneg (by omega)]; omega
      have hdiv : (m : Int).tdiv 128 = ((m / 128 : Nat) : Int) := by rw [Int.tdiv_eq_ediv_of_nonneg (by omega)]; omega
      have hp2 : plain n = (O ++ [UInt8.ofNat (m % 128 + 128)]) ++ plain (m / 128) := by rw [hpl.out, plain_big hlt, List.append_assoc]; rfl
      have hx : m % 128 < 128 := by omega
      have hy : m / 128 + 1 ≤ m := by omega
      have hc1 := bld_byte (m % 128 + 128) hB.out (by omega) hlen
      rw [Int.natCast_add] at hc1
      generalize hxe : m % 128 = x at hmod hc1 hx hp2
      generalize hye : m / 128 = y at hdiv hy hp2
      have hxi : (x : Int) < 128 := by omega
      have hcv : IntKind.u8.wrap (x : Int) = (x : Int) := u8_wrap (by omega) (by omega)
      have hcv2 : IntKind.u8.wrap ((x : Int) + 128) = (x : Int) + 128 := u8_wrap (by omega) (by omega)
      have HC := Lib.hid hc1
      have HP := Lib.hid hp2
      clear hc1 hp2 hxe hye hpl hB hlen hOl
      go_wp2_with fail
      refine HC.out.mono ?_
      rintro e w2 ⟨rfl, h2, hb⟩
      have HB2 := Lib.hid h2
      have HL2 := Lib.hid (hbel.out.trans hb)
      clear h2 hb hbel HC
      go_wp2_with fail
      go_roundw
      case rel => exact ⟨y, O ++ [UInt8.ofNat (x + 128)], by omega, HP.out, rfl, by rw [← List.append_assoc]; exact HB2.out, HL2.out⟩
      case measure => simp [intOf]; omega
    · have pm : (m : Int) < 128 := by omega
      have hcv : IntKind.u8.wrap (m : Int) = (m : Int) := u8_wrap (by omega) (by omega)
      have hp2 : plain n = O ++ [UInt8.ofNat m] := by rw [hpl.out, plain_small (by omega)]
      have HC := Lib.hid (bld_byte m hB.out (by omega) hlen)
      have HP := Lib.hid hp2
      clear hp2 hpl hB hlen hOl
      go_wp2_with fail
      refine HC.out.mono ?_
      rintro e w2 ⟨rfl, h2, hb⟩
      have HB2 := Lib.hid h2
      have HL2 := Lib.hid (hbel.out.trans hb)
      clear h2 hb hbel HC
      go_wp2_with fail
      go_end0
      exact ⟨rfl, by rw [HP.out, ← List.append_assoc]; exact HB2.out, HL2.out⟩

set_option maxRecDepth 20000 in
set_option maxHeartbeats 1000000 in
theorem fold_any (z : Int) (w : World) (hz : numOk z) :
    Calls Try.prog 44 #[.int .i64 z] w fun e w' => e = .returned (.int .u64 ((zig z : Nat) : Int)) ∧ w' = w := by
  obtain ⟨z1, z2⟩ := hz
  by_cases h0 : z < 0
  · have E := Lib.hid (show ((zig z : Nat) : Int) = 2 * -z - 1 by unfold zig; rw [if_pos h0]; omega)
    have c1 : IntKind.u64.wrap (-z) = -z := u64_wrap (by omega) (by omega)
    have c2 : IntKind.u64.wrap (2 * -z) = 2 * -z := u64_wrap (by omega) (by omega)
    have c3 : IntKind.u64.wrap (2 * -z - 1) = 2 * -z - 1 := u64_wrap (by omega) (by omega)
    go_enter Try.func44, Try.ntmps44
    go_wp2_with fail
    go_ret
    exact ⟨by rw [E.out]; rfl, rfl⟩
  · have hp : 0 ≤ z := by omega
    have E := Lib.hid (show ((zig z : Nat) : Int) = 2 * z by unfold zig; rw [if_neg h0]; omega)
    have c1 : IntKind.u64.wrap z = z := u64_wrap (by omega) (by omega)
    have c2 : IntKind.u64.wrap (2 * z) = 2 * z := u64_wrap (by omega) (by omega)
    clear h0
    go_enter Try.func44, Try.ntmps44
    go_wp2_with fail
    go_ret
    exact ⟨by rw [E.out]; rfl, rfl⟩

set_option maxRecDepth 20000 in
set_option maxHeartbeats 1000000 in
theorem isNumber_any (z : Int) (w : World) (_hz : -9223372036854775808 ≤ z ∧ z ≤ 9223372036854775807) :
    Calls Try.prog 59 #[.int .i64 z] w fun e w' => e = .returned (.bool (decide (numOk z))) ∧ w' = w := by
  by_cases h : numOk z
  · have E := Lib.hid (show decide (numOk z) = true by simpa using h)
    obtain ⟨h1, h2⟩ := h
    go_enter Try.func59, Try.ntmps59
    go_wp2_with fail
    go_ret
    exact ⟨by rw [E.out]; rfl, rfl⟩
  · have E := Lib.hid (show decide (numOk z) = false by simpa using h)
    by_cases h1 : -4611686018427387904 ≤ z
    · have h2 : 4611686018427387903 < z := by
        by_cases h2 : z ≤ 4611686018427387903
        · exact absurd ⟨h1, h2⟩ h
        · omega
      have H3 := Lib.hid (show decide (z ≤ 4611686018427387903) = false by rw [decide_eq_false_iff_not]; omega)
      clear h
      go_enter Try.func59, Try.ntmps59
      go_wp2_with fail
      go_ret
      exact ⟨by rw [E.out, ← H3.out]; rfl, rfl⟩
    · have h2 : z < -4611686018427387904 := by omega
      clear h h1
      go_enter Try.func59, Try.ntmps59
      go_wp2_with fail
      go_ret
      exact ⟨by rw [E.out]; rfl, rfl⟩

theorem numV_bad {z : Int} (h : ¬ numOk z) : numV z = .tuple #[.string ⟨#[]⟩, .int .i64 1] := by unfold numV; rw [if_neg h]

end Pk
end Go.Proofs.Ytmllaighjhpbmaa
