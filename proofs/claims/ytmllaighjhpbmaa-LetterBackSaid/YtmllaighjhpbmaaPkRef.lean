/- What the document's own numbers of packs are; contracts; no condition but the range. -/
import Derived.Test.YtmllaighjhpbmaaBkInts
import Derived.Test.YtmllaighjhpbmaaPkMath
import Derived.Test.YtmllaighjhpbmaaFloat
namespace Go.Proofs.Ytmllaighjhpbmaa
namespace Pk
open Go.RowKit Bk

attribute [local go_sem ↓] Go.wp_at_zero Go.wp_at_succ
attribute [local go_sem] floatUpon pick

theorem byteCells_snoc (O : List UInt8) (x : Nat) (h : x < 256) : Lib.byteCells O ++ [.int .u8 (x : Int)] = Lib.byteCells (O ++ [UInt8.ofNat x]) := by
  unfold Lib.byteCells
  rw [List.map_append, List.map_cons, UInt8.toNat_ofNat_of_lt' (by show x < 256; exact h)]; rfl

theorem u8_wrap {x : Int} (h0 : 0 ≤ x) (h1 : x < 256) : IntKind.u8.wrap x = x := by
  simp only [IntKind.wrap, IntKind.bits, IntKind.signed]; simp; omega

set_option maxRecDepth 20000 in
set_option maxHeartbeats 1000000 in
theorem plain_any (n : Nat) (w : World) (hn : n ≤ 9223372036854775807) :
    Calls Try.prog 62 #[.int .i64 (n : Int)] w fun e w' => e = .returned (.string ⟨(plain n).toArray⟩) ∧ Below w.heap.size w w' := by
  obtain ⟨i1, hi', hz0', hz1', hz2'⟩ := info_parts Try.infoU8
  go_enter Try.func62, Try.ntmps62
  go_wp2_with fail
  go_loopw [0, 3] (fun c u wr => ∃ (m : Nat) (O : List UInt8), m ≤ n ∧ Hid (plain n = O ++ plain m) ∧ c = .int .i64 (m : Int) ∧ Hid (wr.ownsRow w.heap.size 5 1 u O.length (Lib.byteCells O)) ∧ Hid (Below w.heap.size w wr)) (fun c _ _ => (intOf c).toNat)
  case atStart => exact ⟨n, [], Nat.le_refl _, rfl, rfl, World.ownsRow_nil _ _ _ _, Below.refl _ _⟩
  case round =>
    obtain ⟨m, O, hmn, hpl, rfl, hown, hbel⟩ := hrel
    have hOl : O.length ≤ 8 := by
      have h1 := plain_len 9 n (by show n < 9223372036854775808; omega) (by omega)
      have h2 := plain_pos m
      rw [hpl.out, List.length_append] at h1
      omega
    by_cases hlt : 128 ≤ m
    · have pm : (128 : Int) ≤ (m : Int) := by omega
      have hmod : (m : Int).tmod 128 = ((m % 128 : Nat) : Int) := by rw [Int.tmod_eq_emod_of_nonneg (by omega)]; omega
      have hdiv : (m : Int).tdiv 128 = ((m / 128 : Nat) : Int) := by rw [Int.tdiv_eq_ediv_of_nonneg (by omega)]; omega
      have hp2 : plain n = (O ++ [UInt8.ofNat (m % 128 + 128)]) ++ plain (m / 128) := by rw [hpl.out, plain_big hlt, List.append_assoc]; rfl
      have hbc := byteCells_snoc O (m % 128 + 128) (by omega)
      have hx : m % 128 < 128 := by omega
      have hy : m / 128 + 1 ≤ m := by omega
      generalize hxe : m % 128 = x at hmod hbc hx hp2
      generalize hye : m / 128 = y at hdiv hy hp2
      have hxi : (x : Int) < 128 := by omega
      have hcv : IntKind.u8.wrap ((x : Int) + 128) = (x : Int) + 128 := u8_wrap (by omega) (by omega)
      have hbc : Lib.byteCells O ++ [.int .u8 ((x : Int) + 128)] = Lib.byteCells (O ++ [UInt8.ofNat (x + 128)]) := hbc
      have HBC := Lib.hid hbc
      have HP := Lib.hid hp2
      clear hbc hp2 hxe hye hpl
      go_wp2_with (at_builtin; refine wpList_append_own _ rfl _ _ 63 rfl w.heap.size 5 i1 (.int .u8 0) 1 1 Try.underlying63 hi' hz0' hz1' hz2' rfl (by decide) _ _ _ rfl (hown.out.alloc _) ⟨wr.heap.size, 0, none⟩ 1 1 [.int .u8 ((x : Int) + 128)] rfl rfl ?c1 ?c2 ?c3 ?c4 ?c5 ?_)
      case c1 => exact cell_one_new _ _ _
      case c2 => intro u hu; simp at hu; subst hu; rfl
      case c3 => unfold maxLen; omega
      case c4 => omega
      case c5 => have := hbel.out.size; simp; omega
      intro v' w5 hown' hgrow _
      have HB5 := Lib.hid (below_append hown.out hbel.out (Nat.le_refl _) hgrow)
      rw [HBC.out] at hown'
      have HO5 := Lib.hid hown'
      clear hown' hgrow hown hbel
      go_wp2_with fail
      go_roundw
      case rel => exact ⟨y, O ++ [UInt8.ofNat (x + 128)], by omega, HP.out, rfl, by rw [List.length_append, List.length_singleton]; exact HO5.out, HB5.out⟩
      case measure => simp [intOf]; omega
    · have pm : (m : Int) < 128 := by omega
      have hcv : IntKind.u8.wrap (m : Int) = (m : Int) := u8_wrap (by omega) (by omega)
      have hbc := byteCells_snoc O m (by omega)
      have hp2 : plain n = O ++ [UInt8.ofNat m] := by rw [hpl.out, plain_small (by omega)]
      have HBC := Lib.hid hbc
      have HP := Lib.hid hp2
      clear hbc hp2 hpl
      go_wp2_with (at_builtin; refine wpList_append_own _ rfl _ _ 63 rfl w.heap.size 5 i1 (.int .u8 0) 1 1 Try.underlying63 hi' hz0' hz1' hz2' rfl (by decide) _ _ _ rfl (hown.out.alloc _) ⟨wr.heap.size, 0, none⟩ 1 1 [.int .u8 (m : Int)] rfl rfl ?c1 ?c2 ?c3 ?c4 ?c5 ?_)
      case c1 => exact cell_one_new _ _ _
      case c2 => intro u hu; simp at hu; subst hu; rfl
      case c3 => unfold maxLen; omega
      case c4 => omega
      case c5 => have := hbel.out.size; simp; omega
      intro v' w5 hown' hgrow _
      have HB5 := Lib.hid (below_append hown.out hbel.out (Nat.le_refl _) hgrow)
      rw [HBC.out, ← HP.out] at hown'
      have hl : O.length + 1 = (plain n).length := by rw [HP.out, List.length_append, List.length_singleton]
      have HO5 := Lib.hid hown'
      obtain ⟨g, cap, rfl, _, _⟩ := World.ownsRow.form hown' (by omega)
      have hcv2 := own_bytes hown' hl 0 (O.length + 1) cap (by omega)
      rw [List.drop_zero, List.take_of_length_le (by omega)] at hcv2
      clear hown' hgrow hown hbel hl
      go_wp2_with fail
      go_ret
      exact ⟨rfl, HB5.out⟩

set_option maxRecDepth 20000 in
set_option maxHeartbeats 1000000 in
theorem signed_any (z : Int) (w : World) (hz : numOk z) :
    Calls Try.prog 63 #[.int .i64 z] w fun e w' => e = .returned (.string ⟨(signed z).toArray⟩) ∧ Below w.heap.size w w' := by
  obtain ⟨z1, z2⟩ := hz
  have HP := Lib.hid (fun W => plain_any (zig z) W (by have := zig_lt ⟨z1, z2⟩; have h : zig z < 9223372036854775808 := this; omega))
  by_cases h0 : z < 0
  · have hzig : ((zig z : Nat) : Int) = -2 * (z + 1) + 1 := by unfold zig; rw [if_pos h0]; omega
    rw [hzig] at HP
    clear hzig
    go_enter Try.func63, Try.ntmps63
    go_wp2_with fail
    refine (HP.out _).mono ?_
    rintro e w1 ⟨rfl, hb⟩
    go_wp2_with fail
    go_ret
    exact ⟨rfl, hb⟩
  · have hzig : ((zig z : Nat) : Int) = 2 * z := by unfold zig; rw [if_neg h0]; omega
    rw [hzig] at HP
    have hp : 0 ≤ z := by omega
    clear hzig h0
    go_enter Try.func63, Try.ntmps63
    go_wp2_with fail
    refine (HP.out _).mono ?_
    rintro e w1 ⟨rfl, hb⟩
    go_wp2_with fail
    go_ret
    exact ⟨rfl, hb⟩

/-- what Number answers -/
def numV (z : Int) : Value := if numOk z then .tuple #[.string ⟨(signed z).toArray⟩, .int .i64 0] else .tuple #[.string ⟨#[]⟩, .int .i64 1]

end Pk
end Go.Proofs.Ytmllaighjhpbmaa
