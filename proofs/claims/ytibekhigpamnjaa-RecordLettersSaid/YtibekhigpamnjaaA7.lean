/- Parts of the proof, joined: BkBuild, PkDone1, PkDone2, BkClone, PkDone3; their conditions stand with each. -/
import Derived.Shelf.Strings.BuilderK
import Derived.Test.YtibekhigpamnjaaRows
import Derived.Lib.Strings
import Derived.Lib.Walk
import Derived.Lib.BufferWrite
import Derived.Lib.UnsafeStr
import Derived.Lib.Hide
import Derived.Laws.MakeOwn
import Derived.WalkKit
import Derived.Test.YtibekhigpamnjaaA0
import Derived.Test.YtibekhigpamnjaaA6

/- The contracts of the library's strings.Builder at this program: WriteByte, WriteString, String, over one table of numbers; a builder as a list of bytes. -/
namespace Go.Proofs.Ytibekhigpamnjaa
namespace Bk
open Go.RowKit Go.Shelf

def ren : Go.Shelf.Ren := ⟨fun | 240 => 64 | 276 => 75 | 167 => 63 | 166 => 40 | 169 => 41 | n => n, fun | 0 => 0 | 3 => 3 | 4 => 4 | 5 => 5 | 9 => 9 | 20 => 20 | 37 => 64 | 70 => 63 | 72 => 66 | 75 => 73 | 80 => 76 | 127 => 103 | 164 => 113 | n => n, fun n => n⟩

theorem lays240 : Go.Proofs.Lays.n240 Try.prog ren := {
  mixed := by kernel_rfl
  f240 := Try.func64.trans (congrArg some (by kernel_rfl))
  f276 := Try.func75.trans (congrArg some (by kernel_rfl))
  t0 := Try.underlying0
  a0 := Try.isAgg0
  z0 := Try.sizeOf0
  v0 := Try.zeroValue0
  t4 := Try.underlying4
  a4 := Try.isAgg4
  z4 := Try.sizeOf4
  v4 := Try.zeroValue4
  t9 := Try.underlying9
  a9 := Try.isAgg9
  z9 := Try.sizeOf9
  v9 := Try.zeroValue9
  t20 := Try.underlying20
  a20 := Try.isAgg20
  z20 := Try.sizeOf20
  v20 := Try.zeroValue20
  t70 := Try.underlying63
  a70 := Try.isAgg63
  z70 := Try.sizeOf63
  v70 := Try.zeroValue63
  t72 := Try.underlying66
  a72 := Try.isAgg66
  z72 := Try.sizeOf66
  v72 := Try.zeroValue66
  t164 := Try.underlying113
  a164 := Try.isAgg113
  z164 := Try.sizeOf113
  v164 := Try.zeroValue113 }

theorem lays167 : Go.Proofs.Lays.n167 Try.prog ren := {
  mixed := by kernel_rfl
  f167 := Try.func63.trans (congrArg some (by kernel_rfl))
  f240 := Try.func64.trans (congrArg some (by kernel_rfl))
  f276 := Try.func75.trans (congrArg some (by kernel_rfl))
  t0 := Try.underlying0
  a0 := Try.isAgg0
  z0 := Try.sizeOf0
  v0 := Try.zeroValue0
  t4 := Try.underlying4
  a4 := Try.isAgg4
  z4 := Try.sizeOf4
  v4 := Try.zeroValue4
  t5 := Try.underlying5
  a5 := Try.isAgg5
  z5 := Try.sizeOf5
  v5 := Try.zeroValue5
  t9 := Try.underlying9
  a9 := Try.isAgg9
  z9 := Try.sizeOf9
  v9 := Try.zeroValue9
  t20 := Try.underlying20
  a20 := Try.isAgg20
  z20 := Try.sizeOf20
  v20 := Try.zeroValue20
  t37 := Try.underlying64
  a37 := Try.isAgg64
  z37 := Try.sizeOf64
  v37 := Try.zeroValue64
  t70 := Try.underlying63
  a70 := Try.isAgg63
  z70 := Try.sizeOf63
  v70 := Try.zeroValue63
  t72 := Try.underlying66
  a72 := Try.isAgg66
  z72 := Try.sizeOf66
  v72 := Try.zeroValue66
  t75 := Try.underlying73
  a75 := Try.isAgg73
  z75 := Try.sizeOf73
  v75 := Try.zeroValue73
  t164 := Try.underlying113
  a164 := Try.isAgg113
  z164 := Try.sizeOf113
  v164 := Try.zeroValue113 }

theorem lays166 : Go.Proofs.Lays.n166 Try.prog ren := {
  mixed := by kernel_rfl
  f166 := Try.func40.trans (congrArg some (by kernel_rfl))
  f240 := Try.func64.trans (congrArg some (by kernel_rfl))
  f276 := Try.func75.trans (congrArg some (by kernel_rfl))
  t0 := Try.underlying0
  a0 := Try.isAgg0
  z0 := Try.sizeOf0
  v0 := Try.zeroValue0
  t3 := Try.underlying3
  a3 := Try.isAgg3
  z3 := Try.sizeOf3
  v3 := Try.zeroValue3
  t4 := Try.underlying4
  a4 := Try.isAgg4
  z4 := Try.sizeOf4
  v4 := Try.zeroValue4
  t9 := Try.underlying9
  a9 := Try.isAgg9
  z9 := Try.sizeOf9
  v9 := Try.zeroValue9
  t20 := Try.underlying20
  a20 := Try.isAgg20
  z20 := Try.sizeOf20
  v20 := Try.zeroValue20
  t37 := Try.underlying64
  a37 := Try.isAgg64
  z37 := Try.sizeOf64
  v37 := Try.zeroValue64
  t70 := Try.underlying63
  a70 := Try.isAgg63
  z70 := Try.sizeOf63
  v70 := Try.zeroValue63
  t72 := Try.underlying66
  a72 := Try.isAgg66
  z72 := Try.sizeOf66
  v72 := Try.zeroValue66
  t75 := Try.underlying73
  a75 := Try.isAgg73
  z75 := Try.sizeOf73
  v75 := Try.zeroValue73
  t164 := Try.underlying113
  a164 := Try.isAgg113
  z164 := Try.sizeOf113
  v164 := Try.zeroValue113 }

theorem lays169 : Go.Proofs.Lays.n169 Try.prog ren := {
  mixed := by kernel_rfl
  f169 := Try.func41.trans (congrArg some (by kernel_rfl))
  t0 := Try.underlying0
  a0 := Try.isAgg0
  z0 := Try.sizeOf0
  v0 := Try.zeroValue0
  t3 := Try.underlying3
  a3 := Try.isAgg3
  z3 := Try.sizeOf3
  v3 := Try.zeroValue3
  t9 := Try.underlying9
  a9 := Try.isAgg9
  z9 := Try.sizeOf9
  v9 := Try.zeroValue9
  t37 := Try.underlying64
  a37 := Try.isAgg64
  z37 := Try.sizeOf64
  v37 := Try.zeroValue64
  t70 := Try.underlying63
  a70 := Try.isAgg63
  z70 := Try.sizeOf63
  v70 := Try.zeroValue63
  t72 := Try.underlying66
  a72 := Try.isAgg66
  z72 := Try.sizeOf66
  v72 := Try.zeroValue66
  t127 := Try.underlying103
  a127 := Try.isAgg103
  z127 := Try.sizeOf103
  v127 := Try.zeroValue103 }

theorem bldExtra : Go.Proofs.Builder.Extra Try.prog ren := {
  sizeBuilder := by kernel_rfl
  liesBuilder := by kernel_rfl
  t5 := Try.underlying5
  a5 := Try.isAgg5
  z5 := Try.sizeOf5
  v5 := Try.zeroValue5
  infoByte := by kernel_rfl
  cellsByte := by kernel_rfl
  sizeByte := by kernel_rfl
  neB5 := by decide }

/-- the block b is a builder that holds these bytes -/
def Bld (b : Nat) (l : List UInt8) (w : World) : Prop := Lib.IsBuilderF 66 5 b b (Lib.byteCells l) w

theorem Bld.lt {b : Nat} {l : List UInt8} {w : World} (h : Bld b l w) : b < w.heap.size := by
  rcases h with h | h
  · exact h.lt
  · exact h.lt

theorem Bld.new (w : World) : Bld w.heap.size [] (w.alloc (.cells #[.pointer none, .slice none 0 0] 66)) := Lib.IsBuilderF.of (Lib.fresh_isBuilder _ _ w)

theorem bld_byte {b : Nat} {l : List UInt8} {w : World} (c : Nat) (h : Bld b l w) (hc : c < 256) (hl : l.length + 1 ≤ 140737488355328) :
    Calls Try.prog 63 #[.pointer (some ⟨b, 0, none⟩), .int .u8 (c : Int)] w fun e w' => e = .returned .nilIface ∧ Bld b (l ++ [UInt8.ofNat c]) w' ∧ Below b w w' := by
  refine (Any.Builder_WriteByte_k lays167 bldExtra b b (Lib.byteCells l) (c : Int) w h (by rw [Lib.byteCells_length]; exact hl) (Nat.le_of_lt h.lt)).mono ?_
  rintro e w' ⟨rfl, h1, h2, _⟩
  refine ⟨rfl, .inr ?_, h2⟩
  have e1 : Lib.byteCells l ++ [.int .u8 (c : Int)] = Lib.byteCells (l ++ [UInt8.ofNat c]) := by
    unfold Lib.byteCells
    rw [List.map_append, List.map_cons, UInt8.toNat_ofNat_of_lt' (by show c < 256; exact hc)]; rfl
  rw [← e1]; exact h1

theorem bld_string {b : Nat} {l : List UInt8} {w : World} (s : ByteArray) (h : Bld b l w) (hl : l.length + s.size ≤ 140737488355328) :
    Calls Try.prog 40 #[.pointer (some ⟨b, 0, none⟩), .string s] w fun e w' => e = .returned (.tuple #[.int .i64 (s.size : Int), .nilIface]) ∧ Bld b (l ++ s.data.toList) w' ∧ Below b w w' := by
  refine (Any.Builder_WriteString_k lays166 bldExtra b b (Lib.byteCells l) s w h (by rw [Lib.byteCells_length]; exact hl) (Nat.le_of_lt h.lt)).mono ?_
  rintro e w' ⟨rfl, h1, h2, _⟩
  refine ⟨rfl, .inr ?_, h2⟩
  have e1 : Lib.byteCells l ++ Lib.strCells s = Lib.byteCells (l ++ s.data.toList) := by
    unfold Lib.byteCells Lib.strCells
    rw [List.map_append]
  rw [← e1]; exact h1

theorem bld_text {b : Nat} {l : List UInt8} {w : World} (h : Bld b l w) :
    Calls Try.prog 41 #[.pointer (some ⟨b, 0, none⟩)] w fun e w' => e = .returned (.string ⟨l.toArray⟩) ∧ Bld b l w' ∧ Below b w w' := by
  refine (Any.Builder_String_any_k lays169 bldExtra b b l w h (Nat.le_of_lt h.lt)).mono ?_
  rintro e w' ⟨rfl, h1, h2, _⟩
  exact ⟨rfl, h1, h2⟩

end Bk
end Go.Proofs.Ytibekhigpamnjaa

/- What the landed package writes of numbers: write, fold, isNumber, Number; contracts; no condition but the range. -/
namespace Go.Proofs.Ytibekhigpamnjaa
namespace Pk
open Go.RowKit Bk

attribute [local go_sem ↓] Go.wp_at_zero Go.wp_at_succ
attribute [local go_sem] floatUpon pick

theorem u64_wrap {x : Int} (h0 : 0 ≤ x) (h1 : x ≤ 18446744073709551615) : IntKind.u64.wrap x = x := by
  simp only [IntKind.wrap, IntKind.bits, IntKind.signed]; simp; omega

set_option maxRecDepth 20000 in
set_option maxHeartbeats 1000000 in
theorem writeInt_any (b n : Nat) (L : List UInt8) (w : World) (h : Bld b L w) (hn : n ≤ 9223372036854775807) (hL : L.length ≤ 1000000000000) :
    Calls Try.prog 37 #[.pointer (some ⟨b, 0, none⟩), .int .i64 (n : Int)] w fun e w' => e = .returned (.tuple #[]) ∧ Bld b (L ++ plain n) w' ∧ Below b w w' := by
  have H := Lib.hid h
  clear h
  go_enter Try.func37, Try.ntmps37
  go_wp2_with fail
  go_loopw [1] (fun c wr => ∃ (m : Nat) (O : List UInt8), m ≤ n ∧ Hid (plain n = O ++ plain m) ∧ c = .int .i64 (m : Int) ∧ Hid (Bld b (L ++ O) wr) ∧ Hid (Below b w wr)) (fun c _ => (intOf c).toNat)
  case atStart => exact ⟨n, [], Nat.le_refl _, rfl, rfl, by rw [List.append_nil]; exact H.out, Below.refl _ _⟩
  case round =>
    obtain ⟨m, O, hmn, hpl, rfl, hB, hbel⟩ := hrel
    have hOl : O.length ≤ 8 := by
      have h1 := plain_len 9 n (by show n < 9223372036854775808; omega) (by omega)
      have h2 := plain_pos m
      rw [hpl.out, List.length_append] at h1
      omega
    have hlen : (L ++ O).length + 1 ≤ 140737488355328 := by rw [List.length_append]; omega
    by_cases hlt : 128 ≤ m
    · have pm : (128 : Int) ≤ (m : Int) := by omega
      have hmod : (m : Int).tmod 128 = ((m % 128 : Nat) : Int) := by rw [Int.tmod_eq_emod_of_nonneg (by omega)]; omega
      have hdiv : (m : Int).tdiv 128 = ((m / 128 : Nat) : Int) := by rw [Int.tdiv_eq_ediv_of_nonneg (by omega)]; omega
      have hp2 : plain n = (O ++ [UInt8.ofNat (m % 128 + 128)]) ++ plain (m / 128) := by rw [hpl.out, plain_big hlt, List.append_assoc]; rfl
      have hx : m % 128 < 128 := by omega
      have hy : m / 128 + 1 ≤ m := by omega
      have hc1 := bld_byte (m % 128 + 128) hB.out (by omega) hlen
      rw [Int.natCast_add] at hc1
      generalize hxe : m % 128 = x at hmod hc1 hx hp2
      generalize hye : m / 128 = y at hdiv hy hp2
      have hxi : (x : Int) < 128 := by omega
      have hcv : IntKind.u8.wrap (x : Int) = (x : Int) := u8_wrap (by omega) (by omega)
      have hcv2 : IntKind.u8.wrap ((x : Int) + 128) = (x : Int) + 128 := u8_wrap (by omega) (by omega)
      have HC := Lib.hid hc1
      have HP := Lib.hid hp2
      clear hc1 hp2 hxe hye hpl hB hlen hOl
      go_wp2_with fail
      refine HC.out.mono ?_
      rintro e w2 ⟨rfl, h2, hb⟩
      have HB2 := Lib.hid h2
      have HL2 := Lib.hid (hbel.out.trans hb)
      clear h2 hb hbel HC
      go_wp2_with fail
      go_roundw
      case rel => exact ⟨y, O ++ [UInt8.ofNat (x + 128)], by omega, HP.out, rfl, by rw [← List.append_assoc]; exact HB2.out, HL2.out⟩
      case measure => simp [intOf]; omega
    · have pm : (m : Int) < 128 := by omega
      have hcv : IntKind.u8.wrap (m : Int) = (m : Int) := u8_wrap (by omega) (by omega)
      have hp2 : plain n = O ++ [UInt8.ofNat m] := by rw [hpl.out, plain_small (by omega)]
      have HC := Lib.hid (bld_byte m hB.out (by omega) hlen)
      have HP := Lib.hid hp2
      clear hp2 hpl hB hlen hOl
      go_wp2_with fail
      refine HC.out.mono ?_
      rintro e w2 ⟨rfl, h2, hb⟩
      have HB2 := Lib.hid h2
      have HL2 := Lib.hid (hbel.out.trans hb)
      clear h2 hb hbel HC
      go_wp2_with fail
      go_end0
      exact ⟨rfl, by rw [HP.out, ← List.append_assoc]; exact HB2.out, HL2.out⟩

set_option maxRecDepth 20000 in
set_option maxHeartbeats 1000000 in
theorem writeFolded_any (b n : Nat) (L : List UInt8) (w : World) (h : Bld b L w) (hn : n < 9223372036854775808) (hL : L.length ≤ 1000000000000) :
    Calls Try.prog 38 #[.pointer (some ⟨b, 0, none⟩), .int .u64 (n : Int)] w fun e w' => e = .returned (.tuple #[]) ∧ Bld b (L ++ plain n) w' ∧ Below b w w' := by
  have H := Lib.hid h
  clear h
  go_enter Try.func38, Try.ntmps38
  go_wp2_with fail
  go_loopw [1] (fun c wr => ∃ (m : Nat) (O : List UInt8), m ≤ n ∧ Hid (plain n = O ++ plain m) ∧ c = .int .u64 (m : Int) ∧ Hid (Bld b (L ++ O) wr) ∧ Hid (Below b w wr)) (fun c _ => (intOf c).toNat)
  case atStart => exact ⟨n, [], Nat.le_refl _, rfl, rfl, by rw [List.append_nil]; exact H.out, Below.refl _ _⟩
  case round =>
    obtain ⟨m, O, hmn, hpl, rfl, hB, hbel⟩ := hrel
    have hOl : O.length ≤ 8 := by
      have h1 := plain_len 9 n (by show n < 9223372036854775808; omega) (by omega)
      have h2 := plain_pos m
      rw [hpl.out, List.length_append] at h1
      omega
    have hlen : (L ++ O).length + 1 ≤ 140737488355328 := by rw [List.length_append]; omega
    by_cases hlt : 128 ≤ m
    · have pm : (128 : Int) ≤ (m : Int) := by omega
      have hmod : (m : Int).tmod 128 = ((m % 128 : Nat) : Int) := by rw [Int.tmod_eq_emod_of_nonneg (by omega)]; omega
      have hdiv : (m : Int).tdiv 128 = ((m / 128 : Nat) : Int) := by rw [Int.tdiv_eq_ediv_of_nonneg (by omega)]; omega
      have hp2 : plain n = (O ++ [UInt8.ofNat (m % 128 + 128)]) ++ plain (m / 128) := by rw [hpl.out, plain_big hlt, List.append_assoc]; rfl
      have hx : m % 128 < 128 := by omega
      have hy : m / 128 + 1 ≤ m := by omega
      have hc1 := bld_byte (m % 128 + 128) hB.out (by omega) hlen
      rw [Int.natCast_add] at hc1
      generalize hxe : m % 128 = x at hmod hc1 hx hp2
      generalize hye : m / 128 = y at hdiv hy hp2
      have hxi : (x : Int) < 128 := by omega
      have hcv : IntKind.u8.wrap (x : Int) = (x : Int) := u8_wrap (by omega) (by omega)
      have hcv2 : IntKind.u8.wrap ((x : Int) + 128) = (x : Int) + 128 := u8_wrap (by omega) (by omega)
      have HC := Lib.hid hc1
      have HP := Lib.hid hp2
      clear hc1 hp2 hxe hye hpl hB hlen hOl
      go_wp2_with fail
      refine HC.out.mono ?_
      rintro e w2 ⟨rfl, h2, hb⟩
      have HB2 := Lib.hid h2
      have HL2 := Lib.hid (hbel.out.trans hb)
      clear h2 hb hbel HC
      go_wp2_with fail
      go_roundw
      case rel => exact ⟨y, O ++ [UInt8.ofNat (x + 128)], by omega, HP.out, rfl, by rw [← List.append_assoc]; exact HB2.out, HL2.out⟩
      case measure => simp [intOf]; omega
    · have pm : (m : Int) < 128 := by omega
      have hcv : IntKind.u8.wrap (m : Int) = (m : Int) := u8_wrap (by omega) (by omega)
      have hp2 : plain n = O ++ [UInt8.ofNat m] := by rw [hpl.out, plain_small (by omega)]
      have HC := Lib.hid (bld_byte m hB.out (by omega) hlen)
      have HP := Lib.hid hp2
      clear hp2 hpl hB hlen hOl
      go_wp2_with fail
      refine HC.out.mono ?_
      rintro e w2 ⟨rfl, h2, hb⟩
      have HB2 := Lib.hid h2
      have HL2 := Lib.hid (hbel.out.trans hb)
      clear h2 hb hbel HC
      go_wp2_with fail
      go_end0
      exact ⟨rfl, by rw [HP.out, ← List.append_assoc]; exact HB2.out, HL2.out⟩

set_option maxRecDepth 20000 in
set_option maxHeartbeats 1000000 in
theorem fold_any (z : Int) (w : World) (hz : numOk z) :
    Calls Try.prog 39 #[.int .i64 z] w fun e w' => e = .returned (.int .u64 ((zig z : Nat) : Int)) ∧ w' = w := by
  obtain ⟨z1, z2⟩ := hz
  by_cases h0 : z < 0
  · have E := Lib.hid (show ((zig z : Nat) : Int) = 2 * -z - 1 by unfold zig; rw [if_pos h0]; omega)
    have c1 : IntKind.u64.wrap (-z) = -z := u64_wrap (by omega) (by omega)
    have c2 : IntKind.u64.wrap (2 * -z) = 2 * -z := u64_wrap (by omega) (by omega)
    have c3 : IntKind.u64.wrap (2 * -z - 1) = 2 * -z - 1 := u64_wrap (by omega) (by omega)
    go_enter Try.func39, Try.ntmps39
    go_wp2_with fail
    go_ret
    exact ⟨by rw [E.out]; rfl, rfl⟩
  · have hp : 0 ≤ z := by omega
    have E := Lib.hid (show ((zig z : Nat) : Int) = 2 * z by unfold zig; rw [if_neg h0]; omega)
    have c1 : IntKind.u64.wrap z = z := u64_wrap (by omega) (by omega)
    have c2 : IntKind.u64.wrap (2 * z) = 2 * z := u64_wrap (by omega) (by omega)
    clear h0
    go_enter Try.func39, Try.ntmps39
    go_wp2_with fail
    go_ret
    exact ⟨by rw [E.out]; rfl, rfl⟩

set_option maxRecDepth 20000 in
set_option maxHeartbeats 1000000 in
theorem isNumber_any (z : Int) (w : World) (_hz : -9223372036854775808 ≤ z ∧ z ≤ 9223372036854775807) :
    Calls Try.prog 62 #[.int .i64 z] w fun e w' => e = .returned (.bool (decide (numOk z))) ∧ w' = w := by
  by_cases h : numOk z
  · have E := Lib.hid (show decide (numOk z) = true by simpa using h)
    obtain ⟨h1, h2⟩ := h
    go_enter Try.func62, Try.ntmps62
    go_wp2_with fail
    go_ret
    exact ⟨by rw [E.out]; rfl, rfl⟩
  · have E := Lib.hid (show decide (numOk z) = false by simpa using h)
    by_cases h1 : -4611686018427387904 ≤ z
    · have h2 : 4611686018427387903 < z := by
        by_cases h2 : z ≤ 4611686018427387903
        · exact absurd ⟨h1, h2⟩ h
        · omega
      have H3 := Lib.hid (show decide (z ≤ 4611686018427387903) = false by rw [decide_eq_false_iff_not]; omega)
      clear h
      go_enter Try.func62, Try.ntmps62
      go_wp2_with fail
      go_ret
      exact ⟨by rw [E.out, ← H3.out]; rfl, rfl⟩
    · have h2 : z < -4611686018427387904 := by omega
      clear h h1
      go_enter Try.func62, Try.ntmps62
      go_wp2_with fail
      go_ret
      exact ⟨by rw [E.out]; rfl, rfl⟩

theorem numV_bad {z : Int} (h : ¬ numOk z) : numV z = .tuple #[.string ⟨#[]⟩, .int .i64 1] := by unfold numV; rw [if_neg h]

end Pk
end Go.Proofs.Ytibekhigpamnjaa

/- What the landed package's Check and Encode answer; contracts; no condition but the range. -/
namespace Go.Proofs.Ytibekhigpamnjaa
namespace Pk
open Go.RowKit Bk

attribute [local go_sem ↓] Go.wp_at_zero Go.wp_at_succ
attribute [local go_sem] floatUpon pick

set_option maxRecDepth 20000 in
set_option maxHeartbeats 1000000 in
theorem checkAll : CheckAll := by
  intro A B c d ns ts w ha hb hArg
  have hr := hArg.range
  obtain ⟨hn, ht, hnr, htr⟩ := hr
  clear hArg
  unfold packV
  have hbel : Below w.heap.size w (w.alloc (.cells #[.slice A ns.length c, .slice B ts.length d] 48)) := (Below.refl _ w).alloc (Nat.le_refl _) _
  have HBl := Lib.hid hbel
  by_cases hlong : 1024 < ns.length ∨ 1024 < ts.length
  · have E := Lib.hid (ckE_long hlong)
    clear hbel ha hb hnr htr
    by_cases h1 : 1024 < ns.length
    · have p1 : (1024 : Int) < (ns.length : Int) := by omega
      clear hlong
      go_enter Try.func36, Try.ntmps36
      go_wp2_with fail
      go_ret
      exact ⟨by rw [E.out]; rfl, HBl.out⟩
    · have p1 : (ns.length : Int) ≤ 1024 := by omega
      have p2 : (1024 : Int) < (ts.length : Int) := by omega
      clear hlong
      go_enter Try.func36, Try.ntmps36
      go_wp2_with fail
      go_ret
      exact ⟨by rw [E.out]; rfl, HBl.out⟩
  · have p1 : (ns.length : Int) ≤ 1024 := by omega
    have p2 : (ts.length : Int) ≤ 1024 := by omega
    have hblk := (blk1 w (.cells #[.slice A ns.length c, .slice B ts.length d] 48)).2
    have c0 : (w.alloc (.cells #[.slice A ns.length c, .slice B ts.length d] 48)).cell? ⟨w.heap.size, 0, none⟩ = some (.slice A ns.length c) := blk_cell hblk rfl
    have c1 : (w.alloc (.cells #[.slice A ns.length c, .slice B ts.length d] 48)).cell? ⟨w.heap.size, 1, none⟩ = some (.slice B ts.length d) := blk_cell hblk rfl
    have HA := Lib.hid (ha.alloc (.cells #[.slice A ns.length c, .slice B ts.length d] 48))
    have HB := Lib.hid (hb.alloc (.cells #[.slice A ns.length c, .slice B ts.length d] 48))
    have HNR := Lib.hid hnr
    have HTR := Lib.hid htr
    have HL := Lib.hid hlong
    clear hbel hlong hblk ha hb hnr htr
    go_enter Try.func36, Try.ntmps36
    go_upto_region 3 with fail
    generalize w.alloc (.cells #[.slice A ns.length c, .slice B ts.length d] 48) = W1 at *
    go_wp2_with fail
    go_loopw [20] (fun i wr => ∃ j : Nat, j ≤ ns.length ∧ i = .int .i64 (j : Int) ∧ Hid (∀ n ∈ ns.take j, numOk n) ∧ wr = W1) (fun i _ => ns.length - (intOf i).toNat)
    case atStart => exact ⟨0, by omega, rfl, fun n hn => absurd hn (by simp), rfl⟩
    case round =>
      obtain ⟨j, hj, rfl, hall, rfl⟩ := hrel
      by_cases hlt : j < ns.length
      · have pj : (j : Int) < (ns.length : Int) := by omega
        obtain ⟨ad, rfl, hab, hcl⟩ := HA.out (by omega)
        have x1 := hcl j hlt
        have hmem : ns[j] ∈ ns := List.getElem_mem hlt
        have HN := Lib.hid (fun W => isNumber_any ns[j] W (HNR.out _ hmem))
        by_cases hz : numOk ns[j]
        · have hall2 := mem_take_succ hlt hall.out hz
          have HA2 := Lib.hid hall2
          rw [show decide (numOk ns[j]) = true by simpa using hz] at HN
          generalize ns[j] = z at x1 HN
          clear hcl hmem hz hall2 hall
          go_wp2_with fail
          refine (HN.out _).mono ?_
          rintro e w' ⟨rfl, rfl⟩
          go_wp2_with fail
          go_roundw
          case rel => exact ⟨j + 1, by omega, by go_num, HA2.out, trivial⟩
          case measure => simp [intOf]; omega
        · have E := Lib.hid (ckE_num HL.out hmem hz)
          rw [show decide (numOk ns[j]) = false by simpa using hz] at HN
          generalize ns[j] = z at x1 HN
          clear hcl hmem hz hall
          go_wp2_with fail
          refine (HN.out _).mono ?_
          rintro e w' ⟨rfl, rfl⟩
          go_wp2_with fail
          go_ret
          exact ⟨by rw [E.out]; rfl, HBl.out⟩
      · obtain rfl : j = ns.length := by omega
        have hall2 := hall.out
        rw [List.take_length] at hall2
        have HAll := Lib.hid hall2
        clear hall hall2
        go_wp2_with fail
        obtain ⟨wo, rfl⟩ : ∃ wo : World, wo = wr := ⟨_, rfl⟩
        go_loopw [31] (fun i wr => ∃ j : Nat, j ≤ ts.length ∧ i = .int .i64 (j : Int) ∧ Hid (∀ t ∈ ts.take j, t.size ≤ 4096) ∧ wr = wo) (fun i _ => ts.length - (intOf i).toNat)
        case atStart => exact ⟨0, by omega, rfl, fun n hn => absurd hn (by simp), rfl⟩
        case round =>
          obtain ⟨j, hj, rfl, hall, rfl⟩ := hrel
          by_cases hlt : j < ts.length
          · have pj : (j : Int) < (ts.length : Int) := by omega
            obtain ⟨bd, rfl, hbb, hcl⟩ := HB.out (by omega)
            have x1 := hcl j hlt
            have hmem : ts[j] ∈ ts := List.getElem_mem hlt
            by_cases hz : ts[j].size ≤ 4096
            · have hall2 := mem_take_succ hlt hall.out hz
              have HA2 := Lib.hid hall2
              have hz' : (ts[j].size : Int) ≤ 4096 := by omega
              generalize ts[j] = z at x1 hz'
              clear hcl hmem hz hall2 hall
              go_wp2_with fail
              go_roundw
              case rel => exact ⟨j + 1, by omega, by go_num, HA2.out, trivial⟩
              case measure => simp [intOf]; omega
            · have E := Lib.hid (ckE_text HL.out HAll.out hmem (by omega))
              have hz' : (4096 : Int) < (ts[j].size : Int) := by omega
              generalize ts[j] = z at x1 hz'
              clear hcl hmem hz hall
              go_wp2_with fail
              go_ret
              exact ⟨by rw [E.out]; rfl, HBl.out⟩
          · obtain rfl : j = ts.length := by omega
            have hall2 := hall.out
            rw [List.take_length] at hall2
            have E := Lib.hid (ckE_ok HL.out HAll.out hall2)
            clear hall hall2
            go_wp2_with fail
            go_ret
            exact ⟨by rw [E.out]; rfl, HBl.out⟩

set_option maxRecDepth 20000 in
set_option maxHeartbeats 1000000 in
theorem encodeAll : EncodeAll := by
  intro A B c d ns ts w ha hb hArg
  have HC := Lib.hid (fun W (hbl : Below w.heap.size w W) => checkAll A B c d ns ts W (ha.below hbl) (hb.below hbl) hArg)
  have hle := ckE_le ns ts
  have HE := Lib.hid (PkEnv.start (c := c) (d := d) ha hb)
  by_cases hm : ckE ns ts = 0
  · have hmb := ckE_zero.1 hm
    have E := Lib.hid (encV_ok hmb)
    have HM := Lib.hid hmb
    have p1 : (ns.length : Int) ≤ 1024 := by have := hmb.1; omega
    have p2 : (ts.length : Int) ≤ 1024 := by have := hmb.2.1; omega
    rw [hm] at HC
    unfold packV at HC ⊢
    clear ha hb hArg hm hle hmb
    go_enter Try.func20, Try.ntmps20
    go_wp2_with fail
    refine (HC.out _ ((Below.refl _ w).alloc (Nat.le_refl _) _)).mono ?_
    rintro e w1 ⟨rfl, hb⟩
    have HE1 := Lib.hid (HE.out.step hb)
    clear hb HC HE
    go_upto_region 5 with fail
    have hbn := Bld.new w1
    have hbw : Below w1.heap.size w1 (w1.alloc (.cells #[.pointer none, .slice none 0 0] 66)) := (Below.refl _ _).alloc (Nat.le_refl _) _
    have HW1 := Lib.hid (fun W (h : Bld w1.heap.size [] W) => writeInt_any w1.heap.size ns.length [] W h (by omega) (by simp))
    have HB2 := Lib.hid hbn
    have HL2 := Lib.hid hbw
    have HE2 := Lib.hid (HE1.out.step hbw)
    clear hbn hbw
    generalize w1.alloc (.cells #[.pointer none, .slice none 0 0] 66) = W2 at *
    generalize hbb : w1.heap.size = b at *
    have c0 := HE2.out.c0
    go_wp2_with fail
    refine (HW1.out _ HB2.out).mono ?_
    rintro e w3 ⟨rfl, h3, hb⟩
    have HB3 := Lib.hid h3
    have HL3 := Lib.hid (HL2.out.trans hb)
    have HE3 := Lib.hid (HE1.out.step (by rw [hbb]; exact HL2.out.trans hb))
    clear h3 hb HW1 HB2 HL2 HE2 c0
    have c0 := HE3.out.c0
    go_wp2_with fail
    go_loopw [22] (fun i wr => ∃ j : Nat, j ≤ ns.length ∧ i = .int .i64 (j : Int) ∧ Hid (Bld b (plain ns.length ++ numsL (ns.take j)) wr) ∧ Hid (Below b w1 wr)) (fun i _ => ns.length - (intOf i).toNat)
    case atStart => exact ⟨0, by omega, rfl, by rw [List.take_zero]; simp only [numsL, List.flatMap_nil, List.append_nil]; exact HB3.out, HL3.out⟩
    case round =>
      obtain ⟨j, hj, rfl, hB, hL⟩ := hrel
      have hE := Lib.hid (HE1.out.step (by rw [hbb]; exact hL.out))
      clear HE3 HB3 HL3 c0
      by_cases hlt : j < ns.length
      · have pj : (j : Int) < (ns.length : Int) := by omega
        obtain ⟨ad, rfl, hab, hcl⟩ := hE.out.1 (by omega)
        have x1 := hcl j hlt
        have hz := HM.out.2.2.1 _ (List.getElem_mem hlt)
        have HF := Lib.hid (fun W => fold_any ns[j] W hz)
        have HW := Lib.hid (writeFolded_any b (zig ns[j]) (plain ns.length ++ numsL (ns.take j)) _ hB.out (zig_lt hz) (by have := (bytesL_at HM.out j 0).1; omega))
        have hsc : (plain ns.length ++ numsL (ns.take j)) ++ plain (zig ns[j]) = plain ns.length ++ numsL (ns.take (j + 1)) := by
          rw [numsL_succ hlt, List.append_assoc]; rfl
        rw [hsc] at HW
        generalize ns[j] = z at x1 HF HW
        clear hcl hz hsc hB hab
        go_wp2_with fail
        refine (HF.out _).mono ?_
        rintro e w4 ⟨rfl, rfl⟩
        go_wp2_with fail
        refine HW.out.mono ?_
        rintro e w5 ⟨rfl, h5, hb⟩
        have HB5 := Lib.hid h5
        have HL5 := Lib.hid (hL.out.trans hb)
        clear h5 hb hL HW HF
        go_wp2_with fail
        go_roundw
        case rel => exact ⟨j + 1, by omega, by go_num, HB5.out, HL5.out⟩
        case measure => simp [intOf]; omega
      · obtain rfl : j = ns.length := by omega
        rw [List.take_length] at hB
        have c1 := hE.out.c1
        have HW := Lib.hid (writeInt_any b ts.length (plain ns.length ++ numsL ns) _ hB.out (by omega) (by have := (bytesL_at HM.out ns.length 0).1; rw [List.take_length] at this; omega))
        clear hB
        go_wp2_with fail
        refine HW.out.mono ?_
        rintro e w3 ⟨rfl, h3, hb⟩
        have HB3 := Lib.hid h3
        have HL3 := Lib.hid (hL.out.trans hb)
        have HE3 := Lib.hid (HE1.out.step (by rw [hbb]; exact hL.out.trans hb))
        clear h3 hb HW hE hL c1
        have c1 := HE3.out.c1
        go_wp2_with fail
        go_loopw [37] (fun i wr => ∃ j : Nat, j ≤ ts.length ∧ i = .int .i64 (j : Int) ∧ Hid (Bld b (plain ns.length ++ (numsL ns ++ (plain ts.length ++ textsL (ts.take j)))) wr) ∧ Hid (Below b w1 wr)) (fun i _ => ts.length - (intOf i).toNat)
        case atStart =>
          refine ⟨0, by omega, rfl, ?_, HL3.out⟩
          have := HB3.out
          rw [List.append_assoc] at this
          rw [List.take_zero]
          simp only [textsL, List.flatMap_nil, List.append_nil]
          exact this
        case round =>
          obtain ⟨j, hj, rfl, hB, hL⟩ := hrel
          have hE := Lib.hid (HE1.out.step (by rw [hbb]; exact hL.out))
          clear HE3 HB3 HL3 c1
          by_cases hlt : j < ts.length
          · have pj : (j : Int) < (ts.length : Int) := by omega
            obtain ⟨ad, rfl, hab, hcl⟩ := hE.out.2.1 (by omega)
            have x1 := hcl j hlt
            have hz := HM.out.2.2.2 _ (List.getElem_mem hlt)
            have hsc : ((plain ns.length ++ (numsL ns ++ (plain ts.length ++ textsL (ts.take j)))) ++ plain ts[j].size) ++ ts[j].data.toList = plain ns.length ++ (numsL ns ++ (plain ts.length ++ textsL (ts.take (j + 1)))) := by
              rw [textsL_succ hlt]; unfold textL; simp only [List.append_assoc]
            have hlen := (bytesL_at HM.out ns.length j).2
            have hpl := plain_len 9 ts[j].size (by show _ < 9223372036854775808; omega) (by omega)
            have HW := Lib.hid (writeInt_any b ts[j].size (plain ns.length ++ (numsL ns ++ (plain ts.length ++ textsL (ts.take j)))) _ hB.out (by omega) (by omega))
            have HS := Lib.hid (fun W (h : Bld b ((plain ns.length ++ (numsL ns ++ (plain ts.length ++ textsL (ts.take j)))) ++ plain ts[j].size) W) => bld_string ts[j] h (by rw [List.length_append]; omega))
            rw [hsc] at HS
            generalize ts[j] = z at x1 HW HS
            clear hcl hz hsc hB hab hlen hpl
            go_wp2_with fail
            refine HW.out.mono ?_
            rintro e w4 ⟨rfl, h4, hb⟩
            have HSS := Lib.hid (HS.out _ h4)
            have HL4 := Lib.hid (hL.out.trans hb)
            clear h4 hb hL HW HS hE
            go_wp2_with fail
            refine HSS.out.mono ?_
            rintro e w5 ⟨rfl, h5, hb⟩
            have HB5 := Lib.hid h5
            have HL5 := Lib.hid (HL4.out.trans hb)
            clear h5 hb HL4 HSS
            go_wp2_with fail
            go_roundw
            case rel => exact ⟨j + 1, by omega, by go_num, HB5.out, HL5.out⟩
            case measure => simp [intOf]; omega
          · obtain rfl : j = ts.length := by omega
            rw [List.take_length] at hB
            have HT := Lib.hid (bld_text hB.out)
            have HW0 := Lib.hid HE1.out.2.2.2
            clear hB hE
            go_wp2_with fail
            refine HT.out.mono ?_
            rintro e w6 ⟨rfl, -, hb⟩
            have HB6 := Lib.hid (HW0.out.trans ((hL.out.trans hb).mono (by rw [← hbb]; exact HW0.out.size)))
            clear hb hL HT
            go_wp2_with fail
            go_ret2
            exact ⟨by rw [E.out]; rfl, HB6.out⟩
  · have E := Lib.hid (encV_bad hm)
    have hne : (((ckE ns ts : Nat) : Int) != 0) = true := by simp; omega
    generalize ckE ns ts = C at *
    unfold packV at HC ⊢
    clear ha hb hArg hm hle
    go_enter Try.func20, Try.ntmps20
    go_wp2_with fail
    refine (HC.out _ ((Below.refl _ w).alloc (Nat.le_refl _) _)).mono ?_
    rintro e w1 ⟨rfl, hb⟩
    have HB1 := Lib.hid (below_new hb)
    clear hb HC
    go_wp2_with fail
    go_ret2
    exact ⟨by rw [E.out]; rfl, HB1.out⟩

end Pk
end Go.Proofs.Ytibekhigpamnjaa

/- What the library's strings.Clone answers: the same bytes; no condition but the range (for layers 5 and on, asks Bk alone). -/
namespace Go.Proofs.Ytibekhigpamnjaa
namespace Bk
open Go.RowKit

set_option maxHeartbeats 4000000 in
set_option maxRecDepth 100000 in
theorem clone_in (s : ByteArray) (w : World) (hlim : s.size ≤ 281474976710656) :
    Calls Try.prog 77 #[.string s] w fun e w' => e = .returned (.string s) ∧ Below w.heap.size w w' := by
  by_cases h0 : s.size = 0
  · have hs : s = ⟨#[]⟩ := by
      apply ByteArray.ext
      exact Array.eq_empty_of_size_eq_zero h0
    subst hs
    go_enter Try.func77, Try.ntmps77
    go_wp2
    go_ret
    exact ⟨rfl, Below.refl _ _⟩
  · obtain ⟨i0, hi, hz0, hz1, hz2⟩ := info_parts Bk.Try.infoU8
    have hinfo : (Try.prog.info? 5).map (·.size) = some 1 := by rw [hi]; simp [hz1]
    have hco : Try.prog.cellsOf 5 = 1 := by simp [Program.cellsOf, hi, hz1]
    obtain ⟨M, hM⟩ : ∃ M, M = madeCells (Value.int .u8 0).cells (((s.size : Nat) : Int).toNat * i0.size) := ⟨_, rfl⟩
    have hMs : M.size = s.size := by rw [hM, size_madeCells, hz1]; simp
    have hmk : ∀ W : World, (Instr.makeSlice 64 (.int .i64 (s.size : Int)) (.int .i64 (s.size : Int))).run Try.prog W = .ok (.slice (some ⟨W.heap.size, 0, none⟩) s.size s.size) (W.alloc (.cells M 5)) := fun W => by
      have h := run_make (P := Try.prog) W 64 5 i0 (.int .u8 0) Try.underlying64 hi hz0 .i64 .i64 (s.size : Int) (s.size : Int) (by omega) (by omega) (by rw [hz2]; omega) (by omega)
      rw [← hM] at h
      simpa using h
    clear hM
    have hcp := Lib.run_copy_row_string (P := Try.prog) (w.alloc (.cells M 5)) 64 9 3 5 w.heap.size 0 s.size s.size s M 5 Try.underlying64 hinfo (heap_alloc_new w _) (Nat.le_refl _) (by omega)
    obtain ⟨Y, hY⟩ : ∃ Y, Y = (M.toList.take 0 ++ Lib.byteCells s.data.toList ++ M.toList.drop (0 + s.size)).toArray := ⟨_, rfl⟩
    rw [← hY] at hcp
    have hYl : Y.toList = Lib.byteCells s.data.toList := by
      rw [hY, List.toList_toArray, List.take_zero, List.nil_append, List.drop_of_length_le (by rw [Array.length_toList]; omega), List.append_nil]
    have hYs : Y.size = s.size := by rw [← Array.length_toList, hYl, Lib.byteCells_length, ← Lib.size_eq]
    have hgY : ((w.alloc (.cells M 5)).setRow w.heap.size Y).heap[w.heap.size]? = some (.cells Y 5 (0, 0)) := setRow_heap _ _ M _ 5 (0, 0) (heap_alloc_new w _)
    have hne : s.data.toList ≠ [] := fun e => h0 (by rw [Lib.size_eq, e]; rfl)
    have hUS := Lib.run_unsafeString_row (P := Try.prog) ((w.alloc (.cells M 5)).setRow w.heap.size Y) 103 3 9 5 Try.underlying103 hco w.heap.size Y.size (by unfold World.shape?; rw [hgY]) s.data.toList hne (by rw [← Lib.size_eq]; omega) (by rw [← Lib.size_eq]; omega)
      (fun j x hx => Lib.cells_of_row hgY Y.size j _ (by rw [List.take_of_length_le (by rw [Array.length_toList]; exact Nat.le_refl _), hYl]; simp [Lib.byteCells, hx]))
    rw [← Lib.size_eq] at hUS
    clear hY
    go_enter Try.func77, Try.ntmps77
    go_wp2
    go_ret
    have hb1 : Below w.heap.size w (w.alloc (.cells M 5)) := (Below.refl _ w).alloc (Nat.le_refl _) _
    have hb2 : Below w.heap.size (w.alloc (.cells M 5)) ((w.alloc (.cells M 5)).setRow w.heap.size Y) := ⟨rfl, rfl, rfl, by simp, fun k hk => setRow_other _ _ _ _ (by omega)⟩
    exact ⟨rfl, Lib.below_freeze (hb1.trans hb2) (p := ⟨w.heap.size, 0, none⟩) (Nat.le_refl _) _⟩

set_option maxHeartbeats 1000000 in
theorem clone_any (s : ByteArray) (w : World) (hlim : s.size ≤ 281474976710656) :
    Calls Try.prog 72 #[.string s] w fun e w' => e = .returned (.string s) ∧ Below w.heap.size w w' := by
  go_enter Try.func72, Try.ntmps72
  go_wp2_with fail
  refine (clone_in s _ hlim).mono ?_
  rintro e w' ⟨rfl, hb⟩
  go_wp2_with fail
  go_ret
  exact ⟨rfl, hb⟩

end Bk
end Go.Proofs.Ytibekhigpamnjaa

/- What the landed package reads: read, readUpTo, unfold, readSigned, readText; contracts; no condition but the range. -/
namespace Go.Proofs.Ytibekhigpamnjaa
namespace Pk
open Go.RowKit Bk

attribute [local go_sem ↓] Go.wp_at_zero Go.wp_at_succ
attribute [local go_sem] floatUpon pick

/-- what read of a folded number answers -/
def readVF (s : ByteArray) (a : Nat) : Value :=
  match readR (s.data.toList.drop a) with
  | .ok n u => .tuple #[.int .u64 (n : Int), .int .i64 ((a + u : Nat) : Int), .int .i64 0]
  | .fin => .tuple #[.int .u64 0, .int .i64 (s.size : Int), .int .i64 50]
  | .form => .tuple #[.int .u64 0, .int .i64 (a : Int), .int .i64 3]

set_option maxRecDepth 20000 in
set_option maxHeartbeats 1000000 in
theorem readInt_any (s : ByteArray) (a : Nat) (w : World) (ha : a ≤ s.size) (hs : s.size ≤ 1000000000000000) :
    Calls Try.prog 76 #[.string s, .int .i64 (a : Int)] w fun e w' => e = .returned (readV s a) ∧ w' = w := by
  have hB : (s.size : Int) ≤ 1000000000000000 := by omega
  have pa : (a : Int) ≤ (s.size : Int) := by omega
  go_enter Try.func76, Try.ntmps76
  go_wp2_with fail
  go_loopw [4, 10] (fun x i wr => ∃ (k m : Nat), k ≤ 9 ∧ a + k ≤ s.size ∧ Hid (m < 128 ^ k) ∧ i = .int .i64 (k : Int) ∧ x = .int .i64 (m : Int) ∧ Hid (readR (s.data.toList.drop a) = liftR k m (readK (9 - k) k (s.data.toList.drop (a + k)))) ∧ wr = w) (fun _ i _ => 9 - (intOf i).toNat)
  case atStart =>
    refine ⟨0, 0, by omega, by omega, by show 0 < 128 ^ 0; omega, rfl, rfl, ?_, rfl⟩
    show readR _ = liftR 0 0 (readK 9 0 _)
    unfold readR
    rw [Nat.add_zero]
    cases readK 9 0 (s.data.toList.drop a) <;> simp [liftR]
  case round =>
    obtain ⟨k, m, hk, hak, hm, rfl, rfl, hrd, rfl⟩ := hrel
    by_cases hk9 : k < 9
    · have pk : (k : Int) < 9 := by omega
      have pak : (a : Int) + (k : Int) ≤ (s.size : Int) := by omega
      by_cases hin : a + k < s.size
      · have pin : (a : Int) + (k : Int) < (s.size : Int) := by omega
        have pine : ((a : Int) + (k : Int) == (s.size : Int)) = false := by rw [beq_eq_false_iff_ne]; omega
        have hdr := drop_at s (a + k) hin
        have hix : ∀ W, (Instr.index 9 (.string s) (.int .i64 ((a : Int) + (k : Int)))).run Try.prog W = .ok (.int .u8 ((s[a + k]'hin).toNat : Int)) W := fun W => by
          rw [run_index_string W 9 s .i64 _ Try.underlying9, dif_pos (by omega)]
          congr 3
        have hb8 : (s[a + k]'hin).toNat < 256 := (s[a + k]'hin).toNat_lt
        have hrd2 := hrd.out
        rw [hdr, show 9 - k = (8 - k) + 1 by omega] at hrd2
        generalize hbv : s[a + k]'hin = b at hix hb8 hrd2
        obtain ⟨y, hy⟩ : ∃ y, y = b.toNat := ⟨_, rfl⟩
        rw [← hy] at hix hb8
        have hyi : (y : Int) < 256 := by omega
        have hmod : (y : Int).tmod 128 = ((y % 128 : Nat) : Int) := by rw [Int.tmod_eq_emod_of_nonneg (by omega)]; omega
        have hp : 128 ^ k ≤ 128 ^ 8 := Nat.pow_le_pow_right (by omega) (by omega)
        have hmul : 128 ^ k * (y % 128) ≤ 128 ^ k * 127 := Nat.mul_le_mul_left _ (by omega)
        have hm2 : m + 128 ^ k * (y % 128) < 128 ^ (k + 1) := by have := hm.out; rw [Nat.pow_succ]; omega
        have hp9 : 128 ^ (k + 1) ≤ 128 ^ 9 := Nat.pow_le_pow_right (by omega) (by omega)
        have hbnd : (m : Int) + ((128 ^ k * (y % 128) : Nat) : Int) ≤ 9223372036854775807 := by
          have h9 : m + 128 ^ k * (y % 128) < 9223372036854775808 := Nat.lt_of_lt_of_le hm2 hp9
          omega
        have hshl : ((y % 128 : Nat) : Int) * 2 ^ (7 * (k : Int)).toNat = ((128 ^ k * (y % 128) : Nat) : Int) := by
          rw [show (7 * (k : Int)).toNat = 7 * k by omega, Nat.mul_comm (128 ^ k), Int.natCast_mul, pow128, Int.natCast_pow]; rfl
        have hwr : IntKind.i64.wrap ((128 ^ k * (y % 128) : Nat) : Int) = ((128 ^ k * (y % 128) : Nat) : Int) := i64_wrap (by omega) (by omega)
        have HM2 := Lib.hid hm2
        by_cases hlo : y < 128
        · have plo : (y : Int) < 128 := by omega
          have hy7 : y % 128 = y := by omega
          rw [hy7] at hmod hshl hwr hbnd
          by_cases hz : y = 0 ∧ 0 < k
          · have E := Lib.hid (show readR (s.data.toList.drop a) = .form by rw [hrd2, readK_zero (by omega) hz.2]; rfl)
            obtain ⟨rfl, hz2⟩ := hz
            have pz : (0 : Int) < (k : Int) := by omega
            clear hm hrd hrd2 hdr hbv hy hb8 hp hmul hm2 hp9 HM2 hy7
            generalize 128 ^ k * 0 = q at hshl hwr hbnd
            go_wp2_with fail
            go_ret3
            exact ⟨by unfold readV; rw [E.out]; rfl, rfl⟩
          · have E := Lib.hid (show readR (s.data.toList.drop a) = .ok (m + 128 ^ k * y) (k + 1) by rw [hrd2, readK_last (by omega) (by omega), ← hy]; rfl)
            have hq : 0 ≤ ((128 ^ k * y : Nat) : Int) := by omega
            obtain ⟨q, hqe⟩ : ∃ q, q = 128 ^ k * y := ⟨_, rfl⟩
            rw [← hqe] at hshl hwr hbnd hq E
            clear hm hrd hrd2 hdr hbv hy hb8 hp hmul hm2 hp9 HM2 hy7 hqe
            by_cases hy0 : y = 0
            · have hk0 : ¬ 0 < k := fun h => hz ⟨hy0, h⟩
              have pe : ((y : Int) == 0) = true := by simp [hy0]
              have pk0 : (k : Int) ≤ 0 := by omega
              clear hz hk0 hy0
              go_wp2_with fail
              go_ret3
              exact ⟨by unfold readV; rw [E.out]; rfl, rfl⟩
            · have py : (1 : Int) ≤ (y : Int) := by omega
              have pne : ((y : Int) == 0) = false := by simp; omega
              clear hz hy0
              go_wp2_with fail
              go_ret3
              exact ⟨by unfold readV; rw [E.out]; rfl, rfl⟩
        · have plo : (128 : Int) ≤ (y : Int) := by omega
          have pne : ((y : Int) == 0) = false := by simp; omega
          have E := Lib.hid (show readR (s.data.toList.drop a) = liftR (k + 1) (m + 128 ^ k * (y % 128)) (readK (9 - (k + 1)) (k + 1) (s.data.toList.drop (a + (k + 1)))) by
            rw [hrd2, readK_hi (by omega), liftR_push, ← hy, show 8 - k = 9 - (k + 1) by omega, show a + k + 1 = a + (k + 1) by omega])
          have hq : 0 ≤ ((128 ^ k * (y % 128) : Nat) : Int) := by omega
          obtain ⟨q, hqe⟩ : ∃ q, q = 128 ^ k * (y % 128) := ⟨_, rfl⟩
          rw [← hqe] at hshl hwr hbnd hq E HM2
          have hx : y % 128 < 128 := by omega
          generalize y % 128 = x at hmod hshl hx
          have hxi : (x : Int) < 128 := by omega
          clear hm hrd hrd2 hdr hbv hy hb8 hp hmul hm2 hp9 hqe
          go_wp2_with fail
          go_roundw
          case rel => exact ⟨k + 1, m + q, by omega, by omega, HM2.out, by go_num, by go_num, E.out, trivial⟩
          case measure => simp [intOf]; omega
      · have E := Lib.hid (show readR (s.data.toList.drop a) = .fin by
          rw [hrd.out, List.drop_eq_nil_of_le (by rw [list_size]; omega), show 9 - k = (8 - k) + 1 by omega]; rfl)
        have pine : ((a : Int) + (k : Int) == (s.size : Int)) = true := by rw [beq_iff_eq]; omega
        have pin : (a : Int) + (k : Int) = (s.size : Int) := by omega
        have E2 := Lib.hid pin
        clear hm hrd pin
        go_wp2_with fail
        go_ret3
        exact ⟨by unfold readV; rw [E.out, ← E2.out]; rfl, rfl⟩
    · obtain rfl : k = 9 := by omega
      have E := Lib.hid (show readR (s.data.toList.drop a) = .form by rw [hrd.out]; rfl)
      clear hm hrd
      go_wp2_with fail
      go_ret3
      exact ⟨by unfold readV; rw [E.out]; rfl, rfl⟩

set_option maxRecDepth 20000 in
set_option maxHeartbeats 1000000 in
theorem readFolded_any (s : ByteArray) (a : Nat) (w : World) (ha : a ≤ s.size) (hs : s.size ≤ 1000000000000000) :
    Calls Try.prog 70 #[.string s, .int .i64 (a : Int)] w fun e w' => e = .returned (readVF s a) ∧ w' = w := by
  have hB : (s.size : Int) ≤ 1000000000000000 := by omega
  have pa : (a : Int) ≤ (s.size : Int) := by omega
  go_enter Try.func70, Try.ntmps70
  go_wp2_with fail
  go_loopw [4, 10] (fun x i wr => ∃ (k m : Nat), k ≤ 9 ∧ a + k ≤ s.size ∧ Hid (m < 128 ^ k) ∧ i = .int .i64 (k : Int) ∧ x = .int .u64 (m : Int) ∧ Hid (readR (s.data.toList.drop a) = liftR k m (readK (9 - k) k (s.data.toList.drop (a + k)))) ∧ wr = w) (fun _ i _ => 9 - (intOf i).toNat)
  case atStart =>
    refine ⟨0, 0, by omega, by omega, by show 0 < 128 ^ 0; omega, rfl, rfl, ?_, rfl⟩
    show readR _ = liftR 0 0 (readK 9 0 _)
    unfold readR
    rw [Nat.add_zero]
    cases readK 9 0 (s.data.toList.drop a) <;> simp [liftR]
  case round =>
    obtain ⟨k, m, hk, hak, hm, rfl, rfl, hrd, rfl⟩ := hrel
    by_cases hk9 : k < 9
    · have pk : (k : Int) < 9 := by omega
      have pak : (a : Int) + (k : Int) ≤ (s.size : Int) := by omega
      by_cases hin : a + k < s.size
      · have pin : (a : Int) + (k : Int) < (s.size : Int) := by omega
        have pine : ((a : Int) + (k : Int) == (s.size : Int)) = false := by rw [beq_eq_false_iff_ne]; omega
        have hdr := drop_at s (a + k) hin
        have hix : ∀ W, (Instr.index 9 (.string s) (.int .i64 ((a : Int) + (k : Int)))).run Try.prog W = .ok (.int .u8 ((s[a + k]'hin).toNat : Int)) W := fun W => by
          rw [run_index_string W 9 s .i64 _ Try.underlying9, dif_pos (by omega)]
          congr 3
        have hb8 : (s[a + k]'hin).toNat < 256 := (s[a + k]'hin).toNat_lt
        have hrd2 := hrd.out
        rw [hdr, show 9 - k = (8 - k) + 1 by omega] at hrd2
        generalize hbv : s[a + k]'hin = b at hix hb8 hrd2
        obtain ⟨y, hy⟩ : ∃ y, y = b.toNat := ⟨_, rfl⟩
        rw [← hy] at hix hb8
        have hyi : (y : Int) < 256 := by omega
        have hmod : (y : Int).tmod 128 = ((y % 128 : Nat) : Int) := by rw [Int.tmod_eq_emod_of_nonneg (by omega)]; omega
        have hp : 128 ^ k ≤ 128 ^ 8 := Nat.pow_le_pow_right (by omega) (by omega)
        have hmul : 128 ^ k * (y % 128) ≤ 128 ^ k * 127 := Nat.mul_le_mul_left _ (by omega)
        have hm2 : m + 128 ^ k * (y % 128) < 128 ^ (k + 1) := by have := hm.out; rw [Nat.pow_succ]; omega
        have hp9 : 128 ^ (k + 1) ≤ 128 ^ 9 := Nat.pow_le_pow_right (by omega) (by omega)
        have hbnd : (m : Int) + ((128 ^ k * (y % 128) : Nat) : Int) ≤ 9223372036854775807 := by
          have h9 : m + 128 ^ k * (y % 128) < 9223372036854775808 := Nat.lt_of_lt_of_le hm2 hp9
          omega
        have hshl : ((y % 128 : Nat) : Int) * 2 ^ (7 * (k : Int)).toNat = ((128 ^ k * (y % 128) : Nat) : Int) := by
          rw [show (7 * (k : Int)).toNat = 7 * k by omega, Nat.mul_comm (128 ^ k), Int.natCast_mul, pow128, Int.natCast_pow]; rfl
        have hwr : IntKind.u64.wrap ((128 ^ k * (y % 128) : Nat) : Int) = ((128 ^ k * (y % 128) : Nat) : Int) := u64_wrap (by omega) (by omega)
        have HM2 := Lib.hid hm2
        by_cases hlo : y < 128
        · have plo : (y : Int) < 128 := by omega
          have hy7 : y % 128 = y := by omega
          rw [hy7] at hmod hshl hwr hbnd
          by_cases hz : y = 0 ∧ 0 < k
          · have E := Lib.hid (show readR (s.data.toList.drop a) = .form by rw [hrd2, readK_zero (by omega) hz.2]; rfl)
            obtain ⟨rfl, hz2⟩ := hz
            have pz : (0 : Int) < (k : Int) := by omega
            clear hm hrd hrd2 hdr hbv hy hb8 hp hmul hm2 hp9 HM2 hy7
            generalize 128 ^ k * 0 = q at hshl hwr hbnd
            go_wp2_with fail
            go_ret3
            exact ⟨by unfold readVF; rw [E.out]; rfl, rfl⟩
          · have E := Lib.hid (show readR (s.data.toList.drop a) = .ok (m + 128 ^ k * y) (k + 1) by rw [hrd2, readK_last (by omega) (by omega), ← hy]; rfl)
            have hq : 0 ≤ ((128 ^ k * y : Nat) : Int) := by omega
            obtain ⟨q, hqe⟩ : ∃ q, q = 128 ^ k * y := ⟨_, rfl⟩
            rw [← hqe] at hshl hwr hbnd hq E
            clear hm hrd hrd2 hdr hbv hy hb8 hp hmul hm2 hp9 HM2 hy7 hqe
            by_cases hy0 : y = 0
            · have hk0 : ¬ 0 < k := fun h => hz ⟨hy0, h⟩
              have pe : ((y : Int) == 0) = true := by simp [hy0]
              have pk0 : (k : Int) ≤ 0 := by omega
              clear hz hk0 hy0
              go_wp2_with fail
              go_ret3
              exact ⟨by unfold readVF; rw [E.out]; rfl, rfl⟩
            · have py : (1 : Int) ≤ (y : Int) := by omega
              have pne : ((y : Int) == 0) = false := by simp; omega
              clear hz hy0
              go_wp2_with fail
              go_ret3
              exact ⟨by unfold readVF; rw [E.out]; rfl, rfl⟩
        · have plo : (128 : Int) ≤ (y : Int) := by omega
          have pne : ((y : Int) == 0) = false := by simp; omega
          have E := Lib.hid (show readR (s.data.toList.drop a) = liftR (k + 1) (m + 128 ^ k * (y % 128)) (readK (9 - (k + 1)) (k + 1) (s.data.toList.drop (a + (k + 1)))) by
            rw [hrd2, readK_hi (by omega), liftR_push, ← hy, show 8 - k = 9 - (k + 1) by omega, show a + k + 1 = a + (k + 1) by omega])
          have hq : 0 ≤ ((128 ^ k * (y % 128) : Nat) : Int) := by omega
          obtain ⟨q, hqe⟩ : ∃ q, q = 128 ^ k * (y % 128) := ⟨_, rfl⟩
          rw [← hqe] at hshl hwr hbnd hq E HM2
          have hx : y % 128 < 128 := by omega
          generalize y % 128 = x at hmod hshl hx
          have hxi : (x : Int) < 128 := by omega
          clear hm hrd hrd2 hdr hbv hy hb8 hp hmul hm2 hp9 hqe
          go_wp2_with fail
          go_roundw
          case rel => exact ⟨k + 1, m + q, by omega, by omega, HM2.out, by go_num, by go_num, E.out, trivial⟩
          case measure => simp [intOf]; omega
      · have E := Lib.hid (show readR (s.data.toList.drop a) = .fin by
          rw [hrd.out, List.drop_eq_nil_of_le (by rw [list_size]; omega), show 9 - k = (8 - k) + 1 by omega]; rfl)
        have pine : ((a : Int) + (k : Int) == (s.size : Int)) = true := by rw [beq_iff_eq]; omega
        have pin : (a : Int) + (k : Int) = (s.size : Int) := by omega
        have E2 := Lib.hid pin
        clear hm hrd pin
        go_wp2_with fail
        go_ret3
        exact ⟨by unfold readVF; rw [E.out, ← E2.out]; rfl, rfl⟩
    · obtain rfl : k = 9 := by omega
      have E := Lib.hid (show readR (s.data.toList.drop a) = .form by rw [hrd.out]; rfl)
      clear hm hrd
      go_wp2_with fail
      go_ret3
      exact ⟨by unfold readVF; rw [E.out]; rfl, rfl⟩

end Pk
end Go.Proofs.Ytibekhigpamnjaa
