/- The landed log's numbers as eight bytes, the highest first, and back; contracts; no condition but the range. -/
import Derived.Test.YtjehjbkcdpidbaaGreatRlBase
import Derived.Test.YtjehjbkcdpidbaaGreatB2
namespace Go.Proofs.YtjehjbkcdpidbaaGreat
namespace Rd
open Go.RowKit Sc Bk

attribute [local go_sem ↓] Go.wp_at_zero Go.wp_at_succ
attribute [local go_sem] floatUpon pick

theorem be_at (n : Nat) : ∀ (k i : Nat), i < k → (be n k)[i]? = some (UInt8.ofNat (n / 256 ^ (7 - i) % 256)) := fun k i h => by
  unfold be
  rw [List.getElem?_map, List.getElem?_range h]; rfl

set_option maxRecDepth 20000 in
set_option maxHeartbeats 1000000 in
theorem high_any (n : Nat) (w : World) (_hn : n ≤ 9223372036854775807) :
    Calls Tryz.prog 131 #[.int .i64 (n : Int)] w fun e w' => e = .returned (.string ⟨(be8 n).toArray⟩) ∧ Below w.heap.size w w' := by
  obtain ⟨i0, hi, hz0, hz1, hz2⟩ := info_parts Tryz.infoU8
  have hV : (Lib.byteCells (be8 n)).length = 8 := by rw [Lib.byteCells_length, be8_len]
  go_enter Tryz.func131, Tryz.ntmps131
  go_wp2_with (at_make; refine wpList_make_full _ rfl _ _ 82 rfl w.heap.size 5 i0 (.int .u8 0) 1 Tryz.underlying82 hi hz0 hz1 .i64 .i64 _ _ 8 rfl rfl rfl rfl (by rw [hz2]; omega) (by unfold maxLen; omega) (by simp) ?_; intro w2 hown hgrow)
  have hown0 : w2.ownsRow w.heap.size 5 1 (.slice (some ⟨w.heap.size, 0, none⟩) 8 8) 8 (preV (Lib.byteCells (be8 n)) (.int .u8 0) 0) := by
    rw [preV_zero (Lib.byteCells (be8 n)) (.int .u8 0) 8 hV rfl] at hown; exact hown
  have hbel0 : Below w.heap.size w w2 := (Below.refl _ _).grown hgrow (Nat.le_refl _) (fun k hk => by cases hk)
  have HV := Lib.hid hV
  clear hown hgrow hV
  go_wp2_with fail
  go_loopw [8] (fun i wr => ∃ j : Nat, j ≤ 8 ∧ i = .int .i64 (j : Int) ∧ Hid (wr.ownsRow w.heap.size 5 1 (.slice (some ⟨w.heap.size, 0, none⟩) 8 8) 8 (preV (Lib.byteCells (be8 n)) (.int .u8 0) j)) ∧ Hid (Below w.heap.size w wr)) (fun i _ => 8 - (intOf i).toNat)
  case atStart => exact ⟨0, by omega, rfl, hown0, hbel0⟩
  case round =>
    obtain ⟨j, hj, rfl, hown, hbel⟩ := hrel
    clear hown0 hbel0
    by_cases hlt : j < 8
    · have hat : (Lib.byteCells (be8 n))[j]? = some (.int .u8 ((n / 256 ^ (7 - j) % 256 : Nat) : Int)) := by
        have h : (be8 n)[j]? = some (UInt8.ofNat (n / 256 ^ (7 - j) % 256)) := be_at n 8 j hlt
        obtain ⟨hl, he⟩ := List.getElem?_eq_some_iff.1 h
        have h2 := Su.byte_set (be8 n) j hl
        rw [h2, he, UInt8.toNat_ofNat_of_lt' (by show n / 256 ^ (7 - j) % 256 < 256; omega)]
      obtain ⟨v, hv⟩ := preV_at (Lib.byteCells (be8 n)) (.int .u8 0) j j (by rw [HV.out]; omega) (by rw [HV.out]; omega)
      have hcell := (hown.out.cellAt j (by omega)).trans hv
      have hfro := hown.out.frozenAt j
      have R := hown.out.stored j (.int .u8 (((n / 256 ^ (7 - j) % 256 : Nat) : Nat) : Int))
      rw [preV_set (Lib.byteCells (be8 n)) (.int .u8 0) _ j (by rw [HV.out]; omega) hat] at R
      have HR := Lib.hid R.1
      have pj : (j : Int) < 8 := by omega
      have hsh : (n : Int) / 2 ^ (56 - 8 * (j : Int)).toNat = ((n / 256 ^ (7 - j) : Nat) : Int) := by
        rw [show (56 - 8 * (j : Int)).toNat = 8 * (7 - j) by omega, Su.pow256, Int.natCast_ediv, Int.natCast_pow]; rfl
      have hcv : IntKind.u8.wrap ((n / 256 ^ (7 - j) : Nat) : Int) = ((n / 256 ^ (7 - j) % 256 : Nat) : Int) := by
        simp [IntKind.wrap, IntKind.bits, IntKind.signed]
      generalize n / 256 ^ (7 - j) % 256 = b at hcv HR hat
      generalize n / 256 ^ (7 - j) = q at hsh hcv
      clear hv R hat
      go_wp2_with fail
      go_roundw
      case rel => exact ⟨j + 1, by omega, by go_num, HR.out, hbel.out.setCell (Nat.le_refl _) _⟩
      case measure => simp [intOf]; omega
    · obtain rfl : j = 8 := by omega
      have hown' := hown.out
      have e : preV (Lib.byteCells (be8 n)) (.int .u8 0) 8 = Lib.byteCells (be8 n) := by
        have h2 := preV_end (Lib.byteCells (be8 n)) (.int .u8 0)
        rw [HV.out] at h2
        exact h2
      rw [e] at hown'
      have hcv := own_bytes hown' (be8_len n).symm 0 8 8 (by rw [be8_len]; omega)
      rw [List.drop_zero, List.take_of_length_le (by rw [be8_len]; exact Nat.le_refl _)] at hcv
      have HB := Lib.hid hbel.out
      clear hown' hown e hbel
      go_wp2_with fail
      go_ret
      exact ⟨rfl, HB.out⟩

theorem u64_or_nat (a b : Nat) (ha : a < 18446744073709551616) (hb : b < 18446744073709551616) : bits .or .u64 (a : Int) (b : Int) = ((a ||| b : Nat) : Int) := by
  have hx : a ||| b < 2 ^ 64 := Nat.or_lt_two_pow (by omega) (by omega)
  have h1 : ∀ x : Nat, x < 18446744073709551616 → (BitVec.ofInt 64 (x : Int)).toNat = x := fun x hx => by
    rw [BitVec.toNat_ofInt]; omega
  show IntKind.u64.wrap ((BitVec.ofInt 64 (a : Int) ||| BitVec.ofInt 64 (b : Int)).toNat : Int) = _
  rw [BitVec.toNat_or, h1 a ha, h1 b hb]
  simp only [IntKind.wrap, IntKind.bits, IntKind.signed]; simp; omega

theorem numB_step (L : List UInt8) {j : Nat} (h : j < L.length) : numB (L.take (j + 1)) = numB (L.take j) * 256 + L[j].toNat := by
  rw [List.take_add_one, List.getElem?_eq_getElem h]; exact numB_snoc _ _

set_option maxRecDepth 20000 in
set_option maxHeartbeats 1000000 in
theorem lnumber_any (s : ByteArray) (w : World) (hs : s.size = 8) :
    Calls Tryz.prog 130 #[.string s] w fun e w' => e = .returned (.int .u64 (numB s.data.toList : Int)) ∧ w' = w := by
  have hl : s.data.toList.length = 8 := by rw [Array.length_toList]; exact hs
  go_enter Tryz.func130, Tryz.ntmps130
  go_wp2_with fail
  go_loopw [3, 7] (fun u c wr => ∃ i : Nat, i ≤ 8 ∧ u = .int .u64 (numB (s.data.toList.take i) : Int) ∧ c = .int .i64 (i : Int) ∧ wr = w) (fun _ c _ => 8 - (intOf c).toNat)
  case atStart => exact ⟨0, by omega, rfl, rfl, rfl⟩
  case round =>
    obtain ⟨i, hi, rfl, rfl, rfl⟩ := hrel
    by_cases hlt : i < 8
    · have pi : (i : Int) < 8 := by omega
      have hil : i < s.data.toList.length := by omega
      have hix := fun W => str_at s i _ (List.getElem?_eq_getElem hil) (i : Int) rfl W
      have hst := numB_step s.data.toList hil
      have hb := (s.data.toList[i]'hil).toNat_lt
      have hk := numB_lt i (s.data.toList.take i) (by rw [List.length_take]; omega)
      have hk2 : numB (s.data.toList.take i) < 72057594037927936 := Nat.lt_of_lt_of_le hk (by have : 256 ^ i ≤ 256 ^ 7 := Nat.pow_le_pow_right (by omega) (by omega); omega)
      generalize (s.data.toList[i]'hil).toNat = b at hix hst hb
      have hor : bits .or .u64 ((numB (s.data.toList.take i) : Int) * 256) (b : Int) = (numB (s.data.toList.take (i + 1)) : Int) := by
        have e := u64_or_nat (numB (s.data.toList.take i) * 256) b (by omega) (by omega)
        rw [Int.natCast_mul] at e
        have e2 := Nat.two_pow_add_eq_or_of_lt (i := 8) (show b < 2 ^ 8 by omega) (numB (s.data.toList.take i))
        rw [hst]
        refine e.trans ?_
        rw [show numB (s.data.toList.take i) * 256 = 2 ^ 8 * numB (s.data.toList.take i) by omega, ← e2]
      have HOR := Lib.hid hor
      generalize hz : numB (s.data.toList.take i) = z at hk2 HOR
      clear hk hor hst hz
      go_wp2_with fail
      go_roundw
      case rel => exact ⟨i + 1, by omega, by rw [HOR.out], by go_num, trivial⟩
      case measure => simp [intOf]; omega
    · obtain rfl : i = 8 := by omega
      rw [List.take_of_length_le (by omega)]
      go_wp2_with fail
      go_ret
      exact ⟨rfl, rfl⟩

end Rd
end Go.Proofs.YtjehjbkcdpidbaaGreat
