/- trial -/
import Derived.Test.YtlamjkagjkmbeaaSuDone1
namespace Go.Proofs.Ytlamjkagjkmbeaa
namespace Su
open Go.RowKit Bk

attribute [local go_sem ↓] Go.wp_at_zero Go.wp_at_succ
attribute [local go_sem] floatUpon pick

set_option maxRecDepth 20000 in
set_option maxHeartbeats 1000000 in
theorem of_any (A : Option Addr) (c : Nat) (l : List ByteArray) (w : World) (h : StrsAt w A l) (hn : l.length ≤ 9223372036854775807) (hs : (catL l).length ≤ 9223372036854775807) :
    Calls Try.prog 13 #[.slice A l.length c] w fun e w' => e = .returned (.int .i64 ((crc (catL l) : Nat) : Int)) ∧ w' = w := by
  have HA := Lib.hid h
  clear h
  go_enter Try.func13, Try.ntmps13
  go_wp2_with fail
  go_loopw [3, 8] (fun x i wr => ∃ j : Nat, j ≤ l.length ∧ i = .int .i64 (j : Int) ∧ x = .int .u32 ((reg 4294967295 (catL (l.take j)) : Nat) : Int) ∧ wr = w) (fun _ i _ => l.length - (intOf i).toNat)
  case atStart => exact ⟨0, by omega, rfl, rfl, rfl⟩
  case round =>
    obtain ⟨j, hj, rfl, rfl, rfl⟩ := hrel
    have hr := reg_lt (x := 4294967295) (by omega) (catL (l.take j))
    by_cases hlt : j < l.length
    · have pj : (j : Int) < (l.length : Int) := by omega
      obtain ⟨ad, rfl, hab, hcl⟩ := HA.out (by omega)
      have x1 := hcl j hlt
      have hz := catL_le l (j + 1)
      have hz2 : l[j].data.toList.length = l[j].size := Array.length_toList
      have hct := catL_take l j hlt
      rw [hct, List.length_append, hz2] at hz
      have hst : reg 4294967295 (catL (l.take (j + 1))) = reg (reg 4294967295 (catL (l.take j))) l[j].data.toList := by rw [hct, reg_append]
      have HO := Lib.hid (fun W => over_any (reg 4294967295 (catL (l.take j))) l[j] W hr (by omega))
      rw [← hst] at HO
      clear hst hct hcl
      generalize reg 4294967295 (catL (l.take j)) = z at hr HO ⊢
      generalize l[j] = s at x1 HO hz hz2
      clear hz hz2
      go_wp2_with fail
      refine (HO.out _).mono ?_
      rintro e w' ⟨rfl, rfl⟩
      go_wp2_with fail
      go_roundw
      case rel => exact ⟨j + 1, by omega, by go_num, rfl, trivial⟩
      case measure => simp [intOf]; omega
    · obtain rfl : j = l.length := by omega
      rw [List.take_of_length_le (Nat.le_refl _)] at hr ⊢
      have hx := u32_xor_nat (reg 4294967295 (catL l)) 4294967295 hr (by omega)
      have hcl := crc_lt (catL l)
      have hc : reg 4294967295 (catL l) ^^^ 4294967295 = crc (catL l) := rfl
      rw [hc] at hx
      clear hc
      generalize reg 4294967295 (catL l) = x at hr hx ⊢
      obtain ⟨C, hC⟩ : ∃ C, C = crc (catL l) := ⟨_, rfl⟩
      rw [← hC] at hx hcl
      have hx' : bits .xor .u32 (x : Int) 4294967295 = (C : Int) := hx
      have HC := Lib.hid hC
      clear hx hC
      go_wp2_with fail
      go_ret
      exact ⟨by rw [← HC.out]; rfl, rfl⟩

/-- a row of bytes of which the first j stand, behind them 0 -/
theorem byte_set (L : List UInt8) (j : Nat) (h : j < L.length) : (Lib.byteCells L)[j]? = some (.int .u8 ((L[j].toNat : Nat) : Int)) := by
  unfold Lib.byteCells
  rw [List.getElem?_map, List.getElem?_eq_getElem h]; rfl

theorem le_at : ∀ (k n i : Nat), i < k → (le k n)[i]? = some (UInt8.ofNat (n / 256 ^ i % 256))
  | 0, _, _, h => absurd h (by omega)
  | k + 1, n, 0, _ => by simp [le]
  | k + 1, n, i + 1, h => by
    show (le k (n / 256))[i]? = _
    rw [le_at k (n / 256) i (by omega), Nat.div_div_eq_div_mul, Nat.pow_succ, Nat.mul_comm 256]

set_option maxRecDepth 20000 in
set_option maxHeartbeats 1000000 in
theorem low_any (n k : Nat) (w : World) (_hn : n ≤ 9223372036854775807) (h1 : 1 ≤ k) (hk : k ≤ 7) :
    Calls Try.prog 23 #[.int .i64 (k : Int), .int .i64 (n : Int)] w fun e w' => e = .returned (.string ⟨(le k n).toArray⟩) ∧ Below w.heap.size w w' := by
  obtain ⟨i0, hi, hz0, hz1, hz2⟩ := info_parts Try.infoU8
  have hV : (Lib.byteCells (le k n)).length = k := by rw [Lib.byteCells_length, le_length]
  go_enter Try.func23, Try.ntmps23
  go_wp2_with (at_make; refine wpList_make_full _ rfl (.tmp 7) (.tmp 7) 41 rfl w.heap.size 5 i0 (.int .u8 0) 1 Try.underlying41 hi hz0 hz1 .i64 .i64 _ _ k rfl rfl rfl rfl (by rw [hz2]; omega) (by unfold maxLen; omega) (by simp) ?_; intro w2 hown hgrow)
  have hown0 : w2.ownsRow w.heap.size 5 1 (.slice (some ⟨w.heap.size, 0, none⟩) k k) k (preV (Lib.byteCells (le k n)) (.int .u8 0) 0) := by
    rw [preV_zero (Lib.byteCells (le k n)) (.int .u8 0) k hV rfl] at hown; exact hown
  have hbel0 : Below w.heap.size w w2 := (Below.refl _ _).grown hgrow (Nat.le_refl _) (fun k hk => by cases hk)
  have HV := Lib.hid hV
  clear hown hgrow hV
  go_loopw [11] (fun i wr => ∃ j : Nat, j ≤ k ∧ i = .int .i64 (j : Int) ∧ Hid (wr.ownsRow w.heap.size 5 1 (.slice (some ⟨w.heap.size, 0, none⟩) k k) k (preV (Lib.byteCells (le k n)) (.int .u8 0) j)) ∧ Hid (Below w.heap.size w wr)) (fun i _ => k - (intOf i).toNat)
  case atStart => exact ⟨0, by omega, rfl, hown0, hbel0⟩
  case round =>
    obtain ⟨j, hj, rfl, hown, hbel⟩ := hrel
    clear hown0 hbel0
    by_cases hlt : j < k
    · have hat : (Lib.byteCells (le k n))[j]? = some (.int .u8 ((n / 256 ^ j % 256 : Nat) : Int)) := by
        have h := le_at k n j hlt
        obtain ⟨hl, he⟩ := List.getElem?_eq_some_iff.1 h
        rw [byte_set _ _ hl, he, UInt8.toNat_ofNat_of_lt' (by show n / 256 ^ j % 256 < 256; omega)]
      obtain ⟨v, hv⟩ := preV_at (Lib.byteCells (le k n)) (.int .u8 0) j j (by rw [HV.out]; omega) (by rw [HV.out]; omega)
      have hcell := (hown.out.cellAt j (by omega)).trans hv
      have hfro := hown.out.frozenAt j
      have R := hown.out.stored j (.int .u8 (((n / 256 ^ j % 256 : Nat) : Nat) : Int))
      rw [preV_set (Lib.byteCells (le k n)) (.int .u8 0) _ j (by rw [HV.out]; omega) hat] at R
      have HR := Lib.hid R.1
      have pj : (j : Int) < (k : Int) := by omega
      have hsh : (n : Int) / 2 ^ (8 * (j : Int)).toNat = ((n / 256 ^ j : Nat) : Int) := by
        rw [show (8 * (j : Int)).toNat = 8 * j by omega, pow256, Int.natCast_ediv, Int.natCast_pow]; rfl
      have hcv : IntKind.u8.wrap ((n / 256 ^ j : Nat) : Int) = ((n / 256 ^ j % 256 : Nat) : Int) := by
        simp [IntKind.wrap, IntKind.bits, IntKind.signed]
      generalize n / 256 ^ j % 256 = b at hcv HR hat
      generalize n / 256 ^ j = q at hsh hcv
      clear hv R hat
      go_wp2_with fail
      go_roundw
      case rel => exact ⟨j + 1, by omega, by go_num, HR.out, hbel.out.setCell (Nat.le_refl _) _⟩
      case measure => simp [intOf]; omega
    · obtain rfl : j = k := by omega
      have hown' := hown.out
      have e : preV (Lib.byteCells (le j n)) (.int .u8 0) j = Lib.byteCells (le j n) := by
        have h2 := preV_end (Lib.byteCells (le j n)) (.int .u8 0)
        rw [HV.out] at h2
        exact h2
      rw [e] at hown'
      have hcv := own_bytes hown' (le_length j n).symm 0 j j (by rw [le_length]; omega)
      rw [List.drop_zero, List.take_of_length_le (by rw [le_length]; exact Nat.le_refl _)] at hcv
      have HB := Lib.hid hbel.out
      clear hown' hown e hbel
      go_wp2_with fail
      go_ret
      exact ⟨rfl, HB.out⟩

theorem i64_or_nat (a b : Nat) (ha : a < 9223372036854775808) (hb : b < 9223372036854775808) : bits .or .i64 (a : Int) (b : Int) = ((a ||| b : Nat) : Int) := by
  have hx : a ||| b < 2 ^ 63 := Nat.or_lt_two_pow (by omega) (by omega)
  show IntKind.i64.wrap ((BitVec.ofInt 64 (a : Int) ||| BitVec.ofInt 64 (b : Int)).toNat : Int) = _
  rw [BitVec.toNat_or, ofInt_i64 a ha, ofInt_i64 b hb, i64_wrap (by omega) (by omega)]

theorem num_take (L : List UInt8) (j : Nat) (h : j < L.length) : num (L.take (j + 1)) = num (L.take j) + 256 ^ j * L[j].toNat := by
  rw [List.take_add_one, List.getElem?_eq_getElem h, num_append, List.length_take, Nat.min_eq_left (Nat.le_of_lt h)]
  simp [num]

set_option maxRecDepth 20000 in
set_option maxHeartbeats 1000000 in
theorem number_any (s : ByteArray) (w : World) (hk : s.size ≤ 7) :
    Calls Try.prog 27 #[.string s] w fun e w' => e = .returned (.int .i64 ((num s.data.toList : Nat) : Int)) ∧ w' = w := by
  have hb : (s.size : Int) ≤ 7 := by omega
  go_enter Try.func27, Try.ntmps27
  go_wp2_with fail
  go_loopw [3, 7] (fun x i wr => ∃ j : Nat, j ≤ s.size ∧ i = .int .i64 (j : Int) ∧ x = .int .i64 ((num (s.data.toList.take j) : Nat) : Int) ∧ wr = w) (fun _ i _ => s.size - (intOf i).toNat)
  case atStart => exact ⟨0, by omega, rfl, rfl, rfl⟩
  case round =>
    obtain ⟨j, hj, rfl, rfl, rfl⟩ := hrel
    by_cases hlt : j < s.size
    · have pj : (j : Int) < (s.size : Int) := by omega
      have hlen : j < s.data.toList.length := by rw [Array.length_toList]; exact hlt
      have hstep := num_take s.data.toList j hlen
      rw [Array.getElem_toList] at hstep
      have hl := num_lt (s.data.toList.take j)
      rw [List.length_take, Nat.min_eq_left (Nat.le_of_lt hlen)] at hl
      have hb8 : (s[j]'hlt).toNat < 256 := (s[j]'hlt).toNat_lt
      have hst2 : num (s.data.toList.take (j + 1)) = num (s.data.toList.take j) + 256 ^ j * (s[j]'hlt).toNat := hstep
      generalize hbv : (s[j]'hlt).toNat = b at hb8 hst2
      have hix : ∀ W, (Instr.index 9 (.string s) (.int .i64 (j : Int))).run Try.prog W = .ok (.int .u8 (b : Int)) W := fun W => by
        rw [run_index_string W 9 s .i64 _ Try.underlying9, dif_pos (by omega)]
        simp only [Int.toNat_natCast, hbv]
      have hp : 256 ^ j ≤ 256 ^ 6 := Nat.pow_le_pow_right (by omega) (by omega)
      have hm : 256 ^ j * b ≤ 256 ^ 6 * 255 := Nat.mul_le_mul hp (by omega)
      have hjn : num (s.data.toList.take j) ||| 256 ^ j * b = num (s.data.toList.take (j + 1)) := by
        rw [Nat.or_comm, nat_join (8 * j) (256 ^ j * b) _ (by rw [pow256]; exact Nat.mul_mod_right _ _) (by rw [← pow256]; exact hl), hst2]
        omega
      have hor := i64_or_nat (num (s.data.toList.take j)) (256 ^ j * b) (by omega) (by omega)
      rw [hjn] at hor
      have hshl : (b : Int) * 2 ^ (8 * (j : Int)).toNat = ((256 ^ j * b : Nat) : Int) := by
        rw [show (8 * (j : Int)).toNat = 8 * j by omega, Nat.mul_comm (256 ^ j), Int.natCast_mul, pow256, Int.natCast_pow]; rfl
      have hwr : IntKind.i64.wrap ((256 ^ j * b : Nat) : Int) = ((256 ^ j * b : Nat) : Int) := i64_wrap (by omega) (by omega)
      obtain ⟨y, hy⟩ : ∃ y, y = num (s.data.toList.take (j + 1)) := ⟨_, rfl⟩
      rw [← hy] at hor
      have HY := Lib.hid hy
      generalize num (s.data.toList.take j) = x at hor
      generalize 256 ^ j * b = m at hor hshl hwr
      clear hstep hst2 hl hbv hjn hp hm hlen hy
      go_wp2_with fail
      go_roundw
      case rel => exact ⟨j + 1, by omega, by go_num, by rw [HY.out], trivial⟩
      case measure => simp [intOf]; omega
    · obtain rfl : j = s.size := by omega
      have hc : s.data.toList.take s.size = s.data.toList := List.take_of_length_le (by rw [Array.length_toList]; exact Nat.le_refl _)
      rw [hc]
      clear hc
      go_wp2_with fail
      go_ret
      exact ⟨rfl, rfl⟩

end Su
end Go.Proofs.Ytlamjkagjkmbeaa
