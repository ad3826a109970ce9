/- Parts of the proof, joined: SuDone1, SuDone2, BkClone, SuMath2, SuLaw, SuDone3, SuDone4; their conditions stand with each. -/
import Derived.Test.YtjehjbkcdpidbaaGreatRows
import Derived.Lib.Strings
import Derived.Lib.Walk
import Derived.Lib.BufferWrite
import Derived.Lib.UnsafeStr
import Derived.Lib.Hide
import Derived.Laws.MakeOwn
import Derived.WalkKit
import Derived.Test.YtjehjbkcdpidbaaGreatB0
import Derived.Test.YtjehjbkcdpidbaaGreatB1

/- What the landed package's step, over and Of do: one bit, one piece, all pieces; no condition but the range. -/
namespace Go.Proofs.YtjehjbkcdpidbaaGreat
namespace Su
open Go.RowKit Bk

attribute [local go_sem ↓] Go.wp_at_zero Go.wp_at_succ
attribute [local go_sem] floatUpon pick

theorem u32_and1 (x : Nat) (hx : x < 4294967296) : bits .and .u32 (x : Int) 1 = ((x % 2 : Nat) : Int) := by
  have h := u32_and_nat x 1 hx (by omega)
  rw [nat_mask1] at h
  exact h

set_option maxRecDepth 20000 in
set_option maxHeartbeats 1000000 in
theorem step_any (x : Nat) (w : World) (hx : x < 4294967296) :
    Calls Tryz.prog 121 #[.int .u32 (x : Int)] w fun e w' => e = .returned (.int .u32 ((T x : Nat) : Int)) ∧ w' = w := by
  have ha := u32_and1 x hx
  by_cases h : x % 2 = 1
  · have ht : T x = (x / 2) ^^^ 3988292384 := by unfold T; rw [if_pos h]
    have hb : bits .xor .u32 ((x : Int) / 2) 3988292384 = ((T x : Nat) : Int) := by
      have := u32_xor_nat (x / 2) 3988292384 (by omega) (by omega)
      rw [← ht, Int.natCast_ediv] at this
      exact this
    rw [h] at ha
    have ha' : (bits .and .u32 (x : Int) 1 == 1) = true := by rw [ha]; rfl
    clear ha ht
    go_enter Tryz.func121, Tryz.ntmps121
    go_wp2_with fail
    go_ret
    exact ⟨rfl, rfl⟩
  · have h0 : x % 2 = 0 := by omega
    have ht : ((x : Int) / 2) = ((T x : Nat) : Int) := T_even h
    rw [h0] at ha
    have ha' : (bits .and .u32 (x : Int) 1 == 1) = false := by rw [ha]; rfl
    clear ha
    go_enter Tryz.func121, Tryz.ntmps121
    go_wp2_with fail
    go_ret
    exact ⟨rfl, rfl⟩

set_option maxRecDepth 20000 in
set_option maxHeartbeats 1000000 in
theorem over_any (x : Nat) (s : ByteArray) (w : World) (hx : x < 4294967296) (hs : s.size ≤ 9223372036854775807) :
    Calls Tryz.prog 89 #[.int .u32 (x : Int), .string s] w fun e w' => e = .returned (.int .u32 ((reg x s.data.toList : Nat) : Int)) ∧ w' = w := by
  have hb : (s.size : Int) ≤ 9223372036854775807 := by omega
  have HX := Lib.hid hx
  clear hx
  go_enter Tryz.func89, Tryz.ntmps89
  go_wp2_with fail
  go_loopw [0, 8] (fun y i wr => ∃ j : Nat, j ≤ s.size ∧ i = .int .i64 (j : Int) ∧ y = .int .u32 ((reg x (s.data.toList.take j) : Nat) : Int) ∧ wr = w) (fun _ i _ => s.size - (intOf i).toNat)
  case atStart => exact ⟨0, by omega, rfl, rfl, rfl⟩
  case round =>
    obtain ⟨j, hj, rfl, rfl, rfl⟩ := hrel
    by_cases hlt : j < s.size
    · have pj : (j : Int) < (s.size : Int) := by omega
      have hlen : j < s.data.toList.length := by rw [Array.length_toList]; exact hlt
      have hstep : reg x (s.data.toList.take (j + 1)) = Tn 8 (reg x (s.data.toList.take j) ^^^ (s[j]'hlt).toNat) := by
        rw [List.take_add_one, List.getElem?_eq_getElem hlen, reg_append, Array.getElem_toList]; rfl
      have hr := reg_lt HX.out (s.data.toList.take j)
      have HS := Lib.hid hstep
      have hb8 : (s[j]'hlt).toNat < 256 := (s[j]'hlt).toNat_lt
      generalize hbv : (s[j]'hlt).toNat = b at hb8
      have hix : ∀ W, (Instr.index 9 (.string s) (.int .i64 (j : Int))).run Tryz.prog W = .ok (.int .u8 (b : Int)) W := fun W => by
        rw [run_index_string W 9 s .i64 _ Tryz.underlying9, dif_pos (by omega)]
        simp only [Int.toNat_natCast, hbv]
      rw [hbv] at HS
      generalize reg x (s.data.toList.take j) = z0 at hr HS ⊢
      have hxx := u32_xor_nat z0 b hr (by omega)
      have hx2 : z0 ^^^ b < 4294967296 := Nat.xor_lt_two_pow (n := 32) hr (by omega)
      generalize hy : z0 ^^^ b = y at hxx hx2
      rw [hy] at HS
      have HX2 := Lib.hid hx2
      clear hstep hbv hy hlen hx2
      go_wp2_with fail
      obtain ⟨wo, rfl⟩ : ∃ wo : World, wo = wr := ⟨_, rfl⟩
      go_loopw [0, 17] (fun x i wr => ∃ k : Nat, k ≤ 8 ∧ i = .int .i64 (k : Int) ∧ x = .int .u32 ((Tn k y : Nat) : Int) ∧ wr = wo) (fun _ i _ => 8 - (intOf i).toNat)
      case atStart => exact ⟨0, by omega, rfl, rfl, rfl⟩
      case round =>
        obtain ⟨k, hk, rfl, rfl, rfl⟩ := hrel
        by_cases hk8 : k < 8
        · have pk : (k : Int) < 8 := by omega
          have hz := Tn_lt k HX2.out
          have hs2 := Tn_succ' k y
          generalize Tn k y = z at hz hs2 ⊢
          have HC := Lib.hid (fun W => step_any z W hz)
          rw [← hs2] at HC
          clear hs2 hz
          go_wp2_with fail
          refine (HC.out _).mono ?_
          rintro e w' ⟨rfl, rfl⟩
          go_wp2_with fail
          go_roundw
          case rel => exact ⟨k + 1, by omega, by go_num, rfl, trivial⟩
          case measure => simp [intOf]; omega
        · obtain rfl : k = 8 := by omega
          have HSo := HS.out
          go_wp2_with fail
          go_roundw
          case rel => exact ⟨j + 1, by omega, by go_num, by rw [HSo], trivial⟩
          case measure => simp [intOf]; omega
    · obtain rfl : j = s.size := by omega
      have hc : s.data.toList.take s.size = s.data.toList := List.take_of_length_le (by rw [Array.length_toList]; exact Nat.le_refl _)
      rw [hc]
      clear hc
      go_wp2_with fail
      go_ret
      exact ⟨rfl, rfl⟩

end Su
end Go.Proofs.YtjehjbkcdpidbaaGreat

/- trial -/
namespace Go.Proofs.YtjehjbkcdpidbaaGreat
namespace Su
open Go.RowKit Bk

attribute [local go_sem ↓] Go.wp_at_zero Go.wp_at_succ
attribute [local go_sem] floatUpon pick

set_option maxRecDepth 20000 in
set_option maxHeartbeats 1000000 in
theorem of_any (A : Option Addr) (c : Nat) (l : List ByteArray) (w : World) (h : StrsAt w A l) (hn : l.length ≤ 9223372036854775807) (hs : (catL l).length ≤ 9223372036854775807) :
    Calls Tryz.prog 48 #[.slice A l.length c] w fun e w' => e = .returned (.int .i64 ((crc (catL l) : Nat) : Int)) ∧ w' = w := by
  have HA := Lib.hid h
  clear h
  go_enter Tryz.func48, Tryz.ntmps48
  go_wp2_with fail
  go_loopw [3, 8] (fun x i wr => ∃ j : Nat, j ≤ l.length ∧ i = .int .i64 (j : Int) ∧ x = .int .u32 ((reg 4294967295 (catL (l.take j)) : Nat) : Int) ∧ wr = w) (fun _ i _ => l.length - (intOf i).toNat)
  case atStart => exact ⟨0, by omega, rfl, rfl, rfl⟩
  case round =>
    obtain ⟨j, hj, rfl, rfl, rfl⟩ := hrel
    have hr := reg_lt (x := 4294967295) (by omega) (catL (l.take j))
    by_cases hlt : j < l.length
    · have pj : (j : Int) < (l.length : Int) := by omega
      obtain ⟨ad, rfl, hab, hcl⟩ := HA.out (by omega)
      have x1 := hcl j hlt
      have hz := catL_le l (j + 1)
      have hz2 : l[j].data.toList.length = l[j].size := Array.length_toList
      have hct := catL_take l j hlt
      rw [hct, List.length_append, hz2] at hz
      have hst : reg 4294967295 (catL (l.take (j + 1))) = reg (reg 4294967295 (catL (l.take j))) l[j].data.toList := by rw [hct, reg_append]
      have HO := Lib.hid (fun W => over_any (reg 4294967295 (catL (l.take j))) l[j] W hr (by omega))
      rw [← hst] at HO
      clear hst hct hcl
      generalize reg 4294967295 (catL (l.take j)) = z at hr HO ⊢
      generalize l[j] = s at x1 HO hz hz2
      clear hz hz2
      go_wp2_with fail
      refine (HO.out _).mono ?_
      rintro e w' ⟨rfl, rfl⟩
      go_wp2_with fail
      go_roundw
      case rel => exact ⟨j + 1, by omega, by go_num, rfl, trivial⟩
      case measure => simp [intOf]; omega
    · obtain rfl : j = l.length := by omega
      rw [List.take_of_length_le (Nat.le_refl _)] at hr ⊢
      have hx := u32_xor_nat (reg 4294967295 (catL l)) 4294967295 hr (by omega)
      have hcl := crc_lt (catL l)
      have hc : reg 4294967295 (catL l) ^^^ 4294967295 = crc (catL l) := rfl
      rw [hc] at hx
      clear hc
      generalize reg 4294967295 (catL l) = x at hr hx ⊢
      obtain ⟨C, hC⟩ : ∃ C, C = crc (catL l) := ⟨_, rfl⟩
      rw [← hC] at hx hcl
      have hx' : bits .xor .u32 (x : Int) 4294967295 = (C : Int) := hx
      have HC := Lib.hid hC
      clear hx hC
      go_wp2_with fail
      go_ret
      exact ⟨by rw [← HC.out]; rfl, rfl⟩

/-- a row of bytes of which the first j stand, behind them 0 -/
theorem byte_set (L : List UInt8) (j : Nat) (h : j < L.length) : (Lib.byteCells L)[j]? = some (.int .u8 ((L[j].toNat : Nat) : Int)) := by
  unfold Lib.byteCells
  rw [List.getElem?_map, List.getElem?_eq_getElem h]; rfl

theorem le_at : ∀ (k n i : Nat), i < k → (le k n)[i]? = some (UInt8.ofNat (n / 256 ^ i % 256))
  | 0, _, _, h => absurd h (by omega)
  | k + 1, n, 0, _ => by simp [le]
  | k + 1, n, i + 1, h => by
    show (le k (n / 256))[i]? = _
    rw [le_at k (n / 256) i (by omega), Nat.div_div_eq_div_mul, Nat.pow_succ, Nat.mul_comm 256]

set_option maxRecDepth 20000 in
set_option maxHeartbeats 1000000 in
theorem low_any (n k : Nat) (w : World) (_hn : n ≤ 9223372036854775807) (h1 : 1 ≤ k) (hk : k ≤ 7) :
    Calls Tryz.prog 47 #[.int .i64 (k : Int), .int .i64 (n : Int)] w fun e w' => e = .returned (.string ⟨(le k n).toArray⟩) ∧ Below w.heap.size w w' := by
  obtain ⟨i0, hi, hz0, hz1, hz2⟩ := info_parts Tryz.infoU8
  have hV : (Lib.byteCells (le k n)).length = k := by rw [Lib.byteCells_length, le_length]
  go_enter Tryz.func47, Tryz.ntmps47
  go_wp2_with (at_make; refine wpList_make_full _ rfl (.tmp 7) (.tmp 7) 82 rfl w.heap.size 5 i0 (.int .u8 0) 1 Tryz.underlying82 hi hz0 hz1 .i64 .i64 _ _ k rfl rfl rfl rfl (by rw [hz2]; omega) (by unfold maxLen; omega) (by simp) ?_; intro w2 hown hgrow)
  have hown0 : w2.ownsRow w.heap.size 5 1 (.slice (some ⟨w.heap.size, 0, none⟩) k k) k (preV (Lib.byteCells (le k n)) (.int .u8 0) 0) := by
    rw [preV_zero (Lib.byteCells (le k n)) (.int .u8 0) k hV rfl] at hown; exact hown
  have hbel0 : Below w.heap.size w w2 := (Below.refl _ _).grown hgrow (Nat.le_refl _) (fun k hk => by cases hk)
  have HV := Lib.hid hV
  clear hown hgrow hV
  go_loopw [11] (fun i wr => ∃ j : Nat, j ≤ k ∧ i = .int .i64 (j : Int) ∧ Hid (wr.ownsRow w.heap.size 5 1 (.slice (some ⟨w.heap.size, 0, none⟩) k k) k (preV (Lib.byteCells (le k n)) (.int .u8 0) j)) ∧ Hid (Below w.heap.size w wr)) (fun i _ => k - (intOf i).toNat)
  case atStart => exact ⟨0, by omega, rfl, hown0, hbel0⟩
  case round =>
    obtain ⟨j, hj, rfl, hown, hbel⟩ := hrel
    clear hown0 hbel0
    by_cases hlt : j < k
    · have hat : (Lib.byteCells (le k n))[j]? = some (.int .u8 ((n / 256 ^ j % 256 : Nat) : Int)) := by
        have h := le_at k n j hlt
        obtain ⟨hl, he⟩ := List.getElem?_eq_some_iff.1 h
        rw [byte_set _ _ hl, he, UInt8.toNat_ofNat_of_lt' (by show n / 256 ^ j % 256 < 256; omega)]
      obtain ⟨v, hv⟩ := preV_at (Lib.byteCells (le k n)) (.int .u8 0) j j (by rw [HV.out]; omega) (by rw [HV.out]; omega)
      have hcell := (hown.out.cellAt j (by omega)).trans hv
      have hfro := hown.out.frozenAt j
      have R := hown.out.stored j (.int .u8 (((n / 256 ^ j % 256 : Nat) : Nat) : Int))
      rw [preV_set (Lib.byteCells (le k n)) (.int .u8 0) _ j (by rw [HV.out]; omega) hat] at R
      have HR := Lib.hid R.1
      have pj : (j : Int) < (k : Int) := by omega
      have hsh : (n : Int) / 2 ^ (8 * (j : Int)).toNat = ((n / 256 ^ j : Nat) : Int) := by
        rw [show (8 * (j : Int)).toNat = 8 * j by omega, pow256, Int.natCast_ediv, Int.natCast_pow]; rfl
      have hcv : IntKind.u8.wrap ((n / 256 ^ j : Nat) : Int) = ((n / 256 ^ j % 256 : Nat) : Int) := by
        simp [IntKind.wrap, IntKind.bits, IntKind.signed]
      generalize n / 256 ^ j % 256 = b at hcv HR hat
      generalize n / 256 ^ j = q at hsh hcv
      clear hv R hat
      go_wp2_with fail
      go_roundw
      case rel => exact ⟨j + 1, by omega, by go_num, HR.out, hbel.out.setCell (Nat.le_refl _) _⟩
      case measure => simp [intOf]; omega
    · obtain rfl : j = k := by omega
      have hown' := hown.out
      have e : preV (Lib.byteCells (le j n)) (.int .u8 0) j = Lib.byteCells (le j n) := by
        have h2 := preV_end (Lib.byteCells (le j n)) (.int .u8 0)
        rw [HV.out] at h2
        exact h2
      rw [e] at hown'
      have hcv := own_bytes hown' (le_length j n).symm 0 j j (by rw [le_length]; omega)
      rw [List.drop_zero, List.take_of_length_le (by rw [le_length]; exact Nat.le_refl _)] at hcv
      have HB := Lib.hid hbel.out
      clear hown' hown e hbel
      go_wp2_with fail
      go_ret
      exact ⟨rfl, HB.out⟩

theorem i64_or_nat (a b : Nat) (ha : a < 9223372036854775808) (hb : b < 9223372036854775808) : bits .or .i64 (a : Int) (b : Int) = ((a ||| b : Nat) : Int) := by
  have hx : a ||| b < 2 ^ 63 := Nat.or_lt_two_pow (by omega) (by omega)
  show IntKind.i64.wrap ((BitVec.ofInt 64 (a : Int) ||| BitVec.ofInt 64 (b : Int)).toNat : Int) = _
  rw [BitVec.toNat_or, ofInt_i64 a ha, ofInt_i64 b hb, i64_wrap (by omega) (by omega)]

theorem num_take (L : List UInt8) (j : Nat) (h : j < L.length) : num (L.take (j + 1)) = num (L.take j) + 256 ^ j * L[j].toNat := by
  rw [List.take_add_one, List.getElem?_eq_getElem h, num_append, List.length_take, Nat.min_eq_left (Nat.le_of_lt h)]
  simp [num]

set_option maxRecDepth 20000 in
set_option maxHeartbeats 1000000 in
theorem number_any (s : ByteArray) (w : World) (hk : s.size ≤ 7) :
    Calls Tryz.prog 94 #[.string s] w fun e w' => e = .returned (.int .i64 ((num s.data.toList : Nat) : Int)) ∧ w' = w := by
  have hb : (s.size : Int) ≤ 7 := by omega
  go_enter Tryz.func94, Tryz.ntmps94
  go_wp2_with fail
  go_loopw [3, 7] (fun x i wr => ∃ j : Nat, j ≤ s.size ∧ i = .int .i64 (j : Int) ∧ x = .int .i64 ((num (s.data.toList.take j) : Nat) : Int) ∧ wr = w) (fun _ i _ => s.size - (intOf i).toNat)
  case atStart => exact ⟨0, by omega, rfl, rfl, rfl⟩
  case round =>
    obtain ⟨j, hj, rfl, rfl, rfl⟩ := hrel
    by_cases hlt : j < s.size
    · have pj : (j : Int) < (s.size : Int) := by omega
      have hlen : j < s.data.toList.length := by rw [Array.length_toList]; exact hlt
      have hstep := num_take s.data.toList j hlen
      rw [Array.getElem_toList] at hstep
      have hl := num_lt (s.data.toList.take j)
      rw [List.length_take, Nat.min_eq_left (Nat.le_of_lt hlen)] at hl
      have hb8 : (s[j]'hlt).toNat < 256 := (s[j]'hlt).toNat_lt
      have hst2 : num (s.data.toList.take (j + 1)) = num (s.data.toList.take j) + 256 ^ j * (s[j]'hlt).toNat := hstep
      generalize hbv : (s[j]'hlt).toNat = b at hb8 hst2
      have hix : ∀ W, (Instr.index 9 (.string s) (.int .i64 (j : Int))).run Tryz.prog W = .ok (.int .u8 (b : Int)) W := fun W => by
        rw [run_index_string W 9 s .i64 _ Tryz.underlying9, dif_pos (by omega)]
        simp only [Int.toNat_natCast, hbv]
      have hp : 256 ^ j ≤ 256 ^ 6 := Nat.pow_le_pow_right (by omega) (by omega)
      have hm : 256 ^ j * b ≤ 256 ^ 6 * 255 := Nat.mul_le_mul hp (by omega)
      have hjn : num (s.data.toList.take j) ||| 256 ^ j * b = num (s.data.toList.take (j + 1)) := by
        rw [Nat.or_comm, nat_join (8 * j) (256 ^ j * b) _ (by rw [pow256]; exact Nat.mul_mod_right _ _) (by rw [← pow256]; exact hl), hst2]
        omega
      have hor := i64_or_nat (num (s.data.toList.take j)) (256 ^ j * b) (by omega) (by omega)
      rw [hjn] at hor
      have hshl : (b : Int) * 2 ^ (8 * (j : Int)).toNat = ((256 ^ j * b : Nat) : Int) := by
        rw [show (8 * (j : Int)).toNat = 8 * j by omega, Nat.mul_comm (256 ^ j), Int.natCast_mul, pow256, Int.natCast_pow]; rfl
      have hwr : IntKind.i64.wrap ((256 ^ j * b : Nat) : Int) = ((256 ^ j * b : Nat) : Int) := i64_wrap (by omega) (by omega)
      obtain ⟨y, hy⟩ : ∃ y, y = num (s.data.toList.take (j + 1)) := ⟨_, rfl⟩
      rw [← hy] at hor
      have HY := Lib.hid hy
      generalize num (s.data.toList.take j) = x at hor
      generalize 256 ^ j * b = m at hor hshl hwr
      clear hstep hst2 hl hbv hjn hp hm hlen hy
      go_wp2_with fail
      go_roundw
      case rel => exact ⟨j + 1, by omega, by go_num, by rw [HY.out], trivial⟩
      case measure => simp [intOf]; omega
    · obtain rfl : j = s.size := by omega
      have hc : s.data.toList.take s.size = s.data.toList := List.take_of_length_le (by rw [Array.length_toList]; exact Nat.le_refl _)
      rw [hc]
      clear hc
      go_wp2_with fail
      go_ret
      exact ⟨rfl, rfl⟩

end Su
end Go.Proofs.YtjehjbkcdpidbaaGreat

/- What the library's strings.Clone answers: the same bytes; no condition but the range (for layers 5 and on, asks Bk alone). -/
namespace Go.Proofs.YtjehjbkcdpidbaaGreat
namespace Bk
open Go.RowKit

set_option maxHeartbeats 4000000 in
set_option maxRecDepth 100000 in
theorem clone_in (s : ByteArray) (w : World) (hlim : s.size ≤ 281474976710656) :
    Calls Tryz.prog 87 #[.string s] w fun e w' => e = .returned (.string s) ∧ Below w.heap.size w w' := by
  by_cases h0 : s.size = 0
  · have hs : s = ⟨#[]⟩ := by
      apply ByteArray.ext
      exact Array.eq_empty_of_size_eq_zero h0
    subst hs
    go_enter Tryz.func87, Tryz.ntmps87
    go_wp2
    go_ret
    exact ⟨rfl, Below.refl _ _⟩
  · obtain ⟨i0, hi, hz0, hz1, hz2⟩ := info_parts Bk.Tryz.infoU8
    have hinfo : (Tryz.prog.info? 5).map (·.size) = some 1 := by rw [hi]; simp [hz1]
    have hco : Tryz.prog.cellsOf 5 = 1 := by simp [Program.cellsOf, hi, hz1]
    obtain ⟨M, hM⟩ : ∃ M, M = madeCells (Value.int .u8 0).cells (((s.size : Nat) : Int).toNat * i0.size) := ⟨_, rfl⟩
    have hMs : M.size = s.size := by rw [hM, size_madeCells, hz1]; simp
    have hmk : ∀ W : World, (Instr.makeSlice 82 (.int .i64 (s.size : Int)) (.int .i64 (s.size : Int))).run Tryz.prog W = .ok (.slice (some ⟨W.heap.size, 0, none⟩) s.size s.size) (W.alloc (.cells M 5)) := fun W => by
      have h := run_make (P := Tryz.prog) W 82 5 i0 (.int .u8 0) Tryz.underlying82 hi hz0 .i64 .i64 (s.size : Int) (s.size : Int) (by omega) (by omega) (by rw [hz2]; omega) (by omega)
      rw [← hM] at h
      simpa using h
    clear hM
    have hcp := Lib.run_copy_row_string (P := Tryz.prog) (w.alloc (.cells M 5)) 82 9 3 5 w.heap.size 0 s.size s.size s M 5 Tryz.underlying82 hinfo (heap_alloc_new w _) (Nat.le_refl _) (by omega)
    obtain ⟨Y, hY⟩ : ∃ Y, Y = (M.toList.take 0 ++ Lib.byteCells s.data.toList ++ M.toList.drop (0 + s.size)).toArray := ⟨_, rfl⟩
    rw [← hY] at hcp
    have hYl : Y.toList = Lib.byteCells s.data.toList := by
      rw [hY, List.toList_toArray, List.take_zero, List.nil_append, List.drop_of_length_le (by rw [Array.length_toList]; omega), List.append_nil]
    have hYs : Y.size = s.size := by rw [← Array.length_toList, hYl, Lib.byteCells_length, ← Lib.size_eq]
    have hgY : ((w.alloc (.cells M 5)).setRow w.heap.size Y).heap[w.heap.size]? = some (.cells Y 5 (0, 0)) := setRow_heap _ _ M _ 5 (0, 0) (heap_alloc_new w _)
    have hne : s.data.toList ≠ [] := fun e => h0 (by rw [Lib.size_eq, e]; rfl)
    have hUS := Lib.run_unsafeString_row (P := Tryz.prog) ((w.alloc (.cells M 5)).setRow w.heap.size Y) 161 3 9 5 Tryz.underlying161 hco w.heap.size Y.size (by unfold World.shape?; rw [hgY]) s.data.toList hne (by rw [← Lib.size_eq]; omega) (by rw [← Lib.size_eq]; omega)
      (fun j x hx => Lib.cells_of_row hgY Y.size j _ (by rw [List.take_of_length_le (by rw [Array.length_toList]; exact Nat.le_refl _), hYl]; simp [Lib.byteCells, hx]))
    rw [← Lib.size_eq] at hUS
    clear hY
    go_enter Tryz.func87, Tryz.ntmps87
    go_wp2
    go_ret
    have hb1 : Below w.heap.size w (w.alloc (.cells M 5)) := (Below.refl _ w).alloc (Nat.le_refl _) _
    have hb2 : Below w.heap.size (w.alloc (.cells M 5)) ((w.alloc (.cells M 5)).setRow w.heap.size Y) := ⟨rfl, rfl, rfl, by simp, fun k hk => setRow_other _ _ _ _ (by omega)⟩
    exact ⟨rfl, Lib.below_freeze (hb1.trans hb2) (p := ⟨w.heap.size, 0, none⟩) (Nat.le_refl _) _⟩

set_option maxHeartbeats 1000000 in
theorem clone_any (s : ByteArray) (w : World) (hlim : s.size ≤ 281474976710656) :
    Calls Tryz.prog 45 #[.string s] w fun e w' => e = .returned (.string s) ∧ Below w.heap.size w w' := by
  go_enter Tryz.func45, Tryz.ntmps45
  go_wp2_with fail
  refine (clone_in s _ hlim).mono ?_
  rintro e w' ⟨rfl, hb⟩
  go_wp2_with fail
  go_ret
  exact ⟨rfl, hb⟩

end Bk
end Go.Proofs.YtjehjbkcdpidbaaGreat

/- Frames in plain lists: found again, cut short, turned; sums of texts unlike in one byte. -/
namespace Go.Proofs.YtjehjbkcdpidbaaGreat
namespace Su
open Go.RowKit Bk

/-! ### what stands at the head of a frame -/

theorem take2_frame (t : List UInt8) (n : Nat) (h : 2 ≤ n) (r : List UInt8) : ((frameL t ++ r).take n).take 2 = le 2 t.length := by
  rw [List.take_take, Nat.min_eq_left h]
  unfold frameL
  rw [List.append_assoc, List.append_assoc, List.take_append_of_le_length (by rw [le_length]; omega), List.take_of_length_le (by rw [le_length]; omega)]

theorem num_frame (t : List UInt8) (ht : t.length ≤ 4096) : num (le 2 t.length) = t.length := num_le 2 _ (by show _ < 65536; omega)

theorem restR_cut (t : List UInt8) (ht : t.length ≤ 4096) (n : Nat) (hn : n < t.length + 6) : restR ((frameL t).take n) = .error 50 := by
  have hl : ((frameL t).take n).length = n := by rw [List.length_take, frameL_len]; omega
  unfold restR
  by_cases h : n < 2
  · rw [if_pos (by rw [hl]; exact h)]
  · have h2 := take2_frame t n (by omega) []
    rw [List.append_nil] at h2
    rw [if_neg (by rw [hl]; exact h), h2, num_frame t ht, if_neg (by omega), if_pos (by rw [hl]; exact hn)]

theorem restR_frame (t r : List UInt8) (ht : t.length ≤ 4096) : restR (frameL t ++ r) = .ok t := by
  have hl : (frameL t ++ r).length = t.length + 6 + r.length := by rw [List.length_append, frameL_len]
  have h2 := take2_frame t (frameL t ++ r).length (by omega) r
  rw [List.take_of_length_le (Nat.le_refl _)] at h2
  have h3 : (frameL t ++ r).take (t.length + 6) = frameL t := by
    rw [List.take_append_of_le_length (by rw [frameL_len]; omega), List.take_of_length_le (by rw [frameL_len]; omega)]
  have h4 : ((frameL t ++ r).drop 2).take t.length = t := by
    unfold frameL
    rw [List.append_assoc, List.append_assoc, List.drop_append_of_le_length (by rw [le_length]; omega), List.drop_eq_nil_of_le (by rw [le_length]; omega), List.nil_append, List.take_append_of_le_length (Nat.le_refl _), List.take_of_length_le (Nat.le_refl _)]
  unfold restR
  rw [if_neg (by omega), h2, num_frame t ht, if_neg (by omega), if_neg (by omega), h4, if_pos h3]

/-! ### many frames -/

/-- frames one behind the other -/
def framesL (l : List (List UInt8)) : List UInt8 := l.flatMap frameL

theorem framesL_cons (t : List UInt8) (l : List (List UInt8)) : framesL (t :: l) = frameL t ++ framesL l := rfl

theorem walkR_frames : ∀ (l : List (List UInt8)) (f a : Nat), (∀ t ∈ l, t.length ≤ 4096) → (framesL l).length ≤ f → walkR f (framesL l) a = (l.map (fun t => ⟨t.toArray⟩), a + (framesL l).length, 0)
  | [], f, a, _, _ => by
    show walkR f [] a = _
    rw [walkR_nil]; rfl
  | t :: l, f, a, hl, hf => by
    have ht := hl t (List.mem_cons_self ..)
    rw [framesL_cons, List.length_append, frameL_len] at hf
    obtain ⟨f, rfl⟩ : ∃ k, f = k + 1 := ⟨f - 1, by omega⟩
    have hr := restR_frame t (framesL l) ht
    rw [framesL_cons, walkR_ok (by intro h; have := congrArg List.length h; rw [List.length_append, frameL_len] at this; simp at this) hr]
    rw [List.drop_append_of_le_length (by rw [frameL_len]; omega), List.drop_eq_nil_of_le (by rw [frameL_len]; omega), List.nil_append, walkR_frames l f _ (fun x hx => hl x (List.mem_cons_of_mem _ hx)) (by omega), List.length_append, frameL_len]
    simp only [List.map_cons]
    congr 2
    omega

/-! ### a bit turned -/

theorem toNat_xor8 (a b : UInt8) : (a ^^^ b).toNat = a.toNat ^^^ b.toNat := rfl

theorem mul256_xor (a b : Nat) : 256 * (a ^^^ b) = (256 * a) ^^^ (256 * b) := by
  have h := Nat.shiftLeft_xor_distrib (a := a) (b := b) (i := 8)
  simp only [Nat.shiftLeft_eq] at h
  rw [Nat.mul_comm 256, Nat.mul_comm 256, Nat.mul_comm 256]
  exact h

theorem num_set_xor : ∀ (L : List UInt8) (j : Nat) (v : UInt8) (h : j < L.length), num (L.set j (L[j] ^^^ v)) = num L ^^^ (v.toNat * 256 ^ j)
  | b :: L, 0, v, _ => by
    show (b ^^^ v).toNat + 256 * num L = (b.toNat + 256 * num L) ^^^ (v.toNat * 1)
    rw [byte_add, byte_add, toNat_xor8, Nat.mul_one, Nat.xor_assoc, Nat.xor_assoc, Nat.xor_comm v.toNat]
  | b :: L, j + 1, v, h => by
    have hj : j < L.length := by simpa using h
    have ih := num_set_xor L j v hj
    show b.toNat + 256 * num (L.set j (L[j]'hj ^^^ v)) = (b.toNat + 256 * num L) ^^^ (v.toNat * 256 ^ (j + 1))
    rw [ih, byte_add, byte_add, mul256_xor, Nat.xor_assoc, Nat.pow_succ, show v.toNat * (256 ^ j * 256) = 256 * (v.toNat * 256 ^ j) by rw [← Nat.mul_assoc, Nat.mul_comm]]

theorem num_frameL (t : List UInt8) : num (le 4 (crc (le 2 t.length ++ t))) = crc (le 2 t.length ++ t) := num_le 4 _ (crc_lt _)

/-- a frame with bits turned behind its length, all within 32: refused -/
theorem restR_turned {t F : List UInt8} {q first : Nat} (ht : t.length ≤ 4096) (hl : F.length = t.length + 6) (h2 : F.take 2 = (frameL t).take 2) (hq : q < 4294967296) (hx : num (frameL t) ^^^ num F = q * 2 ^ first) (hne : F ≠ frameL t) : restR F = .error 51 := by
  have e2 := take2_frame t (frameL t ++ []).length (by rw [List.append_nil, frameL_len]; omega) []
  rw [List.take_of_length_le (Nat.le_refl _), List.append_nil] at e2
  unfold restR
  rw [if_neg (by omega), h2, e2, num_frame t ht, if_neg (by omega), if_neg (by omega)]
  rw [List.take_of_length_le (by omega)]
  split
  · next h =>
    exfalso
    have hl2 : ((F.drop 2).take t.length).length = t.length := by rw [List.length_take, List.length_drop]; omega
    generalize (F.drop 2).take t.length = t' at h hl2
    subst h
    refine hne ?_
    have hq0 : q = 0 := by
      refine turned_seen (A := le 2 t.length ++ t) (B := le 4 (crc (le 2 t.length ++ t))) (A' := le 2 t'.length ++ t') (B' := le 4 (crc (le 2 t'.length ++ t'))) (first := first) ?_ (num_frameL t) (num_frameL t') hq hx
      rw [List.length_append, List.length_append, le_length, le_length, hl2]
    rw [hq0, Nat.zero_mul] at hx
    have hE : num (frameL t) = num (frameL t') := by
      have h3 := congrArg (num (frameL t) ^^^ ·) hx
      simp only [← Nat.xor_assoc, Nat.xor_self, Nat.zero_xor, Nat.xor_zero] at h3
      exact h3.symm
    exact (num_inj (by rw [frameL_len, frameL_len, hl2]) hE).symm
  · rfl

/-- texts of one length, unlike in one byte: unlike sums -/
theorem crc_set (A : List UInt8) (j : Nat) (v : UInt8) (h : j < A.length) (hv : v ≠ 0) : crc (A.set j (A[j] ^^^ v)) ≠ crc A := by
  intro he
  have hv0 : v.toNat ≠ 0 := fun h0 => hv (UInt8.toNat.inj h0)
  have hx : num (A ++ le 4 (crc A)) ^^^ num (A.set j (A[j] ^^^ v) ++ le 4 (crc A)) = v.toNat * 2 ^ (8 * j) := by
    rw [← List.set_append_left _ _ h, show A[j] = (A ++ le 4 (crc A))[j]'(by rw [List.length_append]; omega) from (List.getElem_append_left ..).symm, num_set_xor, ← Nat.xor_assoc, Nat.xor_self, Nat.zero_xor, pow256]
  have := v.toNat_lt
  exact hv0 (turned_seen (q := v.toNat) (first := 8 * j) (by rw [List.length_set]) (num_le 4 _ (crc_lt A)) (by rw [he]; exact num_le 4 _ (crc_lt A)) (by omega) hx)

end Su
end Go.Proofs.YtjehjbkcdpidbaaGreat

/- What is asked of the landed package, and the laws that hold over it: the example, Pieces, Next, All, Cut. -/
namespace Go.Proofs.YtjehjbkcdpidbaaGreat
namespace Su
open Go.RowKit Bk

attribute [local go_sem ↓] Go.wp_at_zero Go.wp_at_succ
attribute [local go_sem] floatUpon pick

/-- what is asked of sum.Of -/
def OfAll : Prop := ∀ (A : Option Addr) (c : Nat) (l : List ByteArray) (w : World), StrsAt w A l → l.length ≤ c → l.length ≤ 9223372036854775807 → (catL l).length ≤ 9223372036854775807 →
  Calls Tryz.prog 48 #[.slice A l.length c] w fun e w' => e = .returned (.int .i64 ((crc (catL l) : Nat) : Int)) ∧ Below w.heap.size w w'

/-- what is asked of sum.Frame -/
def FrameAll : Prop := ∀ (s : ByteArray) (w : World), s.size ≤ 140737488351232 → Calls Tryz.prog 16 #[.string s] w fun e w' => e = .returned (frameV s) ∧ Below w.heap.size w w'

/-- what is asked of sum.Next -/
def NextAll : Prop := ∀ (s : ByteArray) (i : Int) (w : World), s.size ≤ 1000000000000000 → -9223372036854775808 ≤ i ∧ i ≤ 9223372036854775807 → Calls Tryz.prog 54 #[.string s, .int .i64 i] w fun e w' => e = .returned (nextV s i) ∧ Below w.heap.size w w'

/-- what is asked of sum.All -/
def AllAll : Prop := ∀ (s : ByteArray) (w : World), s.size ≤ 50000000000000 → Calls Tryz.prog 20 #[.string s] w (AllAns s w)

theorem nine : crc [49, 50, 51, 52, 53, 54, 55, 56, 57] = 3421780262 := by decide +kernel

theorem none0 : crc [] = 0 := by decide +kernel

theorem nextV_form (s : ByteArray) (i : Int) : ∃ (t : ByteArray) (n e : Int), nextV s i = .tuple #[.string t, .int .i64 n, .int .i64 e] := by
  unfold nextV
  split
  · exact ⟨_, _, _, rfl⟩
  · cases restR (s.data.toList.drop i.toNat) with
    | error e => exact ⟨_, _, _, rfl⟩
    | ok t => exact ⟨_, _, _, rfl⟩

theorem frameV_form (s : ByteArray) : ∃ (t : ByteArray) (e : Int), frameV s = .tuple #[.string t, .int .i64 e] := by
  unfold frameV
  split
  · exact ⟨_, _, rfl⟩
  · exact ⟨_, _, rfl⟩

theorem walkR_len : ∀ (f : Nat) (r : List UInt8) (a : Nat), (walkR f r a).1.length * 6 ≤ r.length
  | 0, r, a => by simp [walkR]
  | f + 1, r, a => by
    by_cases hr : r = []
    · subst hr; rw [walkR_nil]; simp
    · cases h : restR r with
      | error e => rw [walkR_err hr h]; simp
      | ok t =>
        have h2 := (restR_ok h).2.1
        have ih := walkR_len f (r.drop (t.length + 6)) (a + t.length + 6)
        rw [List.length_drop] at ih
        rw [walkR_ok hr h, List.length_cons]
        omega

theorem allR_len (s : ByteArray) : (allR s).1.length * 6 ≤ s.size := by
  have := walkR_len s.size s.data.toList 0
  rwa [list_size] at this

theorem lent_capS {w : World} {H g cap : Nat} {l : List ByteArray} (h : w.ownsRow H 9 1 (.slice (some ⟨g, 0, none⟩) (l.length + 1) cap) (l.length + 1) (strV l ++ [.string markS])) : l.length ≤ cap := by
  rcases h.2 with ⟨h1, h2⟩ | ⟨g', cap', cur, h1, _, _, h3, _⟩
  · simp at h1
  · simp only [Value.slice.injEq] at h1; omega

end Su
end Go.Proofs.YtjehjbkcdpidbaaGreat

/- What the landed package's Frame and Next do; no condition but the range. -/
namespace Go.Proofs.YtjehjbkcdpidbaaGreat
namespace Su
open Go.RowKit Bk

attribute [local go_sem ↓] Go.wp_at_zero Go.wp_at_succ
attribute [local go_sem] floatUpon pick

theorem le_num : ∀ (L : List UInt8), le L.length (num L) = L
  | [] => rfl
  | b :: L => by
    have hb : b.toNat < 256 := b.toNat_lt
    show UInt8.ofNat ((b.toNat + 256 * num L) % 256) :: le L.length ((b.toNat + 256 * num L) / 256) = b :: L
    rw [show (b.toNat + 256 * num L) % 256 = b.toNat by omega, show (b.toNat + 256 * num L) / 256 = num L by omega, le_num L, UInt8.ofNat_toNat]

/-- a frame that fits is one just if its last four bytes are the sum of those ahead of them -/
theorem frame_iff (R : List UInt8) (n : Nat) (hn : num (R.take 2) = n) (h : n + 6 ≤ R.length) :
    R.take (n + 6) = frameL ((R.drop 2).take n) ↔ num ((R.drop (2 + n)).take 4) = crc (R.take (2 + n)) := by
  have h2 : le 2 n = R.take 2 := by
    have := le_num (R.take 2)
    rw [List.length_take, Nat.min_eq_left (by omega), hn] at this
    exact this
  have h3 : ((R.drop 2).take n).length = n := by rw [List.length_take, List.length_drop]; omega
  have h4 : R.take 2 ++ (R.drop 2).take n = R.take (2 + n) := by rw [List.take_add]
  have h5 : R.take (n + 6) = R.take (2 + n) ++ (R.drop (2 + n)).take 4 := by rw [show n + 6 = (2 + n) + 4 by omega, List.take_add]
  have h6 : ((R.drop (2 + n)).take 4).length = 4 := by rw [List.length_take, List.length_drop]; omega
  have h7 := le_num ((R.drop (2 + n)).take 4)
  rw [h6] at h7
  unfold frameL
  rw [h3, h2, h4, h5]
  constructor
  · intro e
    have e2 := List.append_cancel_left e
    rw [e2, num_le 4 _ (crc_lt _)]
  · intro e
    rw [← h7, e]

set_option maxRecDepth 20000 in
set_option maxHeartbeats 1000000 in
theorem next_any (s : ByteArray) (i : Int) (w : World) (hs : s.size ≤ 1000000000000000) (hi : -9223372036854775808 ≤ i ∧ i ≤ 9223372036854775807) :
    Calls Tryz.prog 54 #[.string s, .int .i64 i] w fun e w' => e = .returned (nextV s i) ∧ Below w.heap.size w w' := by
  have hB : (s.size : Int) ≤ 1000000000000000 := by omega
  by_cases hbad : i < 0 ∨ (s.size : Int) < i
  · have E := Lib.hid (nextV_bad hbad)
    rcases hbad with h | h
    · go_enter Tryz.func54, Tryz.ntmps54
      go_wp2_with fail
      go_ret3
      exact ⟨by rw [E.out]; rfl, Below.refl _ _⟩
    · have h0 : 0 ≤ i := by omega
      go_enter Tryz.func54, Tryz.ntmps54
      go_wp2_with fail
      go_ret3
      exact ⟨by rw [E.out]; rfl, Below.refl _ _⟩
  · obtain ⟨a, rfl⟩ : ∃ a : Nat, i = (a : Int) := ⟨i.toNat, by omega⟩
    have ha : a ≤ s.size := by omega
    have E := Lib.hid (nextV_at ha)
    have hfrom := fun W => str_from s a ha (a : Int) rfl W
    obtain ⟨R, hR⟩ : ∃ R, R = s.data.toList.drop a := ⟨_, rfl⟩
    have hRl : R.length = s.size - a := by rw [hR, List.length_drop, list_size]
    rw [← hR] at hfrom E
    have z : (⟨R.toArray⟩ : ByteArray).size = R.length := cat_size R
    have hSl : (⟨R.toArray⟩ : ByteArray).data.toList = R := rfl
    clear hR hbad
    generalize (⟨R.toArray⟩ : ByteArray) = S at hfrom z hSl
    have pa : (a : Int) ≤ (s.size : Int) := by omega
    by_cases h2 : R.length < 2
    · have E2 := Lib.hid (show restR R = .error 50 by unfold restR; rw [if_pos h2])
      have q : (S.size : Int) < 2 := by omega
      clear z hSl h2
      go_enter Tryz.func54, Tryz.ntmps54
      go_wp2_with fail
      go_ret3
      exact ⟨by rw [E.out, E2.out]; rfl, Below.refl _ _⟩
    · obtain ⟨n, hn⟩ : ∃ n, n = num (R.take 2) := ⟨_, rfl⟩
      have hn256 : n < 65536 := by
        have := num_lt (R.take 2)
        rw [List.length_take, Nat.min_eq_left (by omega), ← hn] at this
        exact this
      have h2f := fun W => str_to S 2 (by omega) 2 rfl W
      rw [hSl] at h2f
      have hN1 := fun W => number_any ⟨(R.take 2).toArray⟩ W (by rw [cat_size, List.length_take]; omega)
      have hN1' : ∀ W, Calls Tryz.prog 94 #[.string ⟨(R.take 2).toArray⟩] W fun e w' => e = .returned (.int .i64 ((n : Nat) : Int)) ∧ w' = W := by
        rw [hn]; exact hN1
      have HN1 := Lib.hid hN1'
      have q2 : (2 : Int) ≤ (S.size : Int) := by omega
      clear hN1 hN1' hn256
      generalize (⟨(R.take 2).toArray⟩ : ByteArray) = S2 at h2f HN1
      by_cases hlong : 4096 < n
      · have E2 := Lib.hid (show restR R = .error 2 by unfold restR; rw [if_neg h2, ← hn, if_pos hlong])
        have pl : (4096 : Int) < (n : Int) := by omega
        clear h2 z hRl hSl hn
        go_enter Tryz.func54, Tryz.ntmps54
        go_wp2_with fail
        refine (HN1.out _).mono ?_
        rintro e w' ⟨rfl, rfl⟩
        go_wp2_with fail
        go_ret3
        exact ⟨by rw [E.out, E2.out]; rfl, Below.refl _ _⟩
      · have pl : (n : Int) ≤ 4096 := by omega
        by_cases hshort : R.length < n + 6
        · have E2 := Lib.hid (show restR R = .error 50 by unfold restR; rw [if_neg h2, ← hn, if_neg hlong, if_pos hshort])
          have q3 : (S.size : Int) < (n : Int) + 6 := by omega
          clear h2 z hRl hSl hn hshort
          go_enter Tryz.func54, Tryz.ntmps54
          go_wp2_with fail
          refine (HN1.out _).mono ?_
          rintro e w' ⟨rfl, rfl⟩
          go_wp2_with fail
          go_ret3
          exact ⟨by rw [E.out, E2.out]; rfl, Below.refl _ _⟩
        · have q3 : (n : Int) + 6 ≤ (S.size : Int) := by omega
          have hiff := frame_iff R n hn.symm (by omega)
          have hmid := fun W => str_mid S 2 (2 + n) (by omega) (by omega) 2 (2 + (n : Int)) rfl (by omega) W
          have hend := fun W => str_mid S (2 + n) (2 + n + 4) (by omega) (by omega) (2 + (n : Int)) (2 + (n : Int) + 4) (by omega) (by omega) W
          have hto := fun W => str_to S (2 + n) (by omega) (2 + (n : Int)) (by omega) W
          rw [hSl, show 2 + n - 2 = n by omega] at hmid
          rw [hSl, show 2 + n + 4 - (2 + n) = 4 by omega] at hend
          rw [hSl] at hto
          obtain ⟨t, ht⟩ : ∃ t, t = (R.drop 2).take n := ⟨_, rfl⟩
          rw [← ht] at hmid
          have htl : t.length = n := by rw [ht, List.length_take, List.length_drop]; omega
          have hN4 := fun W => number_any ⟨((R.drop (2 + n)).take 4).toArray⟩ W (by rw [cat_size, List.length_take]; omega)
          obtain ⟨X, hX⟩ : ∃ X, X = num ((R.drop (2 + n)).take 4) := ⟨_, rfl⟩
          obtain ⟨C, hC⟩ : ∃ C, C = crc (R.take (2 + n)) := ⟨_, rfl⟩
          have hN4' : ∀ W, Calls Tryz.prog 94 #[.string ⟨((R.drop (2 + n)).take 4).toArray⟩] W fun e w' => e = .returned (.int .i64 ((X : Nat) : Int)) ∧ w' = W := by
            rw [hX]; exact hN4
          have HN4 := Lib.hid hN4'
          have hO : ∀ (p : Nat) (W : World), W.heap[p]? = some (.cells #[.string ⟨(R.take (2 + n)).toArray⟩] 9 (0, 0)) → Calls Tryz.prog 48 #[.slice (some ⟨p, 0, none⟩) 1 1] W fun e w' => e = .returned (.int .i64 ((C : Nat) : Int)) ∧ w' = W := fun p W hp => by
            have hcat : catL [⟨(R.take (2 + n)).toArray⟩] = R.take (2 + n) := by simp [catL]
            have h := of_any (some ⟨p, 0, none⟩) 1 [⟨(R.take (2 + n)).toArray⟩] W (StrsAt.blk hp) (by simp) (by rw [hcat, List.length_take]; omega)
            rw [hcat, ← hC] at h
            exact h
          have HO := Lib.hid hO
          rw [← hX, ← hC, ← ht] at hiff
          have htz : (⟨t.toArray⟩ : ByteArray).size ≤ 281474976710656 := by rw [cat_size, htl]; omega
          have HCl := Lib.hid (fun W => clone_any ⟨t.toArray⟩ W htz)
          clear hN4 hN4' hO htz
          generalize (⟨(R.take (2 + n)).toArray⟩ : ByteArray) = S3 at hto HO
          generalize (⟨((R.drop (2 + n)).take 4).toArray⟩ : ByteArray) = S4 at hend HN4
          have E2 : Hid (restR R = if X = C then .ok t else .error 51) := Lib.hid (by
            unfold restR; rw [if_neg h2, ← hn, if_neg hlong, if_neg hshort, ← ht]
            by_cases hx : X = C
            · rw [if_pos hx, if_pos (hiff.2 hx)]
            · rw [if_neg hx, if_neg (fun h => hx (hiff.1 h))])
          have HT := Lib.hid htl
          clear h2 z hRl hSl hn hshort hX hC hiff htl ht
          go_enter Tryz.func54, Tryz.ntmps54
          go_wp2_with fail
          refine (HN1.out _).mono ?_
          rintro e w' ⟨rfl, rfl⟩
          have hadd2 : IntKind.i64.wrap (2 + (n : Int)) = 2 + (n : Int) := i64_wrap (by omega) (by omega)
          have hadd6 : IntKind.i64.wrap (2 + (n : Int) + 4) = 2 + (n : Int) + 4 := i64_wrap (by omega) (by omega)
          go_wp2_with fail
          refine wp_region_said 12 [36, 37, 38, 39, 40, 41, 42, 43, 44, 45, 46, 47]
            [.is (.string S), .is (.int .i64 (2 + (n : Int))), .is (.int .i64 (2 + (n : Int))), .is (.int .i64 (2 + (n : Int) + 4)), .is (.string S4), .is (.int .i64 (X : Int)), .is (.string S), .is (.int .i64 (2 + (n : Int))), .is (.string S3), .arr 9 #[.string S3] 1 1, .is (.int .i64 (C : Int)), .is (.bool ((X : Int) != (C : Int)))]
            (fun _ => True) (by kernel_rfl) (by kernel_rfl) (by kernel_rfl) (by kernel_rfl) (by kernel_rfl) (fun _ _ _ _ => trivial) trivial ?steps ?last
          case steps =>
            simp only [List.take_succ_cons, List.take_zero]
            refine ⟨?_, ?_, ?_, ?_, ?_, ?_, ?_, ?_, ?_, ?_, ?_, ?_, trivial⟩
            all_goals
              intro vs W ρ hρ hc hf hg hI hH hd R' hR
              have HR := Lib.hid hR
              simp [depsOf, Region.binds, sayAt, Say.holds] at hd
              clear hR
            case refine_10 =>
              go_simp
              exact HR.out _ _ ⟨W.heap.size, hH, by simp, rfl, heap_alloc_new W _⟩ ((Below.refl _ _).alloc (Nat.le_refl _) _) (fun h => by cases h)
            case refine_11 =>
              obtain ⟨⟨p, hp1, hp2, hp3, hp4⟩, h5⟩ := hd
              go_simp
              refine (HO.out p _ hp4).mono ?_
              rintro e w' ⟨rfl, rfl⟩
              exact ⟨_, rfl, HR.out _ _ (by simp [sayAt, Say.holds]) (Below.refl _ _) (by simp [sayAt, Say.isBlk])⟩
            case refine_6 =>
              go_simp
              refine (HN4.out _).mono ?_
              rintro e w' ⟨rfl, rfl⟩
              exact ⟨_, rfl, HR.out _ _ (by simp [sayAt, Say.holds]) (Below.refl _ _) (by simp [sayAt, Say.isBlk])⟩
            all_goals
              go_simp
              first
                | exact HR.out _ _ (by simp [sayAt, Say.holds]) (Below.refl _ _) (by simp [sayAt, Say.isBlk])
                | trace_state
          case last =>
            intro vs W hI hb hg hd
            have g := hg 11 (by omega)
            simp only [sayAt, Say.holds, List.getD_cons_succ, List.getD_cons_zero] at g
            simp only [List.take_succ_cons, List.take_zero, List.drop_succ_cons, List.drop_zero, putAll, Act.put, List.setIfInBounds_toArray, List.set_cons_succ, List.set_cons_zero, Nat.zero_add, Nat.reduceAdd]
            rw [g]
            have HB := Lib.hid hb
            clear g hg hd hb hI
            by_cases hx : X = C
            · have hne : ((X : Int) != (C : Int)) = false := by simp [hx]
              have E3 := E2.out
              rw [if_pos hx] at E3
              have E4 := Lib.hid E3
              clear E2 E3 hx
              have hs1 : IntKind.i64.wrap ((a : Int) + (2 + (n : Int))) = (a : Int) + (2 + (n : Int)) := i64_wrap (by omega) (by omega)
              have hs2 : IntKind.i64.wrap ((a : Int) + (2 + (n : Int)) + 4) = (a : Int) + (2 + (n : Int)) + 4 := i64_wrap (by omega) (by omega)
              generalize hT : (⟨t.toArray⟩ : ByteArray) = T at hmid HCl
              have HTT := Lib.hid hT
              clear hT
              go_wp2_with fail
              refine (HCl.out _).mono ?_
              rintro e w1 ⟨rfl, hb1⟩
              have HB1 := Lib.hid (HB.out.trans (hb1.mono HB.out.size))
              clear hb1 HB
              go_wp2_with fail
              go_ret3
              exact ⟨by rw [E.out, E4.out]; show _ = Ending.returned (Value.tuple #[.string ⟨t.toArray⟩, .int .i64 ((a + t.length + 6 : Nat) : Int), .int .i64 0]); rw [HTT.out, HT.out, show ((a + n + 6 : Nat) : Int) = (a : Int) + (2 + (n : Int)) + 4 by omega]; rfl, HB1.out⟩
            · have hne : ((X : Int) != (C : Int)) = true := by simp; omega
              have E3 := E2.out
              rw [if_neg hx] at E3
              have E4 := Lib.hid E3
              clear E2 E3 hx
              go_wp2_with fail
              go_ret3
              exact ⟨by rw [E.out, E4.out]; rfl, HB.out⟩

set_option maxRecDepth 20000 in
set_option maxHeartbeats 1000000 in
theorem frame_any (s : ByteArray) (w : World) (hs : s.size ≤ 140737488351232) :
    Calls Tryz.prog 16 #[.string s] w fun e w' => e = .returned (frameV s) ∧ Below w.heap.size w w' := by
  by_cases h : 4096 < s.size
  · have E := Lib.hid (show frameV s = .tuple #[.string ⟨#[]⟩, .int .i64 2] by unfold frameV; rw [if_pos h])
    have h' : (4096 : Int) < (s.size : Int) := by omega
    clear h
    go_enter Tryz.func16, Tryz.ntmps16
    go_wp2_with fail
    go_ret2
    exact ⟨by rw [E.out]; rfl, Below.refl _ _⟩
  · have E := Lib.hid (show frameV s = .tuple #[.string (frameB s), .int .i64 0] by unfold frameV; rw [if_neg h])
    have h' : (s.size : Int) ≤ 4096 := by omega
    have H1 := Lib.hid (fun W => low_any s.size 2 W (by omega) (by omega) (by omega))
    obtain ⟨L1, hL1⟩ : ∃ L1, L1 = le 2 s.size ++ s.data.toList := ⟨_, rfl⟩
    have hz : L1.length = s.size + 2 := by rw [hL1, List.length_append, le_length, list_size]; omega
    have hF : frameB s = ⟨(L1 ++ le 4 (crc L1)).toArray⟩ := by unfold frameB frameL; rw [list_size, ← hL1]
    have H2 := Lib.hid (fun W => low_any (crc L1) 4 W (by have := crc_lt L1; omega) (by omega) (by omega))
    have hO : ∀ (p : Nat) (W : World), W.heap[p]? = some (.cells #[.string ⟨(le 2 s.size).toArray⟩, .string s] 9 (0, 0)) → Calls Tryz.prog 48 #[.slice (some ⟨p, 0, none⟩) 2 2] W fun e w' => e = .returned (.int .i64 ((crc L1 : Nat) : Int)) ∧ w' = W := fun p W hp => by
      have hcat : catL [⟨(le 2 s.size).toArray⟩, s] = L1 := by rw [hL1]; simp [catL]
      have h := of_any (some ⟨p, 0, none⟩) 2 [⟨(le 2 s.size).toArray⟩, s] W (StrsAt.blk hp) (by simp) (by rw [hcat, hz]; omega)
      rw [hcat] at h
      exact h
    have HO := Lib.hid hO
    have e1 : (⟨(le 2 s.size).toArray⟩ : ByteArray) ++ s = ⟨L1.toArray⟩ := by rw [hL1, ← ByteArray.mk_append_mk]
    have z1 : (⟨(le 2 s.size).toArray⟩ : ByteArray).size = 2 := by rw [cat_size, le_length]
    have hadd := fun W => run_string_add_sum (P := Tryz.prog) W ⟨(le 2 s.size).toArray⟩ s (by rw [z1]; omega)
    rw [e1] at hadd
    have e2 : (⟨L1.toArray⟩ : ByteArray) ++ ⟨(le 4 (crc L1)).toArray⟩ = frameB s := by rw [hF, ← ByteArray.mk_append_mk]
    have z2 : (⟨(le 4 (crc L1)).toArray⟩ : ByteArray).size = 4 := by rw [cat_size, le_length]
    have z3 : (⟨L1.toArray⟩ : ByteArray).size = s.size + 2 := by rw [cat_size, hz]
    have hadd2 := fun W => run_string_add_sum (P := Tryz.prog) W ⟨L1.toArray⟩ ⟨(le 4 (crc L1)).toArray⟩ (by rw [z2, z3]; omega)
    rw [e2] at hadd2
    have hC := crc_lt L1
    clear hO e1 z1 e2 z2 z3 h hF hz hL1
    generalize (⟨(le 2 s.size).toArray⟩ : ByteArray) = B1 at H1 HO hadd
    generalize (⟨(le 4 (crc L1)).toArray⟩ : ByteArray) = B2 at H2 hadd2
    generalize (⟨L1.toArray⟩ : ByteArray) = S1 at hadd hadd2
    generalize crc L1 = C at H2 HO hC
    go_enter Tryz.func16, Tryz.ntmps16
    go_wp2_with fail
    refine (H1.out _).mono ?_
    rintro e w1 ⟨rfl, hb⟩
    have W1 := Lib.hid hb
    clear hb
    go_wp2_with fail
    refine (HO.out _ _ (heap_alloc_new _ _)).mono ?_
    rintro e w2 ⟨rfl, rfl⟩
    have W2 := Lib.hid (W1.out.alloc (o := .cells #[.string B1, .string s] 9) W1.out.size)
    clear W1
    go_wp2_with fail
    refine (H2.out _).mono ?_
    rintro e w3 ⟨rfl, hb⟩
    have W3 := Lib.hid (W2.out.trans (hb.mono W2.out.size))
    clear hb W2
    go_wp2_with fail
    go_ret2
    exact ⟨by rw [E.out]; rfl, W3.out⟩

end Su
end Go.Proofs.YtjehjbkcdpidbaaGreat

/- What the landed package's All does; the four contracts that the laws stand on. -/
namespace Go.Proofs.YtjehjbkcdpidbaaGreat
namespace Su
open Go.RowKit Bk

attribute [local go_sem ↓] Go.wp_at_zero Go.wp_at_succ
attribute [local go_sem] floatUpon pick

set_option maxRecDepth 20000 in
set_option maxHeartbeats 2000000 in
theorem all_any (s : ByteArray) (w : World) (hs : s.size ≤ 50000000000000) :
    Calls Tryz.prog 20 #[.string s] w (AllAns s w) := by
  obtain ⟨i0, hi, hz0, hz1, hz2⟩ := info_parts Tryz.infoStr
  have hB : (s.size : Int) ≤ 50000000000000 := by omega
  go_enter Tryz.func20, Tryz.ntmps20
  go_wp2_with fail
  go_loopw [2, 3] (fun out i wr => ∃ (a : Nat) (O : List ByteArray), a ≤ s.size ∧ O.length * 6 ≤ a ∧ i = .int .i64 (a : Int) ∧ wr.ownsRow w.heap.size 9 1 out O.length (strV O) ∧ Upto s O a ∧ Below w.heap.size w wr) (fun _ i _ => s.size - (intOf i).toNat)
  case atStart => exact ⟨0, [], by omega, by simp, rfl, ⟨rfl, .inl ⟨rfl, rfl⟩⟩, Upto.start s, Below.refl _ _⟩
  case round =>
    obtain ⟨a, O, ha, hO, rfl, hown, hup, hbel⟩ := hrel
    by_cases hlt : a < s.size
    · have pa : (a : Int) < (s.size : Int) := by omega
      have HN := Lib.hid (next_any s (a : Int) wr (by omega) ⟨by omega, by omega⟩)
      have hv := nextV_at (s := s) (a := a) (by omega)
      cases hr : restR (s.data.toList.drop a) with
      | error e =>
        have he := restR_err hr
        have hall := hup.err hlt hr
        rw [hr] at hv
        have hv2 : nextV s (a : Int) = .tuple #[.string ⟨#[]⟩, .int .i64 0, .int .i64 (e : Int)] := hv
        have hne : (((e : Nat) : Int) != 0) = true := by simp; omega
        rw [hv2] at HN
        have HA := Lib.hid hall
        have HU := Lib.hid hown
        have HBl := Lib.hid hbel
        clear hr hup hv hv2 hall hown hbel he
        go_wp2_with fail
        refine HN.out.mono ?_
        rintro e w1 ⟨rfl, hb⟩
        have HU1 := Lib.hid (st_keep HU.out hb)
        have HB1 := Lib.hid (HBl.out.trans (hb.mono HBl.out.size))
        clear hb HU HBl HN
        go_wp2_with fail
        go_ret3
        obtain ⟨A, c, hvv, hst⟩ := strs_of_own HU1.out rfl
        exact ⟨A, c, by rw [HA.out, hvv]; rfl, by rw [HA.out]; exact hst, HB1.out⟩
      | ok t =>
        obtain ⟨hk1, hk2, -⟩ := restR_ok hr
        have hup2 := hup.more hlt hr
        have hle : a + t.length + 6 ≤ s.size := by rw [List.length_drop, list_size] at hk2; omega
        rw [hr] at hv
        have hv2 : nextV s (a : Int) = .tuple #[.string ⟨t.toArray⟩, .int .i64 ((a + t.length + 6 : Nat) : Int), .int .i64 0] := hv
        rw [hv2] at HN
        have HP := Lib.hid hup2
        have HU := Lib.hid hown
        have HBl := Lib.hid hbel
        have hsn := strV_snoc O ⟨t.toArray⟩
        generalize hT : (⟨t.toArray⟩ : ByteArray) = T at HN HP hsn
        have HSn := Lib.hid hsn
        generalize hnx : a + t.length + 6 = nx at HN HP hle
        have hnx2 : a + 6 ≤ nx := by omega
        have hOl : (strV O).length = O.length := strV_len O
        clear hr hup hv hv2 hup2 hown hbel hk1 hk2 hT hnx hsn
        go_wp2_with fail
        refine HN.out.mono ?_
        rintro e w1 ⟨rfl, hb⟩
        have HU1 := Lib.hid (st_keep HU.out hb)
        have HB1 := Lib.hid (HBl.out.trans (hb.mono HBl.out.size))
        clear hb HU HBl HN
        go_wp2_with (at_builtin; refine wpList_append_own _ rfl _ _ 37 rfl w.heap.size 9 i0 (.string ⟨#[]⟩) 1 16 Tryz.underlying37 hi hz0 hz1 hz2 rfl (by decide) _ _ _ rfl (HU1.out.alloc _) ⟨w1.heap.size, 0, none⟩ 1 1 [.string T] rfl rfl ?c1 ?c2 ?c3 ?c4 ?c5 ?_)
        case c1 => exact cell_one_new _ _ _
        case c2 => intro q hq; simp at hq; subst hq; rfl
        case c3 => unfold maxLen; omega
        case c4 => omega
        case c5 => have := HB1.out.size; simp; omega
        intro v' w5 hown' hgrow _
        have HB5 := Lib.hid (below_append HU1.out HB1.out (Nat.le_refl _) hgrow)
        rw [← HSn.out] at hown'
        have HO5 := Lib.hid hown'
        clear hown' hgrow HU1 HB1
        go_wp2_with fail
        go_roundw
        case rel => exact ⟨nx, O ++ [T], hle, by rw [List.length_append, List.length_singleton]; omega, rfl, by rw [List.length_append, List.length_singleton]; exact HO5.out, HP.out, HB5.out⟩
        case measure => simp [intOf]; omega
    · obtain rfl : a = s.size := by omega
      have HA := Lib.hid (hup.done (Nat.le_refl _))
      have HU := Lib.hid hown
      have HBl := Lib.hid hbel
      clear hup hown hbel
      go_wp2_with fail
      go_ret3
      obtain ⟨A, c, hvv, hst⟩ := strs_of_own HU.out rfl
      exact ⟨A, c, by rw [HA.out, hvv]; rfl, by rw [HA.out]; exact hst, HBl.out⟩

theorem ofAll : OfAll := fun A c l w h _ hn hs => (of_any A c l w h hn hs).mono fun _ _ ⟨he, hw⟩ => ⟨he, by rw [hw]; exact Below.refl _ _⟩

theorem frameAll : FrameAll := fun s w hs => frame_any s w hs

theorem nextAll : NextAll := fun s i w hs hi => next_any s i w hs hi

theorem allAll : AllAll := fun s w hs => all_any s w hs

end Su
end Go.Proofs.YtjehjbkcdpidbaaGreat
