/- What the document's own sum, frame and search answer; contracts; no condition but the range. -/
import Derived.Test.YtlamjkagjkmbeaaBk
import Derived.Test.YtlamjkagjkmbeaaSuMath
namespace Go.Proofs.Ytlamjkagjkmbeaa
namespace Su
open Go.RowKit Bk

theorem T_odd {x : Nat} (h : x % 2 = 1) (hx : x < 4294967296) : bits .xor .i64 ((x : Int) / 2) 3988292384 = ((T x : Nat) : Int) := by
  have h2 := i64_xor_nat (x / 2) 3988292384 (by omega) (by omega)
  unfold T
  rw [if_pos h, ← h2, Int.natCast_ediv]
  rfl

theorem T_even {x : Nat} (h : ¬ x % 2 = 1) : ((x : Int) / 2) = ((T x : Nat) : Int) := by
  unfold T
  rw [if_neg h, Int.natCast_ediv]
  rfl

theorem Tn_succ' (n y : Nat) : Tn (n + 1) y = T (Tn n y) := by rw [Tn_add]; rfl

set_option maxRecDepth 20000 in
set_option maxHeartbeats 2000000 in
theorem rsum_any (s : ByteArray) (w : World) (hs : s.size ≤ 9223372036854775807) :
    Calls Try.prog 26 #[.string s] w fun e w' => e = .returned (.int .i64 ((crc s.data.toList : Nat) : Int)) ∧ w' = w := by
  have hb : (s.size : Int) ≤ 9223372036854775807 := by omega
  go_enter Try.func26, Try.ntmps26
  go_wp2_with fail
  go_loopw [3, 4] (fun x i wr => ∃ j : Nat, j ≤ s.size ∧ i = .int .i64 (j : Int) ∧ x = .int .i64 ((reg 4294967295 (s.data.toList.take j) : Nat) : Int) ∧ wr = w) (fun _ i _ => s.size - (intOf i).toNat)
  case atStart => exact ⟨0, by omega, rfl, rfl, rfl⟩
  case round =>
    obtain ⟨j, hj, rfl, rfl, rfl⟩ := hrel
    by_cases hlt : j < s.size
    · have pj : (j : Int) < (s.size : Int) := by omega
      have hlen : j < s.data.toList.length := by rw [Array.length_toList]; exact hlt
      have hstep : reg 4294967295 (s.data.toList.take (j + 1)) = Tn 8 (reg 4294967295 (s.data.toList.take j) ^^^ (s[j]'hlt).toNat) := by
        rw [List.take_add_one, List.getElem?_eq_getElem hlen, reg_append, Array.getElem_toList]; rfl
      have hr := reg_lt (x := 4294967295) (by omega) (s.data.toList.take j)
      have HS := Lib.hid hstep
      have hb8 : (s[j]'hlt).toNat < 256 := (s[j]'hlt).toNat_lt
      generalize hbv : (s[j]'hlt).toNat = b at hb8
      have hix : ∀ W, (Instr.index 9 (.string s) (.int .i64 (j : Int))).run Try.prog W = .ok (.int .u8 (b : Int)) W := fun W => by
        rw [run_index_string W 9 s .i64 _ Try.underlying9, dif_pos (by omega)]
        simp only [Int.toNat_natCast, hbv]
      rw [hbv] at HS
      generalize reg 4294967295 (s.data.toList.take j) = x at hr HS ⊢
      have hx := i64_xor_nat x b (by omega) (by omega)
      have hx2 : x ^^^ b < 4294967296 := Nat.xor_lt_two_pow (n := 32) hr (by omega)
      generalize hy : x ^^^ b = y at hx hx2
      rw [hy] at HS
      clear hstep hbv hy hlen
      go_wp2_with fail
      obtain ⟨wo, rfl⟩ : ∃ wo : World, wo = wr := ⟨_, rfl⟩
      go_loopw [3, 5] (fun x i wr => ∃ k : Nat, k ≤ 8 ∧ i = .int .i64 (k : Int) ∧ x = .int .i64 ((Tn k y : Nat) : Int) ∧ wr = wo) (fun _ i _ => 8 - (intOf i).toNat)
      case atStart => exact ⟨0, by omega, rfl, rfl, rfl⟩
      case round =>
        obtain ⟨k, hk, rfl, rfl, rfl⟩ := hrel
        by_cases hk8 : k < 8
        · have pk : (k : Int) < 8 := by omega
          have hz := Tn_lt k hx2
          have hs2 := Tn_succ' k y
          generalize Tn k y = z at hz hs2 ⊢
          by_cases hodd : z % 2 = 1
          · have h1 := T_odd hodd hz
            have hm : ((z : Int).tmod 2 == 1) = true := by rw [Int.tmod_eq_emod_of_nonneg (by omega)]; simp; omega
            rw [← hs2] at h1
            have hd : (z : Int).tdiv 2 = (z : Int) / 2 := Int.tdiv_eq_ediv_of_nonneg (by omega)
            go_wp2_with fail
            go_roundw
            case rel => exact ⟨k + 1, by omega, by go_num, by rw [hs2], trivial⟩
            case measure => simp [intOf]; omega
          · have h1 := T_even hodd
            have hm : ((z : Int).tmod 2 == 1) = false := by rw [Int.tmod_eq_emod_of_nonneg (by omega)]; simp; omega
            rw [← hs2] at h1
            have hd : (z : Int).tdiv 2 = (z : Int) / 2 := Int.tdiv_eq_ediv_of_nonneg (by omega)
            go_wp2_with fail
            go_roundw
            case rel => exact ⟨k + 1, by omega, by go_num, by rw [hs2], trivial⟩
            case measure => simp [intOf]; omega
        · obtain rfl : k = 8 := by omega
          have HSo := HS.out
          go_wp2_with fail
          go_roundw
          case rel => exact ⟨j + 1, by omega, by go_num, by rw [HSo], trivial⟩
          case measure => simp [intOf]; omega
    · obtain rfl : j = s.size := by omega
      have hr := reg_lt (x := 4294967295) (by omega) (s.data.toList.take s.size)
      have hx := i64_xor_nat (reg 4294967295 (s.data.toList.take s.size)) 4294967295 (by omega) (by omega)
      have hc : reg 4294967295 (s.data.toList.take s.size) ^^^ 4294967295 = crc s.data.toList := by
        rw [List.take_of_length_le (by rw [Array.length_toList]; exact Nat.le_refl _)]; rfl
      rw [hc] at hx
      clear hc
      generalize reg 4294967295 (s.data.toList.take s.size) = x at hr hx ⊢
      have hx' : bits .xor .i64 (x : Int) 4294967295 = ((crc s.data.toList : Nat) : Int) := hx
      clear hx
      go_wp2_with fail
      go_ret
      exact ⟨rfl, rfl⟩

/-- pieces as one text -/
def catL (l : List ByteArray) : List UInt8 := l.flatMap fun s => s.data.toList

theorem catL_take (l : List ByteArray) (j : Nat) (h : j < l.length) : catL (l.take (j + 1)) = catL (l.take j) ++ l[j].data.toList := by
  unfold catL
  rw [List.take_add_one, List.getElem?_eq_getElem h, List.flatMap_append]
  simp

theorem catL_le (l : List ByteArray) (j : Nat) : (catL (l.take j)).length ≤ (catL l).length := by
  have e : catL l = catL (l.take j) ++ catL (l.drop j) := by unfold catL; rw [← List.flatMap_append, List.take_append_drop]
  rw [e, List.length_append]
  omega

theorem cat_size (L : List UInt8) : (⟨L.toArray⟩ : ByteArray).size = L.length := by
  show L.toArray.size = _
  simp

set_option maxRecDepth 20000 in
set_option maxHeartbeats 1000000 in
theorem rof_any (A : Option Addr) (c : Nat) (l : List ByteArray) (w : World) (h : StrsAt w A l) (hn : l.length ≤ 9223372036854775807) (hs : (catL l).length ≤ 9223372036854775807) :
    Calls Try.prog 14 #[.slice A l.length c] w fun e w' => e = .returned (.int .i64 ((crc (catL l) : Nat) : Int)) ∧ w' = w := by
  have HA := Lib.hid h
  clear h
  go_enter Try.func14, Try.ntmps14
  go_wp2_with fail
  go_loopw [3, 4] (fun x i wr => ∃ j : Nat, j ≤ l.length ∧ i = .int .i64 (j : Int) ∧ x = .string ⟨(catL (l.take j)).toArray⟩ ∧ wr = w) (fun _ i _ => l.length - (intOf i).toNat)
  case atStart => exact ⟨0, by omega, rfl, rfl, rfl⟩
  case round =>
    obtain ⟨j, hj, rfl, rfl, rfl⟩ := hrel
    by_cases hlt : j < l.length
    · have pj : (j : Int) < (l.length : Int) := by omega
      obtain ⟨ad, rfl, hab, hcl⟩ := HA.out (by omega)
      have x1 := hcl j hlt
      have hz := catL_le l (j + 1)
      rw [catL_take l j hlt, List.length_append] at hz
      have he : (⟨(catL (l.take j)).toArray⟩ : ByteArray) ++ l[j] = ⟨(catL (l.take (j + 1))).toArray⟩ := by
        rw [catL_take l j hlt, ← ByteArray.mk_append_mk]
      have hsz := cat_size (catL (l.take j))
      have hlz : l[j].data.toList.length = l[j].size := Array.length_toList
      rw [hlz] at hz
      generalize (⟨(catL (l.take j)).toArray⟩ : ByteArray) = acc at he hsz ⊢
      generalize l[j] = s at x1 hz he hlz
      have hsum : acc.size + s.size ≤ 9223372036854775807 := by omega
      have HE := Lib.hid he
      have hadd := fun W => run_string_add_sum (P := Try.prog) W acc s hsum
      rw [he] at hadd
      clear hcl hz hsz hlz he
      go_wp2_with fail
      go_roundw
      case rel => exact ⟨j + 1, by omega, by go_num, rfl, trivial⟩
      case measure => simp [intOf]; omega
    · obtain rfl : j = l.length := by omega
      have hsm := rsum_any ⟨(catL l).toArray⟩ wr (by rw [cat_size]; exact hs)
      have HSm := Lib.hid hsm
      rw [List.take_of_length_le (Nat.le_refl _)]
      clear hsm
      go_wp2_with fail
      refine HSm.out.mono ?_
      rintro e w' ⟨rfl, rfl⟩
      go_wp2_with fail
      go_ret
      exact ⟨rfl, rfl⟩

theorem le_succ' : ∀ (i n : Nat), le (i + 1) n = le i n ++ [UInt8.ofNat (n / 256 ^ i % 256)]
  | 0, n => by simp [le]
  | i + 1, n => by
    show UInt8.ofNat (n % 256) :: le (i + 1) (n / 256) = (UInt8.ofNat (n % 256) :: le i (n / 256)) ++ _
    rw [le_succ' i (n / 256), Nat.div_div_eq_div_mul, List.cons_append, Nat.pow_succ, Nat.mul_comm 256]

set_option maxRecDepth 20000 in
set_option maxHeartbeats 1000000 in
theorem rbytes_any (n k : Nat) (w : World) (_hn : n ≤ 9223372036854775807) (h1 : 1 ≤ k) (hk : k ≤ 7) :
    Calls Try.prog 29 #[.int .i64 (n : Int), .int .i64 (k : Int)] w fun e w' => e = .returned (.string ⟨(le k n).toArray⟩) ∧ Below w.heap.size w w' := by
  obtain ⟨i1, hi', hz0', hz1', hz2'⟩ := info_parts Try.infoU8
  go_enter Try.func29, Try.ntmps29
  go_wp2_with fail
  go_loopw [5, 6] (fun u c wr => ∃ i : Nat, i ≤ k ∧ c = .int .i64 (i : Int) ∧ Hid (wr.ownsRow w.heap.size 5 1 u i (Lib.byteCells (le i n))) ∧ Hid (Below w.heap.size w wr)) (fun _ c _ => k - (intOf c).toNat)
  case atStart => exact ⟨0, by omega, rfl, World.ownsRow_nil _ _ _ _, Below.refl _ _⟩
  case round =>
    obtain ⟨i, hik, rfl, hown, hbel⟩ := hrel
    by_cases hlt : i < k
    · have pi : (i : Int) < (k : Int) := by omega
      have hsh : (n : Int) / 2 ^ (8 * (i : Int)).toNat = ((n / 256 ^ i : Nat) : Int) := by
        rw [show (8 * (i : Int)).toNat = 8 * i by omega, pow256, Int.natCast_ediv, Int.natCast_pow]; rfl
      have hcv : IntKind.u8.wrap ((n / 256 ^ i : Nat) : Int) = ((n / 256 ^ i : Nat) : Int) % 256 := by
        simp [IntKind.wrap, IntKind.bits, IntKind.signed]
      have hst := le_succ' i n
      have hbc : Lib.byteCells (le i n) ++ [.int .u8 (((n / 256 ^ i : Nat) : Int) % 256)] = Lib.byteCells (le (i + 1) n) := by
        rw [hst]
        unfold Lib.byteCells
        rw [List.map_append, List.map_cons, UInt8.toNat_ofNat_of_lt' (by show n / 256 ^ i % 256 < 256; omega)]; rfl
      have hmod : n / 256 ^ i % 256 < 256 := by omega
      generalize n / 256 ^ i = q at hsh hcv hbc hmod
      have HBC := Lib.hid hbc
      clear hst hbc
      go_wp2_with (at_builtin; refine wpList_append_own _ rfl _ _ 41 rfl w.heap.size 5 i1 (.int .u8 0) 1 1 Try.underlying41 hi' hz0' hz1' hz2' rfl (by decide) _ _ _ rfl (hown.out.alloc _) ⟨wr.heap.size, 0, none⟩ 1 1 [.int .u8 ((q : Int) % 256)] rfl rfl ?c1 ?c2 ?c3 ?c4 ?c5 ?_)
      case c1 => exact cell_one_new _ _ _
      case c2 => intro u hu; simp at hu; subst hu; rfl
      case c3 => unfold maxLen; omega
      case c4 => omega
      case c5 => have := hbel.out.size; simp; omega
      intro v' w5 hown' hgrow _
      have HB5 := Lib.hid (below_append hown.out hbel.out (Nat.le_refl _) hgrow)
      rw [HBC.out] at hown'
      have HO5 := Lib.hid hown'
      clear hown' hgrow
      go_wp2_with fail
      go_roundw
      case rel => exact ⟨i + 1, by omega, by go_num, HO5.out, HB5.out⟩
      case measure => simp [intOf]; omega
    · obtain rfl : i = k := by omega
      have hlen : (Lib.byteCells (le i n)).length = i := by rw [Lib.byteCells_length, le_length]
      obtain ⟨g, cap, rfl, _, _⟩ := World.ownsRow.form hown.out h1
      · have hcv := own_bytes hown.out (le_length i n).symm 0 i cap (by rw [le_length]; omega)
        rw [List.drop_zero, List.take_of_length_le (by rw [le_length]; exact Nat.le_refl _)] at hcv
        go_wp2_with fail
        go_ret
        exact ⟨rfl, hbel.out⟩

end Su
end Go.Proofs.Ytlamjkagjkmbeaa
