/- What the landed package's step, over and Of do: one bit, one piece, all pieces; no condition but the range. -/
import Derived.Test.YtlamjkagjkmbeaaSuRef4
import Derived.Test.YtlamjkagjkmbeaaSuTab
namespace Go.Proofs.Ytlamjkagjkmbeaa
namespace Su
open Go.RowKit Bk

attribute [local go_sem ↓] Go.wp_at_zero Go.wp_at_succ
attribute [local go_sem] floatUpon pick

theorem u32_and1 (x : Nat) (hx : x < 4294967296) : bits .and .u32 (x : Int) 1 = ((x % 2 : Nat) : Int) := by
  have h := u32_and_nat x 1 hx (by omega)
  rw [nat_mask1] at h
  exact h

set_option maxRecDepth 20000 in
set_option maxHeartbeats 1000000 in
theorem step_any (x : Nat) (w : World) (hx : x < 4294967296) :
    Calls Try.prog 30 #[.int .u32 (x : Int)] w fun e w' => e = .returned (.int .u32 ((T x : Nat) : Int)) ∧ w' = w := by
  have ha := u32_and1 x hx
  by_cases h : x % 2 = 1
  · have ht : T x = (x / 2) ^^^ 3988292384 := by unfold T; rw [if_pos h]
    have hb : bits .xor .u32 ((x : Int) / 2) 3988292384 = ((T x : Nat) : Int) := by
      have := u32_xor_nat (x / 2) 3988292384 (by omega) (by omega)
      rw [← ht, Int.natCast_ediv] at this
      exact this
    rw [h] at ha
    have ha' : (bits .and .u32 (x : Int) 1 == 1) = true := by rw [ha]; rfl
    clear ha ht
    go_enter Try.func30, Try.ntmps30
    go_wp2_with fail
    go_ret
    exact ⟨rfl, rfl⟩
  · have h0 : x % 2 = 0 := by omega
    have ht : ((x : Int) / 2) = ((T x : Nat) : Int) := T_even h
    rw [h0] at ha
    have ha' : (bits .and .u32 (x : Int) 1 == 1) = false := by rw [ha]; rfl
    clear ha
    go_enter Try.func30, Try.ntmps30
    go_wp2_with fail
    go_ret
    exact ⟨rfl, rfl⟩

set_option maxRecDepth 20000 in
set_option maxHeartbeats 1000000 in
theorem over_any (x : Nat) (s : ByteArray) (w : World) (hx : x < 4294967296) (hs : s.size ≤ 9223372036854775807) :
    Calls Try.prog 25 #[.int .u32 (x : Int), .string s] w fun e w' => e = .returned (.int .u32 ((reg x s.data.toList : Nat) : Int)) ∧ w' = w := by
  have hb : (s.size : Int) ≤ 9223372036854775807 := by omega
  have HX := Lib.hid hx
  clear hx
  go_enter Try.func25, Try.ntmps25
  go_wp2_with fail
  go_loopw [0, 8] (fun y i wr => ∃ j : Nat, j ≤ s.size ∧ i = .int .i64 (j : Int) ∧ y = .int .u32 ((reg x (s.data.toList.take j) : Nat) : Int) ∧ wr = w) (fun _ i _ => s.size - (intOf i).toNat)
  case atStart => exact ⟨0, by omega, rfl, rfl, rfl⟩
  case round =>
    obtain ⟨j, hj, rfl, rfl, rfl⟩ := hrel
    by_cases hlt : j < s.size
    · have pj : (j : Int) < (s.size : Int) := by omega
      have hlen : j < s.data.toList.length := by rw [Array.length_toList]; exact hlt
      have hstep : reg x (s.data.toList.take (j + 1)) = Tn 8 (reg x (s.data.toList.take j) ^^^ (s[j]'hlt).toNat) := by
        rw [List.take_add_one, List.getElem?_eq_getElem hlen, reg_append, Array.getElem_toList]; rfl
      have hr := reg_lt HX.out (s.data.toList.take j)
      have HS := Lib.hid hstep
      have hb8 : (s[j]'hlt).toNat < 256 := (s[j]'hlt).toNat_lt
      generalize hbv : (s[j]'hlt).toNat = b at hb8
      have hix : ∀ W, (Instr.index 9 (.string s) (.int .i64 (j : Int))).run Try.prog W = .ok (.int .u8 (b : Int)) W := fun W => by
        rw [run_index_string W 9 s .i64 _ Try.underlying9, dif_pos (by omega)]
        simp only [Int.toNat_natCast, hbv]
      rw [hbv] at HS
      generalize reg x (s.data.toList.take j) = z0 at hr HS ⊢
      have hxx := u32_xor_nat z0 b hr (by omega)
      have hx2 : z0 ^^^ b < 4294967296 := Nat.xor_lt_two_pow (n := 32) hr (by omega)
      generalize hy : z0 ^^^ b = y at hxx hx2
      rw [hy] at HS
      have HX2 := Lib.hid hx2
      clear hstep hbv hy hlen hx2
      go_wp2_with fail
      obtain ⟨wo, rfl⟩ : ∃ wo : World, wo = wr := ⟨_, rfl⟩
      go_loopw [0, 17] (fun x i wr => ∃ k : Nat, k ≤ 8 ∧ i = .int .i64 (k : Int) ∧ x = .int .u32 ((Tn k y : Nat) : Int) ∧ wr = wo) (fun _ i _ => 8 - (intOf i).toNat)
      case atStart => exact ⟨0, by omega, rfl, rfl, rfl⟩
      case round =>
        obtain ⟨k, hk, rfl, rfl, rfl⟩ := hrel
        by_cases hk8 : k < 8
        · have pk : (k : Int) < 8 := by omega
          have hz := Tn_lt k HX2.out
          have hs2 := Tn_succ' k y
          generalize Tn k y = z at hz hs2 ⊢
          have HC := Lib.hid (fun W => step_any z W hz)
          rw [← hs2] at HC
          clear hs2 hz
          go_wp2_with fail
          refine (HC.out _).mono ?_
          rintro e w' ⟨rfl, rfl⟩
          go_wp2_with fail
          go_roundw
          case rel => exact ⟨k + 1, by omega, by go_num, rfl, trivial⟩
          case measure => simp [intOf]; omega
        · obtain rfl : k = 8 := by omega
          have HSo := HS.out
          go_wp2_with fail
          go_roundw
          case rel => exact ⟨j + 1, by omega, by go_num, by rw [HSo], trivial⟩
          case measure => simp [intOf]; omega
    · obtain rfl : j = s.size := by omega
      have hc : s.data.toList.take s.size = s.data.toList := List.take_of_length_le (by rw [Array.length_toList]; exact Nat.le_refl _)
      rw [hc]
      clear hc
      go_wp2_with fail
      go_ret
      exact ⟨rfl, rfl⟩

end Su
end Go.Proofs.Ytlamjkagjkmbeaa
