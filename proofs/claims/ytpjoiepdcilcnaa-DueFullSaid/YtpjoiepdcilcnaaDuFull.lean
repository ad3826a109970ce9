/- Just so many tasks find room: the walk; no condition but the ranges. -/
import Derived.Test.YtpjoiepdcilcnaaDuWorks
namespace Go.Proofs.Ytpjoiepdcilcnaa
namespace Du
open Go.RowKit Bk

/-- the queue behind j puts at one tick -/
def fuL (a : Int) : Nat → List Tk
  | 0 => []
  | j + 1 => fuL a j ++ [⟨a, (j : Int), (j : Int), (j : Int) + 1⟩]
def fuD (a : Int) (j : Nat) : Ds := ⟨fuL a j, 0, (j : Int)⟩

theorem fu_len (a : Int) : ∀ j, (fuL a j).length = j
  | 0 => rfl
  | j + 1 => by show (fuL a j ++ [_]).length = _; rw [List.length_append, fu_len a j]; rfl
theorem fu_at (a : Int) : ∀ j k, k < j → g (fuL a j) k = ⟨a, (k : Int), (k : Int), (k : Int) + 1⟩
  | 0, k, h => by omega
  | j + 1, k, h => by
    by_cases e : k < j
    · show g (fuL a j ++ [_]) k = _
      rw [g_left (by rw [fu_len]; exact e)]
      exact fu_at a j k e
    · obtain rfl : k = j := by omega
      show g (fuL a k ++ [_]) k = _
      rw [g_at (x := ⟨a, (k : Int), (k : Int), (k : Int) + 1⟩)]
      rw [List.getElem?_append_right (by rw [fu_len]; exact Nat.le_refl _), fu_len]
      simp

theorem fu_put (a : Int) (j : Nat) (h0 : 0 ≤ a) (h1 : a < 9) (hj : j < 1024) : putD (fuD a j) a j j = (fuD a (j + 1), (j : Int) + 1, 0) := by
  unfold putD
  rw [if_neg (by omega), if_neg (by show ¬ 1024 ≤ (fuL a j).length; rw [fu_len]; omega)]
  rfl
theorem fu_full (a : Int) : putD (fuD a 1024) 0 0 0 = (fuD a 1024, 0, 2) := by
  unfold putD
  rw [if_neg (by omega), if_pos (by show 1024 ≤ (fuL a 1024).length; rw [fu_len]; exact Nat.le_refl _)]

/-- with one less there is room for one -/
theorem fu_room {D : Ds} (h : D.L.length = 1023) : ∃ D', putD D 0 0 0 = (D', D.many + 1, 0) ∧ putD D' 0 0 0 = (D', 0, 2) ∧ D'.many = D.many + 1 := by
  refine ⟨⟨D.L ++ [⟨0, 0, 0, D.many + 1⟩], D.tick, D.many + 1⟩, ?_, ?_, rfl⟩
  · unfold putD
    rw [if_neg (by omega), if_neg (by omega)]
  · unfold putD
    rw [if_neg (by omega), if_pos (by simp [h])]

theorem fu_drop (a : Int) {n : Int} (h0 : 1 ≤ n) (h1 : n ≤ 1024) : ∃ D', dropD (fuD a 1024) n = (D', 0) ∧ D'.L.length = 1023 ∧ D'.many = 1024 := by
  have hl : numI (fuD a 1024).L n < (fuD a 1024).L.length := by
    refine Classical.byContradiction fun hc => numI_none hc (g (fuL a 1024) (n - 1).toNat) (g_mem (by show (n - 1).toNat < (fuL a 1024).length; rw [fu_len]; omega)) ?_
    rw [fu_at a 1024 _ (by omega)]
    show (((n - 1).toNat : Nat) : Int) + 1 = n
    omega
  refine ⟨_, by unfold dropD; rw [if_pos hl], ?_, rfl⟩
  rw [List.length_eraseIdx_of_lt hl]
  show (fuL a 1024).length - 1 = _
  rw [fu_len]

theorem fu_take (a : Int) (h1 : a < 9) : ∃ D', takeD ⟨fuL a 1024, 9, 1024⟩ = (D', 1023, true) ∧ D'.L.length = 1023 ∧ D'.many = 1024 := by
  unfold takeD
  cases hb : bestK (fuL a 1024) 9 (fuL a 1024).length with
  | none =>
    have := best_none hb 0 (by rw [fu_len]; omega)
    rw [fu_at a 1024 0 (by omega)] at this
    have : (9 : Int) < a := this
    omega
  | some b =>
    obtain ⟨h2, h3, h4⟩ := best_some hb
    rw [fu_len] at h2
    have h5 := h4 1023 (by rw [fu_len]; omega) (by rw [fu_at a 1024 1023 (by omega)]; show a ≤ 9; omega)
    rw [fu_at a 1024 1023 (by omega), fu_at a 1024 b h2] at h5
    simp only [ltR, decide_eq_false_iff_not] at h5
    obtain rfl : b = 1023 := by omega
    refine ⟨_, by simp only []; rw [fu_at a 1024 1023 (by omega)]; rfl, ?_, rfl⟩
    rw [List.length_eraseIdx_of_lt (by rw [fu_len]; omega), fu_len]

set_option maxRecDepth 20000 in
set_option maxHeartbeats 8000000 in
theorem full_any (x : Int) (_hx : -9223372036854775808 ≤ x ∧ x ≤ 9223372036854775807) (d : Bool) (w : World) : Calls Try.prog 6 #[.int .i64 x, .bool d] w fun e w' => e = .returned (.bool true) ∧ Below w.heap.size w w' := by
  obtain ⟨a, ha⟩ : ∃ a, a = amongV x 9 := ⟨_, rfl⟩
  obtain ⟨c, hc⟩ : ∃ c, c = amongV x 1024 := ⟨_, rfl⟩
  have ha9 : a < 9 := ha ▸ amongV_lt x 9 (by omega)
  have hc10 : c < 1024 := hc ▸ amongV_lt x 1024 (by omega)
  have HA9 := Lib.hid (fun W => among_any x 9 W (by omega) (by omega))
  have HA10 := Lib.hid (fun W => among_any x 1024 W (by omega) (by omega))
  rw [← ha] at HA9
  rw [← hc] at HA10
  clear ha hc
  go_enter Try.func6, Try.ntmps6
  go_wp2_with fail
  refine (snew (Below.refl w.heap.size w)).mono ?_
  rintro e w1 ⟨b, rfl, h1⟩
  have H1 := Lib.hid h1
  have HW := Lib.hid (works_any w1)
  clear h1
  go_wp2_with fail
  refine HW.out.mono ?_
  rintro e w2 ⟨rfl, hb⟩
  have H2 := Lib.hid (H1.out.below hb)
  clear hb HW H1
  go_wp2_with fail
  go_loopw [24] (fun i wr => ∃ j : Nat, j ≤ 1024 ∧ i = .int .i64 (j : Int) ∧ Hid (QS w wr (fun _ => False) b (fuD a j))) (fun i _ => 1024 - (intOf i).toNat)
  case atStart => exact ⟨0, by omega, rfl, H2.out⟩
  case round =>
    obtain ⟨j, hj, rfl, hq⟩ := hrel
    by_cases hlt : j < 1024
    · have hP := sput hq.out a j j (by show (j : Int) ≤ _; omega)
      rw [fu_put a j (by omega) (by omega) hlt] at hP
      have HP := Lib.hid hP
      have p1 : (j : Int) < 1024 := by omega
      clear hP
      go_wp2_with fail
      refine (HA9.out _).mono ?_
      rintro e w3 ⟨rfl, rfl⟩
      go_wp2_with fail
      refine HP.out.mono ?_
      rintro e w4 ⟨rfl, h4, _⟩
      have H4 := Lib.hid h4
      clear h4 HP
      go_wp2_with fail
      go_roundw
      case rel => exact ⟨j + 1, by omega, by go_num, H4.out⟩
      case measure => simp [intOf]; omega
    · obtain rfl : j = 1024 := by omega
      have hP := sput hq.out 0 0 0 (by show ((1024 : Nat) : Int) ≤ _; omega)
      rw [fu_full] at hP
      have HP := Lib.hid hP
      clear hP
      go_wp2_with fail
      refine HP.out.mono ?_
      rintro e w3 ⟨rfl, h3, _⟩
      have H3 := Lib.hid h3
      clear h3 HP
      cases d with
      | true =>
        obtain ⟨D', hD, hl, hm⟩ := fu_drop a (n := 1 + (c : Int)) (by omega) (by omega)
        have hT := sdrop H3.out (1 + (c : Int))
        rw [hD] at hT
        have HT := Lib.hid hT
        obtain ⟨D2, hp1, hp2⟩ := fu_room hl
        have HF := Lib.hid (And.intro hm (And.intro hp1 hp2))
        clear hT hD hl hm hp1 hp2
        go_wp2_with fail
        refine (HA10.out _).mono ?_
        rintro e w4 ⟨rfl, rfl⟩
        go_wp2_with fail
        refine HT.out.mono ?_
        rintro e w5 ⟨rfl, h5, _⟩
        have hP := sput h5 0 0 0 (by rw [HF.out.1]; omega)
        rw [HF.out.2.1] at hP
        have HP := Lib.hid hP
        clear hP h5 HT
        go_wp2_with fail
        refine HP.out.mono ?_
        rintro e w6 ⟨rfl, h6, _⟩
        have hP := sput h6 0 0 0 (by rw [HF.out.2.2.2, HF.out.1]; omega)
        rw [HF.out.2.2.1] at hP
        have HP2 := Lib.hid hP
        clear hP h6 HP
        go_wp2_with fail
        refine HP2.out.mono ?_
        rintro e w7 ⟨rfl, h7, _⟩
        have H7 := Lib.hid h7.bel
        clear h7 HP2
        go_wp2_with fail
        go_ret
        exact ⟨rfl, H7.out⟩
      | false =>
        have hG := sgo H3.out 9
        rw [show goD (fuD a 1024) 9 = (⟨fuL a 1024, 9, 1024⟩, 0) from rfl] at hG
        have HG := Lib.hid hG
        obtain ⟨D', hD, hl, hm⟩ := fu_take a (by omega)
        obtain ⟨D2, hp1, hp2, hp3⟩ := fu_room hl
        have HF := Lib.hid (And.intro hm (And.intro hp1 (And.intro hp2 (And.intro hD hp3))))
        clear hG hD hl hm hp1 hp2
        go_wp2_with fail
        refine HG.out.mono ?_
        rintro e w4 ⟨rfl, h4, _⟩
        have hT := stake h4
        rw [HF.out.2.2.2.1] at hT
        have HT := Lib.hid hT
        clear hT h4 HG
        go_wp2_with fail
        refine HT.out.mono ?_
        rintro e w5 ⟨rfl, h5, _⟩
        have hP := sput h5 0 0 0 (by rw [HF.out.1]; omega)
        rw [HF.out.2.1] at hP
        have HP := Lib.hid hP
        clear hP h5 HT
        go_wp2_with fail
        refine HP.out.mono ?_
        rintro e w6 ⟨rfl, h6, _⟩
        have hP := sput h6 0 0 0 (by rw [HF.out.2.2.2.2, HF.out.1]; omega)
        rw [HF.out.2.2.1] at hP
        have HP2 := Lib.hid hP
        clear hP h6 HP
        go_wp2_with fail
        refine HP2.out.mono ?_
        rintro e w7 ⟨rfl, h7, _⟩
        have H7 := Lib.hid h7.bel
        clear h7 HP2
        go_wp2_with fail
        go_ret
        exact ⟨rfl, H7.out⟩

end Du
end Go.Proofs.Ytpjoiepdcilcnaa
