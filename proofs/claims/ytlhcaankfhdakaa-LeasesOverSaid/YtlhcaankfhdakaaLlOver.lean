/- A lease that is over is refused, one that is ended is not there: the walk; no condition. -/
import Derived.Test.YtlhcaankfhdakaaLlLaw
namespace Go.Proofs.Ytlhcaankfhdakaa
namespace Ll
open Go.RowKit Bk Ls

attribute [local go_sem ↓] Go.wp_at_zero Go.wp_at_succ
attribute [local go_sem] floatUpon pick

/-- leases that were all taken at the tick t -/
def ovL (a t : Int) (i : Nat) : List Le := fl (fun k => (k : Int)) (fun _ => t + a) i
def ov (a t : Int) (i : Nat) : Tb := ⟨a, (i : Int), ovL a t i⟩

section
variable {a t : Int}

theorem ov_g {i k : Nat} (h : k < i) : g (ovL a t i) k = ⟨(k : Int) + 1, (k : Int), t + a⟩ := by
  refine g_at ?_
  unfold ovL fl
  rw [List.getElem?_map, List.getElem?_range h]
  rfl
theorem ov_live {i : Nat} {now : Int} (h : now ≤ t + a) : lv (ovL a t i) now = ovL a t i := by
  refine lv_all fun k hk => ?_
  have hk' : k < i := by unfold ovL at hk; rw [fl_len'] at hk; exact hk
  rw [ov_g hk']
  show ¬ t + a < now
  omega
theorem ov_dead {i : Nat} {now : Int} (h : t + a < now) : lv (ovL a t i) now = [] := by
  unfold lv
  rw [List.filter_eq_nil_iff]
  intro x hx
  obtain ⟨k, _, rfl⟩ := fl_mem.1 hx
  simp
  omega
theorem ov_nu {k : Nat} : nu (ovL a t (k + 1)) ((k : Int) + 1) = k := by
  have hl : k < (ovL a t (k + 1)).length := by unfold ovL; rw [fl_len']; omega
  refine nu_eq hl (by rw [ov_g (by omega)]) fun j hj => ?_
  rw [ov_g (by omega)]
  show ¬ ((j : Int) + 1 = (k : Int) + 1)
  omega
theorem ov_no {k : Nat} : ¬ nu (ovL a t k) ((k : Int) + 1) < (ovL a t k).length := by
  refine nu_no fun j hj => ?_
  have hj' : j < k := by unfold ovL at hj; rw [fl_len'] at hj; exact hj
  rw [ov_g hj']
  show ¬ ((j : Int) + 1 = (k : Int) + 1)
  omega
theorem ov_take {i : Nat} (h0 : 0 ≤ a) (h1 : 0 ≤ t) (h2 : t < 1000) (hi : i < 1024) : takeB (ov a t i) t (i : Int) = (ov a t (i + 1), (i : Int) + 1, 0) := by
  have hl : lv (ovL a t i) t = ovL a t i := ov_live (by omega)
  have hlen : (ovL a t i).length = i := fl_len' _ _ _
  unfold takeB ov
  rw [if_neg (fun q => q ⟨⟨h1, by omega⟩, by unfold okS; omega⟩), hl, if_neg (by rw [hlen]; omega)]
  unfold ovL
  rw [fl_succ]
  rfl

/-- what the law's calls answer, one behind the other -/
theorem ov_all {k : Nat} (h0 : 0 ≤ a) (ha : a < 20) (h1 : 0 ≤ t) (h2 : t < 1000) :
    checkB (ov a t (k + 1)) (t + a) ((k : Int) + 1) = ((k : Int), 0) ∧ checkB (ov a t (k + 1)) (t + a + 1) ((k : Int) + 1) = (0, 170) ∧ keepB (ov a t (k + 1)) (t + a + 1) ((k : Int) + 1) = (ov a t (k + 1), 170) ∧
    lowB (ov a t (k + 1)) (t + a + 1) 77 = (77, 0) ∧ endB (ov a t (k + 1)) ((k : Int) + 1) = (⟨a, (k : Int) + 1, ovL a t k⟩, 0) ∧ endB ⟨a, (k : Int) + 1, ovL a t k⟩ ((k : Int) + 1) = (⟨a, (k : Int) + 1, ovL a t k⟩, 5) ∧
    checkB ⟨a, (k : Int) + 1, ovL a t k⟩ t ((k : Int) + 1) = (0, 5) ∧ takeB ⟨a, (k : Int) + 1, ovL a t k⟩ (t + a + 1) 5 = (⟨a, (k : Int) + 1 + 1, [⟨(k : Int) + 1 + 1, 5, t + a + 1 + a⟩]⟩, (k : Int) + 1 + 1, 0) := by
  have hl : (ovL a t (k + 1)).length = k + 1 := fl_len' _ _ _
  have hg : g (ovL a t (k + 1)) k = ⟨(k : Int) + 1, (k : Int), t + a⟩ := ov_g (by omega)
  have c2 : checkB (ov a t (k + 1)) (t + a + 1) ((k : Int) + 1) = (0, 170) := by
    unfold checkB ov
    simp only []
    rw [if_neg (fun q => q ⟨by omega, by omega⟩), ov_nu, if_neg (by omega), hg, if_pos (by show t + a < _; omega)]
  refine ⟨?_, c2, ?_, ?_, ?_, ?_, ?_, ?_⟩
  · unfold checkB ov
    simp only []
    rw [if_neg (fun q => q ⟨by omega, by omega⟩), ov_nu, if_neg (by omega), hg, if_neg (by show ¬ t + a < _; omega)]
  · unfold keepB
    rw [c2, if_pos (by decide)]
  · unfold lowB ov
    simp only []
    rw [if_neg (fun q => q ⟨⟨by omega, by omega⟩, by unfold okS; omega⟩), ov_dead (by omega)]
    rfl
  · unfold endB ov
    simp only []
    rw [ov_nu, if_pos (by omega)]
    congr 2
    have e : ovL a t (k + 1) = ovL a t k ++ [⟨(k : Int) + 1, (k : Int), t + a⟩] := fl_succ _ _ _
    have hk : (ovL a t k).length = k := fl_len' _ _ _
    rw [e, List.eraseIdx_append_of_length_le (by omega), hk, Nat.sub_self]
    simp
  · unfold endB
    rw [if_neg ov_no]
  · unfold checkB
    rw [if_neg (fun q => q ⟨by omega, by omega⟩), if_pos (show (ovL a t k).length ≤ nu (ovL a t k) ((k : Int) + 1) by have := @ov_no a t k; omega)]
  · unfold takeB
    simp only []
    rw [if_neg (fun q => q ⟨⟨by omega, by omega⟩, by unfold okS; omega⟩), ov_dead (by omega), if_neg (by simp)]
    rfl

end

set_option maxRecDepth 20000 in
set_option maxHeartbeats 16000000 in
theorem over_walk (x y z : Int) (w : World) : Calls Try.prog 5 #[.int .i64 x, .int .i64 y, .int .i64 z] w fun e w' => e = .returned (.bool true) ∧ Below w.heap.size w w' := by
  obtain ⟨a, ha⟩ : ∃ a, a = amongV x 20 := ⟨_, rfl⟩
  obtain ⟨n, hn⟩ : ∃ n, n = amongV y 9 := ⟨_, rfl⟩
  obtain ⟨t, ht⟩ : ∃ t, t = amongV z 1000 := ⟨_, rfl⟩
  have ha9 : a < 20 := ha ▸ amongV_lt x 20 (by omega)
  have hn9 : n < 9 := hn ▸ amongV_lt y 9 (by omega)
  have ht9 : t < 1000 := ht ▸ amongV_lt z 1000 (by omega)
  have HA := Lib.hid (fun W => among_any x 20 W (by omega) (by omega))
  have HN := Lib.hid (fun W => among_any y 9 W (by omega) (by omega))
  have HT := Lib.hid (fun W => among_any z 1000 W (by omega) (by omega))
  rw [← ha] at HA
  rw [← hn] at HN
  rw [← ht] at HT
  have HW := Lib.hid (works_any w)
  have HAll := Lib.hid (ov_all (a := (a : Int)) (t := (t : Int)) (k := n) (by omega) (by omega) (by omega) (by omega))
  have p1 : (a : Int) < 20 := by omega
  have p2 : (n : Int) < 9 := by omega
  have p3 : (t : Int) < 1000 := by omega
  have p4 : (0 : Int) ≤ (a : Int) := by omega
  have p5 : (0 : Int) ≤ (n : Int) := by omega
  have p6 : (0 : Int) ≤ (t : Int) := by omega
  clear ha hn ht
  go_enter Try.func5, Try.ntmps5
  go_wp2_with fail
  refine HW.out.mono ?_
  rintro e w1 ⟨rfl, hb⟩
  have HB1 := Lib.hid hb
  clear hb HW
  go_wp2_with fail
  refine (HA.out _).mono ?_
  rintro e w2 ⟨rfl, e2⟩
  subst e2
  go_wp2_with fail
  refine (HN.out _).mono ?_
  rintro e w2 ⟨rfl, e2⟩
  subst e2
  go_wp2_with fail
  refine (HT.out _).mono ?_
  rintro e w2 ⟨rfl, e2⟩
  subst e2
  go_wp2_with fail
  refine (snew (long := (a : Int)) (by omega) HB1.out).mono ?_
  rintro e w3 ⟨b, rfl, h3⟩
  have H3 : Hid (TS w w3 (fun _ => False) b (ov a t 0)) := Lib.hid h3
  clear h3 HB1 HA HN HT
  go_wp2_with fail
  go_loopw [42] (fun i wr => ∃ j : Nat, j ≤ n + 1 ∧ i = .int .i64 (j : Int) ∧ Hid (TS w wr (fun _ => False) b (ov a t j))) (fun i _ => n + 1 - (intOf i).toNat)
  case atStart => exact ⟨0, by omega, rfl, H3⟩
  case round =>
    obtain ⟨j, hj, rfl, hq⟩ := hrel
    clear H3
    by_cases hlt : j < n + 1
    · have hP := stake hq.out (by show (j : Int) ≤ _; omega) t j
      rw [ov_take (by omega) (by omega) (by omega) (by omega)] at hP
      have HP := Lib.hid hP
      have q1 : (j : Int) < 1 + (n : Int) := by omega
      have q2 : (j : Int) ≤ 9 := by omega
      clear hP
      go_wp2_with fail
      refine HP.out.mono ?_
      rintro e w4 ⟨rfl, h4, _⟩
      have H4 := Lib.hid h4
      clear h4 HP
      go_wp2_with fail
      go_roundw
      case rel => exact ⟨j + 1, by omega, by go_num, H4⟩
      case measure => simp [intOf]; omega
    · obtain rfl : j = n + 1 := by omega
      obtain ⟨c1, c2, c3, c4, c5, c6, c7, c8⟩ := HAll.out
      have HC1 : Hid (∀ V, Below wr.heap.size wr V → Calls Try.prog 16 #[.pointer (some ⟨b, 0, none⟩), .int .i64 ((t : Int) + (a : Int)), .int .i64 ((n : Int) + 1)] V fun e W' => e = .returned (.tuple #[.int .i64 (n : Int), .int .i64 0]) ∧ Below V.heap.size V W') := Lib.hid (fun V hV => by have := scheck (hq.out.below hV) ((t : Int) + (a : Int)) ((n : Int) + 1); rw [c1] at this; exact this)
      have HC2 : Hid (∀ V, Below wr.heap.size wr V → Calls Try.prog 16 #[.pointer (some ⟨b, 0, none⟩), .int .i64 ((t : Int) + (a : Int) + 1), .int .i64 ((n : Int) + 1)] V fun e W' => e = .returned (.tuple #[.int .i64 0, .int .i64 170]) ∧ Below V.heap.size V W') := Lib.hid (fun V hV => by have := scheck (hq.out.below hV) ((t : Int) + (a : Int) + 1) ((n : Int) + 1); rw [c2] at this; exact this)
      have HC3 : Hid (∀ V, Below wr.heap.size wr V → Calls Try.prog 12 #[.pointer (some ⟨b, 0, none⟩), .int .i64 ((t : Int) + (a : Int) + 1), .int .i64 ((n : Int) + 1)] V fun e W' => e = .returned (.int .i64 170) ∧ TS w W' (fun _ => False) b (ov a t (n + 1)) ∧ ∀ k, False → W'.heap[k]? = V.heap[k]?) := Lib.hid (fun V hV => by have := skeep (hq.out.below hV) ((t : Int) + (a : Int) + 1) ((n : Int) + 1); rw [c3] at this; exact this)
      have HC4 : Hid (∀ V, TS w V (fun _ => False) b (ov a t (n + 1)) → Calls Try.prog 18 #[.pointer (some ⟨b, 0, none⟩), .int .i64 ((t : Int) + (a : Int) + 1), .int .i64 77] V fun e W' => e = .returned (.tuple #[.int .i64 77, .int .i64 0]) ∧ Below V.heap.size V W') := Lib.hid (fun V hV => by have := slow hV ((t : Int) + (a : Int) + 1) 77; rw [c4] at this; exact this)
      have HC5 : Hid (∀ V, TS w V (fun _ => False) b (ov a t (n + 1)) → Calls Try.prog 14 #[.pointer (some ⟨b, 0, none⟩), .int .i64 ((n : Int) + 1)] V fun e W' => e = .returned (.int .i64 0) ∧ TS w W' (fun _ => False) b ⟨a, (n : Int) + 1, ovL a t n⟩ ∧ ∀ k, False → W'.heap[k]? = V.heap[k]?) := Lib.hid (fun V hV => by have := sendd hV ((n : Int) + 1); rw [c5] at this; exact this)
      have HC6 : Hid (∀ V, TS w V (fun _ => False) b ⟨a, (n : Int) + 1, ovL a t n⟩ → Calls Try.prog 14 #[.pointer (some ⟨b, 0, none⟩), .int .i64 ((n : Int) + 1)] V fun e W' => e = .returned (.int .i64 5) ∧ TS w W' (fun _ => False) b ⟨a, (n : Int) + 1, ovL a t n⟩ ∧ ∀ k, False → W'.heap[k]? = V.heap[k]?) := Lib.hid (fun V hV => by have := sendd hV ((n : Int) + 1); rw [c6] at this; exact this)
      have HC7 : Hid (∀ V, TS w V (fun _ => False) b ⟨a, (n : Int) + 1, ovL a t n⟩ → Calls Try.prog 16 #[.pointer (some ⟨b, 0, none⟩), .int .i64 (t : Int), .int .i64 ((n : Int) + 1)] V fun e W' => e = .returned (.tuple #[.int .i64 0, .int .i64 5]) ∧ Below V.heap.size V W') := Lib.hid (fun V hV => by have := scheck hV (t : Int) ((n : Int) + 1); rw [c7] at this; exact this)
      have HC8 : Hid (∀ V, TS w V (fun _ => False) b ⟨a, (n : Int) + 1, ovL a t n⟩ → Calls Try.prog 10 #[.pointer (some ⟨b, 0, none⟩), .int .i64 ((t : Int) + (a : Int) + 1), .int .i64 5] V fun e W' => e = .returned (.tuple #[.int .i64 ((n : Int) + 1 + 1), .int .i64 0]) ∧ TS w W' (fun _ => False) b ⟨a, (n : Int) + 1 + 1, [⟨(n : Int) + 1 + 1, 5, (t : Int) + (a : Int) + 1 + (a : Int)⟩]⟩ ∧ ∀ k, False → W'.heap[k]? = V.heap[k]?) := Lib.hid (fun V hV => by have := stake hV (by show (n : Int) + 1 ≤ _; omega) ((t : Int) + (a : Int) + 1) 5; rw [c8] at this; exact this)
      clear c1 c2 c3 c4 c5 c6 c7 c8 HAll hj hlt
      obtain ⟨m, hm⟩ : ∃ m : Int, 1 + (n : Int) = m := ⟨_, rfl⟩
      rw [Int.add_comm (n : Int) 1, hm] at HC1 HC2 HC3 HC5 HC6 HC7 HC8
      rw [show (n : Int) = m - 1 by omega] at HC1
      have r1 : 1 ≤ m := by omega
      have r2 : m ≤ 9 := by omega
      have HM := Lib.hid hm
      clear hq
      go_upto_region 14 with fail
      rw [hm]
      rw [show ((n + 1 : Nat) : Int) = m by omega, show decide ((n : Int) + 1 < m) = false by rw [decide_eq_false]; omega]
      clear hm p2 p5
      go_wp2_with fail
      refine (HC1.out _ (Below.refl _ _)).mono ?_
      rintro e w4 ⟨rfl, h4⟩
      have H4 := Lib.hid h4
      clear h4 HC1
      go_wp2_with fail
      refine (HC2.out _ H4.out).mono ?_
      rintro e w5 ⟨rfl, h5⟩
      have H5 := Lib.hid (H4.out.trans (h5.mono H4.out.size))
      clear h5 HC2 H4
      go_wp2_with fail
      refine (HC3.out _ H5.out).mono ?_
      rintro e w6 ⟨rfl, h6, _⟩
      have H6 := Lib.hid h6
      clear h6 HC3 H5
      go_wp2_with fail
      refine (HC4.out _ H6.out).mono ?_
      rintro e w7 ⟨rfl, h7⟩
      have H7 := Lib.hid (H6.out.below h7)
      clear h7 HC4 H6
      go_wp2_with fail
      refine (HC5.out _ H7.out).mono ?_
      rintro e w8 ⟨rfl, h8, _⟩
      have H8 := Lib.hid h8
      clear h8 HC5 H7
      go_wp2_with fail
      refine (HC6.out _ H8.out).mono ?_
      rintro e w9 ⟨rfl, h9, _⟩
      have H9 := Lib.hid h9
      clear h9 HC6 H8
      go_wp2_with fail
      refine (HC7.out _ H9.out).mono ?_
      rintro e w10 ⟨rfl, h10⟩
      have H10 := Lib.hid (H9.out.below h10)
      clear h10 HC7 H9
      go_wp2_with fail
      refine (HC8.out _ H10.out).mono ?_
      rintro e w11 ⟨rfl, h11, _⟩
      have HLn := Lib.hid (slen h11)
      have HB := Lib.hid h11.bel
      clear h11 HC8 H10
      go_wp2_with fail
      refine HLn.out.mono ?_
      rintro e w12 ⟨rfl, e2⟩
      subst e2
      go_wp2_with fail
      go_ret
      exact ⟨rfl, HB.out⟩

end Ll
end Go.Proofs.Ytlhcaankfhdakaa
