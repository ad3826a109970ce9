/- What the document's own keys are; contracts; no condition but the range. -/
import Derived.Test.YtmllaighjhpbmaaLtMath
import Derived.Test.YtmllaighjhpbmaaFloat
namespace Go.Proofs.Ytmllaighjhpbmaa
namespace Lt
open Go.RowKit Bk

attribute [local go_sem ↓] Go.wp_at_zero Go.wp_at_succ
attribute [local go_sem] floatUpon pick

set_option maxHeartbeats 1000000 in
theorem key_any (s : ByteArray) (w : World) (hs : s.size ≤ 9223372036854775807) :
    Calls Try.prog 21 #[.string s] w fun e w' => e = .returned (.bool (decide (keyOk s))) ∧ w' = w := by
  by_cases h1 : 1 ≤ s.size
  · by_cases h2 : s.size ≤ 32
    · have E := Lib.hid (show decide (keyOk s) = true from decide_eq_true (⟨h1, h2⟩ : keyOk s))
      have p1 : (1 : Int) ≤ (s.size : Int) := by omega
      have p2 : (s.size : Int) ≤ 32 := by omega
      clear h1 h2
      go_enter Try.func21, Try.ntmps21
      go_wp2_with fail
      go_ret
      exact ⟨by rw [E.out]; rfl, rfl⟩
    · have E := Lib.hid (show decide (keyOk s) = false by rw [decide_eq_false_iff_not]; intro h; exact h2 h.2)
      have p1 : (1 : Int) ≤ (s.size : Int) := by omega
      have p2 : (32 : Int) < (s.size : Int) := by omega
      have H3 := Lib.hid (show decide ((s.size : Int) ≤ 32) = false by rw [decide_eq_false_iff_not]; omega)
      clear h1 h2
      go_enter Try.func21, Try.ntmps21
      go_wp2_with fail
      go_ret
      first | exact ⟨by rw [E.out]; rfl, rfl⟩ | exact ⟨by rw [E.out, ← H3.out]; rfl, rfl⟩
  · have E := Lib.hid (show decide (keyOk s) = false by rw [decide_eq_false_iff_not]; intro h; exact h1 h.1)
    have p1 : (s.size : Int) < 1 := by omega
    clear h1
    go_enter Try.func21, Try.ntmps21
    go_wp2_with fail
    go_ret
    exact ⟨by rw [E.out]; rfl, rfl⟩

set_option maxHeartbeats 1000000 in
theorem txn_any (n : Int) (w : World) (_hn : -9223372036854775808 ≤ n ∧ n ≤ 9223372036854775807) :
    Calls Try.prog 31 #[.int .i64 n] w fun e w' => e = .returned (.bool (decide (txnOk n))) ∧ w' = w := by
  have E := Lib.hid (show decide (txnOk n) = (decide (1 ≤ n) && decide (n ≤ 1125899906842623)) by unfold txnOk; by_cases h1 : 1 ≤ n <;> by_cases h2 : n ≤ 1125899906842623 <;> simp [h1, h2])
  by_cases h1 : 1 ≤ n
  · rw [show decide (1 ≤ n) = true by simpa using h1, Bool.true_and] at E
    go_enter Try.func31, Try.ntmps31
    go_wp2_with fail
    go_ret
    exact ⟨by rw [E.out]; rfl, rfl⟩
  · rw [show decide (1 ≤ n) = false by simpa using h1, Bool.false_and] at E
    have h2 : n < 1 := by omega
    clear h1
    go_enter Try.func31, Try.ntmps31
    go_wp2_with fail
    go_ret
    exact ⟨by rw [E.out]; rfl, rfl⟩

set_option maxHeartbeats 1000000 in
theorem stamp_any (n : Int) (w : World) (_hn : -9223372036854775808 ≤ n ∧ n ≤ 9223372036854775807) :
    Calls Try.prog 32 #[.int .i64 n] w fun e w' => e = .returned (.bool (decide (stampOk n))) ∧ w' = w := by
  have E := Lib.hid (show decide (stampOk n) = (decide (0 ≤ n) && decide (n ≤ 1125899906842624)) by unfold stampOk; by_cases h1 : 0 ≤ n <;> by_cases h2 : n ≤ 1125899906842624 <;> simp [h1, h2])
  by_cases h1 : 0 ≤ n
  · rw [show decide (0 ≤ n) = true by simpa using h1, Bool.true_and] at E
    go_enter Try.func32, Try.ntmps32
    go_wp2_with fail
    go_ret
    exact ⟨by rw [E.out]; rfl, rfl⟩
  · rw [show decide (0 ≤ n) = false by simpa using h1, Bool.false_and] at E
    have h2 : n < 0 := by omega
    clear h1
    go_enter Try.func32, Try.ntmps32
    go_wp2_with fail
    go_ret
    exact ⟨by rw [E.out]; rfl, rfl⟩

set_option maxHeartbeats 1000000 in
theorem one_any (b : Bool) (w : World) :
    Calls Try.prog 47 #[.bool b] w fun e w' => e = .returned (.int .i64 (if b then 1 else 0)) ∧ w' = w := by
  cases b with
  | true =>
    go_enter Try.func47, Try.ntmps47
    go_wp2_with fail
    go_ret
    exact ⟨rfl, rfl⟩
  | false =>
    go_enter Try.func47, Try.ntmps47
    go_wp2_with fail
    go_ret
    exact ⟨rfl, rfl⟩

set_option maxHeartbeats 1000000 in
theorem address_any (n : Int) (w : World) (_hn : -9223372036854775808 ≤ n ∧ n ≤ 9223372036854775807) :
    Calls Try.prog 30 #[.int .i64 n] w fun e w' => e = .returned (.bool (decide (addr n))) ∧ w' = w := by
  by_cases h0 : 0 ≤ n
  · by_cases h1 : n < 12
    · have E := Lib.hid (show decide (addr n) = true by rw [decide_eq_true_eq]; exact .inl ⟨h0, h1⟩)
      go_enter Try.func30, Try.ntmps30
      go_wp2_with fail
      go_ret
      exact ⟨by rw [E.out]; rfl, rfl⟩
    · have h1' : 12 ≤ n := by omega
      by_cases h2 : 100 ≤ n
      · have E := Lib.hid (show decide (addr n) = (decide (n < 12) || decide (n < 116)) by unfold addr; by_cases h3 : n < 116 <;> simp [h0, h1, h2, h3])
        clear h1
        go_enter Try.func30, Try.ntmps30
        go_wp2_with fail
        go_ret
        exact ⟨by rw [E.out]; rfl, rfl⟩
      · have E := Lib.hid (show decide (addr n) = false by unfold addr; simp [h0, h1, h2])
        have h2' : n < 100 := by omega
        have H3 := Lib.hid (show decide (n < 12) = false by simpa using h1)
        clear h1 h2
        go_enter Try.func30, Try.ntmps30
        go_wp2_with fail
        go_ret
        first | exact ⟨by rw [E.out]; rfl, rfl⟩ | exact ⟨by rw [E.out, ← H3.out]; rfl, rfl⟩
  · have E := Lib.hid (show decide (addr n) = false by rw [decide_eq_false_iff_not]; unfold addr; omega)
    have h0' : n < 0 := by omega
    clear h0
    go_enter Try.func30, Try.ntmps30
    go_wp2_with fail
    go_ret
    exact ⟨by rw [E.out]; rfl, rfl⟩

noncomputable def risesB (l : List ByteArray) : Bool := @decide (Rises l) (Classical.propDecidable _)

theorem risesB_true {l : List ByteArray} (h : Rises l) : risesB l = true := by unfold risesB; exact @decide_eq_true _ (Classical.propDecidable _) h
theorem risesB_false {l : List ByteArray} (h : ¬ Rises l) : risesB l = false := by unfold risesB; exact @decide_eq_false _ (Classical.propDecidable _) h

set_option maxRecDepth 20000 in
set_option maxHeartbeats 4000000 in
theorem rising_any (A : Option Addr) (c : Nat) (l : List ByteArray) (w : World) (h : StrsAt w A l) (hn : l.length ≤ 9223372036854775807) (hr : ∀ s ∈ l, s.size ≤ 9223372036854775807) :
    Calls Try.prog 23 #[.slice A l.length c] w fun e w' => e = .returned (.bool (risesB l)) ∧ Below w.heap.size w w' := by
  have HA := Lib.hid h
  have HRr := Lib.hid hr
  clear h hr
  go_enter Try.func23, Try.ntmps23
  go_wp2_with fail
  go_loopw [3] (fun i wr => ∃ j : Nat, j ≤ l.length ∧ i = .int .i64 (j : Int) ∧ Hid (RisesTo l j) ∧ Hid (StrsAt wr A l) ∧ Hid (Below w.heap.size w wr)) (fun i _ => l.length - (intOf i).toNat)
  case atStart => exact ⟨0, by omega, rfl, RisesTo.zero l, HA.out, Below.refl _ _⟩
  case round =>
    obtain ⟨j, hj, rfl, hup, hst, hbel⟩ := hrel
    clear HA
    by_cases hlt : j < l.length
    · have pj : (j : Int) < (l.length : Int) := by omega
      obtain ⟨ad, rfl, _, _⟩ := hst.out (by omega)
      have HK := Lib.hid (fun W => key_any l[j] W (HRr.out _ (List.getElem_mem hlt)))
      by_cases hk : keyOk l[j]
      · rw [show decide (keyOk l[j]) = true by simpa using hk] at HK
        by_cases h0 : 0 < j
        · have p0 : (0 : Int) < (j : Int) := by omega
          have pjm : ((j : Int) - 1).toNat = j - 1 := by omega
          have pjm2 : (j : Int) - 1 < (l.length : Int) := by omega
          have p1j : (1 : Int) ≤ (j : Int) := by omega
          have hwj : IntKind.i64.wrap ((j : Int) - 1) = (j : Int) - 1 := i64_wrap (by omega) (by omega)
          cases hle : leT l[j] (l[j - 1]'(by omega)) with
          | true =>
            have E := Lib.hid (risesB_false (not_rises hlt (fun hh => by have := hh.2 h0; rw [hle] at this; cases this)))
            have hle2 : (Op.bytesLess l[j].toList (l[j - 1]'(by omega)).toList || l[j].toList == (l[j - 1]'(by omega)).toList) = true := hle
            clear hup hk hle
            go_upto_region 4 with fail
            refine wp_region_said 22 [10, 11, 12, 13, 14, 15, 16, 17, 18, 19, 20, 21, 22, 23, 24, 25, 26, 27, 28, 29, 30, 31]
              [.is (.slice (some ad) l.length c), .is (.int .i64 (j : Int)), .is (.pointer (some (ad.add j))), .is (.string l[j]), .is (.bool true), .is (.bool false), .is (.bool false), .is (.int .i64 (j : Int)), .is (.bool true), .is (.bool true), .is (.slice (some ad) l.length c), .is (.int .i64 (j : Int)), .is (.pointer (some (ad.add j))), .is (.string l[j]), .is (.slice (some ad) l.length c), .is (.int .i64 (j : Int)), .is (.int .i64 ((j : Int) - 1)), .is (.pointer (some (ad.add (j - 1)))), .is (.string (l[j - 1]'(by omega))), .is (.bool true), .is (.bool true), .is (.bool true)]
              (fun W => StrsAt W (some ad) l) (by kernel_rfl) (by kernel_rfl) (by kernel_rfl) (by kernel_rfl) (by kernel_rfl) (fun W W' h hb => h.below hb) hst.out ?steps ?last
            case steps =>
              simp only [List.take_succ_cons, List.take_zero]
              refine ⟨?_, ?_, ?_, ?_, ?_, ?_, ?_, ?_, ?_, ?_, ?_, ?_, ?_, ?_, ?_, ?_, ?_, ?_, ?_, ?_, ?_, ?_, trivial⟩
              all_goals
                intro vs W ρ hρ hc hf hg hI hH hd R' hR
                obtain ⟨ad', e', _, hcl⟩ := hI (by omega)
                obtain rfl := Option.some.inj e'
                have x1 := hcl j hlt
                have x2 := hcl (j - 1) (by omega)
                have HR := Lib.hid hR
                simp [depsOf, Region.binds, sayAt, Say.holds] at hd
                clear hR hI hcl e'
                simp only [Region.wanted, hd, boolOf]
                go_simp
                first
                  | exact HR.out _ _ (by simp [sayAt, Say.holds]) (Below.refl _ _) (by simp [sayAt, Say.isBlk])
                  | (refine (HK.out _).mono ?_; rintro e w' ⟨rfl, rfl⟩; exact ⟨_, rfl, HR.out _ _ (by simp [sayAt, Say.holds]) (Below.refl _ _) (by simp [sayAt, Say.isBlk])⟩)
                  | trace_state
            case last =>
              intro vs W hI hb hg hd
              have g21 := hg 21 (by omega)
              simp only [sayAt, Say.holds, List.getD_cons_succ, List.getD_cons_zero] at g21
              simp only [List.take_succ_cons, List.take_zero, List.drop_succ_cons, List.drop_zero, putAll, Act.put, List.setIfInBounds_toArray, List.set_cons_succ, List.set_cons_zero, Nat.zero_add, Nat.reduceAdd]
              rw [g21]
              have HB := Lib.hid (hbel.out.trans (hb.mono hbel.out.size))
              have HS := Lib.hid hI
              clear g21 hg hd hb hI hst hbel
              go_wp2_with fail
              go_ret
              exact ⟨by rw [E.out]; rfl, HB.out⟩
          | false =>
            have HU := Lib.hid (hup.out.succ hlt hk (fun _ => hle))
            have hle2 : (Op.bytesLess l[j].toList (l[j - 1]'(by omega)).toList || l[j].toList == (l[j - 1]'(by omega)).toList) = false := hle
            clear hup hk hle
            go_upto_region 4 with fail
            refine wp_region_said 22 [10, 11, 12, 13, 14, 15, 16, 17, 18, 19, 20, 21, 22, 23, 24, 25, 26, 27, 28, 29, 30, 31]
              [.is (.slice (some ad) l.length c), .is (.int .i64 (j : Int)), .is (.pointer (some (ad.add j))), .is (.string l[j]), .is (.bool true), .is (.bool false), .is (.bool false), .is (.int .i64 (j : Int)), .is (.bool true), .is (.bool true), .is (.slice (some ad) l.length c), .is (.int .i64 (j : Int)), .is (.pointer (some (ad.add j))), .is (.string l[j]), .is (.slice (some ad) l.length c), .is (.int .i64 (j : Int)), .is (.int .i64 ((j : Int) - 1)), .is (.pointer (some (ad.add (j - 1)))), .is (.string (l[j - 1]'(by omega))), .is (.bool false), .is (.bool false), .is (.bool false)]
              (fun W => StrsAt W (some ad) l) (by kernel_rfl) (by kernel_rfl) (by kernel_rfl) (by kernel_rfl) (by kernel_rfl) (fun W W' h hb => h.below hb) hst.out ?steps ?last
            case steps =>
              simp only [List.take_succ_cons, List.take_zero]
              refine ⟨?_, ?_, ?_, ?_, ?_, ?_, ?_, ?_, ?_, ?_, ?_, ?_, ?_, ?_, ?_, ?_, ?_, ?_, ?_, ?_, ?_, ?_, trivial⟩
              all_goals
                intro vs W ρ hρ hc hf hg hI hH hd R' hR
                obtain ⟨ad', e', _, hcl⟩ := hI (by omega)
                obtain rfl := Option.some.inj e'
                have x1 := hcl j hlt
                have x2 := hcl (j - 1) (by omega)
                have HR := Lib.hid hR
                simp [depsOf, Region.binds, sayAt, Say.holds] at hd
                clear hR hI hcl e'
                simp only [Region.wanted, hd, boolOf]
                go_simp
                first
                  | exact HR.out _ _ (by simp [sayAt, Say.holds]) (Below.refl _ _) (by simp [sayAt, Say.isBlk])
                  | (refine (HK.out _).mono ?_; rintro e w' ⟨rfl, rfl⟩; exact ⟨_, rfl, HR.out _ _ (by simp [sayAt, Say.holds]) (Below.refl _ _) (by simp [sayAt, Say.isBlk])⟩)
                  | trace_state
            case last =>
              intro vs W hI hb hg hd
              have g21 := hg 21 (by omega)
              simp only [sayAt, Say.holds, List.getD_cons_succ, List.getD_cons_zero] at g21
              simp only [List.take_succ_cons, List.take_zero, List.drop_succ_cons, List.drop_zero, putAll, Act.put, List.setIfInBounds_toArray, List.set_cons_succ, List.set_cons_zero, Nat.zero_add, Nat.reduceAdd]
              rw [g21]
              have HB := Lib.hid (hbel.out.trans (hb.mono hbel.out.size))
              have HS := Lib.hid hI
              clear g21 hg hd hb hI hst hbel
              go_wp2_with fail
              go_roundw
              case rel => exact ⟨j + 1, by omega, by go_num, HU.out, HS.out, HB.out⟩
              case measure => simp [intOf]; omega
        · have pj0 : (j : Int) ≤ 0 := by omega
          have HU := Lib.hid (hup.out.succ hlt hk (fun hh => absurd hh (by omega)))
          clear hup hk
          go_upto_region 4 with fail
          refine wp_region_said 22 [10, 11, 12, 13, 14, 15, 16, 17, 18, 19, 20, 21, 22, 23, 24, 25, 26, 27, 28, 29, 30, 31]
            [.is (.slice (some ad) l.length c), .is (.int .i64 (j : Int)), .is (.pointer (some (ad.add j))), .is (.string l[j]), .is (.bool true), .is (.bool false), .is (.bool false), .is (.int .i64 (j : Int)), .is (.bool false), .is (.bool false), .is undef, .is undef, .is undef, .is undef, .is undef, .is undef, .is undef, .is undef, .is undef, .is undef, .is (.bool false), .is (.bool false)]
            (fun W => StrsAt W (some ad) l) (by kernel_rfl) (by kernel_rfl) (by kernel_rfl) (by kernel_rfl) (by kernel_rfl) (fun W W' h hb => h.below hb) hst.out ?steps ?last
          case steps =>
            simp only [List.take_succ_cons, List.take_zero]
            refine ⟨?_, ?_, ?_, ?_, ?_, ?_, ?_, ?_, ?_, ?_, ?_, ?_, ?_, ?_, ?_, ?_, ?_, ?_, ?_, ?_, ?_, ?_, trivial⟩
            all_goals
              intro vs W ρ hρ hc hf hg hI hH hd R' hR
              obtain ⟨ad', e', _, hcl⟩ := hI (by omega)
              obtain rfl := Option.some.inj e'
              have x1 := hcl j hlt
              have HR := Lib.hid hR
              simp [depsOf, Region.binds, sayAt, Say.holds] at hd
              clear hR hI hcl e'
              simp only [Region.wanted, hd, boolOf]
              go_simp
              first
                | exact HR.out _ _ (by simp [sayAt, Say.holds]) (Below.refl _ _) (by simp [sayAt, Say.isBlk])
                | (refine (HK.out _).mono ?_; rintro e w' ⟨rfl, rfl⟩; exact ⟨_, rfl, HR.out _ _ (by simp [sayAt, Say.holds]) (Below.refl _ _) (by simp [sayAt, Say.isBlk])⟩)
                | trace_state
          case last =>
            intro vs W hI hb hg hd
            have g21 := hg 21 (by omega)
            simp only [sayAt, Say.holds, List.getD_cons_succ, List.getD_cons_zero] at g21
            simp only [List.take_succ_cons, List.take_zero, List.drop_succ_cons, List.drop_zero, putAll, Act.put, List.setIfInBounds_toArray, List.set_cons_succ, List.set_cons_zero, Nat.zero_add, Nat.reduceAdd]
            rw [g21]
            have HB := Lib.hid (hbel.out.trans (hb.mono hbel.out.size))
            have HS := Lib.hid hI
            clear g21 hg hd hb hI hst hbel
            go_wp2_with fail
            go_roundw
            case rel => exact ⟨j + 1, by omega, by go_num, HU.out, HS.out, HB.out⟩
            case measure => simp [intOf]; omega
      · rw [show decide (keyOk l[j]) = false by simpa using hk] at HK
        have E := Lib.hid (risesB_false (not_rises hlt (fun hh => hk hh.1)))
        clear hup hk
        go_upto_region 4 with fail
        refine wp_region_said 22 [10, 11, 12, 13, 14, 15, 16, 17, 18, 19, 20, 21, 22, 23, 24, 25, 26, 27, 28, 29, 30, 31]
          [.is (.slice (some ad) l.length c), .is (.int .i64 (j : Int)), .is (.pointer (some (ad.add j))), .is (.string l[j]), .is (.bool false), .is (.bool true), .is (.bool true), .is undef, .is undef, .is undef, .is undef, .is undef, .is undef, .is undef, .is undef, .is undef, .is undef, .is undef, .is undef, .is undef, .is undef, .is (.bool true)]
          (fun W => StrsAt W (some ad) l) (by kernel_rfl) (by kernel_rfl) (by kernel_rfl) (by kernel_rfl) (by kernel_rfl) (fun W W' h hb => h.below hb) hst.out ?steps ?last
        case steps =>
          simp only [List.take_succ_cons, List.take_zero]
          refine ⟨?_, ?_, ?_, ?_, ?_, ?_, ?_, ?_, ?_, ?_, ?_, ?_, ?_, ?_, ?_, ?_, ?_, ?_, ?_, ?_, ?_, ?_, trivial⟩
          all_goals
            intro vs W ρ hρ hc hf hg hI hH hd R' hR
            obtain ⟨ad', e', _, hcl⟩ := hI (by omega)
            obtain rfl := Option.some.inj e'
            have x1 := hcl j hlt
            have HR := Lib.hid hR
            simp [depsOf, Region.binds, sayAt, Say.holds] at hd
            clear hR hI hcl e'
            simp only [Region.wanted, hd, boolOf]
            go_simp
            first
              | exact HR.out _ _ (by simp [sayAt, Say.holds]) (Below.refl _ _) (by simp [sayAt, Say.isBlk])
              | (refine (HK.out _).mono ?_; rintro e w' ⟨rfl, rfl⟩; exact ⟨_, rfl, HR.out _ _ (by simp [sayAt, Say.holds]) (Below.refl _ _) (by simp [sayAt, Say.isBlk])⟩)
              | trace_state
        case last =>
          intro vs W hI hb hg hd
          have g21 := hg 21 (by omega)
          simp only [sayAt, Say.holds, List.getD_cons_succ, List.getD_cons_zero] at g21
          simp only [List.take_succ_cons, List.take_zero, List.drop_succ_cons, List.drop_zero, putAll, Act.put, List.setIfInBounds_toArray, List.set_cons_succ, List.set_cons_zero, Nat.zero_add, Nat.reduceAdd]
          rw [g21]
          have HB := Lib.hid (hbel.out.trans (hb.mono hbel.out.size))
          have HS := Lib.hid hI
          clear g21 hg hd hb hI hst hbel
          go_wp2_with fail
          go_ret
          exact ⟨by rw [E.out]; rfl, HB.out⟩
    · obtain rfl : j = l.length := by omega
      have E := Lib.hid (risesB_true hup.out.all)
      have HB := hbel
      clear hup hst
      go_wp2_with fail
      go_ret
      exact ⟨by rw [E.out]; rfl, HB.out⟩

end Lt
end Go.Proofs.Ytmllaighjhpbmaa
