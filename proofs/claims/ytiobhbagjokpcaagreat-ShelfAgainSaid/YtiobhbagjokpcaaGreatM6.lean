/- Parts of the proof, joined: LtRef, LtWrs; their conditions stand with each. -/
import Derived.Test.YtiobhbagjokpcaaGreatM4
import Derived.Test.YtiobhbagjokpcaaGreatM5

/- What the document's own keys are; contracts; no condition but the range. -/
namespace Go.Proofs.YtiobhbagjokpcaaGreat
namespace Lt
open Go.RowKit Bk

attribute [local go_sem ↓] Go.wp_at_zero Go.wp_at_succ
attribute [local go_sem] floatUpon pick

set_option maxHeartbeats 1000000 in
theorem key_any (s : ByteArray) (w : World) (hs : s.size ≤ 9223372036854775807) :
    Calls Tryz.prog 69 #[.string s] w fun e w' => e = .returned (.bool (decide (keyOk s))) ∧ w' = w := by
  by_cases h1 : 1 ≤ s.size
  · by_cases h2 : s.size ≤ 32
    · have E := Lib.hid (show decide (keyOk s) = true from decide_eq_true (⟨h1, h2⟩ : keyOk s))
      have p1 : (1 : Int) ≤ (s.size : Int) := by omega
      have p2 : (s.size : Int) ≤ 32 := by omega
      clear h1 h2
      go_enter Tryz.func69, Tryz.ntmps69
      go_wp2_with fail
      go_ret
      exact ⟨by rw [E.out]; rfl, rfl⟩
    · have E := Lib.hid (show decide (keyOk s) = false by rw [decide_eq_false_iff_not]; intro h; exact h2 h.2)
      have p1 : (1 : Int) ≤ (s.size : Int) := by omega
      have p2 : (32 : Int) < (s.size : Int) := by omega
      have H3 := Lib.hid (show decide ((s.size : Int) ≤ 32) = false by rw [decide_eq_false_iff_not]; omega)
      clear h1 h2
      go_enter Tryz.func69, Tryz.ntmps69
      go_wp2_with fail
      go_ret
      first | exact ⟨by rw [E.out]; rfl, rfl⟩ | exact ⟨by rw [E.out, ← H3.out]; rfl, rfl⟩
  · have E := Lib.hid (show decide (keyOk s) = false by rw [decide_eq_false_iff_not]; intro h; exact h1 h.1)
    have p1 : (s.size : Int) < 1 := by omega
    clear h1
    go_enter Tryz.func69, Tryz.ntmps69
    go_wp2_with fail
    go_ret
    exact ⟨by rw [E.out]; rfl, rfl⟩

set_option maxHeartbeats 1000000 in
theorem txn_any (n : Int) (w : World) (_hn : -9223372036854775808 ≤ n ∧ n ≤ 9223372036854775807) :
    Calls Tryz.prog 65 #[.int .i64 n] w fun e w' => e = .returned (.bool (decide (txnOk n))) ∧ w' = w := by
  have E := Lib.hid (show decide (txnOk n) = (decide (1 ≤ n) && decide (n ≤ 1125899906842623)) by unfold txnOk; by_cases h1 : 1 ≤ n <;> by_cases h2 : n ≤ 1125899906842623 <;> simp [h1, h2])
  by_cases h1 : 1 ≤ n
  · rw [show decide (1 ≤ n) = true by simpa using h1, Bool.true_and] at E
    go_enter Tryz.func65, Tryz.ntmps65
    go_wp2_with fail
    go_ret
    exact ⟨by rw [E.out]; rfl, rfl⟩
  · rw [show decide (1 ≤ n) = false by simpa using h1, Bool.false_and] at E
    have h2 : n < 1 := by omega
    clear h1
    go_enter Tryz.func65, Tryz.ntmps65
    go_wp2_with fail
    go_ret
    exact ⟨by rw [E.out]; rfl, rfl⟩

set_option maxHeartbeats 1000000 in
theorem stamp_any (n : Int) (w : World) (_hn : -9223372036854775808 ≤ n ∧ n ≤ 9223372036854775807) :
    Calls Tryz.prog 66 #[.int .i64 n] w fun e w' => e = .returned (.bool (decide (stampOk n))) ∧ w' = w := by
  have E := Lib.hid (show decide (stampOk n) = (decide (0 ≤ n) && decide (n ≤ 1125899906842624)) by unfold stampOk; by_cases h1 : 0 ≤ n <;> by_cases h2 : n ≤ 1125899906842624 <;> simp [h1, h2])
  by_cases h1 : 0 ≤ n
  · rw [show decide (0 ≤ n) = true by simpa using h1, Bool.true_and] at E
    go_enter Tryz.func66, Tryz.ntmps66
    go_wp2_with fail
    go_ret
    exact ⟨by rw [E.out]; rfl, rfl⟩
  · rw [show decide (0 ≤ n) = false by simpa using h1, Bool.false_and] at E
    have h2 : n < 0 := by omega
    clear h1
    go_enter Tryz.func66, Tryz.ntmps66
    go_wp2_with fail
    go_ret
    exact ⟨by rw [E.out]; rfl, rfl⟩

noncomputable def risesB (l : List ByteArray) : Bool := @decide (Rises l) (Classical.propDecidable _)

theorem risesB_true {l : List ByteArray} (h : Rises l) : risesB l = true := by unfold risesB; exact @decide_eq_true _ (Classical.propDecidable _) h
theorem risesB_false {l : List ByteArray} (h : ¬ Rises l) : risesB l = false := by unfold risesB; exact @decide_eq_false _ (Classical.propDecidable _) h

set_option maxRecDepth 20000 in
set_option maxHeartbeats 4000000 in
theorem rising_any (A : Option Addr) (c : Nat) (l : List ByteArray) (w : World) (h : StrsAt w A l) (hn : l.length ≤ 9223372036854775807) (hr : ∀ s ∈ l, s.size ≤ 9223372036854775807) :
    Calls Tryz.prog 67 #[.slice A l.length c] w fun e w' => e = .returned (.bool (risesB l)) ∧ Below w.heap.size w w' := by
  have HA := Lib.hid h
  have HRr := Lib.hid hr
  clear h hr
  go_enter Tryz.func67, Tryz.ntmps67
  go_wp2_with fail
  go_loopw [3] (fun i wr => ∃ j : Nat, j ≤ l.length ∧ i = .int .i64 (j : Int) ∧ Hid (RisesTo l j) ∧ Hid (StrsAt wr A l) ∧ Hid (Below w.heap.size w wr)) (fun i _ => l.length - (intOf i).toNat)
  case atStart => exact ⟨0, by omega, rfl, RisesTo.zero l, HA.out, Below.refl _ _⟩
  case round =>
    obtain ⟨j, hj, rfl, hup, hst, hbel⟩ := hrel
    clear HA
    by_cases hlt : j < l.length
    · have pj : (j : Int) < (l.length : Int) := by omega
      obtain ⟨ad, rfl, _, _⟩ := hst.out (by omega)
      have HK := Lib.hid (fun W => key_any l[j] W (HRr.out _ (List.getElem_mem hlt)))
      by_cases hk : keyOk l[j]
      · rw [show decide (keyOk l[j]) = true by simpa using hk] at HK
        by_cases h0 : 0 < j
        · have p0 : (0 : Int) < (j : Int) := by omega
          have pjm : ((j : Int) - 1).toNat = j - 1 := by omega
          have pjm2 : (j : Int) - 1 < (l.length : Int) := by omega
          have p1j : (1 : Int) ≤ (j : Int) := by omega
          have hwj : IntKind.i64.wrap ((j : Int) - 1) = (j : Int) - 1 := i64_wrap (by omega) (by omega)
          cases hle : leT l[j] (l[j - 1]'(by omega)) with
          | true =>
            have E := Lib.hid (risesB_false (not_rises hlt (fun hh => by have := hh.2 h0; rw [hle] at this; cases this)))
            have hle2 : (Op.bytesLess l[j].toList (l[j - 1]'(by omega)).toList || l[j].toList == (l[j - 1]'(by omega)).toList) = true := hle
            clear hup hk hle
            go_upto_region 4 with fail
            refine wp_region_said 22 [10, 11, 12, 13, 14, 15, 16, 17, 18, 19, 20, 21, 22, 23, 24, 25, 26, 27, 28, 29, 30, 31]
              [.is (.slice (some ad) l.length c), .is (.int .i64 (j : Int)), .is (.pointer (some (ad.add j))), .is (.string l[j]), .is (.bool true), .is (.bool false), .is (.bool false), .is (.int .i64 (j : Int)), .is (.bool true), .is (.bool true), .is (.slice (some ad) l.length c), .is (.int .i64 (j : Int)), .is (.pointer (some (ad.add j))), .is (.string l[j]), .is (.slice (some ad) l.length c), .is (.int .i64 (j : Int)), .is (.int .i64 ((j : Int) - 1)), .is (.pointer (some (ad.add (j - 1)))), .is (.string (l[j - 1]'(by omega))), .is (.bool true), .is (.bool true), .is (.bool true)]
              (fun W => StrsAt W (some ad) l) (by kernel_rfl) (by kernel_rfl) (by kernel_rfl) (by kernel_rfl) (by kernel_rfl) (fun W W' h hb => h.below hb) hst.out ?steps ?last
            case steps =>
              simp only [List.take_succ_cons, List.take_zero]
              refine ⟨?_, ?_, ?_, ?_, ?_, ?_, ?_, ?_, ?_, ?_, ?_, ?_, ?_, ?_, ?_, ?_, ?_, ?_, ?_, ?_, ?_, ?_, trivial⟩
              all_goals
                intro vs W ρ hρ hc hf hg hI hH hd R' hR
                obtain ⟨ad', e', _, hcl⟩ := hI (by omega)
                obtain rfl := Option.some.inj e'
                have x1 := hcl j hlt
                have x2 := hcl (j - 1) (by omega)
                have HR := Lib.hid hR
                simp [depsOf, Region.binds, sayAt, Say.holds] at hd
                clear hR hI hcl e'
                simp only [Region.wanted, hd, boolOf]
                go_simp
                first
                  | exact HR.out _ _ (by simp [sayAt, Say.holds]) (Below.refl _ _) (by simp [sayAt, Say.isBlk])
                  | (refine (HK.out _).mono ?_; rintro e w' ⟨rfl, rfl⟩; exact ⟨_, rfl, HR.out _ _ (by simp [sayAt, Say.holds]) (Below.refl _ _) (by simp [sayAt, Say.isBlk])⟩)
                  | trace_state
            case last =>
              intro vs W hI hb hg hd
              have g21 := hg 21 (by omega)
              simp only [sayAt, Say.holds, List.getD_cons_succ, List.getD_cons_zero] at g21
              simp only [List.take_succ_cons, List.take_zero, List.drop_succ_cons, List.drop_zero, putAll, Act.put, List.setIfInBounds_toArray, List.set_cons_succ, List.set_cons_zero, Nat.zero_add, Nat.reduceAdd]
              rw [g21]
              have HB := Lib.hid (hbel.out.trans (hb.mono hbel.out.size))
              have HS := Lib.hid hI
              clear g21 hg hd hb hI hst hbel
              go_wp2_with fail
              go_ret
              exact ⟨by rw [E.out]; rfl, HB.out⟩
          | false =>
            have HU := Lib.hid (hup.out.succ hlt hk (fun _ => hle))
            have hle2 : (Op.bytesLess l[j].toList (l[j - 1]'(by omega)).toList || l[j].toList == (l[j - 1]'(by omega)).toList) = false := hle
            clear hup hk hle
            go_upto_region 4 with fail
            refine wp_region_said 22 [10, 11, 12, 13, 14, 15, 16, 17, 18, 19, 20, 21, 22, 23, 24, 25, 26, 27, 28, 29, 30, 31]
              [.is (.slice (some ad) l.length c), .is (.int .i64 (j : Int)), .is (.pointer (some (ad.add j))), .is (.string l[j]), .is (.bool true), .is (.bool false), .is (.bool false), .is (.int .i64 (j : Int)), .is (.bool true), .is (.bool true), .is (.slice (some ad) l.length c), .is (.int .i64 (j : Int)), .is (.pointer (some (ad.add j))), .is (.string l[j]), .is (.slice (some ad) l.length c), .is (.int .i64 (j : Int)), .is (.int .i64 ((j : Int) - 1)), .is (.pointer (some (ad.add (j - 1)))), .is (.string (l[j - 1]'(by omega))), .is (.bool false), .is (.bool false), .is (.bool false)]
              (fun W => StrsAt W (some ad) l) (by kernel_rfl) (by kernel_rfl) (by kernel_rfl) (by kernel_rfl) (by kernel_rfl) (fun W W' h hb => h.below hb) hst.out ?steps ?last
            case steps =>
              simp only [List.take_succ_cons, List.take_zero]
              refine ⟨?_, ?_, ?_, ?_, ?_, ?_, ?_, ?_, ?_, ?_, ?_, ?_, ?_, ?_, ?_, ?_, ?_, ?_, ?_, ?_, ?_, ?_, trivial⟩
              all_goals
                intro vs W ρ hρ hc hf hg hI hH hd R' hR
                obtain ⟨ad', e', _, hcl⟩ := hI (by omega)
                obtain rfl := Option.some.inj e'
                have x1 := hcl j hlt
                have x2 := hcl (j - 1) (by omega)
                have HR := Lib.hid hR
                simp [depsOf, Region.binds, sayAt, Say.holds] at hd
                clear hR hI hcl e'
                simp only [Region.wanted, hd, boolOf]
                go_simp
                first
                  | exact HR.out _ _ (by simp [sayAt, Say.holds]) (Below.refl _ _) (by simp [sayAt, Say.isBlk])
                  | (refine (HK.out _).mono ?_; rintro e w' ⟨rfl, rfl⟩; exact ⟨_, rfl, HR.out _ _ (by simp [sayAt, Say.holds]) (Below.refl _ _) (by simp [sayAt, Say.isBlk])⟩)
                  | trace_state
            case last =>
              intro vs W hI hb hg hd
              have g21 := hg 21 (by omega)
              simp only [sayAt, Say.holds, List.getD_cons_succ, List.getD_cons_zero] at g21
              simp only [List.take_succ_cons, List.take_zero, List.drop_succ_cons, List.drop_zero, putAll, Act.put, List.setIfInBounds_toArray, List.set_cons_succ, List.set_cons_zero, Nat.zero_add, Nat.reduceAdd]
              rw [g21]
              have HB := Lib.hid (hbel.out.trans (hb.mono hbel.out.size))
              have HS := Lib.hid hI
              clear g21 hg hd hb hI hst hbel
              go_wp2_with fail
              go_roundw
              case rel => exact ⟨j + 1, by omega, by go_num, HU.out, HS.out, HB.out⟩
              case measure => simp [intOf]; omega
        · have pj0 : (j : Int) ≤ 0 := by omega
          have HU := Lib.hid (hup.out.succ hlt hk (fun hh => absurd hh (by omega)))
          clear hup hk
          go_upto_region 4 with fail
          refine wp_region_said 22 [10, 11, 12, 13, 14, 15, 16, 17, 18, 19, 20, 21, 22, 23, 24, 25, 26, 27, 28, 29, 30, 31]
            [.is (.slice (some ad) l.length c), .is (.int .i64 (j : Int)), .is (.pointer (some (ad.add j))), .is (.string l[j]), .is (.bool true), .is (.bool false), .is (.bool false), .is (.int .i64 (j : Int)), .is (.bool false), .is (.bool false), .is undef, .is undef, .is undef, .is undef, .is undef, .is undef, .is undef, .is undef, .is undef, .is undef, .is (.bool false), .is (.bool false)]
            (fun W => StrsAt W (some ad) l) (by kernel_rfl) (by kernel_rfl) (by kernel_rfl) (by kernel_rfl) (by kernel_rfl) (fun W W' h hb => h.below hb) hst.out ?steps ?last
          case steps =>
            simp only [List.take_succ_cons, List.take_zero]
            refine ⟨?_, ?_, ?_, ?_, ?_, ?_, ?_, ?_, ?_, ?_, ?_, ?_, ?_, ?_, ?_, ?_, ?_, ?_, ?_, ?_, ?_, ?_, trivial⟩
            all_goals
              intro vs W ρ hρ hc hf hg hI hH hd R' hR
              obtain ⟨ad', e', _, hcl⟩ := hI (by omega)
              obtain rfl := Option.some.inj e'
              have x1 := hcl j hlt
              have HR := Lib.hid hR
              simp [depsOf, Region.binds, sayAt, Say.holds] at hd
              clear hR hI hcl e'
              simp only [Region.wanted, hd, boolOf]
              go_simp
              first
                | exact HR.out _ _ (by simp [sayAt, Say.holds]) (Below.refl _ _) (by simp [sayAt, Say.isBlk])
                | (refine (HK.out _).mono ?_; rintro e w' ⟨rfl, rfl⟩; exact ⟨_, rfl, HR.out _ _ (by simp [sayAt, Say.holds]) (Below.refl _ _) (by simp [sayAt, Say.isBlk])⟩)
                | trace_state
          case last =>
            intro vs W hI hb hg hd
            have g21 := hg 21 (by omega)
            simp only [sayAt, Say.holds, List.getD_cons_succ, List.getD_cons_zero] at g21
            simp only [List.take_succ_cons, List.take_zero, List.drop_succ_cons, List.drop_zero, putAll, Act.put, List.setIfInBounds_toArray, List.set_cons_succ, List.set_cons_zero, Nat.zero_add, Nat.reduceAdd]
            rw [g21]
            have HB := Lib.hid (hbel.out.trans (hb.mono hbel.out.size))
            have HS := Lib.hid hI
            clear g21 hg hd hb hI hst hbel
            go_wp2_with fail
            go_roundw
            case rel => exact ⟨j + 1, by omega, by go_num, HU.out, HS.out, HB.out⟩
            case measure => simp [intOf]; omega
      · rw [show decide (keyOk l[j]) = false by simpa using hk] at HK
        have E := Lib.hid (risesB_false (not_rises hlt (fun hh => hk hh.1)))
        clear hup hk
        go_upto_region 4 with fail
        refine wp_region_said 22 [10, 11, 12, 13, 14, 15, 16, 17, 18, 19, 20, 21, 22, 23, 24, 25, 26, 27, 28, 29, 30, 31]
          [.is (.slice (some ad) l.length c), .is (.int .i64 (j : Int)), .is (.pointer (some (ad.add j))), .is (.string l[j]), .is (.bool false), .is (.bool true), .is (.bool true), .is undef, .is undef, .is undef, .is undef, .is undef, .is undef, .is undef, .is undef, .is undef, .is undef, .is undef, .is undef, .is undef, .is undef, .is (.bool true)]
          (fun W => StrsAt W (some ad) l) (by kernel_rfl) (by kernel_rfl) (by kernel_rfl) (by kernel_rfl) (by kernel_rfl) (fun W W' h hb => h.below hb) hst.out ?steps ?last
        case steps =>
          simp only [List.take_succ_cons, List.take_zero]
          refine ⟨?_, ?_, ?_, ?_, ?_, ?_, ?_, ?_, ?_, ?_, ?_, ?_, ?_, ?_, ?_, ?_, ?_, ?_, ?_, ?_, ?_, ?_, trivial⟩
          all_goals
            intro vs W ρ hρ hc hf hg hI hH hd R' hR
            obtain ⟨ad', e', _, hcl⟩ := hI (by omega)
            obtain rfl := Option.some.inj e'
            have x1 := hcl j hlt
            have HR := Lib.hid hR
            simp [depsOf, Region.binds, sayAt, Say.holds] at hd
            clear hR hI hcl e'
            simp only [Region.wanted, hd, boolOf]
            go_simp
            first
              | exact HR.out _ _ (by simp [sayAt, Say.holds]) (Below.refl _ _) (by simp [sayAt, Say.isBlk])
              | (refine (HK.out _).mono ?_; rintro e w' ⟨rfl, rfl⟩; exact ⟨_, rfl, HR.out _ _ (by simp [sayAt, Say.holds]) (Below.refl _ _) (by simp [sayAt, Say.isBlk])⟩)
              | trace_state
        case last =>
          intro vs W hI hb hg hd
          have g21 := hg 21 (by omega)
          simp only [sayAt, Say.holds, List.getD_cons_succ, List.getD_cons_zero] at g21
          simp only [List.take_succ_cons, List.take_zero, List.drop_succ_cons, List.drop_zero, putAll, Act.put, List.setIfInBounds_toArray, List.set_cons_succ, List.set_cons_zero, Nat.zero_add, Nat.reduceAdd]
          rw [g21]
          have HB := Lib.hid (hbel.out.trans (hb.mono hbel.out.size))
          have HS := Lib.hid hI
          clear g21 hg hd hb hI hst hbel
          go_wp2_with fail
          go_ret
          exact ⟨by rw [E.out]; rfl, HB.out⟩
    · obtain rfl : j = l.length := by omega
      have E := Lib.hid (risesB_true hup.out.all)
      have HB := hbel
      clear hup hst
      go_wp2_with fail
      go_ret
      exact ⟨by rw [E.out]; rfl, HB.out⟩

end Lt
end Go.Proofs.YtiobhbagjokpcaaGreat

/- What the document's own writes may be; contract; no condition but the range. -/
namespace Go.Proofs.YtiobhbagjokpcaaGreat
namespace Lt
open Go.RowKit Bk

attribute [local go_sem ↓] Go.wp_at_zero Go.wp_at_succ
attribute [local go_sem] floatUpon pick

theorem add_field (a : Addr) (n k : Nat) (hk : 0 < k) : (⟨(a.add n).block, (a.add n).off + k, none⟩ : Addr) = a.add (n + k) := by
  unfold Addr.add
  by_cases h : n = 0
  · rw [if_pos h, if_neg (by omega), h, Nat.zero_add]
  · rw [if_neg h, if_neg (by omega)]
    simp only [Nat.add_assoc]

/-- the slice v holds the writes l: three cells each -/
def WrsAt (w : World) (A : Option Addr) (l : List Wr) : Prop :=
  0 < l.length → ∃ ad, A = some ad ∧ ad.block < w.heap.size ∧ ∀ i (h : i < l.length), w.cell? (ad.add (i * 3)) = some (.string l[i].key) ∧ w.cell? (ad.add (i * 3 + 1)) = some (.string l[i].shard) ∧ w.cell? (ad.add (i * 3 + 2)) = some (.bool l[i].dead)

theorem WrsAt.below {w w' : World} {A : Option Addr} {l : List Wr} (h : WrsAt w A l) (hb : Below w.heap.size w w') : WrsAt w' A l := fun hp => by
  obtain ⟨ad, h1, h2, h3⟩ := h hp
  exact ⟨ad, h1, Nat.lt_of_lt_of_le h2 hb.size, fun i hi => ⟨(cell_kept hb _ (by rw [st_block]; exact h2)).trans (h3 i hi).1, (cell_kept hb _ (by rw [st_block]; exact h2)).trans (h3 i hi).2.1, (cell_kept hb _ (by rw [st_block]; exact h2)).trans (h3 i hi).2.2⟩⟩

theorem WrsAt.alloc {w : World} {A : Option Addr} {l : List Wr} (h : WrsAt w A l) (o : Obj) : WrsAt (w.alloc o) A l := h.below ((Below.refl _ w).alloc (Nat.le_refl _) o)

noncomputable def writesB (l : List Wr) : Bool := @decide (WritesOk l) (Classical.propDecidable _)

theorem writesB_true {l : List Wr} (h : WritesOk l) : writesB l = true := by unfold writesB; exact @decide_eq_true _ (Classical.propDecidable _) h
theorem writesB_false {l : List Wr} (h : ¬ WritesOk l) : writesB l = false := by unfold writesB; exact @decide_eq_false _ (Classical.propDecidable _) h

theorem writesB_eq {l : List Wr} (h1 : l.length ≤ 16) (h2 : ∀ x ∈ l, wrOk x) : writesB l = risesB (l.map Wr.key) := by
  by_cases h : Rises (l.map Wr.key)
  · rw [risesB_true h, writesB_true ⟨h1, h2, h⟩]
  · rw [risesB_false h, writesB_false (fun hh => h hh.2.2)]

theorem mem_take_succ {α : Type} {l : List α} {j : Nat} (h : j < l.length) {p : α → Prop} (h1 : ∀ x ∈ l.take j, p x) (h2 : p l[j]) : ∀ x ∈ l.take (j + 1), p x := by
  intro x hx
  rw [List.take_add_one, List.getElem?_eq_getElem h] at hx
  rcases List.mem_append.1 hx with hx | hx
  · exact h1 x hx
  · rw [Option.toList_some, List.mem_singleton] at hx
    rw [hx]; exact h2

theorem keys_take {l : List Wr} {j : Nat} (h : j < l.length) : strV ((l.map Wr.key).take (j + 1)) = strV ((l.map Wr.key).take j) ++ [.string l[j].key] := by
  unfold strV
  rw [List.take_add_one, List.getElem?_map, List.getElem?_eq_getElem h, List.map_append]
  rfl

set_option maxRecDepth 20000 in
set_option maxHeartbeats 4000000 in
theorem writes_any (A : Option Addr) (c : Nat) (l : List Wr) (w : World) (h : WrsAt w A l) (hn : l.length * 16 + 16 ≤ 140737488355328) (hr : ∀ x ∈ l, x.key.size ≤ 9223372036854775807 ∧ x.shard.size ≤ 9223372036854775807) :
    Calls Tryz.prog 68 #[.slice A l.length c] w fun e w' => e = .returned (.bool (writesB l)) ∧ Below w.heap.size w w' := by
  obtain ⟨i0, hi, hz0, hz1, hz2⟩ := info_parts Tryz.infoStr
  have HRr := Lib.hid hr
  have HA := Lib.hid h
  clear h hr
  go_enter Tryz.func68, Tryz.ntmps68
  go_wp2_with fail
  go_loopw [3, 4] (fun u i wr => ∃ j : Nat, j ≤ l.length ∧ i = .int .i64 (j : Int) ∧ Hid (∀ x ∈ l.take j, wrOk x) ∧ Hid (wr.ownsRow w.heap.size 9 1 u j (strV ((l.map Wr.key).take j))) ∧ Hid (Below w.heap.size w wr)) (fun _ i _ => l.length - (intOf i).toNat)
  case atStart => exact ⟨0, by omega, rfl, fun x hx => absurd hx (by simp), World.ownsRow_nil _ _ _ _, Below.refl _ _⟩
  case round =>
    obtain ⟨j, hj, rfl, hall, hown, hbel⟩ := hrel
    by_cases hlt : j < l.length
    · have pj : (j : Int) < (l.length : Int) := by omega
      obtain ⟨ad, rfl, _, _⟩ := HA.out (by omega)
      obtain ⟨ad', e', hab, hcl⟩ := (HA.out.below hbel.out) (by omega)
      obtain rfl := Option.some.inj e'
      obtain ⟨x1, -, -⟩ := hcl j hlt
      have hkt := keys_take hlt
      have hmem : l[j] ∈ l := List.getElem_mem hlt
      have HKt := Lib.hid hkt
      generalize hX : l[j] = X at x1 hkt hmem HKt
      have HX := Lib.hid hX
      clear hkt hX hcl e' hab
      go_upto_region 6 with (at_builtin; refine wpList_append_own _ rfl _ _ 23 rfl w.heap.size 9 i0 (.string ⟨#[]⟩) 1 16 Tryz.underlying23 hi hz0 hz1 hz2 rfl (by decide) _ _ _ rfl (hown.out.alloc _) ⟨wr.heap.size, 0, none⟩ 1 1 [.string X.key] rfl rfl ?c1 ?c2 ?c3 ?c4 ?c5 ?_)
      case c1 => exact cell_one_new _ _ _
      case c2 => intro q hq; simp at hq; subst hq; rfl
      case c3 => unfold maxLen; omega
      case c4 => omega
      case c5 => have := hbel.out.size; simp; omega
      intro v' w5 hown' hgrow _
      have HB5 := Lib.hid (below_append hown.out hbel.out (Nat.le_refl _) hgrow)
      rw [← HKt.out] at hown'
      have HO5 := Lib.hid hown'
      obtain ⟨ad', e', hab, hcl⟩ := (HA.out.below HB5.out) (by omega)
      obtain rfl := Option.some.inj e'
      obtain ⟨-, y1, y2⟩ := hcl j hlt
      rw [HX.out] at y1 y2
      rw [← add_field _ _ _ (by omega)] at y1 y2
      have hrs := (HRr.out _ hmem).2
      clear hown' hgrow hcl e' hab hown hbel x1
      have hno : ¬ wrOk X → ¬ WritesOk l := fun h hw => h (hw.2.1 X hmem)
      have hyes : wrOk X → ∀ x ∈ l.take (j + 1), wrOk x := fun h => mem_take_succ hlt hall.out (by rw [HX.out]; exact h)
      obtain ⟨xk, xs, xd⟩ := X
      simp only at *
      by_cases hs : xs.size ≤ 2052
      · have ps : (xs.size : Int) ≤ 2052 := by omega
        cases xd with
        | false =>
          have HW := Lib.hid (hyes ⟨hs, fun h => by cases h.1⟩)
          clear hno hyes hs hall hmem HX
          go_wp2_with fail
          go_roundw
          case rel => exact ⟨j + 1, by omega, by go_num, HW.out, HO5.out, HB5.out⟩
          case measure => simp [intOf]; omega
        | true =>
          by_cases he : xs = ⟨#[]⟩
          · have HW := Lib.hid (hyes ⟨hs, fun h => h.2 he⟩)
            subst he
            have t0 := text_eq ⟨#[]⟩
            clear hno hyes hs hall hmem HX
            go_wp2_with fail
            go_roundw
            case rel => exact ⟨j + 1, by omega, by go_num, HW.out, HO5.out, HB5.out⟩
            case measure => simp [intOf]; omega
          · have E := Lib.hid (writesB_false (hno (fun h => h.2 ⟨rfl, he⟩)))
            have t0 := text_ne he
            have t1 : ¬ xs.toList = [] := fun h => he (by
              rw [ByteArray.toList_eq] at h
              obtain ⟨a⟩ := xs
              congr 1
              exact Array.toList_inj.1 h)
            have t2 : xs.toList.isEmpty = false := by rw [List.isEmpty_eq_false_iff]; exact t1
            clear hno hyes hs hall hmem HX he
            go_wp2_with fail
            go_ret
            exact ⟨by rw [E.out]; rfl, HB5.out⟩
      · have E := Lib.hid (writesB_false (hno (fun h => hs h.1)))
        have ps : (2052 : Int) < (xs.size : Int) := by omega
        clear hno hyes hs hall hmem HX
        go_wp2_with fail
        go_ret
        exact ⟨by rw [E.out]; rfl, HB5.out⟩
    · obtain rfl : j = l.length := by omega
      have hall2 := hall.out
      rw [List.take_length] at hall2
      have hown2 := hown.out
      have hkl : (l.map Wr.key).length = l.length := List.length_map ..
      rw [List.take_of_length_le (by rw [hkl]; exact Nat.le_refl _)] at hown2
      by_cases h16 : l.length ≤ 16
      · have p16 : (l.length : Int) ≤ 16 := by omega
        have E := Lib.hid (writesB_eq h16 hall2)
        obtain ⟨B, d, rfl, hsb⟩ : ∃ (B : Option Addr) (d : Nat), u3 = .slice B l.length d ∧ StrsAt wr B (l.map Wr.key) := by
          rcases hown2.2 with ⟨h1, h2⟩ | ⟨g, cap, cur, h1, _⟩
          · exact ⟨none, 0, by rw [h1, h2], fun hp => by rw [hkl] at hp; omega⟩
          · subst h1
            exact ⟨_, _, rfl, StrsAt.own hown2 hkl.symm⟩
        have hR := rising_any B d (l.map Wr.key) wr hsb (by rw [hkl]; omega) (fun s hs => by obtain ⟨x, hx, rfl⟩ := List.mem_map.1 hs; exact (HRr.out x hx).1)
        rw [hkl] at hR
        have HR := Lib.hid hR
        have HBl := hbel
        clear hall hall2 hown hown2 hsb hR hbel hkl
        go_wp2_with fail
        refine HR.out.mono ?_
        rintro e w1 ⟨rfl, hb⟩
        have HB1 := Lib.hid (HBl.out.trans (hb.mono HBl.out.size))
        clear hb HBl HR
        go_wp2_with fail
        go_ret
        exact ⟨by rw [E.out]; rfl, HB1.out⟩
      · have p16 : (16 : Int) < (l.length : Int) := by omega
        have E := Lib.hid (writesB_false (fun h => h16 h.1))
        have HBl := hbel
        clear hall hall2 hown hown2 hbel hkl h16
        go_wp2_with fail
        go_ret
        exact ⟨by rw [E.out]; rfl, HBl.out⟩

end Lt
end Go.Proofs.YtiobhbagjokpcaaGreat
