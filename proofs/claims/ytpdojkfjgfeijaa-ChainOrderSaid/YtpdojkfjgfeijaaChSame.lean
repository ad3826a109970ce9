/- Whether versions are the same; contract; no condition but the range. -/
import Derived.Test.YtpdojkfjgfeijaaChRow
import Derived.Test.YtpdojkfjgfeijaaFloat
namespace Go.Proofs.Ytpdojkfjgfeijaa
namespace Ch
open Go.RowKit Bk

attribute [local go_sem ↓] Go.wp_at_zero Go.wp_at_succ
attribute [local go_sem] floatUpon pick

theorem add_field (a : Addr) (n k : Nat) (hk : 0 < k) : (⟨(a.add n).block, (a.add n).off + k, none⟩ : Addr) = a.add (n + k) := by
  unfold Addr.add
  by_cases h : n = 0
  · rw [if_pos h, if_neg (by omega), h, Nat.zero_add]
  · rw [if_neg h, if_neg (by omega)]
    simp only [Nat.add_assoc]

set_option maxRecDepth 20000 in
set_option maxHeartbeats 4000000 in
theorem sameVrs_any (A B : Option Addr) (c d : Nat) (a b : List Vr) (w : World) (ha : VrsAt w A a) (hb : VrsAt w B b) (hn : a.length ≤ 9223372036854775807) :
    Calls Try.prog 13 #[.slice A a.length c, .slice B b.length d] w fun e w' => e = .returned (.bool (decide (a = b))) ∧ Below w.heap.size w w' := by
  by_cases hl : a.length = b.length
  · have q1 : ((a.length : Int) != (b.length : Int)) = false := by simp [hl]
    have HA := Lib.hid ha
    have HB := Lib.hid hb
    have HL := Lib.hid hl
    clear ha hb hl
    go_enter Try.func13, Try.ntmps13
    go_wp2_with fail
    go_loopw [5] (fun i wr => ∃ j : Nat, j ≤ a.length ∧ i = .int .i64 (j : Int) ∧ Hid (∀ x (h : x < a.length) (h2 : x < b.length), x < j → a[x] = b[x]) ∧ Hid (Below w.heap.size w wr)) (fun i _ => a.length - (intOf i).toNat)
    case atStart => exact ⟨0, by omega, rfl, fun x _ _ h => absurd h (by omega), Below.refl _ _⟩
    case round =>
      obtain ⟨j, hj, rfl, heq, hbel⟩ := hrel
      by_cases hlt : j < a.length
      · have hltb : j < b.length := by rw [← HL.out]; exact hlt
        obtain ⟨ad, rfl, _, _⟩ := HA.out (by omega)
        obtain ⟨bd, rfl, _, _⟩ := HB.out (by omega)
        have p1 : (j : Int) < (a.length : Int) := by omega
        have p2 : (j : Int) < (b.length : Int) := by omega
        have hC : ∀ W, Below w.heap.size w W → W.cell? (ad.add (j * 3)) = some (.int .i64 a[j].ts) ∧ W.cell? ⟨(ad.add (j * 3)).block, (ad.add (j * 3)).off + 1, none⟩ = some (.string a[j].shard) ∧ W.cell? ⟨(ad.add (j * 3)).block, (ad.add (j * 3)).off + 2, none⟩ = some (.bool a[j].dead) ∧
            W.cell? (bd.add (j * 3)) = some (.int .i64 b[j].ts) ∧ W.cell? ⟨(bd.add (j * 3)).block, (bd.add (j * 3)).off + 1, none⟩ = some (.string b[j].shard) ∧ W.cell? ⟨(bd.add (j * 3)).block, (bd.add (j * 3)).off + 2, none⟩ = some (.bool b[j].dead) := fun W hW => by
          obtain ⟨ad', e1, _, hca⟩ := (HA.out.below hW) (by omega)
          obtain ⟨bd', e2, _, hcb⟩ := (HB.out.below hW) (by omega)
          obtain rfl := Option.some.inj e1
          obtain rfl := Option.some.inj e2
          obtain ⟨x0, x1, x2⟩ := hca j hlt
          obtain ⟨y0, y1, y2⟩ := hcb j hltb
          rw [add_field _ _ _ (by omega), add_field _ _ _ (by omega), add_field _ _ _ (by omega), add_field _ _ _ (by omega)]
          exact ⟨x0, x1, x2, y0, y1, y2⟩
        have E0 : a[j] ≠ b[j] → decide (a = b) = false := fun hx => by rw [decide_eq_false_iff_not]; intro e; exact hx (by simp only [e])
        by_cases hx : a[j] = b[j]
        · have HX := Lib.hid hx
          rw [← hx] at hC
          clear E0 hx
          generalize a[j] = X at hC
          obtain ⟨xk, xs, xd⟩ := X
          have HC := Lib.hid hC
          have t2 := text_eq xs
          clear hC
          go_upto_region 6 with fail
          refine wp_region_said 9 [17, 18, 19, 20, 21, 22, 23, 24, 25]
            [.is (.slice (some ad) a.length c), .is (.int .i64 (j : Int)), .is (.pointer (some (ad.add (j * 3)))), .is (.agg #[.int .i64 xk, .string xs, .bool xd]), .is (.slice (some bd) b.length d), .is (.int .i64 (j : Int)), .is (.pointer (some (bd.add (j * 3)))), .is (.agg #[.int .i64 xk, .string xs, .bool xd]), .is (.bool false)]
            (fun W => Below w.heap.size w W) (by kernel_rfl) (by kernel_rfl) (by kernel_rfl) (by kernel_rfl) (by kernel_rfl) (fun W W' h hb => h.trans (hb.mono h.size)) hbel.out ?steps ?last
          case steps =>
            simp only [List.take_succ_cons, List.take_zero]
            refine ⟨?_, ?_, ?_, ?_, ?_, ?_, ?_, ?_, ?_, trivial⟩
            all_goals
              intro vs W ρ hρ hc hf hg hI hH hd R' hR
              obtain ⟨x0, x1, x2, y0, y1, y2⟩ := HC.out W hI
              have HR := Lib.hid hR
              simp [depsOf, Region.binds, sayAt, Say.holds] at hd
              clear hR hI
              go_simp
              first
                | exact HR.out _ _ (by simp [sayAt, Say.holds]) (Below.refl _ _) (by simp [sayAt, Say.isBlk])
                | trace_state
          case last =>
            intro vs W hI hb hg hd
            have g8 := hg 8 (by omega)
            simp only [sayAt, Say.holds, List.getD_cons_succ, List.getD_cons_zero] at g8
            simp only [List.take_succ_cons, List.take_zero, List.drop_succ_cons, List.drop_zero, putAll, Act.put, List.setIfInBounds_toArray, List.set_cons_succ, List.set_cons_zero, Nat.zero_add, Nat.reduceAdd]
            rw [g8]
            have HB := Lib.hid hI
            clear g8 hg hd hb hI hbel
            go_wp2_with fail
            go_roundw
            case rel => exact ⟨j + 1, by omega, by go_num, (fun x h h2 hxj => by
              by_cases e : x = j
              · subst e; exact HX.out
              · exact heq.out x h h2 (by omega)), HB.out⟩
            case measure => simp [intOf]; omega
        · have E := Lib.hid (E0 hx)
          clear E0
          generalize a[j] = X at hC hx
          generalize b[j] = Y at hC hx
          obtain ⟨xk, xs, xd⟩ := X
          obtain ⟨yk, ys, yd⟩ := Y
          have HC := Lib.hid hC
          clear hC
          by_cases hk : xk = yk
          · subst hk
            by_cases hs : xs = ys
            · subst hs
              have t2 := text_eq xs
              have hd : xd = !yd := by cases xd <;> cases yd <;> simp at hx ⊢
              clear hx
              cases yd with
              | true =>
                obtain rfl : xd = false := hd
                go_upto_region 6 with fail
                refine wp_region_said 9 [17, 18, 19, 20, 21, 22, 23, 24, 25]
                  [.is (.slice (some ad) a.length c), .is (.int .i64 (j : Int)), .is (.pointer (some (ad.add (j * 3)))), .is (.agg #[.int .i64 xk, .string xs, .bool false]), .is (.slice (some bd) b.length d), .is (.int .i64 (j : Int)), .is (.pointer (some (bd.add (j * 3)))), .is (.agg #[.int .i64 xk, .string xs, .bool true]), .is (.bool true)]
                  (fun W => Below w.heap.size w W) (by kernel_rfl) (by kernel_rfl) (by kernel_rfl) (by kernel_rfl) (by kernel_rfl) (fun W W' h hb => h.trans (hb.mono h.size)) hbel.out ?steps ?last
                case steps =>
                  simp only [List.take_succ_cons, List.take_zero]
                  refine ⟨?_, ?_, ?_, ?_, ?_, ?_, ?_, ?_, ?_, trivial⟩
                  all_goals
                    intro vs W ρ hρ hc hf hg hI hH hd R' hR
                    obtain ⟨x0, x1, x2, y0, y1, y2⟩ := HC.out W hI
                    have HR := Lib.hid hR
                    simp [depsOf, Region.binds, sayAt, Say.holds] at hd
                    clear hR hI
                    go_simp
                    first
                      | exact HR.out _ _ (by simp [sayAt, Say.holds]) (Below.refl _ _) (by simp [sayAt, Say.isBlk])
                      | trace_state
                case last =>
                  intro vs W hI hb hg hd
                  have g8 := hg 8 (by omega)
                  simp only [sayAt, Say.holds, List.getD_cons_succ, List.getD_cons_zero] at g8
                  simp only [List.take_succ_cons, List.take_zero, List.drop_succ_cons, List.drop_zero, putAll, Act.put, List.setIfInBounds_toArray, List.set_cons_succ, List.set_cons_zero, Nat.zero_add, Nat.reduceAdd]
                  rw [g8]
                  have HB := Lib.hid hI
                  clear g8 hg hd hb hI hbel
                  go_wp2_with fail
                  go_ret
                  exact ⟨by rw [E.out]; rfl, HB.out⟩
              | false =>
                obtain rfl : xd = true := hd
                go_upto_region 6 with fail
                refine wp_region_said 9 [17, 18, 19, 20, 21, 22, 23, 24, 25]
                  [.is (.slice (some ad) a.length c), .is (.int .i64 (j : Int)), .is (.pointer (some (ad.add (j * 3)))), .is (.agg #[.int .i64 xk, .string xs, .bool true]), .is (.slice (some bd) b.length d), .is (.int .i64 (j : Int)), .is (.pointer (some (bd.add (j * 3)))), .is (.agg #[.int .i64 xk, .string xs, .bool false]), .is (.bool true)]
                  (fun W => Below w.heap.size w W) (by kernel_rfl) (by kernel_rfl) (by kernel_rfl) (by kernel_rfl) (by kernel_rfl) (fun W W' h hb => h.trans (hb.mono h.size)) hbel.out ?steps ?last
                case steps =>
                  simp only [List.take_succ_cons, List.take_zero]
                  refine ⟨?_, ?_, ?_, ?_, ?_, ?_, ?_, ?_, ?_, trivial⟩
                  all_goals
                    intro vs W ρ hρ hc hf hg hI hH hd R' hR
                    obtain ⟨x0, x1, x2, y0, y1, y2⟩ := HC.out W hI
                    have HR := Lib.hid hR
                    simp [depsOf, Region.binds, sayAt, Say.holds] at hd
                    clear hR hI
                    go_simp
                    first
                      | exact HR.out _ _ (by simp [sayAt, Say.holds]) (Below.refl _ _) (by simp [sayAt, Say.isBlk])
                      | trace_state
                case last =>
                  intro vs W hI hb hg hd
                  have g8 := hg 8 (by omega)
                  simp only [sayAt, Say.holds, List.getD_cons_succ, List.getD_cons_zero] at g8
                  simp only [List.take_succ_cons, List.take_zero, List.drop_succ_cons, List.drop_zero, putAll, Act.put, List.setIfInBounds_toArray, List.set_cons_succ, List.set_cons_zero, Nat.zero_add, Nat.reduceAdd]
                  rw [g8]
                  have HB := Lib.hid hI
                  clear g8 hg hd hb hI hbel
                  go_wp2_with fail
                  go_ret
                  exact ⟨by rw [E.out]; rfl, HB.out⟩
            · have t2 := text_ne hs
              clear hx hs
              go_upto_region 6 with fail
              refine wp_region_said 9 [17, 18, 19, 20, 21, 22, 23, 24, 25]
                [.is (.slice (some ad) a.length c), .is (.int .i64 (j : Int)), .is (.pointer (some (ad.add (j * 3)))), .is (.agg #[.int .i64 xk, .string xs, .bool xd]), .is (.slice (some bd) b.length d), .is (.int .i64 (j : Int)), .is (.pointer (some (bd.add (j * 3)))), .is (.agg #[.int .i64 xk, .string ys, .bool yd]), .is (.bool true)]
                (fun W => Below w.heap.size w W) (by kernel_rfl) (by kernel_rfl) (by kernel_rfl) (by kernel_rfl) (by kernel_rfl) (fun W W' h hb => h.trans (hb.mono h.size)) hbel.out ?steps ?last
              case steps =>
                simp only [List.take_succ_cons, List.take_zero]
                refine ⟨?_, ?_, ?_, ?_, ?_, ?_, ?_, ?_, ?_, trivial⟩
                all_goals
                  intro vs W ρ hρ hc hf hg hI hH hd R' hR
                  obtain ⟨x0, x1, x2, y0, y1, y2⟩ := HC.out W hI
                  have HR := Lib.hid hR
                  simp [depsOf, Region.binds, sayAt, Say.holds] at hd
                  clear hR hI
                  go_simp
                  first
                    | exact HR.out _ _ (by simp [sayAt, Say.holds]) (Below.refl _ _) (by simp [sayAt, Say.isBlk])
                    | trace_state
              case last =>
                intro vs W hI hb hg hd
                have g8 := hg 8 (by omega)
                simp only [sayAt, Say.holds, List.getD_cons_succ, List.getD_cons_zero] at g8
                simp only [List.take_succ_cons, List.take_zero, List.drop_succ_cons, List.drop_zero, putAll, Act.put, List.setIfInBounds_toArray, List.set_cons_succ, List.set_cons_zero, Nat.zero_add, Nat.reduceAdd]
                rw [g8]
                have HB := Lib.hid hI
                clear g8 hg hd hb hI hbel
                go_wp2_with fail
                go_ret
                exact ⟨by rw [E.out]; rfl, HB.out⟩
          · have t1 : (xk == yk) = false := by simpa using hk
            clear hx hk
            go_upto_region 6 with fail
            refine wp_region_said 9 [17, 18, 19, 20, 21, 22, 23, 24, 25]
              [.is (.slice (some ad) a.length c), .is (.int .i64 (j : Int)), .is (.pointer (some (ad.add (j * 3)))), .is (.agg #[.int .i64 xk, .string xs, .bool xd]), .is (.slice (some bd) b.length d), .is (.int .i64 (j : Int)), .is (.pointer (some (bd.add (j * 3)))), .is (.agg #[.int .i64 yk, .string ys, .bool yd]), .is (.bool true)]
              (fun W => Below w.heap.size w W) (by kernel_rfl) (by kernel_rfl) (by kernel_rfl) (by kernel_rfl) (by kernel_rfl) (fun W W' h hb => h.trans (hb.mono h.size)) hbel.out ?steps ?last
            case steps =>
              simp only [List.take_succ_cons, List.take_zero]
              refine ⟨?_, ?_, ?_, ?_, ?_, ?_, ?_, ?_, ?_, trivial⟩
              all_goals
                intro vs W ρ hρ hc hf hg hI hH hd R' hR
                obtain ⟨x0, x1, x2, y0, y1, y2⟩ := HC.out W hI
                have HR := Lib.hid hR
                simp [depsOf, Region.binds, sayAt, Say.holds] at hd
                clear hR hI
                go_simp
                first
                  | exact HR.out _ _ (by simp [sayAt, Say.holds]) (Below.refl _ _) (by simp [sayAt, Say.isBlk])
                  | trace_state
            case last =>
              intro vs W hI hb hg hd
              have g8 := hg 8 (by omega)
              simp only [sayAt, Say.holds, List.getD_cons_succ, List.getD_cons_zero] at g8
              simp only [List.take_succ_cons, List.take_zero, List.drop_succ_cons, List.drop_zero, putAll, Act.put, List.setIfInBounds_toArray, List.set_cons_succ, List.set_cons_zero, Nat.zero_add, Nat.reduceAdd]
              rw [g8]
              have HB := Lib.hid hI
              clear g8 hg hd hb hI hbel
              go_wp2_with fail
              go_ret
              exact ⟨by rw [E.out]; rfl, HB.out⟩
      · have E := Lib.hid (show decide (a = b) = true by
          rw [decide_eq_true_eq]
          exact List.ext_getElem HL.out fun x h h2 => heq.out x h h2 (by omega))
        have HB2 := hbel
        clear hbel
        go_wp2_with fail
        go_ret
        exact ⟨by rw [E.out]; rfl, HB2.out⟩
  · have q1 : ((a.length : Int) != (b.length : Int)) = true := by simp; omega
    have E := Lib.hid (show decide (a = b) = false by rw [decide_eq_false_iff_not]; intro e; exact hl (by rw [e]))
    clear hl ha hb
    go_enter Try.func13, Try.ntmps13
    go_wp2_with fail
    go_ret
    exact ⟨by rw [E.out]; rfl, Below.refl _ _⟩

end Ch
end Go.Proofs.Ytpdojkfjgfeijaa
