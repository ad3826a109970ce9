/- Parts of the proof, joined: LtWrs, LtSame, BkInts, BkOpen, LtOpen, LtOpen2, LtEnv, PkRef, PkRef2, PkRef3, PkRead; their conditions stand with each. -/
import Derived.WalkKit
import Derived.ProofKit
import Derived.SizedLaws
import Derived.ChangeSlices
import Derived.SliceStrings
import Derived.Carry
import Derived.Lib.SmallJoins
import Derived.Deep.SlicePairs
import Derived.Deep.Cut
import Derived.Deep.CutRange
import Derived.Deep.DeepCutAuto
import Derived.Test.YtbkanoblcojdfaaGreatM0
import Derived.Test.YtbkanoblcojdfaaGreatM1

namespace Go.Proofs.YtbkanoblcojdfaaGreat
namespace Lt
open Go.RowKit Bk
attribute [local go_sem ↓] Go.wp_at_zero Go.wp_at_succ
attribute [local go_sem] floatUpon pick
theorem add_field (a : Addr) (n k : Nat) (hk : 0 < k) : (⟨(a.add n).block, (a.add n).off + k, none⟩ : Addr) = a.add (n + k) := by
  unfold Addr.add
  by_cases h : n = 0
  · rw [if_pos h, if_neg (by omega), h, Nat.zero_add]
  · rw [if_neg h, if_neg (by omega)]
    simp only [Nat.add_assoc]
def WrsAt (w : World) (A : Option Addr) (l : List Wr) : Prop :=
  0 < l.length → ∃ ad, A = some ad ∧ ad.block < w.heap.size ∧ ∀ i (h : i < l.length), w.cell? (ad.add (i * 3)) = some (.string l[i].key) ∧ w.cell? (ad.add (i * 3 + 1)) = some (.string l[i].shard) ∧ w.cell? (ad.add (i * 3 + 2)) = some (.bool l[i].dead)
theorem WrsAt.below {w w' : World} {A : Option Addr} {l : List Wr} (h : WrsAt w A l) (hb : Below w.heap.size w w') : WrsAt w' A l := fun hp => by
  obtain ⟨ad, h1, h2, h3⟩ := h hp
  exact ⟨ad, h1, Nat.lt_of_lt_of_le h2 hb.size, fun i hi => ⟨(cell_kept hb _ (by rw [st_block]; exact h2)).trans (h3 i hi).1, (cell_kept hb _ (by rw [st_block]; exact h2)).trans (h3 i hi).2.1, (cell_kept hb _ (by rw [st_block]; exact h2)).trans (h3 i hi).2.2⟩⟩
theorem WrsAt.alloc {w : World} {A : Option Addr} {l : List Wr} (h : WrsAt w A l) (o : Obj) : WrsAt (w.alloc o) A l := h.below ((Below.refl _ w).alloc (Nat.le_refl _) o)
noncomputable def writesB (l : List Wr) : Bool := @decide (WritesOk l) (Classical.propDecidable _)
theorem writesB_true {l : List Wr} (h : WritesOk l) : writesB l = true := by unfold writesB; exact @decide_eq_true _ (Classical.propDecidable _) h
theorem writesB_false {l : List Wr} (h : ¬ WritesOk l) : writesB l = false := by unfold writesB; exact @decide_eq_false _ (Classical.propDecidable _) h
theorem writesB_eq {l : List Wr} (h1 : l.length ≤ 16) (h2 : ∀ x ∈ l, wrOk x) : writesB l = risesB (l.map Wr.key) := by
  by_cases h : Rises (l.map Wr.key)
  · rw [risesB_true h, writesB_true ⟨h1, h2, h⟩]
  · rw [risesB_false h, writesB_false (fun hh => h hh.2.2)]
theorem mem_take_succ {α : Type} {l : List α} {j : Nat} (h : j < l.length) {p : α → Prop} (h1 : ∀ x ∈ l.take j, p x) (h2 : p l[j]) : ∀ x ∈ l.take (j + 1), p x := by
  intro x hx
  rw [List.take_add_one, List.getElem?_eq_getElem h] at hx
  rcases List.mem_append.1 hx with hx | hx
  · exact h1 x hx
  · rw [Option.toList_some, List.mem_singleton] at hx
    rw [hx]; exact h2
theorem keys_take {l : List Wr} {j : Nat} (h : j < l.length) : strV ((l.map Wr.key).take (j + 1)) = strV ((l.map Wr.key).take j) ++ [.string l[j].key] := by
  unfold strV
  rw [List.take_add_one, List.getElem?_map, List.getElem?_eq_getElem h, List.map_append]
  rfl
set_option maxRecDepth 20000 in
set_option maxHeartbeats 4000000 in
theorem writes_any (A : Option Addr) (c : Nat) (l : List Wr) (w : World) (h : WrsAt w A l) (hn : l.length * 16 + 16 ≤ 140737488355328) (hr : ∀ x ∈ l, x.key.size ≤ 9223372036854775807 ∧ x.shard.size ≤ 9223372036854775807) :
    Calls Tryz.prog 101 #[.slice A l.length c] w fun e w' => e = .returned (.bool (writesB l)) ∧ Below w.heap.size w w' := by
  obtain ⟨i0, hi, hz0, hz1, hz2⟩ := info_parts Tryz.infoStr
  have HRr := Lib.hid hr
  have HA := Lib.hid h
  clear h hr
  go_enter Tryz.func101, Tryz.ntmps101
  go_wp2_with fail
  go_loopw [3, 4] (fun u i wr => ∃ j : Nat, j ≤ l.length ∧ i = .int .i64 (j : Int) ∧ Hid (∀ x ∈ l.take j, wrOk x) ∧ Hid (wr.ownsRow w.heap.size 9 1 u j (strV ((l.map Wr.key).take j))) ∧ Hid (Below w.heap.size w wr)) (fun _ i _ => l.length - (intOf i).toNat)
  case atStart => exact ⟨0, by omega, rfl, fun x hx => absurd hx (by simp), World.ownsRow_nil _ _ _ _, Below.refl _ _⟩
  case round =>
    obtain ⟨j, hj, rfl, hall, hown, hbel⟩ := hrel
    by_cases hlt : j < l.length
    · have pj : (j : Int) < (l.length : Int) := by omega
      obtain ⟨ad, rfl, _, _⟩ := HA.out (by omega)
      obtain ⟨ad', e', hab, hcl⟩ := (HA.out.below hbel.out) (by omega)
      obtain rfl := Option.some.inj e'
      obtain ⟨x1, -, -⟩ := hcl j hlt
      have hkt := keys_take hlt
      have hmem : l[j] ∈ l := List.getElem_mem hlt
      have HKt := Lib.hid hkt
      generalize hX : l[j] = X at x1 hkt hmem HKt
      have HX := Lib.hid hX
      clear hkt hX hcl e' hab
      go_upto_region 6 with (at_builtin; refine wpList_append_own _ rfl _ _ 23 rfl w.heap.size 9 i0 (.string ⟨#[]⟩) 1 16 Tryz.underlying23 hi hz0 hz1 hz2 rfl (by decide) _ _ _ rfl (hown.out.alloc _) ⟨wr.heap.size, 0, none⟩ 1 1 [.string X.key] rfl rfl ?c1 ?c2 ?c3 ?c4 ?c5 ?_)
      case c1 => exact cell_one_new _ _ _
      case c2 => intro q hq; simp at hq; subst hq; rfl
      case c3 => unfold maxLen; omega
      case c4 => omega
      case c5 => have := hbel.out.size; simp; omega
      intro v' w5 hown' hgrow _
      have HB5 := Lib.hid (below_append hown.out hbel.out (Nat.le_refl _) hgrow)
      rw [← HKt.out] at hown'
      have HO5 := Lib.hid hown'
      obtain ⟨ad', e', hab, hcl⟩ := (HA.out.below HB5.out) (by omega)
      obtain rfl := Option.some.inj e'
      obtain ⟨-, y1, y2⟩ := hcl j hlt
      rw [HX.out] at y1 y2
      rw [← add_field _ _ _ (by omega)] at y1 y2
      have hrs := (HRr.out _ hmem).2
      clear hown' hgrow hcl e' hab hown hbel x1
      have hno : ¬ wrOk X → ¬ WritesOk l := fun h hw => h (hw.2.1 X hmem)
      have hyes : wrOk X → ∀ x ∈ l.take (j + 1), wrOk x := fun h => mem_take_succ hlt hall.out (by rw [HX.out]; exact h)
      obtain ⟨xk, xs, xd⟩ := X
      simp only at *
      by_cases hs : xs.size ≤ 2052
      · have ps : (xs.size : Int) ≤ 2052 := by omega
        cases xd with
        | false =>
          have HW := Lib.hid (hyes ⟨hs, fun h => by cases h.1⟩)
          clear hno hyes hs hall hmem HX
          go_wp2_with fail
          go_roundw
          case rel => exact ⟨j + 1, by omega, by go_num, HW.out, HO5.out, HB5.out⟩
          case measure => simp [intOf]; omega
        | true =>
          by_cases he : xs = ⟨#[]⟩
          · have HW := Lib.hid (hyes ⟨hs, fun h => h.2 he⟩)
            subst he
            have t0 := text_eq ⟨#[]⟩
            clear hno hyes hs hall hmem HX
            go_wp2_with fail
            go_roundw
            case rel => exact ⟨j + 1, by omega, by go_num, HW.out, HO5.out, HB5.out⟩
            case measure => simp [intOf]; omega
          · have E := Lib.hid (writesB_false (hno (fun h => h.2 ⟨rfl, he⟩)))
            have t0 := text_ne he
            have t1 : ¬ xs.toList = [] := fun h => he (by
              rw [ByteArray.toList_eq] at h
              obtain ⟨a⟩ := xs
              congr 1
              exact Array.toList_inj.1 h)
            have t2 : xs.toList.isEmpty = false := by rw [List.isEmpty_eq_false_iff]; exact t1
            clear hno hyes hs hall hmem HX he
            go_wp2_with fail
            go_ret
            exact ⟨by rw [E.out]; rfl, HB5.out⟩
      · have E := Lib.hid (writesB_false (hno (fun h => hs h.1)))
        have ps : (2052 : Int) < (xs.size : Int) := by omega
        clear hno hyes hs hall hmem HX
        go_wp2_with fail
        go_ret
        exact ⟨by rw [E.out]; rfl, HB5.out⟩
    · obtain rfl : j = l.length := by omega
      have hall2 := hall.out
      rw [List.take_length] at hall2
      have hown2 := hown.out
      have hkl : (l.map Wr.key).length = l.length := List.length_map ..
      rw [List.take_of_length_le (by rw [hkl]; exact Nat.le_refl _)] at hown2
      by_cases h16 : l.length ≤ 16
      · have p16 : (l.length : Int) ≤ 16 := by omega
        have E := Lib.hid (writesB_eq h16 hall2)
        obtain ⟨B, d, rfl, hsb⟩ : ∃ (B : Option Addr) (d : Nat), u3 = .slice B l.length d ∧ StrsAt wr B (l.map Wr.key) := by
          rcases hown2.2 with ⟨h1, h2⟩ | ⟨g, cap, cur, h1, _⟩
          · exact ⟨none, 0, by rw [h1, h2], fun hp => by rw [hkl] at hp; omega⟩
          · subst h1
            exact ⟨_, _, rfl, StrsAt.own hown2 hkl.symm⟩
        have hR := rising_any B d (l.map Wr.key) wr hsb (by rw [hkl]; omega) (fun s hs => by obtain ⟨x, hx, rfl⟩ := List.mem_map.1 hs; exact (HRr.out x hx).1)
        rw [hkl] at hR
        have HR := Lib.hid hR
        have HBl := hbel
        clear hall hall2 hown hown2 hsb hR hbel hkl
        go_wp2_with fail
        refine HR.out.mono ?_
        rintro e w1 ⟨rfl, hb⟩
        have HB1 := Lib.hid (HBl.out.trans (hb.mono HBl.out.size))
        clear hb HBl HR
        go_wp2_with fail
        go_ret
        exact ⟨by rw [E.out]; rfl, HB1.out⟩
      · have p16 : (16 : Int) < (l.length : Int) := by omega
        have E := Lib.hid (writesB_false (fun h => h16 h.1))
        have HBl := hbel
        clear hall hall2 hown hown2 hbel hkl h16
        go_wp2_with fail
        go_ret
        exact ⟨by rw [E.out]; rfl, HBl.out⟩
end Lt
end Go.Proofs.YtbkanoblcojdfaaGreat

namespace Go.Proofs.YtbkanoblcojdfaaGreat
namespace Lt
open Go.RowKit Bk
attribute [local go_sem ↓] Go.wp_at_zero Go.wp_at_succ
attribute [local go_sem] floatUpon pick
theorem wr_ext {x y : Wr} (h1 : x.key = y.key) (h2 : x.shard = y.shard) (h3 : x.dead = y.dead) : x = y := by
  obtain ⟨a, b, c⟩ := x
  obtain ⟨d, e, f⟩ := y
  simp only at h1 h2 h3
  rw [h1, h2, h3]
instance : DecidableEq Wr := fun x y => decidable_of_iff (x.key = y.key ∧ x.shard = y.shard ∧ x.dead = y.dead) ⟨fun h => wr_ext h.1 h.2.1 h.2.2, fun h => by rw [h]; exact ⟨rfl, rfl, rfl⟩⟩
set_option maxRecDepth 20000 in
set_option maxHeartbeats 4000000 in
theorem sameWrs_any (A B : Option Addr) (c d : Nat) (a b : List Wr) (w : World) (ha : WrsAt w A a) (hb : WrsAt w B b) (hn : a.length ≤ 9223372036854775807) :
    Calls Tryz.prog 51 #[.slice A a.length c, .slice B b.length d] w fun e w' => e = .returned (.bool (decide (a = b))) ∧ Below w.heap.size w w' := by
  by_cases hl : a.length = b.length
  · have q1 : ((a.length : Int) != (b.length : Int)) = false := by simp [hl]
    have HA := Lib.hid ha
    have HB := Lib.hid hb
    have HL := Lib.hid hl
    clear ha hb hl
    go_enter Tryz.func51, Tryz.ntmps51
    go_wp2_with fail
    go_loopw [5] (fun i wr => ∃ j : Nat, j ≤ a.length ∧ i = .int .i64 (j : Int) ∧ Hid (∀ x (h : x < a.length) (h2 : x < b.length), x < j → a[x] = b[x]) ∧ Hid (Below w.heap.size w wr)) (fun i _ => a.length - (intOf i).toNat)
    case atStart => exact ⟨0, by omega, rfl, fun x _ _ h => absurd h (by omega), Below.refl _ _⟩
    case round =>
      obtain ⟨j, hj, rfl, heq, hbel⟩ := hrel
      by_cases hlt : j < a.length
      · have hltb : j < b.length := by rw [← HL.out]; exact hlt
        obtain ⟨ad, rfl, _, _⟩ := HA.out (by omega)
        obtain ⟨bd, rfl, _, _⟩ := HB.out (by omega)
        have p1 : (j : Int) < (a.length : Int) := by omega
        have p2 : (j : Int) < (b.length : Int) := by omega
        have hC : ∀ W, Below w.heap.size w W → W.cell? (ad.add (j * 3)) = some (.string a[j].key) ∧ W.cell? ⟨(ad.add (j * 3)).block, (ad.add (j * 3)).off + 1, none⟩ = some (.string a[j].shard) ∧ W.cell? ⟨(ad.add (j * 3)).block, (ad.add (j * 3)).off + 2, none⟩ = some (.bool a[j].dead) ∧
            W.cell? (bd.add (j * 3)) = some (.string b[j].key) ∧ W.cell? ⟨(bd.add (j * 3)).block, (bd.add (j * 3)).off + 1, none⟩ = some (.string b[j].shard) ∧ W.cell? ⟨(bd.add (j * 3)).block, (bd.add (j * 3)).off + 2, none⟩ = some (.bool b[j].dead) := fun W hW => by
          obtain ⟨ad', e1, _, hca⟩ := (HA.out.below hW) (by omega)
          obtain ⟨bd', e2, _, hcb⟩ := (HB.out.below hW) (by omega)
          obtain rfl := Option.some.inj e1
          obtain rfl := Option.some.inj e2
          obtain ⟨x0, x1, x2⟩ := hca j hlt
          obtain ⟨y0, y1, y2⟩ := hcb j hltb
          rw [add_field _ _ _ (by omega), add_field _ _ _ (by omega), add_field _ _ _ (by omega), add_field _ _ _ (by omega)]
          exact ⟨x0, x1, x2, y0, y1, y2⟩
        have E0 : a[j] ≠ b[j] → decide (a = b) = false := fun hx => by rw [decide_eq_false_iff_not]; intro e; exact hx (by simp only [e])
        by_cases hx : a[j] = b[j]
        · have HX := Lib.hid hx
          rw [← hx] at hC
          clear E0 hx
          generalize a[j] = X at hC
          obtain ⟨xk, xs, xd⟩ := X
          have HC := Lib.hid hC
          have t1 := text_eq xk
          have t2 := text_eq xs
          clear hC
          go_upto_region 6 with fail
          refine wp_region_said 9 [17, 18, 19, 20, 21, 22, 23, 24, 25]
            [.is (.slice (some ad) a.length c), .is (.int .i64 (j : Int)), .is (.pointer (some (ad.add (j * 3)))), .is (.agg #[.string xk, .string xs, .bool xd]), .is (.slice (some bd) b.length d), .is (.int .i64 (j : Int)), .is (.pointer (some (bd.add (j * 3)))), .is (.agg #[.string xk, .string xs, .bool xd]), .is (.bool false)]
            (fun W => Below w.heap.size w W) (by kernel_rfl) (by kernel_rfl) (by kernel_rfl) (by kernel_rfl) (by kernel_rfl) (fun W W' h hb => h.trans (hb.mono h.size)) hbel.out ?steps ?last
          case steps =>
            simp only [List.take_succ_cons, List.take_zero]
            refine ⟨?_, ?_, ?_, ?_, ?_, ?_, ?_, ?_, ?_, trivial⟩
            all_goals
              intro vs W ρ hρ hc hf hg hI hH hd R' hR
              obtain ⟨x0, x1, x2, y0, y1, y2⟩ := HC.out W hI
              have HR := Lib.hid hR
              simp [depsOf, Region.binds, sayAt, Say.holds] at hd
              clear hR hI
              go_simp
              first
                | exact HR.out _ _ (by simp [sayAt, Say.holds]) (Below.refl _ _) (by simp [sayAt, Say.isBlk])
                | trace_state
          case last =>
            intro vs W hI hb hg hd
            have g8 := hg 8 (by omega)
            simp only [sayAt, Say.holds, List.getD_cons_succ, List.getD_cons_zero] at g8
            simp only [List.take_succ_cons, List.take_zero, List.drop_succ_cons, List.drop_zero, putAll, Act.put, List.setIfInBounds_toArray, List.set_cons_succ, List.set_cons_zero, Nat.zero_add, Nat.reduceAdd]
            rw [g8]
            have HB := Lib.hid hI
            clear g8 hg hd hb hI hbel
            go_wp2_with fail
            go_roundw
            case rel => exact ⟨j + 1, by omega, by go_num, (fun x h h2 hxj => by
              by_cases e : x = j
              · subst e; exact HX.out
              · exact heq.out x h h2 (by omega)), HB.out⟩
            case measure => simp [intOf]; omega
        · have E := Lib.hid (E0 hx)
          clear E0
          generalize a[j] = X at hC hx
          generalize b[j] = Y at hC hx
          obtain ⟨xk, xs, xd⟩ := X
          obtain ⟨yk, ys, yd⟩ := Y
          have HC := Lib.hid hC
          clear hC
          by_cases hk : xk = yk
          · subst hk
            have t1 := text_eq xk
            by_cases hs : xs = ys
            · subst hs
              have t2 := text_eq xs
              have hd : xd = !yd := by cases xd <;> cases yd <;> simp at hx ⊢
              clear hx
              cases yd with
              | true =>
                obtain rfl : xd = false := hd
                go_upto_region 6 with fail
                refine wp_region_said 9 [17, 18, 19, 20, 21, 22, 23, 24, 25]
                  [.is (.slice (some ad) a.length c), .is (.int .i64 (j : Int)), .is (.pointer (some (ad.add (j * 3)))), .is (.agg #[.string xk, .string xs, .bool false]), .is (.slice (some bd) b.length d), .is (.int .i64 (j : Int)), .is (.pointer (some (bd.add (j * 3)))), .is (.agg #[.string xk, .string xs, .bool true]), .is (.bool true)]
                  (fun W => Below w.heap.size w W) (by kernel_rfl) (by kernel_rfl) (by kernel_rfl) (by kernel_rfl) (by kernel_rfl) (fun W W' h hb => h.trans (hb.mono h.size)) hbel.out ?steps ?last
                case steps =>
                  simp only [List.take_succ_cons, List.take_zero]
                  refine ⟨?_, ?_, ?_, ?_, ?_, ?_, ?_, ?_, ?_, trivial⟩
                  all_goals
                    intro vs W ρ hρ hc hf hg hI hH hd R' hR
                    obtain ⟨x0, x1, x2, y0, y1, y2⟩ := HC.out W hI
                    have HR := Lib.hid hR
                    simp [depsOf, Region.binds, sayAt, Say.holds] at hd
                    clear hR hI
                    go_simp
                    first
                      | exact HR.out _ _ (by simp [sayAt, Say.holds]) (Below.refl _ _) (by simp [sayAt, Say.isBlk])
                      | trace_state
                case last =>
                  intro vs W hI hb hg hd
                  have g8 := hg 8 (by omega)
                  simp only [sayAt, Say.holds, List.getD_cons_succ, List.getD_cons_zero] at g8
                  simp only [List.take_succ_cons, List.take_zero, List.drop_succ_cons, List.drop_zero, putAll, Act.put, List.setIfInBounds_toArray, List.set_cons_succ, List.set_cons_zero, Nat.zero_add, Nat.reduceAdd]
                  rw [g8]
                  have HB := Lib.hid hI
                  clear g8 hg hd hb hI hbel
                  go_wp2_with fail
                  go_ret
                  exact ⟨by rw [E.out]; rfl, HB.out⟩
              | false =>
                obtain rfl : xd = true := hd
                go_upto_region 6 with fail
                refine wp_region_said 9 [17, 18, 19, 20, 21, 22, 23, 24, 25]
                  [.is (.slice (some ad) a.length c), .is (.int .i64 (j : Int)), .is (.pointer (some (ad.add (j * 3)))), .is (.agg #[.string xk, .string xs, .bool true]), .is (.slice (some bd) b.length d), .is (.int .i64 (j : Int)), .is (.pointer (some (bd.add (j * 3)))), .is (.agg #[.string xk, .string xs, .bool false]), .is (.bool true)]
                  (fun W => Below w.heap.size w W) (by kernel_rfl) (by kernel_rfl) (by kernel_rfl) (by kernel_rfl) (by kernel_rfl) (fun W W' h hb => h.trans (hb.mono h.size)) hbel.out ?steps ?last
                case steps =>
                  simp only [List.take_succ_cons, List.take_zero]
                  refine ⟨?_, ?_, ?_, ?_, ?_, ?_, ?_, ?_, ?_, trivial⟩
                  all_goals
                    intro vs W ρ hρ hc hf hg hI hH hd R' hR
                    obtain ⟨x0, x1, x2, y0, y1, y2⟩ := HC.out W hI
                    have HR := Lib.hid hR
                    simp [depsOf, Region.binds, sayAt, Say.holds] at hd
                    clear hR hI
                    go_simp
                    first
                      | exact HR.out _ _ (by simp [sayAt, Say.holds]) (Below.refl _ _) (by simp [sayAt, Say.isBlk])
                      | trace_state
                case last =>
                  intro vs W hI hb hg hd
                  have g8 := hg 8 (by omega)
                  simp only [sayAt, Say.holds, List.getD_cons_succ, List.getD_cons_zero] at g8
                  simp only [List.take_succ_cons, List.take_zero, List.drop_succ_cons, List.drop_zero, putAll, Act.put, List.setIfInBounds_toArray, List.set_cons_succ, List.set_cons_zero, Nat.zero_add, Nat.reduceAdd]
                  rw [g8]
                  have HB := Lib.hid hI
                  clear g8 hg hd hb hI hbel
                  go_wp2_with fail
                  go_ret
                  exact ⟨by rw [E.out]; rfl, HB.out⟩
            · have t2 := text_ne hs
              clear hx hs
              go_upto_region 6 with fail
              refine wp_region_said 9 [17, 18, 19, 20, 21, 22, 23, 24, 25]
                [.is (.slice (some ad) a.length c), .is (.int .i64 (j : Int)), .is (.pointer (some (ad.add (j * 3)))), .is (.agg #[.string xk, .string xs, .bool xd]), .is (.slice (some bd) b.length d), .is (.int .i64 (j : Int)), .is (.pointer (some (bd.add (j * 3)))), .is (.agg #[.string xk, .string ys, .bool yd]), .is (.bool true)]
                (fun W => Below w.heap.size w W) (by kernel_rfl) (by kernel_rfl) (by kernel_rfl) (by kernel_rfl) (by kernel_rfl) (fun W W' h hb => h.trans (hb.mono h.size)) hbel.out ?steps ?last
              case steps =>
                simp only [List.take_succ_cons, List.take_zero]
                refine ⟨?_, ?_, ?_, ?_, ?_, ?_, ?_, ?_, ?_, trivial⟩
                all_goals
                  intro vs W ρ hρ hc hf hg hI hH hd R' hR
                  obtain ⟨x0, x1, x2, y0, y1, y2⟩ := HC.out W hI
                  have HR := Lib.hid hR
                  simp [depsOf, Region.binds, sayAt, Say.holds] at hd
                  clear hR hI
                  go_simp
                  first
                    | exact HR.out _ _ (by simp [sayAt, Say.holds]) (Below.refl _ _) (by simp [sayAt, Say.isBlk])
                    | trace_state
              case last =>
                intro vs W hI hb hg hd
                have g8 := hg 8 (by omega)
                simp only [sayAt, Say.holds, List.getD_cons_succ, List.getD_cons_zero] at g8
                simp only [List.take_succ_cons, List.take_zero, List.drop_succ_cons, List.drop_zero, putAll, Act.put, List.setIfInBounds_toArray, List.set_cons_succ, List.set_cons_zero, Nat.zero_add, Nat.reduceAdd]
                rw [g8]
                have HB := Lib.hid hI
                clear g8 hg hd hb hI hbel
                go_wp2_with fail
                go_ret
                exact ⟨by rw [E.out]; rfl, HB.out⟩
          · have t1 := text_ne hk
            clear hx hk
            go_upto_region 6 with fail
            refine wp_region_said 9 [17, 18, 19, 20, 21, 22, 23, 24, 25]
              [.is (.slice (some ad) a.length c), .is (.int .i64 (j : Int)), .is (.pointer (some (ad.add (j * 3)))), .is (.agg #[.string xk, .string xs, .bool xd]), .is (.slice (some bd) b.length d), .is (.int .i64 (j : Int)), .is (.pointer (some (bd.add (j * 3)))), .is (.agg #[.string yk, .string ys, .bool yd]), .is (.bool true)]
              (fun W => Below w.heap.size w W) (by kernel_rfl) (by kernel_rfl) (by kernel_rfl) (by kernel_rfl) (by kernel_rfl) (fun W W' h hb => h.trans (hb.mono h.size)) hbel.out ?steps ?last
            case steps =>
              simp only [List.take_succ_cons, List.take_zero]
              refine ⟨?_, ?_, ?_, ?_, ?_, ?_, ?_, ?_, ?_, trivial⟩
              all_goals
                intro vs W ρ hρ hc hf hg hI hH hd R' hR
                obtain ⟨x0, x1, x2, y0, y1, y2⟩ := HC.out W hI
                have HR := Lib.hid hR
                simp [depsOf, Region.binds, sayAt, Say.holds] at hd
                clear hR hI
                go_simp
                first
                  | exact HR.out _ _ (by simp [sayAt, Say.holds]) (Below.refl _ _) (by simp [sayAt, Say.isBlk])
                  | trace_state
            case last =>
              intro vs W hI hb hg hd
              have g8 := hg 8 (by omega)
              simp only [sayAt, Say.holds, List.getD_cons_succ, List.getD_cons_zero] at g8
              simp only [List.take_succ_cons, List.take_zero, List.drop_succ_cons, List.drop_zero, putAll, Act.put, List.setIfInBounds_toArray, List.set_cons_succ, List.set_cons_zero, Nat.zero_add, Nat.reduceAdd]
              rw [g8]
              have HB := Lib.hid hI
              clear g8 hg hd hb hI hbel
              go_wp2_with fail
              go_ret
              exact ⟨by rw [E.out]; rfl, HB.out⟩
      · have E := Lib.hid (show decide (a = b) = true by
          rw [decide_eq_true_eq]
          exact List.ext_getElem HL.out fun x h h2 => heq.out x h h2 (by omega))
        have HB2 := hbel
        clear hbel
        go_wp2_with fail
        go_ret
        exact ⟨by rw [E.out]; rfl, HB2.out⟩
  · have q1 : ((a.length : Int) != (b.length : Int)) = true := by simp; omega
    have E := Lib.hid (show decide (a = b) = false by rw [decide_eq_false_iff_not]; intro e; exact hl (by rw [e]))
    clear hl ha hb
    go_enter Tryz.func51, Tryz.ntmps51
    go_wp2_with fail
    go_ret
    exact ⟨by rw [E.out]; rfl, Below.refl _ _⟩
end Lt
end Go.Proofs.YtbkanoblcojdfaaGreat

namespace Go.Proofs.YtbkanoblcojdfaaGreat
namespace Bk
open Go.RowKit
attribute [local go_sem ↓] Go.wp_at_zero Go.wp_at_succ
def intV (l : List Int) : List Value := l.map (Value.int .i64)
theorem intV_len (l : List Int) : (intV l).length = l.length := by simp [intV]
theorem intV_at {l : List Int} {i : Nat} (h : i < l.length) : (intV l)[i]? = some (.int .i64 l[i]) := by
  unfold intV
  rw [List.getElem?_map, List.getElem?_eq_getElem h]; rfl
theorem intV_snoc (O : List Int) (x : Int) : intV (O ++ [x]) = intV O ++ [.int .i64 x] := by simp [intV]
def IntsAt (w : World) (A : Option Addr) (l : List Int) : Prop :=
  0 < l.length → ∃ ad, A = some ad ∧ ad.block < w.heap.size ∧ ∀ i (h : i < l.length), w.cell? (ad.add i) = some (.int .i64 l[i])
theorem IntsAt.below {w w' : World} {A : Option Addr} {l : List Int} (h : IntsAt w A l) (hb : Below w.heap.size w w') : IntsAt w' A l := fun hp => by
  obtain ⟨ad, h1, h2, h3⟩ := h hp
  exact ⟨ad, h1, Nat.lt_of_lt_of_le h2 hb.size, fun i hi => (cell_kept hb _ (by rw [st_block]; exact h2)).trans (h3 i hi)⟩
theorem IntsAt.alloc {w : World} {A : Option Addr} {l : List Int} (h : IntsAt w A l) (o : Obj) : IntsAt (w.alloc o) A l := h.below ((Below.refl _ w).alloc (Nat.le_refl _) o)
theorem IntsAt.drewN {w : World} {A : Option Addr} {l : List Int} (h : IntsAt w A l) (n : Nat) : IntsAt (w.drewN n) A l := h
theorem IntsAt.blk {w : World} {g : Nat} {t : TypeId} {l : List Int} (h : w.heap[g]? = some (.cells (intV l).toArray t (0, 0))) : IntsAt w (some ⟨g, 0, none⟩) l := fun _ =>
  ⟨_, rfl, (Array.getElem?_eq_some_iff.1 h).1, fun i hi => by rw [addr_head]; exact blk_cell h (by rw [List.getElem?_toArray]; exact intV_at hi)⟩
theorem IntsAt.own {w : World} {H g n cap : Nat} {e : TypeId} {l : List Int} (h : w.ownsRow H e 1 (.slice (some ⟨g, 0, none⟩) n cap) n (intV l)) (hl : n = l.length) : IntsAt w (some ⟨g, 0, none⟩) l := fun hp => by
  have hf := World.ownsRow.cellAt h
  refine ⟨_, rfl, ?_, fun i hi => ?_⟩
  · obtain ⟨g', cap', hv, _, hlt⟩ := World.ownsRow.form h (by omega)
    simp only [Value.slice.injEq, Option.some.injEq, Addr.mk.injEq] at hv
    obtain ⟨⟨rfl, -⟩, -⟩ := hv
    exact hlt
  · rw [addr_head, hf i (by omega)]
    exact intV_at hi
theorem ints_of_own {w : World} {H n : Nat} {v : Value} {e : TypeId} {O : List Int} (h : w.ownsRow H e 1 v n (intV O)) (hl : n = O.length) : ∃ (A : Option Addr) (c : Nat), v = .slice A n c ∧ IntsAt w A O := by
  have h2 := h.2
  rcases h2 with ⟨h1, h2, h3⟩ | ⟨g, cap, cur, h1, _⟩
  · exact ⟨none, 0, h1, fun hp => absurd hl (by omega)⟩
  · subst h1
    exact ⟨_, _, rfl, IntsAt.own h hl⟩
theorem strs_of_own2 {w : World} {H n : Nat} {v : Value} {e : TypeId} {O : List ByteArray} (h : w.ownsRow H e 1 v n (strV O)) (hl : n = O.length) : ∃ (A : Option Addr) (c : Nat), v = .slice A n c ∧ StrsAt w A O := by
  have h2 := h.2
  rcases h2 with ⟨h1, h2, h3⟩ | ⟨g, cap, cur, h1, _⟩
  · exact ⟨none, 0, h1, fun hp => absurd hl (by omega)⟩
  · subst h1
    exact ⟨_, _, rfl, StrsAt.own h hl⟩
theorem IntsAt.news {w : World} {ad : Addr} {l : List Int} (h : IntsAt w (some ad) l) : ∀ j u, (intV l)[j]? = some u → w.cell? (ad.add j) = some u := fun j u hu => by
  have hj : j < l.length := by
    have := (List.getElem?_eq_some_iff.1 hu).1
    rwa [intV_len] at this
  obtain ⟨a', e, _, h3⟩ := h (by omega)
  obtain rfl := Option.some.inj e
  rw [intV_at hj] at hu
  rw [← hu]
  exact h3 j hj
set_option maxRecDepth 20000 in
set_option maxHeartbeats 2000000 in
theorem sameInts_any (A B : Option Addr) (c d : Nat) (a b : List Int) (w : World) (ha : IntsAt w A a) (hb : IntsAt w B b) (hn : a.length ≤ 9223372036854775807) :
    Calls Tryz.prog 55 #[.slice A a.length c, .slice B b.length d] w fun e w' => e = .returned (.bool (decide (a = b))) ∧ ∃ n, w' = w.drewN n := by
  by_cases hl : a.length = b.length
  · have q1 : ((a.length : Int) != (b.length : Int)) = false := by simp [hl]
    have HA := Lib.hid ha
    have HB := Lib.hid hb
    have HL := Lib.hid hl
    clear ha hb hl
    go_enter Tryz.func55, Tryz.ntmps55
    go_wp2_with fail
    go_loopw [5] (fun i wr => ∃ j n : Nat, j ≤ a.length ∧ i = .int .i64 (j : Int) ∧ Hid (∀ x (h : x < a.length) (h2 : x < b.length), x < j → a[x] = b[x]) ∧ wr = w.drewN n) (fun i _ => a.length - (intOf i).toNat)
    case atStart => exact ⟨0, 0, by omega, rfl, fun x _ _ h => absurd h (by omega), rfl⟩
    case round =>
      obtain ⟨j, n, hj, rfl, heq, rfl⟩ := hrel
      by_cases hlt : j < a.length
      · have hltb : j < b.length := by rw [← HL.out]; exact hlt
        obtain ⟨ad, rfl, _, hca⟩ := HA.out (by omega)
        obtain ⟨bd, rfl, _, hcb⟩ := HB.out (by omega)
        have c1 := hca j hlt
        have c2 := hcb j hltb
        have p1 : (j : Int) < (a.length : Int) := by omega
        have p2 : (j : Int) < (b.length : Int) := by omega
        clear hca hcb
        generalize hW : w.drewN n = W
        have HW := Lib.hid hW
        have c1' : W.cell? (ad.add j) = some (.int .i64 a[j]) := by rw [← hW]; exact c1
        have c2' : W.cell? (bd.add j) = some (.int .i64 b[j]) := by rw [← hW]; exact c2
        clear hW c1 c2
        by_cases hx : a[j] = b[j]
        · have HX := Lib.hid hx
          rw [← hx] at c2'
          generalize a[j] = x at c1' c2'
          have q2 : (x != x) = false := by simp
          clear hx
          go_wp2_with fail
          go_quiet (fail)
          go_wp2
          go_roundw
          case rel => exact ⟨j + 1, _, by omega, by go_num, (fun x h h2 hxj => by
            by_cases e : x = j
            · subst e; exact HX.out
            · exact heq.out x h h2 (by omega)), by rw [← HW.out, World.drewN_drewN]⟩
          case measure => simp [intOf]; omega
        · have q2 : (a[j] != b[j]) = true := by simpa using hx
          have E := Lib.hid (show decide (a = b) = false by rw [decide_eq_false_iff_not]; intro e; exact hx (by simp only [e]))
          generalize a[j] = x at c1' q2
          generalize b[j] = y at c2' q2
          clear hx
          go_wp2_with fail
          go_quiet (fail)
          go_wp2
          go_ret
          exact ⟨by rw [E.out]; rfl, _, by rw [← HW.out, World.drewN_drewN]⟩
      · have E := Lib.hid (show decide (a = b) = true by
          rw [decide_eq_true_eq]
          exact List.ext_getElem HL.out fun x h h2 => heq.out x h h2 (by omega))
        go_wp2_with fail
        go_ret
        exact ⟨by rw [E.out]; rfl, _, rfl⟩
  · have q1 : ((a.length : Int) != (b.length : Int)) = true := by simp; omega
    have E := Lib.hid (show decide (a = b) = false by rw [decide_eq_false_iff_not]; intro e; exact hl (by rw [e]))
    clear hl ha hb
    go_enter Tryz.func55, Tryz.ntmps55
    go_wp2_with fail
    go_ret
    exact ⟨by rw [E.out]; rfl, 0, rfl⟩
end Bk
end Go.Proofs.YtbkanoblcojdfaaGreat

namespace Go.Proofs.YtbkanoblcojdfaaGreat
namespace Bk
open Go.ChangeShapes Go.WideShapes Go.ChangeAt Go.RowKit Go.Joins
section
variable {H : Type} {enc : TypeId × Value → H} {W : World}
set_option maxRecDepth 20000 in
theorem field_ints {t e : TypeId} {v : Value} {fuel : Nat} {y : DataW H × List MemPlace} (ht : Tryz.prog.underlying t = some (.slice e)) (he : Tryz.prog.underlying e = some (.int .i64)) (hc : Tryz.prog.cellsOf e = 1) (hb8 : Tryz.prog.bytesOf e = 8)
    (hf : DataW.trod enc Tryz.prog W 0 (fun _ => true) true fuel t [v] = some y) (hwt : ∀ k ∈ y.1.weights Tryz.prog t, k ≤ reachBytes) (hl : ∀ x ∈ y.2, x.block < W.heap.size) :
    ∃ (A : Option Addr) (c : Nat) (L : List Int), v = .slice A L.length c ∧ IntsAt W A L ∧ L.length * 8 ≤ reachBytes ∧ L.length ≤ c ∧ c ≤ maxLen ∧ (∀ n ∈ L, -9223372036854775808 ≤ n ∧ n ≤ 9223372036854775807) ∧ (A = none → L = [] ∧ c = 0) := by
  rcases open_ints ht he hc hf with ⟨hcs, hx⟩ | ⟨a, len, cap, zs, hcs, _, hl', hm, hz, hx, hcell, hwz⟩
  · obtain rfl : v = .slice none 0 0 := by simpa using hcs
    exact ⟨none, 0, [], rfl, fun h => absurd h (by simp), by simp, by simp, Nat.zero_le _, by simp, fun _ => ⟨rfl, rfl⟩⟩
  · obtain rfl : v = .slice (some a) len cap := by simpa using hcs
    subst hx
    simp only [if_true] at hz
    have hlen : (zs.take len).length = len := by rw [List.length_take]; omega
    have hs := hwt (((lits (H := H) .i64 (zs.take len)).length + (lits (H := H) .i64 (zs.drop len)).length) * Tryz.prog.bytesOf e) (by simp [DataW.weights, ht])
    rw [hb8] at hs
    have hs2 : (zs.take len).length * 8 ≤ reachBytes := by
      refine Nat.le_trans (Nat.mul_le_mul_right 8 ?_) hs
      simp only [lits, List.length_map]
      omega
    refine ⟨some a, cap, zs.take len, by rw [hlen], fun hpos => ⟨a, rfl, ?_, fun i hi => ?_⟩, hs2, by rw [hlen]; exact hl', hm, fun n hn => ?_, fun h => by cases h⟩
    · obtain ⟨b, off, spot⟩ := a
      exact hl (.cell b off) (MemPlace.mem_row.2 ⟨0, by omega, by simp⟩)
    · have h1 := hcell i (by omega)
      rw [h1]
      congr 2
      rw [List.getElem_take, List.getD_eq_getElem?_getD, List.getElem?_eq_getElem (by omega), Option.getD_some]
    · have := hwz n (List.mem_of_mem_take hn)
      exact show IntKind.i64.min ≤ n ∧ n ≤ 9223372036854775807 by simpa [Lit.wf] using this
set_option maxRecDepth 20000 in
theorem field_texts {t e : TypeId} {v : Value} {fuel : Nat} {y : DataW H × List MemPlace} (ht : Tryz.prog.underlying t = some (.slice e)) (he : Tryz.prog.underlying e = some .string) (hc : Tryz.prog.cellsOf e = 1) (hb16 : Tryz.prog.bytesOf e = 16)
    (hf : DataW.trod enc Tryz.prog W 0 (fun _ => true) true fuel t [v] = some y) (hwt : ∀ k ∈ y.1.weights Tryz.prog t, k ≤ reachBytes) (hl : ∀ x ∈ y.2, x.block < W.heap.size) :
    ∃ (A : Option Addr) (c : Nat) (L : List ByteArray), v = .slice A L.length c ∧ StrsAt W A L ∧ L.length * 16 ≤ reachBytes ∧ L.length ≤ c ∧ c ≤ maxLen ∧ (∀ s ∈ L, s.size ≤ reachBytes) ∧ (A = none → L = [] ∧ c = 0) := by
  rcases open_strings ht he hc hf with ⟨hcs, hx⟩ | ⟨a, len, cap, zs, hcs, _, hl', hm, hz, hx, hcell, hwz⟩
  · obtain rfl : v = .slice none 0 0 := by simpa using hcs
    exact ⟨none, 0, [], rfl, fun h => absurd h (by simp), by simp, by simp, Nat.zero_le _, by simp, fun _ => ⟨rfl, rfl⟩⟩
  · obtain rfl : v = .slice (some a) len cap := by simpa using hcs
    subst hx
    simp only [if_true] at hz
    have hlen : (zs.take len).length = len := by rw [List.length_take]; omega
    have hs := hwt (((strs (H := H) (zs.take len)).length + (strs (H := H) (zs.drop len)).length) * Tryz.prog.bytesOf e) (by simp [DataW.weights, ht])
    rw [hb16] at hs
    have hs2 : (zs.take len).length * 16 ≤ reachBytes := by
      refine Nat.le_trans (Nat.mul_le_mul_right 16 ?_) hs
      simp only [strs, List.length_map]
      omega
    refine ⟨some a, cap, zs.take len, by rw [hlen], fun hpos => ⟨a, rfl, ?_, fun i hi => ?_⟩, hs2, by rw [hlen]; exact hl', hm, fun s hs' => ?_, fun h => by cases h⟩
    · obtain ⟨b, off, spot⟩ := a
      exact hl (.cell b off) (MemPlace.mem_row.2 ⟨0, by omega, by simp⟩)
    · have h1 := hcell i (by omega)
      rw [h1]
      congr 2
      rw [List.getElem_take, List.getD_eq_getElem?_getD, List.getElem?_eq_getElem (by omega), Option.getD_some]
    · exact hwt s.size (by
        simp only [DataW.weights, ht, List.mem_cons, List.mem_append]
        exact .inr (.inl (weights_strs _ _ _ _ hs')))
theorem arg_weights {ts : List TypeId} {ds : List (DataW H)} {j : Nat} {t : TypeId} {d : DataW H} (hsz : (DataW.weightsEach Tryz.prog ts ds).all (· ≤ reachBytes) = true) (hj : ts[j]? = some t) (hd : ds[j]? = some d) : ∀ k ∈ d.weights Tryz.prog t, k ≤ reachBytes := fun k hk => by
  have h1 := List.all_eq_true.1 hsz _ (DataW.weights_mem_each hj hd k hk)
  simpa using h1
end
end Bk
end Go.Proofs.YtbkanoblcojdfaaGreat

namespace Go.Proofs.YtbkanoblcojdfaaGreat
namespace Lt
open Go.ChangeShapes Go.WideShapes Go.ChangeAt Go.RowKit Go.Joins Go.Deep Bk
section
variable {H : Type} {enc : TypeId × Value → H} {W : World}
instance : Inhabited Wr := ⟨⟨⟨#[]⟩, ⟨#[]⟩, false⟩⟩
theorem agg_weights {t : TypeId} {fs : Array Field} (hs : Tryz.prog.underlying t = some (.struct fs)) {xs : List (DataW H × List MemPlace)} {i : Nat} {f : Field} {y : DataW H × List MemPlace} (hi : fs[i]? = some f) (hy : xs[i]? = some y) (hw : ∀ k ∈ (DataW.agg (xs.map (·.1))).weights Tryz.prog t, k ≤ reachBytes) : ∀ k ∈ y.1.weights Tryz.prog f.type, k ≤ reachBytes := fun k hk => hw k (by
  simp only [DataW.weights, hs]
  exact DataW.weights_mem_each (ts := fs.toList.map (·.type)) (ds := xs.map (·.1)) (j := i) (by rw [List.getElem?_map, Array.getElem?_toList, hi]; rfl) (by rw [List.getElem?_map, hy]; rfl) k hk)
theorem field_int {t : TypeId} {v : Value} {fuel : Nat} {y : DataW H × List MemPlace} (ht : Tryz.prog.underlying t = some (.int .i64)) (hf : DataW.trod enc Tryz.prog W 0 (fun _ => true) true fuel t [v] = some y) : ∃ z, v = .int .i64 z ∧ -9223372036854775808 ≤ z ∧ z ≤ 9223372036854775807 := by
  obtain ⟨z, h1, _, h3⟩ := DataW.trod_int ht hf
  obtain rfl : v = .int .i64 z := by simpa using h1
  exact ⟨z, rfl, show IntKind.i64.min ≤ z ∧ z ≤ 9223372036854775807 by simpa [Lit.wf] using h3⟩
theorem field_text {t : TypeId} {v : Value} {fuel : Nat} {y : DataW H × List MemPlace} (ht : Tryz.prog.underlying t = some .string) (hf : DataW.trod enc Tryz.prog W 0 (fun _ => true) true fuel t [v] = some y) (hw : ∀ k ∈ y.1.weights Tryz.prog t, k ≤ reachBytes) : ∃ s : ByteArray, v = .string s ∧ s.size ≤ reachBytes := by
  obtain ⟨s, h1, rfl, _⟩ := DataW.trod_string ht hf
  obtain rfl : v = .string s := by simpa using h1
  exact ⟨s, rfl, by
    have := hw s.data.toList.length (by simp [DataW.weights])
    rwa [Array.length_toList] at this⟩
theorem field_bool {t : TypeId} {v : Value} {fuel : Nat} {y : DataW H × List MemPlace} (ht : Tryz.prog.underlying t = some .bool) (hf : DataW.trod enc Tryz.prog W 0 (fun _ => true) true fuel t [v] = some y) : ∃ b, v = .bool b := by
  obtain ⟨b, h1, _⟩ := DataW.trod_bool ht hf
  exact ⟨b, by simpa using h1⟩
structure LetRng (l : Let) : Prop where
  kind : -9223372036854775808 ≤ l.kind ∧ l.kind ≤ 9223372036854775807
  src : -9223372036854775808 ≤ l.src ∧ l.src ≤ 9223372036854775807
  dst : -9223372036854775808 ≤ l.dst ∧ l.dst ≤ 9223372036854775807
  txn : -9223372036854775808 ≤ l.txn ∧ l.txn ≤ 9223372036854775807
  ts : -9223372036854775808 ≤ l.ts ∧ l.ts ≤ 9223372036854775807
  code : -9223372036854775808 ≤ l.code ∧ l.code ≤ 9223372036854775807
  text : l.text.size ≤ reachBytes
  k16 : l.keys.length * 16 ≤ reachBytes
  w16 : l.ws.length * 16 ≤ reachBytes
  kr : ∀ s ∈ l.keys, s.size ≤ reachBytes
  wr : ∀ x ∈ l.ws, x.key.size ≤ reachBytes ∧ x.shard.size ≤ reachBytes
structure LetRange (l : Let) (c d : Nat) : Prop extends LetRng l where
  kc : l.keys.length ≤ c
  wd : l.ws.length ≤ d
  c63 : c ≤ maxLen
  d63 : d ≤ maxLen
def letV (l : Let) (A B : Option Addr) (c d : Nat) : Value := .agg #[.int .i64 l.kind, .int .i64 l.src, .int .i64 l.dst, .int .i64 l.txn, .int .i64 l.ts, .int .i64 l.code, .string l.text, .slice A l.keys.length c, .slice B l.ws.length d]
end
end Lt
end Go.Proofs.YtbkanoblcojdfaaGreat

namespace Go.Proofs.YtbkanoblcojdfaaGreat
namespace Lt
open Go.ChangeShapes Go.WideShapes Go.ChangeAt Go.RowKit Go.Joins Go.Deep Bk
section
variable {H : Type} {enc : TypeId × Value → H} {W : World}
set_option maxRecDepth 20000 in
theorem field_writes40 {t e : TypeId} {f0 f1 f2 : Field} {v : Value} {fuel : Nat} {y : DataW H × List MemPlace} (ht : Tryz.prog.underlying t = some (.slice e)) (he : Tryz.prog.underlying e = some (.struct #[f0, f1, f2])) (ce : Tryz.prog.cellsOf e = 3) (hone : oneCellFields Tryz.prog #[f0, f1, f2] = true)
    (t0 : Tryz.prog.underlying f0.type = some .string) (t1 : Tryz.prog.underlying f1.type = some .string) (t2 : Tryz.prog.underlying f2.type = some .bool) (hb40 : 40 ≤ Tryz.prog.bytesOf e)
    (hf : DataW.trod enc Tryz.prog W 0 (fun _ => true) true fuel t [v] = some y) (hwt : ∀ k ∈ y.1.weights Tryz.prog t, k ≤ reachBytes) (hl : ∀ x ∈ y.2, x.block < W.heap.size) :
    ∃ (A : Option Addr) (c : Nat) (L : List Wr), v = .slice A L.length c ∧ WrsAt W A L ∧ L.length * 40 ≤ reachBytes ∧ L.length ≤ c ∧ c ≤ maxLen ∧ (∀ x ∈ L, x.key.size ≤ reachBytes ∧ x.shard.size ≤ reachBytes) ∧ (A = none → L = [] ∧ c = 0) := by
  rcases open_slice ht hf with ⟨hcs, _⟩ | ⟨a, len, cap, m, n, D, Pl, hcs, _, hl', hm, hmm, hx, hall⟩
  · obtain rfl : v = .slice none 0 0 := by simpa using hcs
    exact ⟨none, 0, [], rfl, fun h => absurd h (by simp), by simp, by simp, Nat.zero_le _, by simp, fun _ => ⟨rfl, rfl⟩⟩
  · obtain rfl : v = .slice (some a) len cap := by simpa using hcs
    subst hx
    simp only [if_true] at hmm
    subst hmm
    have each : ∀ i, i < len → ∃ q : Wr, W.cell? (a.add (i * 3)) = some (.string q.key) ∧ W.cell? (a.add (i * 3 + 1)) = some (.string q.shard) ∧ W.cell? (a.add (i * 3 + 2)) = some (.bool q.dead) ∧ q.key.size ≤ reachBytes ∧ q.shard.size ≤ reachBytes := by
      intro i hi
      obtain ⟨cs', h1, h2⟩ := hall i (by omega)
      rw [ce] at h1
      obtain ⟨_, hlen, hcell⟩ := World.cells?_some h1
      have hwi : ∀ k ∈ (D i).weights Tryz.prog e, k ≤ reachBytes := fun k hk => hwt k (by
        simp only [DataW.weights, ht, List.mem_cons, List.mem_append]
        refine .inr (.inl ?_)
        have : ∀ (ds : List (DataW H)), D i ∈ ds → k ∈ DataW.weightsAll Tryz.prog e ds := by
          intro ds
          induction ds with
          | nil => intro h; simp at h
          | cons x r ih =>
            intro h
            show k ∈ x.weights Tryz.prog e ++ DataW.weightsAll Tryz.prog e r
            rw [List.mem_append]
            rcases List.mem_cons.1 h with rfl | h
            · exact .inl hk
            · exact .inr (ih h)
        exact this _ (List.mem_map.2 ⟨i, List.mem_range.2 hi, rfl⟩))
      obtain ⟨xs, k, _, hxy, _, hxl, hff⟩ := DataW.trod_struct he h2
      obtain ⟨o0, c0⟩ := hone_of hone 0 f0 rfl
      obtain ⟨o1, c1⟩ := hone_of hone 1 f1 rfl
      obtain ⟨o2, c2⟩ := hone_of hone 2 f2 rfl
      match xs, hxl, cs', hlen with
      | [y0, y1, y2], _, [v0, v1, v2], _ =>
        have g0 := hff 0 f0 rfl
        have g1 := hff 1 f1 rfl
        have g2 := hff 2 f2 rfl
        simp [o0, o1, o2, c0, c1, c2] at g0 g1 g2
        simp only [Prod.mk.injEq] at hxy
        rw [hxy.1] at hwi
        obtain ⟨k0, rfl, s0⟩ := field_text t0 g0 (agg_weights (i := 0) he rfl rfl hwi)
        obtain ⟨k1, rfl, s1⟩ := field_text t1 g1 (agg_weights (i := 1) he rfl rfl hwi)
        obtain ⟨k2, rfl⟩ := field_bool t2 g2
        have e0 := hcell 0 (by omega)
        have e1 := hcell 1 (by omega)
        have e2 := hcell 2 (by omega)
        rw [add_add] at e0 e1 e2
        exact ⟨⟨k0, k1, k2⟩, by simpa using e0, by simpa using e1, by simpa using e2, s0, s1⟩
    obtain ⟨q, hq⟩ := choose_lt each
    have hL : ((List.range len).map q).length = len := by simp
    have hat : ∀ i (h : i < ((List.range len).map q).length), ((List.range len).map q)[i] = q i := fun i h => by simp
    have hs := hwt ((((List.range len).map D).length + ((List.range (m - len)).map fun j => D (len + j)).length) * Tryz.prog.bytesOf e) (by simp [DataW.weights, ht])
    refine ⟨some a, m, (List.range len).map q, by rw [hL], fun hpos => ⟨a, rfl, ?_, fun i hi => ?_⟩, ?_, by rw [hL]; exact hl', hm, fun x hx => ?_, fun h => by cases h⟩
    · obtain ⟨b, off, spot⟩ := a
      rw [hL] at hpos
      exact hl (.cell b off) (List.mem_append_left _ (MemPlace.mem_row.2 ⟨0, by rw [ce]; omega, by simp⟩))
    · rw [hat i hi]
      have := hq i (by rw [hL] at hi; exact hi)
      exact ⟨this.1, this.2.1, this.2.2.1⟩
    · rw [hL]
      refine Nat.le_trans (Nat.mul_le_mul ?_ hb40) hs
      rw [List.length_map, List.length_range]
      omega
    · obtain ⟨i, hi, rfl⟩ := List.mem_map.1 hx
      exact (hq i (List.mem_range.1 hi)).2.2.2
end
end Lt
end Go.Proofs.YtbkanoblcojdfaaGreat

namespace Go.Proofs.YtbkanoblcojdfaaGreat
namespace Lt
open Go.RowKit Bk
attribute [local go_sem ↓] Go.wp_at_zero Go.wp_at_succ
attribute [local go_sem] floatUpon pick
structure LtEnv (w W : World) (g : Nat) (A B : Option Addr) (c d : Nat) (l : Let) : Prop where
  ks : StrsAt W A l.keys
  ws : WrsAt W B l.ws
  cel : Cel W g 337 [.int .i64 l.kind, .int .i64 l.src, .int .i64 l.dst, .int .i64 l.txn, .int .i64 l.ts, .int .i64 l.code, .string l.text, .slice A l.keys.length c, .slice B l.ws.length d]
  bel : Below w.heap.size w W
theorem LtEnv.step {w W W' : World} {g : Nat} {A B : Option Addr} {c d : Nat} {l : Let} (h : LtEnv w W g A B c d l) (hb : Below W.heap.size W W') : LtEnv w W' g A B c d l :=
  ⟨h.ks.below hb, h.ws.below hb, h.cel.below hb, h.bel.trans (hb.mono h.bel.size)⟩
theorem LtEnv.start {w : World} {A B : Option Addr} {c d : Nat} {l : Let} (ha : StrsAt w A l.keys) (hb : WrsAt w B l.ws) :
    LtEnv w (w.alloc (.cells #[.int .i64 l.kind, .int .i64 l.src, .int .i64 l.dst, .int .i64 l.txn, .int .i64 l.ts, .int .i64 l.code, .string l.text, .slice A l.keys.length c, .slice B l.ws.length d] 337)) w.heap.size A B c d l :=
  ⟨ha.alloc _, hb.alloc _, (blk1 w _).2, (Below.refl _ w).alloc (Nat.le_refl _) _⟩
open Classical in
noncomputable def ckN (l : Let) : Nat := if LetOk l then 0 else 70
theorem ckN_ok {l : Let} (h : headOk l) (h2 : kindOk l) : ckN l = 0 := by unfold ckN; rw [if_pos ⟨h, h2⟩]
theorem ckN_bad {l : Let} (h : ¬ kindOk l) : ckN l = 70 := by unfold ckN; rw [if_neg (fun hh => h hh.2)]
theorem ckN_head {l : Let} (h : ¬ headOk l) : ckN l = 70 := by unfold ckN; rw [if_neg (fun hh => h hh.1)]
theorem ckN_zero {l : Let} : ckN l = 0 ↔ LetOk l := by
  unfold ckN
  split
  · next h => exact ⟨fun _ => h, fun _ => rfl⟩
  · next h => exact ⟨fun e => by omega, fun hh => absurd hh h⟩
def OneOk (l : Let) : Prop := l.keys.length = 1 ∧ (∀ k ∈ l.keys, keyOk k) ∧ l.ws = []
def BareOk (l : Let) : Prop := l.keys = [] ∧ l.ws = [] ∧ l.text = ⟨#[]⟩
theorem kind_1 {l : Let} (h : l.kind = 1) : kindOk l ↔ OneOk l ∧ l.text = ⟨#[]⟩ ∧ l.code = 0 := by
  constructor
  · rintro (h2 | h2 | h2 | h2 | h2 | h2)
    · exact h2.2
    all_goals omega
  · intro h2; exact .inl ⟨h, h2⟩
theorem kind_2 {l : Let} (h : l.kind = 2) : kindOk l ↔ OneOk l ∧ l.text.size ≤ 2052 ∧ (l.text = ⟨#[]⟩ ∨ l.code = 1) := by
  constructor
  · rintro (h2 | h2 | h2 | h2 | h2 | h2)
    · omega
    · exact h2.2
    all_goals omega
  · intro h2; exact .inr (.inl ⟨h, h2⟩)
theorem kind_3 {l : Let} (h : l.kind = 3) : kindOk l ↔ l.keys.length ≤ 16 ∧ Rises l.keys ∧ WritesOk l.ws ∧ l.text = ⟨#[]⟩ ∧ l.code = 0 := by
  constructor
  · rintro (h2 | h2 | h2 | h2 | h2 | h2)
    · omega
    · omega
    · exact h2.2
    all_goals omega
  · intro h2; exact .inr (.inr (.inl ⟨h, h2⟩))
theorem kind_4 {l : Let} (h : l.kind = 4) : kindOk l ↔ BareOk l ∧ l.code ≤ 1 := by
  constructor
  · rintro (h2 | h2 | h2 | h2 | h2 | h2)
    · omega
    · omega
    · omega
    · exact h2.2
    all_goals omega
  · intro h2; exact .inr (.inr (.inr (.inl ⟨h, h2⟩)))
theorem kind_5 {l : Let} (h : l.kind = 5 ∨ l.kind = 6 ∨ l.kind = 7) : kindOk l ↔ BareOk l ∧ l.code = 0 := by
  constructor
  · rintro (h2 | h2 | h2 | h2 | h2 | h2)
    · omega
    · omega
    · omega
    · omega
    · exact h2.2
    · omega
  · intro h2; exact .inr (.inr (.inr (.inr (.inl ⟨h, h2⟩))))
theorem kind_8 {l : Let} (h : l.kind = 8) : kindOk l ↔ BareOk l ∧ l.code ≤ 2 := by
  constructor
  · rintro (h2 | h2 | h2 | h2 | h2 | h2)
    · omega
    · omega
    · omega
    · omega
    · omega
    · exact h2.2
  · intro h2; exact .inr (.inr (.inr (.inr (.inr ⟨h, h2⟩))))
theorem kind_no {l : Let} (h : l.kind < 1 ∨ 8 < l.kind) : ¬ kindOk l := by
  rintro (h2 | h2 | h2 | h2 | h2 | h2) <;> omega
theorem empty_list {s : ByteArray} (h : s ≠ ⟨#[]⟩) : ¬ s.toList = [] := fun e => h (by
  rw [ByteArray.toList_eq] at e
  obtain ⟨a⟩ := s
  congr 1
  exact Array.toList_inj.1 e)
theorem list_one {l : List ByteArray} (h : l.length = 1) : ∃ k, l = [k] := by
  match l, h with
  | [k], _ => exact ⟨k, rfl⟩
end Lt
end Go.Proofs.YtbkanoblcojdfaaGreat

namespace Go.Proofs.YtbkanoblcojdfaaGreat
namespace Pk
open Go.RowKit Bk
attribute [local go_sem ↓] Go.wp_at_zero Go.wp_at_succ
attribute [local go_sem] floatUpon pick
end Pk
end Go.Proofs.YtbkanoblcojdfaaGreat

namespace Go.Proofs.YtbkanoblcojdfaaGreat
namespace Pk
open Go.RowKit Bk
attribute [local go_sem ↓] Go.wp_at_zero Go.wp_at_succ
attribute [local go_sem] floatUpon pick
def packV (A B : Option Addr) (c d : Nat) (ns : List Int) (ts : List ByteArray) : Value := .agg #[.slice A ns.length c, .slice B ts.length d]
def Holds (w : World) (v : Value) (ns : List Int) (ts : List ByteArray) : Prop :=
  ∃ (A B : Option Addr) (c d : Nat), v = packV A B c d ns ts ∧ IntsAt w A ns ∧ StrsAt w B ts
theorem Holds.below {w w' : World} {v : Value} {ns : List Int} {ts : List ByteArray} (h : Holds w v ns ts) (hb : Below w.heap.size w w') : Holds w' v ns ts := by
  obtain ⟨A, B, c, d, h1, h2, h3⟩ := h
  exact ⟨A, B, c, d, h1, h2.below hb, h3.below hb⟩
end Pk
end Go.Proofs.YtbkanoblcojdfaaGreat

namespace Go.Proofs.YtbkanoblcojdfaaGreat
namespace Pk
open Go.RowKit Bk
attribute [local go_sem ↓] Go.wp_at_zero Go.wp_at_succ
attribute [local go_sem] floatUpon pick
def PkEnv (w W : World) (g : Nat) (A B : Option Addr) (c d : Nat) (ns : List Int) (ts : List ByteArray) : Prop :=
  IntsAt W A ns ∧ StrsAt W B ts ∧ Cel W g 240 [.slice A ns.length c, .slice B ts.length d] ∧ Below w.heap.size w W
theorem PkEnv.step {w W W' : World} {g : Nat} {A B : Option Addr} {c d : Nat} {ns : List Int} {ts : List ByteArray} (h : PkEnv w W g A B c d ns ts) (hb : Below W.heap.size W W') : PkEnv w W' g A B c d ns ts :=
  ⟨h.1.below hb, h.2.1.below hb, h.2.2.1.below hb, h.2.2.2.trans (hb.mono h.2.2.2.size)⟩
end Pk
end Go.Proofs.YtbkanoblcojdfaaGreat

namespace Go.Proofs.YtbkanoblcojdfaaGreat
namespace Pk
open Go.RowKit Bk
attribute [local go_sem ↓] Go.wp_at_zero Go.wp_at_succ
attribute [local go_sem] floatUpon pick
theorem list_size (s : ByteArray) : s.data.toList.length = s.size := Array.length_toList
end Pk
end Go.Proofs.YtbkanoblcojdfaaGreat
