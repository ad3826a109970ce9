/- Parts of the proof, joined: LtSame, BkInts, BkOpen, LtOpen, LtEnv, PkRef, PkRef2; their conditions stand with each. -/
import Derived.WalkKit
import Derived.ProofKit
import Derived.SizedLaws
import Derived.ChangeSlices
import Derived.SliceStrings
import Derived.Carry
import Derived.Lib.SmallJoins
import Derived.Deep.SlicePairs
import Derived.Deep.Cut
import Derived.Deep.CutRange
import Derived.Deep.DeepCutAuto
import Derived.Test.YtkpcfakfkcghdaaA0
import Derived.Test.YtkpcfakfkcghdaaA1

/- Whether writes are the same; contract; no condition but the range. -/
namespace Go.Proofs.Ytkpcfakfkcghdaa
namespace Lt
open Go.RowKit Bk

attribute [local go_sem ↓] Go.wp_at_zero Go.wp_at_succ
attribute [local go_sem] floatUpon pick

theorem wr_ext {x y : Wr} (h1 : x.key = y.key) (h2 : x.shard = y.shard) (h3 : x.dead = y.dead) : x = y := by
  obtain ⟨a, b, c⟩ := x
  obtain ⟨d, e, f⟩ := y
  simp only at h1 h2 h3
  rw [h1, h2, h3]

instance : DecidableEq Wr := fun x y => decidable_of_iff (x.key = y.key ∧ x.shard = y.shard ∧ x.dead = y.dead) ⟨fun h => wr_ext h.1 h.2.1 h.2.2, fun h => by rw [h]; exact ⟨rfl, rfl, rfl⟩⟩

set_option maxRecDepth 20000 in
set_option maxHeartbeats 4000000 in
theorem sameWrs_any (A B : Option Addr) (c d : Nat) (a b : List Wr) (w : World) (ha : WrsAt w A a) (hb : WrsAt w B b) (hn : a.length ≤ 9223372036854775807) :
    Calls Try.prog 36 #[.slice A a.length c, .slice B b.length d] w fun e w' => e = .returned (.bool (decide (a = b))) ∧ Below w.heap.size w w' := by
  by_cases hl : a.length = b.length
  · have q1 : ((a.length : Int) != (b.length : Int)) = false := by simp [hl]
    have HA := Lib.hid ha
    have HB := Lib.hid hb
    have HL := Lib.hid hl
    clear ha hb hl
    go_enter Try.func36, Try.ntmps36
    go_wp2_with fail
    go_loopw [5] (fun i wr => ∃ j : Nat, j ≤ a.length ∧ i = .int .i64 (j : Int) ∧ Hid (∀ x (h : x < a.length) (h2 : x < b.length), x < j → a[x] = b[x]) ∧ Hid (Below w.heap.size w wr)) (fun i _ => a.length - (intOf i).toNat)
    case atStart => exact ⟨0, by omega, rfl, fun x _ _ h => absurd h (by omega), Below.refl _ _⟩
    case round =>
      obtain ⟨j, hj, rfl, heq, hbel⟩ := hrel
      by_cases hlt : j < a.length
      · have hltb : j < b.length := by rw [← HL.out]; exact hlt
        obtain ⟨ad, rfl, _, _⟩ := HA.out (by omega)
        obtain ⟨bd, rfl, _, _⟩ := HB.out (by omega)
        have p1 : (j : Int) < (a.length : Int) := by omega
        have p2 : (j : Int) < (b.length : Int) := by omega
        have hC : ∀ W, Below w.heap.size w W → W.cell? (ad.add (j * 3)) = some (.string a[j].key) ∧ W.cell? ⟨(ad.add (j * 3)).block, (ad.add (j * 3)).off + 1, none⟩ = some (.string a[j].shard) ∧ W.cell? ⟨(ad.add (j * 3)).block, (ad.add (j * 3)).off + 2, none⟩ = some (.bool a[j].dead) ∧
            W.cell? (bd.add (j * 3)) = some (.string b[j].key) ∧ W.cell? ⟨(bd.add (j * 3)).block, (bd.add (j * 3)).off + 1, none⟩ = some (.string b[j].shard) ∧ W.cell? ⟨(bd.add (j * 3)).block, (bd.add (j * 3)).off + 2, none⟩ = some (.bool b[j].dead) := fun W hW => by
          obtain ⟨ad', e1, _, hca⟩ := (HA.out.below hW) (by omega)
          obtain ⟨bd', e2, _, hcb⟩ := (HB.out.below hW) (by omega)
          obtain rfl := Option.some.inj e1
          obtain rfl := Option.some.inj e2
          obtain ⟨x0, x1, x2⟩ := hca j hlt
          obtain ⟨y0, y1, y2⟩ := hcb j hltb
          rw [add_field _ _ _ (by omega), add_field _ _ _ (by omega), add_field _ _ _ (by omega), add_field _ _ _ (by omega)]
          exact ⟨x0, x1, x2, y0, y1, y2⟩
        have E0 : a[j] ≠ b[j] → decide (a = b) = false := fun hx => by rw [decide_eq_false_iff_not]; intro e; exact hx (by simp only [e])
        by_cases hx : a[j] = b[j]
        · have HX := Lib.hid hx
          rw [← hx] at hC
          clear E0 hx
          generalize a[j] = X at hC
          obtain ⟨xk, xs, xd⟩ := X
          have HC := Lib.hid hC
          have t1 := text_eq xk
          have t2 := text_eq xs
          clear hC
          go_upto_region 6 with fail
          refine wp_region_said 9 [17, 18, 19, 20, 21, 22, 23, 24, 25]
            [.is (.slice (some ad) a.length c), .is (.int .i64 (j : Int)), .is (.pointer (some (ad.add (j * 3)))), .is (.agg #[.string xk, .string xs, .bool xd]), .is (.slice (some bd) b.length d), .is (.int .i64 (j : Int)), .is (.pointer (some (bd.add (j * 3)))), .is (.agg #[.string xk, .string xs, .bool xd]), .is (.bool false)]
            (fun W => Below w.heap.size w W) (by kernel_rfl) (by kernel_rfl) (by kernel_rfl) (by kernel_rfl) (by kernel_rfl) (fun W W' h hb => h.trans (hb.mono h.size)) hbel.out ?steps ?last
          case steps =>
            simp only [List.take_succ_cons, List.take_zero]
            refine ⟨?_, ?_, ?_, ?_, ?_, ?_, ?_, ?_, ?_, trivial⟩
            all_goals
              intro vs W ρ hρ hc hf hg hI hH hd R' hR
              obtain ⟨x0, x1, x2, y0, y1, y2⟩ := HC.out W hI
              have HR := Lib.hid hR
              simp [depsOf, Region.binds, sayAt, Say.holds] at hd
              clear hR hI
              go_simp
              first
                | exact HR.out _ _ (by simp [sayAt, Say.holds]) (Below.refl _ _) (by simp [sayAt, Say.isBlk])
                | trace_state
          case last =>
            intro vs W hI hb hg hd
            have g8 := hg 8 (by omega)
            simp only [sayAt, Say.holds, List.getD_cons_succ, List.getD_cons_zero] at g8
            simp only [List.take_succ_cons, List.take_zero, List.drop_succ_cons, List.drop_zero, putAll, Act.put, List.setIfInBounds_toArray, List.set_cons_succ, List.set_cons_zero, Nat.zero_add, Nat.reduceAdd]
            rw [g8]
            have HB := Lib.hid hI
            clear g8 hg hd hb hI hbel
            go_wp2_with fail
            go_roundw
            case rel => exact ⟨j + 1, by omega, by go_num, (fun x h h2 hxj => by
              by_cases e : x = j
              · subst e; exact HX.out
              · exact heq.out x h h2 (by omega)), HB.out⟩
            case measure => simp [intOf]; omega
        · have E := Lib.hid (E0 hx)
          clear E0
          generalize a[j] = X at hC hx
          generalize b[j] = Y at hC hx
          obtain ⟨xk, xs, xd⟩ := X
          obtain ⟨yk, ys, yd⟩ := Y
          have HC := Lib.hid hC
          clear hC
          by_cases hk : xk = yk
          · subst hk
            have t1 := text_eq xk
            by_cases hs : xs = ys
            · subst hs
              have t2 := text_eq xs
              have hd : xd = !yd := by cases xd <;> cases yd <;> simp at hx ⊢
              clear hx
              cases yd with
              | true =>
                obtain rfl : xd = false := hd
                go_upto_region 6 with fail
                refine wp_region_said 9 [17, 18, 19, 20, 21, 22, 23, 24, 25]
                  [.is (.slice (some ad) a.length c), .is (.int .i64 (j : Int)), .is (.pointer (some (ad.add (j * 3)))), .is (.agg #[.string xk, .string xs, .bool false]), .is (.slice (some bd) b.length d), .is (.int .i64 (j : Int)), .is (.pointer (some (bd.add (j * 3)))), .is (.agg #[.string xk, .string xs, .bool true]), .is (.bool true)]
                  (fun W => Below w.heap.size w W) (by kernel_rfl) (by kernel_rfl) (by kernel_rfl) (by kernel_rfl) (by kernel_rfl) (fun W W' h hb => h.trans (hb.mono h.size)) hbel.out ?steps ?last
                case steps =>
                  simp only [List.take_succ_cons, List.take_zero]
                  refine ⟨?_, ?_, ?_, ?_, ?_, ?_, ?_, ?_, ?_, trivial⟩
                  all_goals
                    intro vs W ρ hρ hc hf hg hI hH hd R' hR
                    obtain ⟨x0, x1, x2, y0, y1, y2⟩ := HC.out W hI
                    have HR := Lib.hid hR
                    simp [depsOf, Region.binds, sayAt, Say.holds] at hd
                    clear hR hI
                    go_simp
                    first
                      | exact HR.out _ _ (by simp [sayAt, Say.holds]) (Below.refl _ _) (by simp [sayAt, Say.isBlk])
                      | trace_state
                case last =>
                  intro vs W hI hb hg hd
                  have g8 := hg 8 (by omega)
                  simp only [sayAt, Say.holds, List.getD_cons_succ, List.getD_cons_zero] at g8
                  simp only [List.take_succ_cons, List.take_zero, List.drop_succ_cons, List.drop_zero, putAll, Act.put, List.setIfInBounds_toArray, List.set_cons_succ, List.set_cons_zero, Nat.zero_add, Nat.reduceAdd]
                  rw [g8]
                  have HB := Lib.hid hI
                  clear g8 hg hd hb hI hbel
                  go_wp2_with fail
                  go_ret
                  exact ⟨by rw [E.out]; rfl, HB.out⟩
              | false =>
                obtain rfl : xd = true := hd
                go_upto_region 6 with fail
                refine wp_region_said 9 [17, 18, 19, 20, 21, 22, 23, 24, 25]
                  [.is (.slice (some ad) a.length c), .is (.int .i64 (j : Int)), .is (.pointer (some (ad.add (j * 3)))), .is (.agg #[.string xk, .string xs, .bool true]), .is (.slice (some bd) b.length d), .is (.int .i64 (j : Int)), .is (.pointer (some (bd.add (j * 3)))), .is (.agg #[.string xk, .string xs, .bool false]), .is (.bool true)]
                  (fun W => Below w.heap.size w W) (by kernel_rfl) (by kernel_rfl) (by kernel_rfl) (by kernel_rfl) (by kernel_rfl) (fun W W' h hb => h.trans (hb.mono h.size)) hbel.out ?steps ?last
                case steps =>
                  simp only [List.take_succ_cons, List.take_zero]
                  refine ⟨?_, ?_, ?_, ?_, ?_, ?_, ?_, ?_, ?_, trivial⟩
                  all_goals
                    intro vs W ρ hρ hc hf hg hI hH hd R' hR
                    obtain ⟨x0, x1, x2, y0, y1, y2⟩ := HC.out W hI
                    have HR := Lib.hid hR
                    simp [depsOf, Region.binds, sayAt, Say.holds] at hd
                    clear hR hI
                    go_simp
                    first
                      | exact HR.out _ _ (by simp [sayAt, Say.holds]) (Below.refl _ _) (by simp [sayAt, Say.isBlk])
                      | trace_state
                case last =>
                  intro vs W hI hb hg hd
                  have g8 := hg 8 (by omega)
                  simp only [sayAt, Say.holds, List.getD_cons_succ, List.getD_cons_zero] at g8
                  simp only [List.take_succ_cons, List.take_zero, List.drop_succ_cons, List.drop_zero, putAll, Act.put, List.setIfInBounds_toArray, List.set_cons_succ, List.set_cons_zero, Nat.zero_add, Nat.reduceAdd]
                  rw [g8]
                  have HB := Lib.hid hI
                  clear g8 hg hd hb hI hbel
                  go_wp2_with fail
                  go_ret
                  exact ⟨by rw [E.out]; rfl, HB.out⟩
            · have t2 := text_ne hs
              clear hx hs
              go_upto_region 6 with fail
              refine wp_region_said 9 [17, 18, 19, 20, 21, 22, 23, 24, 25]
                [.is (.slice (some ad) a.length c), .is (.int .i64 (j : Int)), .is (.pointer (some (ad.add (j * 3)))), .is (.agg #[.string xk, .string xs, .bool xd]), .is (.slice (some bd) b.length d), .is (.int .i64 (j : Int)), .is (.pointer (some (bd.add (j * 3)))), .is (.agg #[.string xk, .string ys, .bool yd]), .is (.bool true)]
                (fun W => Below w.heap.size w W) (by kernel_rfl) (by kernel_rfl) (by kernel_rfl) (by kernel_rfl) (by kernel_rfl) (fun W W' h hb => h.trans (hb.mono h.size)) hbel.out ?steps ?last
              case steps =>
                simp only [List.take_succ_cons, List.take_zero]
                refine ⟨?_, ?_, ?_, ?_, ?_, ?_, ?_, ?_, ?_, trivial⟩
                all_goals
                  intro vs W ρ hρ hc hf hg hI hH hd R' hR
                  obtain ⟨x0, x1, x2, y0, y1, y2⟩ := HC.out W hI
                  have HR := Lib.hid hR
                  simp [depsOf, Region.binds, sayAt, Say.holds] at hd
                  clear hR hI
                  go_simp
                  first
                    | exact HR.out _ _ (by simp [sayAt, Say.holds]) (Below.refl _ _) (by simp [sayAt, Say.isBlk])
                    | trace_state
              case last =>
                intro vs W hI hb hg hd
                have g8 := hg 8 (by omega)
                simp only [sayAt, Say.holds, List.getD_cons_succ, List.getD_cons_zero] at g8
                simp only [List.take_succ_cons, List.take_zero, List.drop_succ_cons, List.drop_zero, putAll, Act.put, List.setIfInBounds_toArray, List.set_cons_succ, List.set_cons_zero, Nat.zero_add, Nat.reduceAdd]
                rw [g8]
                have HB := Lib.hid hI
                clear g8 hg hd hb hI hbel
                go_wp2_with fail
                go_ret
                exact ⟨by rw [E.out]; rfl, HB.out⟩
          · have t1 := text_ne hk
            clear hx hk
            go_upto_region 6 with fail
            refine wp_region_said 9 [17, 18, 19, 20, 21, 22, 23, 24, 25]
              [.is (.slice (some ad) a.length c), .is (.int .i64 (j : Int)), .is (.pointer (some (ad.add (j * 3)))), .is (.agg #[.string xk, .string xs, .bool xd]), .is (.slice (some bd) b.length d), .is (.int .i64 (j : Int)), .is (.pointer (some (bd.add (j * 3)))), .is (.agg #[.string yk, .string ys, .bool yd]), .is (.bool true)]
              (fun W => Below w.heap.size w W) (by kernel_rfl) (by kernel_rfl) (by kernel_rfl) (by kernel_rfl) (by kernel_rfl) (fun W W' h hb => h.trans (hb.mono h.size)) hbel.out ?steps ?last
            case steps =>
              simp only [List.take_succ_cons, List.take_zero]
              refine ⟨?_, ?_, ?_, ?_, ?_, ?_, ?_, ?_, ?_, trivial⟩
              all_goals
                intro vs W ρ hρ hc hf hg hI hH hd R' hR
                obtain ⟨x0, x1, x2, y0, y1, y2⟩ := HC.out W hI
                have HR := Lib.hid hR
                simp [depsOf, Region.binds, sayAt, Say.holds] at hd
                clear hR hI
                go_simp
                first
                  | exact HR.out _ _ (by simp [sayAt, Say.holds]) (Below.refl _ _) (by simp [sayAt, Say.isBlk])
                  | trace_state
            case last =>
              intro vs W hI hb hg hd
              have g8 := hg 8 (by omega)
              simp only [sayAt, Say.holds, List.getD_cons_succ, List.getD_cons_zero] at g8
              simp only [List.take_succ_cons, List.take_zero, List.drop_succ_cons, List.drop_zero, putAll, Act.put, List.setIfInBounds_toArray, List.set_cons_succ, List.set_cons_zero, Nat.zero_add, Nat.reduceAdd]
              rw [g8]
              have HB := Lib.hid hI
              clear g8 hg hd hb hI hbel
              go_wp2_with fail
              go_ret
              exact ⟨by rw [E.out]; rfl, HB.out⟩
      · have E := Lib.hid (show decide (a = b) = true by
          rw [decide_eq_true_eq]
          exact List.ext_getElem HL.out fun x h h2 => heq.out x h h2 (by omega))
        have HB2 := hbel
        clear hbel
        go_wp2_with fail
        go_ret
        exact ⟨by rw [E.out]; rfl, HB2.out⟩
  · have q1 : ((a.length : Int) != (b.length : Int)) = true := by simp; omega
    have E := Lib.hid (show decide (a = b) = false by rw [decide_eq_false_iff_not]; intro e; exact hl (by rw [e]))
    clear hl ha hb
    go_enter Try.func36, Try.ntmps36
    go_wp2_with fail
    go_ret
    exact ⟨by rw [E.out]; rfl, Below.refl _ _⟩

end Lt
end Go.Proofs.Ytkpcfakfkcghdaa

/- A slice's whole numbers, as StrsAt says of texts; SameInts; no condition but the range. -/
namespace Go.Proofs.Ytkpcfakfkcghdaa
namespace Bk
open Go.RowKit

attribute [local go_sem ↓] Go.wp_at_zero Go.wp_at_succ

def intV (l : List Int) : List Value := l.map (Value.int .i64)

theorem intV_len (l : List Int) : (intV l).length = l.length := by simp [intV]

theorem intV_at {l : List Int} {i : Nat} (h : i < l.length) : (intV l)[i]? = some (.int .i64 l[i]) := by
  unfold intV
  rw [List.getElem?_map, List.getElem?_eq_getElem h]; rfl

theorem intV_snoc (O : List Int) (x : Int) : intV (O ++ [x]) = intV O ++ [.int .i64 x] := by simp [intV]

/-- the slice v holds the numbers l -/
def IntsAt (w : World) (A : Option Addr) (l : List Int) : Prop :=
  0 < l.length → ∃ ad, A = some ad ∧ ad.block < w.heap.size ∧ ∀ i (h : i < l.length), w.cell? (ad.add i) = some (.int .i64 l[i])

theorem IntsAt.below {w w' : World} {A : Option Addr} {l : List Int} (h : IntsAt w A l) (hb : Below w.heap.size w w') : IntsAt w' A l := fun hp => by
  obtain ⟨ad, h1, h2, h3⟩ := h hp
  exact ⟨ad, h1, Nat.lt_of_lt_of_le h2 hb.size, fun i hi => (cell_kept hb _ (by rw [st_block]; exact h2)).trans (h3 i hi)⟩

theorem IntsAt.alloc {w : World} {A : Option Addr} {l : List Int} (h : IntsAt w A l) (o : Obj) : IntsAt (w.alloc o) A l := h.below ((Below.refl _ w).alloc (Nat.le_refl _) o)

theorem IntsAt.drewN {w : World} {A : Option Addr} {l : List Int} (h : IntsAt w A l) (n : Nat) : IntsAt (w.drewN n) A l := h

theorem IntsAt.blk {w : World} {g : Nat} {t : TypeId} {l : List Int} (h : w.heap[g]? = some (.cells (intV l).toArray t (0, 0))) : IntsAt w (some ⟨g, 0, none⟩) l := fun _ =>
  ⟨_, rfl, (Array.getElem?_eq_some_iff.1 h).1, fun i hi => by rw [addr_head]; exact blk_cell h (by rw [List.getElem?_toArray]; exact intV_at hi)⟩

theorem IntsAt.own {w : World} {H g n cap : Nat} {e : TypeId} {l : List Int} (h : w.ownsRow H e 1 (.slice (some ⟨g, 0, none⟩) n cap) n (intV l)) (hl : n = l.length) : IntsAt w (some ⟨g, 0, none⟩) l := fun hp => by
  have hf := World.ownsRow.cellAt h
  refine ⟨_, rfl, ?_, fun i hi => ?_⟩
  · obtain ⟨g', cap', hv, _, hlt⟩ := World.ownsRow.form h (by omega)
    simp only [Value.slice.injEq, Option.some.injEq, Addr.mk.injEq] at hv
    obtain ⟨⟨rfl, -⟩, -⟩ := hv
    exact hlt
  · rw [addr_head, hf i (by omega)]
    exact intV_at hi

theorem ints_of_own {w : World} {H n : Nat} {v : Value} {e : TypeId} {O : List Int} (h : w.ownsRow H e 1 v n (intV O)) (hl : n = O.length) : ∃ (A : Option Addr) (c : Nat), v = .slice A n c ∧ IntsAt w A O := by
  have h2 := h.2
  rcases h2 with ⟨h1, h2, h3⟩ | ⟨g, cap, cur, h1, _⟩
  · exact ⟨none, 0, h1, fun hp => absurd hl (by omega)⟩
  · subst h1
    exact ⟨_, _, rfl, IntsAt.own h hl⟩

theorem strs_of_own2 {w : World} {H n : Nat} {v : Value} {e : TypeId} {O : List ByteArray} (h : w.ownsRow H e 1 v n (strV O)) (hl : n = O.length) : ∃ (A : Option Addr) (c : Nat), v = .slice A n c ∧ StrsAt w A O := by
  have h2 := h.2
  rcases h2 with ⟨h1, h2, h3⟩ | ⟨g, cap, cur, h1, _⟩
  · exact ⟨none, 0, h1, fun hp => absurd hl (by omega)⟩
  · subst h1
    exact ⟨_, _, rfl, StrsAt.own h hl⟩

theorem IntsAt.news {w : World} {ad : Addr} {l : List Int} (h : IntsAt w (some ad) l) : ∀ j u, (intV l)[j]? = some u → w.cell? (ad.add j) = some u := fun j u hu => by
  have hj : j < l.length := by
    have := (List.getElem?_eq_some_iff.1 hu).1
    rwa [intV_len] at this
  obtain ⟨a', e, _, h3⟩ := h (by omega)
  obtain rfl := Option.some.inj e
  rw [intV_at hj] at hu
  rw [← hu]
  exact h3 j hj

set_option maxRecDepth 20000 in
set_option maxHeartbeats 2000000 in
theorem sameInts_any (A B : Option Addr) (c d : Nat) (a b : List Int) (w : World) (ha : IntsAt w A a) (hb : IntsAt w B b) (hn : a.length ≤ 9223372036854775807) :
    Calls Try.prog 30 #[.slice A a.length c, .slice B b.length d] w fun e w' => e = .returned (.bool (decide (a = b))) ∧ ∃ n, w' = w.drewN n := by
  by_cases hl : a.length = b.length
  · have q1 : ((a.length : Int) != (b.length : Int)) = false := by simp [hl]
    have HA := Lib.hid ha
    have HB := Lib.hid hb
    have HL := Lib.hid hl
    clear ha hb hl
    go_enter Try.func30, Try.ntmps30
    go_wp2_with fail
    go_loopw [5] (fun i wr => ∃ j n : Nat, j ≤ a.length ∧ i = .int .i64 (j : Int) ∧ Hid (∀ x (h : x < a.length) (h2 : x < b.length), x < j → a[x] = b[x]) ∧ wr = w.drewN n) (fun i _ => a.length - (intOf i).toNat)
    case atStart => exact ⟨0, 0, by omega, rfl, fun x _ _ h => absurd h (by omega), rfl⟩
    case round =>
      obtain ⟨j, n, hj, rfl, heq, rfl⟩ := hrel
      by_cases hlt : j < a.length
      · have hltb : j < b.length := by rw [← HL.out]; exact hlt
        obtain ⟨ad, rfl, _, hca⟩ := HA.out (by omega)
        obtain ⟨bd, rfl, _, hcb⟩ := HB.out (by omega)
        have c1 := hca j hlt
        have c2 := hcb j hltb
        have p1 : (j : Int) < (a.length : Int) := by omega
        have p2 : (j : Int) < (b.length : Int) := by omega
        clear hca hcb
        generalize hW : w.drewN n = W
        have HW := Lib.hid hW
        have c1' : W.cell? (ad.add j) = some (.int .i64 a[j]) := by rw [← hW]; exact c1
        have c2' : W.cell? (bd.add j) = some (.int .i64 b[j]) := by rw [← hW]; exact c2
        clear hW c1 c2
        by_cases hx : a[j] = b[j]
        · have HX := Lib.hid hx
          rw [← hx] at c2'
          generalize a[j] = x at c1' c2'
          have q2 : (x != x) = false := by simp
          clear hx
          go_wp2_with fail
          go_quiet (fail)
          go_wp2
          go_roundw
          case rel => exact ⟨j + 1, _, by omega, by go_num, (fun x h h2 hxj => by
            by_cases e : x = j
            · subst e; exact HX.out
            · exact heq.out x h h2 (by omega)), by rw [← HW.out, World.drewN_drewN]⟩
          case measure => simp [intOf]; omega
        · have q2 : (a[j] != b[j]) = true := by simpa using hx
          have E := Lib.hid (show decide (a = b) = false by rw [decide_eq_false_iff_not]; intro e; exact hx (by simp only [e]))
          generalize a[j] = x at c1' q2
          generalize b[j] = y at c2' q2
          clear hx
          go_wp2_with fail
          go_quiet (fail)
          go_wp2
          go_ret
          exact ⟨by rw [E.out]; rfl, _, by rw [← HW.out, World.drewN_drewN]⟩
      · have E := Lib.hid (show decide (a = b) = true by
          rw [decide_eq_true_eq]
          exact List.ext_getElem HL.out fun x h h2 => heq.out x h h2 (by omega))
        go_wp2_with fail
        go_ret
        exact ⟨by rw [E.out]; rfl, _, rfl⟩
  · have q1 : ((a.length : Int) != (b.length : Int)) = true := by simp; omega
    have E := Lib.hid (show decide (a = b) = false by rw [decide_eq_false_iff_not]; intro e; exact hl (by rw [e]))
    clear hl ha hb
    go_enter Try.func30, Try.ntmps30
    go_wp2_with fail
    go_ret
    exact ⟨by rw [E.out]; rfl, 0, rfl⟩

end Bk
end Go.Proofs.Ytkpcfakfkcghdaa

/- Fields of a struct that comes as an argument: a row of numbers, a row of texts: what its reading says. -/
namespace Go.Proofs.Ytkpcfakfkcghdaa
namespace Bk
open Go.ChangeShapes Go.WideShapes Go.ChangeAt Go.RowKit Go.Joins

section
variable {H : Type} {enc : TypeId × Value → H} {W : World}

set_option maxRecDepth 20000 in
theorem field_ints {t e : TypeId} {v : Value} {fuel : Nat} {y : DataW H × List MemPlace} (ht : Try.prog.underlying t = some (.slice e)) (he : Try.prog.underlying e = some (.int .i64)) (hc : Try.prog.cellsOf e = 1) (hb8 : Try.prog.bytesOf e = 8)
    (hf : DataW.trod enc Try.prog W 0 (fun _ => true) true fuel t [v] = some y) (hwt : ∀ k ∈ y.1.weights Try.prog t, k ≤ reachBytes) (hl : ∀ x ∈ y.2, x.block < W.heap.size) :
    ∃ (A : Option Addr) (c : Nat) (L : List Int), v = .slice A L.length c ∧ IntsAt W A L ∧ L.length * 8 ≤ reachBytes ∧ L.length ≤ c ∧ c ≤ maxLen ∧ (∀ n ∈ L, -9223372036854775808 ≤ n ∧ n ≤ 9223372036854775807) ∧ (A = none → L = [] ∧ c = 0) := by
  rcases open_ints ht he hc hf with ⟨hcs, hx⟩ | ⟨a, len, cap, zs, hcs, _, hl', hm, hz, hx, hcell, hwz⟩
  · obtain rfl : v = .slice none 0 0 := by simpa using hcs
    exact ⟨none, 0, [], rfl, fun h => absurd h (by simp), by simp, by simp, Nat.zero_le _, by simp, fun _ => ⟨rfl, rfl⟩⟩
  · obtain rfl : v = .slice (some a) len cap := by simpa using hcs
    subst hx
    simp only [if_true] at hz
    have hlen : (zs.take len).length = len := by rw [List.length_take]; omega
    have hs := hwt (((lits (H := H) .i64 (zs.take len)).length + (lits (H := H) .i64 (zs.drop len)).length) * Try.prog.bytesOf e) (by simp [DataW.weights, ht])
    rw [hb8] at hs
    have hs2 : (zs.take len).length * 8 ≤ reachBytes := by
      refine Nat.le_trans (Nat.mul_le_mul_right 8 ?_) hs
      simp only [lits, List.length_map]
      omega
    refine ⟨some a, cap, zs.take len, by rw [hlen], fun hpos => ⟨a, rfl, ?_, fun i hi => ?_⟩, hs2, by rw [hlen]; exact hl', hm, fun n hn => ?_, fun h => by cases h⟩
    · obtain ⟨b, off, spot⟩ := a
      exact hl (.cell b off) (MemPlace.mem_row.2 ⟨0, by omega, by simp⟩)
    · have h1 := hcell i (by omega)
      rw [h1]
      congr 2
      rw [List.getElem_take, List.getD_eq_getElem?_getD, List.getElem?_eq_getElem (by omega), Option.getD_some]
    · have := hwz n (List.mem_of_mem_take hn)
      exact show IntKind.i64.min ≤ n ∧ n ≤ 9223372036854775807 by simpa [Lit.wf] using this

set_option maxRecDepth 20000 in
theorem field_texts {t e : TypeId} {v : Value} {fuel : Nat} {y : DataW H × List MemPlace} (ht : Try.prog.underlying t = some (.slice e)) (he : Try.prog.underlying e = some .string) (hc : Try.prog.cellsOf e = 1) (hb16 : Try.prog.bytesOf e = 16)
    (hf : DataW.trod enc Try.prog W 0 (fun _ => true) true fuel t [v] = some y) (hwt : ∀ k ∈ y.1.weights Try.prog t, k ≤ reachBytes) (hl : ∀ x ∈ y.2, x.block < W.heap.size) :
    ∃ (A : Option Addr) (c : Nat) (L : List ByteArray), v = .slice A L.length c ∧ StrsAt W A L ∧ L.length * 16 ≤ reachBytes ∧ L.length ≤ c ∧ c ≤ maxLen ∧ (∀ s ∈ L, s.size ≤ reachBytes) ∧ (A = none → L = [] ∧ c = 0) := by
  rcases open_strings ht he hc hf with ⟨hcs, hx⟩ | ⟨a, len, cap, zs, hcs, _, hl', hm, hz, hx, hcell, hwz⟩
  · obtain rfl : v = .slice none 0 0 := by simpa using hcs
    exact ⟨none, 0, [], rfl, fun h => absurd h (by simp), by simp, by simp, Nat.zero_le _, by simp, fun _ => ⟨rfl, rfl⟩⟩
  · obtain rfl : v = .slice (some a) len cap := by simpa using hcs
    subst hx
    simp only [if_true] at hz
    have hlen : (zs.take len).length = len := by rw [List.length_take]; omega
    have hs := hwt (((strs (H := H) (zs.take len)).length + (strs (H := H) (zs.drop len)).length) * Try.prog.bytesOf e) (by simp [DataW.weights, ht])
    rw [hb16] at hs
    have hs2 : (zs.take len).length * 16 ≤ reachBytes := by
      refine Nat.le_trans (Nat.mul_le_mul_right 16 ?_) hs
      simp only [strs, List.length_map]
      omega
    refine ⟨some a, cap, zs.take len, by rw [hlen], fun hpos => ⟨a, rfl, ?_, fun i hi => ?_⟩, hs2, by rw [hlen]; exact hl', hm, fun s hs' => ?_, fun h => by cases h⟩
    · obtain ⟨b, off, spot⟩ := a
      exact hl (.cell b off) (MemPlace.mem_row.2 ⟨0, by omega, by simp⟩)
    · have h1 := hcell i (by omega)
      rw [h1]
      congr 2
      rw [List.getElem_take, List.getD_eq_getElem?_getD, List.getElem?_eq_getElem (by omega), Option.getD_some]
    · exact hwt s.size (by
        simp only [DataW.weights, ht, List.mem_cons, List.mem_append]
        exact .inr (.inl (weights_strs _ _ _ _ hs')))

/-- what an argument's reading holds is within the reach -/
theorem arg_weights {ts : List TypeId} {ds : List (DataW H)} {j : Nat} {t : TypeId} {d : DataW H} (hsz : (DataW.weightsEach Try.prog ts ds).all (· ≤ reachBytes) = true) (hj : ts[j]? = some t) (hd : ds[j]? = some d) : ∀ k ∈ d.weights Try.prog t, k ≤ reachBytes := fun k hk => by
  have h1 := List.all_eq_true.1 hsz _ (DataW.weights_mem_each hj hd k hk)
  simpa using h1

theorem agg2_weights {t : TypeId} {f0 f1 : Field} (hs : Try.prog.underlying t = some (.struct #[f0, f1])) (d0 d1 : DataW H) : (DataW.agg [d0, d1]).weights Try.prog t = d0.weights Try.prog f0.type ++ (d1.weights Try.prog f1.type ++ []) := by
  simp only [DataW.weights, hs]
  rfl

end

end Bk
end Go.Proofs.Ytkpcfakfkcghdaa

/- A struct of any number of one-cell fields as an argument; a row of writes in a field of it: what its reading says. -/
namespace Go.Proofs.Ytkpcfakfkcghdaa
namespace Lt
open Go.ChangeShapes Go.WideShapes Go.ChangeAt Go.RowKit Go.Joins Go.Deep Bk

section
variable {H : Type} {enc : TypeId × Value → H} {W : World}

instance : Inhabited Wr := ⟨⟨⟨#[]⟩, ⟨#[]⟩, false⟩⟩

set_option maxRecDepth 20000 in
theorem open_agg_any {r : Reach} {b0 : Nat} {t : TypeId} {fs : Array Field} {v : Value} {d : DataW H} {p : List MemPlace} (hs : Try.prog.underlying t = some (.struct fs)) (hone : oneCellFields Try.prog fs = true) (hC : Try.prog.cellsOf t = fs.size)
    (hv : Value.okWide Try.prog W r b0 t v) (h : DataW.Trod enc Try.prog W 0 (fun _ => true) true t v d p) :
    ∃ (cs : List Value) (xs : List (DataW H × List MemPlace)) (n : Nat), v = .agg cs.toArray ∧ cs.length = fs.size ∧ d = .agg (xs.map (·.1)) ∧ p = xs.flatMap (·.2) ∧ xs.length = fs.size ∧
      ∀ (i : Nat) (f : Field) (u : Value) (y : DataW H × List MemPlace), fs[i]? = some f → cs[i]? = some u → xs[i]? = some y → DataW.trod enc Try.prog W 0 (fun _ => true) true n f.type [u] = some y := by
  obtain ⟨cs, rfl, hsz⟩ := okWide_struct hs hv
  obtain ⟨fuel, hf⟩ := h
  obtain ⟨xs, n, _, hx, _, hlen, hall⟩ := DataW.trod_struct hs hf
  simp only [Prod.mk.injEq] at hx
  refine ⟨cs.toList, xs, n, by simp, by rw [Array.length_toList, hsz, hC], hx.1, hx.2, hlen, fun i f u y hi hu hy => ?_⟩
  obtain ⟨o, k⟩ := hone_of hone i f hi
  have h1 := hall i f hi
  rw [o, k, hy] at h1
  rw [← h1]
  congr 1
  have hlt : i < cs.toList.length := (List.getElem?_eq_some_iff.1 hu).1
  show [u] = List.take 1 (List.drop i cs.toList)
  rw [List.drop_eq_getElem_cons hlt, List.take_succ_cons, List.take_zero, (List.getElem?_eq_some_iff.1 hu).2]

theorem agg_weights {t : TypeId} {fs : Array Field} (hs : Try.prog.underlying t = some (.struct fs)) {xs : List (DataW H × List MemPlace)} {i : Nat} {f : Field} {y : DataW H × List MemPlace} (hi : fs[i]? = some f) (hy : xs[i]? = some y) (hw : ∀ k ∈ (DataW.agg (xs.map (·.1))).weights Try.prog t, k ≤ reachBytes) : ∀ k ∈ y.1.weights Try.prog f.type, k ≤ reachBytes := fun k hk => hw k (by
  simp only [DataW.weights, hs]
  exact DataW.weights_mem_each (ts := fs.toList.map (·.type)) (ds := xs.map (·.1)) (j := i) (by rw [List.getElem?_map, Array.getElem?_toList, hi]; rfl) (by rw [List.getElem?_map, hy]; rfl) k hk)

theorem field_int {t : TypeId} {v : Value} {fuel : Nat} {y : DataW H × List MemPlace} (ht : Try.prog.underlying t = some (.int .i64)) (hf : DataW.trod enc Try.prog W 0 (fun _ => true) true fuel t [v] = some y) : ∃ z, v = .int .i64 z ∧ -9223372036854775808 ≤ z ∧ z ≤ 9223372036854775807 := by
  obtain ⟨z, h1, _, h3⟩ := DataW.trod_int ht hf
  obtain rfl : v = .int .i64 z := by simpa using h1
  exact ⟨z, rfl, show IntKind.i64.min ≤ z ∧ z ≤ 9223372036854775807 by simpa [Lit.wf] using h3⟩

theorem field_text {t : TypeId} {v : Value} {fuel : Nat} {y : DataW H × List MemPlace} (ht : Try.prog.underlying t = some .string) (hf : DataW.trod enc Try.prog W 0 (fun _ => true) true fuel t [v] = some y) (hw : ∀ k ∈ y.1.weights Try.prog t, k ≤ reachBytes) : ∃ s : ByteArray, v = .string s ∧ s.size ≤ reachBytes := by
  obtain ⟨s, h1, rfl, _⟩ := DataW.trod_string ht hf
  obtain rfl : v = .string s := by simpa using h1
  exact ⟨s, rfl, by
    have := hw s.data.toList.length (by simp [DataW.weights])
    rwa [Array.length_toList] at this⟩

theorem field_bool {t : TypeId} {v : Value} {fuel : Nat} {y : DataW H × List MemPlace} (ht : Try.prog.underlying t = some .bool) (hf : DataW.trod enc Try.prog W 0 (fun _ => true) true fuel t [v] = some y) : ∃ b, v = .bool b := by
  obtain ⟨b, h1, _⟩ := DataW.trod_bool ht hf
  exact ⟨b, by simpa using h1⟩

set_option maxRecDepth 20000 in
theorem field_writes {t e : TypeId} {f0 f1 f2 : Field} {v : Value} {fuel : Nat} {y : DataW H × List MemPlace} (ht : Try.prog.underlying t = some (.slice e)) (he : Try.prog.underlying e = some (.struct #[f0, f1, f2])) (ce : Try.prog.cellsOf e = 3) (hone : oneCellFields Try.prog #[f0, f1, f2] = true)
    (t0 : Try.prog.underlying f0.type = some .string) (t1 : Try.prog.underlying f1.type = some .string) (t2 : Try.prog.underlying f2.type = some .bool) (hb40 : 16 ≤ Try.prog.bytesOf e)
    (hf : DataW.trod enc Try.prog W 0 (fun _ => true) true fuel t [v] = some y) (hwt : ∀ k ∈ y.1.weights Try.prog t, k ≤ reachBytes) (hl : ∀ x ∈ y.2, x.block < W.heap.size) :
    ∃ (A : Option Addr) (c : Nat) (L : List Wr), v = .slice A L.length c ∧ WrsAt W A L ∧ L.length * 16 ≤ reachBytes ∧ L.length ≤ c ∧ c ≤ maxLen ∧ (∀ x ∈ L, x.key.size ≤ reachBytes ∧ x.shard.size ≤ reachBytes) ∧ (A = none → L = [] ∧ c = 0) := by
  rcases open_slice ht hf with ⟨hcs, _⟩ | ⟨a, len, cap, m, n, D, Pl, hcs, _, hl', hm, hmm, hx, hall⟩
  · obtain rfl : v = .slice none 0 0 := by simpa using hcs
    exact ⟨none, 0, [], rfl, fun h => absurd h (by simp), by simp, by simp, Nat.zero_le _, by simp, fun _ => ⟨rfl, rfl⟩⟩
  · obtain rfl : v = .slice (some a) len cap := by simpa using hcs
    subst hx
    simp only [if_true] at hmm
    subst hmm
    have each : ∀ i, i < len → ∃ q : Wr, W.cell? (a.add (i * 3)) = some (.string q.key) ∧ W.cell? (a.add (i * 3 + 1)) = some (.string q.shard) ∧ W.cell? (a.add (i * 3 + 2)) = some (.bool q.dead) ∧ q.key.size ≤ reachBytes ∧ q.shard.size ≤ reachBytes := by
      intro i hi
      obtain ⟨cs', h1, h2⟩ := hall i (by omega)
      rw [ce] at h1
      obtain ⟨_, hlen, hcell⟩ := World.cells?_some h1
      have hwi : ∀ k ∈ (D i).weights Try.prog e, k ≤ reachBytes := fun k hk => hwt k (by
        simp only [DataW.weights, ht, List.mem_cons, List.mem_append]
        refine .inr (.inl ?_)
        have : ∀ (ds : List (DataW H)), D i ∈ ds → k ∈ DataW.weightsAll Try.prog e ds := by
          intro ds
          induction ds with
          | nil => intro h; simp at h
          | cons x r ih =>
            intro h
            show k ∈ x.weights Try.prog e ++ DataW.weightsAll Try.prog e r
            rw [List.mem_append]
            rcases List.mem_cons.1 h with rfl | h
            · exact .inl hk
            · exact .inr (ih h)
        exact this _ (List.mem_map.2 ⟨i, List.mem_range.2 hi, rfl⟩))
      obtain ⟨xs, k, _, hxy, _, hxl, hff⟩ := DataW.trod_struct he h2
      obtain ⟨o0, c0⟩ := hone_of hone 0 f0 rfl
      obtain ⟨o1, c1⟩ := hone_of hone 1 f1 rfl
      obtain ⟨o2, c2⟩ := hone_of hone 2 f2 rfl
      match xs, hxl, cs', hlen with
      | [y0, y1, y2], _, [v0, v1, v2], _ =>
        have g0 := hff 0 f0 rfl
        have g1 := hff 1 f1 rfl
        have g2 := hff 2 f2 rfl
        simp [o0, o1, o2, c0, c1, c2] at g0 g1 g2
        simp only [Prod.mk.injEq] at hxy
        rw [hxy.1] at hwi
        obtain ⟨k0, rfl, s0⟩ := field_text t0 g0 (agg_weights (i := 0) he rfl rfl hwi)
        obtain ⟨k1, rfl, s1⟩ := field_text t1 g1 (agg_weights (i := 1) he rfl rfl hwi)
        obtain ⟨k2, rfl⟩ := field_bool t2 g2
        have e0 := hcell 0 (by omega)
        have e1 := hcell 1 (by omega)
        have e2 := hcell 2 (by omega)
        rw [add_add] at e0 e1 e2
        exact ⟨⟨k0, k1, k2⟩, by simpa using e0, by simpa using e1, by simpa using e2, s0, s1⟩
    obtain ⟨q, hq⟩ := choose_lt each
    have hL : ((List.range len).map q).length = len := by simp
    have hat : ∀ i (h : i < ((List.range len).map q).length), ((List.range len).map q)[i] = q i := fun i h => by simp
    have hs := hwt ((((List.range len).map D).length + ((List.range (m - len)).map fun j => D (len + j)).length) * Try.prog.bytesOf e) (by simp [DataW.weights, ht])
    refine ⟨some a, m, (List.range len).map q, by rw [hL], fun hpos => ⟨a, rfl, ?_, fun i hi => ?_⟩, ?_, by rw [hL]; exact hl', hm, fun x hx => ?_, fun h => by cases h⟩
    · obtain ⟨b, off, spot⟩ := a
      rw [hL] at hpos
      exact hl (.cell b off) (List.mem_append_left _ (MemPlace.mem_row.2 ⟨0, by rw [ce]; omega, by simp⟩))
    · rw [hat i hi]
      have := hq i (by rw [hL] at hi; exact hi)
      exact ⟨this.1, this.2.1, this.2.2.1⟩
    · rw [hL]
      refine Nat.le_trans (Nat.mul_le_mul ?_ hb40) hs
      rw [List.length_map, List.length_range]
      omega
    · obtain ⟨i, hi, rfl⟩ := List.mem_map.1 hx
      exact (hq i (List.mem_range.1 hi)).2.2.2

/-- the ranges of what a letter holds -/
structure LetRng (l : Let) : Prop where
  kind : -9223372036854775808 ≤ l.kind ∧ l.kind ≤ 9223372036854775807
  src : -9223372036854775808 ≤ l.src ∧ l.src ≤ 9223372036854775807
  dst : -9223372036854775808 ≤ l.dst ∧ l.dst ≤ 9223372036854775807
  txn : -9223372036854775808 ≤ l.txn ∧ l.txn ≤ 9223372036854775807
  ts : -9223372036854775808 ≤ l.ts ∧ l.ts ≤ 9223372036854775807
  code : -9223372036854775808 ≤ l.code ∧ l.code ≤ 9223372036854775807
  text : l.text.size ≤ reachBytes
  k16 : l.keys.length * 16 ≤ reachBytes
  w16 : l.ws.length * 16 ≤ reachBytes
  kr : ∀ s ∈ l.keys, s.size ≤ reachBytes
  wr : ∀ x ∈ l.ws, x.key.size ≤ reachBytes ∧ x.shard.size ≤ reachBytes

/-- .. and of what a letter as an argument holds -/
structure LetRange (l : Let) (c d : Nat) : Prop extends LetRng l where
  kc : l.keys.length ≤ c
  wd : l.ws.length ≤ d
  c63 : c ≤ maxLen
  d63 : d ≤ maxLen

/-- the value of a letter -/
def letV (l : Let) (A B : Option Addr) (c d : Nat) : Value := .agg #[.int .i64 l.kind, .int .i64 l.src, .int .i64 l.dst, .int .i64 l.txn, .int .i64 l.ts, .int .i64 l.code, .string l.text, .slice A l.keys.length c, .slice B l.ws.length d]

/-- the value is a letter that holds these -/
def LetArg (w : World) (v : Value) (l : Let) : Prop :=
  ∃ (A B : Option Addr) (c d : Nat), v = letV l A B c d ∧ StrsAt w A l.keys ∧ WrsAt w B l.ws ∧ LetRange l c d ∧ (A = none → l.keys = [] ∧ c = 0) ∧ (B = none → l.ws = [] ∧ d = 0)

set_option maxRecDepth 20000 in
theorem open_letter {base : Nat} {v : Value} {d : DataW H} {p : List MemPlace} {ts : List TypeId} {ds : List (DataW H)} {j : Nat}
    (hsz : (DataW.weightsEach Try.prog ts ds).all (· ≤ reachBytes) = true) (hj : ts[j]? = some 35) (hd : ds[j]? = some d)
    (hv : Value.okWide Try.prog W .any base 35 v) (h : DataW.Trod enc Try.prog W 0 (fun _ => true) true 35 v d p) (hl : ∀ x ∈ p, x.block < W.heap.size) : ∃ l, LetArg W v l := by
  obtain ⟨cs, xs, n, rfl, hcl, rfl, rfl, hxl, hall⟩ := open_agg_any Try.underlying35 (by kernel_rfl) (by kernel_rfl) hv h
  have hw := arg_weights hsz hj hd
  match cs, hcl, xs, hxl with
  | [v0, v1, v2, v3, v4, v5, v6, v7, v8], _, [y0, y1, y2, y3, y4, y5, y6, y7, y8], _ =>
    obtain ⟨kind, rfl, r0⟩ := field_int Try.underlying3 (hall 0 _ _ _ rfl rfl rfl)
    obtain ⟨src, rfl, r1⟩ := field_int Try.underlying3 (hall 1 _ _ _ rfl rfl rfl)
    obtain ⟨dst, rfl, r2⟩ := field_int Try.underlying3 (hall 2 _ _ _ rfl rfl rfl)
    obtain ⟨txn, rfl, r3⟩ := field_int Try.underlying3 (hall 3 _ _ _ rfl rfl rfl)
    obtain ⟨ts', rfl, r4⟩ := field_int Try.underlying3 (hall 4 _ _ _ rfl rfl rfl)
    obtain ⟨code, rfl, r5⟩ := field_int Try.underlying3 (hall 5 _ _ _ rfl rfl rfl)
    obtain ⟨text, rfl, r6⟩ := field_text Try.underlying9 (hall 6 _ _ _ rfl rfl rfl) (agg_weights (i := 6) Try.underlying35 rfl rfl hw)
    obtain ⟨A, c, K, rfl, a1, a2, a3, a4, a5, a6⟩ := field_texts Try.underlying32 Try.underlying9 (by kernel_rfl) (by kernel_rfl) (hall 7 _ _ _ rfl rfl rfl) (agg_weights (i := 7) Try.underlying35 rfl rfl hw) (fun x hx => hl x (List.mem_flatMap.2 ⟨y7, by simp, hx⟩))
    obtain ⟨B, d, L, rfl, b1, b2, b3, b4, b5, b6⟩ := field_writes Try.underlying33 Try.underlying82 (by kernel_rfl) (by kernel_rfl) Try.underlying9 Try.underlying9 Try.underlying4 (of_decide_eq_true (by kernel_rfl)) (hall 8 _ _ _ rfl rfl rfl) (agg_weights (i := 8) Try.underlying35 rfl rfl hw) (fun x hx => hl x (List.mem_flatMap.2 ⟨y8, by simp, hx⟩))
    exact ⟨⟨kind, src, dst, txn, ts', code, text, K, L⟩, A, B, c, d, rfl, a1, b1, ⟨⟨r0, r1, r2, r3, r4, r5, r6, a2, b2, a5, b5⟩, a3, b3, a4, b4⟩, a6, b6⟩

end

end Lt
end Go.Proofs.Ytkpcfakfkcghdaa

/- What the document's own Check of letters answers; contract; no condition but the range. -/
namespace Go.Proofs.Ytkpcfakfkcghdaa
namespace Lt
open Go.RowKit Bk

attribute [local go_sem ↓] Go.wp_at_zero Go.wp_at_succ
attribute [local go_sem] floatUpon pick

/-- what a walk over a letter keeps: its lists, its cells, what was there -/
structure LtEnv (w W : World) (g : Nat) (A B : Option Addr) (c d : Nat) (l : Let) : Prop where
  ks : StrsAt W A l.keys
  ws : WrsAt W B l.ws
  cel : Cel W g 35 [.int .i64 l.kind, .int .i64 l.src, .int .i64 l.dst, .int .i64 l.txn, .int .i64 l.ts, .int .i64 l.code, .string l.text, .slice A l.keys.length c, .slice B l.ws.length d]
  bel : Below w.heap.size w W

theorem LtEnv.step {w W W' : World} {g : Nat} {A B : Option Addr} {c d : Nat} {l : Let} (h : LtEnv w W g A B c d l) (hb : Below W.heap.size W W') : LtEnv w W' g A B c d l :=
  ⟨h.ks.below hb, h.ws.below hb, h.cel.below hb, h.bel.trans (hb.mono h.bel.size)⟩

theorem LtEnv.start {w : World} {A B : Option Addr} {c d : Nat} {l : Let} (ha : StrsAt w A l.keys) (hb : WrsAt w B l.ws) :
    LtEnv w (w.alloc (.cells #[.int .i64 l.kind, .int .i64 l.src, .int .i64 l.dst, .int .i64 l.txn, .int .i64 l.ts, .int .i64 l.code, .string l.text, .slice A l.keys.length c, .slice B l.ws.length d] 35)) w.heap.size A B c d l :=
  ⟨ha.alloc _, hb.alloc _, (blk1 w _).2, (Below.refl _ w).alloc (Nat.le_refl _) _⟩

open Classical in
/-- what Check answers -/
noncomputable def ckN (l : Let) : Nat := if LetOk l then 0 else 70

theorem ckN_ok {l : Let} (h : headOk l) (h2 : kindOk l) : ckN l = 0 := by unfold ckN; rw [if_pos ⟨h, h2⟩]
theorem ckN_bad {l : Let} (h : ¬ kindOk l) : ckN l = 70 := by unfold ckN; rw [if_neg (fun hh => h hh.2)]
theorem ckN_head {l : Let} (h : ¬ headOk l) : ckN l = 70 := by unfold ckN; rw [if_neg (fun hh => h hh.1)]
theorem ckN_zero {l : Let} : ckN l = 0 ↔ LetOk l := by
  unfold ckN
  split
  · next h => exact ⟨fun _ => h, fun _ => rfl⟩
  · next h => exact ⟨fun e => by omega, fun hh => absurd hh h⟩
theorem ckN_cases (l : Let) : ckN l = 0 ∨ ckN l = 70 := by unfold ckN; split <;> simp

def OneOk (l : Let) : Prop := l.keys.length = 1 ∧ (∀ k ∈ l.keys, keyOk k) ∧ l.ws = []
def BareOk (l : Let) : Prop := l.keys = [] ∧ l.ws = [] ∧ l.text = ⟨#[]⟩

theorem kind_1 {l : Let} (h : l.kind = 1) : kindOk l ↔ OneOk l ∧ l.text = ⟨#[]⟩ ∧ l.code = 0 := by
  constructor
  · rintro (h2 | h2 | h2 | h2 | h2 | h2)
    · exact h2.2
    all_goals omega
  · intro h2; exact .inl ⟨h, h2⟩
theorem kind_2 {l : Let} (h : l.kind = 2) : kindOk l ↔ OneOk l ∧ l.text.size ≤ 2052 ∧ (l.text = ⟨#[]⟩ ∨ l.code = 1) := by
  constructor
  · rintro (h2 | h2 | h2 | h2 | h2 | h2)
    · omega
    · exact h2.2
    all_goals omega
  · intro h2; exact .inr (.inl ⟨h, h2⟩)
theorem kind_3 {l : Let} (h : l.kind = 3) : kindOk l ↔ l.keys.length ≤ 16 ∧ Rises l.keys ∧ WritesOk l.ws ∧ l.text = ⟨#[]⟩ ∧ l.code = 0 := by
  constructor
  · rintro (h2 | h2 | h2 | h2 | h2 | h2)
    · omega
    · omega
    · exact h2.2
    all_goals omega
  · intro h2; exact .inr (.inr (.inl ⟨h, h2⟩))
theorem kind_4 {l : Let} (h : l.kind = 4) : kindOk l ↔ BareOk l ∧ l.code ≤ 1 := by
  constructor
  · rintro (h2 | h2 | h2 | h2 | h2 | h2)
    · omega
    · omega
    · omega
    · exact h2.2
    all_goals omega
  · intro h2; exact .inr (.inr (.inr (.inl ⟨h, h2⟩)))
theorem kind_5 {l : Let} (h : l.kind = 5 ∨ l.kind = 6 ∨ l.kind = 7) : kindOk l ↔ BareOk l ∧ l.code = 0 := by
  constructor
  · rintro (h2 | h2 | h2 | h2 | h2 | h2)
    · omega
    · omega
    · omega
    · omega
    · exact h2.2
    · omega
  · intro h2; exact .inr (.inr (.inr (.inr (.inl ⟨h, h2⟩))))
theorem kind_8 {l : Let} (h : l.kind = 8) : kindOk l ↔ BareOk l ∧ l.code ≤ 2 := by
  constructor
  · rintro (h2 | h2 | h2 | h2 | h2 | h2)
    · omega
    · omega
    · omega
    · omega
    · omega
    · exact h2.2
  · intro h2; exact .inr (.inr (.inr (.inr (.inr ⟨h, h2⟩))))
theorem kind_no {l : Let} (h : l.kind < 1 ∨ 8 < l.kind) : ¬ kindOk l := by
  rintro (h2 | h2 | h2 | h2 | h2 | h2) <;> omega

theorem empty_list {s : ByteArray} (h : s ≠ ⟨#[]⟩) : ¬ s.toList = [] := fun e => h (by
  rw [ByteArray.toList_eq] at e
  obtain ⟨a⟩ := s
  congr 1
  exact Array.toList_inj.1 e)

theorem list_one {l : List ByteArray} (h : l.length = 1) : ∃ k, l = [k] := by
  match l, h with
  | [k], _ => exact ⟨k, rfl⟩


end Lt
end Go.Proofs.Ytkpcfakfkcghdaa

/- What the document's own numbers of packs are; contracts; no condition but the range. -/
namespace Go.Proofs.Ytkpcfakfkcghdaa
namespace Pk
open Go.RowKit Bk

attribute [local go_sem ↓] Go.wp_at_zero Go.wp_at_succ
attribute [local go_sem] floatUpon pick

theorem byteCells_snoc (O : List UInt8) (x : Nat) (h : x < 256) : Lib.byteCells O ++ [.int .u8 (x : Int)] = Lib.byteCells (O ++ [UInt8.ofNat x]) := by
  unfold Lib.byteCells
  rw [List.map_append, List.map_cons, UInt8.toNat_ofNat_of_lt' (by show x < 256; exact h)]; rfl

theorem u8_wrap {x : Int} (h0 : 0 ≤ x) (h1 : x < 256) : IntKind.u8.wrap x = x := by
  simp only [IntKind.wrap, IntKind.bits, IntKind.signed]; simp; omega

set_option maxRecDepth 20000 in
set_option maxHeartbeats 1000000 in
theorem plain_any (n : Nat) (w : World) (hn : n ≤ 9223372036854775807) :
    Calls Try.prog 92 #[.int .i64 (n : Int)] w fun e w' => e = .returned (.string ⟨(plain n).toArray⟩) ∧ Below w.heap.size w w' := by
  obtain ⟨i1, hi', hz0', hz1', hz2'⟩ := info_parts Try.infoU8
  go_enter Try.func92, Try.ntmps92
  go_wp2_with fail
  go_loopw [0, 3] (fun c u wr => ∃ (m : Nat) (O : List UInt8), m ≤ n ∧ Hid (plain n = O ++ plain m) ∧ c = .int .i64 (m : Int) ∧ Hid (wr.ownsRow w.heap.size 5 1 u O.length (Lib.byteCells O)) ∧ Hid (Below w.heap.size w wr)) (fun c _ _ => (intOf c).toNat)
  case atStart => exact ⟨n, [], Nat.le_refl _, rfl, rfl, World.ownsRow_nil _ _ _ _, Below.refl _ _⟩
  case round =>
    obtain ⟨m, O, hmn, hpl, rfl, hown, hbel⟩ := hrel
    have hOl : O.length ≤ 8 := by
      have h1 := plain_len 9 n (by show n < 9223372036854775808; omega) (by omega)
      have h2 := plain_pos m
      rw [hpl.out, List.length_append] at h1
      omega
    by_cases hlt : 128 ≤ m
    · have pm : (128 : Int) ≤ (m : Int) := by omega
      have hmod : (m : Int).tmod 128 = ((m % 128 : Nat) : Int) := by rw [Int.tmod_eq_emod_of_nonneg (by omega)]; omega
      have hdiv : (m : Int).tdiv 128 = ((m / 128 : Nat) : Int) := by rw [Int.tdiv_eq_ediv_of_nonneg (by omega)]; omega
      have hp2 : plain n = (O ++ [UInt8.ofNat (m % 128 + 128)]) ++ plain (m / 128) := by rw [hpl.out, plain_big hlt, List.append_assoc]; rfl
      have hbc := byteCells_snoc O (m % 128 + 128) (by omega)
      have hx : m % 128 < 128 := by omega
      have hy : m / 128 + 1 ≤ m := by omega
      generalize hxe : m % 128 = x at hmod hbc hx hp2
      generalize hye : m / 128 = y at hdiv hy hp2
      have hxi : (x : Int) < 128 := by omega
      have hcv : IntKind.u8.wrap ((x : Int) + 128) = (x : Int) + 128 := u8_wrap (by omega) (by omega)
      have hbc : Lib.byteCells O ++ [.int .u8 ((x : Int) + 128)] = Lib.byteCells (O ++ [UInt8.ofNat (x + 128)]) := hbc
      have HBC := Lib.hid hbc
      have HP := Lib.hid hp2
      clear hbc hp2 hxe hye hpl
      go_wp2_with (at_builtin; refine wpList_append_own _ rfl _ _ 86 rfl w.heap.size 5 i1 (.int .u8 0) 1 1 Try.underlying86 hi' hz0' hz1' hz2' rfl (by decide) _ _ _ rfl (hown.out.alloc _) ⟨wr.heap.size, 0, none⟩ 1 1 [.int .u8 ((x : Int) + 128)] rfl rfl ?c1 ?c2 ?c3 ?c4 ?c5 ?_)
      case c1 => exact cell_one_new _ _ _
      case c2 => intro u hu; simp at hu; subst hu; rfl
      case c3 => unfold maxLen; omega
      case c4 => omega
      case c5 => have := hbel.out.size; simp; omega
      intro v' w5 hown' hgrow _
      have HB5 := Lib.hid (below_append hown.out hbel.out (Nat.le_refl _) hgrow)
      rw [HBC.out] at hown'
      have HO5 := Lib.hid hown'
      clear hown' hgrow hown hbel
      go_wp2_with fail
      go_roundw
      case rel => exact ⟨y, O ++ [UInt8.ofNat (x + 128)], by omega, HP.out, rfl, by rw [List.length_append, List.length_singleton]; exact HO5.out, HB5.out⟩
      case measure => simp [intOf]; omega
    · have pm : (m : Int) < 128 := by omega
      have hcv : IntKind.u8.wrap (m : Int) = (m : Int) := u8_wrap (by omega) (by omega)
      have hbc := byteCells_snoc O m (by omega)
      have hp2 : plain n = O ++ [UInt8.ofNat m] := by rw [hpl.out, plain_small (by omega)]
      have HBC := Lib.hid hbc
      have HP := Lib.hid hp2
      clear hbc hp2 hpl
      go_wp2_with (at_builtin; refine wpList_append_own _ rfl _ _ 86 rfl w.heap.size 5 i1 (.int .u8 0) 1 1 Try.underlying86 hi' hz0' hz1' hz2' rfl (by decide) _ _ _ rfl (hown.out.alloc _) ⟨wr.heap.size, 0, none⟩ 1 1 [.int .u8 (m : Int)] rfl rfl ?c1 ?c2 ?c3 ?c4 ?c5 ?_)
      case c1 => exact cell_one_new _ _ _
      case c2 => intro u hu; simp at hu; subst hu; rfl
      case c3 => unfold maxLen; omega
      case c4 => omega
      case c5 => have := hbel.out.size; simp; omega
      intro v' w5 hown' hgrow _
      have HB5 := Lib.hid (below_append hown.out hbel.out (Nat.le_refl _) hgrow)
      rw [HBC.out, ← HP.out] at hown'
      have hl : O.length + 1 = (plain n).length := by rw [HP.out, List.length_append, List.length_singleton]
      have HO5 := Lib.hid hown'
      obtain ⟨g, cap, rfl, _, _⟩ := World.ownsRow.form hown' (by omega)
      have hcv2 := own_bytes hown' hl 0 (O.length + 1) cap (by omega)
      rw [List.drop_zero, List.take_of_length_le (by omega)] at hcv2
      clear hown' hgrow hown hbel hl
      go_wp2_with fail
      go_ret
      exact ⟨rfl, HB5.out⟩

set_option maxRecDepth 20000 in
set_option maxHeartbeats 1000000 in
theorem signed_any (z : Int) (w : World) (hz : numOk z) :
    Calls Try.prog 93 #[.int .i64 z] w fun e w' => e = .returned (.string ⟨(signed z).toArray⟩) ∧ Below w.heap.size w w' := by
  obtain ⟨z1, z2⟩ := hz
  have HP := Lib.hid (fun W => plain_any (zig z) W (by have := zig_lt ⟨z1, z2⟩; have h : zig z < 9223372036854775808 := this; omega))
  by_cases h0 : z < 0
  · have hzig : ((zig z : Nat) : Int) = -2 * (z + 1) + 1 := by unfold zig; rw [if_pos h0]; omega
    rw [hzig] at HP
    clear hzig
    go_enter Try.func93, Try.ntmps93
    go_wp2_with fail
    refine (HP.out _).mono ?_
    rintro e w1 ⟨rfl, hb⟩
    go_wp2_with fail
    go_ret
    exact ⟨rfl, hb⟩
  · have hzig : ((zig z : Nat) : Int) = 2 * z := by unfold zig; rw [if_neg h0]; omega
    rw [hzig] at HP
    have hp : 0 ≤ z := by omega
    clear hzig h0
    go_enter Try.func93, Try.ntmps93
    go_wp2_with fail
    refine (HP.out _).mono ?_
    rintro e w1 ⟨rfl, hb⟩
    go_wp2_with fail
    go_ret
    exact ⟨rfl, hb⟩

/-- what Number answers -/
def numV (z : Int) : Value := if numOk z then .tuple #[.string ⟨(signed z).toArray⟩, .int .i64 0] else .tuple #[.string ⟨#[]⟩, .int .i64 1]

end Pk
end Go.Proofs.Ytkpcfakfkcghdaa

/- What the document's own Check of packs answers; contract; no condition but the range. -/
namespace Go.Proofs.Ytkpcfakfkcghdaa
namespace Pk
open Go.RowKit Bk

attribute [local go_sem ↓] Go.wp_at_zero Go.wp_at_succ
attribute [local go_sem] floatUpon pick

/-- the value of a pack -/
def packV (A B : Option Addr) (c d : Nat) (ns : List Int) (ts : List ByteArray) : Value := .agg #[.slice A ns.length c, .slice B ts.length d]

/-- .. that holds these -/
def Holds (w : World) (v : Value) (ns : List Int) (ts : List ByteArray) : Prop :=
  ∃ (A B : Option Addr) (c d : Nat), v = packV A B c d ns ts ∧ IntsAt w A ns ∧ StrsAt w B ts

theorem Holds.below {w w' : World} {v : Value} {ns : List Int} {ts : List ByteArray} (h : Holds w v ns ts) (hb : Below w.heap.size w w') : Holds w' v ns ts := by
  obtain ⟨A, B, c, d, h1, h2, h3⟩ := h
  exact ⟨A, B, c, d, h1, h2.below hb, h3.below hb⟩

theorem ckE_long {ns : List Int} {ts : List ByteArray} (h : 1024 < ns.length ∨ 1024 < ts.length) : ckE ns ts = 2 := by unfold ckE; rw [if_pos h]

theorem ckE_num {ns : List Int} {ts : List ByteArray} (h : ¬ (1024 < ns.length ∨ 1024 < ts.length)) {z : Int} (hz : z ∈ ns) (hn : ¬ numOk z) : ckE ns ts = 1 := by
  unfold ckE
  rw [if_neg h, if_pos (fun hh => hn (hh z hz))]

theorem ckE_text {ns : List Int} {ts : List ByteArray} (h : ¬ (1024 < ns.length ∨ 1024 < ts.length)) (h2 : ∀ n ∈ ns, numOk n) {t : ByteArray} (ht : t ∈ ts) (hn : 4096 < t.size) : ckE ns ts = 2 := by
  unfold ckE
  rw [if_neg h, if_neg (fun hh => hh h2), if_pos (fun hh => by have := hh t ht; omega)]

theorem ckE_ok {ns : List Int} {ts : List ByteArray} (h : ¬ (1024 < ns.length ∨ 1024 < ts.length)) (h2 : ∀ n ∈ ns, numOk n) (h3 : ∀ t ∈ ts, t.size ≤ 4096) : ckE ns ts = 0 := ckE_zero.2 ⟨by omega, by omega, h2, h3⟩

theorem mem_take_succ {α : Type} {l : List α} {j : Nat} (h : j < l.length) {p : α → Prop} (h1 : ∀ x ∈ l.take j, p x) (h2 : p l[j]) : ∀ x ∈ l.take (j + 1), p x := by
  intro x hx
  rw [List.take_add_one, List.getElem?_eq_getElem h] at hx
  rcases List.mem_append.1 hx with hx | hx
  · exact h1 x hx
  · rw [Option.toList_some, List.mem_singleton] at hx
    rw [hx]; exact h2

end Pk
end Go.Proofs.Ytkpcfakfkcghdaa
