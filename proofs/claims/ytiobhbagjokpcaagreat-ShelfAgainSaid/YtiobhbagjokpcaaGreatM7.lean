/- Parts of the proof, joined: LtSame, BkInts, BkOpen; their conditions stand with each. -/
import Derived.WalkKit
import Derived.ProofKit
import Derived.SizedLaws
import Derived.ChangeSlices
import Derived.SliceStrings
import Derived.Carry
import Derived.Lib.SmallJoins
import Derived.Test.YtiobhbagjokpcaaGreatM1
import Derived.Test.YtiobhbagjokpcaaGreatM6

/- Whether writes are the same; contract; no condition but the range. -/
namespace Go.Proofs.YtiobhbagjokpcaaGreat
namespace Lt
open Go.RowKit Bk

attribute [local go_sem ↓] Go.wp_at_zero Go.wp_at_succ
attribute [local go_sem] floatUpon pick

theorem wr_ext {x y : Wr} (h1 : x.key = y.key) (h2 : x.shard = y.shard) (h3 : x.dead = y.dead) : x = y := by
  obtain ⟨a, b, c⟩ := x
  obtain ⟨d, e, f⟩ := y
  simp only at h1 h2 h3
  rw [h1, h2, h3]

instance : DecidableEq Wr := fun x y => decidable_of_iff (x.key = y.key ∧ x.shard = y.shard ∧ x.dead = y.dead) ⟨fun h => wr_ext h.1 h.2.1 h.2.2, fun h => by rw [h]; exact ⟨rfl, rfl, rfl⟩⟩

set_option maxRecDepth 20000 in
set_option maxHeartbeats 4000000 in
theorem sameWrs_any (A B : Option Addr) (c d : Nat) (a b : List Wr) (w : World) (ha : WrsAt w A a) (hb : WrsAt w B b) (hn : a.length ≤ 9223372036854775807) :
    Calls Tryz.prog 40 #[.slice A a.length c, .slice B b.length d] w fun e w' => e = .returned (.bool (decide (a = b))) ∧ Below w.heap.size w w' := by
  by_cases hl : a.length = b.length
  · have q1 : ((a.length : Int) != (b.length : Int)) = false := by simp [hl]
    have HA := Lib.hid ha
    have HB := Lib.hid hb
    have HL := Lib.hid hl
    clear ha hb hl
    go_enter Tryz.func40, Tryz.ntmps40
    go_wp2_with fail
    go_loopw [5] (fun i wr => ∃ j : Nat, j ≤ a.length ∧ i = .int .i64 (j : Int) ∧ Hid (∀ x (h : x < a.length) (h2 : x < b.length), x < j → a[x] = b[x]) ∧ Hid (Below w.heap.size w wr)) (fun i _ => a.length - (intOf i).toNat)
    case atStart => exact ⟨0, by omega, rfl, fun x _ _ h => absurd h (by omega), Below.refl _ _⟩
    case round =>
      obtain ⟨j, hj, rfl, heq, hbel⟩ := hrel
      by_cases hlt : j < a.length
      · have hltb : j < b.length := by rw [← HL.out]; exact hlt
        obtain ⟨ad, rfl, _, _⟩ := HA.out (by omega)
        obtain ⟨bd, rfl, _, _⟩ := HB.out (by omega)
        have p1 : (j : Int) < (a.length : Int) := by omega
        have p2 : (j : Int) < (b.length : Int) := by omega
        have hC : ∀ W, Below w.heap.size w W → W.cell? (ad.add (j * 3)) = some (.string a[j].key) ∧ W.cell? ⟨(ad.add (j * 3)).block, (ad.add (j * 3)).off + 1, none⟩ = some (.string a[j].shard) ∧ W.cell? ⟨(ad.add (j * 3)).block, (ad.add (j * 3)).off + 2, none⟩ = some (.bool a[j].dead) ∧
            W.cell? (bd.add (j * 3)) = some (.string b[j].key) ∧ W.cell? ⟨(bd.add (j * 3)).block, (bd.add (j * 3)).off + 1, none⟩ = some (.string b[j].shard) ∧ W.cell? ⟨(bd.add (j * 3)).block, (bd.add (j * 3)).off + 2, none⟩ = some (.bool b[j].dead) := fun W hW => by
          obtain ⟨ad', e1, _, hca⟩ := (HA.out.below hW) (by omega)
          obtain ⟨bd', e2, _, hcb⟩ := (HB.out.below hW) (by omega)
          obtain rfl := Option.some.inj e1
          obtain rfl := Option.some.inj e2
          obtain ⟨x0, x1, x2⟩ := hca j hlt
          obtain ⟨y0, y1, y2⟩ := hcb j hltb
          rw [add_field _ _ _ (by omega), add_field _ _ _ (by omega), add_field _ _ _ (by omega), add_field _ _ _ (by omega)]
          exact ⟨x0, x1, x2, y0, y1, y2⟩
        have E0 : a[j] ≠ b[j] → decide (a = b) = false := fun hx => by rw [decide_eq_false_iff_not]; intro e; exact hx (by simp only [e])
        by_cases hx : a[j] = b[j]
        · have HX := Lib.hid hx
          rw [← hx] at hC
          clear E0 hx
          generalize a[j] = X at hC
          obtain ⟨xk, xs, xd⟩ := X
          have HC := Lib.hid hC
          have t1 := text_eq xk
          have t2 := text_eq xs
          clear hC
          go_upto_region 6 with fail
          refine wp_region_said 9 [17, 18, 19, 20, 21, 22, 23, 24, 25]
            [.is (.slice (some ad) a.length c), .is (.int .i64 (j : Int)), .is (.pointer (some (ad.add (j * 3)))), .is (.agg #[.string xk, .string xs, .bool xd]), .is (.slice (some bd) b.length d), .is (.int .i64 (j : Int)), .is (.pointer (some (bd.add (j * 3)))), .is (.agg #[.string xk, .string xs, .bool xd]), .is (.bool false)]
            (fun W => Below w.heap.size w W) (by kernel_rfl) (by kernel_rfl) (by kernel_rfl) (by kernel_rfl) (by kernel_rfl) (fun W W' h hb => h.trans (hb.mono h.size)) hbel.out ?steps ?last
          case steps =>
            simp only [List.take_succ_cons, List.take_zero]
            refine ⟨?_, ?_, ?_, ?_, ?_, ?_, ?_, ?_, ?_, trivial⟩
            all_goals
              intro vs W ρ hρ hc hf hg hI hH hd R' hR
              obtain ⟨x0, x1, x2, y0, y1, y2⟩ := HC.out W hI
              have HR := Lib.hid hR
              simp [depsOf, Region.binds, sayAt, Say.holds] at hd
              clear hR hI
              go_simp
              first
                | exact HR.out _ _ (by simp [sayAt, Say.holds]) (Below.refl _ _) (by simp [sayAt, Say.isBlk])
                | trace_state
          case last =>
            intro vs W hI hb hg hd
            have g8 := hg 8 (by omega)
            simp only [sayAt, Say.holds, List.getD_cons_succ, List.getD_cons_zero] at g8
            simp only [List.take_succ_cons, List.take_zero, List.drop_succ_cons, List.drop_zero, putAll, Act.put, List.setIfInBounds_toArray, List.set_cons_succ, List.set_cons_zero, Nat.zero_add, Nat.reduceAdd]
            rw [g8]
            have HB := Lib.hid hI
            clear g8 hg hd hb hI hbel
            go_wp2_with fail
            go_roundw
            case rel => exact ⟨j + 1, by omega, by go_num, (fun x h h2 hxj => by
              by_cases e : x = j
              · subst e; exact HX.out
              · exact heq.out x h h2 (by omega)), HB.out⟩
            case measure => simp [intOf]; omega
        · have E := Lib.hid (E0 hx)
          clear E0
          generalize a[j] = X at hC hx
          generalize b[j] = Y at hC hx
          obtain ⟨xk, xs, xd⟩ := X
          obtain ⟨yk, ys, yd⟩ := Y
          have HC := Lib.hid hC
          clear hC
          by_cases hk : xk = yk
          · subst hk
            have t1 := text_eq xk
            by_cases hs : xs = ys
            · subst hs
              have t2 := text_eq xs
              have hd : xd = !yd := by cases xd <;> cases yd <;> simp at hx ⊢
              clear hx
              cases yd with
              | true =>
                obtain rfl : xd = false := hd
                go_upto_region 6 with fail
                refine wp_region_said 9 [17, 18, 19, 20, 21, 22, 23, 24, 25]
                  [.is (.slice (some ad) a.length c), .is (.int .i64 (j : Int)), .is (.pointer (some (ad.add (j * 3)))), .is (.agg #[.string xk, .string xs, .bool false]), .is (.slice (some bd) b.length d), .is (.int .i64 (j : Int)), .is (.pointer (some (bd.add (j * 3)))), .is (.agg #[.string xk, .string xs, .bool true]), .is (.bool true)]
                  (fun W => Below w.heap.size w W) (by kernel_rfl) (by kernel_rfl) (by kernel_rfl) (by kernel_rfl) (by kernel_rfl) (fun W W' h hb => h.trans (hb.mono h.size)) hbel.out ?steps ?last
                case steps =>
                  simp only [List.take_succ_cons, List.take_zero]
                  refine ⟨?_, ?_, ?_, ?_, ?_, ?_, ?_, ?_, ?_, trivial⟩
                  all_goals
                    intro vs W ρ hρ hc hf hg hI hH hd R' hR
                    obtain ⟨x0, x1, x2, y0, y1, y2⟩ := HC.out W hI
                    have HR := Lib.hid hR
                    simp [depsOf, Region.binds, sayAt, Say.holds] at hd
                    clear hR hI
                    go_simp
                    first
                      | exact HR.out _ _ (by simp [sayAt, Say.holds]) (Below.refl _ _) (by simp [sayAt, Say.isBlk])
                      | trace_state
                case last =>
                  intro vs W hI hb hg hd
                  have g8 := hg 8 (by omega)
                  simp only [sayAt, Say.holds, List.getD_cons_succ, List.getD_cons_zero] at g8
                  simp only [List.take_succ_cons, List.take_zero, List.drop_succ_cons, List.drop_zero, putAll, Act.put, List.setIfInBounds_toArray, List.set_cons_succ, List.set_cons_zero, Nat.zero_add, Nat.reduceAdd]
                  rw [g8]
                  have HB := Lib.hid hI
                  clear g8 hg hd hb hI hbel
                  go_wp2_with fail
                  go_ret
                  exact ⟨by rw [E.out]; rfl, HB.out⟩
              | false =>
                obtain rfl : xd = true := hd
                go_upto_region 6 with fail
                refine wp_region_said 9 [17, 18, 19, 20, 21, 22, 23, 24, 25]
                  [.is (.slice (some ad) a.length c), .is (.int .i64 (j : Int)), .is (.pointer (some (ad.add (j * 3)))), .is (.agg #[.string xk, .string xs, .bool true]), .is (.slice (some bd) b.length d), .is (.int .i64 (j : Int)), .is (.pointer (some (bd.add (j * 3)))), .is (.agg #[.string xk, .string xs, .bool false]), .is (.bool true)]
                  (fun W => Below w.heap.size w W) (by kernel_rfl) (by kernel_rfl) (by kernel_rfl) (by kernel_rfl) (by kernel_rfl) (fun W W' h hb => h.trans (hb.mono h.size)) hbel.out ?steps ?last
                case steps =>
                  simp only [List.take_succ_cons, List.take_zero]
                  refine ⟨?_, ?_, ?_, ?_, ?_, ?_, ?_, ?_, ?_, trivial⟩
                  all_goals
                    intro vs W ρ hρ hc hf hg hI hH hd R' hR
                    obtain ⟨x0, x1, x2, y0, y1, y2⟩ := HC.out W hI
                    have HR := Lib.hid hR
                    simp [depsOf, Region.binds, sayAt, Say.holds] at hd
                    clear hR hI
                    go_simp
                    first
                      | exact HR.out _ _ (by simp [sayAt, Say.holds]) (Below.refl _ _) (by simp [sayAt, Say.isBlk])
                      | trace_state
                case last =>
                  intro vs W hI hb hg hd
                  have g8 := hg 8 (by omega)
                  simp only [sayAt, Say.holds, List.getD_cons_succ, List.getD_cons_zero] at g8
                  simp only [List.take_succ_cons, List.take_zero, List.drop_succ_cons, List.drop_zero, putAll, Act.put, List.setIfInBounds_toArray, List.set_cons_succ, List.set_cons_zero, Nat.zero_add, Nat.reduceAdd]
                  rw [g8]
                  have HB := Lib.hid hI
                  clear g8 hg hd hb hI hbel
                  go_wp2_with fail
                  go_ret
                  exact ⟨by rw [E.out]; rfl, HB.out⟩
            · have t2 := text_ne hs
              clear hx hs
              go_upto_region 6 with fail
              refine wp_region_said 9 [17, 18, 19, 20, 21, 22, 23, 24, 25]
                [.is (.slice (some ad) a.length c), .is (.int .i64 (j : Int)), .is (.pointer (some (ad.add (j * 3)))), .is (.agg #[.string xk, .string xs, .bool xd]), .is (.slice (some bd) b.length d), .is (.int .i64 (j : Int)), .is (.pointer (some (bd.add (j * 3)))), .is (.agg #[.string xk, .string ys, .bool yd]), .is (.bool true)]
                (fun W => Below w.heap.size w W) (by kernel_rfl) (by kernel_rfl) (by kernel_rfl) (by kernel_rfl) (by kernel_rfl) (fun W W' h hb => h.trans (hb.mono h.size)) hbel.out ?steps ?last
              case steps =>
                simp only [List.take_succ_cons, List.take_zero]
                refine ⟨?_, ?_, ?_, ?_, ?_, ?_, ?_, ?_, ?_, trivial⟩
                all_goals
                  intro vs W ρ hρ hc hf hg hI hH hd R' hR
                  obtain ⟨x0, x1, x2, y0, y1, y2⟩ := HC.out W hI
                  have HR := Lib.hid hR
                  simp [depsOf, Region.binds, sayAt, Say.holds] at hd
                  clear hR hI
                  go_simp
                  first
                    | exact HR.out _ _ (by simp [sayAt, Say.holds]) (Below.refl _ _) (by simp [sayAt, Say.isBlk])
                    | trace_state
              case last =>
                intro vs W hI hb hg hd
                have g8 := hg 8 (by omega)
                simp only [sayAt, Say.holds, List.getD_cons_succ, List.getD_cons_zero] at g8
                simp only [List.take_succ_cons, List.take_zero, List.drop_succ_cons, List.drop_zero, putAll, Act.put, List.setIfInBounds_toArray, List.set_cons_succ, List.set_cons_zero, Nat.zero_add, Nat.reduceAdd]
                rw [g8]
                have HB := Lib.hid hI
                clear g8 hg hd hb hI hbel
                go_wp2_with fail
                go_ret
                exact ⟨by rw [E.out]; rfl, HB.out⟩
          · have t1 := text_ne hk
            clear hx hk
            go_upto_region 6 with fail
            refine wp_region_said 9 [17, 18, 19, 20, 21, 22, 23, 24, 25]
              [.is (.slice (some ad) a.length c), .is (.int .i64 (j : Int)), .is (.pointer (some (ad.add (j * 3)))), .is (.agg #[.string xk, .string xs, .bool xd]), .is (.slice (some bd) b.length d), .is (.int .i64 (j : Int)), .is (.pointer (some (bd.add (j * 3)))), .is (.agg #[.string yk, .string ys, .bool yd]), .is (.bool true)]
              (fun W => Below w.heap.size w W) (by kernel_rfl) (by kernel_rfl) (by kernel_rfl) (by kernel_rfl) (by kernel_rfl) (fun W W' h hb => h.trans (hb.mono h.size)) hbel.out ?steps ?last
            case steps =>
              simp only [List.take_succ_cons, List.take_zero]
              refine ⟨?_, ?_, ?_, ?_, ?_, ?_, ?_, ?_, ?_, trivial⟩
              all_goals
                intro vs W ρ hρ hc hf hg hI hH hd R' hR
                obtain ⟨x0, x1, x2, y0, y1, y2⟩ := HC.out W hI
                have HR := Lib.hid hR
                simp [depsOf, Region.binds, sayAt, Say.holds] at hd
                clear hR hI
                go_simp
                first
                  | exact HR.out _ _ (by simp [sayAt, Say.holds]) (Below.refl _ _) (by simp [sayAt, Say.isBlk])
                  | trace_state
            case last =>
              intro vs W hI hb hg hd
              have g8 := hg 8 (by omega)
              simp only [sayAt, Say.holds, List.getD_cons_succ, List.getD_cons_zero] at g8
              simp only [List.take_succ_cons, List.take_zero, List.drop_succ_cons, List.drop_zero, putAll, Act.put, List.setIfInBounds_toArray, List.set_cons_succ, List.set_cons_zero, Nat.zero_add, Nat.reduceAdd]
              rw [g8]
              have HB := Lib.hid hI
              clear g8 hg hd hb hI hbel
              go_wp2_with fail
              go_ret
              exact ⟨by rw [E.out]; rfl, HB.out⟩
      · have E := Lib.hid (show decide (a = b) = true by
          rw [decide_eq_true_eq]
          exact List.ext_getElem HL.out fun x h h2 => heq.out x h h2 (by omega))
        have HB2 := hbel
        clear hbel
        go_wp2_with fail
        go_ret
        exact ⟨by rw [E.out]; rfl, HB2.out⟩
  · have q1 : ((a.length : Int) != (b.length : Int)) = true := by simp; omega
    have E := Lib.hid (show decide (a = b) = false by rw [decide_eq_false_iff_not]; intro e; exact hl (by rw [e]))
    clear hl ha hb
    go_enter Tryz.func40, Tryz.ntmps40
    go_wp2_with fail
    go_ret
    exact ⟨by rw [E.out]; rfl, Below.refl _ _⟩

end Lt
end Go.Proofs.YtiobhbagjokpcaaGreat

/- A slice's whole numbers, as StrsAt says of texts; SameInts; no condition but the range. -/
namespace Go.Proofs.YtiobhbagjokpcaaGreat
namespace Bk
open Go.RowKit

attribute [local go_sem ↓] Go.wp_at_zero Go.wp_at_succ

def intV (l : List Int) : List Value := l.map (Value.int .i64)

theorem intV_len (l : List Int) : (intV l).length = l.length := by simp [intV]

theorem intV_at {l : List Int} {i : Nat} (h : i < l.length) : (intV l)[i]? = some (.int .i64 l[i]) := by
  unfold intV
  rw [List.getElem?_map, List.getElem?_eq_getElem h]; rfl

theorem intV_snoc (O : List Int) (x : Int) : intV (O ++ [x]) = intV O ++ [.int .i64 x] := by simp [intV]

/-- the slice v holds the numbers l -/
def IntsAt (w : World) (A : Option Addr) (l : List Int) : Prop :=
  0 < l.length → ∃ ad, A = some ad ∧ ad.block < w.heap.size ∧ ∀ i (h : i < l.length), w.cell? (ad.add i) = some (.int .i64 l[i])

theorem IntsAt.below {w w' : World} {A : Option Addr} {l : List Int} (h : IntsAt w A l) (hb : Below w.heap.size w w') : IntsAt w' A l := fun hp => by
  obtain ⟨ad, h1, h2, h3⟩ := h hp
  exact ⟨ad, h1, Nat.lt_of_lt_of_le h2 hb.size, fun i hi => (cell_kept hb _ (by rw [st_block]; exact h2)).trans (h3 i hi)⟩

theorem IntsAt.alloc {w : World} {A : Option Addr} {l : List Int} (h : IntsAt w A l) (o : Obj) : IntsAt (w.alloc o) A l := h.below ((Below.refl _ w).alloc (Nat.le_refl _) o)

theorem IntsAt.drewN {w : World} {A : Option Addr} {l : List Int} (h : IntsAt w A l) (n : Nat) : IntsAt (w.drewN n) A l := h

theorem IntsAt.blk {w : World} {g : Nat} {t : TypeId} {l : List Int} (h : w.heap[g]? = some (.cells (intV l).toArray t (0, 0))) : IntsAt w (some ⟨g, 0, none⟩) l := fun _ =>
  ⟨_, rfl, (Array.getElem?_eq_some_iff.1 h).1, fun i hi => by rw [addr_head]; exact blk_cell h (by rw [List.getElem?_toArray]; exact intV_at hi)⟩

theorem IntsAt.own {w : World} {H g n cap : Nat} {e : TypeId} {l : List Int} (h : w.ownsRow H e 1 (.slice (some ⟨g, 0, none⟩) n cap) n (intV l)) (hl : n = l.length) : IntsAt w (some ⟨g, 0, none⟩) l := fun hp => by
  have hf := World.ownsRow.cellAt h
  refine ⟨_, rfl, ?_, fun i hi => ?_⟩
  · obtain ⟨g', cap', hv, _, hlt⟩ := World.ownsRow.form h (by omega)
    simp only [Value.slice.injEq, Option.some.injEq, Addr.mk.injEq] at hv
    obtain ⟨⟨rfl, -⟩, -⟩ := hv
    exact hlt
  · rw [addr_head, hf i (by omega)]
    exact intV_at hi

theorem ints_of_own {w : World} {H n : Nat} {v : Value} {e : TypeId} {O : List Int} (h : w.ownsRow H e 1 v n (intV O)) (hl : n = O.length) : ∃ (A : Option Addr) (c : Nat), v = .slice A n c ∧ IntsAt w A O := by
  have h2 := h.2
  rcases h2 with ⟨h1, h2, h3⟩ | ⟨g, cap, cur, h1, _⟩
  · exact ⟨none, 0, h1, fun hp => absurd hl (by omega)⟩
  · subst h1
    exact ⟨_, _, rfl, IntsAt.own h hl⟩

theorem strs_of_own2 {w : World} {H n : Nat} {v : Value} {e : TypeId} {O : List ByteArray} (h : w.ownsRow H e 1 v n (strV O)) (hl : n = O.length) : ∃ (A : Option Addr) (c : Nat), v = .slice A n c ∧ StrsAt w A O := by
  have h2 := h.2
  rcases h2 with ⟨h1, h2, h3⟩ | ⟨g, cap, cur, h1, _⟩
  · exact ⟨none, 0, h1, fun hp => absurd hl (by omega)⟩
  · subst h1
    exact ⟨_, _, rfl, StrsAt.own h hl⟩

theorem IntsAt.news {w : World} {ad : Addr} {l : List Int} (h : IntsAt w (some ad) l) : ∀ j u, (intV l)[j]? = some u → w.cell? (ad.add j) = some u := fun j u hu => by
  have hj : j < l.length := by
    have := (List.getElem?_eq_some_iff.1 hu).1
    rwa [intV_len] at this
  obtain ⟨a', e, _, h3⟩ := h (by omega)
  obtain rfl := Option.some.inj e
  rw [intV_at hj] at hu
  rw [← hu]
  exact h3 j hj

set_option maxRecDepth 20000 in
set_option maxHeartbeats 2000000 in
theorem sameInts_any (A B : Option Addr) (c d : Nat) (a b : List Int) (w : World) (ha : IntsAt w A a) (hb : IntsAt w B b) (hn : a.length ≤ 9223372036854775807) :
    Calls Tryz.prog 19 #[.slice A a.length c, .slice B b.length d] w fun e w' => e = .returned (.bool (decide (a = b))) ∧ ∃ n, w' = w.drewN n := by
  by_cases hl : a.length = b.length
  · have q1 : ((a.length : Int) != (b.length : Int)) = false := by simp [hl]
    have HA := Lib.hid ha
    have HB := Lib.hid hb
    have HL := Lib.hid hl
    clear ha hb hl
    go_enter Tryz.func19, Tryz.ntmps19
    go_wp2_with fail
    go_loopw [5] (fun i wr => ∃ j n : Nat, j ≤ a.length ∧ i = .int .i64 (j : Int) ∧ Hid (∀ x (h : x < a.length) (h2 : x < b.length), x < j → a[x] = b[x]) ∧ wr = w.drewN n) (fun i _ => a.length - (intOf i).toNat)
    case atStart => exact ⟨0, 0, by omega, rfl, fun x _ _ h => absurd h (by omega), rfl⟩
    case round =>
      obtain ⟨j, n, hj, rfl, heq, rfl⟩ := hrel
      by_cases hlt : j < a.length
      · have hltb : j < b.length := by rw [← HL.out]; exact hlt
        obtain ⟨ad, rfl, _, hca⟩ := HA.out (by omega)
        obtain ⟨bd, rfl, _, hcb⟩ := HB.out (by omega)
        have c1 := hca j hlt
        have c2 := hcb j hltb
        have p1 : (j : Int) < (a.length : Int) := by omega
        have p2 : (j : Int) < (b.length : Int) := by omega
        clear hca hcb
        generalize hW : w.drewN n = W
        have HW := Lib.hid hW
        have c1' : W.cell? (ad.add j) = some (.int .i64 a[j]) := by rw [← hW]; exact c1
        have c2' : W.cell? (bd.add j) = some (.int .i64 b[j]) := by rw [← hW]; exact c2
        clear hW c1 c2
        by_cases hx : a[j] = b[j]
        · have HX := Lib.hid hx
          rw [← hx] at c2'
          generalize a[j] = x at c1' c2'
          have q2 : (x != x) = false := by simp
          clear hx
          go_wp2_with fail
          go_quiet (fail)
          go_wp2
          go_roundw
          case rel => exact ⟨j + 1, _, by omega, by go_num, (fun x h h2 hxj => by
            by_cases e : x = j
            · subst e; exact HX.out
            · exact heq.out x h h2 (by omega)), by rw [← HW.out, World.drewN_drewN]⟩
          case measure => simp [intOf]; omega
        · have q2 : (a[j] != b[j]) = true := by simpa using hx
          have E := Lib.hid (show decide (a = b) = false by rw [decide_eq_false_iff_not]; intro e; exact hx (by simp only [e]))
          generalize a[j] = x at c1' q2
          generalize b[j] = y at c2' q2
          clear hx
          go_wp2_with fail
          go_quiet (fail)
          go_wp2
          go_ret
          exact ⟨by rw [E.out]; rfl, _, by rw [← HW.out, World.drewN_drewN]⟩
      · have E := Lib.hid (show decide (a = b) = true by
          rw [decide_eq_true_eq]
          exact List.ext_getElem HL.out fun x h h2 => heq.out x h h2 (by omega))
        go_wp2_with fail
        go_ret
        exact ⟨by rw [E.out]; rfl, _, rfl⟩
  · have q1 : ((a.length : Int) != (b.length : Int)) = true := by simp; omega
    have E := Lib.hid (show decide (a = b) = false by rw [decide_eq_false_iff_not]; intro e; exact hl (by rw [e]))
    clear hl ha hb
    go_enter Tryz.func19, Tryz.ntmps19
    go_wp2_with fail
    go_ret
    exact ⟨by rw [E.out]; rfl, 0, rfl⟩

end Bk
end Go.Proofs.YtiobhbagjokpcaaGreat

/- Fields of a struct that comes as an argument: a row of numbers, a row of texts: what its reading says. -/
namespace Go.Proofs.YtiobhbagjokpcaaGreat
namespace Bk
open Go.ChangeShapes Go.WideShapes Go.ChangeAt Go.RowKit Go.Joins

section
variable {H : Type} {enc : TypeId × Value → H} {W : World}

set_option maxRecDepth 20000 in
theorem field_ints {t e : TypeId} {v : Value} {fuel : Nat} {y : DataW H × List MemPlace} (ht : Tryz.prog.underlying t = some (.slice e)) (he : Tryz.prog.underlying e = some (.int .i64)) (hc : Tryz.prog.cellsOf e = 1) (hb8 : Tryz.prog.bytesOf e = 8)
    (hf : DataW.trod enc Tryz.prog W 0 (fun _ => true) true fuel t [v] = some y) (hwt : ∀ k ∈ y.1.weights Tryz.prog t, k ≤ reachBytes) (hl : ∀ x ∈ y.2, x.block < W.heap.size) :
    ∃ (A : Option Addr) (c : Nat) (L : List Int), v = .slice A L.length c ∧ IntsAt W A L ∧ L.length * 8 ≤ reachBytes ∧ L.length ≤ c ∧ c ≤ maxLen ∧ (∀ n ∈ L, -9223372036854775808 ≤ n ∧ n ≤ 9223372036854775807) ∧ (A = none → L = [] ∧ c = 0) := by
  rcases open_ints ht he hc hf with ⟨hcs, hx⟩ | ⟨a, len, cap, zs, hcs, _, hl', hm, hz, hx, hcell, hwz⟩
  · obtain rfl : v = .slice none 0 0 := by simpa using hcs
    exact ⟨none, 0, [], rfl, fun h => absurd h (by simp), by simp, by simp, Nat.zero_le _, by simp, fun _ => ⟨rfl, rfl⟩⟩
  · obtain rfl : v = .slice (some a) len cap := by simpa using hcs
    subst hx
    simp only [if_true] at hz
    have hlen : (zs.take len).length = len := by rw [List.length_take]; omega
    have hs := hwt (((lits (H := H) .i64 (zs.take len)).length + (lits (H := H) .i64 (zs.drop len)).length) * Tryz.prog.bytesOf e) (by simp [DataW.weights, ht])
    rw [hb8] at hs
    have hs2 : (zs.take len).length * 8 ≤ reachBytes := by
      refine Nat.le_trans (Nat.mul_le_mul_right 8 ?_) hs
      simp only [lits, List.length_map]
      omega
    refine ⟨some a, cap, zs.take len, by rw [hlen], fun hpos => ⟨a, rfl, ?_, fun i hi => ?_⟩, hs2, by rw [hlen]; exact hl', hm, fun n hn => ?_, fun h => by cases h⟩
    · obtain ⟨b, off, spot⟩ := a
      exact hl (.cell b off) (MemPlace.mem_row.2 ⟨0, by omega, by simp⟩)
    · have h1 := hcell i (by omega)
      rw [h1]
      congr 2
      rw [List.getElem_take, List.getD_eq_getElem?_getD, List.getElem?_eq_getElem (by omega), Option.getD_some]
    · have := hwz n (List.mem_of_mem_take hn)
      exact show IntKind.i64.min ≤ n ∧ n ≤ 9223372036854775807 by simpa [Lit.wf] using this

set_option maxRecDepth 20000 in
theorem field_texts {t e : TypeId} {v : Value} {fuel : Nat} {y : DataW H × List MemPlace} (ht : Tryz.prog.underlying t = some (.slice e)) (he : Tryz.prog.underlying e = some .string) (hc : Tryz.prog.cellsOf e = 1) (hb16 : Tryz.prog.bytesOf e = 16)
    (hf : DataW.trod enc Tryz.prog W 0 (fun _ => true) true fuel t [v] = some y) (hwt : ∀ k ∈ y.1.weights Tryz.prog t, k ≤ reachBytes) (hl : ∀ x ∈ y.2, x.block < W.heap.size) :
    ∃ (A : Option Addr) (c : Nat) (L : List ByteArray), v = .slice A L.length c ∧ StrsAt W A L ∧ L.length * 16 ≤ reachBytes ∧ L.length ≤ c ∧ c ≤ maxLen ∧ (∀ s ∈ L, s.size ≤ reachBytes) ∧ (A = none → L = [] ∧ c = 0) := by
  rcases open_strings ht he hc hf with ⟨hcs, hx⟩ | ⟨a, len, cap, zs, hcs, _, hl', hm, hz, hx, hcell, hwz⟩
  · obtain rfl : v = .slice none 0 0 := by simpa using hcs
    exact ⟨none, 0, [], rfl, fun h => absurd h (by simp), by simp, by simp, Nat.zero_le _, by simp, fun _ => ⟨rfl, rfl⟩⟩
  · obtain rfl : v = .slice (some a) len cap := by simpa using hcs
    subst hx
    simp only [if_true] at hz
    have hlen : (zs.take len).length = len := by rw [List.length_take]; omega
    have hs := hwt (((strs (H := H) (zs.take len)).length + (strs (H := H) (zs.drop len)).length) * Tryz.prog.bytesOf e) (by simp [DataW.weights, ht])
    rw [hb16] at hs
    have hs2 : (zs.take len).length * 16 ≤ reachBytes := by
      refine Nat.le_trans (Nat.mul_le_mul_right 16 ?_) hs
      simp only [strs, List.length_map]
      omega
    refine ⟨some a, cap, zs.take len, by rw [hlen], fun hpos => ⟨a, rfl, ?_, fun i hi => ?_⟩, hs2, by rw [hlen]; exact hl', hm, fun s hs' => ?_, fun h => by cases h⟩
    · obtain ⟨b, off, spot⟩ := a
      exact hl (.cell b off) (MemPlace.mem_row.2 ⟨0, by omega, by simp⟩)
    · have h1 := hcell i (by omega)
      rw [h1]
      congr 2
      rw [List.getElem_take, List.getD_eq_getElem?_getD, List.getElem?_eq_getElem (by omega), Option.getD_some]
    · exact hwt s.size (by
        simp only [DataW.weights, ht, List.mem_cons, List.mem_append]
        exact .inr (.inl (weights_strs _ _ _ _ hs')))

/-- what an argument's reading holds is within the reach -/
theorem arg_weights {ts : List TypeId} {ds : List (DataW H)} {j : Nat} {t : TypeId} {d : DataW H} (hsz : (DataW.weightsEach Tryz.prog ts ds).all (· ≤ reachBytes) = true) (hj : ts[j]? = some t) (hd : ds[j]? = some d) : ∀ k ∈ d.weights Tryz.prog t, k ≤ reachBytes := fun k hk => by
  have h1 := List.all_eq_true.1 hsz _ (DataW.weights_mem_each hj hd k hk)
  simpa using h1

theorem agg2_weights {t : TypeId} {f0 f1 : Field} (hs : Tryz.prog.underlying t = some (.struct #[f0, f1])) (d0 d1 : DataW H) : (DataW.agg [d0, d1]).weights Tryz.prog t = d0.weights Tryz.prog f0.type ++ (d1.weights Tryz.prog f1.type ++ []) := by
  simp only [DataW.weights, hs]
  rfl

end

end Bk
end Go.Proofs.YtiobhbagjokpcaaGreat
