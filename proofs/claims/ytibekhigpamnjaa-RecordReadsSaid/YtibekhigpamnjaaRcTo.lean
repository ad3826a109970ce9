/- What the landed package's toWrites answers: the writes of numbers and texts; contract; no condition but the range. -/
import Derived.Test.YtibekhigpamnjaaRcDone1
import Derived.Test.YtibekhigpamnjaaA4
namespace Go.Proofs.Ytibekhigpamnjaa
namespace Rc
open Go.RowKit Bk Lt

attribute [local go_sem ↓] Go.wp_at_zero Go.wp_at_succ
attribute [local go_sem] floatUpon pick

/-- what toWrites answers -/
def TwAns (fs : List Int) (ts : List ByteArray) (w : World) : Ending → World → Prop := fun e w' =>
  ((∀ f ∈ fs, f = 0 ∨ f = 1) ∧ ∃ v, e = .returned (.tuple #[v, .bool true]) ∧ w'.ownsRow w.heap.size 79 3 v fs.length (wrV (pairL fs ts)) ∧ Below w.heap.size w w') ∨
  (¬ (∀ f ∈ fs, f = 0 ∨ f = 1) ∧ e = .returned (.tuple #[.slice none 0 0, .bool false]) ∧ Below w.heap.size w w')

set_option maxRecDepth 20000 in
set_option maxHeartbeats 4000000 in
theorem toWrites_any (A B : Option Addr) (c d : Nat) (fs : List Int) (ts : List ByteArray) (w : World) (ha : IntsAt w A fs) (hb : StrsAt w B ts) (hl : ts.length = 2 * fs.length) (h1 : fs.length ≤ 100000) :
    Calls Try.prog 55 #[.slice A fs.length c, .slice B ts.length d] w (TwAns fs ts w) := by
  obtain ⟨i0, hi, hz0, hz1, hz2⟩ := info_parts Try.infoWrite
  have hpl := pairL_len fs ts hl
  have pfl : (fs.length : Int) ≤ 100000 := by omega
  have HMk : Hid (∀ v w', (∀ f ∈ fs, f = 0 ∨ f = 1) → w'.ownsRow w.heap.size 79 3 v fs.length (wrV (pairL fs ts)) → Below w.heap.size w w' → TwAns fs ts w (.returned (.tuple #[v, .bool true])) w') := Lib.hid (fun v w' h a b => .inl ⟨h, v, rfl, a, b⟩)
  have HMn : Hid (∀ w', ¬ (∀ f ∈ fs, f = 0 ∨ f = 1) → Below w.heap.size w w' → TwAns fs ts w (.returned (.tuple #[.slice none 0 0, .bool false])) w') := Lib.hid (fun w' h b => .inr ⟨h, rfl, b⟩)
  have HL := Lib.hid hl
  have HPl := Lib.hid hpl
  have HA := Lib.hid ha
  have HB := Lib.hid hb
  clear hl hpl ha hb
  go_enter Try.func55, Try.ntmps55
  go_wp2_with fail
  go_loopw [6, 13] (fun x i wr => ∃ (j : Nat) (u : Value), u = x ∧ j ≤ fs.length ∧ i = .int .i64 (j : Int) ∧ Hid (∀ f ∈ fs.take j, f = 0 ∨ f = 1) ∧ Hid (wr.ownsRow w.heap.size 79 3 u j (wrV ((pairL fs ts).take j))) ∧ Hid (Below w.heap.size w wr)) (fun _ i _ => fs.length - (intOf i).toNat)
  case atStart => exact ⟨0, _, rfl, by omega, rfl, fun f h => absurd h (by simp), World.ownsRow_nil _ _ _ _, Below.refl _ _⟩
  case round =>
    obtain ⟨j, u, rfl, hj, rfl, hall, hown, hbel⟩ := hrel
    by_cases hlt : j < fs.length
    · have pj : (j : Int) < (fs.length : Int) := by omega
      have l1 : 2 * j < ts.length := by have := HL.out; omega
      have l2 : 2 * j + 1 < ts.length := by have := HL.out; omega
      obtain ⟨ad, rfl, _, _⟩ := HA.out (by omega)
      obtain ⟨bd, rfl, _, _⟩ := HB.out (by omega)
      have hp := pairL_at fs ts HL.out j hlt (by rw [HPl.out]; exact hlt) l1 l2
      have hmem : fs[j] ∈ fs := List.getElem_mem hlt
      have hT := fun W => toBool_any fs[j] W
      have hAl := mem_take_succ hlt hall.out
      obtain ⟨k, hk⟩ : ∃ k, k = ts[2 * j] := ⟨_, rfl⟩
      obtain ⟨s, hs⟩ : ∃ s, s = ts[2 * j + 1] := ⟨_, rfl⟩
      obtain ⟨f, hf⟩ : ∃ f, f = fs[j] := ⟨_, rfl⟩
      rw [← hf] at hmem hT hAl
      obtain ⟨dd, hd⟩ : ∃ dd, dd = (f == 1) := ⟨_, rfl⟩
      rw [← hk, ← hs, ← hf, ← hd] at hp
      rw [← hd] at hT
      have htk : wrV ((pairL fs ts).take (j + 1)) = wrV ((pairL fs ts).take j) ++ [.string k, .string s, .bool dd] := by
        rw [List.take_add_one, List.getElem?_eq_getElem (by rw [HPl.out]; exact hlt), hp]
        exact wrV_snoc _ _
      have hC : ∀ W, Below w.heap.size w W → W.cell? (bd.add (2 * j)) = some (.string k) ∧ W.cell? (bd.add (2 * j + 1)) = some (.string s) ∧ W.cell? (ad.add j) = some (.int .i64 f) := fun W hW => by
        obtain ⟨ad', e1, _, hca⟩ := (HA.out.below hW) (by omega)
        obtain ⟨bd', e2, _, hcb⟩ := (HB.out.below hW) (by omega)
        obtain rfl := Option.some.inj e1
        obtain rfl := Option.some.inj e2
        rw [hk, hs, hf]
        exact ⟨hcb _ l1, hcb _ l2, hca _ hlt⟩
      have x7 := (hC _ hbel.out).2.2
      have HC := Lib.hid hC
      have HTk := Lib.hid htk
      have p1 : (2 * (j : Int)) < (ts.length : Int) := by omega
      have p2 : (2 * (j : Int)) + 1 < (ts.length : Int) := by omega
      have w2 : IntKind.i64.wrap (2 * (j : Int)) = 2 * (j : Int) := i64_wrap (by omega) (by omega)
      have w3 : IntKind.i64.wrap (2 * (j : Int) + 1) = 2 * (j : Int) + 1 := i64_wrap (by omega) (by omega)
      obtain ⟨q0, hq0⟩ : ∃ q, q = 2 * j := ⟨_, rfl⟩
      obtain ⟨q1, hq1⟩ : ∃ q, q = 2 * j + 1 := ⟨_, rfl⟩
      have t2 : (2 * (j : Int)).toNat = q0 := by omega
      have t3 : (2 * (j : Int) + 1).toNat = q1 := by omega
      rw [← hq1, ← hq0] at HC
      clear hC hp htk hk hs hf hd hq0 hq1 l1 l2 hall
      by_cases hf01 : f = 0 ∨ f = 1
      case neg =>
        rw [decide_eq_false hf01] at hT
        have HT := Lib.hid hT
        have HN := Lib.hid (show ¬ (∀ f ∈ fs, f = 0 ∨ f = 1) from fun h => hf01 (h f hmem))
        clear hT hmem hAl hf01
        go_wp2_with fail
        refine (HT.out _).mono ?_
        rintro e w8 ⟨rfl, rfl⟩
        go_wp2_with fail
        go_ret2
        exact HMn.out _ HN.out hbel.out
      rw [decide_eq_true hf01] at hT
      have HT := Lib.hid hT
      have HAl := Lib.hid (hAl hf01)
      clear hT hmem hAl hf01
      go_wp2_with fail
      refine (HT.out _).mono ?_
      rintro e w8 ⟨rfl, rfl⟩
      clear x7
      go_upto_region 8 with fail
      refine wp_region_said 15 [25, 26, 27, 28, 29, 30, 31, 32, 33, 34, 35, 36, 37, 38, 39]
        [.is u, .is (.slice (some bd) ts.length d), .is (.int .i64 (j : Int)), .is (.int .i64 (2 * (j : Int))), .is (.pointer (some (bd.add q0))), .is (.string k), .is (.slice (some bd) ts.length d), .is (.int .i64 (j : Int)), .is (.int .i64 (2 * (j : Int))), .is (.int .i64 (2 * (j : Int) + 1)), .is (.pointer (some (bd.add q1))), .is (.string s), .is (.bool dd), .is (.agg #[.string k, .string s, .bool dd]), .arr 79 #[.string k, .string s, .bool dd] 1 1]
        (fun W => W.ownsRow w.heap.size 79 3 u j (wrV ((pairL fs ts).take j)) ∧ Below w.heap.size w W) (by kernel_rfl) (by kernel_rfl) (by kernel_rfl) (by kernel_rfl) (by kernel_rfl) (fun W W' h hb => ⟨st_keep h.1 hb, h.2.trans (hb.mono h.2.size)⟩) ⟨hown.out, hbel.out⟩ ?steps ?last
      case steps =>
        simp only [List.take_succ_cons, List.take_zero]
        refine ⟨?_, ?_, ?_, ?_, ?_, ?_, ?_, ?_, ?_, ?_, ?_, ?_, ?_, ?_, ?_, trivial⟩
        all_goals
          intro vs W ρ hρ hc hf hg hI hH hd R' hR
          obtain ⟨z0, z1, -⟩ := HC.out W hI.2
          have HR := Lib.hid hR
          simp [depsOf, Region.binds, sayAt, Say.holds] at hd
          clear hR hI
          go_simp
          first
            | exact HR.out _ _ (by simp [sayAt, Say.holds]) (Below.refl _ _) (by simp [sayAt, Say.isBlk])
            | exact HR.out _ _ ⟨_, hH, by simp, rfl, heap_alloc_new _ _⟩ ((Below.refl _ _).alloc (Nat.le_refl _) _) (fun h => by cases h)
            | trace_state
      case last =>
        intro vs W hI hb hg hd
        have g0 := hg 0 (by omega)
        obtain ⟨o, ho1, ho2, g14, ho⟩ := hg 14 (by omega)
        simp only [sayAt, Say.holds, List.getD_cons_zero] at g0
        simp only [List.take_succ_cons, List.take_zero, List.drop_succ_cons, List.drop_zero, putAll, Act.put, List.setIfInBounds_toArray, List.set_cons_succ, List.set_cons_zero, Nat.zero_add, Nat.reduceAdd]
        rw [g0, g14]
        have HI := Lib.hid hI
        clear g0 g14 hg hd hI hown hbel
        refine wpList_append_own_at _ rfl _ _ 23 rfl w.heap.size 79 i0 (.agg #[.string ⟨#[]⟩, .string ⟨#[]⟩, .bool false]) 3 40 Try.underlying23 hi hz0 hz1 hz2 rfl (by decide) _ _ _ rfl HI.out.1 ⟨o, 0, none⟩ 1 1 [.string k, .string s, .bool dd] rfl rfl ?d1 ?d2 ?d3 ?d4 HI.out.2.size ?_
        case d1 => exact new_row ho
        case d2 => intro q hq; simp at hq; rcases hq with rfl | rfl | rfl <;> rfl
        case d3 => unfold maxLen; omega
        case d4 => omega
        intro v' w5 hown' hgrow _ hat
        have HB5 := Lib.hid (HI.out.2.grown hgrow HI.out.2.size (fun k hk => (HI.out.1.lt k hk).1))
        rw [← HTk.out] at hown'
        have HO5 := Lib.hid hown'
        clear hown' hgrow hat HI ho ho1 ho2 hb
        go_wp2_with fail
        go_roundw
        case rel => exact ⟨j + 1, _, rfl, by omega, by go_num, HAl.out, HO5.out, HB5.out⟩
        case measure => simp [intOf]; omega
    · obtain rfl : j = fs.length := by omega
      have ho := hown.out
      rw [List.take_of_length_le (by rw [HPl.out]; exact Nat.le_refl _)] at ho
      have ha2 := hall.out
      rw [List.take_length] at ha2
      have HO := Lib.hid ho
      have HAl := Lib.hid ha2
      clear ho hown hall ha2
      go_wp2_with fail
      go_ret2
      exact HMk.out _ _ HAl.out HO.out hbel.out

end Rc
end Go.Proofs.Ytibekhigpamnjaa
