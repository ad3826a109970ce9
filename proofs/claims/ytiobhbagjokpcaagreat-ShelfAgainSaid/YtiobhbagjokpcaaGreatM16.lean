/- Parts of the proof, joined: ChRef6, LtBook, LtLaw; their conditions stand with each. -/
import Derived.Test.YtiobhbagjokpcaaGreatM7
import Derived.Test.YtiobhbagjokpcaaGreatM8
import Derived.Test.YtiobhbagjokpcaaGreatM10
import Derived.Test.YtiobhbagjokpcaaGreatM15

/- The document's Add to a chain: contract; no condition but the range. -/
namespace Go.Proofs.YtiobhbagjokpcaaGreat
namespace Ch
open Go.RowKit Bk

attribute [local go_sem ↓] Go.wp_at_zero Go.wp_at_succ
attribute [local go_sem] floatUpon pick

theorem one_at (W : World) (x : Vr) : VrsAt (W.alloc (.cells (vcs x).toArray 55)) (some ⟨W.heap.size, 0, none⟩) [x] := fun _ => by
  refine ⟨_, rfl, by simp, fun i hi => ?_⟩
  obtain rfl : i = 0 := by simpa using hi
  have h := new_cells W x 55
  exact ⟨h 0 _ rfl, h 1 _ rfl, h 2 _ rfl⟩

theorem row_ans_none {w W : World} {r : List Vr × Int} {e : Int} (h : r = ([], e)) (hb : Below w.heap.size w W) : RowAns w r (.returned (.tuple #[.slice none 0 0, .int .i64 e])) W := by
  subst h
  exact ⟨_, rfl, World.ownsRow_nil _ _ _ _, hb⟩

set_option maxRecDepth 20000 in
set_option maxHeartbeats 8000000 in
theorem radd_any (A : Option Addr) (c : Nat) (l : List Vr) (x : Vr) (w : World) (h : VrsAt w A l) (hn : l.length * 32 ≤ 140737488351232) (hr : ∀ x ∈ l, VrRng x) (hx : VrRng x) (hnil : A = none → l.length = 0 ∧ c = 0) :
    Calls Tryz.prog 74 #[.slice A l.length c, .agg (vcs x).toArray] w (RowAns w (addP l x)) := by
  obtain ⟨i1, hi', hz0', hz1', hz2'⟩ := info_parts Tryz.infoVer
  have HC := Lib.hid (fun W (hb : Below w.heap.size w W) => rcheck_any A c l W (h.below hb) hn hr)
  have HC1 := Lib.hid (fun W (hh : VrsAt W (some ⟨W.heap.size - 1, 0, none⟩) [x]) => rcheck_any (some ⟨W.heap.size - 1, 0, none⟩) 1 [x] W hh (by simp) (fun y hy => by rw [List.mem_singleton.1 hy]; exact hx))
  have HA := Lib.hid h
  have HNil := Lib.hid hnil
  have hlen : (l.length : Int) ≤ 4398046511104 := by omega
  have E := Lib.hid (show addP l x = if (chkP l).2 ≠ 0 then ([], (chkP l).2) else if (chkP [x]).2 ≠ 0 then ([], (chkP [x]).2) else if 0 < l.length ∧ x.ts ≤ lastT l then ([], 110) else if 1024 ≤ l.length then ([], 2) else (l ++ [x], 0) from rfl)
  obtain ⟨a, e, hae⟩ : ∃ a e, chkP l = (a, e) := ⟨_, _, rfl⟩
  obtain ⟨a2, f, haf⟩ : ∃ a e, chkP [x] = (a, e) := ⟨_, _, rfl⟩
  rw [hae] at HC E
  rw [haf] at HC1 E
  simp only at HC HC1 E
  obtain ⟨xt, xs, xd⟩ := x
  clear h hr hae haf hnil hx
  show Calls _ _ #[_, .agg #[.int .i64 xt, .string xs, .bool xd]] _ _
  go_enter Tryz.func74, Tryz.ntmps74
  go_upto_region 1 with fail
  have hR0 : Cel (w.alloc (.cells #[.int .i64 xt, .string xs, .bool xd] 55)) w.heap.size 55 [.int .i64 xt, .string xs, .bool xd] := (blk1 w _).2
  have hB0 : Below w.heap.size w (w.alloc (.cells #[.int .i64 xt, .string xs, .bool xd] 55)) := (Below.refl _ w).alloc (Nat.le_refl _) _
  generalize w.alloc (.cells #[.int .i64 xt, .string xs, .bool xd] 55) = W0 at hR0 hB0 ⊢
  go_wp2_with fail
  refine (HC.out _ hB0).mono ?_
  rintro e1 w1 ⟨rfl, hb⟩
  have hcel1 := hR0.below hb
  have HB := Lib.hid (hB0.trans (hb.mono hB0.size))
  have HR := Lib.hid hcel1
  clear HC hb hR0 hB0
  by_cases he : e = 0
  case neg =>
    have HF := Lib.hid (row_ans_none (w := w) (W := w1) (show addP l ⟨xt, xs, xd⟩ = ([], e) by rw [E.out, if_pos he]) HB.out)
    have hz : (e == 0) = false := by simpa using he
    clear E hcel1
    go_wp2_with fail
    go_ret2
    exact HF.out
  subst he
  have q0 := hcel1.cell (i := 0) rfl
  have q1 := hcel1.cell (i := 1) rfl
  have q2 := hcel1.cell (i := 2) rfl
  have hone := one_at w1 ⟨xt, xs, xd⟩
  have hB2 : Below w1.heap.size w1 (w1.alloc (.cells (vcs ⟨xt, xs, xd⟩).toArray 55)) := (Below.refl _ w1).alloc (Nat.le_refl _) _
  have hone' : VrsAt (w1.alloc (.cells (vcs ⟨xt, xs, xd⟩).toArray 55)) (some ⟨(w1.alloc (.cells (vcs ⟨xt, xs, xd⟩).toArray 55)).heap.size - 1, 0, none⟩) [⟨xt, xs, xd⟩] := by
    rw [show (w1.alloc (.cells (vcs ⟨xt, xs, xd⟩).toArray 55)).heap.size - 1 = w1.heap.size by simp]
    exact hone
  have HCx := Lib.hid (HC1.out _ hone')
  rw [show (w1.alloc (.cells (vcs ⟨xt, xs, xd⟩).toArray 55)).heap.size - 1 = w1.heap.size by simp] at HCx
  have HR1 := Lib.hid (hcel1.below hB2)
  have HB1 := Lib.hid (HB.out.trans (hB2.mono HB.out.size))
  clear HC1 hone hone' hB2 hcel1 HR HB
  go_wp2_with fail
  refine HCx.out.mono ?_
  rintro e2 w2 ⟨rfl, hb⟩
  have HR2 := Lib.hid (HR1.out.below hb)
  have HB2 := Lib.hid (HB1.out.trans (hb.mono HB1.out.size))
  clear HCx hb HR1 HB1 q0 q1 q2
  by_cases hf : f = 0
  case neg =>
    have HF := Lib.hid (row_ans_none (w := w) (W := w2) (show addP l ⟨xt, xs, xd⟩ = ([], f) by rw [E.out, if_neg (by simp), if_pos hf]) HB2.out)
    have hz : (f == 0) = false := by simpa using hf
    clear E
    go_wp2_with fail
    go_ret2
    exact HF.out
  subst hf
  have q0 := HR2.out.cell (i := 0) rfl
  have HLast : Hid (∀ w3, Below w2.heap.size w2 w3 → ¬ (0 < l.length ∧ xt ≤ lastT l) → ¬ 1024 ≤ l.length → ∀ v w', w'.ownsRow w3.heap.size 55 3 v (l.length + 1) (vrV l ++ vcs ⟨xt, xs, xd⟩) → Below w3.heap.size w3 w' → RowAns w (addP l ⟨xt, xs, xd⟩) (.returned (.tuple #[v, .int .i64 0])) w') := Lib.hid (fun w3 hb3 h1 h2 v w' ho hb => by
    have hp : addP l ⟨xt, xs, xd⟩ = (l ++ [⟨xt, xs, xd⟩], 0) := by rw [E.out, if_neg (by simp), if_neg (by simp), if_neg h1, if_neg h2]
    rw [hp]
    have hb4 := HB2.out.trans (hb3.mono HB2.out.size)
    refine ⟨v, rfl, ?_, hb4.trans (hb.mono hb4.size)⟩
    simp only [List.length_append, List.length_singleton]
    rw [vrV_snoc]
    exact own_base ho hb4.size)
  by_cases h0 : 0 < l.length
  · obtain ⟨ad, rfl, hab, hcl⟩ := (HA.out.below HB2.out) (by omega)
    obtain ⟨x0, -, -⟩ := hcl (l.length - 1) (by omega)
    have hlt := lastT_at h0
    rw [← hlt] at x0
    have hc1 : (l.length : Int) - 1 = ((l.length - 1 : Nat) : Int) := by omega
    have hc2 : ((l.length - 1 : Nat) : Int) < (l.length : Int) := by omega
    have hc3 : (l.length : Int) > 0 := by omega
    have hc4 : 0 < l.length := h0
    have E4 : Hid (lastT l = lastT l) := Lib.hid rfl
    by_cases h4 : xt ≤ lastT l
    · have HF : Hid (∀ W, Below w.heap.size w W → RowAns w (addP l ⟨xt, xs, xd⟩) (.returned (.tuple #[.slice none 0 0, .int .i64 110])) W) := Lib.hid (fun W hb => row_ans_none (by rw [E.out, if_neg (by simp), if_neg (by simp), if_pos ⟨h0, h4⟩]) hb)
      generalize l.length - 1 = k at x0 hc1 hc2
      generalize lastT l = lt at x0 h4
      clear hab hcl hlt E HLast h0 E4
      go_upto_region 7 with fail
      go_quiet (fail)
      rename_i nq
      have HB3 := Lib.hid (HB2.out.trans ((below_drew w2.heap.size w2 nq).mono HB2.out.size))
      generalize w2.drewN nq = W3 at HB3 ⊢
      go_wp2_with fail
      go_ret2
      exact HF.out _ HB3.out
    have HNo := Lib.hid (show ¬ (0 < l.length ∧ xt ≤ lastT l) from fun h => h4 h.2)
    have h4' : ¬ xt ≤ lastT l := h4
    clear h4
    generalize l.length - 1 = k at x0 hc1 hc2
    generalize lastT l = lt at x0 h4' HNo E HLast E4
    clear hab hcl hlt h0 E4
    go_upto_region 7 with fail
    go_quiet (fail)
    rename_i nq
    have HB23 := Lib.hid (below_drew w2.heap.size w2 nq)
    have HB3 := Lib.hid (HB2.out.trans (HB23.out.mono HB2.out.size))
    have HR3 := Lib.hid (HR2.out.below HB23.out)
    have hsz3 : Hid (w2.heap.size ≤ (w2.drewN nq).heap.size) := Lib.hid HB23.out.size
    generalize w2.drewN nq = W3 at HB3 HB23 HR3 hsz3 ⊢
    clear q0 x0 hc1 hc2
    -- region 9
    by_cases hfull : 1024 ≤ l.length
    · have HF := Lib.hid (row_ans_none (w := w) (W := W3) (show addP l ⟨xt, xs, xd⟩ = ([], 2) by rw [E.out, if_neg (by simp), if_neg (by simp), if_neg HNo.out, if_pos hfull]) HB3.out)
      have pf : (1024 : Int) ≤ (l.length : Int) := by omega
      clear E HLast hfull
      go_wp2_with fail
      go_ret2
      exact HF.out
    have HEnd := Lib.hid (HLast.out W3 HB23.out HNo.out hfull)
    have pf : ¬ (1024 : Int) ≤ (l.length : Int) := by omega
    have HN := Lib.hid (show l.length + 1 ≤ 1024 by omega)
    clear E HLast hfull HNo
    go_upto_region 11 with fail
    refine wp_region_said 5 [45, 46, 47, 48, 49]
      [.arr 55 #[] 0 0, .is (.slice (some ad) l.length c), .own (fun v W => W.ownsRow W3.heap.size 55 3 v l.length (vrV l)) (fun v W W' h hb => st_keep h hb), .is (.agg #[.int .i64 xt, .string xs, .bool xd]), .arr 55 #[.int .i64 xt, .string xs, .bool xd] 1 1]
      (fun W => Below W3.heap.size W3 W) (by kernel_rfl) (by kernel_rfl) (by kernel_rfl) (by kernel_rfl) (by kernel_rfl) (fun W W' h hb => h.trans (hb.mono h.size)) (Below.refl _ _) ?steps1 ?last1
    case steps1 =>
      simp only [List.take_succ_cons, List.take_zero]
      refine ⟨?_, ?_, ?_, ?_, ?_, trivial⟩
      all_goals
        intro vs W ρ hρ hc hf hg hI hH hd R' hR
        have kc := HR3.out.below hI
        have q0 := kc.cell (i := 0) rfl
        have q1 := kc.cell (i := 1) rfl
        have q2 := kc.cell (i := 2) rfl
        have HR := Lib.hid hR
        have HV := Lib.hid ((HA.out.below HB3.out).below hI)
        simp [depsOf, Region.binds, sayAt, Say.holds] at hd
        clear hR hI kc
      case refine_3 =>
        obtain ⟨⟨g, hg1, hg2, hg4, hg3⟩, hv⟩ := hd
        obtain ⟨v', w', hr, h2, h3⟩ := run_append_empty3 (P := Tryz.prog) W W3.heap.size 66 66 55 i1 (.agg #[.int .i64 0, .string ⟨#[]⟩, .bool false]) 32 Tryz.underlying66 hi' hz0' hz1' hz2' rfl g hg3 hg1 (some ad) l.length c (vrV l) (vrV_len l) HNil.out (fun ad e => by obtain rfl := Option.some.inj e; exact HV.out.news) (vrV_one l) (by have := HN.out; unfold maxLen; omega) (by have := HN.out; omega)
        have e0 : ρ (.tmp 45) = .slice (some ⟨g, 0, none⟩) 0 0 := by rw [hρ]; simp [pick, hg4]
        have e2 : ρ (.tmp 46) = .slice (some ad) l.length c := by rw [hρ]; simp [pick, hv]
        rw [if_pos (by simp [Region.wanted])]
        unfold execOp
        simp only [resolve, invoke, builtin, Sem.run_bind, Sem.run_pure, Result.andThen_ok, List.map_toArray, List.map_cons, List.map_nil, e0, e2, hr, floatUpon]
        exact HR.out _ _ h2 h3 (by simp [sayAt, Say.isBlk])
      all_goals
        go_simp
        first
          | exact HR.out _ _ (by simp [sayAt, Say.holds]) (Below.refl _ _) (by simp [sayAt, Say.isBlk])
          | exact HR.out _ _ ⟨_, hH, by simp, rfl, heap_alloc_new _ _⟩ ((Below.refl _ _).alloc (Nat.le_refl _) _) (fun h => by cases h)
          | trace_state
    case last1 =>
      intro vs W hI hb hg hd
      have g2 := hg 2 (by omega)
      obtain ⟨o, ho1, ho2, g4, ho⟩ := hg 4 (by omega)
      simp only [sayAt, Say.holds, List.getD_cons_succ, List.getD_cons_zero] at g2
      simp only [List.take_succ_cons, List.take_zero, List.drop_succ_cons, List.drop_zero, putAll, Act.put, List.setIfInBounds_toArray, List.set_cons_succ, List.set_cons_zero, Nat.zero_add, Nat.reduceAdd]
      rw [g4]
      have hn1 := HN.out
      have HI := Lib.hid hI
      clear g4 hg hd hI
      generalize vs 2 = v2 at g2 ⊢
      refine wpList_append_own_at _ rfl _ _ 66 rfl W3.heap.size 55 i1 (.agg #[.int .i64 0, .string ⟨#[]⟩, .bool false]) 3 32 Tryz.underlying66 hi' hz0' hz1' hz2' rfl (by decide) _ l.length (vrV l) rfl g2 ⟨o, 0, none⟩ 1 1 (vcs ⟨xt, xs, xd⟩) rfl rfl ?d1 (vcs_one _) ?d3 ?d4 HI.out.size ?_
      case d1 => intro j u hu; rw [addr_head]; exact blk_cell ho (by rw [List.getElem?_toArray]; exact hu)
      case d3 => unfold maxLen; omega
      case d4 => omega
      intro v' w5 hown' hgrow _ hat
      have hb5 : Below W3.heap.size W3 w5 := HI.out.grown hgrow HI.out.size (fun k hk => (g2.lt k hk).1)
      have HF := Lib.hid (HEnd.out _ _ (own_base hown' (Nat.le_refl _)) hb5)
      clear hown' hgrow hat HI ho ho1 ho2 hb g2 hb5
      go_wp2_with fail
      go_ret2
      exact HF.out
  · have h00 : l.length = 0 := by omega
    have hz : ¬ (l.length : Int) > 0 := by omega
    have HNo := Lib.hid (show ¬ (0 < l.length ∧ xt ≤ lastT l) from fun h => h0 h.1)
    have h0' : ¬ 0 < l.length := h0
    clear h0
    have HZ := Lib.hid h00
    clear h00
    go_upto_region 7 with fail
    go_quiet (fail)
    rename_i nq
    have HB23 := Lib.hid (below_drew w2.heap.size w2 nq)
    have HB3 := Lib.hid (HB2.out.trans (HB23.out.mono HB2.out.size))
    have HR3 := Lib.hid (HR2.out.below HB23.out)
    have hsz3 : Hid (w2.heap.size ≤ (w2.drewN nq).heap.size) := Lib.hid HB23.out.size
    generalize w2.drewN nq = W3 at HB3 HB23 HR3 hsz3 ⊢
    clear q0
    -- region 9
    by_cases hfull : 1024 ≤ l.length
    · have HF := Lib.hid (row_ans_none (w := w) (W := W3) (show addP l ⟨xt, xs, xd⟩ = ([], 2) by rw [E.out, if_neg (by simp), if_neg (by simp), if_neg HNo.out, if_pos hfull]) HB3.out)
      have pf : (1024 : Int) ≤ (l.length : Int) := by omega
      clear E HLast hfull
      go_wp2_with fail
      go_ret2
      exact HF.out
    have HEnd := Lib.hid (HLast.out W3 HB23.out HNo.out hfull)
    have pf : ¬ (1024 : Int) ≤ (l.length : Int) := by omega
    have HN := Lib.hid (show l.length + 1 ≤ 1024 by omega)
    clear E HLast hfull HNo
    go_upto_region 11 with fail
    refine wp_region_said 5 [45, 46, 47, 48, 49]
      [.arr 55 #[] 0 0, .is (.slice A l.length c), .own (fun v W => W.ownsRow W3.heap.size 55 3 v l.length (vrV l)) (fun v W W' h hb => st_keep h hb), .is (.agg #[.int .i64 xt, .string xs, .bool xd]), .arr 55 #[.int .i64 xt, .string xs, .bool xd] 1 1]
      (fun W => Below W3.heap.size W3 W) (by kernel_rfl) (by kernel_rfl) (by kernel_rfl) (by kernel_rfl) (by kernel_rfl) (fun W W' h hb => h.trans (hb.mono h.size)) (Below.refl _ _) ?steps2 ?last2
    case steps2 =>
      simp only [List.take_succ_cons, List.take_zero]
      refine ⟨?_, ?_, ?_, ?_, ?_, trivial⟩
      all_goals
        intro vs W ρ hρ hc hf hg hI hH hd R' hR
        have kc := HR3.out.below hI
        have q0 := kc.cell (i := 0) rfl
        have q1 := kc.cell (i := 1) rfl
        have q2 := kc.cell (i := 2) rfl
        have HR := Lib.hid hR
        have HV := Lib.hid ((HA.out.below HB3.out).below hI)
        simp [depsOf, Region.binds, sayAt, Say.holds] at hd
        clear hR hI kc
      case refine_3 =>
        obtain ⟨⟨g, hg1, hg2, hg4, hg3⟩, hv⟩ := hd
        obtain ⟨v', w', hr, h2, h3⟩ := run_append_empty3 (P := Tryz.prog) W W3.heap.size 66 66 55 i1 (.agg #[.int .i64 0, .string ⟨#[]⟩, .bool false]) 32 Tryz.underlying66 hi' hz0' hz1' hz2' rfl g hg3 hg1 A l.length c (vrV l) (vrV_len l) HNil.out (fun ad e => by subst e; exact HV.out.news) (vrV_one l) (by have := HN.out; unfold maxLen; omega) (by have := HN.out; omega)
        have e0 : ρ (.tmp 45) = .slice (some ⟨g, 0, none⟩) 0 0 := by rw [hρ]; simp [pick, hg4]
        have e2 : ρ (.tmp 46) = .slice A l.length c := by rw [hρ]; simp [pick, hv]
        rw [if_pos (by simp [Region.wanted])]
        unfold execOp
        simp only [resolve, invoke, builtin, Sem.run_bind, Sem.run_pure, Result.andThen_ok, List.map_toArray, List.map_cons, List.map_nil, e0, e2, hr, floatUpon]
        exact HR.out _ _ h2 h3 (by simp [sayAt, Say.isBlk])
      all_goals
        go_simp
        first
          | exact HR.out _ _ (by simp [sayAt, Say.holds]) (Below.refl _ _) (by simp [sayAt, Say.isBlk])
          | exact HR.out _ _ ⟨_, hH, by simp, rfl, heap_alloc_new _ _⟩ ((Below.refl _ _).alloc (Nat.le_refl _) _) (fun h => by cases h)
          | trace_state
    case last2 =>
      intro vs W hI hb hg hd
      have g2 := hg 2 (by omega)
      obtain ⟨o, ho1, ho2, g4, ho⟩ := hg 4 (by omega)
      simp only [sayAt, Say.holds, List.getD_cons_succ, List.getD_cons_zero] at g2
      simp only [List.take_succ_cons, List.take_zero, List.drop_succ_cons, List.drop_zero, putAll, Act.put, List.setIfInBounds_toArray, List.set_cons_succ, List.set_cons_zero, Nat.zero_add, Nat.reduceAdd]
      rw [g4]
      have hn1 := HN.out
      have HI := Lib.hid hI
      clear g4 hg hd hI
      generalize vs 2 = v2 at g2 ⊢
      refine wpList_append_own_at _ rfl _ _ 66 rfl W3.heap.size 55 i1 (.agg #[.int .i64 0, .string ⟨#[]⟩, .bool false]) 3 32 Tryz.underlying66 hi' hz0' hz1' hz2' rfl (by decide) _ l.length (vrV l) rfl g2 ⟨o, 0, none⟩ 1 1 (vcs ⟨xt, xs, xd⟩) rfl rfl ?d1 (vcs_one _) ?d3 ?d4 HI.out.size ?_
      case d1 => intro j u hu; rw [addr_head]; exact blk_cell ho (by rw [List.getElem?_toArray]; exact hu)
      case d3 => unfold maxLen; omega
      case d4 => omega
      intro v' w5 hown' hgrow _ hat
      have hb5 : Below W3.heap.size W3 w5 := HI.out.grown hgrow HI.out.size (fun k hk => (g2.lt k hk).1)
      have HF := Lib.hid (HEnd.out _ _ (own_base hown' (Nat.le_refl _)) hb5)
      clear hown' hgrow hat HI ho ho1 ho2 hb g2 hb5
      go_wp2_with fail
      go_ret2
      exact HF.out

end Ch
end Go.Proofs.YtiobhbagjokpcaaGreat

/- Whether letters are the same, and a letter's copy; contracts; no condition but the range. -/
namespace Go.Proofs.YtiobhbagjokpcaaGreat
namespace Lt
open Go.RowKit Bk

attribute [local go_sem ↓] Go.wp_at_zero Go.wp_at_succ
attribute [local go_sem] floatUpon pick

theorem let_ext {x y : Let} (h0 : x.kind = y.kind) (h1 : x.src = y.src) (h2 : x.dst = y.dst) (h3 : x.txn = y.txn) (h4 : x.ts = y.ts) (h5 : x.code = y.code) (h6 : x.text = y.text) (h7 : x.keys = y.keys) (h8 : x.ws = y.ws) : x = y := by
  obtain ⟨a0, a1, a2, a3, a4, a5, a6, a7, a8⟩ := x
  obtain ⟨b0, b1, b2, b3, b4, b5, b6, b7, b8⟩ := y
  simp only at h0 h1 h2 h3 h4 h5 h6 h7 h8
  subst h0 h1 h2 h3 h4 h5 h6 h7 h8; rfl

noncomputable def sameB (x y : Let) : Bool := @decide (x = y) (Classical.propDecidable _)
theorem sameB_true {x y : Let} (h : x = y) : sameB x y = true := by unfold sameB; exact @decide_eq_true _ (Classical.propDecidable _) h
theorem sameB_false {x y : Let} (h : ¬ x = y) : sameB x y = false := by unfold sameB; exact @decide_eq_false _ (Classical.propDecidable _) h
theorem sameB_self (x : Let) : sameB x x = true := sameB_true rfl

/-- what the comparison says, part by part -/
theorem sameB_parts (x y : Let) : sameB x y = (decide (x.kind = y.kind) && (decide (x.src = y.src) && (decide (x.dst = y.dst) && (decide (x.txn = y.txn) && (decide (x.ts = y.ts) && (decide (x.code = y.code) && (decide (x.text = y.text) && (decide (x.keys = y.keys) && decide (x.ws = y.ws))))))))) := by
  by_cases h : x = y
  · subst h; rw [sameB_self]; simp
  · rw [sameB_false h]
    symm
    rw [Bool.eq_false_iff]
    intro hh
    simp only [Bool.and_eq_true, decide_eq_true_eq] at hh
    obtain ⟨h0, h1, h2, h3, h4, h5, h6, h7, h8⟩ := hh
    exact h (let_ext h0 h1 h2 h3 h4 h5 h6 h7 h8)

theorem eql_dec (s t : ByteArray) : (s.toList == t.toList) = decide (s = t) := by
  by_cases h : s = t
  · subst h; simp
  · rw [text_ne h, decide_eq_false h]

end Lt
end Go.Proofs.YtiobhbagjokpcaaGreat

/- What is asked of the landed package letter; which letter any bytes are; the example; whether letters are the same. -/
namespace Go.Proofs.YtiobhbagjokpcaaGreat
namespace Lt
open Go.RowKit Bk

attribute [local go_sem ↓] Go.wp_at_zero Go.wp_at_succ
attribute [local go_sem] floatUpon pick

/-- a letter's lists in the memory, as an argument or a result has them -/
structure LetVal (w : World) (A B : Option Addr) (c d : Nat) (l : Let) : Prop where
  ks : StrsAt w A l.keys
  ws : WrsAt w B l.ws
  rng : LetRange l c d
  kn : A = none → l.keys = [] ∧ c = 0
  wn : B = none → l.ws = [] ∧ d = 0

theorem LetVal.below {w W : World} {A B : Option Addr} {c d : Nat} {l : Let} (h : LetVal w A B c d l) (hb : Below w.heap.size w W) : LetVal W A B c d l :=
  ⟨h.ks.below hb, h.ws.below hb, h.rng, h.kn, h.wn⟩

/-- what is asked of letter.Check -/
def CheckAll : Prop := ∀ (A B : Option Addr) (c d : Nat) (l : Let) (w : World), LetVal w A B c d l →
  Calls Tryz.prog 142 #[letV l A B c d] w fun e w' => e = .returned (.int .i64 (ckN l : Int)) ∧ Below w.heap.size w w'

open Classical in
/-- which letter bytes are, and what is told -/
noncomputable def decX (s : ByteArray) : Let × Nat := if h : ∃ l, LetOk l ∧ s.data.toList = letL l then (Classical.choose h, 0) else (noLet, 70)

theorem decX_ok {s : ByteArray} {l : Let} (h : LetOk l) (hs : s.data.toList = letL l) : decX s = (l, 0) := by
  have hx : ∃ l, LetOk l ∧ s.data.toList = letL l := ⟨l, h, hs⟩
  unfold decX
  rw [dif_pos hx]
  have hc := Classical.choose_spec hx
  rw [letL_inj hc.1 h (hc.2.symm.trans hs)]

theorem decX_no {s : ByteArray} (h : NoLet s) : decX s = (noLet, 70) := by
  unfold decX
  rw [dif_neg (fun ⟨l, h1, h2⟩ => h l h1 h2)]

theorem decX_cases (s : ByteArray) : (∃ l, LetOk l ∧ s.data.toList = letL l ∧ decX s = (l, 0)) ∨ (NoLet s ∧ decX s = (noLet, 70)) := by
  by_cases h : ∃ l, LetOk l ∧ s.data.toList = letL l
  · obtain ⟨l, h1, h2⟩ := h
    exact .inl ⟨l, h1, h2, decX_ok h1 h2⟩
  · have hn : NoLet s := fun l h1 h2 => h ⟨l, h1, h2⟩
    exact .inr ⟨hn, decX_no hn⟩

theorem decX_bytes {l : Let} (h : LetOk l) : decX ⟨(letL l).toArray⟩ = (l, 0) := decX_ok h (by simp)

/-- what is asked of letter.Key -/
def KeyAll : Prop := ∀ (s : ByteArray) (w : World), s.size ≤ 140737488355328 →
  Calls Tryz.prog 164 #[.string s] w fun e w' => e = .returned (.bool (decide (keyOk s))) ∧ Below w.heap.size w w'

/-- what is asked of letter.Rising -/
def RisingAll : Prop := ∀ (A : Option Addr) (c : Nat) (l : List ByteArray) (w : World), StrsAt w A l → l.length * 16 ≤ 140737488355328 → (∀ s ∈ l, s.size ≤ 140737488355328) → l.length ≤ c → c ≤ maxLen → (A = none → l = [] ∧ c = 0) →
  Calls Tryz.prog 162 #[.slice A l.length c] w fun e w' => e = .returned (.bool (risesB l)) ∧ Below w.heap.size w w'

theorem nil_strs (w : World) (A : Option Addr) : StrsAt w A [] := fun h => absurd h (by simp)
theorem nil_wrs (w : World) (A : Option Addr) : WrsAt w A [] := fun h => absurd h (by simp)

theorem LetOk.rng {l : Let} (h : LetOk l) : LetRng l := by
  obtain ⟨b1, b2, b3, b4, b5, b6, b7⟩ := h.bounds
  obtain ⟨⟨h1, h2, h3, h4, h5, h6⟩, _⟩ := h
  have rb : reachBytes = 140737488351232 := by unfold reachBytes; rfl
  unfold addr at h1 h2
  unfold txnOk at h3
  unfold stampOk at h4
  exact ⟨by omega, by omega, by omega, by omega, by omega, by omega, by omega, by omega, by omega, fun k hk => by have := b4 k hk; unfold keyOk at this; omega, fun x hx => by have := b5 x hx; unfold keyOk at this; omega⟩

/-- a letter of numbers alone -/
def bareL (k a b t s : Int) : Let := ⟨k, a, b, t, s, 0, ⟨#[]⟩, [], []⟩

theorem bare_val (w : World) (k a b t s : Int) (h : LetOk (bareL k a b t s)) : LetVal w none none 0 0 (bareL k a b t s) :=
  ⟨nil_strs _ _, nil_wrs _ _, ⟨h.rng, Nat.le_refl _, Nat.le_refl _, Nat.zero_le _, Nat.zero_le _⟩, fun _ => ⟨rfl, rfl⟩, fun _ => ⟨rfl, rfl⟩⟩

theorem example_ok : LetOk (bareL 7 1 2 5 0) := by
  refine ⟨⟨?_, ?_, ?_, ?_, ?_, ?_⟩, (kind_5 (by decide)).2 ⟨⟨rfl, rfl, rfl⟩, rfl⟩⟩
  · show addr 1; decide
  · show addr 2; decide
  · show txnOk 5; decide
  · show stampOk 0; decide
  · show (0 : Int) ≤ 0; decide
  · show (0 : Int) ≤ 4; decide

theorem example_bytes : letL (bareL 7 1 2 5 0) = [7, 14, 2, 4, 10, 0, 0, 0, 1, 0] := by
  have h0 : Pk.plain 7 = [7] := Pk.plain_small (by omega)
  have h1 : Pk.signed 7 = [14] := Pk.plain_small (by show Pk.zig 7 < 128; decide)
  have h2 : Pk.signed 1 = [2] := Pk.plain_small (by show Pk.zig 1 < 128; decide)
  have h3 : Pk.signed 2 = [4] := Pk.plain_small (by show Pk.zig 2 < 128; decide)
  have h4 : Pk.signed 5 = [10] := Pk.plain_small (by show Pk.zig 5 < 128; decide)
  have h5 : Pk.signed 0 = [0] := Pk.plain_small (by show Pk.zig 0 < 128; decide)
  have h6 : Pk.plain 1 = [1] := Pk.plain_small (by omega)
  have h7 : Pk.plain 0 = [0] := Pk.plain_small (by omega)
  show Pk.plain 7 ++ ((Pk.signed 7 ++ (Pk.signed 1 ++ (Pk.signed 2 ++ (Pk.signed 5 ++ (Pk.signed 0 ++ (Pk.signed 0 ++ (Pk.signed 0 ++ []))))))) ++ (Pk.plain 1 ++ ((Pk.plain 0 ++ []) ++ []))) = _
  rw [h0, h1, h2, h3, h4, h5, h6, h7]; rfl

def kK : ByteArray := ⟨#[107]⟩
def kA : ByteArray := ⟨#[97]⟩
def kB : ByteArray := ⟨#[98]⟩

theorem rises_ab : risesB [kA, kB] = true := risesB_true fun i h => by
  match i, h with
  | 0, _ => exact ⟨by show keyOk kA; decide, fun h0 => absurd h0 (by omega)⟩
  | 1, _ =>
    refine ⟨by show keyOk kB; decide, fun _ => ?_⟩
    show leT kB kA = false
    unfold leT; rw [ByteArray.toList_eq, ByteArray.toList_eq]; decide

theorem rises_aa : risesB [kA, kA] = false := risesB_false (not_rises (j := 1) (by decide) (fun h => by
  have h2 := h.2 (by omega)
  have h3 : leT kA kA = true := by unfold leT; rw [ByteArray.toList_eq]; decide
  exact absurd (h3.symm.trans h2) (by decide)))

end Lt
end Go.Proofs.YtiobhbagjokpcaaGreat
