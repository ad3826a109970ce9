/- The document's net: Send; contract; no condition but the ranges. -/
import Derived.Test.YtkpcfakfkcghdaaNtRef1
namespace Go.Proofs.Ytkpcfakfkcghdaa
namespace Nt
open Go.RowKit Bk Lt
set_option linter.unusedVariables false

attribute [local go_sem ↓] Go.wp_at_zero Go.wp_at_succ
attribute [local go_sem] floatUpon pick

/-- a letter's block stands, while letters are laid behind a row -/
theorem GrN.lit9 {H p : Nat} {t : TypeId} {pre : List Value} {x : LI} {us : List Value} {W W' : World} (h : W.heap[p]? = some (.cells (lcs x).toArray t (0, 0))) (hus : us.length = 9 → us = lcs x) (hl : pre.length % 9 = 0 ∧ us.length % 9 = 0) (hk : GrN H t pre us W W') : W'.heap[p]? = some (.cells (lcs x).toArray t (0, 0)) ∨ (pre.length = 9 ∧ us = []) := by
  rcases hk with hk | ⟨g, cur, _, hg, hz, htk, rfl⟩
  · exact .inl ((hk.block p (Array.getElem?_eq_some_iff.1 h).1).trans h)
  · by_cases e : p = g
    · subst e
      rw [h] at hg
      simp only [Option.some.injEq, Obj.cells.injEq, and_true] at hg
      subst hg
      have hs : (lcs x).toArray.size = 9 := rfl
      rw [hs] at hz
      have h1 : pre.length = 0 ∨ us.length = 0 := by omega
      by_cases h0 : us.length = 0
      · obtain rfl : us = [] := List.eq_nil_of_length_eq_zero h0
        by_cases hp9 : pre.length = 9
        · exact .inr ⟨hp9, rfl⟩
        · obtain rfl : pre = [] := List.eq_nil_of_length_eq_zero (by omega)
          left
          have := setRow_heap W p (lcs x).toArray ([] ++ [] ++ (lcs x).toArray.toList.drop (([] : List Value).length + ([] : List Value).length)).toArray t (0, 0) h
          simpa using this
      · have hu9 : us.length = 9 := by omega
        have hp0 : pre = [] := List.eq_nil_of_length_eq_zero (by omega)
        subst hp0
        have hue := hus hu9
        subst hue
        left
        have := setRow_heap W p (lcs x).toArray ([] ++ lcs x ++ (lcs x).toArray.toList.drop (([] : List Value).length + (lcs x).length)).toArray t (0, 0) h
        rw [this]
        congr 2
    · exact .inl ((setRow_other W g p _ e).trans h)

section
variable {W W' : World} {P P' : Nat → Prop} {b : Nat} {room : Int} {A : Option Addr} {c : Nat} {L : List LI} {l : List Let}

set_option maxRecDepth 20000 in
set_option maxHeartbeats 8000000 in
theorem rsend_any (h : RAt W P b room A c L) (x : LI) (hx : RV W P x) :
    Calls Try.prog 25 #[.pointer (some ⟨b, 0, none⟩), letV x.l x.A x.B x.c x.d] W fun e w' => e = .returned (.int .i64 (sendL room (L.map (·.l)) x.l).2) ∧ RPost W P b room (sendL room (L.map (·.l)) x.l).1 w' := by
  obtain ⟨S, hS⟩ : ∃ S, sendL room (L.map (·.l)) x.l = S := ⟨_, rfl⟩
  rw [hS]
  have HS := Lib.hid hS
  have HR := Lib.hid h
  have HX := Lib.hid hx
  have hL10 := h.len10
  have hck := fun (V : World) (hb : Below W.heap.size W V) => check_any x.A x.B x.c x.d x.l V (hx.below hb).val.ks (hx.below hb).val.ws hx.val.rng.toLetRng
  have HCk := Lib.hid hck
  have hcc := ckN_cases x.l
  have hcz := @ckN_zero x.l
  obtain ⟨i0, z0, hi, hz0, hz2, hz1, hz3⟩ := info_let
  obtain ⟨X, hXe⟩ : ∃ X, X = x := ⟨_, rfl⟩
  have HXe := Lib.hid hXe
  obtain ⟨l0, xA, xB, xc, xd⟩ := x
  simp only at HS HCk hcc hcz ⊢
  unfold letV at HCk ⊢
  have hb1 : Below W.heap.size W (W.alloc (.cells #[.int .i64 l0.kind, .int .i64 l0.src, .int .i64 l0.dst, .int .i64 l0.txn, .int .i64 l0.ts, .int .i64 l0.code, .string l0.text, .slice xA l0.keys.length xc, .slice xB l0.ws.length xd] 35)) := (Below.refl _ W).alloc (Nat.le_refl _) _
  have hC1 : Cel (W.alloc (.cells #[.int .i64 l0.kind, .int .i64 l0.src, .int .i64 l0.dst, .int .i64 l0.txn, .int .i64 l0.ts, .int .i64 l0.code, .string l0.text, .slice xA l0.keys.length xc, .slice xB l0.ws.length xd] 35)) W.heap.size 35 (cellsL l0 (.slice xA l0.keys.length xc) (.slice xB l0.ws.length xd)) := (blk1 W _).2
  clear h hx hS hck hXe
  go_enter Try.func25, Try.ntmps25
  go_upto_region 1 with fail
  generalize W.alloc (.cells #[.int .i64 l0.kind, .int .i64 l0.src, .int .i64 l0.dst, .int .i64 l0.txn, .int .i64 l0.ts, .int .i64 l0.code, .string l0.text, .slice xA l0.keys.length xc, .slice xB l0.ws.length xd] 35) = W1 at hb1 hC1 ⊢
  have p0 := hC1.cell (i := 0) rfl
  have p1 := hC1.cell (i := 1) rfl
  have p2 := hC1.cell (i := 2) rfl
  have p3 := hC1.cell (i := 3) rfl
  have p4 := hC1.cell (i := 4) rfl
  have p5 := hC1.cell (i := 5) rfl
  have p6 := hC1.cell (i := 6) rfl
  have p7 := hC1.cell (i := 7) rfl
  have p8 := hC1.cell (i := 8) rfl
  have HC1 := Lib.hid hC1
  have HB1 := Lib.hid hb1
  clear hb1 hC1
  by_cases hok : LetOk l0
  case neg =>
    have hc0 : ckN l0 = 70 := by rcases hcc with h | h; exact absurd (hcz.1 h) hok; exact h
    have HSe : Hid (S = (L.map (·.l), 70)) := Lib.hid (by rw [← HS.out]; unfold sendL; rw [if_neg hok])
    rw [hc0] at HCk
    clear hc0 hcc hcz hok
    go_wp2_with fail
    refine (HCk.out _ HB1.out).mono ?_
    rintro e W2 ⟨rfl, hb2⟩
    have HB2 := Lib.hid (HB1.out.trans (hb2.mono HB1.out.size))
    clear hb2 HC1 HB1 HCk p0 p1 p2 p3 p4 p5 p6 p7 p8
    go_wp2_with fail
    go_ret
    rw [HSe.out]
    exact ⟨rfl, ⟨_, _, _, HR.out.below HB2.out, rfl⟩, Far.of HB2.out⟩
  have hc0 : ckN l0 = 0 := hcz.2 hok
  have hS2 : sendL room (L.map (·.l)) l0 = putL room (L.map (·.l)) l0 := by unfold sendL; rw [if_pos hok]
  rw [hS2] at HS
  rw [hc0] at HCk
  have HOk := Lib.hid hok
  clear hc0 hcc hcz hok hS2
  go_wp2_with fail
  refine (HCk.out _ HB1.out).mono ?_
  rintro e W2 ⟨rfl, hb2⟩
  have hC2 := HC1.out.below hb2
  have hB2 := HB1.out.trans (hb2.mono HB1.out.size)
  have hR2 := HR.out.below hB2
  have k0 := hR2.cel.cell (i := 0) rfl
  have k1 := hR2.cel.cell (i := 1) rfl
  have HC2 := Lib.hid hC2
  have HB2 := Lib.hid hB2
  have HR2 := Lib.hid hR2
  obtain ⟨n, hn⟩ : ∃ n, L.length = n := ⟨_, rfl⟩
  rw [hn] at k1 hL10
  have HLn := Lib.hid hn
  clear hb2 hC2 hB2 hR2 HC1 HB1 HCk p0 p1 p2 p3 p4 p5 p6 p7 p8 hn
  go_upto_region 3 with fail
  go_quiet (fail)
  have hR3 : RAt (W2.drewN nq) P b room A c L := HR2.out.below (below_drewN (Below.refl _ W2) nq)
  have hC3 : Cel (W2.drewN nq) W.heap.size 35 _ := HC2.out
  have hB3 : Below W.heap.size W (W2.drewN nq) := below_drewN HB2.out nq
  generalize W2.drewN nq = W3 at hR3 hC3 hB3 ⊢
  have HC3 := Lib.hid hC3
  have HB3 := Lib.hid hB3
  have HR3 := Lib.hid hR3
  clear hR3 hC3 hB3 HR2 HC2 HB2 k0 k1
  by_cases hlt : (n : Int) < room
  case neg =>
    have HSe : Hid (S = (L.map (·.l), 150)) := Lib.hid (by rw [← HS.out]; unfold putL; rw [if_neg (by rw [List.length_map, HLn.out]; exact hlt)])
    have hge : room ≤ (n : Int) := by omega
    go_wp2_with fail
    go_ret
    rw [HSe.out]
    exact ⟨rfl, ⟨_, _, _, HR3.out, rfl⟩, Far.of HB3.out⟩
  have HSe : Hid (S = (L.map (·.l) ++ [l0], 0)) := Lib.hid (by rw [← HS.out]; unfold putL; rw [if_pos (by rw [List.length_map, HLn.out]; exact hlt)])
  have hcap : (n + 1) * 112 ≤ 140737488355328 := by omega
  have hcap0 : n * 112 ≤ 140737488355328 := by omega
  have HXl : Hid (lcs X = cellsL l0 (.slice xA l0.keys.length xc) (.slice xB l0.ws.length xd)) := Lib.hid (by rw [HXe.out]; rfl)
  have hplt : ∀ k, P k → k < W3.heap.size := HR3.out.lt
  have HPl := Lib.hid hplt
  clear hplt
  go_upto_region 5 with fail
  refine wp_region_saidK 12 [18, 19, 20, 21, 22, 23, 24, 25, 26, 27, 28, 29]
    [TIs (.pointer (some ⟨b, 0, none⟩)), (fun v V => ∃ p, W3.heap.size ≤ p ∧ v = .slice (some ⟨p, 0, none⟩) 0 0 ∧ V.heap[p]? = some (.cells #[] 35 (0, 0))), TIs (.pointer (some ⟨b, 0, none⟩)), TIs (.pointer (some ⟨b, 0, none⟩)), TIs (.pointer (some ⟨b, 1, none⟩)), TIs (.slice A n c),
      (fun v V => V.ownsRow W3.heap.size 35 9 v n (L.flatMap lcs)), TIs (letV l0 xA xB xc xd), (fun v V => ∃ p, W3.heap.size ≤ p ∧ v = .slice (some ⟨p, 0, none⟩) 1 1 ∧ V.heap[p]? = some (.cells (lcs X).toArray 35 (0, 0))),
      (fun v V => V.ownsRow W3.heap.size 35 9 v (n + 1) (L.flatMap lcs ++ lcs X)), TIs (.pointer (some ⟨b, 0, none⟩)), TIs (.pointer (some ⟨b, 1, none⟩))]
    (fun V => Below W3.heap.size W3 V) (GrN W3.heap.size 35 (L.flatMap lcs) (lcs X)) (by kernel_rfl) (by kernel_rfl) (by kernel_rfl) (by kernel_rfl) (by kernel_rfl)
    (satK_of fun S hS v V V' h hk => by
      simp only [List.mem_cons, List.not_mem_nil, or_false] at hS
      rcases hS with rfl | rfl | rfl | rfl | rfl | rfl | rfl | rfl | rfl | rfl | rfl | rfl
      case inr.inl => obtain ⟨p, p1, p2, p3⟩ := h; exact ⟨p, p1, p2, hk.lit p3⟩
      case inr.inr.inr.inr.inr.inr.inr.inr.inl =>
        obtain ⟨p, p1, p2, p3⟩ := h
        rcases hk.lit9 p3 (fun _ => rfl) ⟨by rw [flat_len]; omega, by rw [lcs_len]⟩ with h | ⟨_, h⟩
        · exact ⟨p, p1, p2, h⟩
        · exact absurd (congrArg List.length h) (by rw [lcs_len]; simp)
      all_goals first | exact h | exact hk.row h (.inl rfl) | exact hk.row h (.inr rfl))
    (fun V V' h hk => hk.below h h.size (Nat.le_refl _)) (fun V => .inl (Below.refl _ V).drew) (Below.refl _ _) ?steps ?last
  case steps =>
    simp only [List.take_succ_cons, List.take_zero]
    refine ⟨?_, ?_, ?_, ?_, ?_, ?_, ?_, ?_, ?_, ?_, ?_, ?_, trivial⟩
    all_goals
      intro vs V ρ hρ hcn hf hg hI hd R' hR
      have kc := HR3.out.cel.below hI
      have q1 := kc.cell (i := 1) rfl
      rw [HLn.out] at q1
      have cc := HC3.out.below hI
      have p0 := cc.cell (i := 0) rfl
      have p1 := cc.cell (i := 1) rfl
      have p2 := cc.cell (i := 2) rfl
      have p3 := cc.cell (i := 3) rfl
      have p4 := cc.cell (i := 4) rfl
      have p5 := cc.cell (i := 5) rfl
      have p6 := cc.cell (i := 6) rfl
      have p7 := cc.cell (i := 7) rfl
      have p8 := cc.cell (i := 8) rfl
      have HRk := Lib.hid hR
      have HI := Lib.hid hI
      simp [depsOf, Region.binds, satK, TIs, letV] at hd
      clear hR hI kc cc
    case refine_2 =>
      go_simp
      exact HRk.out _ _ ⟨V.heap.size, HI.out.size, rfl, heap_alloc_new V _⟩ (.inl ((Below.refl _ _).alloc (Nat.le_refl _) _))
    case refine_7 =>
      obtain ⟨⟨p, p1, p2, p3⟩, hv⟩ := hd
      obtain ⟨v', w', hr, h2, h3⟩ := run_append_emptyN (P := Try.prog) V W3.heap.size 39 39 35 i0 z0 9 112 Try.underlying39 hi hz0 hz1 hz3 hz2 (by decide) p p3 p1 A n c (L.flatMap lcs) (by rw [flat_len, HLn.out]) (fun e => by have := HR3.out.cap.2.2 e; rw [HLn.out] at this; exact this) (fun ad e => by subst e; exact (HR3.out.row.below HI.out).news) flat_one (by unfold maxLen; omega) hcap0
      have e0 : ρ (.tmp 19) = .slice (some ⟨p, 0, none⟩) 0 0 := by rw [hρ]; simp [pick, p2]
      have e2 : ρ (.tmp 23) = .slice A n c := by rw [hρ]; simp [pick, hv]
      rw [if_pos (by simp [Region.wanted])]
      unfold execOp
      simp only [resolve, invoke, builtin, Sem.run_bind, Sem.run_pure, Result.andThen_ok, List.map_toArray, List.map_cons, List.map_nil, e0, e2, hr, floatUpon]
      exact HRk.out _ _ h2 (.inl h3)
    case refine_9 =>
      go_simp
      exact HRk.out _ _ ⟨V.heap.size, HI.out.size, rfl, by rw [HXl.out]; exact heap_alloc_new V _⟩ (.inl ((Below.refl _ _).alloc (Nat.le_refl _) _))
    case refine_10 =>
      obtain ⟨hd1, ⟨p, p1, p2, p3⟩, -⟩ := hd
      obtain ⟨v', w', hr, h2, h3⟩ := run_growN (P := Try.prog) (W := V) (H := W3.heap.size) (sz := 9) (bytes := 112) (n := n) (m := 1) (c := 1) (A := some ⟨p, 0, none⟩) (us := lcs X) (t := 39) (ty := 39) Try.underlying39 hi hz0 hz1 hz3 hz2 (by decide) hd1 rfl (fun e => by cases e) (fun ad e j u hu => by cases e; rw [addr_head]; exact blk_cell p3 (by rw [List.getElem?_toArray]; exact hu)) (lcs_one X) (by unfold maxLen; omega) hcap HI.out.size
      have e0 : ρ (.tmp 24) = vs 6 := by rw [hρ]; simp [pick]
      have e2 : ρ (.tmp 26) = .slice (some ⟨p, 0, none⟩) 1 1 := by rw [hρ]; simp [pick, p2]
      rw [if_pos (by simp [Region.wanted])]
      unfold execOp
      simp only [resolve, invoke, builtin, Sem.run_bind, Sem.run_pure, Result.andThen_ok, List.map_toArray, List.map_cons, List.map_nil, e0, e2, hr, floatUpon]
      exact HRk.out _ _ h2 h3
    all_goals
      go_simp
      exact HRk.out _ _ (by simp [satK, TIs, letV]) (.inl (Below.refl _ _))
  case last =>
    intro vs V hI hg
    have g9 := hg 9 (by omega)
    have g11 := hg 11 (by omega)
    simp only [satK, List.getD_cons_succ, List.getD_cons_zero, TIs] at g9 g11
    simp only [List.take_succ_cons, List.take_zero, List.drop_succ_cons, List.drop_zero, putAll, Act.put, List.setIfInBounds_toArray, List.set_cons_succ, List.set_cons_zero, Nat.zero_add, Nat.reduceAdd]
    rw [g11]
    generalize vs 9 = v9 at g9 ⊢
    have hl1 : (L ++ [X]).length = n + 1 := by rw [List.length_append, HLn.out]; rfl
    have hXl : X.l = l0 := by rw [HXe.out]
    have hbV := HB3.out.trans (hI.mono HB3.out.size)
    have hxv : RV V P X := by rw [HXe.out]; exact HX.out.below hbV
    obtain ⟨A', c', rfl, hfin, hfar⟩ := HR3.out.put (L' := L ++ [X]) (v := v9) (W' := V) (H := W3.heap.size) (by rw [hl1, flat_snoc]; exact g9) hI HPl.out (fun y hy => by
      rcases List.mem_append.1 hy with hy | hy
      · exact (HR3.out.rv y hy).below hI
      · obtain rfl := List.mem_singleton.1 hy; exact hxv) (by rw [hl1]; omega) (fun y hy => by
      rcases List.mem_append.1 hy with hy | hy
      · exact HR3.out.ok y hy
      · obtain rfl := List.mem_singleton.1 hy; rw [hXl]; exact HOk.out)
    have kc := HR3.out.cel.below hI
    have q1 := kc.cell (i := 1) rfl
    rw [HLn.out] at q1
    have f1 := kc.free (i := 1)
    rw [hl1] at hfin hfar ⊢
    have HFin := Lib.hid (show RRep _ P b room (L.map (·.l) ++ [l0]) from ⟨_, _, _, hfin, by rw [List.map_append, List.map_cons, List.map_nil, hXl]⟩)
    have HFar := Lib.hid ((Far.of (F := fun k => k = b) HB3.out).trans hfar)
    clear hfin hfar hI hg g9 g11 hbV hxv kc hl1 hXl
    go_wp2_with fail
    go_ret
    rw [HSe.out]
    exact ⟨rfl, HFin.out, HFar.out⟩

end
end Nt
end Go.Proofs.Ytkpcfakfkcghdaa
