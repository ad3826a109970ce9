/- The document's leases: Take; no condition but the range. -/
import Derived.Test.YtlhcaankfhdakaaLsEnd
import Derived.Test.YtlhcaankfhdakaaLlC6
namespace Go.Proofs.Ytlhcaankfhdakaa
namespace Ls
open Go.RowKit Bk
open Ll (GrO run_growO gb_trans gb_below gb_row)

attribute [local go_sem ↓] Go.wp_at_zero Go.wp_at_succ
attribute [local go_sem] floatUpon pick

section
variable {W W' : World} {base : Nat} {v : Value} {l : List Le}

/-- what Take answers and leaves -/
def TkP (W : World) (base r : Nat) (v : Value) (D : Tb) (now ts : Int) (e : Ending) (W' : World) : Prop := e = .returned (.tuple #[.int .i64 (takeB D now ts).2.1, .int .i64 (takeB D now ts).2.2]) ∧ RP W base r v (takeB D now ts).1 W'

set_option maxRecDepth 20000 in
set_option maxHeartbeats 16000000 in
theorem rtake_any {r : Nat} {D : Tb} (h : RQ W base r v D) (h10 : D.L.length ≤ 1024) (hlo : 0 ≤ D.long) (hhi : D.long ≤ 1048576) (h0 : 0 ≤ D.many) (hm : D.many ≤ 4611686018427387904) (now ts : Int) : Calls Try.prog 11 #[.pointer (some ⟨r, 0, none⟩), .int .i64 now, .int .i64 ts] W fun e W' => TkP W base r v D now ts e W' := by
  have HT := Lib.hid (tick_any now W)
  have HS := Lib.hid (stamp_any ts W)
  have HQ := Lib.hid h
  by_cases h1 : okT now
  · rw [decide_eq_true h1] at HT
    by_cases h2 : okS ts
    · rw [decide_eq_true h2] at HS
      have HF : Hid (takeB D now ts = if 1024 ≤ (lv D.L now).length then (D, 0, 2) else (⟨D.long, D.many + 1, lv D.L now ++ [⟨D.many + 1, ts, now + D.long⟩]⟩, D.many + 1, 0)) := Lib.hid (if_neg (fun q => q ⟨h1, h2⟩))
      obtain ⟨t1, t2⟩ := h1
      obtain ⟨A, c, hv⟩ := h.row.form
      have HV := Lib.hid hv
      have HRw := Lib.hid h.row
      obtain ⟨i0, z0, hi, hz0, hz1, hz2, hz3⟩ := info_le
      have p63 : (D.L.length : Int) ≤ 1024 := by omega
      clear h h2 hv
      go_enter Try.func11, Try.ntmps11
      go_wp2_with fail
      refine HT.out.mono ?_
      rintro e w2 ⟨rfl, e2⟩
      subst e2
      go_wp2_with fail
      refine HS.out.mono ?_
      rintro e w2 ⟨rfl, e2⟩
      subst e2
      clear HT HS
      go_wp2_with fail
      go_loopw [8, 9] (fun m i wr => ∃ (j : Nat) (A9 : Option Addr) (c9 : Nat), j ≤ D.L.length ∧ i = .int .i64 (j : Int) ∧ m = .slice A9 (lv (D.L.take j) now).length c9 ∧ Hid (Below w2.heap.size w2 wr) ∧ Hid (DRow wr w2.heap.size (.slice A9 (lv (D.L.take j) now).length c9) (lv (D.L.take j) now))) (fun _ i _ => D.L.length - (intOf i).toNat)
      case atStart => exact ⟨0, none, 0, by omega, rfl, rfl, Lib.hid (Below.refl _ _), Lib.hid ⟨rfl, .inl ⟨rfl, rfl⟩⟩⟩
      case round =>
        obtain ⟨j, A9, c9, hj, rfl, rfl, hb, hr9⟩ := hrel
        have hq := HQ.out.below hb.out
        have k0 := hq.cel.cell (i := 2) rfl
        rw [HV.out] at k0
        by_cases hlt : j < D.L.length
        · have hrw := st_keep HRw.out hb.out
          rw [HV.out] at hrw
          obtain ⟨p, rfl, x0, x1, x2⟩ := d_cells hrw hlt
          have p1 : (j : Int) < (D.L.length : Int) := by omega
          have hs := lv_snoc hlt now
          have hle : (lv (D.L.take j) now).length ≤ 1024 := by have := lv_len (D.L.take j) now; rw [List.length_take] at this; omega
          generalize g D.L j = x at hs x0 x1 x2
          have HB := hb
          by_cases hu : now ≤ x.u
          · rw [if_pos hu] at hs
            have HSn := Lib.hid hs
            have HR9 := hr9
            generalize hl9 : lv (D.L.take j) now = l9 at hle HSn HR9 ⊢
            clear hs hq hr9 hb hrw hl9
            go_wp2_with (at_builtin; refine wpList_append_own_at _ rfl _ _ 39 rfl w2.heap.size 60 i0 z0 3 24 Try.underlying39 hi hz0 hz2 hz3 hz1 (by decide) _ l9.length (l9.flatMap leC) rfl (st_keep HR9.out ((Below.refl _ wr).alloc (Nat.le_refl _) _)) ⟨wr.heap.size, 0, none⟩ 1 1 (leC x) rfl rfl ?c1 ?c2 ?c3 ?c4 ?c5 ?_)
            case c1 => exact fun k u hku => by rw [addr_head]; exact (show Cel _ wr.heap.size 60 (leC x) from (blk1 wr _).2).cell hku
            case c2 => exact fun y hy => le_one (l := [x]) y (by simpa using hy)
            case c3 => unfold maxLen; omega
            case c4 => omega
            case c5 => have := HB.out.size; simp; omega
            intro v' w' hrow hgr _ _
            have hb0 := (Below.refl wr.heap.size wr).alloc (Nat.le_refl _) (.cells #[.int .i64 x.n, .int .i64 x.t, .int .i64 x.u] 60)
            have HB9 : Hid (Below w2.heap.size w2 w') := Lib.hid (by
              have hb1 := HB.out.trans (hb0.mono HB.out.size)
              exact ⟨hgr.os.trans hb1.os, hgr.tape.trans hb1.tape, hgr.output.trans hb1.output, Nat.le_trans hb1.size hgr.size, fun k hk => (hgr.block k (Nat.lt_of_lt_of_le hk hb1.size) (fun e => by have := (HR9.out.lt e.symm).2; omega)).trans (hb1.block k hk)⟩)
            have hr2 : DRow w' w2.heap.size v' (l9 ++ [x]) := by
              unfold DRow
              rw [List.length_append, List.flatMap_append]
              simpa using hrow
            obtain ⟨A8, c8, rfl⟩ := hr2.form
            rw [← HSn.out] at hr2 ⊢
            have HR2 := Lib.hid hr2
            clear hrow hgr hb0 hr2 k0 x0 x1 x2 HR9
            go_wp2_with fail
            go_roundw
            case rel => exact ⟨j + 1, A8, c8, by omega, by go_num, rfl, HB9, HR2⟩
            case measure => simp [intOf]; omega
          · rw [if_neg hu] at hs
            have HSn := Lib.hid hs
            have HR9 := hr9
            have hu' : x.u < now := by omega
            generalize hl9 : lv (D.L.take j) now = l9 at hle HSn HR9 ⊢
            clear hs hq hr9 hb hrw hl9 hu
            go_wp2_with fail
            go_roundw
            case rel => exact ⟨j + 1, A9, c9, by omega, by go_num, by rw [HSn.out], HB, Lib.hid (by rw [HSn.out]; exact HR9.out)⟩
            case measure => simp [intOf]; omega
        · obtain rfl : j = D.L.length := by omega
          rw [List.take_length] at *
          have hle : (lv D.L now).length ≤ 1024 := Nat.le_trans (lv_len _ _) h10
          obtain ⟨nl, hnl⟩ : ∃ nl, (lv D.L now).length = nl := ⟨_, rfl⟩
          have HNl := Lib.hid hnl
          have HB := hb
          by_cases hfull : 1024 ≤ nl
          · have hz := HF.out
            rw [if_pos (by omega)] at hz
            have HZ := Lib.hid (show TkP w2 base r v D now ts (.returned (.tuple #[.int .i64 0, .int .i64 2])) wr from by
              unfold TkP
              rw [hz]
              exact ⟨rfl, v, hq, RM.of hb.out⟩)
            rw [hnl]
            have p1 : (1024 : Int) ≤ (nl : Int) := by omega
            clear hz hfull hle hnl hq hb hr9 HF
            go_wp2_with fail
            go_ret2
            exact HZ.out
          · have hz := HF.out
            rw [if_neg (by omega)] at hz
            have HZ := Lib.hid hz
            have HR9 := hr9
            rw [hnl] at HR9 ⊢
            have p1 : (nl : Int) < 1024 := by omega
            have k1 := hq.cel.cell (i := 1) rfl
            have kf := hq.cel.free (i := 1)
            have hc7 : Cel (wr.setCell ⟨r, 1, none⟩ (.int .i64 (D.many + 1))) r 41 [.int .i64 D.long, .int .i64 (D.many + 1), v] := hq.cel.set (i := 1) (v := .int .i64 (D.many + 1))
            have gp7 := grow_put wr r 1 (.int .i64 (D.many + 1))
            have hr7 : DRow (wr.setCell ⟨r, 1, none⟩ (.int .i64 (D.many + 1))) w2.heap.size (.slice A9 nl c9) (lv D.L now) := HR9.out.same (fun p hp => gp7.block p (HR9.out.lt hp).1 (fun e => by have h1 := (HR9.out.lt hp).2; have h2 := HQ.out.cel.lt; have h3 := Option.some.inj e; omega))
            have HC7 := Lib.hid hc7
            have HG7 := Lib.hid gp7
            rw [HV.out] at hc7
            clear hz hfull hnl hb hr9 hq HF
            go_upto_region 12 with fail
            generalize hW1 : wr.setCell ⟨r, 1, none⟩ (.int .i64 (D.many + 1)) = w1 at hc7 hr7 HC7 HG7 ⊢
            obtain ⟨o, ho⟩ : ∃ o, o = (Value.slice A9 nl c9).ownBlock := ⟨_, rfl⟩
            have HOo := Lib.hid ho
            have hw : IntKind.i64.wrap (now + D.long) = now + D.long := i64_wrap (by omega) (by omega)
            obtain ⟨x, hx⟩ : ∃ x : Le, x = ⟨D.many + 1, ts, now + D.long⟩ := ⟨_, rfl⟩
            have HX := Lib.hid hx
            obtain ⟨pre, hpre⟩ : ∃ pre, pre = (lv D.L now).flatMap leC := ⟨_, rfl⟩
            have HPre := Lib.hid hpre
            have HRo : Hid (w1.ownsRow w2.heap.size 60 3 (.slice A9 nl c9) nl pre) := Lib.hid (by
              have := hr7
              unfold DRow at this
              rw [hpre]
              simpa [HNl.out] using this)
            have HOg : Hid (∀ g, o = some g → w2.heap.size ≤ g) := Lib.hid (fun g hg => (hr7.lt (by rw [← ho]; exact hg)).2)
            have hsz1 : w2.heap.size ≤ w1.heap.size := Nat.le_trans HB.out.size HG7.out.size
            have HSz := Lib.hid hsz1
            have HCc := Lib.hid hc7
            clear ho hx hpre hr7 hc7 hW1 k0 k1 kf
            refine wp_region_saidK 18 [57, 58, 59, 60, 61, 62, 63, 64, 65, 66, 67, 68, 69, 70, 71, 72, 73, 74]
              [TIs (.pointer (some ⟨r, 0, none⟩)), TIs (.slice A9 nl c9), TIs (.pointer (some ⟨r, 0, none⟩)), TIs (.pointer (some ⟨r, 0, none⟩)), TIs (.pointer (some ⟨r, 1, none⟩)), TIs (.int .i64 (D.many + 1)), TIs (.int .i64 ts), TIs (.int .i64 now), TIs (.pointer (some ⟨r, 0, none⟩)), TIs (.pointer (some ⟨r, 0, none⟩)), TIs (.pointer (some ⟨r, 0, none⟩)), TIs (.int .i64 D.long), TIs (.int .i64 (now + D.long)), TIs (.agg #[.int .i64 (D.many + 1), .int .i64 ts, .int .i64 (now + D.long)]), (fun v V => ∃ p, v = .slice (some ⟨p, 0, none⟩) 1 1 ∧ V.heap[p]? = some (.cells #[.int .i64 (D.many + 1), .int .i64 ts, .int .i64 (now + D.long)] 60 (0, 0))), (fun v V => V.ownsRow w2.heap.size 60 3 v (nl + 1) (pre ++ [.int .i64 (D.many + 1), .int .i64 ts, .int .i64 (now + D.long)])), TIs (.pointer (some ⟨r, 0, none⟩)), TIs (.pointer (some ⟨r, 2, none⟩))]
              (fun V => Cel V r 41 [.int .i64 D.long, .int .i64 (D.many + 1), .slice A D.L.length c] ∧ V.ownsRow w2.heap.size 60 3 (.slice A9 nl c9) nl pre ∧ w1.grownBy V o) (GrO o 60 pre [.int .i64 (D.many + 1), .int .i64 ts, .int .i64 (now + D.long)]) (by kernel_rfl) (by kernel_rfl) (by kernel_rfl) (by kernel_rfl) (by kernel_rfl)
              (satK_of fun S hS v V V' h hk => by
                simp only [List.mem_cons, List.not_mem_nil, or_false] at hS
                rcases hS with rfl | rfl | rfl | rfl | rfl | rfl | rfl | rfl | rfl | rfl | rfl | rfl | rfl | rfl | rfl | rfl | rfl | rfl
                all_goals first | exact h | (obtain ⟨p, p1, p3⟩ := h; exact ⟨p, p1, GrN.one (us := [.int .i64 (D.many + 1), .int .i64 ts, .int .i64 (now + D.long)]) p3 hk.n⟩) | exact hk.n.row h (.inr rfl))
              (fun V V' h hk => ⟨(hk.grown.block r h.1.lt (fun e => by have h1 := HOg.out r e.symm; have h2 := HQ.out.cel.lt; omega)).trans h.1, hk.n.row h.2.1 (.inl rfl), gb_trans h.2.2 hk.grown⟩) (fun V => .inl (Below.refl _ V).drew) ⟨HCc.out, HRo.out, gb_below (Below.refl _ _)⟩ ?steps ?last
            case steps =>
              simp only [List.take_succ_cons, List.take_zero]
              refine ⟨?_, ?_, ?_, ?_, ?_, ?_, ?_, ?_, ?_, ?_, ?_, ?_, ?_, ?_, ?_, ?_, ?_, ?_, trivial⟩
              all_goals
                intro vs V ρ hρ hc hf hg hI hd R' hR
                have q0 := hI.1.cell (i := 0) rfl
                have q1 := hI.1.cell (i := 1) rfl
                have q2 := hI.1.cell (i := 2) rfl
                have HR := Lib.hid hR
                have HI := Lib.hid hI
                simp [depsOf, Region.binds, satK, TIs] at hd
                clear hR hI
              case refine_15 =>
                go_simp
                exact HR.out _ _ ⟨V.heap.size, rfl, heap_alloc_new V _⟩ (.inl ((Below.refl _ _).alloc (Nat.le_refl _) _))
              case refine_16 =>
                have hd1 : vs 1 = .slice A9 nl c9 := by first | exact hd.1 | exact hd.2 | exact hd.2.1 | exact hd.1.1
                have hd2 : ∃ p, vs 14 = .slice (some ⟨p, 0, none⟩) 1 1 ∧ V.heap[p]? = some (.cells #[.int .i64 (D.many + 1), .int .i64 ts, .int .i64 (now + D.long)] 60 (0, 0)) := by first | exact hd.2.1 | exact hd.2 | exact hd.1 | exact hd.2.2
                obtain ⟨p, p1, p3⟩ := hd2
                obtain ⟨v', w', hr, h2, h3, h4⟩ := run_growO (P := Try.prog) (W := V) (H := w2.heap.size) (sz := 3) (bytes := 24) (n := nl) (m := 1) (c := 1) (us := [.int .i64 (D.many + 1), .int .i64 ts, .int .i64 (now + D.long)]) (A := some ⟨p, 0, none⟩) (t := 39) (ty := 39) Try.underlying39 hi hz0 hz2 hz3 hz1 (by decide) HI.out.2.1 rfl (fun e => by cases e) (fun ad e j y hy => by cases e; rw [addr_head]; exact (show Cel V p 60 [.int .i64 (D.many + 1), .int .i64 ts, .int .i64 (now + D.long)] from p3).cell hy) (fun y hy => by simp at hy; rcases hy with rfl | rfl | rfl <;> rfl) (by unfold maxLen; omega) (by omega) (Nat.le_trans HSz.out HI.out.2.2.size)
                have e0 : ρ (.tmp 58) = .slice A9 nl c9 := by rw [hρ]; simp [pick, hd1]
                have e2 : ρ (.tmp 71) = .slice (some ⟨p, 0, none⟩) 1 1 := by rw [hρ]; simp [pick, p1]
                rw [if_pos (by simp [Region.wanted])]
                unfold execOp
                simp only [resolve, invoke, builtin, Sem.run_bind, Sem.run_pure, Result.andThen_ok, List.map_toArray, List.map_cons, List.map_nil, e0, e2, hr, floatUpon]
                rw [← HOo.out] at h3 h4
                exact HR.out _ _ h2 h3
              all_goals
                go_simp
                first
                  | exact HR.out _ _ (by simp [satK, TIs]) (.inl (Below.refl _ _))
                  | trace_state
            case last =>
              intro vs V hI hg
              have g15 := hg 15 (by omega)
              have g17 := hg 17 (by omega)
              simp only [satK, List.getD_cons_succ, List.getD_cons_zero, TIs] at g15 g17
              simp only [List.take_succ_cons, List.take_zero, List.drop_succ_cons, List.drop_zero, putAll, Act.put, List.setIfInBounds_toArray, List.set_cons_succ, List.set_cons_zero, Nat.zero_add, Nat.reduceAdd]
              rw [g17]
              generalize vs 15 = v18 at g15 ⊢
              have hr : DRow V w2.heap.size v18 (lv D.L now ++ [x]) := by
                unfold DRow
                rw [List.length_append, List.flatMap_append, HNl.out, ← HPre.out, HX.out]
                simpa [leC] using g15
              obtain ⟨A18, c18, hv18⟩ := hr.form
              have hlen : (lv D.L now ++ [x]).length = nl + 1 := by rw [List.length_append, HNl.out]; rfl
              rw [hlen] at hv18
              subst hv18
              have hf18 : (Value.slice A18 (nl + 1) c18).ownBlock ≠ some r := fun e => by have h1 := (hr.lt e).2; have h2 := HQ.out.cel.lt; omega
              have gp := grow_put V r 2 (.slice A18 (nl + 1) c18)
              have hszV : w2.heap.size ≤ V.heap.size := Nat.le_trans HSz.out hI.2.2.size
              have hq9 : RQ (V.setCell ⟨r, 2, none⟩ (.slice A18 (nl + 1) c18)) base r (.slice A18 (nl + 1) c18) ⟨D.long, D.many + 1, lv D.L now ++ [x]⟩ :=
                ⟨hI.1.set (i := 2) (v := .slice A18 (nl + 1) c18), (hr.mono HQ.out.bs).same (fun p hp => gp.block p (hr.lt hp).1 (fun e => hf18 (by rw [hp, e]))), hf18, HQ.out.rb, Nat.le_trans HQ.out.bs (Nat.le_trans hszV gp.size)⟩
              have hm9 : RM w2 (V.setCell ⟨r, 2, none⟩ (.slice A18 (nl + 1) c18)) r v (.slice A18 (nl + 1) c18) :=
                ⟨gp.os.trans (hI.2.2.os.trans (HG7.out.os.trans HB.out.os)), gp.tape.trans (hI.2.2.tape.trans (HG7.out.tape.trans HB.out.tape)), gp.output.trans (hI.2.2.output.trans (HG7.out.output.trans HB.out.output)), Nat.le_trans hszV gp.size,
                  fun k hk hn _ => (gp.block k (Nat.lt_of_lt_of_le hk hszV) (fun e => hn (Option.some.inj e))).trans ((hI.2.2.block k (Nat.lt_of_lt_of_le hk HSz.out) (fun e => by have := HOg.out k e.symm; omega)).trans ((HG7.out.block k (Nat.lt_of_lt_of_le hk HB.out.size) (fun e => hn (Option.some.inj e))).trans (HB.out.block k hk))), fun q hq => .inr (hr.lt hq).2⟩
              have HZ9 := Lib.hid (show TkP w2 base r v D now ts (.returned (.tuple #[.int .i64 (D.many + 1), .int .i64 0])) (V.setCell ⟨r, 2, none⟩ (.slice A18 (nl + 1) c18)) from by
                unfold TkP
                rw [HZ.out, ← HX.out]
                exact ⟨rfl, _, hq9, hm9⟩)
              have s0 := hI.1.cell (i := 2) rfl
              have s1 := hI.1.cell (i := 1) rfl
              have sf := hI.1.free (i := 2)
              clear g15 g17 hg hI hr hf18 gp hq9 hm9 hlen hszV
              go_wp2_with fail
              go_ret2
              exact HZ9.out
    · rw [decide_eq_false h2] at HS
      have HZ := Lib.hid (show TkP W base r v D now ts (.returned (.tuple #[.int .i64 0, .int .i64 1])) W from by
        unfold TkP
        rw [show takeB D now ts = (D, 0, 1) from if_pos (fun q => h2 q.2)]
        exact ⟨rfl, v, h, RM.of (Below.refl _ _)⟩)
      clear h1 h2 h
      go_enter Try.func11, Try.ntmps11
      go_wp2_with fail
      refine HT.out.mono ?_
      rintro e w2 ⟨rfl, e2⟩
      subst e2
      go_wp2_with fail
      refine HS.out.mono ?_
      rintro e w2 ⟨rfl, e2⟩
      subst e2
      go_wp2_with fail
      go_ret2
      exact HZ.out
  · rw [decide_eq_false h1] at HT
    have HZ := Lib.hid (show TkP W base r v D now ts (.returned (.tuple #[.int .i64 0, .int .i64 1])) W from by
      unfold TkP
      rw [show takeB D now ts = (D, 0, 1) from if_pos (fun q => h1 q.1)]
      exact ⟨rfl, v, h, RM.of (Below.refl _ _)⟩)
    clear h1 h
    go_enter Try.func11, Try.ntmps11
    go_wp2_with fail
    refine HT.out.mono ?_
    rintro e w2 ⟨rfl, e2⟩
    subst e2
    go_wp2_with fail
    go_ret2
    exact HZ.out

end

end Ls
end Go.Proofs.Ytlhcaankfhdakaa
