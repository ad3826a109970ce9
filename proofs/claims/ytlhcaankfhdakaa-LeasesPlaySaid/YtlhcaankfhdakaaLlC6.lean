/- The landed table of leases: Keep, Take; no condition but the range. -/
import Derived.Test.YtlhcaankfhdakaaLlC5
namespace Go.Proofs.Ytlhcaankfhdakaa
namespace Ll
open Go.RowKit Bk Ls

attribute [local go_sem ↓] Go.wp_at_zero Go.wp_at_succ
attribute [local go_sem] floatUpon pick

section
variable {W W' W1 : World} {base : Nat} {v : Value} {l : List Le}

set_option maxHeartbeats 4000000 in
theorem lkeep_any {r : Nat} {D : Tb} (h : LQ W base r v D) (ho : Ok D) (now n : Int) : Calls Try.prog 12 #[.pointer (some ⟨r, 0, none⟩), .int .i64 now, .int .i64 n] W fun e W' => e = .returned (.int .i64 (keepB D now n).2) ∧ LP W base r v (keepB D now n).1 W' := by
  obtain ⟨A, c, hv⟩ := h.row.form
  have HQ0 := Lib.hid h
  have HV := Lib.hid hv
  have HPa := Lib.hid (placeAt_any h ho now n)
  have HL := Lib.hid ho.len
  have HLo := Lib.hid (And.intro ho.lo ho.hi)
  by_cases hz : (checkB D now n).2 = 0
  · have hT : okT now := Classical.byContradiction fun q => by unfold checkB at hz; rw [if_pos q] at hz; cases hz
    have hk : keepB D now n = (⟨D.long, D.many, D.L.set (nu D.L n) ⟨(g D.L (nu D.L n)).n, (g D.L (nu D.L n)).t, max (g D.L (nu D.L n)).u (now + D.long)⟩⟩, 0) := if_neg (fun q => q hz)
    have HK := Lib.hid hk
    obtain ⟨t1, t2⟩ := hT
    clear h hv hk ho
    go_enter Try.func12, Try.ntmps12
    go_wp2_with fail
    refine HPa.out.mono ?_
    rintro e w2 ⟨⟨i, rfl, hi⟩, hb⟩
    obtain ⟨rfl, hl⟩ := hi hz
    rw [hz]
    have hq2 := HQ0.out.below hb
    have HB0 := Lib.hid hb
    have k0 := hq2.cel.cell (i := 2) rfl
    have k1 := hq2.cel.cell (i := 0) rfl
    rw [HV.out] at k0
    have hqr := hq2.row
    rw [HV.out] at hqr
    obtain ⟨p, rfl, _, _, e3⟩ := d_cells hqr hl
    have HP := Lib.hid (fun (V : World) (hV : LQ V base r v D) x => hV.turn HV.out hl x)
    obtain ⟨p', cap, rest, e1, hbp, hc, _⟩ := hq2.row.blk (by omega)
    rw [HV.out] at e1
    simp only [Value.slice.injEq, Option.some.injEq, Addr.mk.injEq, and_true, true_and] at e1
    obtain ⟨rfl, rfl⟩ := e1
    have HQ := Lib.hid hq2
    have p1 : ((nu D.L n : Nat) : Int) < (D.L.length : Int) := by omega
    have p2 : (0 : Int) ≤ ((nu D.L n : Nat) : Int) := by omega
    have hlo := HLo.out
    generalize nu D.L n = j at hl HK e3 HP p1 p2
    have HD := Lib.hid hl
    generalize (g D.L j).u = u at e3 HK
    generalize (g D.L j).n = xn at HP HK
    generalize (g D.L j).t = xt at HP HK
    have hw : IntKind.i64.wrap (now + D.long) = now + D.long := i64_wrap (by omega) (by omega)
    generalize hmx : max u (now + D.long) = mx at HK
    have HM : Hid ((if u < now + D.long then now + D.long else u) = mx) := Lib.hid (by rw [← hmx, Int.max_def]; split <;> split <;> omega)
    clear hmx hi hz hb hq2 hqr hc hbp hl HPa
    go_upto_region 4 with fail
    refine wp_region_said 20 [19, 20, 21, 22, 23, 24, 25, 26, 27, 28, 29, 30, 31, 32, 33, 34, 35, 36, 37, 38]
      [.is (.pointer (some ⟨r, 0, none⟩)), .is (.pointer (some ⟨r, 0, none⟩)), .is (.pointer (some ⟨r, 2, none⟩)), .is (.slice (some ⟨p, 0, none⟩) D.L.length c), .is (.int .i64 (j : Int)), .is (.pointer (some ⟨r, 0, none⟩)), .is (.pointer (some ⟨r, 0, none⟩)), .is (.pointer (some ⟨r, 2, none⟩)), .is (.slice (some ⟨p, 0, none⟩) D.L.length c), .is (.int .i64 (j : Int)), .is (.pointer (some ⟨p, j * 3, none⟩)), .is (.pointer (some ⟨p, j * 3 + 2, none⟩)), .is (.int .i64 u), .is (.int .i64 now), .is (.pointer (some ⟨r, 0, none⟩)), .is (.pointer (some ⟨r, 0, none⟩)), .is (.pointer (some ⟨r, 0, none⟩)), .is (.int .i64 D.long), .is (.int .i64 (now + D.long)), .is (.int .i64 mx)]
      (fun V => V.cell? ⟨r, 0, none⟩ = some (.int .i64 D.long) ∧ V.cell? ⟨r, 2, none⟩ = some (.slice (some ⟨p, 0, none⟩) D.L.length c) ∧ V.cell? ⟨p, j * 3 + 2, none⟩ = some (.int .i64 u) ∧ LQ V base r v D ∧ Below w2.heap.size w2 V) (by kernel_rfl) (by kernel_rfl) (by kernel_rfl) (by kernel_rfl) (by kernel_rfl)
      (fun X Y h hb => ⟨(cell_kept hb _ h.2.2.2.1.cel.lt).trans h.1, (cell_kept hb _ h.2.2.2.1.cel.lt).trans h.2.1, (cell_kept hb _ (h.2.2.2.1.row.lt (p := p) (by rw [HV.out]; rfl)).1).trans h.2.2.1, h.2.2.2.1.below hb, h.2.2.2.2.trans (hb.mono h.2.2.2.2.size)⟩) ⟨k1, k0, e3, HQ.out, Below.refl _ _⟩ ?steps ?last
    case steps =>
      simp only [List.take_succ_cons, List.take_zero]
      refine ⟨?_, ?_, ?_, ?_, ?_, ?_, ?_, ?_, ?_, ?_, ?_, ?_, ?_, ?_, ?_, ?_, ?_, ?_, ?_, ?_, trivial⟩
      all_goals
        intro vs V ρ hρ hc hf hg hI hH hd R' hR
        obtain ⟨q1, q2, q3, _, _⟩ := hI
        have HR := Lib.hid hR
        simp [depsOf, Region.binds, sayAt, Say.holds] at hd
        clear hR
        go_simp
        first
          | exact HR.out _ _ (by first | (simp [sayAt, Say.holds]; done) | (simp [sayAt, Say.holds]; exact HM.out)) (Below.refl _ _) (by simp [sayAt, Say.isBlk])
          | trace_state
    case last =>
      intro vs V hI hb hg hd
      have g3 := hg 3 (by omega)
      have g4 := hg 4 (by omega)
      have g19 := hg 19 (by omega)
      simp only [sayAt, Say.holds, List.getD_cons_succ, List.getD_cons_zero] at g3 g4 g19
      simp only [List.take_succ_cons, List.take_zero, List.drop_succ_cons, List.drop_zero, putAll, Act.put, List.setIfInBounds_toArray, List.set_cons_succ, List.set_cons_zero, Nat.zero_add, Nat.reduceAdd]
      rw [g3, g4, g19]
      obtain ⟨q1, q2, q3, hq, hbl⟩ := hI
      obtain ⟨p', cap, rest2, e1, _, hc2, _⟩ := hq.row.blk (by have := HD.out; omega)
      rw [HV.out] at e1
      simp only [Value.slice.injEq, Option.some.injEq, Addr.mk.injEq, and_true, true_and] at e1
      obtain ⟨rfl, rfl⟩ := e1
      have f4 := hc2.free (i := j * 3 + 2)
      obtain ⟨v', z1', z2'⟩ := HP.out V hq mx
      have HZ : Hid (LP W base r v ⟨D.long, D.many, D.L.set j ⟨xn, xt, mx⟩⟩ (V.setCell ⟨p, j * 3 + 2, none⟩ (.int .i64 mx))) := Lib.hid
        ⟨v', z1', (LM.of (HB0.out.trans (hbl.mono HB0.out.size))).trans z2'⟩
      clear g3 g4 g19 hg hb hd hq hc2 hbl z1' z2'
      go_wp2_with fail
      go_ret
      rw [HK.out]
      exact ⟨rfl, HZ.out⟩
  · have hk : keepB D now n = (D, (checkB D now n).2) := if_pos hz
    have HK := Lib.hid hk
    have q0 : ((checkB D now n).2 == 0) = false := by rw [beq_eq_false_iff_ne]; exact hz
    clear h hv hk ho
    go_enter Try.func12, Try.ntmps12
    go_wp2_with fail
    refine HPa.out.mono ?_
    rintro e w2 ⟨⟨i, rfl, _⟩, hb⟩
    have HZ := Lib.hid (show LP W base r v D w2 from ⟨v, HQ0.out.below hb, LM.of hb⟩)
    generalize (checkB D now n).2 = z2 at HK q0 ⊢
    clear hb hz HPa
    go_wp2_with fail
    go_ret
    rw [HK.out]
    exact ⟨rfl, HZ.out⟩

/-- cells are laid behind the row in block o where there is room, or no old block is written -/
def GrO (o : Option Nat) (T : TypeId) (pre us : List Value) (W W' : World) : Prop :=
  Below W.heap.size W W' ∨ ∃ (g : Nat) (cur : Array Value), o = some g ∧ W.heap[g]? = some (.cells cur T (0, 0)) ∧ pre.length + us.length ≤ cur.size ∧ cur.toList.take pre.length = pre ∧ W' = W.setRow g (pre ++ us ++ cur.toList.drop (pre.length + us.length)).toArray

theorem GrO.n {o : Option Nat} {T : TypeId} {pre us : List Value} (h : GrO o T pre us W W') : GrN 0 T pre us W W' := by
  rcases h with h | ⟨g, cur, _, h2⟩
  · exact .inl h
  · exact .inr ⟨g, cur, Nat.zero_le _, h2⟩

theorem GrO.grown {o : Option Nat} {T : TypeId} {pre us : List Value} (h : GrO o T pre us W W') : W.grownBy W' o := by
  rcases h with h | ⟨g, cur, rfl, _, _, _, rfl⟩
  · exact gb_below h
  · exact gb_row _ _ _

theorem run_growO {P : Program} {T : TypeId} {H bytes sz n m c : Nat} {pre us : List Value} {A : Option Addr} {t ty : TypeId} {i : TypeInfo} {z v : Value} (ht : P.underlying t = some (.slice T)) (hi : P.info? T = some i) (hz : i.zero = some z) (hsize : i.size = sz) (hby : i.bytes = bytes) (hzs : z.cells.size = sz) (h0 : 0 < sz)
    (hown : W.ownsRow H T sz v n pre) (hl : us.length = m * sz) (hA : A = none → m = 0 ∧ c = 0) (hnews : ∀ ad, A = some ad → ∀ j u, us[j]? = some u → W.cell? (ad.add j) = some u) (h1 : ∀ u ∈ us, u.oneCell' = true)
    (h63 : n + m ≤ maxLen) (hbytes : (n + m) * bytes ≤ 140737488355328) (hbase : H ≤ W.heap.size) :
    ∃ v' W', (Builtin.append_ #[t, t] ty #[v, .slice A m c]).run P W = .ok v' W' ∧ W'.ownsRow H T sz v' (n + m) (pre ++ us) ∧ GrO v.ownBlock T pre us W W' ∧ (v'.ownBlock = v.ownBlock ∨ ∃ q, v'.ownBlock = some q ∧ W.heap.size ≤ q) := by
  obtain ⟨v', w', hrun, h2, h3, h5⟩ := run_append_optN (P := P) W H t ty T i z sz bytes ht hi hz hsize hby hzs h0 v n pre hown A m c us hl hA hnews h1 h63 hbytes hbase
  obtain ⟨v2, w2, hrun2, _, hg⟩ := run_growN (P := P) ht hi hz hsize hby hzs h0 hown hl hA hnews h1 h63 hbytes hbase (ty := ty)
  rw [hrun] at hrun2
  simp only [Result.ok.injEq] at hrun2
  obtain ⟨rfl, rfl⟩ := hrun2
  refine ⟨v', w', hrun, h2, ?_, h5.imp id (fun e => ⟨_, e, Nat.le_refl _⟩)⟩
  rcases hg with hg | ⟨g, cur, _, hgc, hz1, hz2, hw⟩
  · exact .inl hg
  · by_cases e : v.ownBlock = some g
    · exact .inr ⟨g, cur, e, hgc, hz1, hz2, hw⟩
    · left
      exact ⟨h3.os, h3.tape, h3.output, h3.size, fun k hk => by
        by_cases ek : k = g
        · subst ek
          exact h3.block k hk (fun e2 => e e2.symm)
        · rw [hw]; exact setRow_other W g k _ ek⟩

/-- what Take answers and leaves -/
def TkP (W : World) (base r : Nat) (v : Value) (D : Tb) (now ts : Int) (e : Ending) (W' : World) : Prop := e = .returned (.tuple #[.int .i64 (takeB D now ts).2.1, .int .i64 (takeB D now ts).2.2]) ∧ LP W base r v (takeB D now ts).1 W'

set_option maxRecDepth 20000 in
set_option maxHeartbeats 8000000 in
theorem ltake_any {r : Nat} {D : Tb} (h : LQ W base r v D) (ho : Ok D) (hm : D.many ≤ 4611686018427387904) (now ts : Int) : Calls Try.prog 10 #[.pointer (some ⟨r, 0, none⟩), .int .i64 now, .int .i64 ts] W fun e W' => TkP W base r v D now ts e W' := by
  have HT := Lib.hid (ltick_any now W)
  have HS := Lib.hid (lstamp_any ts W)
  have HQ := Lib.hid h
  have HOk := Lib.hid ho
  by_cases h1 : okT now
  · rw [decide_eq_true h1] at HT
    by_cases h2 : okS ts
    · rw [decide_eq_true h2] at HS
      have HO := Lib.hid (over_any now W)
      have HF : Hid (takeB D now ts = if 1024 ≤ (lv D.L now).length then (D, 0, 2) else (⟨D.long, D.many + 1, lv D.L now ++ [⟨D.many + 1, ts, now + D.long⟩]⟩, D.many + 1, 0)) := Lib.hid (if_neg (fun q => q ⟨h1, h2⟩))
      obtain ⟨t1, t2⟩ := h1
      have hlo := ho.lo
      have hhi := ho.hi
      have hmn := ho.many
      have hl10 : (lv D.L now).length ≤ 1024 := Nat.le_trans (lv_len _ _) ho.len
      have HRw := Lib.hid h.row
      clear h ho h2
      go_enter Try.func10, Try.ntmps10
      go_wp2_with fail
      refine HT.out.mono ?_
      rintro e w2 ⟨rfl, e2⟩
      subst e2
      go_wp2_with fail
      refine HS.out.mono ?_
      rintro e w2 ⟨rfl, e2⟩
      subst e2
      go_wp2_with fail
      refine HO.out.mono ?_
      rintro e w3 ⟨rfl, hc3, hb3⟩
      generalize w2.heap.size = pc at hc3 ⊢
      have HC3 := Lib.hid hc3
      have HB3 := Lib.hid hb3
      have HU := Lib.hid (running_any (HQ.out.below hb3) HOk.out hc3)
      clear hc3 hb3 HO HS HT
      go_wp2_with fail
      refine HU.out.mono ?_
      rintro e w4 ⟨rfl, hb4⟩
      have HC4 := Lib.hid (HC3.out.below hb4)
      have HB4 := Lib.hid (HB3.out.trans (hb4.mono HB3.out.size))
      clear hb4 HU HC3 HB3
      by_cases hfull : 1024 ≤ (lv D.L now).length
      · have hz := HF.out
        rw [if_pos hfull] at hz
        have HZ := Lib.hid (show TkP w2 base r v D now ts (.returned (.tuple #[.int .i64 0, .int .i64 2])) w4 from by
          unfold TkP
          rw [hz]
          exact ⟨rfl, v, HQ.out.below HB4.out, LM.of HB4.out⟩)
        have p1 : (1024 : Int) ≤ ((lv D.L now).length : Int) := by omega
        generalize (lv D.L now).length = n at p1 ⊢
        clear hz hfull hl10
        go_wp2_with fail
        go_ret2
        exact HZ.out
      · have hz := HF.out
        rw [if_neg hfull] at hz
        have HZ := Lib.hid hz
        have p1 : ((lv D.L now).length : Int) < 1024 := by omega
        have hq4 := HQ.out.below HB4.out
        have HDf := Lib.hid (deleteF_any hq4.row HOk.out.len HC4.out)
        have HQ4 := Lib.hid hq4
        have k0 := hq4.cel.cell (i := 2) rfl
        obtain ⟨A4, c4, hv4⟩ := hq4.row.form
        rw [hv4] at k0 HDf
        have HV := Lib.hid hv4
        clear hz hq4 hv4
        obtain ⟨nl, hnl⟩ : ∃ nl, (lv D.L now).length = nl := ⟨_, rfl⟩
        rw [hnl] at p1 hl10 hfull ⊢
        have HNl := Lib.hid hnl
        clear hnl hfull
        go_wp2_with fail
        refine HDf.out.mono ?_
        rintro e w5 ⟨v5, rfl, hr5, he5, hg5⟩
        rw [← HV.out] at he5 hg5
        obtain ⟨hq6, hm6⟩ := HQ4.out.put2 hg5 hr5 he5
        have hc5 : Cel w5 r 51 [.int .i64 D.long, .int .i64 D.many, v] := (hg5.block r HQ4.out.cel.lt (fun e => HQ4.out.far e.symm)).trans HQ4.out.cel
        have s2 := hc5.cell (i := 2) rfl
        have s1 := hc5.cell (i := 1) rfl
        have sf2 := hc5.free (i := 2)
        have sf1 := hc5.free (i := 1)
        rw [HV.out] at s2
        obtain ⟨A5, c5, hv5⟩ := hr5.form
        rw [HNl.out] at hv5
        subst hv5
        obtain ⟨hq7, hm7⟩ := hq6.count (D.many + 1)
        have HM7 := Lib.hid (((LM.of HB4.out).trans hm6).trans hm7)
        have HR7 := Lib.hid hq7
        clear hr5 he5 hg5 hq6 hm6 hc5 hm7 HDf
        go_upto_region 8 with fail
        generalize ((w5.setCell ⟨r, 2, none⟩ (.slice A5 nl c5)).setCell ⟨r, 1, none⟩ (.int .i64 (D.many + 1))) = w1 at hq7 HM7 HR7 ⊢
        have HRw7 := Lib.hid hq7.row
        obtain ⟨i0, z0, hi, hz0, hz1, hz2, hz3⟩ := info_le
        clear s1 s2 sf1 sf2 k0 hq7
        obtain ⟨o, ho⟩ : ∃ o, o = (Value.slice A5 nl c5).ownBlock := ⟨_, rfl⟩
        have HOo := Lib.hid ho
        have hw : IntKind.i64.wrap (now + D.long) = now + D.long := i64_wrap (by omega) (by omega)
        obtain ⟨x, hx⟩ : ∃ x : Le, x = ⟨D.many + 1, ts, now + D.long⟩ := ⟨_, rfl⟩
        have HX := Lib.hid hx
        obtain ⟨pre, hpre⟩ : ∃ pre, pre = (lv D.L now).flatMap leC := ⟨_, rfl⟩
        have HPre := Lib.hid hpre
        have HRo : Hid (w1.ownsRow base 58 3 (.slice A5 nl c5) nl pre) := Lib.hid (by
          have := HRw7.out
          unfold DRow at this
          rw [hpre]
          simpa [HNl.out] using this)
        have HFar : Hid (o ≠ some r) := Lib.hid (by rw [ho]; exact HR7.out.far)
        clear ho hx hpre
        refine wp_region_saidK 21 [39, 40, 41, 42, 43, 44, 45, 46, 47, 48, 49, 50, 51, 52, 53, 54, 55, 56, 57, 58, 59]
          [TIs (.pointer (some ⟨r, 0, none⟩)), TIs (.pointer (some ⟨r, 0, none⟩)), TIs (.pointer (some ⟨r, 0, none⟩)), TIs (.pointer (some ⟨r, 2, none⟩)), TIs (.slice A5 nl c5), TIs (.pointer (some ⟨r, 0, none⟩)), TIs (.pointer (some ⟨r, 0, none⟩)), TIs (.pointer (some ⟨r, 1, none⟩)), TIs (.int .i64 (D.many + 1)), TIs (.int .i64 ts), TIs (.int .i64 now), TIs (.pointer (some ⟨r, 0, none⟩)), TIs (.pointer (some ⟨r, 0, none⟩)), TIs (.pointer (some ⟨r, 0, none⟩)), TIs (.int .i64 D.long), TIs (.int .i64 (now + D.long)), TIs (.agg #[.int .i64 (D.many + 1), .int .i64 ts, .int .i64 (now + D.long)]), (fun v V => ∃ p, v = .slice (some ⟨p, 0, none⟩) 1 1 ∧ V.heap[p]? = some (.cells #[.int .i64 (D.many + 1), .int .i64 ts, .int .i64 (now + D.long)] 58 (0, 0))), (fun v V => V.ownsRow base 58 3 v (nl + 1) (pre ++ [.int .i64 (D.many + 1), .int .i64 ts, .int .i64 (now + D.long)]) ∧ (v.ownBlock = o ∨ ∃ q, v.ownBlock = some q ∧ w1.heap.size ≤ q)), TIs (.pointer (some ⟨r, 0, none⟩)), TIs (.pointer (some ⟨r, 2, none⟩))]
          (fun V => Cel V r 51 [.int .i64 D.long, .int .i64 (D.many + 1), .slice A5 nl c5] ∧ V.ownsRow base 58 3 (.slice A5 nl c5) nl pre ∧ w1.grownBy V o) (GrO o 58 pre [.int .i64 (D.many + 1), .int .i64 ts, .int .i64 (now + D.long)]) (by kernel_rfl) (by kernel_rfl) (by kernel_rfl) (by kernel_rfl) (by kernel_rfl)
          (satK_of fun S hS v V V' h hk => by
            simp only [List.mem_cons, List.not_mem_nil, or_false] at hS
            rcases hS with rfl | rfl | rfl | rfl | rfl | rfl | rfl | rfl | rfl | rfl | rfl | rfl | rfl | rfl | rfl | rfl | rfl | rfl | rfl | rfl | rfl
            all_goals first | exact h | (obtain ⟨p, p1, p3⟩ := h; exact ⟨p, p1, GrN.one (us := [.int .i64 (D.many + 1), .int .i64 ts, .int .i64 (now + D.long)]) p3 hk.n⟩) | exact ⟨hk.n.row h.1 (.inr rfl), h.2⟩)
          (fun V V' h hk => ⟨(hk.grown.block r h.1.lt (fun e => HFar.out e.symm)).trans h.1, hk.n.row h.2.1 (.inl rfl), gb_trans h.2.2 hk.grown⟩) (fun V => .inl (Below.refl _ V).drew) ⟨HR7.out.cel, HRo.out, gb_below (Below.refl _ _)⟩ ?steps ?last
        case steps =>
          simp only [List.take_succ_cons, List.take_zero]
          refine ⟨?_, ?_, ?_, ?_, ?_, ?_, ?_, ?_, ?_, ?_, ?_, ?_, ?_, ?_, ?_, ?_, ?_, ?_, ?_, ?_, ?_, trivial⟩
          all_goals
            intro vs V ρ hρ hc hf hg hI hd R' hR
            have q0 := hI.1.cell (i := 0) rfl
            have q1 := hI.1.cell (i := 1) rfl
            have q2 := hI.1.cell (i := 2) rfl
            have HR := Lib.hid hR
            have HI := Lib.hid hI
            simp [depsOf, Region.binds, satK, TIs] at hd
            clear hR hI
          case refine_18 =>
            go_simp
            exact HR.out _ _ ⟨V.heap.size, rfl, heap_alloc_new V _⟩ (.inl ((Below.refl _ _).alloc (Nat.le_refl _) _))
          case refine_19 =>
            have hd1 : vs 4 = .slice A5 nl c5 := by first | exact hd.1 | exact hd.2 | exact hd.2.1 | exact hd.1.1
            have hd2 : ∃ p, vs 17 = .slice (some ⟨p, 0, none⟩) 1 1 ∧ V.heap[p]? = some (.cells #[.int .i64 (D.many + 1), .int .i64 ts, .int .i64 (now + D.long)] 58 (0, 0)) := by first | exact hd.2.1 | exact hd.2 | exact hd.1 | exact hd.2.2
            obtain ⟨p, p1, p3⟩ := hd2
            obtain ⟨v', w', hr, h2, h3, h4⟩ := run_growO (P := Try.prog) (W := V) (H := base) (sz := 3) (bytes := 24) (n := nl) (m := 1) (c := 1) (us := [.int .i64 (D.many + 1), .int .i64 ts, .int .i64 (now + D.long)]) (A := some ⟨p, 0, none⟩) (t := 49) (ty := 49) Try.underlying49 hi hz0 hz2 hz3 hz1 (by decide) HI.out.2.1 rfl (fun e => by cases e) (fun ad e j y hy => by cases e; rw [addr_head]; exact (show Cel V p 58 [.int .i64 (D.many + 1), .int .i64 ts, .int .i64 (now + D.long)] from p3).cell hy) (fun y hy => by simp at hy; rcases hy with rfl | rfl | rfl <;> rfl) (by unfold maxLen; omega) (by omega) (Nat.le_trans HR7.out.bs HI.out.2.2.size)
            have e0 : ρ (.tmp 43) = .slice A5 nl c5 := by rw [hρ]; simp [pick, hd1]
            have e2 : ρ (.tmp 56) = .slice (some ⟨p, 0, none⟩) 1 1 := by rw [hρ]; simp [pick, p1]
            rw [if_pos (by simp [Region.wanted])]
            unfold execOp
            simp only [resolve, invoke, builtin, Sem.run_bind, Sem.run_pure, Result.andThen_ok, List.map_toArray, List.map_cons, List.map_nil, e0, e2, hr, floatUpon]
            rw [← HOo.out] at h3 h4
            exact HR.out _ _ ⟨h2, h4.imp id (fun ⟨q, q1, q2⟩ => ⟨q, q1, Nat.le_trans HI.out.2.2.size q2⟩)⟩ h3
          all_goals
            go_simp
            first
              | exact HR.out _ _ (by simp [satK, TIs]) (.inl (Below.refl _ _))
              | trace_state
        case last =>
          intro vs V hI hg
          have g18 := hg 18 (by omega)
          have g20 := hg 20 (by omega)
          simp only [satK, List.getD_cons_succ, List.getD_cons_zero, TIs] at g18 g20
          simp only [List.take_succ_cons, List.take_zero, List.drop_succ_cons, List.drop_zero, putAll, Act.put, List.setIfInBounds_toArray, List.set_cons_succ, List.set_cons_zero, Nat.zero_add, Nat.reduceAdd]
          rw [g20]
          generalize vs 18 = v18 at g18 ⊢
          obtain ⟨hr18, hb18⟩ := g18
          have hr : DRow V base v18 (lv D.L now ++ [x]) := by
            unfold DRow
            rw [List.length_append, List.flatMap_append, HNl.out, ← HPre.out, HX.out]
            simpa [leC] using hr18
          obtain ⟨A18, c18, hv18⟩ := hr.form
          have hlen : (lv D.L now ++ [x]).length = nl + 1 := by rw [List.length_append, HNl.out]; rfl
          rw [hlen] at hv18
          subst hv18
          have hf18 : (Value.slice A18 (nl + 1) c18).ownBlock ≠ some r := fun e => hb18.elim (fun q => HFar.out (by rw [← q]; exact e)) (fun ⟨q, q1, q2⟩ => by rw [q1] at e; have := Option.some.inj e; have := HR7.out.cel.lt; omega)
          have gp := grow_put V r 2 (.slice A18 (nl + 1) c18)
          have hq9 : LQ (V.setCell ⟨r, 2, none⟩ (.slice A18 (nl + 1) c18)) base r (.slice A18 (nl + 1) c18) ⟨D.long, D.many + 1, lv D.L now ++ [x]⟩ :=
            ⟨hI.1.set (i := 2) (v := .slice A18 (nl + 1) c18), hr.same (fun p hp => gp.block p (hr.lt hp).1 (fun e => hf18 (by rw [hp, e]))), hf18, HR7.out.rb, Nat.le_trans HR7.out.bs (Nat.le_trans hI.2.2.size gp.size)⟩
          have hm9 : LM w1 (V.setCell ⟨r, 2, none⟩ (.slice A18 (nl + 1) c18)) r (.slice A5 nl c5) (.slice A18 (nl + 1) c18) :=
            ⟨gp.os.trans hI.2.2.os, gp.tape.trans hI.2.2.tape, gp.output.trans hI.2.2.output, Nat.le_trans hI.2.2.size gp.size, fun k hk hn hm => (gp.block k (Nat.lt_of_lt_of_le hk hI.2.2.size) (fun e => hn (Option.some.inj e))).trans (hI.2.2.block k hk (fun e => hm (by rw [← HOo.out, e]))), fun q hq => hb18.elim (fun e => .inl (by rw [← HOo.out, ← e]; exact hq)) (fun ⟨q', q1, q2⟩ => .inr (by rw [q1] at hq; have := Option.some.inj hq; omega))⟩
          have HZ9 := Lib.hid (show TkP w2 base r v D now ts (.returned (.tuple #[.int .i64 (D.many + 1), .int .i64 0])) (V.setCell ⟨r, 2, none⟩ (.slice A18 (nl + 1) c18)) from by
            unfold TkP
            rw [HZ.out, ← HX.out]
            exact ⟨rfl, _, hq9, HM7.out.trans hm9⟩)
          have s0 := hI.1.cell (i := 2) rfl
          have s1 := hI.1.cell (i := 1) rfl
          have sf := hI.1.free (i := 2)
          clear g20 hg hI hr hr18 hb18 hf18 gp hq9 hm9 hlen
          go_wp2_with fail
          go_ret2
          exact HZ9.out
    · rw [decide_eq_false h2] at HS
      have HZ := Lib.hid (show TkP W base r v D now ts (.returned (.tuple #[.int .i64 0, .int .i64 1])) W from by
        unfold TkP
        rw [show takeB D now ts = (D, 0, 1) from if_pos (fun q => h2 q.2)]
        exact ⟨rfl, v, h, LM.of (Below.refl _ _)⟩)
      clear h1 h2 h ho
      go_enter Try.func10, Try.ntmps10
      go_wp2_with fail
      refine HT.out.mono ?_
      rintro e w2 ⟨rfl, e2⟩
      subst e2
      go_wp2_with fail
      refine HS.out.mono ?_
      rintro e w2 ⟨rfl, e2⟩
      subst e2
      go_wp2_with fail
      go_ret2
      exact HZ.out
  · rw [decide_eq_false h1] at HT
    have HZ := Lib.hid (show TkP W base r v D now ts (.returned (.tuple #[.int .i64 0, .int .i64 1])) W from by
      unfold TkP
      rw [show takeB D now ts = (D, 0, 1) from if_pos (fun q => h1 q.1)]
      exact ⟨rfl, v, h, LM.of (Below.refl _ _)⟩)
    clear h1 h ho
    go_enter Try.func10, Try.ntmps10
    go_wp2_with fail
    refine HT.out.mono ?_
    rintro e w2 ⟨rfl, e2⟩
    subst e2
    go_wp2_with fail
    go_ret2
    exact HZ.out

end

end Ll
end Go.Proofs.Ytlhcaankfhdakaa
