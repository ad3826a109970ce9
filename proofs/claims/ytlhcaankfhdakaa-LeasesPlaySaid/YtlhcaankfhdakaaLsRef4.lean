/- The document's leases: Keep; no condition but the ranges. -/
import Derived.Test.YtlhcaankfhdakaaLsRef3
namespace Go.Proofs.Ytlhcaankfhdakaa
namespace Ls
open Go.RowKit Bk

attribute [local go_sem ↓] Go.wp_at_zero Go.wp_at_succ
attribute [local go_sem] floatUpon pick

/-- a lease's end is written over -/
theorem fl_put : ∀ (l : List Le) (rest : List Value) (k : Nat) (u : Int), k < l.length →
    (l.flatMap leC ++ rest).set (k * 3 + 2) (.int .i64 u) = (l.set k ⟨(g l k).n, (g l k).t, u⟩).flatMap leC ++ rest
  | [], _, k, _, h => by simp at h
  | y :: r, rest, 0, u, _ => by simp [leC, g]
  | y :: r, rest, k + 1, u, h => by
    have ih := fl_put r rest k u (by simpa using h)
    have e : g (y :: r) (k + 1) = g r k := rfl
    rw [e, List.set_cons_succ, List.flatMap_cons, List.flatMap_cons, List.append_assoc, List.append_assoc, ← ih]
    rw [show (k + 1) * 3 + 2 = k * 3 + 2 + 3 by omega]
    simp [leC, List.set_cons_succ]

theorem grow_put (W : World) (b o : Nat) (v : Value) : W.grownBy (W.setCell ⟨b, o, none⟩ v) (some b) :=
  ⟨rfl, rfl, rfl, by simp [World.setCell], fun k _ hn => Below.heap_setCell _ ⟨b, o, none⟩ _ k (fun e => hn (by rw [e]))⟩

section
variable {W W' : World} {base : Nat} {v : Value} {l : List Le}

theorem RQ.turn {r p c k : Nat} {D : Tb} (h : RQ W base r v D) (hv : v = .slice (some ⟨p, 0, none⟩) D.L.length c) (hk : k < D.L.length) (x : Int) :
    RP W base r v ⟨D.long, D.many, D.L.set k ⟨(g D.L k).n, (g D.L k).t, x⟩⟩ (W.setCell ⟨p, k * 3 + 2, none⟩ (.int .i64 x)) := by
  obtain ⟨p', cap, rest, e1, hbp, hc, h1, h2, h3⟩ := h.row.blk (by omega)
  rw [hv] at e1
  simp only [Value.slice.injEq, Option.some.injEq, Addr.mk.injEq, and_true, true_and] at e1
  obtain ⟨rfl, rfl⟩ := e1
  subst hv
  have hr : p ≠ r := fun e => h.far (by rw [← e]; rfl)
  have g1 := grow_put W p (k * 3 + 2) (.int .i64 x)
  have hcel : Cel (W.setCell ⟨p, k * 3 + 2, none⟩ (.int .i64 x)) p 60 ((D.L.set k ⟨(g D.L k).n, (g D.L k).t, x⟩).flatMap leC ++ rest) := by
    rw [← fl_put _ _ _ _ hk]
    exact hc.set (i := k * 3 + 2) (v := .int .i64 x)
  refine ⟨_, ⟨?_, ?_, h.far, h.rb, Nat.le_trans h.bs g1.size⟩, g1.os, g1.tape, g1.output, g1.size, fun q hq hn hm => g1.block q hq (fun e => hm (by rw [Option.some.inj e]; rfl)), fun _ h => .inl h⟩
  · exact (g1.block r h.cel.lt (fun e => hr (Option.some.inj e).symm)).trans h.cel
  · have := DRow.of hbp hcel (by rw [List.length_set]; exact h1) h2 (by rw [List.length_set]; exact h3)
    rw [List.length_set] at this
    exact this

set_option maxHeartbeats 4000000 in
theorem rkeep_any {r : Nat} {D : Tb} (h : RQ W base r v D) (h10 : D.L.length ≤ 100000) (hlo : 0 ≤ D.long) (hhi : D.long ≤ 1048576) (now n : Int) : Calls Try.prog 13 #[.pointer (some ⟨r, 0, none⟩), .int .i64 now, .int .i64 n] W fun e W' => e = .returned (.int .i64 (keepB D now n).2) ∧ RP W base r v (keepB D now n).1 W' := by
  obtain ⟨A, c, hv⟩ := h.row.form
  have HQ := Lib.hid h
  have k0 := h.cel.cell (i := 2) rfl
  have k1 := h.cel.cell (i := 0) rfl
  rw [hv] at k0
  have HV := Lib.hid hv
  have HCk := Lib.hid (rcheck_any h h10 now n)
  have HA := Lib.hid (at_any h h10 n)
  have HL := Lib.hid h10
  by_cases hz : (checkB D now n).2 = 0
  · have hT : okT now := Classical.byContradiction fun q => by unfold checkB at hz; rw [if_pos q] at hz; cases hz
    have hl : nu D.L n < D.L.length := Classical.byContradiction fun q => by unfold checkB at hz; rw [if_neg (fun q => q hT), if_pos (by omega)] at hz; cases hz
    have ea : atB D n = (nu D.L n : Int) := if_pos hl
    have hk : keepB D now n = (⟨D.long, D.many, D.L.set (nu D.L n) ⟨(g D.L (nu D.L n)).n, (g D.L (nu D.L n)).t, max (g D.L (nu D.L n)).u (now + D.long)⟩⟩, 0) := if_neg (fun q => q hz)
    have HK := Lib.hid hk
    have hq := h.row
    rw [hv] at hq
    obtain ⟨p, rfl, _, _, e3⟩ := d_cells hq hl
    have HP := Lib.hid (fun (V : World) (hV : RQ V base r v D) x => hV.turn hv hl x)
    obtain ⟨p', cap, rest, e1, hbp, hc, _⟩ := h.row.blk (by omega)
    rw [hv] at e1
    simp only [Value.slice.injEq, Option.some.injEq, Addr.mk.injEq, and_true, true_and] at e1
    obtain ⟨rfl, rfl⟩ := e1
    have f3 := hc.free (i := nu D.L n * 3 + 2)
    rw [ea] at HA
    rw [hz] at HCk
    generalize (checkB D now n).1 = z1 at HCk
    obtain ⟨t1, t2⟩ := hT
    generalize nu D.L n = j at ea hl hk HK HA e3 f3 HP
    generalize (g D.L j).u = u at e3 HK hk
    generalize (g D.L j).n = xn at HP HK hk
    generalize (g D.L j).t = xt at HP HK hk
    have p1 : (j : Int) < (D.L.length : Int) := by omega
    have p2 : (0 : Int) ≤ (j : Int) := by omega
    clear h hv h10 hz ea hk hq hc hbp
    go_enter Try.func13, Try.ntmps13
    go_wp2_with fail
    refine HCk.out.mono ?_
    rintro e w2 ⟨rfl, e2⟩
    subst e2
    go_wp2_with fail
    refine HA.out.mono ?_
    rintro e w2 ⟨rfl, e2⟩
    subst e2
    have hw : IntKind.i64.wrap (now + D.long) = now + D.long := i64_wrap (by omega) (by omega)
    generalize hmx : max u (now + D.long) = mx at HK
    have HM : Hid ((if u < now + D.long then now + D.long else u) = mx) := Lib.hid (by rw [← hmx, Int.max_def]; split <;> split <;> omega)
    clear hmx
    go_upto_region 5 with fail
    refine wp_region_said 20 [23, 24, 25, 26, 27, 28, 29, 30, 31, 32, 33, 34, 35, 36, 37, 38, 39, 40, 41, 42]
      [.is (.pointer (some ⟨r, 0, none⟩)), .is (.pointer (some ⟨r, 0, none⟩)), .is (.pointer (some ⟨r, 2, none⟩)), .is (.slice (some ⟨p, 0, none⟩) D.L.length c), .is (.int .i64 (j : Int)), .is (.pointer (some ⟨r, 0, none⟩)), .is (.pointer (some ⟨r, 0, none⟩)), .is (.pointer (some ⟨r, 2, none⟩)), .is (.slice (some ⟨p, 0, none⟩) D.L.length c), .is (.int .i64 (j : Int)), .is (.pointer (some ⟨p, j * 3, none⟩)), .is (.pointer (some ⟨p, j * 3 + 2, none⟩)), .is (.int .i64 u), .is (.int .i64 now), .is (.pointer (some ⟨r, 0, none⟩)), .is (.pointer (some ⟨r, 0, none⟩)), .is (.pointer (some ⟨r, 0, none⟩)), .is (.int .i64 D.long), .is (.int .i64 (now + D.long)), .is (.int .i64 mx)]
      (fun V => V.cell? ⟨r, 0, none⟩ = some (.int .i64 D.long) ∧ V.cell? ⟨r, 2, none⟩ = some (.slice (some ⟨p, 0, none⟩) D.L.length c) ∧ V.cell? ⟨p, j * 3 + 2, none⟩ = some (.int .i64 u) ∧ RQ V base r v D ∧ Below w2.heap.size w2 V) (by kernel_rfl) (by kernel_rfl) (by kernel_rfl) (by kernel_rfl) (by kernel_rfl)
      (fun X Y h hb => ⟨(cell_kept hb _ h.2.2.2.1.cel.lt).trans h.1, (cell_kept hb _ h.2.2.2.1.cel.lt).trans h.2.1, (cell_kept hb _ (h.2.2.2.1.row.lt (p := p) (by rw [HV.out]; rfl)).1).trans h.2.2.1, h.2.2.2.1.below hb, h.2.2.2.2.trans (hb.mono h.2.2.2.2.size)⟩) ⟨k1, k0, e3, HQ.out, Below.refl _ _⟩ ?steps ?last
    case steps =>
      simp only [List.take_succ_cons, List.take_zero]
      refine ⟨?_, ?_, ?_, ?_, ?_, ?_, ?_, ?_, ?_, ?_, ?_, ?_, ?_, ?_, ?_, ?_, ?_, ?_, ?_, ?_, trivial⟩
      all_goals
        intro vs V ρ hρ hc hf hg hI hH hd R' hR
        obtain ⟨q1, q2, q3, _, _⟩ := hI
        have HR := Lib.hid hR
        simp [depsOf, Region.binds, sayAt, Say.holds] at hd
        clear hR
        go_simp
        first
          | exact HR.out _ _ (by first | (simp [sayAt, Say.holds]; done) | (simp [sayAt, Say.holds]; exact HM.out)) (Below.refl _ _) (by simp [sayAt, Say.isBlk])
          | trace_state
    case last =>
      intro vs V hI hb hg hd
      have g3 := hg 3 (by omega)
      have g4 := hg 4 (by omega)
      have g19 := hg 19 (by omega)
      simp only [sayAt, Say.holds, List.getD_cons_succ, List.getD_cons_zero] at g3 g4 g19
      simp only [List.take_succ_cons, List.take_zero, List.drop_succ_cons, List.drop_zero, putAll, Act.put, List.setIfInBounds_toArray, List.set_cons_succ, List.set_cons_zero, Nat.zero_add, Nat.reduceAdd]
      rw [g3, g4, g19]
      obtain ⟨q1, q2, q3, hq, hbl⟩ := hI
      obtain ⟨p', cap, rest2, e1, _, hc2, _⟩ := hq.row.blk (by omega)
      rw [HV.out] at e1
      simp only [Value.slice.injEq, Option.some.injEq, Addr.mk.injEq, and_true, true_and] at e1
      obtain ⟨rfl, rfl⟩ := e1
      have f4 := hc2.free (i := j * 3 + 2)
      obtain ⟨v', z1', z2'⟩ := HP.out V hq mx
      have HZ : Hid (RP w2 base r v ⟨D.long, D.many, D.L.set j ⟨xn, xt, mx⟩⟩ (V.setCell ⟨p, j * 3 + 2, none⟩ (.int .i64 mx))) := Lib.hid
        ⟨v', z1', z2'.os.trans hbl.os, z2'.tape.trans hbl.tape, z2'.output.trans hbl.output, Nat.le_trans hbl.size z2'.size, fun k hk hn hm => (z2'.block k (Nat.lt_of_lt_of_le hk hbl.size) hn hm).trans (hbl.block k hk), fun q hq' => (z2'.own q hq').imp id (fun hs => Nat.le_trans hbl.size hs)⟩
      clear g3 g4 g19 hg hb hd hq hc2 hbl z1' z2'
      go_wp2_with fail
      go_ret
      rw [HK.out]
      exact ⟨rfl, HZ.out⟩
  · have hk : keepB D now n = (D, (checkB D now n).2) := if_pos hz
    have HK := Lib.hid hk
    have q0 : ((checkB D now n).2 == 0) = false := by rw [beq_eq_false_iff_ne]; exact hz
    generalize (checkB D now n).2 = z2 at HCk HK q0
    generalize (checkB D now n).1 = z1 at HCk
    clear h hv h10 hz hk
    go_enter Try.func13, Try.ntmps13
    go_wp2_with fail
    refine HCk.out.mono ?_
    rintro e w2 ⟨rfl, e2⟩
    subst e2
    go_wp2_with fail
    go_ret
    rw [HK.out]
    exact ⟨rfl, v, HQ.out, RM.of (Below.refl _ _)⟩

end

end Ls
end Go.Proofs.Ytlhcaankfhdakaa
