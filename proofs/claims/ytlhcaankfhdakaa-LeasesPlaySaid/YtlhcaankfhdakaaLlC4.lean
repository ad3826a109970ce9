/- The landed table of leases: those that are over are deleted; no condition but the range. -/
import Derived.Test.YtlhcaankfhdakaaLlC3
namespace Go.Proofs.Ytlhcaankfhdakaa
namespace Ll
open Go.RowKit Bk Ls

attribute [local go_sem ↓] Go.wp_at_zero Go.wp_at_succ
attribute [local go_sem] floatUpon pick

theorem Try.zeroLl : ∀ W : World, (zeroValue 58).run Try.prog W = .ok (.agg #[.int .i64 0, .int .i64 0, .int .i64 0]) W := fun W => by kernel_rfl

theorem zero_mem (m : Nat) : ∀ v ∈ (Builtin.zeroCells (Value.agg #[.int .i64 0, .int .i64 0, .int .i64 0]).cells m).toList, v = .int .i64 0 := fun v hv => by
  simp only [Builtin.zeroCells, Value.cells, Array.toList_map, List.mem_map] at hv
  obtain ⟨i, _, rfl⟩ := hv
  have h3 : i % 3 = 0 ∨ i % 3 = 1 ∨ i % 3 = 2 := by omega
  rcases h3 with h | h | h <;> simp [h]

theorem zero_len (m : Nat) : (Builtin.zeroCells (Value.agg #[.int .i64 0, .int .i64 0, .int .i64 0]).cells m).toList.length = m * 3 := by
  rw [Array.length_toList, size_zeroCells]; rfl

/-- the cells of m empty leases -/
def zerosL (m : Nat) : List Value := List.replicate (m * 3) (.int .i64 0)

theorem zero_is (m : Nat) : (Builtin.zeroCells (Value.agg #[.int .i64 0, .int .i64 0, .int .i64 0]).cells m).toList = zerosL m := by
  unfold zerosL
  rw [List.eq_replicate_iff]
  exact ⟨zero_len m, zero_mem m⟩

/-- 'clear(s)' where s has leases, at least one -/
theorem run_clear_l (W : World) (ty : TypeId) (b o m c : Nat) (cur : Array Value) (hg : W.heap[b]? = some (.cells cur 58 (0, 0))) (ho : o + m * 3 ≤ cur.size) (hm : m ≠ 0) :
    (Builtin.clear_ #[49] ty #[.slice (some ⟨b, o, none⟩) m c]).run Try.prog W = .ok (.tuple #[]) (W.setRow b (cur.toList.take o ++ zerosL m ++ cur.toList.drop (o + m * 3)).toArray) := by
  have hz := Try.zeroLl
  have hl : (zerosL m).length = m * 3 := by simp [zerosL]
  have hst := run_storeCells_at Try.prog b o 58 (zerosL m) 0 cur W hg (by rw [hl]; omega) (by intro u hu; rw [(List.mem_replicate.1 hu).2]; rfl)
  simp only [Nat.add_zero, hl] at hst
  obtain ⟨k, rfl⟩ : ∃ k, m = k + 1 := ⟨m - 1, by omega⟩
  simp [Builtin.clear_, run_underlying Try.underlying49, hz, zero_is, hst]

/-- a lease is written over -/
theorem fl_set3 : ∀ (l : List Le) (rest : List Value) (k : Nat) (x : Le), k < l.length →
    (((l.flatMap leC ++ rest).set (k * 3) (.int .i64 x.n)).set (k * 3 + 1) (.int .i64 x.t)).set (k * 3 + 2) (.int .i64 x.u) = (l.set k x).flatMap leC ++ rest
  | [], _, k, _, h => by simp at h
  | y :: r, rest, 0, x, _ => by simp [leC]
  | y :: r, rest, k + 1, x, h => by
    have ih := fl_set3 r rest k x (by simpa using h)
    rw [List.set_cons_succ, List.flatMap_cons, List.flatMap_cons, List.append_assoc, List.append_assoc, ← ih]
    rw [show (k + 1) * 3 = k * 3 + 3 by omega, show k * 3 + 3 + 1 = k * 3 + 1 + 3 by omega, show k * 3 + 3 + 2 = k * 3 + 2 + 3 by omega]
    simp [leC, List.set_cons_succ]

theorem gb_trans {A B C : World} {p : Option Nat} (h : A.grownBy B p) (k : B.grownBy C p) : A.grownBy C p :=
  ⟨k.os.trans h.os, k.tape.trans h.tape, k.output.trans h.output, Nat.le_trans h.size k.size, fun i hi hn => (k.block i (Nat.lt_of_lt_of_le hi h.size) hn).trans (h.block i hi hn)⟩

theorem gb_below {A B : World} {p : Option Nat} (h : Below A.heap.size A B) : A.grownBy B p := ⟨h.os, h.tape, h.output, h.size, fun i hi _ => h.block i hi⟩

theorem gb_row (W : World) (b : Nat) (cs : Array Value) : W.grownBy (W.setRow b cs) (some b) := by
  exact ⟨by rfl, by rfl, by rfl, by simp, fun k _ hn => setRow_other W b k _ (fun e => hn (by rw [e]))⟩

/-- a row in the midst of a deletion: the first j were gone through -/
structure Dl (L : List Le) (now : Int) (j : Nat) (C : List Le) : Prop where
  len : C.length = L.length
  pre : C.take (lv (L.take j) now).length = lv (L.take j) now
  post : ∀ k, j ≤ k → C[k]? = L[k]?

theorem Dl.start {L : List Le} {now : Int} {j : Nat} (hj : j < L.length) (hu : (g L j).u < now) (hno : ∀ k, k < j → ¬ (g L k).u < now) : Dl L now (j + 1) L ∧ (lv (L.take (j + 1)) now).length = j := by
  have e : lv (L.take (j + 1)) now = L.take j := by rw [lv_snoc hj, if_neg (by omega), lv_take (by omega) hno]
  have e2 : (L.take j).length = j := by rw [List.length_take]; omega
  exact ⟨⟨rfl, by rw [e, e2], fun _ _ => rfl⟩, by rw [e, e2]⟩

theorem lv_le (L : List Le) (now : Int) (j : Nat) : (lv (L.take j) now).length ≤ j := by
  have := lv_len (L.take j) now
  rw [List.length_take] at this
  omega

theorem Dl.at_j {L C : List Le} {now : Int} {j : Nat} (h : Dl L now j C) (hj : j < L.length) : g C j = g L j := by
  have e := h.post j (Nat.le_refl _)
  rw [at_g hj] at e
  exact g_at e

theorem Dl.over {L C : List Le} {now : Int} {j : Nat} (h : Dl L now j C) (hj : j < L.length) (hu : (g L j).u < now) : Dl L now (j + 1) C ∧ (lv (L.take (j + 1)) now).length = (lv (L.take j) now).length := by
  have e : lv (L.take (j + 1)) now = lv (L.take j) now := by rw [lv_snoc hj, if_neg (by omega)]
  exact ⟨⟨h.len, by rw [e]; exact h.pre, fun k hk => h.post k (by omega)⟩, by rw [e]⟩

theorem Dl.live {L C : List Le} {now : Int} {j : Nat} (h : Dl L now j C) (hj : j < L.length) (hu : ¬ (g L j).u < now) : Dl L now (j + 1) (C.set (lv (L.take j) now).length (g L j)) ∧ (lv (L.take (j + 1)) now).length = (lv (L.take j) now).length + 1 := by
  have e : lv (L.take (j + 1)) now = lv (L.take j) now ++ [g L j] := by rw [lv_snoc hj, if_pos (by omega)]
  have hi := lv_le L now j
  have e2 : (lv (L.take (j + 1)) now).length = (lv (L.take j) now).length + 1 := by rw [e, List.length_append]; rfl
  refine ⟨⟨by rw [List.length_set]; exact h.len, ?_, fun k hk => ?_⟩, e2⟩
  · rw [e2, e, List.take_set]
    rw [List.take_succ_eq_append_getElem (by rw [h.len]; omega), h.pre]
    rw [List.set_append_right _ _ (Nat.le_refl _), Nat.sub_self]
    rfl
  · rw [List.getElem?_set_ne (by omega)]
    exact h.post k (by omega)

section
variable {W W' : World} {base : Nat} {v : Value} {l : List Le}

/-- what a deletion leaves -/
def DfP (W : World) (base : Nat) (v : Value) (L : List Le) (now : Int) (e : Ending) (W' : World) : Prop := ∃ v', e = .returned v' ∧ DRow W' base v' (lv L now) ∧ v'.ownBlock = v.ownBlock ∧ W.grownBy W' v.ownBlock

set_option maxRecDepth 20000 in
set_option maxHeartbeats 8000000 in
theorem deleteF_any {L : List Le} {pc : Nat} (h : DRow W base v L) (h10 : L.length ≤ 1024) {now : Int} (hc : Cel W pc 3 [.int .i64 now]) : Calls Try.prog 25 #[v, overF pc] W fun e W' => DfP W base v L now e W' := by
  have hlen : (L.length : Int) ≤ 1024 := by omega
  have HC3 := Lib.hid hc
  have HR := Lib.hid h
  obtain ⟨A, c, rfl⟩ := h.form
  have HF := Lib.hid (indexF_any h h10 hc)
  clear h hc
  unfold overF at *
  go_enter Try.func25, Try.ntmps25
  go_wp2_with fail
  refine HF.out.mono ?_
  rintro e w2 ⟨hF, hb⟩
  have HB := Lib.hid hb
  clear HF
  rcases hF with ⟨j0, rfl, hj0, hu0, hno0⟩ | ⟨rfl, hall⟩
  · obtain ⟨p, cap, rest, hv, hbp, hcel, h1, h2, h3⟩ := HR.out.blk (by omega)
    simp only [Value.slice.injEq, true_and] at hv
    obtain ⟨rfl, rfl⟩ := hv
    have HBl := Lib.hid (And.intro hbp (And.intro h1 (And.intro h2 h3)))
    have HS := Lib.hid (Dl.start hj0 hu0 hno0)
    have HCel := Lib.hid (hcel.below hb)
    have HC4 := Lib.hid (HC3.out.below hb)
    have hne : ¬ p = pc := fun e => by
      have k1 : W.heap[p]? = _ := hcel
      have k2 : W.heap[pc]? = _ := HC3.out
      rw [← e, k1] at k2
      simp only [Option.some.injEq, Obj.cells.injEq] at k2
      exact absurd k2.2.1 (by decide)
    have HNe := Lib.hid hne
    have pj : (j0 : Int) < (L.length : Int) := by omega
    have pj0 : ((j0 : Int) == -1) = false := by rw [beq_eq_false_iff_ne]; omega
    have pc1 : (L.length : Int) ≤ (c : Int) := by omega
    have pc2 : (c : Int) ≤ 9223372036854775807 := by unfold maxLen at h2; omega
    clear hb hcel hbp h1 h2 h3 hu0 hno0 hne
    go_wp2_with fail
    go_loopw [5, 6] (fun iv jv wr => ∃ (j : Nat) (C : List Le), j ≤ L.length ∧ jv = .int .i64 (j : Int) ∧ iv = .int .i64 ((lv (L.take j) now).length : Int) ∧ (lv (L.take j) now).length < j ∧ Hid (Dl L now j C) ∧ Hid (Cel wr p 58 (C.flatMap leC ++ rest)) ∧ Hid (W.grownBy wr (some p)) ∧ Hid (Cel wr pc 3 [.int .i64 now])) (fun _ jv _ => L.length - (intOf jv).toNat)
    case atStart => exact ⟨j0 + 1, L, by omega, by go_num, by rw [HS.out.2], by rw [HS.out.2]; omega, Lib.hid HS.out.1, HCel, Lib.hid (gb_below HB.out), HC4⟩
    case round =>
      obtain ⟨j, C, hj, rfl, rfl, hij, hd, hcel, hgr, hpc⟩ := hrel
      clear HS HCel HC4 HC3 HR HB
      by_cases hlt : j < L.length
      · have hdj := hd.out.at_j hlt
        have hCl := hd.out.len
        have x0 := dcell_of hcel.out (k := j) (by omega) (j := 0) (by omega) rfl
        have x1 := dcell_of hcel.out (k := j) (by omega) (j := 1) (by omega) rfl
        have x2 := dcell_of hcel.out (k := j) (by omega) (j := 2) (by omega) rfl
        rw [hdj] at x0 x1 x2
        simp only [Nat.add_zero] at x0
        have p1 : (j : Int) < (L.length : Int) := by omega
        have hov := Lib.hid (fun (q : (g L j).u < now) => hd.out.over hlt q)
        have hli := Lib.hid (fun (q : ¬ (g L j).u < now) => hd.out.live hlt q)
        generalize hX : g L j = x at x0 x1 x2 hov hli
        generalize hI : (lv (L.take j) now).length = i at hov hli hij ⊢
        have p2 : (i : Int) < (j : Int) := by omega
        have HD := Lib.hid (And.intro hCl hij)
        have hB0 : Below wr.heap.size wr (wr.alloc (.cells #[.int .i64 x.n, .int .i64 x.t, .int .i64 x.u] 58)) := (Below.refl _ wr).alloc (Nat.le_refl _) _
        have hR0 : Cel (wr.alloc (.cells #[.int .i64 x.n, .int .i64 x.t, .int .i64 x.u] 58)) wr.heap.size 58 [.int .i64 x.n, .int .i64 x.t, .int .i64 x.u] := (blk1 wr _).2
        have HI := Lib.hid (over_in (hpc.out.below hB0) x)
        have HCel := Lib.hid (hcel.out.below hB0)
        have HPc := Lib.hid (hpc.out.below hB0)
        have HG := Lib.hid (gb_trans hgr.out (gb_below (p := some p) hB0))
        go_upto_region 8 with fail
        have q0 := hR0.cell (i := 0) rfl
        have q1 := hR0.cell (i := 1) rfl
        have q2 := hR0.cell (i := 2) rfl
        have HR0 := Lib.hid hR0
        generalize hG : wr.heap.size = G at *
        generalize wr.alloc (.cells #[.int .i64 x.n, .int .i64 x.t, .int .i64 x.u] 58) = W1 at *
        clear hR0 hB0 x0 x1 x2 hG hX hI hd hcel hgr hpc hdj hCl hij
        by_cases hu : x.u < now
        · rw [decide_eq_true hu] at HI
          have HE := Lib.hid (hov.out hu)
          clear hov hli hu
          go_wp2_with fail
          refine HI.out.mono ?_
          rintro e w5 ⟨rfl, hb5⟩
          have HCel5 := Lib.hid (HCel.out.below hb5)
          have HPc5 := Lib.hid (HPc.out.below hb5)
          have HG5 := Lib.hid (gb_trans HG.out (gb_below (p := some p) hb5))
          clear hb5 HI q0 q1 q2 HCel HPc HG HR0
          go_wp2_with fail
          go_roundw
          case rel => exact ⟨j + 1, C, by omega, by go_num, by rw [HE.out.2], by rw [HE.out.2]; have := HD.out.2; omega, Lib.hid HE.out.1, HCel5, HG5, HPc5⟩
          case measure => simp [intOf]; omega
        · rw [decide_eq_false hu] at HI
          have HE := Lib.hid (hli.out hu)
          clear hov hli hu
          go_wp2_with fail
          refine HI.out.mono ?_
          rintro e w5 ⟨rfl, hb5⟩
          have HCel5 := Lib.hid (HCel.out.below hb5)
          have HPc5 := HPc.out.below hb5
          have HG5 := Lib.hid (gb_trans HG.out (gb_below (p := some p) hb5))
          have q0 := (HR0.out.below hb5).cell (i := 0) rfl
          have q1 := (HR0.out.below hb5).cell (i := 1) rfl
          have q2 := (HR0.out.below hb5).cell (i := 2) rfl
          have hC' := ((HCel5.out.set (i := i * 3) (v := .int .i64 x.n)).set (i := i * 3 + 1) (v := .int .i64 x.t)).set (i := i * 3 + 2) (v := .int .i64 x.u)
          rw [fl_set3 C rest i x (by rw [HD.out.1]; have := HD.out.2; omega)] at hC'
          have HC' := Lib.hid hC'
          have HPc' := Lib.hid (((HPc5.far (g' := p) (i := i * 3) (v := .int .i64 x.n) (Ne.symm HNe.out)).far (g' := p) (i := i * 3 + 1) (v := .int .i64 x.t) (Ne.symm HNe.out)).far (g' := p) (i := i * 3 + 2) (v := .int .i64 x.u) (Ne.symm HNe.out))
          have HG' := Lib.hid (gb_trans (gb_trans (gb_trans HG5.out (grow_put _ p (i * 3) (.int .i64 x.n))) (grow_put _ p (i * 3 + 1) (.int .i64 x.t))) (grow_put _ p (i * 3 + 2) (.int .i64 x.u)))
          have c0 := fun k z (hz : (C.flatMap leC ++ rest)[k]? = some z) => HCel5.out.cell hz
          have y0 := dcell_of HCel5.out (k := i) (by rw [HD.out.1]; have := HD.out.2; omega) (j := 0) (by omega) rfl
          have y1 := dcell_of HCel5.out (k := i) (by rw [HD.out.1]; have := HD.out.2; omega) (j := 1) (by omega) rfl
          have y2 := dcell_of HCel5.out (k := i) (by rw [HD.out.1]; have := HD.out.2; omega) (j := 2) (by omega) rfl
          simp only [Nat.add_zero] at y0
          have f0 := fun k => HCel5.out.free (i := k)
          clear hb5 HI HCel HPc HG HR0 HPc5 hC' c0
          go_wp2_with fail
          go_roundw
          case rel => exact ⟨j + 1, C.set i x, by omega, by go_num, by rw [HE.out.2]; go_num, by rw [HE.out.2]; have := HD.out.2; omega, Lib.hid HE.out.1, HC', HG', HPc'⟩
          case measure => simp [intOf]; omega
      · obtain rfl : j = L.length := by omega
        rw [List.take_length] at *
        have hd' := hd.out
        have hpre := hd'.pre
        rw [List.take_length] at hpre
        have hCl := hd'.len
        generalize hI : (lv L now).length = i at *
        have hsize : ∀ V : World, (sizeOf (Try.prog.elem 49)).run Try.prog V = .ok 3 V := fun V => by kernel_rfl
        have hbl := HBl.out
        have f1 : ∀ V : World, (Instr.slice 49 (.slice (some ⟨p, 0, none⟩) L.length c) (some (.int .i64 (i : Int))) none none).run Try.prog V = .ok (.slice (some ⟨p, i * 3, none⟩) (L.length - i) (c - i)) V := fun V => by
          rw [run_slice_l (P := Try.prog) V 49 (some ⟨p, 0, none⟩) L.length c Try.underlying49 .i64 (i : Int) (by omega) (by omega), hsize]
          have h1 : ¬ c = i := by omega
          have ea : (⟨p, 0, none⟩ : Addr).add (i * 3) = ⟨p, i * 3, none⟩ := by unfold Addr.add; split <;> simp_all
          simp [sliced, h1, ea]
        have f2 : ∀ V : World, (Instr.slice 49 (.slice (some ⟨p, 0, none⟩) L.length c) none (some (.int .i64 (i : Int))) none).run Try.prog V = .ok (.slice (some ⟨p, 0, none⟩) i c) V := fun V => by
          rw [run_slice_h (P := Try.prog) V 49 (some ⟨p, 0, none⟩) L.length c Try.underlying49 .i64 (i : Int) (by omega) (by omega), hsize]
          simp [sliced, show (⟨p, 0, none⟩ : Addr).add 0 = ⟨p, 0, none⟩ from rfl]
        have f3 : ∀ ty, (Builtin.clear_ #[49] ty #[.slice (some ⟨p, i * 3, none⟩) (L.length - i) (c - i)]).run Try.prog wr = .ok (.tuple #[]) (wr.setRow p ((lv L now).flatMap leC ++ (zerosL (L.length - i) ++ rest)).toArray) := fun ty => by
          rw [run_clear_l wr ty p (i * 3) (L.length - i) (c - i) _ hcel.out (by rw [List.size_toArray, List.length_append, fl_len, hCl]; omega) (by omega)]
          congr 3
          have e1 : ((C.flatMap leC ++ rest)).take (i * 3) = (lv L now).flatMap leC := by
            rw [← hpre, List.take_append_of_le_length (by rw [fl_len]; omega)]
            have e : C.flatMap leC = (C.take i).flatMap leC ++ (C.drop i).flatMap leC := by rw [← List.flatMap_append, List.take_append_drop]
            have hn : ((C.take i).flatMap leC).length = i * 3 := by rw [fl_len, List.length_take, Nat.min_eq_left (by omega)]
            rw [e, ← hn, List.take_left]
          have e2 : (C.flatMap leC ++ rest).drop (i * 3 + (L.length - i) * 3) = rest := by
            rw [List.drop_append, List.drop_of_length_le (by rw [fl_len, hCl]; omega), List.nil_append, fl_len, hCl, show i * 3 + (L.length - i) * 3 - L.length * 3 = 0 by omega, List.drop_zero]
          rw [List.toList_toArray, e1, e2, List.append_assoc]
        have HD := Lib.hid (show DfP W base (.slice (some ⟨p, 0, none⟩) L.length c) L now (.returned (.slice (some ⟨p, 0, none⟩) i c)) (wr.setRow p ((lv L now).flatMap leC ++ (zerosL (L.length - i) ++ rest)).toArray) from by
          refine ⟨_, rfl, ?_, rfl, gb_trans hgr.out (gb_row _ _ _)⟩
          have := DRow.of (W := wr.setRow p ((lv L now).flatMap leC ++ (zerosL (L.length - i) ++ rest)).toArray) (l := lv L now) (rest := zerosL (L.length - i) ++ rest) (cap := c) hbl.1 (setRow_heap wr p _ _ _ _ hcel.out) (by omega) hbl.2.2.1 (by rw [List.length_append]; simp only [zerosL, List.length_replicate]; omega)
          rw [hI] at this
          exact this)
        have p2 : (i : Int) < (L.length : Int) := by omega
        clear hd hd' hpre hCl hI hbl hsize hcel hgr hpc HBl hij
        go_upto_region 12 with fail
        go_wp2_with fail
        go_ret
        exact HD.out
  · have HF : Hid (DfP W base (.slice A L.length c) L now (.returned (.slice A L.length c)) w2) := Lib.hid ⟨_, rfl, by rw [hall]; exact st_keep HR.out hb, rfl, gb_below hb⟩
    clear hb hall HB HC3 HR
    go_wp2_with fail
    go_ret
    exact HF.out

end

end Ll
end Go.Proofs.Ytlhcaankfhdakaa
