/- The landed table of leases: Low, how many run, the first that is over; no condition but the ranges. -/
import Derived.Test.YtlhcaankfhdakaaLlC2
import Derived.Test.YtlhcaankfhdakaaLlHoldM
namespace Go.Proofs.Ytlhcaankfhdakaa
namespace Ll
open Go.RowKit Bk Ls

attribute [local go_sem ↓] Go.wp_at_zero Go.wp_at_succ
attribute [local go_sem] floatUpon pick

section
variable {W W' : World} {base : Nat} {v : Value} {l : List Le}

set_option maxRecDepth 20000 in
set_option maxHeartbeats 4000000 in
theorem llow_any {r : Nat} {D : Tb} (h : LQ W base r v D) (ho : Ok D) (now last : Int) : Calls Try.prog 18 #[.pointer (some ⟨r, 0, none⟩), .int .i64 now, .int .i64 last] W fun e W' => e = .returned (.tuple #[.int .i64 (lowB D now last).1, .int .i64 (lowB D now last).2]) ∧ Below W.heap.size W W' := by
  have HT := Lib.hid (ltick_any now W)
  have HS := Lib.hid (lstamp_any last W)
  have HQ := Lib.hid h
  have hlen : (D.L.length : Int) ≤ 1024 := by have := ho.len; omega
  clear h ho
  by_cases h1 : okT now
  · rw [decide_eq_true h1] at HT
    by_cases h2 : okS last
    · rw [decide_eq_true h2] at HS
      have hc : lowB D now last = (minT (lv D.L now) last, 0) := if_neg (fun q => q ⟨h1, h2⟩)
      have HC := Lib.hid hc
      have HO := Lib.hid (over_any now W)
      clear hc h1 h2
      go_enter Try.func18, Try.ntmps18
      go_wp2_with fail
      refine HT.out.mono ?_
      rintro e w2 ⟨rfl, e2⟩
      subst e2
      go_wp2_with fail
      refine HS.out.mono ?_
      rintro e w2 ⟨rfl, e2⟩
      subst e2
      go_wp2_with fail
      refine HO.out.mono ?_
      rintro e w3 ⟨rfl, hc3, hb3⟩
      have hq3 := HQ.out.below hb3
      have HB3 := Lib.hid hb3
      have HC3 := Lib.hid hc3
      obtain ⟨A, c, rfl⟩ := hq3.row.form
      have HR3 := Lib.hid hq3.row
      have k0 := hq3.cel.cell (i := 2) rfl
      generalize w2.heap.size = pc at HC3 hc3
      unfold overF
      clear hq3 hc3 hb3 HT HS HO HQ
      go_wp2_with fail
      go_loopw [9, 28] (fun m i wr => ∃ j : Nat, j ≤ D.L.length ∧ m = .int .i64 (minT (lv (D.L.take j) now) last) ∧ i = .int .i64 (j : Int) ∧ Hid (Below w3.heap.size w3 wr)) (fun _ i _ => D.L.length - (intOf i).toNat)
      case atStart => exact ⟨0, by omega, rfl, rfl, Lib.hid (Below.refl _ _)⟩
      case round =>
        obtain ⟨j, hj, rfl, rfl, hb⟩ := hrel
        by_cases hlt : j < D.L.length
        · obtain ⟨p, rfl, x0, x1, x2⟩ := d_cells (st_keep HR3.out hb.out) hlt
          have p1 : (j : Int) < (D.L.length : Int) := by omega
          have hs := lv_snoc hlt now
          generalize g D.L j = x at hs x0 x1 x2
          generalize hm0 : minT (lv (D.L.take j) now) last = m0
          have hB0 : Below wr.heap.size wr (wr.alloc (.cells #[.int .i64 x.n, .int .i64 x.t, .int .i64 x.u] 58)) := (Below.refl _ wr).alloc (Nat.le_refl _) _
          have hR0 : Cel (wr.alloc (.cells #[.int .i64 x.n, .int .i64 x.t, .int .i64 x.u] 58)) wr.heap.size 58 [.int .i64 x.n, .int .i64 x.t, .int .i64 x.u] := (blk1 wr _).2
          have HI : Hid (∀ V, Below w3.heap.size w3 V → Calls Try.prog 32 #[.agg #[.int .i64 x.n, .int .i64 x.t, .int .i64 x.u], .pointer (some ⟨pc, 0, none⟩)] V fun e W' => e = .returned (.bool (decide (x.u < now))) ∧ Below V.heap.size V W') := Lib.hid (fun V hV => over_in (HC3.out.below hV) x)
          have HB := Lib.hid (hb.out.trans (hB0.mono hb.out.size))
          go_upto_region 8 with fail
          have q0 := hR0.cell (i := 0) rfl
          have q1 := hR0.cell (i := 1) rfl
          have q2 := hR0.cell (i := 2) rfl
          have HR0 := Lib.hid hR0
          generalize hG : wr.heap.size = G at *
          generalize wr.alloc (.cells #[.int .i64 x.n, .int .i64 x.t, .int .i64 x.u] 58) = W1 at *
          clear hR0 hB0 x0 x1 x2 hb hG
          by_cases hu : x.u < now
          · have ht : minT (lv (D.L.take (j + 1)) now) last = m0 := by rw [hs, if_neg (by omega), hm0]
            have HTt := Lib.hid ht
            rw [decide_eq_true hu] at HI
            clear ht hs hm0 hu
            go_wp2_with fail
            refine (HI.out _ HB.out).mono ?_
            rintro e w5 ⟨rfl, hb5⟩
            have HB5 := Lib.hid (HB.out.trans (hb5.mono HB.out.size))
            clear hb5 HI q0 q1 q2
            go_wp2_with fail
            go_roundw
            case rel => exact ⟨j + 1, by omega, by rw [HTt.out], by go_num, HB5⟩
            case measure => simp [intOf]; omega
          · have ht : minT (lv (D.L.take (j + 1)) now) last = min m0 x.t := by rw [hs, if_pos (by omega), minT_snoc, hm0]
            have HTt := Lib.hid ht
            rw [decide_eq_false hu] at HI
            clear ht hs hm0 hu
            go_wp2_with fail
            refine (HI.out _ HB.out).mono ?_
            rintro e w5 ⟨rfl, hb5⟩
            have HB5 := Lib.hid (HB.out.trans (hb5.mono HB.out.size))
            have q1 := (HR0.out.below hb5).cell (i := 1) rfl
            clear hb5 HI q0 q2
            go_wp2_with fail
            all_goals
              go_roundw
              case rel => exact ⟨j + 1, by omega, by rw [HTt.out, Int.min_def]; congr 1; split <;> split <;> omega, by go_num, HB5⟩
              case measure => simp [intOf]; omega
        · obtain rfl : j = D.L.length := by omega
          rw [List.take_length]
          have HB := hb
          clear hb
          go_wp2_with fail
          go_ret2
          exact ⟨by rw [HC.out]; rfl, HB3.out.trans (HB.out.mono HB3.out.size)⟩
    · rw [decide_eq_false h2] at HS
      have hc : lowB D now last = (0, 1) := if_pos (fun q => h2 q.2)
      have HC := Lib.hid hc
      clear hc h1 h2
      go_enter Try.func18, Try.ntmps18
      go_wp2_with fail
      refine HT.out.mono ?_
      rintro e w2 ⟨rfl, e2⟩
      subst e2
      go_wp2_with fail
      refine HS.out.mono ?_
      rintro e w2 ⟨rfl, e2⟩
      subst e2
      go_wp2_with fail
      go_ret2
      exact ⟨by rw [HC.out]; rfl, Below.refl _ _⟩
  · rw [decide_eq_false h1] at HT
    have hc : lowB D now last = (0, 1) := if_pos (fun q => h1 q.1)
    have HC := Lib.hid hc
    clear hc h1
    go_enter Try.func18, Try.ntmps18
    go_wp2_with fail
    refine HT.out.mono ?_
    rintro e w2 ⟨rfl, e2⟩
    subst e2
    go_wp2_with fail
    go_ret2
    exact ⟨by rw [HC.out]; rfl, Below.refl _ _⟩

set_option maxRecDepth 20000 in
set_option maxHeartbeats 4000000 in
theorem running_any {r pc : Nat} {D : Tb} (h : LQ W base r v D) (ho : Ok D) {now : Int} (hc : Cel W pc 3 [.int .i64 now]) : Calls Try.prog 24 #[.pointer (some ⟨r, 0, none⟩), overF pc] W fun e W' => e = .returned (.int .i64 ((lv D.L now).length : Int)) ∧ Below W.heap.size W W' := by
  have hlen : (D.L.length : Int) ≤ 1024 := by have := ho.len; omega
  have HC3 := Lib.hid hc
  obtain ⟨A, c, rfl⟩ := h.row.form
  have HR3 := Lib.hid h.row
  have k0 := h.cel.cell (i := 2) rfl
  clear h ho hc
  unfold overF
  go_enter Try.func24, Try.ntmps24
  go_wp2_with fail
  go_loopw [5, 13] (fun m i wr => ∃ j : Nat, j ≤ D.L.length ∧ m = .int .i64 ((lv (D.L.take j) now).length : Int) ∧ i = .int .i64 (j : Int) ∧ Hid (Below W.heap.size W wr)) (fun _ i _ => D.L.length - (intOf i).toNat)
  case atStart => exact ⟨0, by omega, rfl, rfl, Lib.hid (Below.refl _ _)⟩
  case round =>
    obtain ⟨j, hj, rfl, rfl, hb⟩ := hrel
    by_cases hlt : j < D.L.length
    · obtain ⟨p, rfl, x0, x1, x2⟩ := d_cells (st_keep HR3.out hb.out) hlt
      have p1 : (j : Int) < (D.L.length : Int) := by omega
      have hs := lv_snoc hlt now
      have hl0 : (lv (D.L.take j) now).length ≤ 1024 := by have := lv_len (D.L.take j) now; rw [List.length_take] at this; omega
      generalize g D.L j = x at hs x0 x1 x2
      generalize hm0 : (lv (D.L.take j) now).length = m0 at hl0 ⊢
      have hB0 : Below wr.heap.size wr (wr.alloc (.cells #[.int .i64 x.n, .int .i64 x.t, .int .i64 x.u] 58)) := (Below.refl _ wr).alloc (Nat.le_refl _) _
      have hR0 : Cel (wr.alloc (.cells #[.int .i64 x.n, .int .i64 x.t, .int .i64 x.u] 58)) wr.heap.size 58 [.int .i64 x.n, .int .i64 x.t, .int .i64 x.u] := (blk1 wr _).2
      have HI : Hid (∀ V, Below W.heap.size W V → Calls Try.prog 32 #[.agg #[.int .i64 x.n, .int .i64 x.t, .int .i64 x.u], .pointer (some ⟨pc, 0, none⟩)] V fun e W' => e = .returned (.bool (decide (x.u < now))) ∧ Below V.heap.size V W') := Lib.hid (fun V hV => over_in (HC3.out.below hV) x)
      have HB := Lib.hid (hb.out.trans (hB0.mono hb.out.size))
      have pm : (m0 : Int) ≤ 1024 := by omega
      go_upto_region 5 with fail
      have q0 := hR0.cell (i := 0) rfl
      have q1 := hR0.cell (i := 1) rfl
      have q2 := hR0.cell (i := 2) rfl
      generalize hG : wr.heap.size = G at *
      generalize wr.alloc (.cells #[.int .i64 x.n, .int .i64 x.t, .int .i64 x.u] 58) = W1 at *
      clear hR0 hB0 x0 x1 x2 hb hG hl0
      by_cases hu : x.u < now
      · have ht : (lv (D.L.take (j + 1)) now).length = m0 := by rw [hs, if_neg (by omega), hm0]
        have HTt := Lib.hid ht
        rw [decide_eq_true hu] at HI
        clear ht hs hm0 hu
        go_wp2_with fail
        refine (HI.out _ HB.out).mono ?_
        rintro e w5 ⟨rfl, hb5⟩
        have HB5 := Lib.hid (HB.out.trans (hb5.mono HB.out.size))
        clear hb5 HI q0 q1 q2
        go_wp2_with fail
        go_roundw
        case rel => exact ⟨j + 1, by omega, by rw [HTt.out], by go_num, HB5⟩
        case measure => simp [intOf]; omega
      · have ht : (lv (D.L.take (j + 1)) now).length = m0 + 1 := by rw [hs, if_pos (by omega), List.length_append, hm0]; rfl
        have HTt := Lib.hid ht
        rw [decide_eq_false hu] at HI
        clear ht hs hm0 hu
        go_wp2_with fail
        refine (HI.out _ HB.out).mono ?_
        rintro e w5 ⟨rfl, hb5⟩
        have HB5 := Lib.hid (HB.out.trans (hb5.mono HB.out.size))
        clear hb5 HI q0 q1 q2
        go_wp2_with fail
        go_roundw
        case rel => exact ⟨j + 1, by omega, by rw [HTt.out]; go_num, by go_num, HB5⟩
        case measure => simp [intOf]; omega
    · obtain rfl : j = D.L.length := by omega
      rw [List.take_length]
      have HB := hb
      clear hb
      go_wp2_with fail
      go_ret
      exact ⟨rfl, HB.out⟩

theorem lv_all {L : List Le} {now : Int} (hno : ∀ k, k < L.length → ¬ (g L k).u < now) : lv L now = L := by
  unfold lv
  rw [List.filter_eq_self]
  intro x hx
  obtain ⟨i, hi, rfl⟩ := List.mem_iff_getElem.1 hx
  have := hno i hi
  rw [g_lt hi] at this
  simp; omega

theorem lv_take {L : List Le} {now : Int} {j : Nat} (hj : j ≤ L.length) (hno : ∀ k, k < j → ¬ (g L k).u < now) : lv (L.take j) now = L.take j := by
  refine lv_all (fun k hk => ?_)
  rw [List.length_take] at hk
  have := hno k (by omega)
  rw [g_lt (by rw [List.length_take]; omega), List.getElem_take, ← g_lt (by omega)]
  exact this

/-- what a search of the first that is over answers -/
def FoP (L : List Le) (now : Int) (W : World) (e : Ending) (W' : World) : Prop := ((∃ j : Nat, e = .returned (.int .i64 (j : Int)) ∧ j < L.length ∧ (g L j).u < now ∧ ∀ k, k < j → ¬ (g L k).u < now) ∨ (e = .returned (.int .i64 (-1)) ∧ lv L now = L)) ∧ Below W.heap.size W W'

set_option maxRecDepth 20000 in
set_option maxHeartbeats 4000000 in
theorem indexF_any {L : List Le} {A : Option Addr} {c pc : Nat} (h : DRow W base (.slice A L.length c) L) (h10 : L.length ≤ 1024) {now : Int} (hc : Cel W pc 3 [.int .i64 now]) : Calls Try.prog 33 #[.slice A L.length c, overF pc] W fun e W' => FoP L now W e W' := by
  have hlen : (L.length : Int) ≤ 1024 := by omega
  have HC3 := Lib.hid hc
  have HR3 := Lib.hid h
  clear h hc
  unfold overF
  go_enter Try.func33, Try.ntmps33
  go_wp2_with fail
  go_loopw [8] (fun i wr => ∃ j : Nat, j ≤ L.length ∧ i = .int .i64 (j : Int) ∧ Hid (∀ k, k < j → ¬ (g L k).u < now) ∧ Hid (Below W.heap.size W wr)) (fun i _ => L.length - (intOf i).toNat)
  case atStart => exact ⟨0, by omega, rfl, Lib.hid (fun k hk => absurd hk (by omega)), Lib.hid (Below.refl _ _)⟩
  case round =>
    obtain ⟨j, hj, rfl, hno, hb⟩ := hrel
    by_cases hlt : j < L.length
    · obtain ⟨p, rfl, x0, x1, x2⟩ := d_cells (st_keep HR3.out hb.out) hlt
      have p1 : (j : Int) < (L.length : Int) := by omega
      have HI := Lib.hid (over_in (HC3.out.below hb.out) (g L j))
      have HB := hb
      by_cases hu : (g L j).u < now
      · have HF : Hid (∀ V, Below wr.heap.size wr V → FoP L now W (.returned (.int .i64 (j : Int))) V) := Lib.hid (fun V hV => ⟨.inl ⟨j, rfl, hlt, hu, hno.out⟩, HB.out.trans (hV.mono HB.out.size)⟩)
        rw [decide_eq_true hu] at HI
        generalize g L j = x at x0 x1 x2 HI hu
        clear hb hno hu
        go_wp2_with fail
        refine HI.out.mono ?_
        rintro e w5 ⟨rfl, hb5⟩
        have HF5 := Lib.hid (HF.out _ hb5)
        clear hb5 HI HF x0 x1 x2
        go_wp2_with fail
        go_ret
        exact HF5.out
      · have HN : Hid (∀ k, k < j + 1 → ¬ (g L k).u < now) := Lib.hid (fun k hk => by
          by_cases e : k = j
          · subst e; exact hu
          · exact hno.out k (by omega))
        rw [decide_eq_false hu] at HI
        generalize g L j = x at x0 x1 x2 HI hu
        clear hb hno hu
        go_wp2_with fail
        refine HI.out.mono ?_
        rintro e w5 ⟨rfl, hb5⟩
        have HB5 := Lib.hid (HB.out.trans (hb5.mono HB.out.size))
        clear hb5 HI x0 x1 x2
        go_wp2_with fail
        go_roundw
        case rel => exact ⟨j + 1, by omega, by go_num, Lib.hid (fun k hk => by have := HN.out k hk; omega), HB5⟩
        case measure => simp [intOf]; omega
    · obtain rfl : j = L.length := by omega
      have HF : Hid (FoP L now W (.returned (.int .i64 (-1))) wr) := Lib.hid ⟨.inr ⟨rfl, lv_all hno.out⟩, hb.out⟩
      clear hb hno
      go_wp2_with fail
      go_ret
      exact HF.out

end

end Ll
end Go.Proofs.Ytlhcaankfhdakaa
