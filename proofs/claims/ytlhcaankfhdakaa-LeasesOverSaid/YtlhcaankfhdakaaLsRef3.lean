/- The document's leases: Low; no condition but the ranges. -/
import Derived.Test.YtlhcaankfhdakaaLsRef2
namespace Go.Proofs.Ytlhcaankfhdakaa
namespace Ls
open Go.RowKit Bk

attribute [local go_sem ↓] Go.wp_at_zero Go.wp_at_succ
attribute [local go_sem] floatUpon pick

section
variable {W W' : World} {base : Nat} {v : Value} {l : List Le}

set_option maxHeartbeats 4000000 in
theorem rlow_any {r : Nat} {D : Tb} (h : RQ W base r v D) (h10 : D.L.length ≤ 100000) (now last : Int) : Calls Try.prog 19 #[.pointer (some ⟨r, 0, none⟩), .int .i64 now, .int .i64 last] W fun e W' => e = .returned (.tuple #[.int .i64 (lowB D now last).1, .int .i64 (lowB D now last).2]) ∧ W' = W := by
  obtain ⟨A, c, hv⟩ := h.row.form
  have HRow := Lib.hid h.row
  have k0 := h.cel.cell (i := 2) rfl
  rw [hv] at k0
  have HV := Lib.hid hv
  have HT := Lib.hid (tick_any now W)
  have HS := Lib.hid (stamp_any last W)
  clear h hv
  by_cases h1 : okT now
  · rw [decide_eq_true h1] at HT
    by_cases h2 : okS last
    · rw [decide_eq_true h2] at HS
      have hc : lowB D now last = (minT (lv D.L now) last, 0) := if_neg (fun q => q ⟨h1, h2⟩)
      have HC := Lib.hid hc
      clear hc h1 h2
      go_enter Try.func19, Try.ntmps19
      go_wp2_with fail
      refine HT.out.mono ?_
      rintro e w2 ⟨rfl, e2⟩
      subst e2
      go_wp2_with fail
      refine HS.out.mono ?_
      rintro e w2 ⟨rfl, e2⟩
      subst e2
      go_wp2_with fail
      go_loopw [2, 8] (fun m i wr => ∃ j : Nat, j ≤ D.L.length ∧ m = .int .i64 (minT (lv (D.L.take j) now) last) ∧ i = .int .i64 (j : Int) ∧ wr = w2) (fun _ i _ => D.L.length - (intOf i).toNat)
      case atStart => exact ⟨0, by omega, rfl, rfl, rfl⟩
      case round =>
        obtain ⟨j, hj, rfl, rfl, rfl⟩ := hrel
        by_cases hlt : j < D.L.length
        · obtain ⟨p, rfl, _, e2, e3⟩ := d_cells (HV.out ▸ HRow.out) hlt
          have p1 : (j : Int) < (D.L.length : Int) := by omega
          have hs := lv_snoc hlt now
          generalize g D.L j = x at hs e2 e3
          generalize hm0 : minT (lv (D.L.take j) now) last = m0
          by_cases hu : now ≤ x.u
          · have ht : minT (lv (D.L.take (j + 1)) now) last = min m0 x.t := by rw [hs, if_pos hu, minT_snoc, hm0]
            have HTt := Lib.hid ht
            clear ht hs hm0
            go_wp2_with fail
            all_goals
              go_roundw
              case rel => exact ⟨j + 1, by omega, by rw [HTt.out, Int.min_def]; congr 1; split <;> split <;> omega, by go_num, by first | rfl | trivial⟩
              case measure => simp [intOf]; omega
          · have ht : minT (lv (D.L.take (j + 1)) now) last = m0 := by rw [hs, if_neg hu, hm0]
            have HTt := Lib.hid ht
            have hu' : x.u < now := by omega
            clear ht hs hm0 hu
            go_wp2_with fail
            go_roundw
            case rel => exact ⟨j + 1, by omega, by rw [HTt.out], by go_num, by first | rfl | trivial⟩
            case measure => simp [intOf]; omega
        · obtain rfl : j = D.L.length := by omega
          rw [List.take_length]
          go_wp2_with fail
          go_ret2
          exact ⟨by rw [HC.out]; rfl, rfl⟩
    · rw [decide_eq_false h2] at HS
      have hc : lowB D now last = (0, 1) := if_pos (fun q => h2 q.2)
      have HC := Lib.hid hc
      clear hc h1 h2
      go_enter Try.func19, Try.ntmps19
      go_wp2_with fail
      refine HT.out.mono ?_
      rintro e w2 ⟨rfl, e2⟩
      subst e2
      go_wp2_with fail
      refine HS.out.mono ?_
      rintro e w2 ⟨rfl, e2⟩
      subst e2
      go_wp2_with fail
      go_ret2
      exact ⟨by rw [HC.out]; rfl, rfl⟩
  · rw [decide_eq_false h1] at HT
    have hc : lowB D now last = (0, 1) := if_pos (fun q => h1 q.1)
    have HC := Lib.hid hc
    clear hc h1
    go_enter Try.func19, Try.ntmps19
    go_wp2_with fail
    refine HT.out.mono ?_
    rintro e w2 ⟨rfl, e2⟩
    subst e2
    go_wp2_with fail
    go_ret2
    exact ⟨by rw [HC.out]; rfl, rfl⟩

end

end Ls
end Go.Proofs.Ytlhcaankfhdakaa
