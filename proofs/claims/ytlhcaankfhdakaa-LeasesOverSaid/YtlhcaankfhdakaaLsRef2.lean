/- The document's leases: Check, Low, Keep; no condition but the ranges. -/
import Derived.Test.YtlhcaankfhdakaaLsRef
namespace Go.Proofs.Ytlhcaankfhdakaa
namespace Ls
open Go.RowKit Bk

attribute [local go_sem ↓] Go.wp_at_zero Go.wp_at_succ
attribute [local go_sem] floatUpon pick

section
variable {W W' : World} {base : Nat} {v : Value} {l : List Le}

set_option maxHeartbeats 1000000 in
theorem tick_any (n : Int) (w : World) :
    Calls Try.prog 26 #[.int .i64 n] w fun e w' => e = .returned (.bool (decide (okT n))) ∧ w' = w := by
  have E := Lib.hid (show decide (okT n) = (decide (0 ≤ n) && decide (n ≤ 1099511627776)) by unfold okT; by_cases h1 : 0 ≤ n <;> by_cases h2 : n ≤ 1099511627776 <;> simp [h1, h2])
  by_cases h1 : 0 ≤ n
  · rw [show decide (0 ≤ n) = true by simpa using h1, Bool.true_and] at E
    go_enter Try.func26, Try.ntmps26
    go_wp2_with fail
    go_ret
    exact ⟨by rw [E.out]; rfl, rfl⟩
  · rw [show decide (0 ≤ n) = false by simpa using h1, Bool.false_and] at E
    have h2 : n < 0 := by omega
    clear h1
    go_enter Try.func26, Try.ntmps26
    go_wp2_with fail
    go_ret
    exact ⟨by rw [E.out]; rfl, rfl⟩

set_option maxHeartbeats 1000000 in
theorem stamp_any (n : Int) (w : World) :
    Calls Try.prog 27 #[.int .i64 n] w fun e w' => e = .returned (.bool (decide (okS n))) ∧ w' = w := by
  have E := Lib.hid (show decide (okS n) = (decide (0 ≤ n) && decide (n ≤ 1125899906842624)) by unfold okS; by_cases h1 : 0 ≤ n <;> by_cases h2 : n ≤ 1125899906842624 <;> simp [h1, h2])
  by_cases h1 : 0 ≤ n
  · rw [show decide (0 ≤ n) = true by simpa using h1, Bool.true_and] at E
    go_enter Try.func27, Try.ntmps27
    go_wp2_with fail
    go_ret
    exact ⟨by rw [E.out]; rfl, rfl⟩
  · rw [show decide (0 ≤ n) = false by simpa using h1, Bool.false_and] at E
    have h2 : n < 0 := by omega
    clear h1
    go_enter Try.func27, Try.ntmps27
    go_wp2_with fail
    go_ret
    exact ⟨by rw [E.out]; rfl, rfl⟩

set_option maxHeartbeats 4000000 in
theorem rcheck_any {r : Nat} {D : Tb} (h : RQ W base r v D) (h10 : D.L.length ≤ 100000) (now n : Int) : Calls Try.prog 17 #[.pointer (some ⟨r, 0, none⟩), .int .i64 now, .int .i64 n] W fun e W' => e = .returned (.tuple #[.int .i64 (checkB D now n).1, .int .i64 (checkB D now n).2]) ∧ W' = W := by
  obtain ⟨A, c, hv⟩ := h.row.form
  have HRow := Lib.hid h.row
  have k0 := h.cel.cell (i := 2) rfl
  rw [hv] at k0
  have HV := Lib.hid hv
  have HT := Lib.hid (tick_any now W)
  have HA := Lib.hid (at_any h h10 n)
  have HL := Lib.hid h10
  clear h hv h10
  by_cases h1 : okT now
  · rw [decide_eq_true h1] at HT
    by_cases h2 : nu D.L n < D.L.length
    · have ea : atB D n = (nu D.L n : Int) := if_pos h2
      rw [ea] at HA
      have hc : checkB D now n = if (g D.L (nu D.L n)).u < now then (0, 170) else ((g D.L (nu D.L n)).t, 0) := by
        unfold checkB; rw [if_neg (fun q => q h1), if_neg (by omega)]
      obtain ⟨p, rfl, _, e2, e3⟩ := d_cells (HV.out ▸ HRow.out) h2
      generalize g D.L (nu D.L n) = x at hc e2 e3
      generalize nu D.L n = j at ea HA h2 e2 e3
      have p1 : (j : Int) < (D.L.length : Int) := by omega
      have p2 : (0 : Int) ≤ (j : Int) := by omega
      by_cases h3 : x.u < now
      · rw [if_pos h3] at hc
        have HC := Lib.hid hc
        clear hc h1 ea
        go_enter Try.func17, Try.ntmps17
        go_wp2_with fail
        refine HT.out.mono ?_
        rintro e w2 ⟨rfl, e2⟩
        subst e2
        go_wp2_with fail
        refine HA.out.mono ?_
        rintro e w2 ⟨rfl, e2⟩
        subst e2
        go_wp2_with fail
        go_ret2
        exact ⟨by rw [HC.out]; rfl, rfl⟩
      · rw [if_neg h3] at hc
        have HC := Lib.hid hc
        have h3' : now ≤ x.u := by omega
        clear hc h1 ea h3
        go_enter Try.func17, Try.ntmps17
        go_wp2_with fail
        refine HT.out.mono ?_
        rintro e w2 ⟨rfl, e2⟩
        subst e2
        go_wp2_with fail
        refine HA.out.mono ?_
        rintro e w2 ⟨rfl, e2⟩
        subst e2
        go_wp2_with fail
        go_ret2
        exact ⟨by rw [HC.out]; rfl, rfl⟩
    · have ea : atB D n = -1 := if_neg h2
      rw [ea] at HA
      have hc : checkB D now n = (0, 5) := by
        unfold checkB; rw [if_neg (fun q => q h1), if_pos (by omega)]
      have HC := Lib.hid hc
      clear hc h1 ea h2
      go_enter Try.func17, Try.ntmps17
      go_wp2_with fail
      refine HT.out.mono ?_
      rintro e w2 ⟨rfl, e2⟩
      subst e2
      go_wp2_with fail
      refine HA.out.mono ?_
      rintro e w2 ⟨rfl, e2⟩
      subst e2
      go_wp2_with fail
      go_ret2
      exact ⟨by rw [HC.out]; rfl, rfl⟩
  · rw [decide_eq_false h1] at HT
    have hc : checkB D now n = (0, 1) := by unfold checkB; rw [if_pos h1]
    have HC := Lib.hid hc
    clear hc h1
    go_enter Try.func17, Try.ntmps17
    go_wp2_with fail
    refine HT.out.mono ?_
    rintro e w2 ⟨rfl, e2⟩
    subst e2
    go_wp2_with fail
    go_ret2
    exact ⟨by rw [HC.out]; rfl, rfl⟩

end

end Ls
end Go.Proofs.Ytlhcaankfhdakaa
