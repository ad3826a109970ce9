/- The document's leases: New, and End of a number that is not there; no condition but the ranges. -/
import Derived.Test.YtlhcaankfhdakaaLsRef4
namespace Go.Proofs.Ytlhcaankfhdakaa
namespace Ls
open Go.RowKit Bk

attribute [local go_sem ↓] Go.wp_at_zero Go.wp_at_succ
attribute [local go_sem] floatUpon pick

section
variable {W W' : World} {base : Nat} {v : Value} {l : List Le}

/-- what New leaves: nothing, or an empty table in a new block -/
def NewP (W : World) (long : Int) (e : Ending) (W' : World) : Prop :=
  if 0 ≤ long ∧ long ≤ 1048576 then ∃ r, e = .returned (.tuple #[.pointer (some ⟨r, 0, none⟩), .int .i64 0]) ∧ RQ W' W.heap.size r (.slice none 0 0) ⟨long, 0, []⟩ ∧ Below W.heap.size W W'
  else e = .returned (.tuple #[.pointer none, .int .i64 1]) ∧ Below W.heap.size W W'

set_option maxHeartbeats 4000000 in
theorem rnew_any (long : Int) (W : World) : Calls Try.prog 7 #[.int .i64 long] W fun e W' => NewP W long e W' := by
  have ha := (Below.refl W.heap.size W).alloc (Nat.le_refl _) (.cells #[.int .i64 long, .int .i64 0, .slice none 0 0] 41)
  have hb := (blk1 W (.cells #[.int .i64 long, .int .i64 0, .slice none 0 0] 41)).2
  by_cases h : 0 ≤ long ∧ long ≤ 1048576
  · obtain ⟨h1, h2⟩ := h
    have H : Hid (NewP W long (.returned (.tuple #[.pointer (some ⟨W.heap.size, 0, none⟩), .int .i64 0])) (W.alloc (.cells #[.int .i64 long, .int .i64 0, .slice none 0 0] 41))) := Lib.hid (by
      unfold NewP
      rw [if_pos ⟨h1, h2⟩]
      exact ⟨_, rfl, ⟨hb, ⟨rfl, .inl ⟨rfl, rfl⟩⟩, by simp [Value.ownBlock], Nat.le_refl _, ha.size⟩, ha⟩)
    clear ha hb
    go_enter Try.func7, Try.ntmps7
    go_wp2_with fail
    go_ret2
    exact H.out
  · have H : Hid (∀ W', Below W.heap.size W W' → NewP W long (.returned (.tuple #[.pointer none, .int .i64 1])) W') := Lib.hid (fun W' hb => by
      unfold NewP
      rw [if_neg h]
      exact ⟨rfl, hb⟩)
    clear ha hb
    by_cases h1 : long < 0
    · clear h
      go_enter Try.func7, Try.ntmps7
      go_wp2_with fail
      go_ret2
      exact H.out _ (Below.refl _ _)
    · have h2 : 1048576 < long := by omega
      have h3 : 0 ≤ long := by omega
      clear h h1
      go_enter Try.func7, Try.ntmps7
      go_wp2_with fail
      go_ret2
      exact H.out _ (Below.refl _ _)

set_option maxHeartbeats 4000000 in
theorem rend_no {r : Nat} {D : Tb} (h : RQ W base r v D) (h10 : D.L.length ≤ 100000) (n : Int) (hl : ¬ nu D.L n < D.L.length) : Calls Try.prog 15 #[.pointer (some ⟨r, 0, none⟩), .int .i64 n] W fun e W' => e = .returned (.int .i64 (endB D n).2) ∧ RP W base r v (endB D n).1 W' := by
  have HQ := Lib.hid h
  have HA := Lib.hid (at_any h h10 n)
  have ea : atB D n = -1 := if_neg hl
  rw [ea] at HA
  have hk : endB D n = (D, 5) := if_neg hl
  have HK := Lib.hid hk
  clear h h10 hl ea hk
  go_enter Try.func15, Try.ntmps15
  go_wp2_with fail
  refine HA.out.mono ?_
  rintro e w2 ⟨rfl, e2⟩
  subst e2
  go_wp2_with fail
  go_ret
  rw [HK.out]
  exact ⟨rfl, v, HQ.out, RM.of (Below.refl _ _)⟩

end

end Ls
end Go.Proofs.Ytlhcaankfhdakaa
