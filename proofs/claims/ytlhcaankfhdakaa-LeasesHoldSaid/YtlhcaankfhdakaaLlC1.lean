/- The landed table of leases: its small calls; no condition but the ranges. -/
import Derived.Test.YtlhcaankfhdakaaLlRow
import Derived.Test.YtlhcaankfhdakaaLlMath
import Derived.Test.YtlhcaankfhdakaaLsRef5
namespace Go.Proofs.Ytlhcaankfhdakaa
namespace Ll
open Go.RowKit Bk Ls

attribute [local go_sem ↓] Go.wp_at_zero Go.wp_at_succ
attribute [local go_sem] floatUpon pick

section
variable {W W' : World} {base : Nat} {v : Value} {l : List Le}

set_option maxHeartbeats 1000000 in
theorem ltick_any (n : Int) (w : World) :
    Calls Try.prog 21 #[.int .i64 n] w fun e w' => e = .returned (.bool (decide (okT n))) ∧ w' = w := by
  have E := Lib.hid (show decide (okT n) = (decide (0 ≤ n) && decide (n ≤ 1099511627776)) by unfold okT; by_cases h1 : 0 ≤ n <;> by_cases h2 : n ≤ 1099511627776 <;> simp [h1, h2])
  by_cases h1 : 0 ≤ n
  · rw [show decide (0 ≤ n) = true by simpa using h1, Bool.true_and] at E
    go_enter Try.func21, Try.ntmps21
    go_wp2_with fail
    go_ret
    exact ⟨by rw [E.out]; rfl, rfl⟩
  · rw [show decide (0 ≤ n) = false by simpa using h1, Bool.false_and] at E
    have h2 : n < 0 := by omega
    clear h1
    go_enter Try.func21, Try.ntmps21
    go_wp2_with fail
    go_ret
    exact ⟨by rw [E.out]; rfl, rfl⟩

set_option maxHeartbeats 1000000 in
theorem lstamp_any (n : Int) (w : World) :
    Calls Try.prog 22 #[.int .i64 n] w fun e w' => e = .returned (.bool (decide (okS n))) ∧ w' = w := by
  have E := Lib.hid (show decide (okS n) = (decide (0 ≤ n) && decide (n ≤ 1125899906842624)) by unfold okS; by_cases h1 : 0 ≤ n <;> by_cases h2 : n ≤ 1125899906842624 <;> simp [h1, h2])
  by_cases h1 : 0 ≤ n
  · rw [show decide (0 ≤ n) = true by simpa using h1, Bool.true_and] at E
    go_enter Try.func22, Try.ntmps22
    go_wp2_with fail
    go_ret
    exact ⟨by rw [E.out]; rfl, rfl⟩
  · rw [show decide (0 ≤ n) = false by simpa using h1, Bool.false_and] at E
    have h2 : n < 0 := by omega
    clear h1
    go_enter Try.func22, Try.ntmps22
    go_wp2_with fail
    go_ret
    exact ⟨by rw [E.out]; rfl, rfl⟩

/-- what New leaves: nothing, or an empty table in a new block -/
def LNewP (W : World) (long : Int) (e : Ending) (W' : World) : Prop :=
  if 0 ≤ long ∧ long ≤ 1048576 then ∃ r, e = .returned (.tuple #[.pointer (some ⟨r, 0, none⟩), .int .i64 0]) ∧ LQ W' W.heap.size r (.slice none 0 0) ⟨long, 0, []⟩ ∧ Below W.heap.size W W'
  else e = .returned (.tuple #[.pointer none, .int .i64 1]) ∧ Below W.heap.size W W'

set_option maxHeartbeats 4000000 in
theorem lnew_any (long : Int) (W : World) : Calls Try.prog 6 #[.int .i64 long] W fun e W' => LNewP W long e W' := by
  have ha := (Below.refl W.heap.size W).alloc (Nat.le_refl _) (.cells #[.int .i64 long, .int .i64 0, .slice none 0 0] 51)
  have hb := (blk1 W (.cells #[.int .i64 long, .int .i64 0, .slice none 0 0] 51)).2
  by_cases h : 0 ≤ long ∧ long ≤ 1048576
  · obtain ⟨h1, h2⟩ := h
    have H : Hid (LNewP W long (.returned (.tuple #[.pointer (some ⟨W.heap.size, 0, none⟩), .int .i64 0])) (W.alloc (.cells #[.int .i64 long, .int .i64 0, .slice none 0 0] 51))) := Lib.hid (by
      unfold LNewP
      rw [if_pos ⟨h1, h2⟩]
      exact ⟨_, rfl, ⟨hb, ⟨rfl, .inl ⟨rfl, rfl⟩⟩, by simp [Value.ownBlock], Nat.le_refl _, ha.size⟩, ha⟩)
    clear ha hb
    go_enter Try.func6, Try.ntmps6
    go_wp2_with fail
    go_ret2
    exact H.out
  · have H : Hid (∀ W', Below W.heap.size W W' → LNewP W long (.returned (.tuple #[.pointer none, .int .i64 1])) W') := Lib.hid (fun W' hb => by
      unfold LNewP
      rw [if_neg h]
      exact ⟨rfl, hb⟩)
    clear ha hb
    by_cases h1 : long < 0
    · clear h
      go_enter Try.func6, Try.ntmps6
      go_wp2_with fail
      go_ret2
      exact H.out _ (Below.refl _ _)
    · have h2 : 1048576 < long := by omega
      have h3 : 0 ≤ long := by omega
      clear h h1
      go_enter Try.func6, Try.ntmps6
      go_wp2_with fail
      go_ret2
      exact H.out _ (Below.refl _ _)

theorem llen_any {r : Nat} {D : Tb} (h : LQ W base r v D) : Calls Try.prog 20 #[.pointer (some ⟨r, 0, none⟩)] W fun e W' => e = .returned (.int .i64 (D.L.length : Int)) ∧ W' = W := by
  obtain ⟨A, c, rfl⟩ := h.row.form
  have k0 := h.cel.cell (i := 2) rfl
  clear h
  go_enter Try.func20, Try.ntmps20
  go_wp2_with fail
  go_ret
  exact ⟨rfl, rfl⟩

/-- what tells of a lease whether it is over at a tick -/
def overF (p : Nat) : Value := .func (.func 32) #[] #[.pointer (some ⟨p, 0, none⟩)]

theorem over_any (now : Int) (W : World) : Calls Try.prog 23 #[.int .i64 now] W fun e W' => e = .returned (overF W.heap.size) ∧ Cel W' W.heap.size 3 [.int .i64 now] ∧ Below W.heap.size W W' := by
  have H := Lib.hid (And.intro (show Cel (w := W.alloc (.cells #[.int .i64 now] 3)) W.heap.size 3 [.int .i64 now] from (blk1 W _).2) ((Below.refl W.heap.size W).alloc (Nat.le_refl _) (.cells #[.int .i64 now] 3)))
  go_enter Try.func23, Try.ntmps23
  go_wp2_with fail
  go_ret
  exact ⟨rfl, H.out⟩

/-- the closure's call -/
theorem over_in {p : Nat} {now : Int} (h : Cel W p 3 [.int .i64 now]) (x : Le) : Calls Try.prog 32 #[.agg #[.int .i64 x.n, .int .i64 x.t, .int .i64 x.u], .pointer (some ⟨p, 0, none⟩)] W fun e W' => e = .returned (.bool (decide (x.u < now))) ∧ Below W.heap.size W W' := by
  have hb := (Below.refl W.heap.size W).alloc (Nat.le_refl _) (.cells #[.int .i64 x.n, .int .i64 x.t, .int .i64 x.u] 58)
  have hc : Cel (W.alloc (.cells #[.int .i64 x.n, .int .i64 x.t, .int .i64 x.u] 58)) W.heap.size 58 [.int .i64 x.n, .int .i64 x.t, .int .i64 x.u] := (blk1 W _).2
  have k0 := (h.below hb).cell (i := 0) rfl
  have k1 := hc.cell (i := 2) rfl
  have HB := Lib.hid hb
  clear hb hc h
  go_enter Try.func32, Try.ntmps32
  go_wp2_with fail
  go_ret
  exact ⟨rfl, HB.out⟩

/-- what cmp.Compare answers -/
def cmpV (a b : Int) : Int := if a < b then -1 else if b < a then 1 else 0

theorem nan_any (a : Int) (W : World) : Calls Try.prog 37 #[.int .i64 a] W fun e W' => e = .returned (.bool false) ∧ W' = W := by
  go_enter Try.func37, Try.ntmps37
  go_wp2_with fail
  go_ret
  exact ⟨by simp, rfl⟩

theorem cmp_any (a b : Int) (W : World) : Calls Try.prog 36 #[.int .i64 a, .int .i64 b] W fun e W' => e = .returned (.int .i64 (cmpV a b)) ∧ W' = W := by
  have HN := Lib.hid (fun x => nan_any x W)
  obtain ⟨z, hz⟩ : ∃ z, cmpV a b = z := ⟨_, rfl⟩
  rw [hz]
  unfold cmpV at hz
  by_cases h1 : a < b
  · rw [if_pos h1] at hz
    subst hz
    go_enter Try.func36, Try.ntmps36
    go_wp2_with fail
    refine (HN.out _).mono ?_
    rintro e w ⟨rfl, rfl⟩
    go_wp2_with fail
    refine (HN.out _).mono ?_
    rintro e w ⟨rfl, rfl⟩
    go_wp2_with fail
    go_ret
    exact ⟨rfl, rfl⟩
  · rw [if_neg h1] at hz
    have h1' : b ≤ a := by omega
    by_cases h2 : b < a
    · rw [if_pos h2] at hz
      subst hz
      clear h1
      go_enter Try.func36, Try.ntmps36
      go_wp2_with fail
      refine (HN.out _).mono ?_
      rintro e w ⟨rfl, rfl⟩
      go_wp2_with fail
      refine (HN.out _).mono ?_
      rintro e w ⟨rfl, rfl⟩
      go_wp2_with fail
      go_ret
      exact ⟨rfl, rfl⟩
    · rw [if_neg h2] at hz
      subst hz
      have h2' : a ≤ b := by omega
      clear h1 h2
      go_enter Try.func36, Try.ntmps36
      go_wp2_with fail
      refine (HN.out _).mono ?_
      rintro e w ⟨rfl, rfl⟩
      go_wp2_with fail
      refine (HN.out _).mono ?_
      rintro e w ⟨rfl, rfl⟩
      go_wp2_with fail
      go_ret
      exact ⟨rfl, rfl⟩

/-- the search's closure -/
theorem cmp_in (x : Le) (n : Int) (W : World) : Calls Try.prog 35 #[.agg #[.int .i64 x.n, .int .i64 x.t, .int .i64 x.u], .int .i64 n] W fun e W' => e = .returned (.int .i64 (cmpV x.n n)) ∧ Below W.heap.size W W' := by
  have hb := (Below.refl W.heap.size W).alloc (Nat.le_refl _) (.cells #[.int .i64 x.n, .int .i64 x.t, .int .i64 x.u] 58)
  have hc : Cel (W.alloc (.cells #[.int .i64 x.n, .int .i64 x.t, .int .i64 x.u] 58)) W.heap.size 58 [.int .i64 x.n, .int .i64 x.t, .int .i64 x.u] := (blk1 W _).2
  have k1 := hc.cell (i := 0) rfl
  have HB := Lib.hid hb
  have HC := Lib.hid (fun V => cmp_any x.n n V)
  clear hb hc
  go_enter Try.func35, Try.ntmps35
  go_wp2_with fail
  refine (HC.out _).mono ?_
  rintro e w ⟨rfl, e2⟩
  subst e2
  go_wp2_with fail
  go_ret
  exact ⟨rfl, HB.out⟩

end

end Ll
end Go.Proofs.Ytlhcaankfhdakaa
