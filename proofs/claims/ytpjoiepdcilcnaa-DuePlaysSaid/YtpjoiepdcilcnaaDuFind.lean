/- Where the task of a number stands, and the least tick: contracts; no condition but the range. -/
import Derived.Test.YtpjoiepdcilcnaaDuQueue
namespace Go.Proofs.Ytpjoiepdcilcnaa
namespace Du
open Go.RowKit Bk

section
variable {W W' : World} {base b : Nat} {v : Value} {l : List Tk}

theorem isnum_any (x : Tk) (n : Int) (a : Addr) (W : World) (ha : W.cell? a = some (.int .i64 n)) (hb : a.block < W.heap.size) :
    Calls Try.prog 34 #[.agg #[.int .i64 x.a, .int .i64 x.u, .int .i64 x.i, .int .i64 x.n], .pointer (some a)] W fun e W' => e = .returned (.bool (decide (x.n = n))) ∧ Below W.heap.size W W' := by
  have hk := keep1 ha hb
  go_enter Try.func34, Try.ntmps34
  go_wp2
  go_ret
  refine ⟨by congr 2, (Below.refl _ _).alloc (Nat.le_refl _) _⟩

set_option maxHeartbeats 4000000 in
theorem index_any (h : TRow W base v l) (h10 : l.length ≤ 100000) (n : Int) (a : Addr) (ha : W.cell? a = some (.int .i64 n)) (hb : a.block < W.heap.size) :
    Calls Try.prog 33 #[v, .func (.func 34) #[] #[.pointer (some a)]] W fun e W' => ∃ r : Int, e = .returned (.int .i64 r) ∧ Below W.heap.size W W' ∧ ((∃ i : Nat, i < l.length ∧ r = (i : Int) ∧ (g l i).n = n) ∨ (r = -1 ∧ ∀ x ∈ l, x.n ≠ n)) := by
  obtain ⟨A, c, hv⟩ := h.form
  have HR := Lib.hid h
  have HA := Lib.hid (And.intro ha hb)
  clear h ha hb
  subst hv
  go_enter Try.func33, Try.ntmps33
  go_wp2_with fail
  go_loopw [8] (fun i wr => ∃ j : Nat, j ≤ l.length ∧ i = .int .i64 (j : Int) ∧ Hid (∀ k, k < j → (g l k).n ≠ n) ∧ Hid (Below W.heap.size W wr)) (fun i _ => l.length - (intOf i).toNat)
  case atStart => exact ⟨0, by omega, rfl, fun k hk => absurd hk (by omega), Below.refl _ _⟩
  case round =>
    obtain ⟨j, hj, rfl, hno, hbel⟩ := hrel
    by_cases hlt : j < l.length
    · obtain ⟨p, cap, rest, e1, hbp, hc, h1, h2, h3⟩ := TRow.blk (show TRow wr base _ l from st_keep HR.out hbel.out) (by omega)
      simp only [Value.slice.injEq] at e1
      obtain ⟨rfl, -, rfl⟩ := e1
      have e0 : wr.cell? ⟨p, j * 4, none⟩ = some (.int .i64 (g l j).a) := cell_of hc hlt (j := 0) (by omega) rfl
      have e1 : wr.cell? ⟨p, j * 4 + 1, none⟩ = some (.int .i64 (g l j).u) := cell_of hc hlt (j := 1) (by omega) rfl
      have e2 : wr.cell? ⟨p, j * 4 + 2, none⟩ = some (.int .i64 (g l j).i) := cell_of hc hlt (j := 2) (by omega) rfl
      have e3 : wr.cell? ⟨p, j * 4 + 3, none⟩ = some (.int .i64 (g l j).n) := cell_of hc hlt (j := 3) (by omega) rfl
      have p1 : (j : Int) < (l.length : Int) := by omega
      have HC := Lib.hid (isnum_any (g l j) n a wr ((cell_kept hbel.out a HA.out.2).trans HA.out.1) (Nat.lt_of_lt_of_le HA.out.2 hbel.out.size))
      clear hc h1 h2 h3 hbp
      go_wp2_with fail
      refine HC.out.mono ?_
      rintro e W2 ⟨rfl, hb2⟩
      have HB2 := Lib.hid (hbel.out.trans (hb2.mono hbel.out.size))
      clear HC hb2 e0 e1 e2 e3
      by_cases hn : (g l j).n = n
      · have HN := Lib.hid hn
        rw [show decide ((g l j).n = n) = true from decide_eq_true hn]
        clear hn
        go_wp2_with fail
        go_ret
        exact ⟨_, rfl, HB2.out, .inl ⟨j, hlt, rfl, HN.out⟩⟩
      · have HN := Lib.hid hn
        rw [show decide ((g l j).n = n) = false from decide_eq_false hn]
        clear hn
        go_wp2_with fail
        go_roundw
        case rel => exact ⟨j + 1, by omega, by go_num, (fun k hk => by
          by_cases e : k = j
          · subst e; exact HN.out
          · exact hno.out k (by omega)), HB2.out⟩
        case measure => simp [intOf]; omega
    · obtain rfl : j = l.length := by omega
      go_wp2_with fail
      go_ret
      refine ⟨_, rfl, hbel.out, .inr ⟨rfl, fun x hx => ?_⟩⟩
      obtain ⟨k, hk, rfl⟩ := mem_g hx
      exact hno.out k hk

set_option maxHeartbeats 4000000 in
theorem place_any (h : TRow W base v l) (h10 : l.length ≤ 100000) (n : Int) :
    Calls Try.prog 28 #[v, .int .i64 n] W fun e W' => ∃ r : Int, e = .returned (.int .i64 r) ∧ Below W.heap.size W W' ∧ ((∃ i : Nat, i < l.length ∧ r = (i : Int) ∧ (g l i).n = n) ∨ (r = -1 ∧ ∀ x ∈ l, x.n ≠ n)) := by
  have hal := (Below.refl W.heap.size W).alloc (Nat.le_refl _) (.cells #[.int .i64 n] 3)
  have kx : Cel (W.alloc (.cells #[.int .i64 n] 3)) W.heap.size 3 [.int .i64 n] := (blk1 W _).2
  have HC := Lib.hid (index_any (st_keep h hal) h10 n ⟨W.heap.size, 0, none⟩ (kx.cell (i := 0) rfl) kx.lt)
  have HA := Lib.hid hal
  clear h hal kx
  go_enter Try.func28, Try.ntmps28
  go_wp2_with fail
  refine HC.out.mono ?_
  rintro e W2 ⟨r, rfl, hb, hr⟩
  have HZ := Lib.hid (And.intro (HA.out.trans (hb.mono HA.out.size)) hr)
  clear HC hb hr
  go_wp2_with fail
  go_ret
  exact ⟨r, rfl, HZ.out.1, HZ.out.2⟩

theorem minA_snoc : ∀ (l : List Tk) (y : Tk) (m : Int), minA (l ++ [y]) m = min (minA l m) y.a
  | [], _, _ => rfl
  | x :: r, y, m => minA_snoc r y (min m x.a)

set_option maxHeartbeats 4000000 in
theorem earliest_any {x : Tk} {r : List Tk} (h : TRow W base v (x :: r)) (h10 : (x :: r).length ≤ 100000) :
    Calls Try.prog 30 #[v] W fun e W' => e = .returned (.int .i64 (minA r x.a)) ∧ Below W.heap.size W W' := by
  obtain ⟨p, cap, rest, rfl, hb, hc, h1, h2, h3⟩ := h.blk (by simp)
  have HC := Lib.hid hc
  have e0 : W.cell? ⟨p, 0, none⟩ = some (.int .i64 x.a) := cell_of hc (k := 0) (by simp) (j := 0) (by omega) rfl
  have hm : cap < 9223372036854775808 := by simp only [maxLen] at h2; omega
  rw [List.length_cons] at h1 h10 ⊢
  clear h hc h2 h3 hb
  cases hr : r with
  | nil =>
    subst hr
    go_enter Try.func30, Try.ntmps30
    go_wp2_with fail
    all_goals
      go_rounds 1
      go_ret
      exact ⟨rfl, Below.refl _ _⟩
  | cons y q =>
    rw [← hr]
    have hr1 : 1 ≤ r.length := by rw [hr]; simp
    have hc1 : ¬ cap = 1 := by omega
    clear hr
    go_enter Try.func30, Try.ntmps30
    go_wp2_with fail
    go_loopw [3, 13] (fun u i wr => ∃ j : Nat, j ≤ r.length ∧ u = .int .i64 (minA (r.take j) x.a) ∧ i = .int .i64 (j : Int) ∧ Hid (Below W.heap.size W wr)) (fun _ i _ => r.length - (intOf i).toNat)
    case atStart => exact ⟨0, by omega, rfl, rfl, Below.refl _ _⟩
    case round =>
      obtain ⟨j, hj, rfl, rfl, hbel⟩ := hrel
      by_cases hlt : j < r.length
      · have hc2 := HC.out.below hbel.out
        have e0 : wr.cell? ⟨p, 4 + j * 4, none⟩ = some (.int .i64 (g r j).a) := by rw [show 4 + j * 4 = (j + 1) * 4 by omega]; exact cell_of hc2 (k := j + 1) (by simp; omega) (j := 0) (by omega) rfl
        have e1 : wr.cell? ⟨p, 4 + j * 4 + 1, none⟩ = some (.int .i64 (g r j).u) := by rw [show 4 + j * 4 + 1 = (j + 1) * 4 + 1 by omega]; exact cell_of hc2 (k := j + 1) (by simp; omega) (j := 1) (by omega) rfl
        have e2 : wr.cell? ⟨p, 4 + j * 4 + 2, none⟩ = some (.int .i64 (g r j).i) := by rw [show 4 + j * 4 + 2 = (j + 1) * 4 + 2 by omega]; exact cell_of hc2 (k := j + 1) (by simp; omega) (j := 2) (by omega) rfl
        have e3 : wr.cell? ⟨p, 4 + j * 4 + 3, none⟩ = some (.int .i64 (g r j).n) := by rw [show 4 + j * 4 + 3 = (j + 1) * 4 + 3 by omega]; exact cell_of hc2 (k := j + 1) (by simp; omega) (j := 3) (by omega) rfl
        have hp := hc2.lt
        have p1 : (j : Int) < (r.length : Int) := by omega
        have hs := hbel.out.size
        clear hc2
        have ht : minA (r.take (j + 1)) x.a = min (minA (r.take j) x.a) (g r j).a := by
          rw [List.take_succ_eq_append_getElem hlt, minA_snoc, g_lt hlt]
        have HT := Lib.hid ht
        clear ht
        generalize minA (r.take j) x.a = m0 at HT ⊢
        go_wp2_with fail
        all_goals
          go_roundw
          case rel => exact ⟨j + 1, by omega, by rw [HT.out, Int.min_def]; congr 1; split <;> split <;> omega, by go_num, hbel.out.trans ((Below.refl _ _).alloc hs _)⟩
          case measure => simp [intOf]; omega
      · obtain rfl : j = r.length := by omega
        rw [List.take_length]
        go_wp2_with fail
        go_ret
        exact ⟨rfl, hbel.out⟩

end

end Du
end Go.Proofs.Ytpjoiepdcilcnaa
