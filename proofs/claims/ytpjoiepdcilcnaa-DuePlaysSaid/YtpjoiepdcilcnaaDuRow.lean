/- A row of tasks in the memory: what its methods do; no condition but the range. -/
import Derived.Test.YtpjoiepdcilcnaaDuMath
import Derived.Test.YtpjoiepdcilcnaaBkAppend
import Derived.Handy
namespace Go.Proofs.Ytpjoiepdcilcnaa
namespace Du
open Go.RowKit Bk

def tkC (x : Tk) : List Value := [.int .i64 x.a, .int .i64 x.u, .int .i64 x.i, .int .i64 x.n]
def tkV (x : Tk) : Value := .agg #[.int .i64 x.a, .int .i64 x.u, .int .i64 x.i, .int .i64 x.n]

theorem fl_len (l : List Tk) : (l.flatMap tkC).length = l.length * 4 := by
  induction l with
  | nil => rfl
  | cons x r ih => rw [List.flatMap_cons, List.length_append, ih, List.length_cons]; show 4 + _ = _; omega

theorem fl_at : ∀ {l : List Tk} {k : Nat} {x : Tk} (_ : l[k]? = some x) {j : Nat} (_ : j < 4), (l.flatMap tkC)[k * 4 + j]? = (tkC x)[j]?
  | [], k, x, h, j, _ => by simp at h
  | y :: r, 0, x, h, j, hj => by
    obtain rfl : y = x := by simpa using h
    rw [List.flatMap_cons, Nat.zero_mul, Nat.zero_add, List.getElem?_append_left (by show j < 4; exact hj)]
  | y :: r, k + 1, x, h, j, hj => by
    rw [List.flatMap_cons, List.getElem?_append_right (by show 4 ≤ _; omega)]
    rw [show (k + 1) * 4 + j - (tkC y).length = k * 4 + j by show _ - 4 = _; omega]
    exact fl_at (by simpa using h) hj

/-- a row of the call's own holds these tasks -/
def TRow (W : World) (base : Nat) (v : Value) (l : List Tk) : Prop := W.ownsRow base 60 4 v l.length (l.flatMap tkC)

/-- the row's block, known whole -/
theorem TRow.blk {W : World} {base : Nat} {v : Value} {l : List Tk} (h : TRow W base v l) (hp : 0 < l.length) :
    ∃ (p cap : Nat) (rest : List Value), v = .slice (some ⟨p, 0, none⟩) l.length cap ∧ base ≤ p ∧ Cel W p 60 (l.flatMap tkC ++ rest) ∧ l.length ≤ cap ∧ cap ≤ maxLen ∧ l.length * 4 + rest.length = cap * 4 := by
  obtain ⟨hl, h⟩ := h
  rcases h with ⟨_, h0⟩ | ⟨p, cap, cur, e1, h2, h3, h4, h5, h6, h7⟩
  · omega
  · refine ⟨p, cap, cur.toList.drop (l.length * 4), e1, h2, ?_, h4, h5, ?_⟩
    · unfold Cel
      rw [← h7, List.take_append_drop]
      exact h3
    · have e : cur.toList.length = cap * 4 := h6
      rw [List.length_drop, e]; omega

theorem TRow.of {W : World} {base p cap : Nat} {l : List Tk} {rest : List Value} (hb : base ≤ p) (h : Cel W p 60 (l.flatMap tkC ++ rest)) (h1 : l.length ≤ cap) (h2 : cap ≤ maxLen) (h3 : l.length * 4 + rest.length = cap * 4) : TRow W base (.slice (some ⟨p, 0, none⟩) l.length cap) l :=
  ⟨fl_len l, .inr ⟨p, cap, _, rfl, hb, h, h1, h2, by rw [List.size_toArray, List.length_append, fl_len]; exact h3, by rw [List.toList_toArray, ← fl_len l, List.take_left]⟩⟩

theorem cell_of {W : World} {p : Nat} {l : List Tk} {rest : List Value} (h : Cel W p 60 (l.flatMap tkC ++ rest)) {k : Nat} (hk : k < l.length) {j : Nat} (hj : j < 4) {u : Value} (hu : (tkC (g l k))[j]? = some u) : W.cell? ⟨p, k * 4 + j, none⟩ = some u :=
  h.cell (by rw [List.getElem?_append_left (by rw [fl_len]; omega), fl_at (at_g hk) hj]; exact hu)

/-- four cells are written over -/
theorem fl_set : ∀ (l : List Tk) (rest : List Value) (k : Nat) (x : Tk), k < l.length →
    ((((l.flatMap tkC ++ rest).set (k * 4) (.int .i64 x.a)).set (k * 4 + 1) (.int .i64 x.u)).set (k * 4 + 2) (.int .i64 x.i)).set (k * 4 + 3) (.int .i64 x.n) = (l.set k x).flatMap tkC ++ rest
  | [], _, k, _, h => by simp at h
  | y :: r, rest, 0, x, _ => by simp [tkC]
  | y :: r, rest, k + 1, x, h => by
    have ih := fl_set r rest k x (by simpa using h)
    rw [List.set_cons_succ, List.flatMap_cons, List.flatMap_cons, List.append_assoc, List.append_assoc, ← ih]
    rw [show (k + 1) * 4 = k * 4 + 4 by omega]
    simp [tkC, List.set_cons_succ]

/-- an address in the row -/
theorem row_addr (p k j : Nat) : (⟨p, 0, none⟩ : Addr).add (k * 4 + j) = ⟨p, k * 4 + j, none⟩ := addr_head p _

/-- a task is written at a place of a row -/
noncomputable def put4 (W : World) (p k : Nat) (x : Tk) : World :=
  (((W.setCell ⟨p, k * 4, none⟩ (.int .i64 x.a)).setCell ⟨p, k * 4 + 1, none⟩ (.int .i64 x.u)).setCell ⟨p, k * 4 + 2, none⟩ (.int .i64 x.i)).setCell ⟨p, k * 4 + 3, none⟩ (.int .i64 x.n)

theorem put4_cel {W : World} {p k : Nat} {x : Tk} {l : List Tk} {rest : List Value} (h : Cel W p 60 (l.flatMap tkC ++ rest)) (hk : k < l.length) : Cel (put4 W p k x) p 60 ((l.set k x).flatMap tkC ++ rest) := by
  have h2 : Cel (put4 W p k x) p _ _ := (((h.set (i := k * 4) (v := .int .i64 x.a)).set (i := k * 4 + 1) (v := .int .i64 x.u)).set (i := k * 4 + 2) (v := .int .i64 x.i)).set (i := k * 4 + 3) (v := .int .i64 x.n)
  rw [fl_set l rest k x hk] at h2
  exact h2

theorem put4_grown (W : World) (p k : Nat) (x : Tk) : W.grownBy (put4 W p k x) (some p) :=
  ⟨rfl, rfl, rfl, by simp [put4, World.setCell], fun j _ hn => by
    have h : j ≠ p := fun e => hn (by rw [e])
    unfold put4
    rw [Below.heap_setCell _ ⟨p, k * 4 + 3, none⟩ _ j h, Below.heap_setCell _ ⟨p, k * 4 + 2, none⟩ _ j h, Below.heap_setCell _ ⟨p, k * 4 + 1, none⟩ _ j h, Below.heap_setCell _ ⟨p, k * 4, none⟩ _ j h]⟩

theorem grown_trans {a b c : World} {r : Option Nat} (h : a.grownBy b r) (k : b.grownBy c r) : a.grownBy c r :=
  ⟨k.os.trans h.os, k.tape.trans h.tape, k.output.trans h.output, Nat.le_trans h.size k.size, fun i hi hn => (k.block i (Nat.lt_of_lt_of_le hi h.size) hn).trans (h.block i hi hn)⟩

theorem grown_drew {a b : World} {r : Option Nat} (h : a.grownBy b r) : a.grownBy b.drew r := ⟨h.os, h.tape, h.output, h.size, h.block⟩

set_option maxHeartbeats 2000000 in
theorem swap_any {W : World} {base : Nat} {v : Value} {l : List Tk} (h : TRow W base v l) (i j : Nat) (hi : i < l.length) (hj : j < l.length) :
    Calls Try.prog 52 #[v, .int .i64 i, .int .i64 j] W fun e W' => e = .returned (.tuple #[]) ∧ TRow W' base v (swL l i j) ∧ W.grownBy W' v.ownBlock := by
  obtain ⟨p, cap, rest, rfl, hb, hc, h1, h2, h3⟩ := h.blk (by omega)
  have hm : cap < 9223372036854775808 := by simp only [maxLen] at h2; omega
  have fr := fun k => hc.free (i := k)
  have d0 : W.cell? ⟨p, j * 4, none⟩ = some (.int .i64 (g l j).a) := cell_of hc hj (j := 0) (by omega) rfl
  have d1 : W.cell? ⟨p, j * 4 + 1, none⟩ = some (.int .i64 (g l j).u) := cell_of hc hj (j := 1) (by omega) rfl
  have d2 : W.cell? ⟨p, j * 4 + 2, none⟩ = some (.int .i64 (g l j).i) := cell_of hc hj (j := 2) (by omega) rfl
  have d3 : W.cell? ⟨p, j * 4 + 3, none⟩ = some (.int .i64 (g l j).n) := cell_of hc hj (j := 3) (by omega) rfl
  have hl2 : (swL l i j).length = l.length := sw_len l i j
  have hc3 := put4_cel (k := j) (x := g l i) (put4_cel (k := i) (x := g l j) hc hi) (by rw [List.length_set]; exact hj)
  have hz0 : TRow (put4 (put4 W p i (g l j)) p j (g l i)) base (.slice (some ⟨p, 0, none⟩) (swL l i j).length cap) (swL l i j) :=
    TRow.of hb hc3 (by rw [hl2]; exact h1) h2 (by rw [hl2]; exact h3)
  rw [hl2] at hz0
  have hz : TRow (put4 (put4 W p i (g l j)) p j (g l i)).drew base (.slice (some ⟨p, 0, none⟩) l.length cap) (swL l i j) := World.ownsRow.drew hz0
  have hg0 := grown_trans (put4_grown W p i (g l j)) (put4_grown (put4 W p i (g l j)) p j (g l i))
  have hg : W.grownBy (put4 (put4 W p i (g l j)) p j (g l i)).drew (some p) := grown_drew hg0
  have HZ := Lib.hid (And.intro hz hg)
  clear h hz hg hz0 hg0 hc3 hl2
  by_cases hij : i = j
  · subst hij
    go_enter Try.func52, Try.ntmps52
    go_region
    go_wp2
    go_end0
    exact ⟨rfl, HZ.out⟩
  · have hji : ¬ j = i := fun e => hij e.symm
    have e0 : W.cell? ⟨p, i * 4, none⟩ = some (.int .i64 (g l i).a) := cell_of hc hi (j := 0) (by omega) rfl
    have e1 : W.cell? ⟨p, i * 4 + 1, none⟩ = some (.int .i64 (g l i).u) := cell_of hc hi (j := 1) (by omega) rfl
    have e2 : W.cell? ⟨p, i * 4 + 2, none⟩ = some (.int .i64 (g l i).i) := cell_of hc hi (j := 2) (by omega) rfl
    have e3 : W.cell? ⟨p, i * 4 + 3, none⟩ = some (.int .i64 (g l i).n) := cell_of hc hi (j := 3) (by omega) rfl
    go_enter Try.func52, Try.ntmps52
    go_region
    go_wp2
    go_end0
    exact ⟨rfl, HZ.out⟩

theorem len_any {W : World} {A : Option Addr} {n c : Nat} :
    Calls Try.prog 24 #[.slice A n c] W fun e W' => e = .returned (.int .i64 n) ∧ W' = W := by
  go_enter Try.func24, Try.ntmps24
  go_wp2
  go_ret
  exact ⟨rfl, rfl⟩

/-- what comes earlier -/
def ltW (x y : Tk) : Bool := decide (x.a < y.a)

/-- what is more urgent; as urgent and earlier; put ahead -/
def ltR (x y : Tk) : Bool := decide (y.u < x.u ∨ (y.u = x.u ∧ (x.a < y.a ∨ (x.a = y.a ∧ x.n < y.n))))

theorem ordW : Ordd ltW := ⟨fun a b c h1 h2 => by simp only [ltW, decide_eq_false_iff_not] at *; omega, fun a b h => by simp only [ltW, decide_eq_false_iff_not, decide_eq_true_eq] at *; omega⟩
theorem ordR : Ordd ltR := ⟨fun a b c h1 h2 => by simp only [ltR, decide_eq_false_iff_not] at *; omega, fun a b h => by simp only [ltR, decide_eq_false_iff_not, decide_eq_true_eq] at *; omega⟩

set_option maxHeartbeats 2000000 in
theorem lessW_any {W : World} {base : Nat} {v : Value} {l : List Tk} (h : TRow W base v l) (i j : Nat) (hi : i < l.length) (hj : j < l.length) :
    Calls Try.prog 53 #[.agg #[v], .int .i64 i, .int .i64 j] W fun e W' => e = .returned (.bool (ltW (g l i) (g l j))) ∧ Below W.heap.size W W' := by
  obtain ⟨p, cap, rest, rfl, hb, hc, h1, h2, h3⟩ := h.blk (by omega)
  have hm : cap < 9223372036854775808 := by simp only [maxLen] at h2; omega
  have d0 : W.cell? ⟨p, j * 4, none⟩ = some (.int .i64 (g l j).a) := cell_of hc hj (j := 0) (by omega) rfl
  have e0 : W.cell? ⟨p, i * 4, none⟩ = some (.int .i64 (g l i).a) := cell_of hc hi (j := 0) (by omega) rfl
  have hp := hc.lt
  clear h hc
  unfold ltW
  go_enter Try.func53, Try.ntmps53
  go_upto_region 1 with fail
  go_region
  go_wp2
  go_ret
  exact ⟨rfl, ((Below.refl _ _).alloc (Nat.le_refl _) _).drew⟩

def cmI (a b : Int) : Int := if a < b then -1 else if b < a then 1 else 0

theorem compare_any (a b : Int) (W : World) :
    Calls Try.prog 56 #[.int .i64 a, .int .i64 b] W fun e W' => e = .returned (.int .i64 (cmI a b)) ∧ W' = W := by
  unfold cmI
  go_enter Try.func56, Try.ntmps56
  go_wp2
  all_goals
    go_ret
    exact ⟨rfl, rfl⟩

theorem or_blk {p : Nat} {a b c : Int} {t : TypeId} {W : World} (h : Cel W p t [.int .i64 a, .int .i64 b, .int .i64 c]) : W.cell? ⟨p, 0, none⟩ = some (.int .i64 a) ∧ W.cell? ⟨p, 1, none⟩ = some (.int .i64 b) ∧ W.cell? ⟨p, 2, none⟩ = some (.int .i64 c) := ⟨h.cell rfl, h.cell rfl, h.cell rfl⟩

def orI (a b c : Int) : Int := if a ≠ 0 then a else if b ≠ 0 then b else c

theorem or_any (p : Nat) (a b c : Int) (cap : Nat) (W : World) (h0 : W.cell? ⟨p, 0, none⟩ = some (.int .i64 a)) (h1 : W.cell? ⟨p, 1, none⟩ = some (.int .i64 b)) (h2 : W.cell? ⟨p, 2, none⟩ = some (.int .i64 c)) :
    Calls Try.prog 55 #[.slice (some ⟨p, 0, none⟩) 3 cap] W fun e W' => e = .returned (.int .i64 (orI a b c)) ∧ W' = W := by
  unfold orI
  go_enter Try.func55, Try.ntmps55
  go_wp2_with fail
  go_rounds 4
  all_goals
    go_ret
    refine ⟨?_, rfl⟩
    simp_all

/-- the sign of three comparisons -/
theorem or_ltR (x y : Tk) : decide (orI (cmI y.u x.u) (cmI x.a y.a) (cmI x.n y.n) < 0) = ltR x y := by
  unfold orI cmI ltR
  congr 1
  apply propext
  rcases Int.lt_trichotomy x.u y.u with h | h | h
  · rw [if_neg (by omega : ¬ y.u < x.u), if_pos h]; simp; omega
  · rw [if_neg (by omega : ¬ y.u < x.u), if_neg (by omega : ¬ x.u < y.u)]
    rcases Int.lt_trichotomy x.a y.a with h2 | h2 | h2
    · rw [if_pos h2]; simp; omega
    · rw [if_neg (by omega : ¬ x.a < y.a), if_neg (by omega : ¬ y.a < x.a)]
      rcases Int.lt_trichotomy x.n y.n with h3 | h3 | h3
      · rw [if_pos h3]; simp; omega
      · rw [if_neg (by omega : ¬ x.n < y.n), if_neg (by omega : ¬ y.n < x.n)]; simp; omega
      · rw [if_neg (by omega : ¬ x.n < y.n), if_pos h3]; simp; omega
    · rw [if_neg (by omega : ¬ x.a < y.a), if_pos h2]; simp; omega
  · rw [if_pos h]; simp; omega

theorem keep1 {W : World} {a : Addr} {v : Value} (h : W.cell? a = some v) (hb : a.block < W.heap.size) (A : Obj) : (W.alloc A).cell? a = some v := (cell_kept ((Below.refl _ W).alloc (Nat.le_refl _) A) a hb).trans h
theorem keep2 {W : World} {a : Addr} {v : Value} (h : W.cell? a = some v) (hb : a.block < W.heap.size) (A B : Obj) : ((W.alloc A).alloc B).cell? a = some v := (cell_kept (((Below.refl _ W).alloc (Nat.le_refl _) A).alloc (by simp) B) a hb).trans h

end Du
end Go.Proofs.Ytpjoiepdcilcnaa
