/- A queue of tasks in plain terms: what each call answers and leaves, and how two heaps keep it; no condition. -/
import Derived.Test.YtpjoiepdcilcnaaDuRow
namespace Go.Proofs.Ytpjoiepdcilcnaa
namespace Du

/-- a queue: its tasks in the order in which they were put, its tick, how many were put -/
structure Ds where
  L : List Tk
  tick : Int
  many : Int

def putD (D : Ds) (a u i : Int) : Ds × Int × Int :=
  if a < 0 ∨ 1099511627776 < a then (D, 0, 1) else if 1024 ≤ D.L.length then (D, 0, 2) else (⟨D.L ++ [⟨a, u, i, D.many + 1⟩], D.tick, D.many + 1⟩, D.many + 1, 0)

/-- which of the first k tasks that are due comes first -/
def ahB (L : List Tk) (k : Nat) : Option Nat → Bool
  | none => true
  | some b => ltR (g L k) (g L b)
def bestK (L : List Tk) (t : Int) : Nat → Option Nat
  | 0 => none
  | k + 1 => if (g L k).a ≤ t ∧ ahB L k (bestK L t k) = true then some k else bestK L t k

def takeD (D : Ds) : Ds × Int × Bool :=
  match bestK D.L D.tick D.L.length with
  | none => (D, 0, false)
  | some b => (⟨D.L.eraseIdx b, D.tick, D.many⟩, (g D.L b).i, true)

def numI (L : List Tk) (n : Int) : Nat := L.findIdx (fun x => decide (x.n = n))

def dropD (D : Ds) (n : Int) : Ds × Int := if numI D.L n < D.L.length then (⟨D.L.eraseIdx (numI D.L n), D.tick, D.many⟩, 0) else (D, 5)

def goD (D : Ds) (t : Int) : Ds × Int := if t < D.tick ∨ 1099511627776 < t then (D, 1) else (⟨D.L, t, D.many⟩, 0)

def minA : List Tk → Int → Int
  | [], m => m
  | x :: r, m => minA r (min m x.a)

def nextD (D : Ds) : Int × Bool :=
  match D.L with
  | [] => (0, false)
  | x :: r => (minA r x.a, true)

theorem mem_g {L : List Tk} {x : Tk} (h : x ∈ L) : ∃ k, k < L.length ∧ g L k = x := by
  obtain ⟨k, hk, e⟩ := List.mem_iff_getElem.1 h
  exact ⟨k, hk, by rw [g_lt hk]; exact e⟩
theorem g_mem {L : List Tk} {k : Nat} (h : k < L.length) : g L k ∈ L := by rw [g_lt h]; exact List.getElem_mem h

theorem best_none {L : List Tk} {t : Int} : ∀ {k : Nat}, bestK L t k = none → ∀ j, j < k → t < (g L j).a
  | 0, _, j, hj => by omega
  | k + 1, h, j, hj => by
    rw [bestK] at h
    by_cases hc : (g L k).a ≤ t ∧ ahB L k (bestK L t k) = true
    · rw [if_pos hc] at h; cases h
    · rw [if_neg hc] at h
      have ih := best_none h
      by_cases e : j = k
      · subst e
        rw [h] at hc
        have : ¬ (g L j).a ≤ t := fun q => hc ⟨q, rfl⟩
        omega
      · exact ih j (by omega)

theorem best_some {L : List Tk} {t : Int} : ∀ {k b : Nat}, bestK L t k = some b → b < k ∧ (g L b).a ≤ t ∧ ∀ j, j < k → (g L j).a ≤ t → ltR (g L j) (g L b) = false
  | 0, b, h => by simp [bestK] at h
  | k + 1, b, h => by
    rw [bestK] at h
    by_cases hc : (g L k).a ≤ t ∧ ahB L k (bestK L t k) = true
    · rw [if_pos hc] at h
      obtain rfl : k = b := Option.some.inj h
      refine ⟨by omega, hc.1, fun j hj hd => ?_⟩
      by_cases e : j = k
      · subst e; exact ordR.self _
      · cases hb : bestK L t k with
        | none => have := best_none hb j (by omega); omega
        | some c =>
          have h2 := hc.2
          rw [hb] at h2
          obtain ⟨_, _, h3⟩ := best_some hb
          exact ordR.tr _ _ _ (ordR.asy _ _ h2) (h3 j (by omega) hd)
    · rw [if_neg hc] at h
      obtain ⟨h1, h2, h3⟩ := best_some h
      refine ⟨by omega, h2, fun j hj hd => ?_⟩
      by_cases e : j = k
      · subst e
        rw [h] at hc
        cases hl : ltR (g L j) (g L b) with
        | false => rfl
        | true => exact absurd ⟨hd, hl⟩ hc
      · exact h3 j (by omega) hd

theorem erase_perm {L : List Tk} {j : Nat} (hj : j < L.length) : (L[j] :: L.eraseIdx j).Perm L := by
  rw [List.eraseIdx_eq_take_drop_succ]
  refine (List.perm_middle (a := L[j]) (l₁ := L.take j)).symm.trans (List.Perm.of_eq ?_)
  rw [← List.drop_eq_getElem_cons hj, List.take_append_drop]

/-- two heaps keep the queue -/
structure QInv (D : Ds) (A B : List Tk) : Prop where
  perm : (A ++ B).Perm D.L
  hw : Hp ltW A A.length
  hr : Hp ltR B B.length
  wt : ∀ x ∈ A, D.tick < x.a
  rt : ∀ x ∈ B, x.a ≤ D.tick
  num : D.L.Pairwise (fun x y => x.n < y.n)
  pos : ∀ x ∈ D.L, 1 ≤ x.n ∧ x.n ≤ D.many
  tick : 0 ≤ D.tick ∧ D.tick ≤ 1099511627776
  len : D.L.length ≤ 1024
  many : 0 ≤ D.many

def newD : Ds := ⟨[], 0, 0⟩

theorem qinv_new : QInv newD [] [] := ⟨.refl _, fun k _ h => by simp at h, fun k _ h => by simp at h, by simp, by simp, List.Pairwise.nil, by simp [newD], by simp [newD], by simp [newD], by simp [newD]⟩

section
variable {D : Ds} {A B : List Tk}

theorem QInv.lens (h : QInv D A B) : A.length + B.length = D.L.length := by rw [← List.length_append]; exact h.perm.length_eq
theorem QInv.mem (h : QInv D A B) {x : Tk} : x ∈ D.L ↔ x ∈ A ∨ x ∈ B := by rw [← h.perm.mem_iff, List.mem_append]

theorem num_eq {L : List Tk} (h : L.Pairwise (fun x y => x.n < y.n)) {x y : Tk} (hx : x ∈ L) (hy : y ∈ L) (e : x.n = y.n) : x = y := by
  obtain ⟨i, hi, rfl⟩ := List.mem_iff_getElem.1 hx
  obtain ⟨j, hj, rfl⟩ := List.mem_iff_getElem.1 hy
  rw [List.pairwise_iff_getElem] at h
  rcases Nat.lt_trichotomy i j with hl | hl | hl
  · have := h i j hi hj hl; omega
  · subst hl; rfl
  · have := h j i hj hi hl; omega

theorem QInv.put (h : QInv D A B) {a u i : Int} (h3 : D.L.length < 1024) :
    (D.tick < a → QInv ⟨D.L ++ [⟨a, u, i, D.many + 1⟩], D.tick, D.many + 1⟩ (pushL ltW A ⟨a, u, i, D.many + 1⟩) B) ∧
    (a ≤ D.tick → QInv ⟨D.L ++ [⟨a, u, i, D.many + 1⟩], D.tick, D.many + 1⟩ A (pushL ltR B ⟨a, u, i, D.many + 1⟩)) := by
  have hnum : (D.L ++ [(⟨a, u, i, D.many + 1⟩ : Tk)]).Pairwise (fun x y => x.n < y.n) := by
    rw [List.pairwise_append]
    refine ⟨h.num, List.pairwise_singleton _ _, fun x hx y hy => ?_⟩
    obtain rfl := List.mem_singleton.1 hy
    have := (h.pos x hx).2
    show x.n < D.many + 1
    omega
  have hpos : ∀ x ∈ D.L ++ [(⟨a, u, i, D.many + 1⟩ : Tk)], 1 ≤ x.n ∧ x.n ≤ D.many + 1 := fun x hx => by
    rcases List.mem_append.1 hx with hx | hx
    · have := h.pos x hx; omega
    · obtain rfl := List.mem_singleton.1 hx
      have := h.many
      show 1 ≤ D.many + 1 ∧ D.many + 1 ≤ D.many + 1
      omega
  have hlen : (D.L ++ [(⟨a, u, i, D.many + 1⟩ : Tk)]).length ≤ 1024 := by simp; omega
  have hm := h.many
  refine ⟨fun hlt => ⟨?_, push_hp ordW h.hw, h.hr, fun x hx => ?_, h.rt, hnum, hpos, h.tick, hlen, by show 0 ≤ D.many + 1; omega⟩, fun hle => ⟨?_, h.hw, push_hp ordR h.hr, h.wt, fun x hx => ?_, hnum, hpos, h.tick, hlen, by show 0 ≤ D.many + 1; omega⟩⟩
  · refine ((push_perm _ _ _).append_right B).trans ?_
    rw [List.append_assoc]
    exact ((List.perm_append_comm (l₁ := [_]) (l₂ := B)).append_left A).trans (by rw [← List.append_assoc]; exact h.perm.append_right _)
  · rcases List.mem_append.1 ((push_perm _ _ _).mem_iff.1 hx) with hx | hx
    · exact h.wt x hx
    · obtain rfl := List.mem_singleton.1 hx; exact hlt
  · refine ((push_perm _ _ _).append_left A).trans ?_
    rw [← List.append_assoc]
    exact h.perm.append_right _
  · rcases List.mem_append.1 ((push_perm _ _ _).mem_iff.1 hx) with hx | hx
    · exact h.rt x hx
    · obtain rfl := List.mem_singleton.1 hx; exact hle

/-- the tasks but one -/
theorem QInv.out (h : QInv D A B) {A' B' : List Tk} {x : Tk} {j : Nat} (hj : j < D.L.length) (hx : g D.L j = x) (hp : (A ++ B).Perm (x :: (A' ++ B'))) (hA : Hp ltW A' A'.length) (hB : Hp ltR B' B'.length) (hsA : ∀ y ∈ A', y ∈ A) (hsB : ∀ y ∈ B', y ∈ B) : QInv ⟨D.L.eraseIdx j, D.tick, D.many⟩ A' B' := by
  have he : (x :: D.L.eraseIdx j).Perm D.L := by rw [← hx, g_lt hj]; exact erase_perm hj
  have hsub := List.eraseIdx_sublist D.L j
  refine ⟨?_, hA, hB, fun y hy => h.wt y (hsA y hy), fun y hy => h.rt y (hsB y hy), h.num.sublist hsub, fun y hy => h.pos y (hsub.subset hy), h.tick, Nat.le_trans hsub.length_le h.len, h.many⟩
  exact ((hp.symm.trans (h.perm.trans he.symm)).cons_inv)

/-- out of one heap -/
theorem pop_split {lt : Tk → Tk → Bool} {l : List Tk} {n : Nat} (h : l.length = n + 1) : l.Perm (g l 0 :: (popM lt l n).take n) := by
  have e := cut_last (l := popM lt l n) (n := n) (by rw [pop_len]; exact h)
  rw [pop_last lt h] at e
  exact (pop_perm lt h).symm.trans ((List.Perm.of_eq e).trans List.perm_append_comm)

theorem rem_split {lt : Tk → Tk → Bool} {l : List Tk} {i n : Nat} (h : l.length = n + 1) (hi : i ≤ n) : l.Perm (g l i :: (remM lt l i n).take n) := by
  have e := cut_last (l := remM lt l i n) (n := n) (by rw [rem_len]; exact h)
  rw [rem_last lt h hi] at e
  exact (rem_perm lt h hi).symm.trans ((List.Perm.of_eq e).trans List.perm_append_comm)

theorem ltR_eq {x y : Tk} (h1 : ltR x y = false) (h2 : ltR y x = false) : x.n = y.n := by
  simp only [ltR, decide_eq_false_iff_not] at h1 h2
  omega

theorem QInv.take_none (h : QInv D A []) : takeD D = (D, 0, false) := by
  unfold takeD
  cases hb : bestK D.L D.tick D.L.length with
  | none => rfl
  | some b =>
    obtain ⟨h1, h2, _⟩ := best_some hb
    rcases h.mem.1 (g_mem h1) with hx | hx
    · have := h.wt _ hx; omega
    · simp at hx

theorem QInv.take_some (h : QInv D A B) {n : Nat} (hn : B.length = n + 1) : ∃ D', takeD D = (D', (g B 0).i, true) ∧ D'.tick = D.tick ∧ D'.many = D.many ∧ QInv D' A ((popM ltR B n).take n) := by
  have hroot : g B 0 ∈ B := g_mem (by omega)
  have hrL : g B 0 ∈ D.L := h.mem.2 (.inr hroot)
  obtain ⟨j, hj, ej⟩ := mem_g hrL
  unfold takeD
  cases hb : bestK D.L D.tick D.L.length with
  | none =>
    have := best_none hb j hj
    rw [ej] at this
    have := h.rt _ hroot
    omega
  | some b =>
    obtain ⟨h1, h2, h3⟩ := best_some hb
    have hbB : g D.L b ∈ B := (h.mem.1 (g_mem h1)).elim (fun hx => by have := h.wt _ hx; omega) id
    obtain ⟨m, hm, em⟩ := mem_g hbB
    have q1 := h3 j hj (by rw [ej]; exact h.rt _ hroot)
    rw [ej] at q1
    have q2 := h.hr.root ordR m hm
    rw [em] at q2
    have e : g D.L b = g B 0 := num_eq h.num (g_mem h1) hrL (ltR_eq q2 q1)
    refine ⟨⟨D.L.eraseIdx b, D.tick, D.many⟩, by simp only [e], rfl, rfl, ?_⟩
    have hp := pop_split (lt := ltR) hn
    refine h.out h1 e ((hp.append_left A).trans (List.perm_middle (a := g B 0) (l₁ := A))) h.hw ?_ (fun y hy => hy) (fun y hy => hp.mem_iff.2 (List.mem_cons_of_mem _ hy))
    exact (pop_hp ordR hn (hn ▸ h.hr)).take (by rw [pop_len]; omega)

theorem numI_at {L : List Tk} {n : Int} (h : numI L n < L.length) : (g L (numI L n)).n = n := by
  have := List.findIdx_getElem (p := fun x : Tk => decide (x.n = n)) (w := h)
  rw [g_lt h]
  exact of_decide_eq_true this
theorem numI_none {L : List Tk} {n : Int} (h : ¬ numI L n < L.length) : ∀ x ∈ L, x.n ≠ n := fun x hx e => h (by
  unfold numI
  exact List.findIdx_lt_length_of_exists ⟨x, hx, by simp [e]⟩)

theorem QInv.drop_none (h : QInv D A B) {n : Int} (hA : ∀ x ∈ A, x.n ≠ n) (hB : ∀ x ∈ B, x.n ≠ n) : dropD D n = (D, 5) := by
  unfold dropD
  split
  · rename_i hl
    rcases h.mem.1 (g_mem hl) with hx | hx
    · exact absurd (numI_at hl) (hA _ hx)
    · exact absurd (numI_at hl) (hB _ hx)
  · rfl

theorem QInv.drop_w (h : QInv D A B) {n : Int} {i m : Nat} (hm : A.length = m + 1) (hi : i ≤ m) (hn : (g A i).n = n) : ∃ D', dropD D n = (D', 0) ∧ D'.tick = D.tick ∧ D'.many = D.many ∧ QInv D' ((remM ltW A i m).take m) B := by
  have hx : g A i ∈ D.L := h.mem.2 (.inl (g_mem (by omega)))
  have hl : numI D.L n < D.L.length := Classical.byContradiction fun hc => numI_none hc _ hx hn
  unfold dropD
  rw [if_pos hl]
  have e : g D.L (numI D.L n) = g A i := num_eq h.num (g_mem hl) hx ((numI_at hl).trans hn.symm)
  have hp := rem_split (lt := ltW) hm hi
  refine ⟨_, rfl, rfl, rfl, h.out hl e (hp.append_right B) ?_ h.hr (fun y hy => hp.mem_iff.2 (List.mem_cons_of_mem _ hy)) (fun y hy => hy)⟩
  exact (rem_hp ordW hm hi (hm ▸ h.hw)).take (by rw [rem_len]; omega)

theorem QInv.drop_r (h : QInv D A B) {n : Int} {i m : Nat} (hm : B.length = m + 1) (hi : i ≤ m) (hn : (g B i).n = n) : ∃ D', dropD D n = (D', 0) ∧ D'.tick = D.tick ∧ D'.many = D.many ∧ QInv D' A ((remM ltR B i m).take m) := by
  have hx : g B i ∈ D.L := h.mem.2 (.inr (g_mem (by omega)))
  have hl : numI D.L n < D.L.length := Classical.byContradiction fun hc => numI_none hc _ hx hn
  unfold dropD
  rw [if_pos hl]
  have e : g D.L (numI D.L n) = g B i := num_eq h.num (g_mem hl) hx ((numI_at hl).trans hn.symm)
  have hp := rem_split (lt := ltR) hm hi
  refine ⟨_, rfl, rfl, rfl, h.out hl e ((hp.append_left A).trans (List.perm_middle (a := g B i) (l₁ := A))) h.hw ?_ (fun y hy => hy) (fun y hy => hp.mem_iff.2 (List.mem_cons_of_mem _ hy))⟩
  exact (rem_hp ordR hm hi (hm ▸ h.hr)).take (by rw [rem_len]; omega)

/-- while the tick comes: what is due by it goes from one heap to the other -/
structure GoI (D : Ds) (t : Int) (A B : List Tk) : Prop where
  perm : (A ++ B).Perm D.L
  hw : Hp ltW A A.length
  hr : Hp ltR B B.length
  rt : ∀ x ∈ B, x.a ≤ t

theorem QInv.go_start (h : QInv D A B) {t : Int} (ht : D.tick ≤ t) : GoI D t A B := ⟨h.perm, h.hw, h.hr, fun x hx => by have := h.rt x hx; omega⟩

theorem GoI.step {t : Int} (h : GoI D t A B) {n : Nat} (hn : A.length = n + 1) (h0 : (g A 0).a ≤ t) : GoI D t ((popM ltW A n).take n) (pushL ltR B (g A 0)) := by
  have hp := pop_split (lt := ltW) hn
  refine ⟨?_, (pop_hp ordW hn (hn ▸ h.hw)).take (by rw [pop_len]; omega), push_hp ordR h.hr, fun x hx => ?_⟩
  · refine ((push_perm _ _ _).append_left _).trans ?_
    rw [← List.append_assoc]
    refine (List.perm_append_comm (l₂ := [g A 0])).trans ?_
    refine List.Perm.trans ?_ h.perm
    exact (hp.symm.append_right B)
  · rcases List.mem_append.1 ((push_perm _ _ _).mem_iff.1 hx) with hx | hx
    · exact h.rt x hx
    · obtain rfl := List.mem_singleton.1 hx; exact h0

theorem GoI.over {A' B' : List Tk} (q : QInv D A' B') {t : Int} (h : GoI D t A B) (h1 : D.tick ≤ t) (h2 : t ≤ 1099511627776) (h0 : A = [] ∨ t < (g A 0).a) : QInv ⟨D.L, t, D.many⟩ A B :=
  ⟨h.perm, h.hw, h.hr, fun x hx => by
    rcases h0 with rfl | h0
    · simp at hx
    · obtain ⟨k, hk, rfl⟩ := mem_g hx
      have := h.hw.root ordW k hk
      simp only [ltW, decide_eq_false_iff_not] at this
      show t < _
      omega, h.rt, q.num, q.pos, by have := q.tick; show 0 ≤ t ∧ t ≤ _; omega, q.len, q.many⟩

theorem minA_spec : ∀ (L : List Tk) (m : Int), minA L m ≤ m ∧ (∀ x ∈ L, minA L m ≤ x.a) ∧ (minA L m = m ∨ ∃ x ∈ L, minA L m = x.a)
  | [], m => ⟨Int.le_refl _, by simp, .inl rfl⟩
  | x :: r, m => by
    obtain ⟨h1, h2, h3⟩ := minA_spec r (min m x.a)
    have e1 : min m x.a ≤ m := Int.min_le_left _ _
    have e2 : min m x.a ≤ x.a := Int.min_le_right _ _
    refine ⟨by show minA r _ ≤ m; omega, fun y hy => ?_, ?_⟩
    · rcases List.mem_cons.1 hy with rfl | hy
      · show minA r _ ≤ _; omega
      · exact h2 y hy
    · rcases h3 with h3 | ⟨y, hy, h3⟩
      · rcases Int.le_total m x.a with h | h
        · exact .inl (h3.trans (Int.min_eq_left h))
        · exact .inr ⟨x, List.mem_cons_self, h3.trans (Int.min_eq_right h)⟩
      · exact .inr ⟨y, List.mem_cons_of_mem _ hy, h3⟩

theorem next_least {D : Ds} {m : Int} (h1 : ∃ x ∈ D.L, x.a = m) (h2 : ∀ x ∈ D.L, m ≤ x.a) : nextD D = (m, true) := by
  unfold nextD
  obtain ⟨y, hy, ey⟩ := h1
  cases hL : D.L with
  | nil => rw [hL] at hy; simp at hy
  | cons x r =>
    rw [hL] at hy h2
    obtain ⟨a1, a2, a3⟩ := minA_spec r x.a
    have l1 : minA r x.a ≤ m := by
      rcases List.mem_cons.1 hy with rfl | hy
      · omega
      · have := a2 y hy; omega
    have l2 : m ≤ minA r x.a := by
      rcases a3 with e | ⟨z, hz, e⟩
      · rw [e]; exact h2 x List.mem_cons_self
      · rw [e]; exact h2 z (List.mem_cons_of_mem _ hz)
    show (minA r x.a, true) = _
    rw [show minA r x.a = m by omega]

theorem QInv.next_r (h : QInv D A B) {x : Tk} {r : List Tk} (hB : B = x :: r) : nextD D = (minA r x.a, true) := by
  obtain ⟨a1, a2, a3⟩ := minA_spec r x.a
  have hx : x ∈ B := by rw [hB]; exact List.mem_cons_self
  have hle : minA r x.a ≤ D.tick := by have := h.rt x hx; omega
  refine next_least ?_ fun y hy => ?_
  · rcases a3 with e | ⟨z, hz, e⟩
    · exact ⟨x, h.mem.2 (.inr hx), e.symm⟩
    · exact ⟨z, h.mem.2 (.inr (by rw [hB]; exact List.mem_cons_of_mem _ hz)), e.symm⟩
  · rcases h.mem.1 hy with hy | hy
    · have := h.wt y hy; omega
    · rw [hB] at hy
      rcases List.mem_cons.1 hy with rfl | hy
      · exact a1
      · exact a2 y hy
theorem QInv.next_w (h : QInv D A []) (h0 : 0 < A.length) : nextD D = ((g A 0).a, true) := by
  refine next_least ⟨_, h.mem.2 (.inl (g_mem h0)), rfl⟩ fun y hy => ?_
  rcases h.mem.1 hy with hy | hy
  · obtain ⟨k, hk, rfl⟩ := mem_g hy
    have := h.hw.root ordW k hk
    simp only [ltW, decide_eq_false_iff_not] at this
    omega
  · simp at hy
theorem QInv.next_none (h : QInv D [] []) : nextD D = (0, false) := by
  have : D.L = [] := by have := h.lens; exact List.eq_nil_of_length_eq_zero (by simpa using this.symm)
  unfold nextD
  rw [this]

end

end Du
end Go.Proofs.Ytpjoiepdcilcnaa
