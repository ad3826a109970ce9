/- Inverses by steps on rows, in plain functions: what each step keeps, what stands at the end, why there is none; no condition. -/
import Derived.Test.YtmnciipfepeccaaGfAlg
namespace Go.Proofs.Ytmnciipfepeccaa.GfU

theorem sq_refl (n : Nat) (A : Nat → Nat → UInt8) : sq n A A := fun _ _ _ _ => rfl

theorem sq_symm {n : Nat} {A B : Nat → Nat → UInt8} (h : sq n A B) : sq n B A := fun i j hi hj => (h i j hi hj).symm

theorem sq_trans {n : Nat} {A B C : Nat → Nat → UInt8} (h : sq n A B) (k : sq n B C) : sq n A C := fun i j hi hj => (h i j hi hj).trans (k i j hi hj)

theorem sq_mm {n : Nat} {A A' B B' : Nat → Nat → UInt8} (h : sq n A A') (k : sq n B B') : sq n (mm n A B) (mm n A' B') :=
  fun i j hi hj => mm_congr n i j (fun l hl => h i l hi hl) (fun l hl => k l j hl hj)

theorem sq_assoc (n : Nat) (A B C : Nat → Nat → UInt8) : sq n (mm n (mm n A B) C) (mm n A (mm n B C)) := fun i j _ _ => mm_assoc n n A B C i j

theorem sq_one_mm (n : Nat) (A : Nat → Nat → UInt8) : sq n (mm n one A) A := fun i j hi _ => one_mm n A i j hi

theorem sq_mm_one (n : Nat) (A : Nat → Nat → UInt8) : sq n (mm n A one) A := fun i j _ hj => mm_one n A i j hj

/-- what stands while rows of M and of the identity are worked on: Q undoes R; M is Q times what M's rows have become -/
def Going (n : Nat) (M Q R A : Nat → Nat → UInt8) : Prop := sq n (mm n Q R) one ∧ sq n (mm n R Q) one ∧ sq n M (mm n Q A)

theorem going_start (n : Nat) (M : Nat → Nat → UInt8) : Going n M one one M :=
  ⟨sq_one_mm n one, sq_one_mm n one, sq_symm (sq_one_mm n M)⟩

theorem going_step {n : Nat} {M Q R A T T' R' A' : Nat → Nat → UInt8} (h : Going n M Q R A) (h1 : sq n (mm n T T') one) (h2 : sq n (mm n T' T) one) (hR : sq n R' (mm n T R)) (hA : sq n A' (mm n T A)) :
    Going n M (mm n Q T') R' A' := by
  obtain ⟨q1, q2, q3⟩ := h
  have mid : ∀ X, sq n (mm n (mm n Q T') (mm n T X)) (mm n Q X) := fun X =>
    sq_trans (sq_assoc n Q T' (mm n T X)) (sq_mm (sq_refl n Q) (sq_trans (sq_symm (sq_assoc n T' T X)) (sq_trans (sq_mm h2 (sq_refl n X)) (sq_one_mm n X))))
  refine ⟨sq_trans (sq_mm (sq_refl n _) hR) (sq_trans (mid R) q1), ?_, sq_trans q3 (sq_symm (sq_trans (sq_mm (sq_refl n _) hA) (mid A)))⟩
  refine sq_trans (sq_mm hR (sq_refl n _)) (sq_trans (sq_assoc n T R (mm n Q T')) (sq_trans (sq_mm (sq_refl n T) ?_) h1))
  exact sq_trans (sq_symm (sq_assoc n R Q T')) (sq_trans (sq_mm q2 (sq_refl n T')) (sq_one_mm n T'))

theorem going_end {n : Nat} {M Q R A : Nat → Nat → UInt8} (h : Going n M Q R A) (hA : sq n A one) : sq n (mm n R M) one ∧ sq n (mm n M R) one := by
  obtain ⟨q1, q2, q3⟩ := h
  have hMQ : sq n M Q := sq_trans q3 (sq_trans (sq_mm (sq_refl n Q) hA) (sq_mm_one n Q))
  exact ⟨sq_trans (sq_mm (sq_refl n R) hMQ) q2, sq_trans (sq_mm hMQ (sq_refl n R)) q1⟩

/-- two rows exchanged -/
def swp (c a i : Nat) : Nat := if i = c then a else if i = a then c else i

theorem swp_lt {n c a i : Nat} (hc : c < n) (ha : a < n) (hi : i < n) : swp c a i < n := by unfold swp; split <;> (try split) <;> omega

theorem swp_swp (c a i : Nat) : swp c a (swp c a i) = i := by
  unfold swp
  by_cases h1 : i = c
  · by_cases h2 : a = c <;> simp [h1, h2]
  · by_cases h2 : i = a
    · simp [h2]
    · simp [h1, h2]

theorem swp_mm (n c a : Nat) (hc : c < n) (ha : a < n) (X : Nat → Nat → UInt8) : sq n (fun i j => X (swp c a i) j) (mm n (fun i j => one (swp c a i) j) X) := by
  intro i j hi _
  show X (swp c a i) j = sum n fun k => ml (one (swp c a i) k) (X k j)
  exact (one_mm n X (swp c a i) j (swp_lt hc ha hi)).symm

theorem swp_inv (n c a : Nat) (hc : c < n) (ha : a < n) : sq n (mm n (fun i j => one (swp c a i) j) (fun i j => one (swp c a i) j)) one := by
  intro i j hi hj
  rw [← swp_mm n c a hc ha (fun i j => one (swp c a i) j) i j hi hj]
  show one (swp c a (swp c a i)) j = one i j
  rw [swp_swp]

theorem going_swap {n c a : Nat} {M Q R A : Nat → Nat → UInt8} (hc : c < n) (ha : a < n) (h : Going n M Q R A) :
    ∃ Q', Going n M Q' (fun i j => R (swp c a i) j) (fun i j => A (swp c a i) j) :=
  ⟨_, going_step h (swp_inv n c a hc ha) (swp_inv n c a hc ha) (swp_mm n c a hc ha R) (swp_mm n c a hc ha A)⟩

/-- the identity with another column c -/
def colT (c : Nat) (t : Nat → UInt8) (i j : Nat) : UInt8 := if j = c then t i else one i j

theorem colT_mm (n c : Nat) (hc : c < n) (t : Nat → UInt8) (X : Nat → Nat → UInt8) (i j : Nat) (hi : i < n) :
    mm n (colT c t) X i j = if i = c then ml (t c) (X c j) else X i j ^^^ ml (t i) (X c j) := by
  unfold mm
  rw [sum_off n c hc]
  have e : (colT c t i c) = t i := by unfold colT; rw [if_pos rfl]
  rw [e]
  by_cases h : i = c
  · subst h
    rw [if_pos rfl, sum_null n, UInt8.xor_zero]
    intro k _
    by_cases hk : k = i
    · rw [if_pos hk]
    · rw [if_neg hk]; unfold colT one; rw [if_neg hk, if_neg (fun x => hk x.symm), zero_ml]
  · rw [if_neg h, sum_single n i hi, if_neg h]
    · unfold colT one
      rw [if_neg h, if_pos rfl, one_ml, UInt8.xor_comm]
    · intro k _ hk
      by_cases h2 : k = c
      · rw [if_pos h2]
      · rw [if_neg h2]; unfold colT one; rw [if_neg h2, if_neg (fun x => hk x.symm), zero_ml]

/-- the step that makes column c plain -/
def colR (c : Nat) (x : Nat → UInt8) (i : Nat) : UInt8 := if i = c then iv (x c) else ml (x i) (iv (x c))

theorem colR_inv (n c : Nat) (hc : c < n) (x : Nat → UInt8) (hx : x c ≠ 0) : sq n (mm n (colT c (colR c x)) (colT c x)) one ∧ sq n (mm n (colT c x) (colT c (colR c x))) one := by
  constructor
  · intro i j hi _
    rw [colT_mm n c hc _ _ i j hi]
    unfold colT colR
    by_cases h : i = c
    · subst h
      rw [if_pos rfl, if_pos rfl]
      by_cases hj : j = i
      · subst hj; rw [if_pos rfl, iv_ml hx]; unfold one; rw [if_pos rfl]
      · rw [if_neg hj]; unfold one; rw [if_neg (fun e => hj e.symm), ml_zero]
    · rw [if_neg h, if_neg h]
      by_cases hj : j = c
      · subst hj
        rw [if_pos rfl, if_pos rfl, ml_assoc, iv_ml hx, ml_one, xor_self]; unfold one; rw [if_neg h]
      · rw [if_neg hj, if_neg hj]
        have e : one c j = 0 := by unfold one; rw [if_neg (fun e => hj e.symm)]
        rw [e, ml_zero, UInt8.xor_zero]
  · intro i j hi _
    rw [colT_mm n c hc _ _ i j hi]
    unfold colT colR
    by_cases h : i = c
    · subst h
      rw [if_pos rfl]
      by_cases hj : j = i
      · subst hj; rw [if_pos rfl, if_pos rfl, ml_iv hx]; unfold one; rw [if_pos rfl]
      · rw [if_neg hj]; unfold one; rw [if_neg (fun e => hj e.symm), ml_zero]
    · rw [if_neg h]
      by_cases hj : j = c
      · subst hj
        rw [if_pos rfl, if_pos rfl, if_neg h, if_pos rfl, xor_self]; unfold one; rw [if_neg h]
      · rw [if_neg hj, if_neg hj]
        have e : one c j = 0 := by unfold one; rw [if_neg (fun e => hj e.symm)]
        rw [e, ml_zero, UInt8.xor_zero]

/-- what the step makes of rows: row c by the inverse of the pivot, each other one plus its own byte of column c times the new row c -/
def elim (c : Nat) (x : Nat → UInt8) (X : Nat → Nat → UInt8) (i j : Nat) : UInt8 := if i = c then ml (iv (x c)) (X c j) else X i j ^^^ ml (x i) (ml (iv (x c)) (X c j))

theorem elim_mm (n c : Nat) (hc : c < n) (x : Nat → UInt8) (X : Nat → Nat → UInt8) : sq n (elim c x X) (mm n (colT c (colR c x)) X) := by
  intro i j hi _
  rw [colT_mm n c hc _ _ i j hi]
  unfold elim colR
  by_cases h : i = c
  · subst h; rw [if_pos rfl, if_pos rfl, if_pos rfl]
  · rw [if_neg h, if_neg h, if_neg h, ml_assoc]

theorem going_elim {n c : Nat} {M Q R A : Nat → Nat → UInt8} (hc : c < n) (hp : A c c ≠ 0) (h : Going n M Q R A) :
    ∃ Q', Going n M Q' (elim c (fun i => A i c) R) (elim c (fun i => A i c) A) := by
  obtain ⟨h1, h2⟩ := colR_inv n c hc (fun i => A i c) hp
  exact ⟨_, going_step h h1 h2 (elim_mm n c hc _ R) (elim_mm n c hc _ A)⟩

/-- the first c columns are plain -/
def plain (n c : Nat) (A : Nat → Nat → UInt8) : Prop := ∀ i j, i < n → j < c → A i j = one i j

theorem plain_swap {n c a : Nat} {A : Nat → Nat → UInt8} (hc : c < n) (hca : c ≤ a) (ha : a < n) (h : plain n c A) : plain n c (fun i j => A (swp c a i) j) := by
  intro i j hi hj
  show A (swp c a i) j = one i j
  rw [h _ j (swp_lt hc ha hi) hj]
  unfold one swp
  by_cases h1 : i = c
  · rw [if_pos h1, if_neg (by omega), if_neg (by omega)]
  · rw [if_neg h1]
    by_cases h2 : i = a
    · rw [if_pos h2, if_neg (by omega), if_neg (by omega)]
    · rw [if_neg h2]

theorem plain_elim {n c : Nat} {A : Nat → Nat → UInt8} (hc : c < n) (hp : A c c ≠ 0) (h : plain n c A) : plain n (c + 1) (elim c (fun i => A i c) A) := by
  intro i j hi hj
  unfold elim
  by_cases e : j = c
  · subst e
    by_cases h1 : i = j
    · subst h1; rw [if_pos rfl]; unfold one; rw [if_pos rfl]; exact iv_ml hp
    · rw [if_neg h1]
      show A i j ^^^ ml (A i j) (ml (iv (A j j)) (A j j)) = one i j
      rw [iv_ml hp, ml_one, xor_self]; unfold one; rw [if_neg h1]
  · have h0 : A c j = 0 := by rw [h c j hc (by omega)]; unfold one; rw [if_neg (fun x => e x.symm)]
    by_cases h1 : i = c
    · subst h1; rw [if_pos rfl, h0, ml_zero]; unfold one; rw [if_neg (fun x => e x.symm)]
    · rw [if_neg h1, h0, ml_zero, ml_zero, UInt8.xor_zero]; exact h i j hi (by omega)

/-- M sends something to 0 that is not 0 -/
def Sing (n : Nat) (M : Nat → Nat → UInt8) : Prop := ∃ (v : Nat → UInt8) (c : Nat), c < n ∧ v c ≠ 0 ∧ ∀ i, i < n → sum n (fun k => ml (M i k) (v k)) = 0

theorem going_sing {n c : Nat} {M Q R A : Nat → Nat → UInt8} (hc : c < n) (h : Going n M Q R A) (hp : plain n c A) (h0 : ∀ i, c ≤ i → i < n → A i c = 0) : Sing n M := by
  refine ⟨fun k => if k = c then 1 else if k < c then A k c else 0, c, hc, by simp, ?_⟩
  intro i hi
  have hv : ∀ l, l < n → sum n (fun k => ml (A l k) (if k = c then 1 else if k < c then A k c else 0)) = 0 := by
    intro l hl
    rw [sum_off n c hc, if_pos rfl, ml_one]
    by_cases e : l < c
    · rw [sum_single n l hl, if_neg (by omega), if_neg (by omega), if_pos e, hp l l hl e]
      · unfold one; rw [if_pos rfl, one_ml, xor_self]
      · intro k hk hkl
        by_cases k1 : k = c
        · rw [if_pos k1]
        · rw [if_neg k1, if_neg k1]
          by_cases k2 : k < c
          · rw [if_pos k2, hp l k hl k2]; unfold one; rw [if_neg (fun x => hkl x.symm), zero_ml]
          · rw [if_neg k2, ml_zero]
    · rw [h0 l (by omega) hl, sum_null n, xor_self]
      intro k hk
      by_cases k1 : k = c
      · rw [if_pos k1]
      · rw [if_neg k1, if_neg k1]
        by_cases k2 : k < c
        · rw [if_pos k2, hp l k hl k2]; unfold one; rw [if_neg (by omega), zero_ml]
        · rw [if_neg k2, ml_zero]
  have e := mm_assoc n n Q A (fun k _ => if k = c then 1 else if k < c then A k c else 0) i 0
  have e1 : sum n (fun k => ml (M i k) (if k = c then 1 else if k < c then A k c else 0)) = mm n (mm n Q A) (fun k _ => if k = c then 1 else if k < c then A k c else 0) i 0 :=
    sum_congr n fun k hk => by rw [h.2.2 i k hi hk]
  rw [e1, e]
  exact sum_null n fun k hk => by
    show ml (Q i k) (sum n fun l => ml (A k l) (if l = c then 1 else if l < c then A l c else 0)) = 0
    rw [hv k hk, ml_zero]

theorem sing_no_inv {n : Nat} {M R : Nat → Nat → UInt8} (h : Sing n M) (h1 : sq n (mm n R M) one) : False := by
  obtain ⟨v, c, hc, hv, h0⟩ := h
  exact hv (inv_ker n h1 h0 c hc)
end Go.Proofs.Ytmnciipfepeccaa.GfU
