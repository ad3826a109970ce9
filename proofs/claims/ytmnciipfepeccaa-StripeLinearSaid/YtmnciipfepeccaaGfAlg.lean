/- The field of 256 elements on bytes, sums, matrices as functions, and that rows of a Cauchy matrix send nothing but 0 to 0; no condition. -/
import Derived.Test.YtmnciipfepeccaaGfMath
namespace Go.Proofs.Ytmnciipfepeccaa.GfU

/-- the product of two bytes, the inverse of a byte (of 0: 0) -/
def ml (a b : UInt8) : UInt8 := UInt8.ofNat (GfM.mul a.toNat b.toNat)

def iv (a : UInt8) : UInt8 := UInt8.ofNat (GfM.divv 1 a.toNat)

theorem toNat_le (a : UInt8) : a.toNat ≤ 255 := by have := a.toNat_lt; omega

theorem toNat_ofNat {x : Nat} (h : x ≤ 255) : (UInt8.ofNat x).toNat = x := by
  rw [UInt8.toNat_ofNat_of_lt']; show _ < 256; omega

theorem ml_toNat (a b : UInt8) : (ml a b).toNat = GfM.mul a.toNat b.toNat := toNat_ofNat (GfM.mul_le _ _)

theorem iv_toNat (a : UInt8) : (iv a).toNat = GfM.divv 1 a.toNat := toNat_ofNat (GfM.divv_le _ _)

theorem eq_of {a b : UInt8} (h : a.toNat = b.toNat) : a = b := UInt8.toNat_inj.1 h

theorem ne_zero {a : UInt8} : a ≠ 0 ↔ a.toNat ≠ 0 := by
  constructor
  · intro h e; exact h (eq_of e)
  · intro h e; exact h (by rw [e]; rfl)

theorem ml_comm (a b : UInt8) : ml a b = ml b a := by unfold ml; rw [GfM.mul_comm]

theorem ml_assoc (a b c : UInt8) : ml (ml a b) c = ml a (ml b c) :=
  eq_of (by rw [ml_toNat, ml_toNat, ml_toNat, ml_toNat, GfM.mul_assoc (toNat_le a) (toNat_le b) (toNat_le c)])

theorem ml_xor (a b c : UInt8) : ml a (b ^^^ c) = ml a b ^^^ ml a c :=
  eq_of (by rw [ml_toNat, UInt8.toNat_xor, UInt8.toNat_xor, ml_toNat, ml_toNat, GfM.mul_xor (toNat_le a) (toNat_le b) (toNat_le c)])

theorem xor_ml (a b c : UInt8) : ml (a ^^^ b) c = ml a c ^^^ ml b c := by rw [ml_comm, ml_xor, ml_comm c a, ml_comm c b]

theorem ml_zero (a : UInt8) : ml a 0 = 0 := eq_of (by rw [ml_toNat]; exact GfM.mul_zero _)

theorem zero_ml (a : UInt8) : ml 0 a = 0 := by rw [ml_comm, ml_zero]

theorem ml_one (a : UInt8) : ml a 1 = a := eq_of (by rw [ml_toNat]; exact GfM.mul_one (toNat_le a))

theorem one_ml (a : UInt8) : ml 1 a = a := by rw [ml_comm, ml_one]

theorem ml_iv {a : UInt8} (h : a ≠ 0) : ml a (iv a) = 1 :=
  eq_of (by rw [ml_toNat, iv_toNat, GfM.mul_comm]; exact GfM.mul_divv (by omega) (toNat_le a) (ne_zero.1 h))

theorem iv_ml {a : UInt8} (h : a ≠ 0) : ml (iv a) a = 1 := by rw [ml_comm, ml_iv h]

theorem ml_eq_zero {a b : UInt8} (h : ml a b = 0) : a = 0 ∨ b = 0 := by
  have e : (ml a b).toNat = 0 := by rw [h]; rfl
  rw [ml_toNat] at e
  rcases (GfM.mul_eq_zero _ _).1 e with h | h
  · exact .inl (eq_of h)
  · exact .inr (eq_of h)

theorem iv_ne {a : UInt8} (h : a ≠ 0) : iv a ≠ 0 := by
  intro e
  have := ml_iv h
  rw [e, ml_zero] at this
  exact absurd this (by decide)

theorem ml_left_cancel {a b : UInt8} (h : a ≠ 0) (e : ml a b = 0) : b = 0 := (ml_eq_zero e).resolve_left h

theorem xor_self (a : UInt8) : a ^^^ a = 0 := UInt8.xor_self

theorem xor_eq_zero {a b : UInt8} (h : a ^^^ b = 0) : a = b := by
  have : (a ^^^ b) ^^^ b = 0 ^^^ b := by rw [h]
  rw [UInt8.xor_assoc, xor_self, UInt8.xor_zero, UInt8.zero_xor] at this
  exact this

theorem xor_ne {a b : UInt8} (h : a ≠ b) : a ^^^ b ≠ 0 := fun e => h (xor_eq_zero e)

instance ml_isAssoc : Std.Associative ml := ⟨ml_assoc⟩

instance ml_isComm : Std.Commutative ml := ⟨ml_comm⟩

/-- the sum of the first n of f -/
def sum (n : Nat) (f : Nat → UInt8) : UInt8 := match n with
  | 0 => 0
  | n + 1 => sum n f ^^^ f n

theorem sum_succ (n : Nat) (f : Nat → UInt8) : sum (n + 1) f = sum n f ^^^ f n := rfl

theorem sum_congr (n : Nat) {f g : Nat → UInt8} (h : ∀ i, i < n → f i = g i) : sum n f = sum n g := by
  induction n with
  | zero => rfl
  | succ n ih => rw [sum_succ, sum_succ, ih fun i hi => h i (by omega), h n (by omega)]

theorem sum_zero (n : Nat) : sum n (fun _ => 0) = 0 := by
  induction n with
  | zero => rfl
  | succ n ih => rw [sum_succ, ih]; exact xor_self 0

theorem sum_null (n : Nat) {f : Nat → UInt8} (h : ∀ i, i < n → f i = 0) : sum n f = 0 := by
  rw [sum_congr n h, sum_zero]

theorem sum_xor (n : Nat) (f g : Nat → UInt8) : sum n (fun i => f i ^^^ g i) = sum n f ^^^ sum n g := by
  induction n with
  | zero => exact (xor_self 0).symm
  | succ n ih =>
    rw [sum_succ, sum_succ, sum_succ, ih]
    ac_rfl

theorem ml_sum (n : Nat) (a : UInt8) (f : Nat → UInt8) : ml a (sum n f) = sum n (fun i => ml a (f i)) := by
  induction n with
  | zero => exact ml_zero a
  | succ n ih => rw [sum_succ, sum_succ, ml_xor, ih]

theorem sum_ml (n : Nat) (a : UInt8) (f : Nat → UInt8) : ml (sum n f) a = sum n (fun i => ml (f i) a) := by
  rw [ml_comm, ml_sum]
  exact sum_congr _ fun i _ => ml_comm _ _

theorem sum_swap (n m : Nat) (f : Nat → Nat → UInt8) : sum n (fun i => sum m (fun j => f i j)) = sum m (fun j => sum n (fun i => f i j)) := by
  induction n with
  | zero => exact (sum_zero m).symm
  | succ n ih => rw [sum_succ, ih, ← sum_xor]; rfl

theorem sum_single (n k : Nat) {f : Nat → UInt8} (hk : k < n) (h : ∀ i, i < n → i ≠ k → f i = 0) : sum n f = f k := by
  induction n with
  | zero => omega
  | succ n ih =>
    rw [sum_succ]
    by_cases e : k = n
    · subst e
      rw [sum_null k (fun i hi => h i (by omega) (by omega)), UInt8.zero_xor]
    · rw [ih (by omega) (fun i hi => h i (by omega)), h n (by omega) (by omega), UInt8.xor_zero]

/-- a sum without its place k -/
theorem sum_off (n k : Nat) {f : Nat → UInt8} (hk : k < n) : sum n f = f k ^^^ sum n (fun i => if i = k then 0 else f i) := by
  have h1 : sum n f = sum n (fun i => (if i = k then f i else 0) ^^^ (if i = k then 0 else f i)) :=
    sum_congr _ fun i _ => by by_cases e : i = k <;> simp [e]
  rw [h1, sum_xor, sum_single n k (f := fun i => if i = k then f i else 0) hk fun i _ hi => if_neg hi]
  rw [if_pos rfl]

/-- matrices are functions; a product over n -/
def mm (n : Nat) (A B : Nat → Nat → UInt8) (i j : Nat) : UInt8 := sum n fun k => ml (A i k) (B k j)

def one (i j : Nat) : UInt8 := if i = j then 1 else 0

theorem mm_assoc (n m : Nat) (A B C : Nat → Nat → UInt8) (i j : Nat) : mm m (mm n A B) C i j = mm n A (mm m B C) i j := by
  unfold mm
  rw [sum_congr m (g := fun k => sum n fun l => ml (ml (A i l) (B l k)) (C k j)) (fun k _ => sum_ml n _ _), sum_swap]
  refine sum_congr _ fun l _ => ?_
  rw [ml_sum]
  exact sum_congr _ fun k _ => ml_assoc _ _ _

theorem one_mm (n : Nat) (A : Nat → Nat → UInt8) (i j : Nat) (hi : i < n) : mm n one A i j = A i j := by
  unfold mm
  rw [sum_single n i hi fun k _ hk => by unfold one; rw [if_neg (fun e => hk e.symm), zero_ml]]
  unfold one; rw [if_pos rfl, one_ml]

theorem mm_one (n : Nat) (A : Nat → Nat → UInt8) (i j : Nat) (hj : j < n) : mm n A one i j = A i j := by
  unfold mm
  rw [sum_single n j hj fun k _ hk => by unfold one; rw [if_neg hk, ml_zero]]
  unfold one; rw [if_pos rfl, ml_one]

theorem mm_congr (n : Nat) {A A' B B' : Nat → Nat → UInt8} (i j : Nat) (hA : ∀ k, k < n → A i k = A' i k) (hB : ∀ k, k < n → B k j = B' k j) : mm n A B i j = mm n A' B' i j :=
  sum_congr _ fun k hk => by rw [hA k hk, hB k hk]

/-- the same inside a square -/
def sq (n : Nat) (A B : Nat → Nat → UInt8) : Prop := ∀ i j, i < n → j < n → A i j = B i j

/-- a matrix with an inverse sends nothing but 0 to 0 -/
theorem inv_ker (n : Nat) {R M : Nat → Nat → UInt8} (h : sq n (mm n R M) one) {v : Nat → UInt8} (hv : ∀ i, i < n → sum n (fun k => ml (M i k) (v k)) = 0) : ∀ i, i < n → v i = 0 := by
  intro i hi
  have e := mm_assoc n n R M (fun k _ => v k) i 0
  have e1 : mm n (mm n R M) (fun k _ => v k) i 0 = v i := by
    rw [mm_congr n (A' := one) (B' := fun k _ => v k) i 0 (fun k hk => h i k hi hk) (fun _ _ => rfl)]
    exact one_mm n (fun k _ => v k) i 0 hi
  have e2 : mm n R (mm n M (fun k _ => v k)) i 0 = 0 := sum_null n fun k hk => by
    show ml (R i k) (mm n M (fun k _ => v k) k 0) = 0
    rw [show mm n M (fun k _ => v k) k 0 = 0 from hv k hk, ml_zero]
  rw [← e1, e, e2]

/-- inverses are alike -/
theorem inv_alike (n : Nat) {R R' M : Nat → Nat → UInt8} (h : sq n (mm n R M) one) (h' : sq n (mm n M R') one) : sq n R R' := by
  intro i j hi hj
  have e := mm_assoc n n R M R' i j
  rw [mm_congr n (A' := one) (B' := R') i j (fun k hk => h i k hi hk) (fun _ _ => rfl), one_mm n R' i j hi] at e
  rw [mm_congr n (A := R) (A' := R) (B' := one) i j (fun _ _ => rfl) (fun k hk => h' k j hk hj), mm_one n R i j hj] at e
  exact e.symm

theorem inv_sum {p q : UInt8} (hp : p ≠ 0) (hq : q ≠ 0) : iv p ^^^ iv q = ml (p ^^^ q) (ml (iv p) (iv q)) := by
  rw [xor_ml]
  have e1 : ml p (ml (iv p) (iv q)) = iv q := by rw [← ml_assoc, ml_iv hp, one_ml]
  have e2 : ml q (ml (iv p) (iv q)) = iv p := by rw [ml_comm (iv p), ← ml_assoc, ml_iv hq, one_ml]
  rw [e1, e2, UInt8.xor_comm]

theorem cauchy (r : Nat) : ∀ (x y v : Nat → UInt8), (∀ i j, i < r → j < r → x i = x j → i = j) → (∀ i j, i < r → j < r → y i = y j → i = j) →
    (∀ i j, i < r → j < r → x i ≠ y j) → (∀ i, i < r → sum r (fun j => ml (iv (x i ^^^ y j)) (v j)) = 0) → ∀ j, j < r → v j = 0 := by
  induction r with
  | zero => intro x y v _ _ _ _ j hj; omega
  | succ r ih =>
    intro x y v hx hy hxy hs
    -- every row, times x i + y r
    have step : ∀ i, i < r + 1 → sum r (fun j => ml (ml (y j ^^^ y r) (v j)) (iv (x i ^^^ y j))) = sum (r + 1) v := by
      intro i hi
      have h0 := hs i hi
      have h1 : ml (x i ^^^ y r) (sum (r + 1) (fun j => ml (iv (x i ^^^ y j)) (v j))) = 0 := by rw [h0, ml_zero]
      rw [ml_sum] at h1
      have h2 : ∀ j, j < r + 1 → ml (x i ^^^ y r) (ml (iv (x i ^^^ y j)) (v j)) = v j ^^^ ml (ml (y j ^^^ y r) (v j)) (iv (x i ^^^ y j)) := by
        intro j hj
        have hne := xor_ne (hxy i j hi hj)
        have e : x i ^^^ y r = (x i ^^^ y j) ^^^ (y j ^^^ y r) := by
          rw [UInt8.xor_assoc, ← UInt8.xor_assoc (y j), xor_self, UInt8.zero_xor]
        rw [e, xor_ml]
        congr 1
        · rw [← ml_assoc, ml_iv hne, one_ml]
        · ac_rfl
      rw [sum_congr (r + 1) h2, sum_xor] at h1
      have h3 := xor_eq_zero h1
      rw [h3, sum_succ, xor_self, zero_ml, zero_ml, UInt8.xor_zero]
    have hw : ∀ j, j < r → ml (ml (y j ^^^ y r) (v j)) (iv (x r ^^^ y j)) = 0 := by
      refine ih x y (fun j => ml (ml (y j ^^^ y r) (v j)) (iv (x r ^^^ y j))) (fun i j hi hj => hx i j (by omega) (by omega)) (fun i j hi hj => hy i j (by omega) (by omega))
        (fun i j hi hj => hxy i j (by omega) (by omega)) ?_
      intro i hi
      have e1 := step i (by omega)
      have e2 := step r (by omega)
      have e3 : sum r (fun j => ml (ml (y j ^^^ y r) (v j)) (iv (x i ^^^ y j)) ^^^ ml (ml (y j ^^^ y r) (v j)) (iv (x r ^^^ y j))) = 0 := by
        rw [sum_xor, e1, e2, xor_self]
      have e4 : ∀ j, j < r → ml (ml (y j ^^^ y r) (v j)) (iv (x i ^^^ y j)) ^^^ ml (ml (y j ^^^ y r) (v j)) (iv (x r ^^^ y j))
          = ml (x i ^^^ x r) (ml (iv (x i ^^^ y j)) (ml (ml (y j ^^^ y r) (v j)) (iv (x r ^^^ y j)))) := by
        intro j hj
        rw [← ml_xor, inv_sum (xor_ne (hxy i j (by omega) (by omega))) (xor_ne (hxy r j (by omega) (by omega)))]
        have e : x i ^^^ y j ^^^ (x r ^^^ y j) = x i ^^^ x r := by
          rw [UInt8.xor_comm (x r), UInt8.xor_assoc, ← UInt8.xor_assoc (y j), xor_self, UInt8.zero_xor]
        rw [e]
        ac_rfl
      rw [sum_congr r e4, ← ml_sum] at e3
      exact ml_left_cancel (xor_ne fun e => absurd (hx i r (by omega) (by omega) e) (by omega)) e3
    have hv : ∀ j, j < r → v j = 0 := by
      intro j hj
      rcases ml_eq_zero (hw j hj) with h | h
      · rcases ml_eq_zero h with h | h
        · exact absurd (hy j r (by omega) (by omega) (xor_eq_zero h)) (by omega)
        · exact h
      · exact absurd h (iv_ne (xor_ne (hxy r j (by omega) (by omega))))
    intro j hj
    by_cases e : j = r
    · subst e
      have h0 := hs j (by omega)
      rw [sum_single (j + 1) j (by omega) fun i hi hne => by rw [hv i (by omega), ml_zero]] at h0
      rcases ml_eq_zero h0 with h | h
      · exact absurd h (iv_ne (xor_ne (hxy j j (by omega) (by omega))))
      · exact h
    · exact hv j (by omega)

end Go.Proofs.Ytmnciipfepeccaa.GfU
