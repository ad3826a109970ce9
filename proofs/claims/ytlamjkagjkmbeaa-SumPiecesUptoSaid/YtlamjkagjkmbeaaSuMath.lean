/- Check sums in plain numbers: one bit at a time; what is turned within 32 bits is seen; no condition. -/
import Derived.Test.YtlamjkagjkmbeaaRows
namespace Go.Proofs.Ytlamjkagjkmbeaa
namespace Su

/-- one bit -/
def T (y : Nat) : Nat := if y % 2 = 1 then (y / 2) ^^^ 3988292384 else y / 2

def Tn : Nat → Nat → Nat
  | 0, y => y
  | n + 1, y => Tn n (T y)

theorem half_xor (a b : Nat) : (a ^^^ b) / 2 = (a / 2) ^^^ (b / 2) := by
  have h := Nat.shiftRight_xor_distrib (a := a) (b := b) (i := 1)
  simpa [Nat.shiftRight_succ] using h

theorem mod_xor (a b : Nat) : (a ^^^ b) % 2 = (a % 2 + b % 2) % 2 := by
  have h := Nat.xor_mod_two_pow (a := a) (b := b) (n := 1)
  rw [show 2 ^ 1 = 2 from rfl] at h
  rw [h]
  rcases Nat.mod_two_eq_zero_or_one a with ha | ha <;> rcases Nat.mod_two_eq_zero_or_one b with hb | hb <;> rw [ha, hb] <;> rfl

theorem T_xor (a b : Nat) : T (a ^^^ b) = T a ^^^ T b := by
  unfold T
  rw [mod_xor, half_xor]
  rcases Nat.mod_two_eq_zero_or_one a with ha | ha <;> rcases Nat.mod_two_eq_zero_or_one b with hb | hb <;> rw [ha, hb]
  · simp
  · simp [Nat.xor_assoc]
  · simp only [Nat.add_zero, Nat.reduceMod, if_true, Nat.zero_ne_one, if_false]
    rw [Nat.xor_assoc, Nat.xor_assoc, Nat.xor_comm (b / 2)]
  · simp only [Nat.reduceAdd, Nat.reduceMod, Nat.zero_ne_one, if_false, if_true]
    rw [Nat.xor_assoc, Nat.xor_comm (b / 2), ← Nat.xor_assoc 3988292384, Nat.xor_self, Nat.zero_xor]

theorem T_double (y : Nat) : T (2 * y) = y := by
  unfold T
  rw [if_neg (by omega)]
  omega

theorem T_lt {y : Nat} (h : y < 4294967296) : T y < 4294967296 := by
  unfold T
  split
  · exact Nat.xor_lt_two_pow (n := 32) (by omega) (by omega)
  · omega

theorem T_zero {y : Nat} (h : y < 4294967296) (h0 : T y = 0) : y = 0 := by
  unfold T at h0
  split at h0
  · have e : y / 2 = 3988292384 := by
      have h2 : ((y / 2) ^^^ 3988292384) ^^^ 3988292384 = 0 ^^^ 3988292384 := by rw [h0]
      rw [Nat.xor_assoc, Nat.xor_self, Nat.xor_zero, Nat.zero_xor] at h2
      exact h2
    omega
  · omega

theorem Tn_add : ∀ (a b y : Nat), Tn (a + b) y = Tn b (Tn a y)
  | 0, b, y => by rw [Nat.zero_add]; rfl
  | a + 1, b, y => by
    rw [show a + 1 + b = (a + b) + 1 by omega]
    exact Tn_add a b (T y)

theorem Tn_xor : ∀ (n a b : Nat), Tn n (a ^^^ b) = Tn n a ^^^ Tn n b
  | 0, _, _ => rfl
  | n + 1, a, b => by
    show Tn n (T (a ^^^ b)) = Tn n (T a) ^^^ Tn n (T b)
    rw [T_xor, Tn_xor n]

theorem Tn_lt : ∀ (n : Nat) {y : Nat}, y < 4294967296 → Tn n y < 4294967296
  | 0, _, h => h
  | n + 1, _, h => Tn_lt n (T_lt h)

theorem Tn_zero : ∀ (n : Nat) {y : Nat}, y < 4294967296 → Tn n y = 0 → y = 0
  | 0, _, _, h => h
  | n + 1, _, h, h0 => T_zero h (Tn_zero n (T_lt h) h0)

theorem Tn_shift : ∀ (n y : Nat), Tn n (y * 2 ^ n) = y
  | 0, y => by rw [Nat.pow_zero, Nat.mul_one]; rfl
  | n + 1, y => by
    show Tn n (T (y * 2 ^ (n + 1))) = y
    rw [show y * 2 ^ (n + 1) = 2 * (y * 2 ^ n) by rw [Nat.pow_succ, Nat.mul_comm (2 ^ n) 2, ← Nat.mul_assoc, ← Nat.mul_assoc, Nat.mul_comm y 2], T_double, Tn_shift n]

/-- bits within 32 that are not all 0 leave their trace -/
theorem burst {nb first q : Nat} (hq : q < 4294967296) (h0 : Tn nb (q * 2 ^ first) = 0) : q = 0 := by
  rcases Nat.le_total first nb with h | h
  · obtain ⟨d, rfl⟩ : ∃ d, nb = first + d := ⟨nb - first, by omega⟩
    rw [Tn_add, Tn_shift] at h0
    exact Tn_zero d hq h0
  · obtain ⟨d, rfl⟩ : ∃ d, first = d + nb := ⟨first - nb, by omega⟩
    rw [Nat.pow_add, ← Nat.mul_assoc, Tn_shift] at h0
    rcases Nat.mul_eq_zero.1 h0 with h1 | h1
    · exact h1
    · exact absurd h1 (by have := Nat.pow_pos (n := d) (show 0 < 2 by omega); omega)

/-! ### texts -/

def byteStep (x : Nat) (b : UInt8) : Nat := Tn 8 (x ^^^ b.toNat)

def reg (x : Nat) (L : List UInt8) : Nat := L.foldl byteStep x

/-- the sum of a text -/
def crc (L : List UInt8) : Nat := reg 4294967295 L ^^^ 4294967295

/-- the bytes as one number, the lowest first -/
def num : List UInt8 → Nat
  | [] => 0
  | b :: r => b.toNat + 256 * num r

theorem byte_add (b : UInt8) (m : Nat) : b.toNat + 256 * m = b.toNat ^^^ (256 * m) := by
  have hb : b.toNat < 2 ^ 8 := b.toNat_lt
  have h := Nat.two_pow_add_eq_or_of_lt hb m
  rw [show 2 ^ 8 = 256 from rfl] at h
  rw [Nat.add_comm, h]
  apply Nat.eq_of_testBit_eq
  intro i
  rw [Nat.testBit_or, Nat.testBit_xor]
  by_cases hi : i < 8
  · have e : (256 * m).testBit i = false := by
      rw [show 256 * m = 2 ^ 8 * m from rfl, Nat.testBit_two_pow_mul]
      simp; omega
    rw [e]; simp
  · have e : b.toNat.testBit i = false := Nat.testBit_lt_two_pow (Nat.lt_of_lt_of_le hb (Nat.pow_le_pow_right (by omega) (by omega)))
    rw [e]; simp

theorem reg_num : ∀ (L : List UInt8) (x : Nat), reg x L = Tn (8 * L.length) (num L ^^^ x)
  | [], x => by
    show x = Tn 0 (0 ^^^ x)
    rw [Nat.zero_xor]; rfl
  | b :: r, x => by
    show reg (byteStep x b) r = _
    rw [reg_num r, show 8 * (b :: r).length = 8 + 8 * r.length by rw [List.length_cons]; omega, Tn_add]
    congr 1
    show _ = Tn 8 ((b.toNat + 256 * num r) ^^^ x)
    rw [byte_add, Nat.xor_comm b.toNat, Nat.xor_assoc, Tn_xor, show 256 * num r = num r * 2 ^ 8 by rw [Nat.mul_comm], Tn_shift, Nat.xor_comm b.toNat x]
    rfl

theorem reg_append (x : Nat) (A B : List UInt8) : reg x (A ++ B) = reg (reg x A) B := List.foldl_append ..

theorem reg_lt {x : Nat} (hx : x < 4294967296) (L : List UInt8) : reg x L < 4294967296 := by
  induction L generalizing x with
  | nil => exact hx
  | cons b r ih =>
    refine ih (Tn_lt 8 (Nat.xor_lt_two_pow (n := 32) hx ?_))
    have := b.toNat_lt
    omega

theorem crc_lt (L : List UInt8) : crc L < 4294967296 := Nat.xor_lt_two_pow (n := 32) (reg_lt (by omega) L) (by omega)

/-- a number's bytes, the lowest first -/
def le : Nat → Nat → List UInt8
  | 0, _ => []
  | k + 1, n => UInt8.ofNat (n % 256) :: le k (n / 256)

theorem le_length : ∀ (k n : Nat), (le k n).length = k
  | 0, _ => rfl
  | k + 1, n => by unfold le; rw [List.length_cons, le_length k]

theorem num_le : ∀ (k n : Nat), n < 256 ^ k → num (le k n) = n
  | 0, n, h => by simp at h; subst h; rfl
  | k + 1, n, h => by
    unfold le num
    rw [num_le k (n / 256) (by rw [Nat.pow_succ] at h; exact Nat.div_lt_of_lt_mul (by rw [Nat.mul_comm]; exact h)), UInt8.toNat_ofNat_of_lt' (by show n % 256 < 256; omega)]
    omega

theorem num_append : ∀ (A B : List UInt8), num (A ++ B) = num A + 256 ^ A.length * num B
  | [], B => by simp [num]
  | a :: A, B => by
    show a.toNat + 256 * num (A ++ B) = a.toNat + 256 * num A + _
    rw [num_append A B, List.length_cons, Nat.pow_succ, Nat.mul_add, Nat.add_assoc, ← Nat.mul_assoc, Nat.mul_comm 256 (256 ^ A.length)]

theorem num_lt : ∀ (A : List UInt8), num A < 256 ^ A.length
  | [] => by simp [num]
  | a :: A => by
    have h := num_lt A
    have := a.toNat_lt
    unfold num
    rw [List.length_cons, Nat.pow_succ]
    omega

theorem add_shift_xor {a n b : Nat} (h : a < 2 ^ n) : a + 2 ^ n * b = a ^^^ (2 ^ n * b) := by
  have h1 := Nat.two_pow_add_eq_or_of_lt h b
  rw [Nat.add_comm, h1]
  apply Nat.eq_of_testBit_eq
  intro i
  rw [Nat.testBit_or, Nat.testBit_xor]
  by_cases hi : i < n
  · have e : (2 ^ n * b).testBit i = false := by rw [Nat.testBit_two_pow_mul]; simp; omega
    rw [e]; simp
  · have e : a.testBit i = false := Nat.testBit_lt_two_pow (Nat.lt_of_lt_of_le h (Nat.pow_le_pow_right (by omega) (by omega)))
    rw [e]; simp

theorem pow256 (n : Nat) : 256 ^ n = 2 ^ (8 * n) := by rw [Nat.pow_mul]

/-- a text with its sum behind it: what is left in the register -/
theorem whole_reg (A B : List UInt8) (h : num B = crc A) : Tn (8 * A.length) (num (A ++ B) ^^^ 4294967295) = 4294967295 := by
  have hA : num A < 2 ^ (8 * A.length) := by rw [← pow256]; exact num_lt A
  rw [num_append, pow256, add_shift_xor hA, Nat.xor_assoc, Nat.xor_comm (2 ^ (8 * A.length) * num B), ← Nat.xor_assoc, Tn_xor, ← reg_num, Nat.mul_comm (2 ^ (8 * A.length)), Tn_shift, h]
  unfold crc
  rw [← Nat.xor_assoc, Nat.xor_self, Nat.zero_xor]

/-- two texts with their sums that are unlike in bits within 32 are alike -/
theorem turned_seen {A B A' B' : List UInt8} {q first : Nat} (hl : A.length = A'.length) (hB : num B = crc A) (hB' : num B' = crc A') (hq : q < 4294967296) (he : num (A ++ B) ^^^ num (A' ++ B') = q * 2 ^ first) : q = 0 := by
  refine burst (nb := 8 * A.length) (first := first) hq ?_
  have h1 := whole_reg A B hB
  have h2 := whole_reg A' B' hB'
  rw [← hl] at h2
  have e : num (A ++ B) ^^^ num (A' ++ B') = (num (A ++ B) ^^^ 4294967295) ^^^ (num (A' ++ B') ^^^ 4294967295) := by
    rw [Nat.xor_assoc, Nat.xor_comm 4294967295, Nat.xor_assoc, Nat.xor_self, Nat.xor_zero]
  rw [← he, e, Tn_xor, h1, h2, Nat.xor_self]

theorem num_inj : ∀ {A B : List UInt8}, A.length = B.length → num A = num B → A = B
  | [], [], _, _ => rfl
  | [], _ :: _, h, _ => by simp at h
  | _ :: _, [], h, _ => by simp at h
  | a :: A, b :: B, hl, h => by
    unfold num at h
    have := a.toNat_lt
    have := b.toNat_lt
    have e1 : a.toNat = b.toNat := by omega
    have e2 : num A = num B := by omega
    rw [num_inj (by simpa using hl) e2, UInt8.toNat.inj e1]

end Su
end Go.Proofs.Ytlamjkagjkmbeaa
