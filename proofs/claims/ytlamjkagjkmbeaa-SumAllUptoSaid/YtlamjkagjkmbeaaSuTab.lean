/- The sum by a table: k steps at once. -/
import Derived.Test.YtlamjkagjkmbeaaSuMath
namespace Go.Proofs.Ytlamjkagjkmbeaa
namespace Su

/-- k steps of the register: the low k bits by a table, the rest moved down -/
theorem Tn_low (k y : Nat) : Tn k y = Tn k (y % 2 ^ k) ^^^ (y / 2 ^ k) := by
  have h1 : y % 2 ^ k < 2 ^ k := Nat.mod_lt _ (Nat.two_pow_pos k)
  have e : y = (y % 2 ^ k) ^^^ (2 ^ k * (y / 2 ^ k)) := by
    rw [← add_shift_xor h1, Nat.mod_add_div]
  conv => lhs; rw [e]
  rw [Tn_xor, Nat.mul_comm, Tn_shift]

/-- a byte's step, by a table of 256 -/
theorem byteStep_tab (x : Nat) (b : UInt8) : byteStep x b = Tn 8 ((x ^^^ b.toNat) % 256) ^^^ ((x ^^^ b.toNat) / 256) := Tn_low 8 _

/-- .. the rest is the register's own: the byte does not reach it -/
theorem byteStep_tab' (x : Nat) (b : UInt8) : byteStep x b = Tn 8 ((x ^^^ b.toNat) % 256) ^^^ (x / 256) := by
  rw [byteStep_tab]
  congr 1
  have h : (x ^^^ b.toNat) / 2 ^ 8 = (x / 2 ^ 8) ^^^ (b.toNat / 2 ^ 8) := by
    simp only [← Nat.shiftRight_eq_div_pow]
    exact Nat.shiftRight_xor_distrib
  rw [show (256 : Nat) = 2 ^ 8 from rfl, h, Nat.div_eq_of_lt b.toNat_lt, Nat.xor_zero]

/-- the register after one more byte -/
theorem reg_snoc (x : Nat) (L : List UInt8) (b : UInt8) : reg x (L ++ [b]) = byteStep (reg x L) b := by rw [reg_append]; rfl

/-- the sum of pieces, the register carried on -/
theorem reg_flat (x : Nat) : ∀ (l : List (List UInt8)), reg x l.flatten = l.foldl reg x
  | [] => rfl
  | a :: l => by rw [List.flatten_cons, reg_append, List.foldl_cons]; exact reg_flat (reg x a) l

/-- the sum carried on: turn it back, go on, turn it again -/
theorem crc_append (A B : List UInt8) : crc (A ++ B) = reg (crc A ^^^ 4294967295) B ^^^ 4294967295 := by
  unfold crc
  rw [reg_append, Nat.xor_assoc (reg 4294967295 A), Nat.xor_self, Nat.xor_zero]

end Su
end Go.Proofs.Ytlamjkagjkmbeaa
