/- Parts of the proof, joined: GfMath, GfAlg, StMath; their conditions stand with each. -/
import Init.Data.Nat.Bitwise.Lemmas

/- The field of 256 elements in plain numbers: powers of 2, logs, products by logs and products bit by bit are one; no condition. -/
namespace Go.Proofs.Ytemcjnbgcecinaa.GfM

/-- every number below n -/
def allB : Nat → (Nat → Bool) → Bool
  | 0, _ => true
  | n + 1, f => f n && allB n f

theorem allB_all {n : Nat} {f : Nat → Bool} (h : allB n f = true) : ∀ i, i < n → f i = true := by
  induction n with
  | zero => intro i hi; omega
  | succ n ih =>
    intro i hi
    simp only [allB, Bool.and_eq_true] at h
    by_cases e : i = n
    · subst e; exact h.1
    · exact ih h.2 i (by omega)

def dbl (x : Nat) : Nat := if 255 < 2 * x then (2 * x) ^^^ 285 else 2 * x

/-- the powers of 2 -/
def pw : Nat → Nat
  | 0 => 1
  | n + 1 => dbl (pw n)

/-- the table of logs when k powers stand in it -/
def lgA : Nat → Nat → Nat
  | 0, _ => 0
  | k + 1, i => if i = pw k then k else lgA k i

/-- the log of an element -/
def lg (a : Nat) : Nat := lgA 255 a

/-- the product by logs -/
def mul (a b : Nat) : Nat := if a = 0 ∨ b = 0 then 0 else pw ((lg a + lg b) % 255)

/-- the product bit by bit, n bits on -/
def bits : Nat → Nat → Nat → Nat → Nat
  | 0, _, _, o => o
  | n + 1, x, y, o => bits n (dbl x) (y / 2) (if y % 2 = 1 then o ^^^ x else o)

def tb (n : Nat) : Nat := (0x8e47add86c361b83cfe9fa7db0582c160b8bcbebfbf3f7f5f47a3d90482412098a45ac562b9bc3eff9f279b259a251a653a7dde070381c0e078dc86432198241ae57a5dc6e3795c46231964babdbe3fff1f67bb3d7e5fc7e3f91c663bfd1e673b7d5e472399249aa55a452299a4da8542a158442219e4fa9da6db85c2e1785cc663397c5ec763b93c7edf87c3e1f81ce67bdd068341a0d884422118643afd9e271b65ba3dfe1fe7fb1d66bbbd3e7fdf0783c1e0f89ca65bc5e2f99c261be5fa1de6fb9d269ba5da05028140a058c46239fc1ee77b5d46a35944a259c4e279dc06030180c06038fc9ea75b45a2d984c261387cde8743a1d8040201008040201 >>> (8 * n)) % 256

def tl (n : Nat) : Nat := (0xaf5850a8eaf4d674e8ade7e6e9d5ae4fd72c757aeb16f50b51a0a99cb05f59cb5a3eccbbb18660fbaa559d29523ba16cf66f0c7fec4917c476a47bb7d8432d1fa2416d4753393c849e5d2a14abd356f261befcdcb2978790cdcfbc955bd13f372e892023d99244117cb4b8267799a5e318fec531edde4a670d63808cf7c0700757a7f373ace5d44e2b79150a9f9b5eca3dba85fa54283a6b6e7e48c3a3b6421e404638835c13d2f1bddb968fce94d03688229110b32598e2fd30dd66628bbf06a672e44d78099ac9b9f9276a7dc2b51d458212f0da8e9335210f24e12f658a05714c08c8f869c11c81ef8d340ee064044bc7681bee33df03c61a320219010000 >>> (8 * n)) % 256

set_option maxRecDepth 100000 in
theorem tb_step : ∀ n, n < 254 → (tb (n + 1) == dbl (tb n)) = true :=
  allB_all (f := fun n => tb (n + 1) == dbl (tb n)) (by decide +kernel)

set_option maxRecDepth 100000 in
theorem tb_last : dbl (tb 254) = 1 := by decide +kernel

theorem tb_zero : tb 0 = 1 := by decide +kernel

theorem pw_tb : ∀ n, n < 255 → pw n = tb n := by
  intro n
  induction n with
  | zero => intro _; exact tb_zero.symm
  | succ n ih =>
    intro h
    have := tb_step n (by omega)
    rw [beq_iff_eq] at this
    rw [this, ← ih (by omega)]; rfl

theorem pw_255 : pw 255 = 1 := by
  show dbl (pw 254) = 1
  rw [pw_tb 254 (by omega)]; exact tb_last

theorem pw_per (n : Nat) : pw (n + 255) = pw n := by
  induction n with
  | zero => rw [Nat.zero_add]; exact pw_255
  | succ n ih => rw [show n + 1 + 255 = (n + 255) + 1 from by omega]; show dbl (pw (n + 255)) = dbl (pw n); rw [ih]

theorem pw_mul (n k : Nat) : pw (n + 255 * k) = pw n := by
  induction k with
  | zero => rfl
  | succ k ih => rw [show n + 255 * (k + 1) = (n + 255 * k) + 255 from by omega, pw_per, ih]

theorem pw_mod (n : Nat) : pw (n % 255) = pw n := by
  have := pw_mul (n % 255) (n / 255)
  rw [Nat.mod_add_div] at this
  exact this.symm

set_option maxRecDepth 100000 in
theorem tb_rng : ∀ n, n < 255 → (Nat.ble 1 (tb n) && Nat.ble (tb n) 255 && tl (tb n) == n) = true :=
  allB_all (f := fun n => Nat.ble 1 (tb n) && Nat.ble (tb n) 255 && tl (tb n) == n) (by decide +kernel)

set_option maxRecDepth 100000 in
theorem tl_rng : ∀ a, a < 256 → (a == 0 || (Nat.ble (tl a) 254 && tb (tl a) == a)) = true :=
  allB_all (f := fun a => a == 0 || (Nat.ble (tl a) 254 && tb (tl a) == a)) (by decide +kernel)

theorem pw_rng (n : Nat) : 1 ≤ pw n ∧ pw n ≤ 255 := by
  rw [← pw_mod n, pw_tb _ (Nat.mod_lt _ (by omega))]
  have := tb_rng (n % 255) (Nat.mod_lt _ (by omega))
  simp only [Bool.and_eq_true, Nat.ble_eq] at this
  exact this.1

theorem tl_pw (n : Nat) (h : n < 255) : tl (pw n) = n := by
  rw [pw_tb n h]
  have := tb_rng n h
  simp only [Bool.and_eq_true, beq_iff_eq] at this
  exact this.2

theorem pw_inj {n k : Nat} (hn : n < 255) (hk : k < 255) (h : pw n = pw k) : n = k := by
  rw [← tl_pw n hn, ← tl_pw k hk, h]

theorem lgA_pw (k : Nat) (hk : k ≤ 255) : ∀ n, n < k → lgA k (pw n) = n := by
  induction k with
  | zero => intro n h; omega
  | succ k ih =>
    intro n hn
    unfold lgA
    by_cases e : n = k
    · subst e; rw [if_pos rfl]
    · rw [if_neg (fun h => e (pw_inj (by omega) (by omega) h))]; exact ih (by omega) n (by omega)

theorem lg_pw (n : Nat) : lg (pw n) = n % 255 := by
  rw [← pw_mod n]; exact lgA_pw 255 (by omega) _ (Nat.mod_lt _ (by omega))

theorem tl_spec {a : Nat} (h0 : a ≠ 0) (h : a ≤ 255) : tl a < 255 ∧ pw (tl a) = a := by
  have := tl_rng a (by omega)
  simp only [Bool.or_eq_true, Bool.and_eq_true, beq_iff_eq, Nat.ble_eq] at this
  rcases this with e | ⟨h1, h2⟩
  · exact absurd e h0
  · exact ⟨by omega, by rw [pw_tb _ (by omega)]; exact h2⟩

theorem lg_tl {a : Nat} (h0 : a ≠ 0) (h : a ≤ 255) : lg a = tl a := by
  obtain ⟨h1, h2⟩ := tl_spec h0 h
  have := lg_pw (tl a)
  rw [h2, Nat.mod_eq_of_lt h1] at this
  exact this

theorem lg_lt {a : Nat} (h0 : a ≠ 0) (h : a ≤ 255) : lg a < 255 := by rw [lg_tl h0 h]; exact (tl_spec h0 h).1

theorem pw_lg {a : Nat} (h0 : a ≠ 0) (h : a ≤ 255) : pw (lg a) = a := by rw [lg_tl h0 h]; exact (tl_spec h0 h).2

theorem lgA_zero (k : Nat) : lgA k 0 = 0 := by
  induction k with
  | zero => rfl
  | succ k ih => unfold lgA; rw [if_neg (by have := (pw_rng k).1; omega), ih]

theorem lgA_le (k i : Nat) (hk : k ≤ 255) : lgA k i ≤ 254 := by
  induction k with
  | zero => unfold lgA; omega
  | succ k ih => unfold lgA; split
                 · omega
                 · exact ih (by omega)

theorem lg_le (i : Nat) : lg i ≤ 254 := lgA_le 255 i (by omega)

theorem mul_le (a b : Nat) : mul a b ≤ 255 := by
  unfold mul; split
  · omega
  · exact (pw_rng _).2

theorem mul_comm (a b : Nat) : mul a b = mul b a := by
  unfold mul
  rw [Nat.add_comm (lg a) (lg b)]
  by_cases h : a = 0 ∨ b = 0
  · rw [if_pos h, if_pos h.symm]
  · rw [if_neg h, if_neg (fun e => h e.symm)]

theorem mul_zero (a : Nat) : mul a 0 = 0 := by unfold mul; rw [if_pos (Or.inr rfl)]

theorem zero_mul (b : Nat) : mul 0 b = 0 := by unfold mul; rw [if_pos (Or.inl rfl)]

theorem mul_pos {a b : Nat} (ha : a ≠ 0) (hb : b ≠ 0) : mul a b = pw (lg a + lg b) := by
  unfold mul
  rw [if_neg (fun h => h.elim ha hb), pw_mod]

theorem mul_eq_zero (a b : Nat) : mul a b = 0 ↔ a = 0 ∨ b = 0 := by
  by_cases h : a = 0 ∨ b = 0
  · constructor
    · intro _; exact h
    · intro _; unfold mul; rw [if_pos h]
  · constructor
    · intro e; unfold mul at e; rw [if_neg h] at e; have := (pw_rng ((lg a + lg b) % 255)).1; omega
    · intro e; exact absurd e h

theorem mul_pw (n k : Nat) : mul (pw n) (pw k) = pw (n + k) := by
  have h1 := (pw_rng n).1; have h2 := (pw_rng k).1
  rw [mul_pos (by omega) (by omega), lg_pw, lg_pw, ← pw_mod (n % 255 + k % 255), ← Nat.add_mod, pw_mod]

theorem mul_assoc {a b c : Nat} (ha : a ≤ 255) (hb : b ≤ 255) (hc : c ≤ 255) : mul (mul a b) c = mul a (mul b c) := by
  by_cases a0 : a = 0
  · subst a0; rw [zero_mul, zero_mul, zero_mul]
  by_cases b0 : b = 0
  · subst b0; rw [mul_zero, zero_mul, mul_zero]
  by_cases c0 : c = 0
  · subst c0; rw [mul_zero, mul_zero, mul_zero]
  rw [← pw_lg a0 ha, ← pw_lg b0 hb, ← pw_lg c0 hc, mul_pw, mul_pw, mul_pw, mul_pw, Nat.add_assoc]

theorem one_pw : (1 : Nat) = pw 0 := rfl

theorem mul_one {a : Nat} (ha : a ≤ 255) : mul a 1 = a := by
  by_cases a0 : a = 0
  · subst a0; exact zero_mul 1
  rw [one_pw, ← pw_lg a0 ha, mul_pw]; rfl

theorem mul_two {a : Nat} (ha : a ≤ 255) : mul a 2 = dbl a := by
  by_cases a0 : a = 0
  · subst a0; rw [zero_mul]; rfl
  have e : (2 : Nat) = pw 1 := rfl
  rw [e, ← pw_lg a0 ha, mul_pw]; rfl

/-! the product bit by bit -/

theorem bits_xor (n : Nat) : ∀ x b c o p, bits n x (b ^^^ c) (o ^^^ p) = bits n x b o ^^^ bits n x c p := by
  induction n with
  | zero => intro x b c o p; rfl
  | succ n ih =>
    intro x b c o p
    unfold bits
    rw [Nat.xor_div_two, ← ih]
    congr 1
    have hx : ∀ u v : Nat, u ^^^ v ^^^ x = u ^^^ (v ^^^ x) := fun u v => Nat.xor_assoc u v x
    have h := @Nat.xor_mod_two_eq_one b c
    by_cases hb : b % 2 = 1 <;> by_cases hc : c % 2 = 1
    · rw [if_neg (by rw [h]; simp [hb, hc]), if_pos hb, if_pos hc, Nat.xor_assoc, Nat.xor_comm x, hx, Nat.xor_self, Nat.xor_zero]
    · rw [if_pos (by rw [h]; simp [hb, hc]), if_pos hb, if_neg hc, Nat.xor_assoc, Nat.xor_assoc, Nat.xor_comm x]
    · rw [if_pos (by rw [h]; simp [hb, hc]), if_neg hb, if_pos hc, Nat.xor_assoc]
    · rw [if_neg (by rw [h]; simp [hb, hc]), if_neg hb, if_neg hc]

/-- the product by the tables -/
def tmul (a b : Nat) : Nat := if (Nat.beq a 0 || Nat.beq b 0) = true then 0 else tb ((tl a + tl b) % 255)

theorem mul_tmul {a b : Nat} (ha : a ≤ 255) (hb : b ≤ 255) : mul a b = tmul a b := by
  unfold mul tmul
  by_cases h : a = 0 ∨ b = 0
  · rw [if_pos h, if_pos (by rcases h with rfl | rfl <;> simp)]
  · have h1 : a ≠ 0 := fun e => h (Or.inl e)
    have h2 : b ≠ 0 := fun e => h (Or.inr e)
    rw [if_neg h, if_neg (by simp [h1, h2]), lg_tl h1 ha, lg_tl h2 hb, pw_tb _ (Nat.mod_lt _ (by omega))]

set_option maxRecDepth 100000 in
theorem tmul_bits : ∀ a, a < 256 → allB 256 (fun b => Nat.beq (tmul a b) (bits 8 a b 0)) = true :=
  allB_all (f := fun a => allB 256 (fun b => Nat.beq (tmul a b) (bits 8 a b 0))) (by decide +kernel)

theorem mul_bits {a b : Nat} (ha : a ≤ 255) (hb : b ≤ 255) : mul a b = bits 8 a b 0 := by
  rw [mul_tmul ha hb]
  exact Nat.eq_of_beq_eq_true (allB_all (tmul_bits a (by omega)) b (by omega))

theorem xor_le {b c : Nat} (hb : b ≤ 255) (hc : c ≤ 255) : b ^^^ c ≤ 255 := by
  have := Nat.xor_lt_two_pow (n := 8) (x := b) (y := c) (by omega) (by omega)
  omega

theorem mul_xor {a b c : Nat} (ha : a ≤ 255) (hb : b ≤ 255) (hc : c ≤ 255) : mul a (b ^^^ c) = mul a b ^^^ mul a c := by
  rw [mul_bits ha hb, mul_bits ha hc, mul_bits ha (xor_le hb hc)]
  exact bits_xor 8 a b c 0 0

theorem xor_mul {a b c : Nat} (ha : a ≤ 255) (hb : b ≤ 255) (hc : c ≤ 255) : mul (a ^^^ b) c = mul a c ^^^ mul b c := by
  rw [mul_comm, mul_xor hc ha hb, mul_comm c a, mul_comm c b]

theorem sq_xor {a b : Nat} (ha : a ≤ 255) (hb : b ≤ 255) : mul (a ^^^ b) (a ^^^ b) = mul a a ^^^ mul b b := by
  rw [mul_xor (xor_le ha hb) ha hb, xor_mul ha hb ha, xor_mul ha hb hb, mul_comm b a, Nat.xor_assoc, ← Nat.xor_assoc (mul a b), Nat.xor_self, Nat.zero_xor]

/-- quotients, their errors, powers of any number -/
def divv (a b : Nat) : Nat := if a = 0 ∨ b = 0 then 0 else pw (lg a + 255 - lg b)

def dive (b : Nat) : Nat := if b = 0 then 1 else 0

def expv (n : Int) : Nat := pw (n % 255).toNat

def logv (a : Nat) : Nat := if a = 0 then 0 else lg a

theorem divv_le (a b : Nat) : divv a b ≤ 255 := by
  unfold divv; split
  · omega
  · exact (pw_rng _).2

theorem expv_le (n : Int) : expv n ≤ 255 := (pw_rng _).2

theorem logv_le (a : Nat) : logv a ≤ 254 := by
  unfold logv; split
  · omega
  · exact lg_le a

theorem mul_divv {a b : Nat} (ha : a ≤ 255) (hb : b ≤ 255) (hb0 : b ≠ 0) : mul (divv a b) b = a := by
  by_cases a0 : a = 0
  · subst a0; unfold divv; rw [if_pos (Or.inl rfl), zero_mul]
  have hl := lg_lt hb0 hb
  unfold divv
  rw [if_neg (fun h => h.elim a0 hb0)]
  have e : mul (pw (lg a + 255 - lg b)) b = mul (pw (lg a + 255 - lg b)) (pw (lg b)) := by rw [pw_lg hb0 hb]
  rw [e, mul_pw, show lg a + 255 - lg b + lg b = lg a + 255 from by omega, pw_per, pw_lg a0 ha]

theorem divv_one {a b : Nat} (ha : a ≤ 255) (hb : b ≤ 255) (hb0 : b ≠ 0) : divv a b = mul a (divv 1 b) := by
  have h1 : divv 1 b ≤ 255 := divv_le 1 b
  have e := mul_divv (a := 1) (by omega) hb hb0
  have e2 := mul_divv ha hb hb0
  have : mul (divv a b) (mul b (divv 1 b)) = mul a (divv 1 b) := by rw [← mul_assoc (divv_le a b) hb h1, e2]
  rw [mul_comm b, e, mul_one (divv_le a b)] at this
  exact this

end Go.Proofs.Ytemcjnbgcecinaa.GfM

/- The field of 256 elements on bytes, sums, matrices as functions, and that rows of a Cauchy matrix send nothing but 0 to 0; no condition. -/
namespace Go.Proofs.Ytemcjnbgcecinaa.GfU

/-- the product of two bytes, the inverse of a byte (of 0: 0) -/
def ml (a b : UInt8) : UInt8 := UInt8.ofNat (GfM.mul a.toNat b.toNat)

def iv (a : UInt8) : UInt8 := UInt8.ofNat (GfM.divv 1 a.toNat)

theorem toNat_le (a : UInt8) : a.toNat ≤ 255 := by have := a.toNat_lt; omega

theorem toNat_ofNat {x : Nat} (h : x ≤ 255) : (UInt8.ofNat x).toNat = x := by
  rw [UInt8.toNat_ofNat_of_lt']; show _ < 256; omega

theorem ml_toNat (a b : UInt8) : (ml a b).toNat = GfM.mul a.toNat b.toNat := toNat_ofNat (GfM.mul_le _ _)

theorem iv_toNat (a : UInt8) : (iv a).toNat = GfM.divv 1 a.toNat := toNat_ofNat (GfM.divv_le _ _)

theorem eq_of {a b : UInt8} (h : a.toNat = b.toNat) : a = b := UInt8.toNat_inj.1 h

theorem ne_zero {a : UInt8} : a ≠ 0 ↔ a.toNat ≠ 0 := by
  constructor
  · intro h e; exact h (eq_of e)
  · intro h e; exact h (by rw [e]; rfl)

theorem ml_comm (a b : UInt8) : ml a b = ml b a := by unfold ml; rw [GfM.mul_comm]

theorem ml_assoc (a b c : UInt8) : ml (ml a b) c = ml a (ml b c) :=
  eq_of (by rw [ml_toNat, ml_toNat, ml_toNat, ml_toNat, GfM.mul_assoc (toNat_le a) (toNat_le b) (toNat_le c)])

theorem ml_xor (a b c : UInt8) : ml a (b ^^^ c) = ml a b ^^^ ml a c :=
  eq_of (by rw [ml_toNat, UInt8.toNat_xor, UInt8.toNat_xor, ml_toNat, ml_toNat, GfM.mul_xor (toNat_le a) (toNat_le b) (toNat_le c)])

theorem xor_ml (a b c : UInt8) : ml (a ^^^ b) c = ml a c ^^^ ml b c := by rw [ml_comm, ml_xor, ml_comm c a, ml_comm c b]

theorem ml_zero (a : UInt8) : ml a 0 = 0 := eq_of (by rw [ml_toNat]; exact GfM.mul_zero _)

theorem zero_ml (a : UInt8) : ml 0 a = 0 := by rw [ml_comm, ml_zero]

theorem ml_one (a : UInt8) : ml a 1 = a := eq_of (by rw [ml_toNat]; exact GfM.mul_one (toNat_le a))

theorem one_ml (a : UInt8) : ml 1 a = a := by rw [ml_comm, ml_one]

theorem ml_iv {a : UInt8} (h : a ≠ 0) : ml a (iv a) = 1 :=
  eq_of (by rw [ml_toNat, iv_toNat, GfM.mul_comm]; exact GfM.mul_divv (by omega) (toNat_le a) (ne_zero.1 h))

theorem iv_ml {a : UInt8} (h : a ≠ 0) : ml (iv a) a = 1 := by rw [ml_comm, ml_iv h]

theorem ml_eq_zero {a b : UInt8} (h : ml a b = 0) : a = 0 ∨ b = 0 := by
  have e : (ml a b).toNat = 0 := by rw [h]; rfl
  rw [ml_toNat] at e
  rcases (GfM.mul_eq_zero _ _).1 e with h | h
  · exact .inl (eq_of h)
  · exact .inr (eq_of h)

theorem iv_ne {a : UInt8} (h : a ≠ 0) : iv a ≠ 0 := by
  intro e
  have := ml_iv h
  rw [e, ml_zero] at this
  exact absurd this (by decide)

theorem ml_left_cancel {a b : UInt8} (h : a ≠ 0) (e : ml a b = 0) : b = 0 := (ml_eq_zero e).resolve_left h

theorem xor_self (a : UInt8) : a ^^^ a = 0 := UInt8.xor_self

theorem xor_eq_zero {a b : UInt8} (h : a ^^^ b = 0) : a = b := by
  have : (a ^^^ b) ^^^ b = 0 ^^^ b := by rw [h]
  rw [UInt8.xor_assoc, xor_self, UInt8.xor_zero, UInt8.zero_xor] at this
  exact this

theorem xor_ne {a b : UInt8} (h : a ≠ b) : a ^^^ b ≠ 0 := fun e => h (xor_eq_zero e)

instance ml_isAssoc : Std.Associative ml := ⟨ml_assoc⟩

instance ml_isComm : Std.Commutative ml := ⟨ml_comm⟩

/-- the sum of the first n of f -/
def sum (n : Nat) (f : Nat → UInt8) : UInt8 := match n with
  | 0 => 0
  | n + 1 => sum n f ^^^ f n

theorem sum_succ (n : Nat) (f : Nat → UInt8) : sum (n + 1) f = sum n f ^^^ f n := rfl

theorem sum_congr (n : Nat) {f g : Nat → UInt8} (h : ∀ i, i < n → f i = g i) : sum n f = sum n g := by
  induction n with
  | zero => rfl
  | succ n ih => rw [sum_succ, sum_succ, ih fun i hi => h i (by omega), h n (by omega)]

theorem sum_zero (n : Nat) : sum n (fun _ => 0) = 0 := by
  induction n with
  | zero => rfl
  | succ n ih => rw [sum_succ, ih]; exact xor_self 0

theorem sum_null (n : Nat) {f : Nat → UInt8} (h : ∀ i, i < n → f i = 0) : sum n f = 0 := by
  rw [sum_congr n h, sum_zero]

theorem sum_xor (n : Nat) (f g : Nat → UInt8) : sum n (fun i => f i ^^^ g i) = sum n f ^^^ sum n g := by
  induction n with
  | zero => exact (xor_self 0).symm
  | succ n ih =>
    rw [sum_succ, sum_succ, sum_succ, ih]
    ac_rfl

theorem ml_sum (n : Nat) (a : UInt8) (f : Nat → UInt8) : ml a (sum n f) = sum n (fun i => ml a (f i)) := by
  induction n with
  | zero => exact ml_zero a
  | succ n ih => rw [sum_succ, sum_succ, ml_xor, ih]

theorem sum_ml (n : Nat) (a : UInt8) (f : Nat → UInt8) : ml (sum n f) a = sum n (fun i => ml (f i) a) := by
  rw [ml_comm, ml_sum]
  exact sum_congr _ fun i _ => ml_comm _ _

theorem sum_swap (n m : Nat) (f : Nat → Nat → UInt8) : sum n (fun i => sum m (fun j => f i j)) = sum m (fun j => sum n (fun i => f i j)) := by
  induction n with
  | zero => exact (sum_zero m).symm
  | succ n ih => rw [sum_succ, ih, ← sum_xor]; rfl

theorem sum_single (n k : Nat) {f : Nat → UInt8} (hk : k < n) (h : ∀ i, i < n → i ≠ k → f i = 0) : sum n f = f k := by
  induction n with
  | zero => omega
  | succ n ih =>
    rw [sum_succ]
    by_cases e : k = n
    · subst e
      rw [sum_null k (fun i hi => h i (by omega) (by omega)), UInt8.zero_xor]
    · rw [ih (by omega) (fun i hi => h i (by omega)), h n (by omega) (by omega), UInt8.xor_zero]

/-- a sum without its place k -/
theorem sum_off (n k : Nat) {f : Nat → UInt8} (hk : k < n) : sum n f = f k ^^^ sum n (fun i => if i = k then 0 else f i) := by
  have h1 : sum n f = sum n (fun i => (if i = k then f i else 0) ^^^ (if i = k then 0 else f i)) :=
    sum_congr _ fun i _ => by by_cases e : i = k <;> simp [e]
  rw [h1, sum_xor, sum_single n k (f := fun i => if i = k then f i else 0) hk fun i _ hi => if_neg hi]
  rw [if_pos rfl]

/-- matrices are functions; a product over n -/
def mm (n : Nat) (A B : Nat → Nat → UInt8) (i j : Nat) : UInt8 := sum n fun k => ml (A i k) (B k j)

def one (i j : Nat) : UInt8 := if i = j then 1 else 0

theorem mm_assoc (n m : Nat) (A B C : Nat → Nat → UInt8) (i j : Nat) : mm m (mm n A B) C i j = mm n A (mm m B C) i j := by
  unfold mm
  rw [sum_congr m (g := fun k => sum n fun l => ml (ml (A i l) (B l k)) (C k j)) (fun k _ => sum_ml n _ _), sum_swap]
  refine sum_congr _ fun l _ => ?_
  rw [ml_sum]
  exact sum_congr _ fun k _ => ml_assoc _ _ _

theorem one_mm (n : Nat) (A : Nat → Nat → UInt8) (i j : Nat) (hi : i < n) : mm n one A i j = A i j := by
  unfold mm
  rw [sum_single n i hi fun k _ hk => by unfold one; rw [if_neg (fun e => hk e.symm), zero_ml]]
  unfold one; rw [if_pos rfl, one_ml]

theorem mm_one (n : Nat) (A : Nat → Nat → UInt8) (i j : Nat) (hj : j < n) : mm n A one i j = A i j := by
  unfold mm
  rw [sum_single n j hj fun k _ hk => by unfold one; rw [if_neg hk, ml_zero]]
  unfold one; rw [if_pos rfl, ml_one]

theorem mm_congr (n : Nat) {A A' B B' : Nat → Nat → UInt8} (i j : Nat) (hA : ∀ k, k < n → A i k = A' i k) (hB : ∀ k, k < n → B k j = B' k j) : mm n A B i j = mm n A' B' i j :=
  sum_congr _ fun k hk => by rw [hA k hk, hB k hk]

/-- the same inside a square -/
def sq (n : Nat) (A B : Nat → Nat → UInt8) : Prop := ∀ i j, i < n → j < n → A i j = B i j

/-- a matrix with an inverse sends nothing but 0 to 0 -/
theorem inv_ker (n : Nat) {R M : Nat → Nat → UInt8} (h : sq n (mm n R M) one) {v : Nat → UInt8} (hv : ∀ i, i < n → sum n (fun k => ml (M i k) (v k)) = 0) : ∀ i, i < n → v i = 0 := by
  intro i hi
  have e := mm_assoc n n R M (fun k _ => v k) i 0
  have e1 : mm n (mm n R M) (fun k _ => v k) i 0 = v i := by
    rw [mm_congr n (A' := one) (B' := fun k _ => v k) i 0 (fun k hk => h i k hi hk) (fun _ _ => rfl)]
    exact one_mm n (fun k _ => v k) i 0 hi
  have e2 : mm n R (mm n M (fun k _ => v k)) i 0 = 0 := sum_null n fun k hk => by
    show ml (R i k) (mm n M (fun k _ => v k) k 0) = 0
    rw [show mm n M (fun k _ => v k) k 0 = 0 from hv k hk, ml_zero]
  rw [← e1, e, e2]

/-- inverses are alike -/
theorem inv_alike (n : Nat) {R R' M : Nat → Nat → UInt8} (h : sq n (mm n R M) one) (h' : sq n (mm n M R') one) : sq n R R' := by
  intro i j hi hj
  have e := mm_assoc n n R M R' i j
  rw [mm_congr n (A' := one) (B' := R') i j (fun k hk => h i k hi hk) (fun _ _ => rfl), one_mm n R' i j hi] at e
  rw [mm_congr n (A := R) (A' := R) (B' := one) i j (fun _ _ => rfl) (fun k hk => h' k j hk hj), mm_one n R i j hj] at e
  exact e.symm

theorem inv_sum {p q : UInt8} (hp : p ≠ 0) (hq : q ≠ 0) : iv p ^^^ iv q = ml (p ^^^ q) (ml (iv p) (iv q)) := by
  rw [xor_ml]
  have e1 : ml p (ml (iv p) (iv q)) = iv q := by rw [← ml_assoc, ml_iv hp, one_ml]
  have e2 : ml q (ml (iv p) (iv q)) = iv p := by rw [ml_comm (iv p), ← ml_assoc, ml_iv hq, one_ml]
  rw [e1, e2, UInt8.xor_comm]

theorem cauchy (r : Nat) : ∀ (x y v : Nat → UInt8), (∀ i j, i < r → j < r → x i = x j → i = j) → (∀ i j, i < r → j < r → y i = y j → i = j) →
    (∀ i j, i < r → j < r → x i ≠ y j) → (∀ i, i < r → sum r (fun j => ml (iv (x i ^^^ y j)) (v j)) = 0) → ∀ j, j < r → v j = 0 := by
  induction r with
  | zero => intro x y v _ _ _ _ j hj; omega
  | succ r ih =>
    intro x y v hx hy hxy hs
    -- every row, times x i + y r
    have step : ∀ i, i < r + 1 → sum r (fun j => ml (ml (y j ^^^ y r) (v j)) (iv (x i ^^^ y j))) = sum (r + 1) v := by
      intro i hi
      have h0 := hs i hi
      have h1 : ml (x i ^^^ y r) (sum (r + 1) (fun j => ml (iv (x i ^^^ y j)) (v j))) = 0 := by rw [h0, ml_zero]
      rw [ml_sum] at h1
      have h2 : ∀ j, j < r + 1 → ml (x i ^^^ y r) (ml (iv (x i ^^^ y j)) (v j)) = v j ^^^ ml (ml (y j ^^^ y r) (v j)) (iv (x i ^^^ y j)) := by
        intro j hj
        have hne := xor_ne (hxy i j hi hj)
        have e : x i ^^^ y r = (x i ^^^ y j) ^^^ (y j ^^^ y r) := by
          rw [UInt8.xor_assoc, ← UInt8.xor_assoc (y j), xor_self, UInt8.zero_xor]
        rw [e, xor_ml]
        congr 1
        · rw [← ml_assoc, ml_iv hne, one_ml]
        · ac_rfl
      rw [sum_congr (r + 1) h2, sum_xor] at h1
      have h3 := xor_eq_zero h1
      rw [h3, sum_succ, xor_self, zero_ml, zero_ml, UInt8.xor_zero]
    have hw : ∀ j, j < r → ml (ml (y j ^^^ y r) (v j)) (iv (x r ^^^ y j)) = 0 := by
      refine ih x y (fun j => ml (ml (y j ^^^ y r) (v j)) (iv (x r ^^^ y j))) (fun i j hi hj => hx i j (by omega) (by omega)) (fun i j hi hj => hy i j (by omega) (by omega))
        (fun i j hi hj => hxy i j (by omega) (by omega)) ?_
      intro i hi
      have e1 := step i (by omega)
      have e2 := step r (by omega)
      have e3 : sum r (fun j => ml (ml (y j ^^^ y r) (v j)) (iv (x i ^^^ y j)) ^^^ ml (ml (y j ^^^ y r) (v j)) (iv (x r ^^^ y j))) = 0 := by
        rw [sum_xor, e1, e2, xor_self]
      have e4 : ∀ j, j < r → ml (ml (y j ^^^ y r) (v j)) (iv (x i ^^^ y j)) ^^^ ml (ml (y j ^^^ y r) (v j)) (iv (x r ^^^ y j))
          = ml (x i ^^^ x r) (ml (iv (x i ^^^ y j)) (ml (ml (y j ^^^ y r) (v j)) (iv (x r ^^^ y j)))) := by
        intro j hj
        rw [← ml_xor, inv_sum (xor_ne (hxy i j (by omega) (by omega))) (xor_ne (hxy r j (by omega) (by omega)))]
        have e : x i ^^^ y j ^^^ (x r ^^^ y j) = x i ^^^ x r := by
          rw [UInt8.xor_comm (x r), UInt8.xor_assoc, ← UInt8.xor_assoc (y j), xor_self, UInt8.zero_xor]
        rw [e]
        ac_rfl
      rw [sum_congr r e4, ← ml_sum] at e3
      exact ml_left_cancel (xor_ne fun e => absurd (hx i r (by omega) (by omega) e) (by omega)) e3
    have hv : ∀ j, j < r → v j = 0 := by
      intro j hj
      rcases ml_eq_zero (hw j hj) with h | h
      · rcases ml_eq_zero h with h | h
        · exact absurd (hy j r (by omega) (by omega) (xor_eq_zero h)) (by omega)
        · exact h
      · exact absurd h (iv_ne (xor_ne (hxy r j (by omega) (by omega))))
    intro j hj
    by_cases e : j = r
    · subst e
      have h0 := hs j (by omega)
      rw [sum_single (j + 1) j (by omega) fun i hi hne => by rw [hv i (by omega), ml_zero]] at h0
      rcases ml_eq_zero h0 with h | h
      · exact absurd h (iv_ne (xor_ne (hxy j j (by omega) (by omega))))
      · exact h
    · exact hv j (by omega)

end Go.Proofs.Ytemcjnbgcecinaa.GfU

/- Objects in shards, in plain lists and numbers. -/
namespace Go.Proofs.Ytemcjnbgcecinaa.St

/-- how many bytes each of k shards has -/
def szN (k n : Nat) : Nat := (4 + n + k - 1) / k

theorem sz_ge {k n : Nat} (hk : 1 ≤ k) : 4 + n ≤ k * szN k n := by
  have h := Nat.div_add_mod (4 + n + k - 1) k
  have h2 := Nat.mod_lt (4 + n + k - 1) (show 0 < k by omega)
  unfold szN
  omega

theorem sz_le (k n : Nat) : k * szN k n ≤ 4 + n + k - 1 := Nat.mul_div_le _ _

theorem sz_pos {k n : Nat} (hk : 1 ≤ k) : 1 ≤ szN k n := by
  have := sz_ge (n := n) hk
  rcases Nat.eq_zero_or_pos (szN k n) with h | h
  · rw [h] at this; omega
  · exact h

theorem sz_bound {k n : Nat} (hk2 : k ≤ 255) (hn : n ≤ 2048) : k * szN k n ≤ 2306 := by
  have := sz_le k n
  omega

theorem sz_bound1 {k n : Nat} (hk : 1 ≤ k) (hn : n ≤ 2048) : szN k n ≤ 2052 := by
  unfold szN
  refine Nat.div_le_of_le_mul ?_
  have : k * 2052 = 2052 * k := Nat.mul_comm _ _
  omega

theorem sz_mono {k n m : Nat} (h : n ≤ m) : szN k n ≤ szN k m := Nat.div_le_div_right (by omega)

/-- one of the four bytes of a length, the highest first -/
def beN (n i : Nat) : Nat := n / 256 ^ (3 - i) % 256

def headL (n : Nat) : List UInt8 := (List.range 4).map fun i => UInt8.ofNat (beN n i)

theorem head_len (n : Nat) : (headL n).length = 4 := by simp [headL]

/-- an object's plain bytes -/
def plainL (k : Nat) (s : ByteArray) : List UInt8 := headL s.size ++ s.data.toList ++ List.replicate (k * szN k s.size - (4 + s.size)) 0

theorem data_len (s : ByteArray) : s.data.toList.length = s.size := by rw [Array.length_toList]; rfl

theorem plain_len {k : Nat} (hk : 1 ≤ k) (s : ByteArray) : (plainL k s).length = k * szN k s.size := by
  have := sz_ge (n := s.size) hk
  unfold plainL
  rw [List.length_append, List.length_append, List.length_replicate, head_len, data_len]
  omega

/-- piece i of n bytes -/
def piece (L : List UInt8) (n i : Nat) : ByteArray := ⟨((L.drop (i * n)).take n).toArray⟩

theorem piece_size (L : List UInt8) (n i : Nat) (h : (i + 1) * n ≤ L.length) : (piece L n i).size = n := by
  show ((L.drop (i * n)).take n).toArray.size = n
  rw [List.size_toArray, List.length_take, List.length_drop]
  rw [Nat.succ_mul] at h
  omega

def pieces (L : List UInt8) (n k : Nat) : List ByteArray := (List.range k).map (piece L n)

theorem pieces_len (L : List UInt8) (n k : Nat) : (pieces L n k).length = k := by simp [pieces]

theorem pieces_at (L : List UInt8) (n k i : Nat) (h : i < k) : (pieces L n k)[i]? = some (piece L n i) := by
  unfold pieces
  rw [List.getElem?_map, List.getElem?_range h]; rfl

def shards (k : Nat) (s : ByteArray) : List ByteArray := pieces (plainL k s) (szN k s.size) k

theorem shards_len (k : Nat) (s : ByteArray) : (shards k s).length = k := pieces_len _ _ _

theorem shard_size {k : Nat} (hk : 1 ≤ k) (s : ByteArray) (i : Nat) (h : i < k) : (piece (plainL k s) (szN k s.size) i).size = szN k s.size :=
  piece_size _ _ _ (by rw [plain_len hk]; exact Nat.mul_le_mul_right _ h)

theorem shards_size {k : Nat} (hk : 1 ≤ k) (s : ByteArray) (x : ByteArray) (h : x ∈ shards k s) : x.size = szN k s.size := by
  unfold shards pieces at h
  obtain ⟨i, hi, rfl⟩ := List.mem_map.1 h
  exact shard_size hk s i (List.mem_range.1 hi)

/-- all of them, one behind the other -/
def joinL (l : List ByteArray) : List UInt8 := l.flatMap fun s => s.data.toList

theorem joinL_append (l m : List ByteArray) : joinL (l ++ m) = joinL l ++ joinL m := List.flatMap_append

theorem joinL_one (s : ByteArray) : joinL [s] = s.data.toList := by simp [joinL]

theorem join_pieces (L : List UInt8) (n : Nat) : ∀ k, joinL (pieces L n k) = L.take (k * n) := by
  intro k
  induction k with
  | zero => simp [pieces, joinL]
  | succ k ih =>
    unfold pieces at *
    rw [List.range_succ, List.map_append, joinL_append, ih, List.map_cons, List.map_nil, joinL_one]
    show L.take (k * n) ++ (L.drop (k * n)).take n = _
    rw [Nat.succ_mul, List.take_add]

theorem join_shards {k : Nat} (hk : 1 ≤ k) (s : ByteArray) : joinL (shards k s) = plainL k s := by
  unfold shards
  rw [join_pieces, List.take_of_length_le (by rw [plain_len hk]; exact Nat.le_refl _)]

/-- are they as long, all of them? -/
def Even (l : List ByteArray) : Prop := ∀ s ∈ l, s.size = (l.headD ⟨#[]⟩).size

instance (l : List ByteArray) : Decidable (Even l) := by unfold Even; infer_instance

theorem even_shards {k : Nat} (hk : 1 ≤ k) (s : ByteArray) : Even (shards k s) := by
  intro x hx
  rw [shards_size hk s x hx]
  cases h : shards k s with
  | nil => rw [h] at hx; cases hx
  | cons y r => exact (shards_size hk s y (by rw [h]; simp)).symm

theorem joinL_len : ∀ (l : List ByteArray) (n : Nat), (∀ s ∈ l, s.size = n) → (joinL l).length = l.length * n
  | [], n, _ => by simp [joinL]
  | s :: r, n, h => by
    have ih := joinL_len r n fun x hx => h x (by simp [hx])
    show (s.data.toList ++ joinL r).length = _
    rw [List.length_append, ih, data_len, h s (by simp), List.length_cons, Nat.succ_mul]
    omega

theorem even_len (l : List ByteArray) (h : Even l) : (joinL l).length = l.length * (l.headD ⟨#[]⟩).size := joinL_len l _ h

/-- the number that the first four bytes are -/
def numL (L : List UInt8) : Nat := (L.take 4).foldl (fun a b => a * 256 + b.toNat) 0

/-- the object whose plain bytes they are -/
def uncut (k : Nat) (L : List UInt8) : Option ByteArray :=
  if L.length < 4 then none
  else if 2048 < numL L ∨ L.length - 4 < numL L then none
  else if plainL k ⟨((L.drop 4).take (numL L)).toArray⟩ = L then some ⟨((L.drop 4).take (numL L)).toArray⟩ else none

theorem num_head (n : Nat) (h : n < 4294967296) (r : List UInt8) : numL (headL n ++ r) = n := by
  have e : headL n = [UInt8.ofNat (beN n 0), UInt8.ofNat (beN n 1), UInt8.ofNat (beN n 2), UInt8.ofNat (beN n 3)] := rfl
  unfold numL
  rw [List.take_append_of_le_length (by rw [head_len]; omega), List.take_of_length_le (by rw [head_len]; omega), e]
  simp only [List.foldl_cons, List.foldl_nil]
  have b : ∀ i, (UInt8.ofNat (beN n i)).toNat = beN n i := fun i => GfU.toNat_ofNat (by unfold beN; omega)
  rw [b, b, b, b]
  unfold beN
  simp only [Nat.reduceSub, Nat.reducePow, Nat.pow_zero]
  omega

theorem uncut_plain {k : Nat} (hk : 1 ≤ k) (s : ByteArray) (hs : s.size ≤ 2048) : uncut k (plainL k s) = some s := by
  have hn : numL (plainL k s) = s.size := by
    unfold plainL
    rw [List.append_assoc]
    exact num_head _ (by omega) _
  have hl := plain_len hk s
  have hg := sz_ge (n := s.size) hk
  have hd : (⟨(((plainL k s).drop 4).take s.size).toArray⟩ : ByteArray) = s := by
    have : ((plainL k s).drop 4).take s.size = s.data.toList := by
      unfold plainL
      rw [List.append_assoc, List.drop_append, head_len, Nat.sub_self, List.drop_zero, List.drop_of_length_le (by rw [head_len]; omega), List.nil_append,
        List.take_append_of_le_length (by rw [data_len]; omega), List.take_of_length_le (by rw [data_len]; omega)]
    rw [this]
  unfold uncut
  rw [hn, if_neg (by omega), if_neg (by omega), hd, if_pos rfl]

theorem uncut_some {k : Nat} {L : List UInt8} {s : ByteArray} (h : uncut k L = some s) : plainL k s = L ∧ s.size ≤ 2048 := by
  unfold uncut at h
  split at h
  · cases h
  · split at h
    · cases h
    · split at h
      · rename_i h1 h2 h3
        obtain rfl := Option.some.inj h
        refine ⟨h3, ?_⟩
        show ((L.drop 4).take (numL L)).toArray.size ≤ 2048
        rw [List.size_toArray, List.length_take]
        omega
      · cases h

/-- shards that are too long are no object's -/
theorem uncut_long {k n : Nat} {L : List UInt8} (hk : 1 ≤ k) (hl : L.length = k * n) (h : szN k 2048 < n) : uncut k L = none := by
  cases hu : uncut k L with
  | none => rfl
  | some s =>
    obtain ⟨h1, h2⟩ := uncut_some hu
    have h3 := plain_len hk s
    rw [h1, hl] at h3
    have h4 := sz_mono (k := k) h2
    have h5 := Nat.eq_of_mul_eq_mul_left (show 0 < k by omega) h3
    omega

/-- what Join answers -/
def joinAns (l : List ByteArray) : ByteArray × Nat :=
  if l.length < 1 ∨ 255 < l.length then (⟨#[]⟩, 1)
  else if ¬ Even l then (⟨#[]⟩, 4)
  else match uncut l.length (joinL l) with
    | some s => (s, 0)
    | none => (⟨#[]⟩, 41)

theorem join_back {k : Nat} (hk : 1 ≤ k) (hk2 : k ≤ 255) (s : ByteArray) (hs : s.size ≤ 2048) : joinAns (shards k s) = (s, 0) := by
  unfold joinAns
  rw [if_neg (by rw [shards_len]; omega), if_neg (fun h => h (even_shards hk s)), shards_len, join_shards hk, uncut_plain hk s hs]

end Go.Proofs.Ytemcjnbgcecinaa.St
