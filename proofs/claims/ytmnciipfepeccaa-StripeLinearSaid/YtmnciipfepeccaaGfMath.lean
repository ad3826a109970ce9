/- The field of 256 elements in plain numbers: powers of 2, logs, products by logs and products bit by bit are one; no condition. -/
import Init.Data.Nat.Bitwise.Lemmas
namespace Go.Proofs.Ytmnciipfepeccaa.GfM

/-- every number below n -/
def allB : Nat → (Nat → Bool) → Bool
  | 0, _ => true
  | n + 1, f => f n && allB n f

theorem allB_all {n : Nat} {f : Nat → Bool} (h : allB n f = true) : ∀ i, i < n → f i = true := by
  induction n with
  | zero => intro i hi; omega
  | succ n ih =>
    intro i hi
    simp only [allB, Bool.and_eq_true] at h
    by_cases e : i = n
    · subst e; exact h.1
    · exact ih h.2 i (by omega)

def dbl (x : Nat) : Nat := if 255 < 2 * x then (2 * x) ^^^ 285 else 2 * x

/-- the powers of 2 -/
def pw : Nat → Nat
  | 0 => 1
  | n + 1 => dbl (pw n)

/-- the table of logs when k powers stand in it -/
def lgA : Nat → Nat → Nat
  | 0, _ => 0
  | k + 1, i => if i = pw k then k else lgA k i

/-- the log of an element -/
def lg (a : Nat) : Nat := lgA 255 a

/-- the product by logs -/
def mul (a b : Nat) : Nat := if a = 0 ∨ b = 0 then 0 else pw ((lg a + lg b) % 255)

/-- the product bit by bit, n bits on -/
def bits : Nat → Nat → Nat → Nat → Nat
  | 0, _, _, o => o
  | n + 1, x, y, o => bits n (dbl x) (y / 2) (if y % 2 = 1 then o ^^^ x else o)

def tb (n : Nat) : Nat := (0x8e47add86c361b83cfe9fa7db0582c160b8bcbebfbf3f7f5f47a3d90482412098a45ac562b9bc3eff9f279b259a251a653a7dde070381c0e078dc86432198241ae57a5dc6e3795c46231964babdbe3fff1f67bb3d7e5fc7e3f91c663bfd1e673b7d5e472399249aa55a452299a4da8542a158442219e4fa9da6db85c2e1785cc663397c5ec763b93c7edf87c3e1f81ce67bdd068341a0d884422118643afd9e271b65ba3dfe1fe7fb1d66bbbd3e7fdf0783c1e0f89ca65bc5e2f99c261be5fa1de6fb9d269ba5da05028140a058c46239fc1ee77b5d46a35944a259c4e279dc06030180c06038fc9ea75b45a2d984c261387cde8743a1d8040201008040201 >>> (8 * n)) % 256

def tl (n : Nat) : Nat := (0xaf5850a8eaf4d674e8ade7e6e9d5ae4fd72c757aeb16f50b51a0a99cb05f59cb5a3eccbbb18660fbaa559d29523ba16cf66f0c7fec4917c476a47bb7d8432d1fa2416d4753393c849e5d2a14abd356f261befcdcb2978790cdcfbc955bd13f372e892023d99244117cb4b8267799a5e318fec531edde4a670d63808cf7c0700757a7f373ace5d44e2b79150a9f9b5eca3dba85fa54283a6b6e7e48c3a3b6421e404638835c13d2f1bddb968fce94d03688229110b32598e2fd30dd66628bbf06a672e44d78099ac9b9f9276a7dc2b51d458212f0da8e9335210f24e12f658a05714c08c8f869c11c81ef8d340ee064044bc7681bee33df03c61a320219010000 >>> (8 * n)) % 256

set_option maxRecDepth 100000 in
theorem tb_step : ∀ n, n < 254 → (tb (n + 1) == dbl (tb n)) = true :=
  allB_all (f := fun n => tb (n + 1) == dbl (tb n)) (by decide +kernel)

set_option maxRecDepth 100000 in
theorem tb_last : dbl (tb 254) = 1 := by decide +kernel

theorem tb_zero : tb 0 = 1 := by decide +kernel

theorem pw_tb : ∀ n, n < 255 → pw n = tb n := by
  intro n
  induction n with
  | zero => intro _; exact tb_zero.symm
  | succ n ih =>
    intro h
    have := tb_step n (by omega)
    rw [beq_iff_eq] at this
    rw [this, ← ih (by omega)]; rfl

theorem pw_255 : pw 255 = 1 := by
  show dbl (pw 254) = 1
  rw [pw_tb 254 (by omega)]; exact tb_last

theorem pw_per (n : Nat) : pw (n + 255) = pw n := by
  induction n with
  | zero => rw [Nat.zero_add]; exact pw_255
  | succ n ih => rw [show n + 1 + 255 = (n + 255) + 1 from by omega]; show dbl (pw (n + 255)) = dbl (pw n); rw [ih]

theorem pw_mul (n k : Nat) : pw (n + 255 * k) = pw n := by
  induction k with
  | zero => rfl
  | succ k ih => rw [show n + 255 * (k + 1) = (n + 255 * k) + 255 from by omega, pw_per, ih]

theorem pw_mod (n : Nat) : pw (n % 255) = pw n := by
  have := pw_mul (n % 255) (n / 255)
  rw [Nat.mod_add_div] at this
  exact this.symm

set_option maxRecDepth 100000 in
theorem tb_rng : ∀ n, n < 255 → (Nat.ble 1 (tb n) && Nat.ble (tb n) 255 && tl (tb n) == n) = true :=
  allB_all (f := fun n => Nat.ble 1 (tb n) && Nat.ble (tb n) 255 && tl (tb n) == n) (by decide +kernel)

set_option maxRecDepth 100000 in
theorem tl_rng : ∀ a, a < 256 → (a == 0 || (Nat.ble (tl a) 254 && tb (tl a) == a)) = true :=
  allB_all (f := fun a => a == 0 || (Nat.ble (tl a) 254 && tb (tl a) == a)) (by decide +kernel)

theorem pw_rng (n : Nat) : 1 ≤ pw n ∧ pw n ≤ 255 := by
  rw [← pw_mod n, pw_tb _ (Nat.mod_lt _ (by omega))]
  have := tb_rng (n % 255) (Nat.mod_lt _ (by omega))
  simp only [Bool.and_eq_true, Nat.ble_eq] at this
  exact this.1

theorem tl_pw (n : Nat) (h : n < 255) : tl (pw n) = n := by
  rw [pw_tb n h]
  have := tb_rng n h
  simp only [Bool.and_eq_true, beq_iff_eq] at this
  exact this.2

theorem pw_inj {n k : Nat} (hn : n < 255) (hk : k < 255) (h : pw n = pw k) : n = k := by
  rw [← tl_pw n hn, ← tl_pw k hk, h]

theorem lgA_pw (k : Nat) (hk : k ≤ 255) : ∀ n, n < k → lgA k (pw n) = n := by
  induction k with
  | zero => intro n h; omega
  | succ k ih =>
    intro n hn
    unfold lgA
    by_cases e : n = k
    · subst e; rw [if_pos rfl]
    · rw [if_neg (fun h => e (pw_inj (by omega) (by omega) h))]; exact ih (by omega) n (by omega)

theorem lg_pw (n : Nat) : lg (pw n) = n % 255 := by
  rw [← pw_mod n]; exact lgA_pw 255 (by omega) _ (Nat.mod_lt _ (by omega))

theorem tl_spec {a : Nat} (h0 : a ≠ 0) (h : a ≤ 255) : tl a < 255 ∧ pw (tl a) = a := by
  have := tl_rng a (by omega)
  simp only [Bool.or_eq_true, Bool.and_eq_true, beq_iff_eq, Nat.ble_eq] at this
  rcases this with e | ⟨h1, h2⟩
  · exact absurd e h0
  · exact ⟨by omega, by rw [pw_tb _ (by omega)]; exact h2⟩

theorem lg_tl {a : Nat} (h0 : a ≠ 0) (h : a ≤ 255) : lg a = tl a := by
  obtain ⟨h1, h2⟩ := tl_spec h0 h
  have := lg_pw (tl a)
  rw [h2, Nat.mod_eq_of_lt h1] at this
  exact this

theorem lg_lt {a : Nat} (h0 : a ≠ 0) (h : a ≤ 255) : lg a < 255 := by rw [lg_tl h0 h]; exact (tl_spec h0 h).1

theorem pw_lg {a : Nat} (h0 : a ≠ 0) (h : a ≤ 255) : pw (lg a) = a := by rw [lg_tl h0 h]; exact (tl_spec h0 h).2

theorem lgA_zero (k : Nat) : lgA k 0 = 0 := by
  induction k with
  | zero => rfl
  | succ k ih => unfold lgA; rw [if_neg (by have := (pw_rng k).1; omega), ih]

theorem lgA_le (k i : Nat) (hk : k ≤ 255) : lgA k i ≤ 254 := by
  induction k with
  | zero => unfold lgA; omega
  | succ k ih => unfold lgA; split
                 · omega
                 · exact ih (by omega)

theorem lg_le (i : Nat) : lg i ≤ 254 := lgA_le 255 i (by omega)

theorem mul_le (a b : Nat) : mul a b ≤ 255 := by
  unfold mul; split
  · omega
  · exact (pw_rng _).2

theorem mul_comm (a b : Nat) : mul a b = mul b a := by
  unfold mul
  rw [Nat.add_comm (lg a) (lg b)]
  by_cases h : a = 0 ∨ b = 0
  · rw [if_pos h, if_pos h.symm]
  · rw [if_neg h, if_neg (fun e => h e.symm)]

theorem mul_zero (a : Nat) : mul a 0 = 0 := by unfold mul; rw [if_pos (Or.inr rfl)]

theorem zero_mul (b : Nat) : mul 0 b = 0 := by unfold mul; rw [if_pos (Or.inl rfl)]

theorem mul_pos {a b : Nat} (ha : a ≠ 0) (hb : b ≠ 0) : mul a b = pw (lg a + lg b) := by
  unfold mul
  rw [if_neg (fun h => h.elim ha hb), pw_mod]

theorem mul_eq_zero (a b : Nat) : mul a b = 0 ↔ a = 0 ∨ b = 0 := by
  by_cases h : a = 0 ∨ b = 0
  · constructor
    · intro _; exact h
    · intro _; unfold mul; rw [if_pos h]
  · constructor
    · intro e; unfold mul at e; rw [if_neg h] at e; have := (pw_rng ((lg a + lg b) % 255)).1; omega
    · intro e; exact absurd e h

theorem mul_pw (n k : Nat) : mul (pw n) (pw k) = pw (n + k) := by
  have h1 := (pw_rng n).1; have h2 := (pw_rng k).1
  rw [mul_pos (by omega) (by omega), lg_pw, lg_pw, ← pw_mod (n % 255 + k % 255), ← Nat.add_mod, pw_mod]

theorem mul_assoc {a b c : Nat} (ha : a ≤ 255) (hb : b ≤ 255) (hc : c ≤ 255) : mul (mul a b) c = mul a (mul b c) := by
  by_cases a0 : a = 0
  · subst a0; rw [zero_mul, zero_mul, zero_mul]
  by_cases b0 : b = 0
  · subst b0; rw [mul_zero, zero_mul, mul_zero]
  by_cases c0 : c = 0
  · subst c0; rw [mul_zero, mul_zero, mul_zero]
  rw [← pw_lg a0 ha, ← pw_lg b0 hb, ← pw_lg c0 hc, mul_pw, mul_pw, mul_pw, mul_pw, Nat.add_assoc]

theorem one_pw : (1 : Nat) = pw 0 := rfl

theorem mul_one {a : Nat} (ha : a ≤ 255) : mul a 1 = a := by
  by_cases a0 : a = 0
  · subst a0; exact zero_mul 1
  rw [one_pw, ← pw_lg a0 ha, mul_pw]; rfl

theorem mul_two {a : Nat} (ha : a ≤ 255) : mul a 2 = dbl a := by
  by_cases a0 : a = 0
  · subst a0; rw [zero_mul]; rfl
  have e : (2 : Nat) = pw 1 := rfl
  rw [e, ← pw_lg a0 ha, mul_pw]; rfl

/-! the product bit by bit -/

theorem bits_xor (n : Nat) : ∀ x b c o p, bits n x (b ^^^ c) (o ^^^ p) = bits n x b o ^^^ bits n x c p := by
  induction n with
  | zero => intro x b c o p; rfl
  | succ n ih =>
    intro x b c o p
    unfold bits
    rw [Nat.xor_div_two, ← ih]
    congr 1
    have hx : ∀ u v : Nat, u ^^^ v ^^^ x = u ^^^ (v ^^^ x) := fun u v => Nat.xor_assoc u v x
    have h := @Nat.xor_mod_two_eq_one b c
    by_cases hb : b % 2 = 1 <;> by_cases hc : c % 2 = 1
    · rw [if_neg (by rw [h]; simp [hb, hc]), if_pos hb, if_pos hc, Nat.xor_assoc, Nat.xor_comm x, hx, Nat.xor_self, Nat.xor_zero]
    · rw [if_pos (by rw [h]; simp [hb, hc]), if_pos hb, if_neg hc, Nat.xor_assoc, Nat.xor_assoc, Nat.xor_comm x]
    · rw [if_pos (by rw [h]; simp [hb, hc]), if_neg hb, if_pos hc, Nat.xor_assoc]
    · rw [if_neg (by rw [h]; simp [hb, hc]), if_neg hb, if_neg hc]

/-- the product by the tables -/
def tmul (a b : Nat) : Nat := if (Nat.beq a 0 || Nat.beq b 0) = true then 0 else tb ((tl a + tl b) % 255)

theorem mul_tmul {a b : Nat} (ha : a ≤ 255) (hb : b ≤ 255) : mul a b = tmul a b := by
  unfold mul tmul
  by_cases h : a = 0 ∨ b = 0
  · rw [if_pos h, if_pos (by rcases h with rfl | rfl <;> simp)]
  · have h1 : a ≠ 0 := fun e => h (Or.inl e)
    have h2 : b ≠ 0 := fun e => h (Or.inr e)
    rw [if_neg h, if_neg (by simp [h1, h2]), lg_tl h1 ha, lg_tl h2 hb, pw_tb _ (Nat.mod_lt _ (by omega))]

set_option maxRecDepth 100000 in
theorem tmul_bits : ∀ a, a < 256 → allB 256 (fun b => Nat.beq (tmul a b) (bits 8 a b 0)) = true :=
  allB_all (f := fun a => allB 256 (fun b => Nat.beq (tmul a b) (bits 8 a b 0))) (by decide +kernel)

theorem mul_bits {a b : Nat} (ha : a ≤ 255) (hb : b ≤ 255) : mul a b = bits 8 a b 0 := by
  rw [mul_tmul ha hb]
  exact Nat.eq_of_beq_eq_true (allB_all (tmul_bits a (by omega)) b (by omega))

theorem xor_le {b c : Nat} (hb : b ≤ 255) (hc : c ≤ 255) : b ^^^ c ≤ 255 := by
  have := Nat.xor_lt_two_pow (n := 8) (x := b) (y := c) (by omega) (by omega)
  omega

theorem mul_xor {a b c : Nat} (ha : a ≤ 255) (hb : b ≤ 255) (hc : c ≤ 255) : mul a (b ^^^ c) = mul a b ^^^ mul a c := by
  rw [mul_bits ha hb, mul_bits ha hc, mul_bits ha (xor_le hb hc)]
  exact bits_xor 8 a b c 0 0

theorem xor_mul {a b c : Nat} (ha : a ≤ 255) (hb : b ≤ 255) (hc : c ≤ 255) : mul (a ^^^ b) c = mul a c ^^^ mul b c := by
  rw [mul_comm, mul_xor hc ha hb, mul_comm c a, mul_comm c b]

theorem sq_xor {a b : Nat} (ha : a ≤ 255) (hb : b ≤ 255) : mul (a ^^^ b) (a ^^^ b) = mul a a ^^^ mul b b := by
  rw [mul_xor (xor_le ha hb) ha hb, xor_mul ha hb ha, xor_mul ha hb hb, mul_comm b a, Nat.xor_assoc, ← Nat.xor_assoc (mul a b), Nat.xor_self, Nat.zero_xor]

/-- quotients, their errors, powers of any number -/
def divv (a b : Nat) : Nat := if a = 0 ∨ b = 0 then 0 else pw (lg a + 255 - lg b)

def dive (b : Nat) : Nat := if b = 0 then 1 else 0

def expv (n : Int) : Nat := pw (n % 255).toNat

def logv (a : Nat) : Nat := if a = 0 then 0 else lg a

theorem divv_le (a b : Nat) : divv a b ≤ 255 := by
  unfold divv; split
  · omega
  · exact (pw_rng _).2

theorem expv_le (n : Int) : expv n ≤ 255 := (pw_rng _).2

theorem logv_le (a : Nat) : logv a ≤ 254 := by
  unfold logv; split
  · omega
  · exact lg_le a

theorem mul_divv {a b : Nat} (ha : a ≤ 255) (hb : b ≤ 255) (hb0 : b ≠ 0) : mul (divv a b) b = a := by
  by_cases a0 : a = 0
  · subst a0; unfold divv; rw [if_pos (Or.inl rfl), zero_mul]
  have hl := lg_lt hb0 hb
  unfold divv
  rw [if_neg (fun h => h.elim a0 hb0)]
  have e : mul (pw (lg a + 255 - lg b)) b = mul (pw (lg a + 255 - lg b)) (pw (lg b)) := by rw [pw_lg hb0 hb]
  rw [e, mul_pw, show lg a + 255 - lg b + lg b = lg a + 255 from by omega, pw_per, pw_lg a0 ha]

theorem divv_one {a b : Nat} (ha : a ≤ 255) (hb : b ≤ 255) (hb0 : b ≠ 0) : divv a b = mul a (divv 1 b) := by
  have h1 : divv 1 b ≤ 255 := divv_le 1 b
  have e := mul_divv (a := 1) (by omega) hb hb0
  have e2 := mul_divv ha hb hb0
  have : mul (divv a b) (mul b (divv 1 b)) = mul a (divv 1 b) := by rw [← mul_assoc (divv_le a b) hb h1, e2]
  rw [mul_comm b, e, mul_one (divv_le a b)] at this
  exact this

end Go.Proofs.Ytmnciipfepeccaa.GfM
