/- Heaps of tasks in plain terms: what is put, taken out and removed, and that they stay heaps; no condition. -/
import Derived.Test.YtpjoiepdcilcnaaBk
namespace Go.Proofs.Ytpjoiepdcilcnaa
namespace Du

/-- a task: its tick, how urgent it is, its id, its number -/
structure Tk where
  a : Int
  u : Int
  i : Int
  n : Int

def tk0 : Tk := ⟨0, 0, 0, 0⟩
def g (l : List Tk) (k : Nat) : Tk := l.getD k tk0
def swL (l : List Tk) (i j : Nat) : List Tk := (l.set i (g l j)).set j (g l i)

/-- an order that is total, up to what is as good -/
structure Ordd (lt : Tk → Tk → Bool) : Prop where
  tr : ∀ a b c, lt b a = false → lt c b = false → lt c a = false
  asy : ∀ a b, lt a b = true → lt b a = false

theorem Ordd.self {lt : Tk → Tk → Bool} (O : Ordd lt) (a : Tk) : lt a a = false := by
  cases h : lt a a with
  | false => rfl
  | true => rw [O.asy a a h] at h; cases h

theorem g_lt {l : List Tk} {k : Nat} (h : k < l.length) : g l k = l[k] := by
  unfold g; rw [List.getD_eq_getElem?_getD, List.getElem?_eq_getElem h]; rfl
theorem g_at {l : List Tk} {k : Nat} {x : Tk} (h : l[k]? = some x) : g l k = x := by
  unfold g; rw [List.getD_eq_getElem?_getD, h]; rfl
theorem at_g {l : List Tk} {k : Nat} (h : k < l.length) : l[k]? = some (g l k) := by
  rw [g_lt h, List.getElem?_eq_getElem h]

theorem sw_len (l : List Tk) (i j : Nat) : (swL l i j).length = l.length := by simp [swL]

theorem g_eq (l : List Tk) (k : Nat) : g l k = (l[k]?).getD tk0 := by unfold g; rw [List.getD_eq_getElem?_getD]

theorem g_sw {l : List Tk} {i j : Nat} (hi : i < l.length) (hj : j < l.length) (k : Nat) :
    g (swL l i j) k = if k = j then g l i else if k = i then g l j else g l k := by
  rw [g_eq (swL l i j) k]
  unfold swL
  rw [List.getElem?_set, List.getElem?_set, List.length_set]
  by_cases h1 : k = j
  · rw [if_pos h1.symm, if_pos hj, if_pos h1]; rfl
  · rw [if_neg (Ne.symm h1), if_neg h1]
    by_cases h2 : k = i
    · rw [if_pos h2.symm, if_pos hi, if_pos h2]; rfl
    · rw [if_neg (Ne.symm h2), if_neg h2, g_eq]

theorem sw_perm {l : List Tk} {i j : Nat} (hi : i < l.length) (hj : j < l.length) : (swL l i j).Perm l := by
  unfold swL
  rw [g_lt hi, g_lt hj]
  exact List.set_set_perm hi hj

/-- the element at a place rises -/
def upL (lt : Tk → Tk → Bool) (l : List Tk) (j : Nat) : List Tk :=
  if j = 0 then l else if lt (g l j) (g l ((j - 1) / 2)) then upL lt (swL l ((j - 1) / 2) j) ((j - 1) / 2) else l
termination_by j
decreasing_by omega

/-- the child that comes first -/
def chC (lt : Tk → Tk → Bool) (l : List Tk) (i n : Nat) : Nat :=
  if 2 * i + 2 < n ∧ lt (g l (2 * i + 2)) (g l (2 * i + 1)) = true then 2 * i + 2 else 2 * i + 1

theorem chC_one (lt : Tk → Tk → Bool) (l : List Tk) (i n : Nat) : chC lt l i n = 2 * i + 1 ∨ chC lt l i n = 2 * i + 2 := by
  unfold chC; split
  · exact .inr rfl
  · exact .inl rfl
theorem chC_lt {lt : Tk → Tk → Bool} {l : List Tk} {i n : Nat} (h : 2 * i + 1 < n) : chC lt l i n < n := by
  unfold chC; split <;> omega

/-- does the element at a place sink? -/
def mvd (lt : Tk → Tk → Bool) (l : List Tk) (i n : Nat) : Bool := decide (2 * i + 1 < n) && lt (g l (chC lt l i n)) (g l i)

/-- the element at a place sinks -/
def dnL (lt : Tk → Tk → Bool) (l : List Tk) (i n : Nat) : List Tk :=
  if 2 * i + 1 < n then if lt (g l (chC lt l i n)) (g l i) then dnL lt (swL l i (chC lt l i n)) (chC lt l i n) n else l else l
termination_by n - i
decreasing_by rcases chC_one lt l i n with h | h <;> omega

theorem up_len (lt : Tk → Tk → Bool) (j : Nat) : ∀ l : List Tk, (upL lt l j).length = l.length := by
  induction j using Nat.strongRecOn with
  | _ j ih =>
    intro l; unfold upL; split
    · rfl
    · split
      · rw [ih _ (by omega), sw_len]
      · rfl

theorem up_perm (lt : Tk → Tk → Bool) (j : Nat) : ∀ l : List Tk, j < l.length → (upL lt l j).Perm l := by
  induction j using Nat.strongRecOn with
  | _ j ih =>
    intro l hj; unfold upL; split
    · exact .refl _
    · split
      · exact (ih _ (by omega) _ (by rw [sw_len]; omega)).trans (sw_perm (by omega) hj)
      · exact .refl _

theorem up_far (lt : Tk → Tk → Bool) (j : Nat) : ∀ l : List Tk, j < l.length → ∀ k, j < k → g (upL lt l j) k = g l k := by
  induction j using Nat.strongRecOn with
  | _ j ih =>
    intro l hj k hk; unfold upL; split
    · rfl
    · split
      · rw [ih _ (by omega) _ (by rw [sw_len]; omega) k (by omega), g_sw (by omega) hj, if_neg (by omega), if_neg (by omega)]
      · rfl

/-- each element comes no earlier than its parent -/
def Hp (lt : Tk → Tk → Bool) (l : List Tk) (n : Nat) : Prop := ∀ k, 0 < k → k < n → lt (g l k) (g l ((k - 1) / 2)) = false

theorem Hp.up {lt : Tk → Tk → Bool} (O : Ordd lt) (n : Nat) (j : Nat) : ∀ l : List Tk, j < n → n ≤ l.length →
    (∀ k, 0 < k → k < n → k ≠ j → lt (g l k) (g l ((k - 1) / 2)) = false) →
    (∀ k, 0 < k → k < n → (k - 1) / 2 = j → 0 < j → lt (g l k) (g l ((j - 1) / 2)) = false) → Hp lt (upL lt l j) n := by
  induction j using Nat.strongRecOn with
  | _ j ih =>
    intro l hj hl h1 h2; unfold upL; split
    · rename_i h0
      exact fun k hk hn => h1 k hk hn (by omega)
    · rename_i h0
      split
      · rename_i hlt
        have hi : (j - 1) / 2 < j := by omega
        have G := fun k => g_sw (l := l) (i := (j - 1) / 2) (j := j) (by omega) (by omega) k
        refine ih _ hi _ (by omega) (by rw [sw_len]; exact hl) ?_ ?_
        · intro k hk hn hne
          rw [G, G]
          by_cases e1 : k = j
          · subst e1
            rw [if_pos rfl, if_neg (by omega), if_pos rfl]
            exact O.asy _ _ hlt
          · rw [if_neg e1, if_neg hne]
            by_cases e2 : (k - 1) / 2 = j
            · rw [if_pos e2]; exact h2 k hk hn e2 (by omega)
            · rw [if_neg e2]
              by_cases e3 : (k - 1) / 2 = (j - 1) / 2
              · rw [if_pos e3]
                have := h1 k hk hn e1
                rw [e3] at this
                exact O.tr _ _ _ (O.asy _ _ hlt) this
              · rw [if_neg e3]; exact h1 k hk hn e1
        · intro k hk hn he hp
          have hb := h1 ((j - 1) / 2) hp (by omega) (by omega)
          rw [G, G, if_neg (show ¬ ((j - 1) / 2 - 1) / 2 = j by omega), if_neg (show ¬ ((j - 1) / 2 - 1) / 2 = (j - 1) / 2 by omega)]
          by_cases e1 : k = j
          · rw [if_pos e1]; exact hb
          · rw [if_neg e1, if_neg (by omega)]
            have := h1 k hk hn e1
            rw [he] at this
            exact O.tr _ _ _ hb this
      · rename_i hlt
        intro k hk hn
        by_cases e : k = j
        · subst e; simpa using hlt
        · exact h1 k hk hn e

theorem dn_len (lt : Tk → Tk → Bool) (n : Nat) : ∀ (m : Nat) (l : List Tk) (i : Nat), n - i = m → (dnL lt l i n).length = l.length := by
  intro m
  induction m using Nat.strongRecOn with
  | _ m ih =>
    intro l i hm; unfold dnL; split
    · split
      · rename_i h1 h2
        have := chC_one lt l i n
        rw [ih (n - chC lt l i n) (by omega) _ _ rfl, sw_len]
      · rfl
    · rfl

theorem dn_perm (lt : Tk → Tk → Bool) (n : Nat) : ∀ (m : Nat) (l : List Tk) (i : Nat), n - i = m → n ≤ l.length → (dnL lt l i n).Perm l := by
  intro m
  induction m using Nat.strongRecOn with
  | _ m ih =>
    intro l i hm hl; unfold dnL; split
    · split
      · rename_i h1 h2
        have := chC_one lt l i n
        have := chC_lt (lt := lt) (l := l) h1
        exact (ih (n - chC lt l i n) (by omega) _ _ rfl (by rw [sw_len]; exact hl)).trans (sw_perm (by omega) (by omega))
      · exact .refl _
    · exact .refl _

theorem dn_far (lt : Tk → Tk → Bool) (n : Nat) : ∀ (m : Nat) (l : List Tk) (i : Nat), n - i = m → n ≤ l.length → ∀ k, n ≤ k → g (dnL lt l i n) k = g l k := by
  intro m
  induction m using Nat.strongRecOn with
  | _ m ih =>
    intro l i hm hl k hk; unfold dnL; split
    · split
      · rename_i h1 h2
        have := chC_one lt l i n
        have := chC_lt (lt := lt) (l := l) h1
        rw [ih (n - chC lt l i n) (by omega) _ _ rfl (by rw [sw_len]; exact hl) k hk, g_sw (by omega) (by omega), if_neg (by omega), if_neg (by omega)]
      · rfl
    · rfl

/-- the child that comes first: no child comes ahead of it -/
theorem chC_first {lt : Tk → Tk → Bool} (O : Ordd lt) {l : List Tk} {i n k : Nat} (hk : 0 < k) (hn : k < n) (h : (k - 1) / 2 = i) : lt (g l k) (g l (chC lt l i n)) = false := by
  have hk2 : k = 2 * i + 1 ∨ k = 2 * i + 2 := by omega
  unfold chC
  split
  · rename_i h2
    rcases hk2 with e | e
    · rw [e]; exact O.asy _ _ h2.2
    · rw [e]; exact O.self _
  · rename_i h2
    rcases hk2 with e | e
    · rw [e]; exact O.self _
    · rw [e] at hn ⊢
      cases hc : lt (g l (2 * i + 2)) (g l (2 * i + 1)) with
      | false => rfl
      | true => exact absurd ⟨hn, hc⟩ h2

theorem Hp.dn {lt : Tk → Tk → Bool} (O : Ordd lt) (n : Nat) : ∀ (m : Nat) (l : List Tk) (i : Nat), n - i = m → n ≤ l.length →
    (∀ k, 0 < k → k < n → (k - 1) / 2 ≠ i → lt (g l k) (g l ((k - 1) / 2)) = false) →
    (∀ k, 0 < k → k < n → (k - 1) / 2 = i → 0 < i → lt (g l k) (g l ((i - 1) / 2)) = false) → Hp lt (dnL lt l i n) n := by
  intro m
  induction m using Nat.strongRecOn with
  | _ m ih =>
    intro l i hm hl h1 h2; unfold dnL; split
    · rename_i hc
      have hone := chC_one lt l i n
      have hcl := chC_lt (lt := lt) (l := l) hc
      split
      · rename_i hlt
        have G := fun k => g_sw (l := l) (i := i) (j := chC lt l i n) (by omega) (by omega) k
        refine ih (n - chC lt l i n) (by omega) _ _ rfl (by rw [sw_len]; exact hl) ?_ ?_
        · intro k hk hn hne
          rw [G, G]
          by_cases e1 : k = chC lt l i n
          · have ep : (k - 1) / 2 = i := by omega
            rw [if_pos e1, if_neg hne, if_pos ep]
            exact O.asy _ _ hlt
          · rw [if_neg e1, if_neg hne]
            by_cases e2 : k = i
            · subst e2
              rw [if_pos rfl, if_neg (by omega)]
              exact h2 _ (by omega) hcl (by omega) hk
            · rw [if_neg e2]
              by_cases e3 : (k - 1) / 2 = i
              · rw [if_pos e3]; exact chC_first O hk hn e3
              · rw [if_neg e3]; exact h1 k hk hn e3
        · intro k hk hn he hp
          have ep : (chC lt l i n - 1) / 2 = i := by omega
          rw [G, G, ep, if_neg (by omega), if_neg (by omega), if_neg (by omega), if_pos rfl]
          have := h1 k hk hn (by omega)
          rw [he] at this
          exact this
      · rename_i hlt
        intro k hk hn
        by_cases e : (k - 1) / 2 = i
        · rw [e]
          exact O.tr _ _ _ (by simpa using hlt) (chC_first O hk hn e)
        · exact h1 k hk hn e
    · rename_i hc
      exact fun k hk hn => h1 k hk hn (by omega)

theorem dn_still {lt : Tk → Tk → Bool} {l : List Tk} {i n : Nat} (h : mvd lt l i n = false) : dnL lt l i n = l := by
  unfold dnL
  split
  · rename_i h1
    rw [if_neg (by intro hc; simp [mvd, h1, hc] at h)]
  · rfl

theorem Hp.root {lt : Tk → Tk → Bool} (O : Ordd lt) {l : List Tk} {n : Nat} (h : Hp lt l n) : ∀ k, k < n → lt (g l k) (g l 0) = false := by
  intro k
  induction k using Nat.strongRecOn with
  | _ k ih =>
    intro hk
    by_cases h0 : k = 0
    · rw [h0]; exact O.self _
    · exact O.tr _ _ _ (ih ((k - 1) / 2) (by omega) (by omega)) (h k (by omega) hk)

/-- what is put -/
def pushL (lt : Tk → Tk → Bool) (l : List Tk) (x : Tk) : List Tk := upL lt (l ++ [x]) l.length

theorem push_len (lt : Tk → Tk → Bool) (l : List Tk) (x : Tk) : (pushL lt l x).length = l.length + 1 := by
  unfold pushL; rw [up_len]; simp
theorem push_perm (lt : Tk → Tk → Bool) (l : List Tk) (x : Tk) : (pushL lt l x).Perm (l ++ [x]) := up_perm lt _ _ (by simp)
theorem g_left {l m : List Tk} {k : Nat} (h : k < l.length) : g (l ++ m) k = g l k := by
  unfold g; rw [List.getD_eq_getElem?_getD, List.getD_eq_getElem?_getD, List.getElem?_append_left h]
theorem push_hp {lt : Tk → Tk → Bool} (O : Ordd lt) {l : List Tk} {x : Tk} (h : Hp lt l l.length) : Hp lt (pushL lt l x) (pushL lt l x).length := by
  rw [push_len]
  refine Hp.up O _ _ _ (by omega) (by simp) ?_ ?_
  · intro k hk hn hne
    rw [g_left (by omega), g_left (by omega)]
    exact h k hk (by omega)
  · intro k hk hn he; omega

/-- the last element is cut off -/
theorem cut_last {l : List Tk} {n : Nat} (h : l.length = n + 1) : l = l.take n ++ [g l n] := by
  have e := List.take_append_drop n l
  have : l.drop n = [g l n] := by
    rw [List.drop_eq_getElem_cons (by omega), List.drop_of_length_le (by omega), g_lt (by omega)]
  rw [this] at e; exact e.symm
theorem g_take {l : List Tk} {n k : Nat} (h : k < n) : g (l.take n) k = g l k := by
  unfold g; rw [List.getD_eq_getElem?_getD, List.getD_eq_getElem?_getD, List.getElem?_take, if_pos h]
theorem Hp.take {lt : Tk → Tk → Bool} {l : List Tk} {n : Nat} (h : Hp lt l n) (hl : n ≤ l.length) : Hp lt (l.take n) (l.take n).length := by
  have e : (l.take n).length = n := by simp; omega
  rw [e]
  exact fun k hk hn => by rw [g_take hn, g_take (by omega)]; exact h k hk hn

/-- the list behind the first's or another one's removal, the removed one behind it -/
def popM (lt : Tk → Tk → Bool) (l : List Tk) (n : Nat) : List Tk := dnL lt (swL l 0 n) 0 n
def remM (lt : Tk → Tk → Bool) (l : List Tk) (i n : Nat) : List Tk :=
  if i = n then l else if mvd lt (swL l i n) i n then dnL lt (swL l i n) i n else upL lt (swL l i n) i

theorem pop_len (lt : Tk → Tk → Bool) (l : List Tk) (n : Nat) : (popM lt l n).length = l.length := by
  unfold popM; rw [dn_len lt n _ _ _ rfl, sw_len]
theorem pop_perm (lt : Tk → Tk → Bool) {l : List Tk} {n : Nat} (h : l.length = n + 1) : (popM lt l n).Perm l :=
  (dn_perm lt n _ _ _ rfl (by rw [sw_len]; omega)).trans (sw_perm (by omega) (by omega))
theorem pop_last (lt : Tk → Tk → Bool) {l : List Tk} {n : Nat} (h : l.length = n + 1) : g (popM lt l n) n = g l 0 := by
  unfold popM
  rw [dn_far lt n _ _ _ rfl (by rw [sw_len]; omega) n (Nat.le_refl _), g_sw (by omega) (by omega), if_pos rfl]
theorem pop_hp {lt : Tk → Tk → Bool} (O : Ordd lt) {l : List Tk} {n : Nat} (h : l.length = n + 1) (hh : Hp lt l (n + 1)) : Hp lt (popM lt l n) n := by
  refine Hp.dn O n _ _ _ rfl (by rw [sw_len]; omega) ?_ ?_
  · intro k hk hn hne
    rw [g_sw (by omega) (by omega), g_sw (by omega) (by omega), if_neg (by omega), if_neg (by omega), if_neg (by omega), if_neg hne]
    exact hh k hk (by omega)
  · intro k _ _ _ h0; omega

theorem rem_len (lt : Tk → Tk → Bool) (l : List Tk) (i n : Nat) : (remM lt l i n).length = l.length := by
  unfold remM; split
  · rfl
  · split
    · rw [dn_len lt n _ _ _ rfl, sw_len]
    · rw [up_len, sw_len]
theorem rem_perm (lt : Tk → Tk → Bool) {l : List Tk} {i n : Nat} (h : l.length = n + 1) (hi : i ≤ n) : (remM lt l i n).Perm l := by
  unfold remM; split
  · exact .refl _
  · split
    · exact (dn_perm lt n _ _ _ rfl (by rw [sw_len]; omega)).trans (sw_perm (by omega) (by omega))
    · exact (up_perm lt _ _ (by rw [sw_len]; omega)).trans (sw_perm (by omega) (by omega))
theorem rem_last (lt : Tk → Tk → Bool) {l : List Tk} {i n : Nat} (h : l.length = n + 1) (hi : i ≤ n) : g (remM lt l i n) n = g l i := by
  unfold remM; split
  · rename_i e; rw [e]
  · split
    · rw [dn_far lt n _ _ _ rfl (by rw [sw_len]; omega) n (Nat.le_refl _), g_sw (by omega) (by omega), if_pos rfl]
    · rw [up_far lt _ _ (by rw [sw_len]; omega) n (by omega), g_sw (by omega) (by omega), if_pos rfl]
theorem rem_hp {lt : Tk → Tk → Bool} (O : Ordd lt) {l : List Tk} {i n : Nat} (h : l.length = n + 1) (hi : i ≤ n) (hh : Hp lt l (n + 1)) : Hp lt (remM lt l i n) n := by
  unfold remM; split
  · exact fun k hk hn => hh k hk (by omega)
  · rename_i hne
    have G := fun k => g_sw (l := l) (i := i) (j := n) (by omega) (by omega) k
    have A : ∀ k, 0 < k → k < n → k ≠ i → (k - 1) / 2 ≠ i → lt (g (swL l i n) k) (g (swL l i n) ((k - 1) / 2)) = false := by
      intro k hk hn h1 h2
      rw [G, G, if_neg (by omega), if_neg h1, if_neg (by omega), if_neg h2]
      exact hh k hk (by omega)
    have B : ∀ k, 0 < k → k < n → (k - 1) / 2 = i → 0 < i → lt (g (swL l i n) k) (g (swL l i n) ((i - 1) / 2)) = false := by
      intro k hk hn he h0
      rw [G, G, if_neg (by omega), if_neg (by omega), if_neg (by omega), if_neg (by omega)]
      have h1 := hh k hk (by omega)
      have h2 := hh i h0 (by omega)
      rw [he] at h1
      exact O.tr _ _ _ h2 h1
    split
    · rename_i hm
      have hm2 : 2 * i + 1 < n ∧ lt (g (swL l i n) (chC lt (swL l i n) i n)) (g (swL l i n) i) = true := by simpa [mvd] using hm
      have hone := chC_one lt (swL l i n) i n
      have hcl := chC_lt (lt := lt) (l := swL l i n) hm2.1
      refine Hp.dn O n _ _ _ rfl (by rw [sw_len]; omega) ?_ B
      intro k hk hn h2
      by_cases e : k = i
      · subst e
        exact O.tr _ _ _ (B _ (by omega) hcl (by omega) hk) (O.asy _ _ hm2.2)
      · exact A k hk hn e h2
    · rename_i hm
      refine Hp.up O n _ _ (by omega) (by rw [sw_len]; omega) ?_ B
      intro k hk hn h1
      by_cases e : (k - 1) / 2 = i
      · rw [e]
        have hf : lt (g (swL l i n) (chC lt (swL l i n) i n)) (g (swL l i n) i) = false := by
          cases hc : lt (g (swL l i n) (chC lt (swL l i n) i n)) (g (swL l i n) i) with
          | false => rfl
          | true => exact absurd (by simp [mvd, hc]; omega) hm
        exact O.tr _ _ _ hf (chC_first O hk hn e)
      · exact A k hk hn h1 e

end Du
end Go.Proofs.Ytpjoiepdcilcnaa
