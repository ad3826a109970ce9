/- Two queues of like tasks, one of them without one: in plain terms; no condition. -/
import Derived.Test.YtpjoiepdcilcnaaDuOpen
namespace Go.Proofs.Ytpjoiepdcilcnaa
namespace Du
open Bk

/-- what a task is but for its number -/
structure SimT (x y : Tk) : Prop where
  a : x.a = y.a
  u : x.u = y.u
  i : x.i = y.i

/-- alike, place by place; both by rising numbers -/
structure SimL (A B : List Tk) : Prop where
  len : A.length = B.length
  at' : ∀ k, k < A.length → SimT (g A k) (g B k)
  na : A.Pairwise (fun x y => x.n < y.n)
  nb : B.Pairwise (fun x y => x.n < y.n)

theorem pair_lt {L : List Tk} (h : L.Pairwise (fun x y => x.n < y.n)) {i j : Nat} (hi : i < j) (hj : j < L.length) : (g L i).n < (g L j).n := by
  rw [List.pairwise_iff_getElem] at h
  rw [g_lt (by omega), g_lt hj]
  exact h i j (by omega) hj hi

theorem SimL.best {A B : List Tk} (h : SimL A B) (t : Int) : ∀ k, k ≤ A.length → bestK A t k = bestK B t k
  | 0, _ => rfl
  | k + 1, hk => by
    have ih := h.best t k (by omega)
    have hs := h.at' k (by omega)
    unfold bestK
    rw [ih, hs.a]
    have e : ahB A k (bestK B t k) = ahB B k (bestK B t k) := by
      cases hb : bestK B t k with
      | none => rfl
      | some b =>
        obtain ⟨h1, _, _⟩ := best_some hb
        have hsb := h.at' b (by omega)
        have n1 := pair_lt h.na (i := b) (j := k) h1 (by omega)
        have n2 := pair_lt h.nb (i := b) (j := k) h1 (by have := h.len; omega)
        show ltR (g A k) (g A b) = ltR (g B k) (g B b)
        unfold ltR
        rw [hs.a, hs.u, hsb.a, hsb.u]
        congr 1
        apply propext
        omega
    rw [e]

theorem g_erase {L : List Tk} {b k : Nat} (h : k < (L.eraseIdx b).length) : g (L.eraseIdx b) k = if k < b then g L k else g L (k + 1) := by
  rw [g_lt h, List.getElem_eraseIdx]
  split
  · rename_i hk
    have : k < L.length := by have := List.length_eraseIdx_le L b; omega
    rw [g_lt this]
  · rename_i hk
    have h2 : k + 1 < L.length := by
      by_cases hb : b < L.length
      · rw [List.length_eraseIdx_of_lt hb] at h; omega
      · rw [List.eraseIdx_of_length_le (by omega)] at h; omega
    rw [g_lt h2]

theorem SimL.erase {A B : List Tk} (h : SimL A B) {b : Nat} (hb : b < A.length) : SimL (A.eraseIdx b) (B.eraseIdx b) := by
  have hl := h.len
  have l1 := List.length_eraseIdx_of_lt hb
  have l2 := List.length_eraseIdx_of_lt (l := B) (i := b) (by omega)
  refine ⟨by omega, fun k hk => ?_, h.na.sublist (List.eraseIdx_sublist _ _), h.nb.sublist (List.eraseIdx_sublist _ _)⟩
  rw [g_erase hk, g_erase (by omega)]
  split
  · exact h.at' k (by omega)
  · exact h.at' (k + 1) (by omega)

/-- one is taken of each -/
theorem SimL.take {A B : List Tk} (h : SimL A B) (t m m' : Int) (hd : ∀ x ∈ A, x.a ≤ t) (h0 : 0 < A.length) :
    ∃ b, b < A.length ∧ takeD ⟨A, t, m⟩ = (⟨A.eraseIdx b, t, m⟩, (g A b).i, true) ∧ takeD ⟨B, t, m'⟩ = (⟨B.eraseIdx b, t, m'⟩, (g A b).i, true) ∧ SimL (A.eraseIdx b) (B.eraseIdx b) := by
  have e := h.best t A.length (Nat.le_refl _)
  rw [h.len] at e
  cases hb : bestK A t A.length with
  | none =>
    have := best_none hb 0 h0
    have := hd _ (g_mem h0)
    omega
  | some b =>
    obtain ⟨h1, _, _⟩ := best_some hb
    have hb2 : bestK B t B.length = some b := by rw [← e, ← h.len]; exact hb
    refine ⟨b, h1, ?_, ?_, h.erase h1⟩
    · unfold takeD
      simp only [hb]
    · unfold takeD
      simp only [hb2]
      rw [(h.at' b h1).i]

theorem take_empty (t m : Int) : takeD ⟨[], t, m⟩ = (⟨[], t, m⟩, 0, false) := rfl

/-- all tasks, in their order -/
def taL (L : List Ta) : Nat → List Tk
  | 0 => []
  | j + 1 => taL L j ++ [⟨(amongV (L.getD j default).a 1000 : Nat), (L.getD j default).u, (j : Int), (j : Int) + 1⟩]
/-- all but the one at k -/
def tbL (L : List Ta) (k : Nat) : Nat → List Tk
  | 0 => []
  | j + 1 => if j = k then tbL L k j else tbL L k j ++ [⟨(amongV (L.getD j default).a 1000 : Nat), (L.getD j default).u, (j : Int), ((tbL L k j).length : Int) + 1⟩]

theorem ta_len (L : List Ta) : ∀ j, (taL L j).length = j
  | 0 => rfl
  | j + 1 => by show (taL L j ++ [_]).length = _; rw [List.length_append, ta_len L j]; rfl
theorem tb_le (L : List Ta) (k : Nat) : ∀ j, (tbL L k j).length ≤ j
  | 0 => Nat.le_refl _
  | j + 1 => by
    have := tb_le L k j
    unfold tbL
    split
    · omega
    · simp; omega
theorem ta_num (L : List Ta) : ∀ j, (taL L j).Pairwise (fun x y => x.n < y.n) ∧ ∀ x ∈ taL L j, x.n ≤ (j : Int) ∧ 0 ≤ x.a ∧ x.a < 1000
  | 0 => ⟨List.Pairwise.nil, by simp [taL]⟩
  | j + 1 => by
    obtain ⟨h1, h2⟩ := ta_num L j
    have ha := amongV_lt (L.getD j default).a 1000 (by omega)
    refine ⟨?_, fun x hx => ?_⟩
    · show (taL L j ++ [_]).Pairwise _
      rw [List.pairwise_append]
      refine ⟨h1, List.pairwise_singleton _ _, fun x hx y hy => ?_⟩
      obtain rfl := List.mem_singleton.1 hy
      have := h2 x hx
      show x.n < (j : Int) + 1
      omega
    · rcases List.mem_append.1 (show x ∈ taL L j ++ [_] from hx) with hx | hx
      · have := h2 x hx; omega
      · obtain rfl := List.mem_singleton.1 hx
        refine ⟨by show (j : Int) + 1 ≤ _; omega, by show (0 : Int) ≤ ((_ : Nat) : Int); omega, ?_⟩
        show ((amongV (L.getD j default).a 1000 : Nat) : Int) < 1000
        omega
theorem tb_num (L : List Ta) (k : Nat) : ∀ j, (tbL L k j).Pairwise (fun x y => x.n < y.n) ∧ ∀ x ∈ tbL L k j, x.n ≤ ((tbL L k j).length : Int)
  | 0 => ⟨List.Pairwise.nil, by simp [tbL]⟩
  | j + 1 => by
    obtain ⟨h1, h2⟩ := tb_num L k j
    unfold tbL
    split
    · exact ⟨h1, h2⟩
    · refine ⟨?_, fun x hx => ?_⟩
      · rw [List.pairwise_append]
        refine ⟨h1, List.pairwise_singleton _ _, fun x hx y hy => ?_⟩
        obtain rfl := List.mem_singleton.1 hy
        have := h2 x hx
        show x.n < ((tbL L k j).length : Int) + 1
        omega
      · rw [List.length_append, List.length_singleton]
        rcases List.mem_append.1 hx with hx | hx
        · have := h2 x hx; omega
        · obtain rfl := List.mem_singleton.1 hx
          show ((tbL L k j).length : Int) + 1 ≤ _
          omega
theorem ta_at (L : List Ta) : ∀ j k, k < j → g (taL L j) k = ⟨(amongV (L.getD k default).a 1000 : Nat), (L.getD k default).u, (k : Int), (k : Int) + 1⟩
  | 0, k, h => by omega
  | j + 1, k, h => by
    by_cases e : k < j
    · show g (taL L j ++ [_]) k = _
      rw [g_left (by rw [ta_len]; exact e)]
      exact ta_at L j k e
    · obtain rfl : k = j := by omega
      show g (taL L k ++ [_]) k = _
      refine g_at ?_
      rw [List.getElem?_append_right (by rw [ta_len]; exact Nat.le_refl _), ta_len]
      simp

theorem g_snoc (L : List Tk) (x : Tk) : g (L ++ [x]) L.length = x := g_at (by simp)

theorem erase_snoc_lt {L : List Tk} {x : Tk} {k : Nat} (h : k < L.length) : (L ++ [x]).eraseIdx k = L.eraseIdx k ++ [x] := List.eraseIdx_append_of_lt_length h [x]
theorem erase_snoc_eq {L : List Tk} {x : Tk} {k : Nat} (h : k = L.length) : (L ++ [x]).eraseIdx k = L := by
  subst h
  rw [List.eraseIdx_append_of_length_le (Nat.le_refl _)]
  simp

theorem sim_len (L : List Ta) (k : Nat) : ∀ j, (k < j → (tbL L k j).length + 1 = j) ∧ (j ≤ k → (tbL L k j).length = j)
  | 0 => ⟨fun h => by omega, fun _ => rfl⟩
  | j + 1 => by
    obtain ⟨h1, h2⟩ := sim_len L k j
    unfold tbL
    split
    · rename_i e
      exact ⟨fun _ => by have := h2 (by omega); omega, fun h => by omega⟩
    · rename_i e
      rw [List.length_append, List.length_singleton]
      exact ⟨fun h => by have := h1 (by omega); omega, fun h => by have := h2 (by omega); omega⟩

theorem sim_at (L : List Ta) (k : Nat) : ∀ j, ∀ q, q < ((taL L j).eraseIdx k).length → SimT (g ((taL L j).eraseIdx k) q) (g (tbL L k j) q)
  | 0, q, h => by simp [taL] at h
  | j + 1, q, h => by
    have hl := ta_len L j
    obtain ⟨s1, s2⟩ := sim_len L k j
    rcases Nat.lt_trichotomy j k with e | e | e
    · have ih := sim_at L k j
      rw [List.eraseIdx_of_length_le (by omega)] at ih
      have ht : taL L (j + 1) = taL L j ++ [⟨(amongV (L.getD j default).a 1000 : Nat), (L.getD j default).u, (j : Int), (j : Int) + 1⟩] := rfl
      have hb : tbL L k (j + 1) = tbL L k j ++ [⟨(amongV (L.getD j default).a 1000 : Nat), (L.getD j default).u, (j : Int), ((tbL L k j).length : Int) + 1⟩] := by conv => lhs; unfold tbL; rw [if_neg (by omega)]
      rw [List.eraseIdx_of_length_le (by rw [ta_len]; omega)] at h ⊢
      rw [ht] at h ⊢
      rw [hb]
      by_cases hq : q < j
      · rw [g_left (by omega), g_left (by have := s2 (by omega); omega)]
        exact ih q (by omega)
      · obtain rfl : q = j := by simp [hl] at h; omega
        have e1 := g_snoc (taL L q) ⟨(amongV (L.getD q default).a 1000 : Nat), (L.getD q default).u, (q : Int), (q : Int) + 1⟩
        have e2 := g_snoc (tbL L k q) ⟨(amongV (L.getD q default).a 1000 : Nat), (L.getD q default).u, (q : Int), ((tbL L k q).length : Int) + 1⟩
        rw [hl] at e1
        rw [s2 (by omega)] at e2
        rw [e1, s2 (by omega), e2]
        exact ⟨rfl, rfl, rfl⟩
    · subst e
      have ht : taL L (j + 1) = taL L j ++ [⟨(amongV (L.getD j default).a 1000 : Nat), (L.getD j default).u, (j : Int), (j : Int) + 1⟩] := rfl
      have hb : tbL L j (j + 1) = tbL L j j := by conv => lhs; unfold tbL; rw [if_pos rfl]
      have ih := sim_at L j j
      rw [List.eraseIdx_of_length_le (by omega)] at ih
      rw [ht, erase_snoc_eq hl.symm] at h ⊢
      rw [hb]
      exact ih q h
    · have ih := sim_at L k j
      have ht : taL L (j + 1) = taL L j ++ [⟨(amongV (L.getD j default).a 1000 : Nat), (L.getD j default).u, (j : Int), (j : Int) + 1⟩] := rfl
      have hb : tbL L k (j + 1) = tbL L k j ++ [⟨(amongV (L.getD j default).a 1000 : Nat), (L.getD j default).u, (j : Int), ((tbL L k j).length : Int) + 1⟩] := by conv => lhs; unfold tbL; rw [if_neg (by omega)]
      have le := List.length_eraseIdx_of_lt (l := taL L j) (i := k) (by omega)
      rw [ht, erase_snoc_lt (by omega)] at h ⊢
      rw [hb]
      have hs := s1 e
      by_cases hq : q < ((taL L j).eraseIdx k).length
      · rw [g_left hq, g_left (by omega)]
        exact ih q hq
      · have hq2 : q = ((taL L j).eraseIdx k).length := by simp at h; omega
        have hq3 : q = (tbL L k j).length := by omega
        have e1 := g_snoc ((taL L j).eraseIdx k) ⟨(amongV (L.getD j default).a 1000 : Nat), (L.getD j default).u, (j : Int), (j : Int) + 1⟩
        have e2 := g_snoc (tbL L k j) ⟨(amongV (L.getD j default).a 1000 : Nat), (L.getD j default).u, (j : Int), ((tbL L k j).length : Int) + 1⟩
        rw [← hq2] at e1
        rw [← hq3] at e2
        rw [e1, ← hq3, e2]
        exact ⟨rfl, rfl, rfl⟩

theorem sim_all (L : List Ta) {k n : Nat} (hk : k < n) : SimL ((taL L n).eraseIdx k) (tbL L k n) := by
  have l1 := List.length_eraseIdx_of_lt (l := taL L n) (i := k) (by rw [ta_len]; exact hk)
  rw [ta_len] at l1
  have l2 := (sim_len L k n).1 hk
  exact ⟨by omega, sim_at L k n, (ta_num L n).1.sublist (List.eraseIdx_sublist _ _), (tb_num L k n).1⟩

theorem ta_drop (L : List Ta) {k n : Nat} (hk : k < n) (m : Int) : dropD ⟨taL L n, 0, m⟩ ((k : Int) + 1) = (⟨(taL L n).eraseIdx k, 0, m⟩, 0) ∧ dropD ⟨(taL L n).eraseIdx k, 0, m⟩ ((k : Int) + 1) = (⟨(taL L n).eraseIdx k, 0, m⟩, 5) ∧ ∀ x ∈ (taL L n).eraseIdx k, x.i ≠ (k : Int) ∧ x.a ≤ 1000 := by
  have hl : numI (taL L n) ((k : Int) + 1) < (taL L n).length := Classical.byContradiction fun hc => numI_none hc (g (taL L n) k) (g_mem (by rw [ta_len]; exact hk)) (by rw [ta_at L n k hk])
  have hi : numI (taL L n) ((k : Int) + 1) = k := by
    have h1 := numI_at hl
    rw [ta_at L n _ (by rw [ta_len] at hl; exact hl)] at h1
    have : ((numI (taL L n) ((k : Int) + 1) : Nat) : Int) + 1 = (k : Int) + 1 := h1
    omega
  have hx : ∀ x ∈ (taL L n).eraseIdx k, x.i ≠ (k : Int) ∧ x.a ≤ 1000 ∧ x.n ≠ (k : Int) + 1 := fun x hx => by
    obtain ⟨q, hq, rfl⟩ := mem_g hx
    have l1 := List.length_eraseIdx_of_lt (l := taL L n) (i := k) (by rw [ta_len]; exact hk)
    rw [ta_len] at l1
    rw [g_erase hq]
    split
    · have h2 := ((ta_num L n).2 _ (g_mem (k := q) (by rw [ta_len]; omega))).2.2
      rw [ta_at L n q (by omega)] at h2 ⊢
      refine ⟨?_, ?_, ?_⟩
      · show (q : Int) ≠ k; omega
      · omega
      · show (q : Int) + 1 ≠ k + 1; omega
    · have h2 := ((ta_num L n).2 _ (g_mem (k := q + 1) (by rw [ta_len]; omega))).2.2
      rw [ta_at L n (q + 1) (by omega)] at h2 ⊢
      refine ⟨?_, ?_, ?_⟩
      · show ((q + 1 : Nat) : Int) ≠ k; omega
      · omega
      · show ((q + 1 : Nat) : Int) + 1 ≠ k + 1; omega
  refine ⟨by unfold dropD; simp only []; rw [if_pos hl, hi], ?_, fun x h => ⟨(hx x h).1, (hx x h).2.1⟩⟩
  unfold dropD
  rw [if_neg]
  intro hc
  exact (hx _ (g_mem hc)).2.2 (numI_at hc)

end Du
end Go.Proofs.Ytpjoiepdcilcnaa
