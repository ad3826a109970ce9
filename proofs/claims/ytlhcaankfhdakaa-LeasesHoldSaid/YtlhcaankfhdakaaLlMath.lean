/- What a table of leases keeps; where a number stands among those that rise; no condition. -/
import Derived.Test.YtlhcaankfhdakaaLsMath
namespace Go.Proofs.Ytlhcaankfhdakaa
namespace Ll
open Ls

/-- what every table keeps -/
structure Ok (D : Tb) : Prop where
  lo : 0 ≤ D.long
  hi : D.long ≤ 1048576
  many : 0 ≤ D.many
  len : D.L.length ≤ 1024
  nums : ∀ x ∈ D.L, 1 ≤ x.n ∧ x.n ≤ D.many
  rise : (D.L.map Le.n).Pairwise (· < ·)

theorem Ok.new {long : Int} (h : 0 ≤ long ∧ long ≤ 1048576) : Ok ⟨long, 0, []⟩ := ⟨h.1, h.2, Int.le_refl _, by simp, fun x hx => by simp at hx, by simp⟩

theorem Ok.take {D : Tb} (h : Ok D) (now ts : Int) : Ok (takeB D now ts).1 := by
  unfold takeB
  split
  · exact h
  · split
    · exact h
    · refine ⟨h.lo, h.hi, ?_, ?_, ?_, ?_⟩
      · have := h.many; show 0 ≤ D.many + 1; omega
      · rw [List.length_append, List.length_singleton]; omega
      · intro x hx
        have hm := h.many
        rcases List.mem_append.1 hx with hx | hx
        · have := h.nums x (List.mem_filter.1 hx).1
          show 1 ≤ x.n ∧ x.n ≤ D.many + 1
          omega
        · obtain rfl : x = _ := by simpa using hx
          show 1 ≤ D.many + 1 ∧ D.many + 1 ≤ D.many + 1
          omega
      · show ((lv D.L now ++ [_]).map Le.n).Pairwise _
        rw [List.map_append, List.pairwise_append]
        refine ⟨h.rise.sublist (List.Sublist.map _ List.filter_sublist), by simp, fun a ha b hb => ?_⟩
        obtain ⟨x, hx, rfl⟩ := List.mem_map.1 ha
        obtain rfl : b = D.many + 1 := by simpa using hb
        have := (h.nums x (List.mem_filter.1 hx).1).2
        omega

theorem set_num {L : List Le} {k : Nat} (hk : k < L.length) (t u : Int) : (L.set k ⟨(g L k).n, t, u⟩).map Le.n = L.map Le.n := by
  rw [List.map_set]
  apply List.ext_getElem?
  intro i
  rw [List.getElem?_set]
  split
  · rename_i e
    subst e
    rw [List.length_map, if_pos hk, List.getElem?_map, at_g hk]
    rfl
  · rfl

theorem Ok.keep {D : Tb} (h : Ok D) (now n : Int) : Ok (keepB D now n).1 := by
  unfold keepB
  split
  · exact h
  · rename_i hc
    have hl : nu D.L n < D.L.length := Classical.byContradiction fun q => hc (by
      unfold checkB
      split
      · decide
      · rw [if_pos (by omega)]; decide)
    have hm := set_num hl (g D.L (nu D.L n)).t (max (g D.L (nu D.L n)).u (now + D.long))
    refine ⟨h.lo, h.hi, h.many, by rw [List.length_set]; exact h.len, fun x hx => ?_, ?_⟩
    · have hx' : x.n ∈ D.L.map Le.n := by rw [← hm]; exact List.mem_map_of_mem hx
      obtain ⟨y, hy, e⟩ := List.mem_map.1 hx'
      rw [← e]
      exact h.nums y hy
    · show (List.map Le.n (D.L.set _ _)).Pairwise _
      rw [hm]
      exact h.rise

theorem Ok.endd {D : Tb} (h : Ok D) (n : Int) : Ok (endB D n).1 := by
  unfold endB
  split
  · have hs : (D.L.eraseIdx (nu D.L n)).Sublist D.L := List.eraseIdx_sublist _ _
    exact ⟨h.lo, h.hi, h.many, Nat.le_trans hs.length_le h.len, fun x hx => h.nums x (hs.subset hx), h.rise.sublist (hs.map _)⟩
  · exact h

theorem rise_at {L : List Le} (h : (L.map Le.n).Pairwise (· < ·)) {i j : Nat} (hij : i < j) (hj : j < L.length) : (g L i).n < (g L j).n := by
  have := List.pairwise_iff_getElem.1 h i j (by rw [List.length_map]; omega) (by rw [List.length_map]; exact hj) hij
  rw [List.getElem_map, List.getElem_map] at this
  rw [g_lt (by omega), g_lt hj]
  exact this

/-- what a search has behind it and ahead of it -/
structure Mid (L : List Le) (n : Int) (i j : Nat) : Prop where
  le : i ≤ j
  ln : j ≤ L.length
  low : ∀ k, k < i → (g L k).n < n
  high : ∀ k, j ≤ k → k < L.length → n ≤ (g L k).n

theorem Mid.start (L : List Le) (n : Int) : Mid L n 0 L.length := ⟨Nat.zero_le _, Nat.le_refl _, fun k h => by omega, fun k h h2 => by omega⟩

theorem Mid.left {L : List Le} {n : Int} {i j m : Nat} (h : Mid L n i j) (hr : (L.map Le.n).Pairwise (· < ·)) (hmj : m < j) (hn : (g L m).n < n) : Mid L n (m + 1) j := by
  refine ⟨by omega, h.ln, fun k hk => ?_, h.high⟩
  by_cases e : k = m
  · subst e; exact hn
  · have := rise_at hr (i := k) (j := m) (by omega) (by have := h.ln; omega)
    omega

theorem Mid.right {L : List Le} {n : Int} {i j m : Nat} (h : Mid L n i j) (hr : (L.map Le.n).Pairwise (· < ·)) (him : i ≤ m) (hmj : m < j) (hn : ¬ (g L m).n < n) : Mid L n i m := by
  refine ⟨him, by have := h.ln; omega, h.low, fun k hk hl => ?_⟩
  by_cases e : k = m
  · subst e; omega
  · have := rise_at hr (i := m) (j := k) (by omega) hl
    omega

theorem nu_lt {L : List Le} {n : Int} {i : Nat} (hi : i < L.length) (e : (g L i).n = n) : nu L n < L.length :=
  List.findIdx_lt_length_of_exists ⟨g L i, by rw [g_lt hi]; exact List.getElem_mem hi, by simpa using e⟩

/-- a search that is done -/
theorem Mid.done {L : List Le} {n : Int} {i : Nat} (h : Mid L n i i) (hr : (L.map Le.n).Pairwise (· < ·)) : (nu L n < L.length ↔ (i < L.length ∧ (g L i).n = n)) ∧ (nu L n < L.length → nu L n = i) := by
  have key : nu L n < L.length → nu L n = i := fun hl => by
    have e := nu_at hl
    have h1 : ¬ nu L n < i := fun q => by have := h.low _ q; omega
    have h2 : ¬ i < nu L n := fun q => by
      have h3 := h.high i (Nat.le_refl _) (by omega)
      have h4 := rise_at hr q hl
      omega
    omega
  exact ⟨⟨fun hl => by rw [← key hl]; exact ⟨hl, nu_at hl⟩, fun ⟨hi, e⟩ => nu_lt hi e⟩, key⟩

end Ll
end Go.Proofs.Ytlhcaankfhdakaa
