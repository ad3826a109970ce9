/- Each task is taken once, the most urgent first: in plain terms; no condition. -/
import Derived.Test.YtpjoiepdcilcnaaDuDrops
namespace Go.Proofs.Ytpjoiepdcilcnaa
namespace Du
open Bk

/-- what is still there, and what was taken -/
structure AllI (L : List Ta) (n : Nat) (most : Int) (D : Ds) (T : List Bool) : Prop where
  sub : D.L.Sublist (taL L n)
  tlen : T.length = n
  tk : ∀ m, m < n → (T[m]? = some false ↔ g (taL L n) m ∈ D.L)
  tick : 0 ≤ D.tick ∧ D.tick ≤ most
  top : ∀ m, m < n → (g (taL L n) m).a ≤ most
  big : most ≤ 1000

section
variable {L : List Ta} {n : Nat} {most : Int} {D D' : Ds} {T : List Bool}

theorem ta_in {x : Tk} (h : x ∈ taL L n) : ∃ m, m < n ∧ g (taL L n) m = x ∧ x.i = (m : Int) := by
  obtain ⟨m, hm, e⟩ := mem_g h
  rw [ta_len] at hm
  refine ⟨m, hm, e, ?_⟩
  rw [← e, ta_at L n m hm]

theorem AllI.start (hm : ∀ m, m < n → (g (taL L n) m).a ≤ most) (h0 : 0 ≤ most) (h1 : most ≤ 1000) (c : Int) : AllI L n most ⟨taL L n, 0, c⟩ (List.replicate n false) :=
  ⟨.refl _, by simp, fun m h => ⟨fun _ => g_mem (by rw [ta_len]; exact h), fun _ => by rw [List.getElem?_replicate, if_pos h]⟩, ⟨by show (0 : Int) ≤ 0; omega, h0⟩, hm, h1⟩

theorem AllI.go (h : AllI L n most D T) {t : Int} (h1 : D.tick ≤ t) (h2 : t ≤ most) : goD D t = (⟨D.L, t, D.many⟩, 0) ∧ AllI L n most ⟨D.L, t, D.many⟩ T := by
  have hb := h.big
  have ht := h.tick
  refine ⟨by unfold goD; rw [if_neg (by omega)], h.sub, h.tlen, h.tk, ⟨by show 0 ≤ t; omega, h2⟩, h.top, h.big⟩

theorem AllI.take (h : AllI L n most D T) : (takeD D = (D, 0, false) ∧ ∀ x ∈ D.L, D.tick < x.a) ∨
    ∃ (m : Nat) (D' : Ds), m < n ∧ takeD D = (D', (m : Int), true) ∧ T[m]? = some false ∧ g (taL L n) m ∈ D.L ∧ (g (taL L n) m).a ≤ D.tick ∧ AllI L n most D' (T.set m true) ∧ D'.L.length + 1 = D.L.length ∧ D'.tick = D.tick ∧ (∀ y ∈ D'.L, y ∈ D.L ∧ (y.a ≤ D.tick → ltR y (g (taL L n) m) = false)) := by
  unfold takeD
  cases hb : bestK D.L D.tick D.L.length with
  | none =>
    refine .inl ⟨rfl, fun x hx => ?_⟩
    obtain ⟨k, hk, rfl⟩ := mem_g hx
    exact best_none hb k hk
  | some b =>
    obtain ⟨h1, h2, h3⟩ := best_some hb
    obtain ⟨m, hm, e, ei⟩ := ta_in (h.sub.subset (g_mem h1))
    have hin : g (taL L n) m ∈ D.L := e ▸ g_mem h1
    have hsub := List.eraseIdx_sublist D.L b
    have hnd := (ta_num L n).1.sublist h.sub
    have hperm := erase_perm h1
    rw [← g_lt h1] at hperm
    refine .inr ⟨m, ⟨D.L.eraseIdx b, D.tick, D.many⟩, hm, by simp only [ei], (h.tk m hm).2 hin, hin, by rw [e]; exact h2, ⟨hsub.trans h.sub, by rw [List.length_set]; exact h.tlen, fun q hq => ?_, h.tick, h.top, h.big⟩, ?_, rfl, fun y hy => ⟨hsub.subset hy, fun hd => ?_⟩⟩
    · by_cases hqm : q = m
      · subst hqm
        rw [List.getElem?_set_self (by rw [h.tlen]; exact hq)]
        refine ⟨fun h => by simp at h, fun h4 => ?_⟩
        exfalso
        have hne : (D.L.eraseIdx b).Pairwise (fun x y => x.n < y.n) := hnd.sublist hsub
        obtain ⟨k, hk, ek⟩ := mem_g (show g (taL L n) q ∈ D.L.eraseIdx b from h4)
        rw [g_erase hk] at ek
        have l1 := List.length_eraseIdx_of_lt h1
        split at ek
        · rename_i hlt
          have := pair_lt hnd hlt h1
          rw [ek, e] at this
          omega
        · rename_i hlt
          have := pair_lt hnd (i := b) (j := k + 1) (by omega) (by omega)
          rw [ek, e] at this
          omega
      · rw [List.getElem?_set_ne (by omega)]
        rw [h.tk q hq]
        show _ ↔ g (taL L n) q ∈ D.L.eraseIdx b
        rw [← hperm.mem_iff, List.mem_cons]
        refine ⟨fun h4 => h4.elim (fun h5 => ?_) id, .inr⟩
        exfalso
        have h6 := e.trans h5.symm
        rw [ta_at L n m hm, ta_at L n q hq] at h6
        have := congrArg Tk.i h6
        simp at this
        omega
    · rw [List.length_eraseIdx_of_lt h1]; omega
    · obtain ⟨k, hk, rfl⟩ := mem_g (hsub.subset hy)
      rw [e]
      exact h3 k hk hd

/-- what is there is not taken: at the end nothing is there -/
theorem AllI.over (h : AllI L n most D T) (hd : ∀ x ∈ D.L, D.tick < x.a) (ht : D.tick = most) : D.L = [] := by
  cases hL : D.L with
  | nil => rfl
  | cons x r =>
    have hx : x ∈ D.L := by rw [hL]; exact List.mem_cons_self
    have := hd x hx
    obtain ⟨m, hm, e, _⟩ := ta_in (h.sub.subset hx)
    have := h.top m hm
    rw [e] at this
    omega

theorem AllI.len (h : AllI L n most D T) : D.L.length ≤ n := by have := h.sub.length_le; rw [ta_len] at this; exact this

theorem ltR_no {x y : Tk} (h : ltR x y = false) : ¬ y.u < x.u ∧ (x.u = y.u → ¬ x.a < y.a) := by
  simp only [ltR, decide_eq_false_iff_not] at h
  omega

end

end Du
end Go.Proofs.Ytpjoiepdcilcnaa
