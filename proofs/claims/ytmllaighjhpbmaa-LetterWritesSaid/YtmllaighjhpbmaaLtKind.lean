/- A kind's letters are those that its room holds; no condition. -/
import Derived.Test.YtmllaighjhpbmaaLtHolds
namespace Go.Proofs.Ytmllaighjhpbmaa
namespace Lt
open Go.RowKit Bk

attribute [local go_sem ↓] Go.wp_at_zero Go.wp_at_succ
attribute [local go_sem] floatUpon pick

theorem size_zero {s : ByteArray} (h : s.size = 0) : s = ⟨#[]⟩ := by
  obtain ⟨a⟩ := s
  congr 1
  exact Array.eq_empty_of_size_eq_zero h

theorem rises_one {k : ByteArray} : Rises [k] ↔ keyOk k := by
  constructor
  · intro h; exact (h 0 (by simp)).1
  · intro h i hi
    match i, hi with
    | 0, _ => exact ⟨h, fun h0 => absurd h0 (by omega)⟩

theorem are_nil : AreOk [] := ⟨fun x hx => absurd hx (by simp), Rises.nil⟩

/-- a kind's letters are those that its room holds -/
theorem holds_kind (l : Let) : (headOk l ∧ kindOk l) ↔ ((roomR l.kind).2 = true ∧ addr l.src ∧ addr l.dst ∧ txnOk l.txn ∧ stampOk l.ts ∧ holdsB (roomR l.kind).1 l = true) := by
  have hb : ∀ r : Rm, holdsB r l = true ↔ (0 ≤ l.code ∧ l.code ≤ r.code) ∧ (l.text.size : Int) ≤ r.text ∧ (l.text = ⟨#[]⟩ ∨ l.code = 1) ∧ (r.fewest ≤ (l.keys.length : Int) ∧ (l.keys.length : Int) ≤ r.most) ∧ Rises l.keys ∧ (l.ws.length : Int) ≤ r.writes ∧ AreOk l.ws := fun r => by
    unfold holdsB
    have hR : risesB l.keys = true ↔ Rises l.keys := ⟨fun h => Classical.byContradiction fun h2 => (by rw [risesB_false h2] at h; cases h), risesB_true⟩
    have hA : areB l.ws = true ↔ AreOk l.ws := ⟨fun h => Classical.byContradiction fun h2 => (by rw [areB_false h2] at h; cases h), areB_true⟩
    simp only [Bool.and_eq_true, Bool.or_eq_true, decide_eq_true_eq, hR, hA]
  rw [hb]
  have t0 : ∀ {s : ByteArray}, (s.size : Int) ≤ 0 → s = ⟨#[]⟩ := fun h => size_zero (by omega)
  have z0 : ((⟨#[]⟩ : ByteArray).size : Int) = 0 := rfl
  have n0 : ∀ {α : Type} {m : List α}, (m.length : Int) ≤ 0 → m = [] := fun h => List.eq_nil_of_length_eq_zero (by omega)
  unfold headOk
  by_cases h1 : l.kind = 1
  · rw [kind_1 h1, show roomR l.kind = (⟨0, 0, 1, 1, 0⟩, true) by rw [h1]; rfl]
    unfold OneOk
    simp only [true_and]
    constructor
    · rintro ⟨⟨a1, a2, a3, a4, a5, a6⟩, ⟨b1, b2, b3⟩, b4, b5⟩
      obtain ⟨k, hk⟩ := list_one b1
      rw [hk] at b2
      refine ⟨a1, a2, a3, a4, ⟨a5, by omega⟩, by rw [b4, z0]; omega, .inl b4, ⟨by omega, by omega⟩, by rw [hk]; exact rises_one.2 (b2 k (by simp)), by rw [b3]; decide, by rw [b3]; exact are_nil⟩
    · rintro ⟨a1, a2, a3, a4, ⟨a5, a6⟩, b1, b2, ⟨b3, b4⟩, b5, b6, b7⟩
      obtain ⟨k, hk⟩ := list_one (show l.keys.length = 1 by omega)
      refine ⟨⟨a1, a2, a3, a4, a5, by omega⟩, ⟨by omega, fun x hx => ?_, n0 b6⟩, t0 b1, by omega⟩
      rw [hk] at hx b5
      rw [List.mem_singleton] at hx
      rw [hx]; exact rises_one.1 b5
  by_cases h2 : l.kind = 2
  · rw [kind_2 h2, show roomR l.kind = (⟨4, 2052, 1, 1, 0⟩, true) by rw [h2]; rfl]
    unfold OneOk
    simp only [true_and]
    constructor
    · rintro ⟨⟨a1, a2, a3, a4, a5, a6⟩, ⟨b1, b2, b3⟩, b4, b5⟩
      obtain ⟨k, hk⟩ := list_one b1
      rw [hk] at b2
      refine ⟨a1, a2, a3, a4, ⟨a5, by omega⟩, by omega, b5, ⟨by omega, by omega⟩, by rw [hk]; exact rises_one.2 (b2 k (by simp)), by rw [b3]; decide, by rw [b3]; exact are_nil⟩
    · rintro ⟨a1, a2, a3, a4, ⟨a5, a6⟩, b1, b2, ⟨b3, b4⟩, b5, b6, b7⟩
      obtain ⟨k, hk⟩ := list_one (show l.keys.length = 1 by omega)
      refine ⟨⟨a1, a2, a3, a4, a5, by omega⟩, ⟨by omega, fun x hx => ?_, n0 b6⟩, by omega, b2⟩
      rw [hk] at hx b5
      rw [List.mem_singleton] at hx
      rw [hx]; exact rises_one.1 b5
  by_cases h3 : l.kind = 3
  · rw [kind_3 h3, show roomR l.kind = (⟨0, 0, 0, 16, 16⟩, true) by rw [h3]; rfl]
    unfold WritesOk AreOk
    simp only [true_and]
    constructor
    · rintro ⟨⟨a1, a2, a3, a4, a5, a6⟩, b1, b2, ⟨b3, b4, b5⟩, b6, b7⟩
      exact ⟨a1, a2, a3, a4, ⟨a5, by omega⟩, by rw [b6, z0]; omega, .inl b6, ⟨by omega, by omega⟩, b2, by omega, b4, b5⟩
    · rintro ⟨a1, a2, a3, a4, ⟨a5, a6⟩, b1, b2, ⟨b3, b4⟩, b5, b6, b7, b8⟩
      exact ⟨⟨a1, a2, a3, a4, a5, by omega⟩, by omega, b5, ⟨by omega, b7, b8⟩, t0 b1, by omega⟩
  have bare : ∀ (q : Int), 0 ≤ q → q ≤ 4 → (((addr l.src ∧ addr l.dst ∧ txnOk l.txn ∧ stampOk l.ts ∧ 0 ≤ l.code ∧ l.code ≤ 4) ∧ BareOk l ∧ l.code ≤ q) ↔
      (addr l.src ∧ addr l.dst ∧ txnOk l.txn ∧ stampOk l.ts ∧ (0 ≤ l.code ∧ l.code ≤ q) ∧ (l.text.size : Int) ≤ 0 ∧ (l.text = ⟨#[]⟩ ∨ l.code = 1) ∧ ((0 : Int) ≤ (l.keys.length : Int) ∧ (l.keys.length : Int) ≤ 0) ∧ Rises l.keys ∧ (l.ws.length : Int) ≤ 0 ∧ AreOk l.ws)) := fun q hq0 hq4 => by
    unfold BareOk
    constructor
    · rintro ⟨⟨a1, a2, a3, a4, a5, a6⟩, ⟨b1, b2, b3⟩, b4⟩
      refine ⟨a1, a2, a3, a4, ⟨a5, b4⟩, by rw [b3, z0]; omega, .inl b3, ⟨by omega, by rw [b1]; decide⟩, by rw [b1]; exact Rises.nil, by rw [b2]; decide, by rw [b2]; exact are_nil⟩
    · rintro ⟨a1, a2, a3, a4, ⟨a5, a6⟩, b1, b2, ⟨b3, b4⟩, b5, b6, b7⟩
      exact ⟨⟨a1, a2, a3, a4, a5, by omega⟩, ⟨n0 b4, n0 b6, t0 b1⟩, a6⟩
  by_cases h4 : l.kind = 4
  · rw [kind_4 h4, show roomR l.kind = (⟨1, 0, 0, 0, 0⟩, true) by rw [h4]; rfl]
    simp only [true_and]
    exact bare 1 (by omega) (by omega)
  by_cases h8 : l.kind = 8
  · rw [kind_8 h8, show roomR l.kind = (⟨2, 0, 0, 0, 0⟩, true) by rw [h8]; rfl]
    simp only [true_and]
    exact bare 2 (by omega) (by omega)
  by_cases h5 : l.kind = 5 ∨ l.kind = 6 ∨ l.kind = 7
  · rw [kind_5 h5, show roomR l.kind = (⟨0, 0, 0, 0, 0⟩, true) by rcases h5 with h | h | h <;> (rw [h]; rfl)]
    simp only [true_and]
    rw [← bare 0 (by omega) (by omega)]
    constructor
    · rintro ⟨a, b, c⟩; exact ⟨a, b, by omega⟩
    · rintro ⟨a, b, c⟩; exact ⟨a, b, by have := a.2.2.2.2.1; omega⟩
  · have e : roomR l.kind = (⟨0, 0, 0, 0, 0⟩, false) := by
      unfold roomR
      rw [if_neg h1, if_neg h2, if_neg h3, if_neg h4, if_neg h8, if_neg h5]
    rw [e]
    have hk : ¬ kindOk l := kind_no (by omega)
    exact ⟨fun h => absurd h.2 hk, fun h => by have := h.1; cases this⟩

noncomputable def okB (l : Let) : Bool := @decide (LetOk l) (Classical.propDecidable _)
theorem okB_true {l : Let} (h : LetOk l) : okB l = true := by unfold okB; exact @decide_eq_true _ (Classical.propDecidable _) h
theorem okB_false {l : Let} (h : ¬ LetOk l) : okB l = false := by unfold okB; exact @decide_eq_false _ (Classical.propDecidable _) h

theorem okB_parts (l : Let) : okB l = ((roomR l.kind).2 && (decide (addr l.src) && (decide (addr l.dst) && ((decide (1 ≤ l.txn) && decide (l.txn ≤ 1125899906842623)) && ((decide (0 ≤ l.ts) && decide (l.ts ≤ 1125899906842624)) && holdsB (roomR l.kind).1 l))))) := by
  have h := holds_kind l
  by_cases hl : LetOk l
  · rw [okB_true hl]
    obtain ⟨h1, h2, h3, h4, h5, h6⟩ := h.1 hl
    unfold txnOk at h4
    unfold stampOk at h5
    rw [h1, h6, decide_eq_true h2, decide_eq_true h3, decide_eq_true h4.1, decide_eq_true h4.2, decide_eq_true h5.1, decide_eq_true h5.2]; rfl
  · rw [okB_false hl]
    symm
    rw [Bool.eq_false_iff]
    intro hh
    simp only [Bool.and_eq_true, decide_eq_true_eq] at hh
    obtain ⟨h1, h2, h3, h4, h5, h6⟩ := hh
    exact hl (h.2 ⟨h1, h2, h3, h4, h5, h6⟩)

end Lt
end Go.Proofs.Ytmllaighjhpbmaa
