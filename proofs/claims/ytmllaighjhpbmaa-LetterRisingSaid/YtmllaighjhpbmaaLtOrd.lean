/- Texts in Go's order: keys that rise are unlike, stay so without one of them, and do not rise turned round; no condition. -/
import Derived.Test.YtmllaighjhpbmaaLtDone1
namespace Go.Proofs.Ytmllaighjhpbmaa
namespace Lt
open Go.RowKit Bk

theorem less_irrefl : ∀ l : List UInt8, Op.bytesLess l l = false
  | [] => rfl
  | a :: x => by
    unfold Op.bytesLess
    rw [less_irrefl x]
    simp

theorem less_trans : ∀ x y z : List UInt8, Op.bytesLess x y = true → Op.bytesLess y z = true → Op.bytesLess x z = true
  | _, [], _, h, _ => by rw [bytesLess_nil] at h; cases h
  | _, _ :: _, [], _, h => by rw [bytesLess_nil] at h; cases h
  | [], _ :: _, _ :: _, _, _ => rfl
  | a :: x, b :: y, c :: z, h1, h2 => by
    unfold Op.bytesLess at h1 h2 ⊢
    simp only [Bool.or_eq_true, Bool.and_eq_true, decide_eq_true_eq, beq_iff_eq] at h1 h2 ⊢
    rcases h1 with h1 | ⟨rfl, h1⟩
    · rcases h2 with h2 | ⟨rfl, h2⟩
      · exact .inl (by rw [UInt8.lt_iff_toNat_lt] at *; omega)
      · exact .inl h1
    · rcases h2 with h2 | ⟨rfl, h2⟩
      · exact .inl h2
      · exact .inr ⟨rfl, less_trans x y z h1 h2⟩

theorem less_total : ∀ x y : List UInt8, Op.bytesLess x y = true ∨ x = y ∨ Op.bytesLess y x = true
  | [], [] => .inr (.inl rfl)
  | [], _ :: _ => .inl rfl
  | _ :: _, [] => .inr (.inr rfl)
  | a :: x, b :: y => by
    unfold Op.bytesLess
    simp only [Bool.or_eq_true, Bool.and_eq_true, decide_eq_true_eq, beq_iff_eq]
    rcases less_total x y with h | h | h
    · by_cases e : a = b
      · exact .inl (.inr ⟨e, h⟩)
      · rcases Nat.lt_or_gt_of_ne (fun h => e (UInt8.toNat_inj.1 h)) with h2 | h2
        · exact .inl (.inl (UInt8.lt_iff_toNat_lt.2 h2))
        · exact .inr (.inr (.inl (UInt8.lt_iff_toNat_lt.2 h2)))
    · by_cases e : a = b
      · exact .inr (.inl (by rw [e, h]))
      · rcases Nat.lt_or_gt_of_ne (fun h => e (UInt8.toNat_inj.1 h)) with h2 | h2
        · exact .inl (.inl (UInt8.lt_iff_toNat_lt.2 h2))
        · exact .inr (.inr (.inl (UInt8.lt_iff_toNat_lt.2 h2)))
    · by_cases e : a = b
      · exact .inr (.inr (.inr ⟨e.symm, h⟩))
      · rcases Nat.lt_or_gt_of_ne (fun h => e (UInt8.toNat_inj.1 h)) with h2 | h2
        · exact .inl (.inl (UInt8.lt_iff_toNat_lt.2 h2))
        · exact .inr (.inr (.inl (UInt8.lt_iff_toNat_lt.2 h2)))

/-- a is not at most b: b is below a -/
theorem not_le {a b : ByteArray} : leT a b = false ↔ Op.bytesLess b.toList a.toList = true := by
  unfold leT
  rw [Bool.or_eq_false_iff]
  constructor
  · rintro ⟨h1, h2⟩
    rcases less_total a.toList b.toList with h | h | h
    · rw [h1] at h; cases h
    · rw [h] at h2; simp at h2
    · exact h
  · intro h
    refine ⟨?_, ?_⟩
    · cases e : Op.bytesLess a.toList b.toList with
      | false => rfl
      | true => have := less_trans _ _ _ h e; rw [less_irrefl] at this; cases this
    · rw [beq_eq_false_iff_ne]
      intro e
      rw [e, less_irrefl] at h; cases h

/-- each place is above all ahead of it -/
theorem rises_far {l : List ByteArray} (h : Rises l) : ∀ (k i : Nat) (hk : i + 1 + k < l.length), Op.bytesLess l[i].toList l[i + 1 + k].toList = true
  | 0, i, hk => not_le.1 ((h (i + 1) (by omega)).2 (by omega))
  | k + 1, i, hk => less_trans _ _ _ (rises_far h k i (by omega)) (not_le.1 ((h (i + 1 + (k + 1)) hk).2 (by omega)))

theorem rises_lt {l : List ByteArray} (h : Rises l) {i j : Nat} (hi : i < l.length) (hj : j < l.length) (hij : i < j) : Op.bytesLess l[i].toList l[j].toList = true := by
  obtain ⟨k, rfl⟩ : ∃ k, j = i + 1 + k := ⟨j - i - 1, by omega⟩
  exact rises_far h k i hj

theorem rises_iff {l : List ByteArray} : Rises l ↔ (∀ s ∈ l, keyOk s) ∧ l.Pairwise fun a b => Op.bytesLess a.toList b.toList = true := by
  constructor
  · intro h
    refine ⟨fun s hs => ?_, List.pairwise_iff_getElem.2 fun i j hi hj hij => rises_lt h hi hj hij⟩
    obtain ⟨i, hi, rfl⟩ := List.mem_iff_getElem.1 hs
    exact (h i hi).1
  · rintro ⟨h1, h2⟩ i hi
    exact ⟨h1 _ (List.getElem_mem hi), fun h0 => not_le.2 (List.pairwise_iff_getElem.1 h2 (i - 1) i (by omega) hi (by omega))⟩

/-- without one of them -/
theorem rises_less {l : List ByteArray} (h : Rises l) (k : Nat) : Rises (l.take k ++ l.drop (k + 1)) := by
  rw [rises_iff] at h ⊢
  have hs : (l.take k ++ l.drop (k + 1)).Sublist l := by
    have h1 : (l.take k ++ l.drop (k + 1)).Sublist (l.take k ++ l.drop k) := (List.Sublist.refl _).append (by
      rw [show l.drop (k + 1) = (l.drop k).drop 1 by rw [List.drop_drop]]
      exact List.drop_sublist _ _)
    rwa [List.take_append_drop] at h1
  exact ⟨fun s hs2 => h.1 s (hs.mem hs2), h.2.sublist hs⟩

/-- turned round -/
theorem rises_round {l : List ByteArray} (h : Rises l) (h0 : l ≠ []) : risesB l.reverse = decide (l.length = 1) := by
  by_cases h1 : l.length = 1
  · match l, h1 with
    | [k], _ =>
      rw [risesB_true (by rw [List.reverse_singleton]; exact h)]
      simp
  · rw [decide_eq_false h1]
    refine risesB_false fun hr => ?_
    have h2 : 2 ≤ l.length := by
      have := List.length_pos_iff.2 h0
      omega
    rw [rises_iff] at h hr
    have p1 := List.pairwise_iff_getElem.1 h.2 0 1 (by omega) (by omega) (by omega)
    have p2 := List.pairwise_iff_getElem.1 (List.pairwise_reverse.1 hr.2) 0 1 (by omega) (by omega) (by omega)
    have := less_trans _ _ _ p1 p2
    rw [less_irrefl] at this
    cases this

end Lt
end Go.Proofs.Ytmllaighjhpbmaa
