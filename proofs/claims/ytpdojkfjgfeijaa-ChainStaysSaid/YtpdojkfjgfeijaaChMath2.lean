/- Chains in plain lists: what is read stays; no condition. -/
import Derived.Test.YtpdojkfjgfeijaaChMath
namespace Go.Proofs.Ytpdojkfjgfeijaa
namespace Ch

theorem keep_app (a c : List Vr) : keepL (keepL a ++ c) = keepL (a ++ c) := by
  rcases List.eq_nil_or_concat c with rfl | ⟨c', x, rfl⟩
  · rw [List.append_nil, List.append_nil]
    rcases List.eq_nil_or_concat a with rfl | ⟨a', y, rfl⟩
    · rfl
    · unfold keepL
      rw [List.concat_eq_append, List.getLast?_concat]
      simp only
      by_cases hd : y.dead = true
      · rw [if_pos hd]; rfl
      · rw [if_neg hd]
        show (if y.dead = true then [] else [y]) = _
        rw [if_neg hd]
  · unfold keepL
    rw [List.concat_eq_append, ← List.append_assoc, ← List.append_assoc, List.getLast?_concat, List.getLast?_concat]

theorem keep_le {a : List Vr} {t : Int} (h : ∀ x ∈ a, x.ts ≤ t) : ∀ x ∈ keepL a, x.ts ≤ t := fun x hx => h x ((keep_sub a).subset hx)

theorem app_le {a c : List Vr} {t : Int} (h : ∀ x ∈ a, x.ts ≤ t) (h2 : ∀ x ∈ c, x.ts ≤ t) : ∀ x ∈ a ++ c, x.ts ≤ t := fun x hx => (List.mem_append.1 hx).elim (h x) (h2 x)

abbrev Rise (l : List Vr) : Prop := l.Pairwise (fun x y => x.ts < y.ts)

/-- a sweep, more behind, and a later sweep: the later one alone -/
theorem sweep_more {l m : List Vr} (h : Rise (l ++ m)) {low high : Int} (hle : low ≤ high) : sweepL (sweepL l low ++ m) high = sweepL (l ++ m) high := by
  obtain ⟨a, b, rfl, ha, hb, -⟩ := parts (List.pairwise_append.1 h).1 low
  have hbm : Rise (b ++ m) := by
    rw [List.append_assoc] at h
    exact (List.pairwise_append.1 h).2.1
  obtain ⟨c, d, hcd, hc, hd, -⟩ := parts hbm high
  have ha2 : ∀ x ∈ a, x.ts ≤ high := fun x hx => Int.le_trans (ha x hx) hle
  rw [sweep_is ha hb, List.append_assoc, List.append_assoc, hcd, ← List.append_assoc, ← List.append_assoc, sweep_is (app_le (keep_le ha2) hc) hd, sweep_is (app_le ha2 hc) hd, keep_app]

theorem sweep_twice {l : List Vr} (h : Rise l) {low high : Int} (hle : low ≤ high) : sweepL (sweepL l low) high = sweepL l high := by
  have := sweep_more (l := l) (m := []) (by rw [List.append_nil]; exact h) hle
  rwa [List.append_nil, List.append_nil] at this

theorem there_of {a b : List Vr} {t : Int} (ha : ∀ x ∈ a, x.ts ≤ t) (hb : ∀ x ∈ b, t < x.ts) : there (a ++ b) t = match a.getLast? with | none => (⟨#[]⟩, false) | some x => (x.shard, !x.dead) := by
  unfold there
  rw [at_is ha hb]
  cases a.getLast? with
  | none => rfl
  | some x => simp

theorem there_more {l m : List Vr} (h : Rise l) {t : Int} (hm : ∀ x ∈ m, t < x.ts) : there (l ++ m) t = there l t := by
  obtain ⟨a, b, rfl, ha, hb, -⟩ := parts h t
  rw [List.append_assoc, there_of ha (fun x hx => (List.mem_append.1 hx).elim (hb x) (hm x)), there_of ha hb]

theorem there_sweep {l : List Vr} (h : ChOk l) {low t : Int} (hle : low ≤ t) : there (sweepL l low) t = there l t := by
  obtain ⟨a, b, rfl, ha, hb, -⟩ := parts h.rise low
  obtain ⟨c, d, rfl, hc, hd, -⟩ := parts (List.pairwise_append.1 h.rise).2.1 t
  have ha2 : ∀ x ∈ a, x.ts ≤ t := fun x hx => Int.le_trans (ha x hx) hle
  rw [sweep_is ha hb, ← List.append_assoc, ← List.append_assoc, there_of (app_le (keep_le ha2) hc) hd, there_of (app_le ha2 hc) hd]
  rcases List.eq_nil_or_concat c with rfl | ⟨c', x, rfl⟩
  · rw [List.append_nil, List.append_nil]
    rcases List.eq_nil_or_concat a with rfl | ⟨a', y, rfl⟩
    · rfl
    · have hy := (h.each y (by simp)).2.2.2
      unfold keepL
      rw [List.concat_eq_append, List.getLast?_concat]
      simp only
      by_cases hd : y.dead = true
      · rw [if_pos hd]
        have he : y.shard = ⟨#[]⟩ := Decidable.not_not.1 (fun hn => hy ⟨hd, hn⟩)
        rw [he, hd]; rfl
      · rw [if_neg hd]; rfl
  · rw [List.concat_eq_append, ← List.append_assoc, ← List.append_assoc, List.getLast?_concat, List.getLast?_concat]

/-! ### what is added -/

structure Added (l : List Vr) (v : Vr) : Prop where
  ok : ChOk l
  one : vrOk v
  last : lastT l < v.ts
  all : ∀ x ∈ l, x.ts < v.ts
  more : ChOk (l ++ [v])

theorem last_top {l : List Vr} (h : Rise l) : ∀ x ∈ l, x.ts ≤ lastT l := by
  rcases List.eq_nil_or_concat l with rfl | ⟨l', y, rfl⟩
  · intro x hx; simp at hx
  · rw [List.concat_eq_append] at h ⊢
    unfold lastT
    rw [List.getLast?_concat]
    intro x hx
    rcases List.mem_append.1 hx with hx | hx
    · exact Int.le_of_lt ((List.pairwise_append.1 h).2.2 x hx y (by simp))
    · obtain rfl := List.mem_singleton.1 hx; exact Int.le_refl _

theorem added {l : List Vr} {v : Vr} (h : (addP l v).2 = 0) : Added l v ∧ addP l v = (l ++ [v], 0) := by
  unfold addP at h ⊢
  by_cases h1 : (chkP l).2 ≠ 0
  · rw [if_pos h1] at h; exact absurd h h1
  rw [if_neg h1] at h ⊢
  by_cases h2 : (chkP [v]).2 ≠ 0
  · rw [if_pos h2] at h; exact absurd h h2
  rw [if_neg h2] at h ⊢
  by_cases h3 : 0 < l.length ∧ v.ts ≤ lastT l
  · rw [if_pos h3] at h; simp at h
  rw [if_neg h3] at h ⊢
  by_cases h4 : 1024 ≤ l.length
  · rw [if_pos h4] at h; simp at h
  rw [if_neg h4] at h ⊢
  have ok := chk_ok.1 (Decidable.not_not.1 h1)
  have one := (chk_ok.1 (Decidable.not_not.1 h2)).each v (by simp)
  have hl : lastT l < v.ts := by
    by_cases h0 : 0 < l.length
    · omega
    · have : l = [] := List.eq_nil_of_length_eq_zero (by omega)
      subst this
      have := one.1
      show (0 : Int) < _
      omega
  have hall : ∀ x ∈ l, x.ts < v.ts := fun x hx => Int.lt_of_le_of_lt (last_top ok.rise x hx) hl
  refine ⟨⟨ok, one, hl, hall, ⟨by rw [List.length_append]; simp; omega, fun x hx => ?_, List.pairwise_append.2 ⟨ok.rise, by simp, fun x hx y hy => by obtain rfl := List.mem_singleton.1 hy; exact hall x hx⟩⟩⟩, rfl⟩
  rcases List.mem_append.1 hx with hx | hx
  · exact ok.each x hx
  · obtain rfl := List.mem_singleton.1 hx; exact one

theorem at_last {l : List Vr} {v : Vr} {t : Int} (h : ∀ x ∈ l, x.ts ≤ t) (hv : v.ts ≤ t) : atV (l ++ [v]) t = (v, true) := by
  have := at_is (a := l ++ [v]) (b := []) (t := t) (app_le h (fun x hx => by obtain rfl := List.mem_singleton.1 hx; exact hv)) (by simp)
  rw [List.append_nil, List.getLast?_concat] at this
  exact this

theorem at_mem {l : List Vr} (h : Rise l) {x : Vr} (hx : x ∈ l) : atV l x.ts = (x, true) := by
  obtain ⟨p, s, rfl⟩ := List.append_of_mem hx
  obtain ⟨h1, h2, h3⟩ := List.pairwise_append.1 h
  have := at_is (a := p ++ [x]) (b := s) (t := x.ts) (app_le (fun y hy => Int.le_of_lt (h3 y hy x (by simp))) (fun y hy => by obtain rfl := List.mem_singleton.1 hy; exact Int.le_refl _)) (List.pairwise_cons.1 h2).1
  rw [List.append_assoc, List.getLast?_concat] at this
  exact this

theorem at_zero {l : List Vr} (h : ∀ x ∈ l, vrOk x) : atV l 0 = (noVr, false) := by
  have := at_is (a := []) (b := l) (t := 0) (by simp) (fun x hx => by have := (h x hx).1; omega)
  exact this

end Ch
end Go.Proofs.Ytpdojkfjgfeijaa
