/- Parts of the proof, joined: ShMath4, ShL1; their conditions stand with each. -/
import Derived.Test.YtiobhbagjokpcaaGreatM0
import Derived.Test.YtiobhbagjokpcaaGreatM19
import Derived.Test.YtiobhbagjokpcaaGreatM21

/- Shelves in plain lists: what is refused, what is applied twice, what is read again; no condition. -/
namespace Go.Proofs.YtiobhbagjokpcaaGreat
namespace Sh
open Ch Rc Lt

/-! ### refused: nothing turns -/

theorem prepare_ref {s : Shf} {r : Rec} (h : (prepareP s r).2 ≠ 0) : (prepareP s r).1 = s := by
  unfold prepareP at h ⊢
  split
  · rfl
  · rename_i h1
    rw [if_neg h1] at h
    split
    · rfl
    · rename_i h2
      rw [if_neg h2] at h
      split
      · rfl
      · rename_i h3
        rw [if_neg h3] at h
        split
        · rfl
        · rename_i h4
          rw [if_neg h4] at h
          exact absurd rfl h

theorem do_ref {s : Shf} {txn ts : Int} (h : (doP s txn ts).2 ≠ 0) : (doP s txn ts).1 = s := by
  unfold doP at h ⊢
  by_cases h1 : 1 < (stateP s txn).1
  · rw [if_pos h1]; split <;> rfl
  rw [if_neg h1] at h ⊢
  cases hp : prepOf s.p txn with
  | none => rw [hp] at h; exact absurd rfl h
  | some r =>
    rw [hp] at h
    simp only at h ⊢
    by_cases h2 : 0 < ts
    · rw [if_pos h2] at h ⊢
      by_cases h3 : r.ws.any (fun x => decide (ts ≤ lastT (chainK s.k x.key))) = true
      · rw [if_pos h3]
      rw [if_neg h3] at h ⊢
      by_cases h4 : longW s.k r.ws s.k.length = true
      · rw [if_pos h4]
      rw [if_neg h4] at h
      exact absurd rfl h
    · rw [if_neg h2] at h
      exact absurd rfl h

theorem ver_ref {s : Shf} {key : ByteArray} {v : Vr} (h : (verP s key v).2 ≠ 0) : (verP s key v).1 = s := by
  unfold verP at h ⊢
  by_cases h1 : (addP (chainK s.k key) v).2 ≠ 0
  · rw [if_pos h1]
  rw [if_neg h1] at h ⊢
  by_cases h2 : hasK s.k key = false ∧ 1024 ≤ s.k.length
  · rw [if_pos h2]
  rw [if_neg h2] at h
  exact absurd rfl h

theorem sweep_ref {s : Shf} {t : Int} (h : (sweepS s t).2 ≠ 0) : (sweepS s t).1 = s := by
  unfold sweepS at h ⊢
  by_cases h1 : t < s.over
  · rw [if_pos h1]
  rw [if_neg h1] at h
  exact absurd rfl h

theorem refused {s : Shf} {r : Rec} (h : (applyP s r).2 ≠ 0) : (applyP s r).1 = s := by
  unfold applyP at h ⊢
  by_cases h0 : ¬ RecOk r
  · rw [if_pos h0]
  rw [if_neg h0] at h ⊢
  by_cases h1 : r.kind = 1
  · rw [if_pos h1] at h ⊢; exact prepare_ref h
  rw [if_neg h1] at h ⊢
  by_cases h2 : r.kind = 2
  · rw [if_pos h2] at h ⊢; exact do_ref h
  rw [if_neg h2] at h ⊢
  by_cases h3 : r.kind = 3
  · rw [if_pos h3] at h ⊢; exact ver_ref h
  rw [if_neg h3] at h ⊢
  by_cases h4 : r.kind = 4
  · rw [if_pos h4] at h ⊢; exact sweep_ref h
  rw [if_neg h4]

/-! ### applied twice -/

theorem prepare_in {s : Shf} {r : Rec} (h : (prepareP s r).2 = 0) : (prepareP s r).1 = ⟨s.k, insP s.p r, s.e, s.over⟩ := by
  unfold prepareP at h ⊢
  by_cases h1 : (stateP s r.txn).1 ≠ 0
  · rw [if_pos h1] at h; simp at h
  rw [if_neg h1] at h ⊢
  by_cases h2 : r.keys.any (fun y => heldB s y false) = true
  · rw [if_pos h2] at h; simp at h
  rw [if_neg h2] at h ⊢
  by_cases h3 : r.ws.any (fun x => heldB s x.key true) = true
  · rw [if_pos h3] at h; simp at h
  rw [if_neg h3] at h ⊢
  by_cases h4 : 1024 ≤ s.p.length
  · rw [if_pos h4] at h; simp at h
  rw [if_neg h4]

theorem prep_some {p : List Rec} {r : Rec} (h : r ∈ p) : ∃ q, prepOf p r.txn = some q := by
  cases hq : prepOf p r.txn with
  | some q => exact ⟨q, rfl⟩
  | none => exact absurd rfl (prep_none.1 hq r h)

theorem end_new {e : List (Int × Int)} {txn ts : Int} (h : endOf e txn = none) : endOf (capE (e ++ [(txn, ts)])) txn = some (txn, ts) := by
  have h1 : ∀ a : List (Int × Int), (∀ x ∈ a, x.1 ≠ txn) → endOf (a ++ [(txn, ts)]) txn = some (txn, ts) := fun a ha => by
    have hn := end_none.2 ha
    unfold endOf at hn ⊢
    rw [List.find?_append, hn, List.find?_cons_of_pos (by simp)]
    rfl
  have h2 := end_none.1 h
  unfold capE
  by_cases hl : 1024 < (e ++ [(txn, ts)]).length
  · rw [if_pos hl]
    rw [List.length_append, List.length_singleton] at hl
    rw [List.drop_append_of_le_length (by omega)]
    exact h1 _ fun x hx => h2 x (List.mem_of_mem_drop hx)
  · rw [if_neg hl]
    exact h1 _ h2

theorem do_in {s : Shf} {txn ts : Int} (h : (doP s txn ts).2 = 0) : ¬ 1 < (stateP s txn).1 ∧ ∃ k, (doP s txn ts).1 = endP ⟨k, s.p, s.e, s.over⟩ txn ts := by
  unfold doP at h ⊢
  by_cases h1 : 1 < (stateP s txn).1
  · rw [if_pos h1] at h; split at h <;> simp at h
  rw [if_neg h1] at h ⊢
  refine ⟨h1, ?_⟩
  cases hp : prepOf s.p txn with
  | none => exact ⟨s.k, rfl⟩
  | some r =>
    rw [hp] at h
    simp only at h ⊢
    by_cases h2 : 0 < ts
    · rw [if_pos h2] at h ⊢
      by_cases h3 : r.ws.any (fun x => decide (ts ≤ lastT (chainK s.k x.key))) = true
      · rw [if_pos h3] at h; simp at h
      rw [if_neg h3] at h ⊢
      by_cases h4 : longW s.k r.ws s.k.length = true
      · rw [if_pos h4] at h; simp at h
      rw [if_neg h4]
      exact ⟨_, rfl⟩
    · rw [if_neg h2]
      exact ⟨s.k, rfl⟩

theorem ver_in {s : Shf} {key : ByteArray} {v : Vr} (h : (verP s key v).2 = 0) : (addP (chainK s.k key) v).2 = 0 ∧ (verP s key v).1 = ⟨addK s.k key v, s.p, s.e, s.over⟩ := by
  unfold verP at h ⊢
  by_cases h1 : (addP (chainK s.k key) v).2 ≠ 0
  · rw [if_pos h1] at h; exact absurd h h1
  rw [if_neg h1] at h ⊢
  by_cases h2 : hasK s.k key = false ∧ 1024 ≤ s.k.length
  · rw [if_pos h2] at h; simp at h
  rw [if_neg h2]
  exact ⟨Decidable.not_not.1 h1, rfl⟩

theorem sweep_in {s : Shf} {t : Int} (h : (sweepS s t).2 = 0) : s.over ≤ t ∧ (sweepS s t).1 = ⟨sweepK s.k t, s.p, s.e, t⟩ := by
  unfold sweepS at h ⊢
  by_cases h1 : t < s.over
  · rw [if_pos h1] at h; simp at h
  rw [if_neg h1]
  exact ⟨by omega, rfl⟩

theorem sweepK_twice {k : List Kc} (h : ∀ x ∈ k, ChOk x.l) (t : Int) : sweepK (sweepK k t) t = sweepK k t := by
  induction k with
  | nil => rfl
  | cons x r ih =>
    have ih := ih fun y hy => h y (List.mem_cons_of_mem _ hy)
    have hx := sweep_twice (h x (List.mem_cons_self ..)).rise (Int.le_refl t)
    unfold sweepK at ih ⊢
    rw [List.map_cons]
    cases he : (sweepL x.l t).isEmpty with
    | false => rw [List.filter_cons_of_pos (by simp [he]), List.map_cons, hx, List.filter_cons_of_pos (by simp [he]), ih]
    | true => rw [List.filter_cons_of_neg (by simp [he]), ih]

theorem twice {s : Shf} {r : Rec} (h : ShOk s) (h0 : (applyP s r).2 = 0) : applyP (applyP s r).1 r = ((applyP s r).1, if r.kind = 4 then 0 else if r.kind = 3 then 110 else 6) ∧ 1 ≤ r.kind ∧ r.kind ≤ 4 := by
  have hok := apply_ok h r
  obtain ⟨s', hs'⟩ : ∃ s', (applyP s r).1 = s' := ⟨_, rfl⟩
  rw [hs'] at hok ⊢
  unfold applyP at h0 hs'
  by_cases hr : ¬ RecOk r
  · rw [if_pos hr] at h0; simp at h0
  rw [if_neg hr] at h0 hs'
  have hr := Classical.not_not.1 hr
  have ht := hr.1.2.1
  unfold applyP
  rw [if_neg (fun h => h hr)]
  by_cases h1 : r.kind = 1
  · rw [if_pos h1] at h0 hs' ⊢
    rw [if_neg (by omega), if_neg (by omega)]
    refine ⟨?_, by omega, by omega⟩
    rw [prepare_in h0] at hs'
    subst hs'
    obtain ⟨q, hq⟩ := prep_some (mem_ins (p := s.p) (r := r) (q := r) |>.2 (.inl rfl))
    unfold prepareP
    rw [if_pos]
    unfold stateP
    rw [show prepOf (insP s.p r) r.txn = some q from hq]
    simp
  rw [if_neg h1] at h0 hs' ⊢
  by_cases h2 : r.kind = 2
  · rw [if_pos h2] at h0 hs' ⊢
    rw [if_neg (by omega), if_neg (by omega)]
    refine ⟨?_, by omega, by omega⟩
    obtain ⟨hst, k, hk⟩ := do_in h0
    rw [hk] at hs'
    subst hs'
    have hne : endOf s.e r.txn = none := by
      rcases state_le hst with h3 | ⟨q, h3⟩
      · exact h3
      · exact prep_end h h3
    have hstate : stateP (endP ⟨k, s.p, s.e, s.over⟩ r.txn r.ts) r.txn = if 0 < r.ts then (2, r.ts) else (3, 0) := by
      unfold stateP endP
      simp only
      rw [prep_none.2 (out_not h.pr)]
      simp only
      rw [end_new hne]
    unfold stampOk at ht
    unfold doP
    rw [hstate]
    by_cases hp : 0 < r.ts
    · rw [if_pos hp, if_pos (by simp), if_pos rfl]
    · rw [if_neg hp, if_pos (by simp), if_pos (by simp; omega)]
  rw [if_neg h2] at h0 hs' ⊢
  by_cases h3 : r.kind = 3
  · rw [if_pos h3] at h0 hs' ⊢
    rw [if_neg (by omega), if_pos h3]
    refine ⟨?_, by omega, by omega⟩
    obtain ⟨ha, hk⟩ := ver_in h0
    rw [hk] at hs'
    subst hs'
    obtain ⟨had, he⟩ := added ha
    have hc : chainK (addK s.k r.key ⟨r.ts, r.text, r.dead⟩) r.key = chainK s.k r.key ++ [⟨r.ts, r.text, r.dead⟩] := by
      unfold addK
      rw [chain_put, if_pos rfl, he]
    have hold : addP (chainK s.k r.key ++ [⟨r.ts, r.text, r.dead⟩]) ⟨r.ts, r.text, r.dead⟩ = ([], 110) := by
      have hv2 : (chkP [(⟨r.ts, r.text, r.dead⟩ : Vr)]).2 = 0 := chk_ok.2 ⟨by simp, fun y hy => by rw [List.mem_singleton.1 hy]; exact had.one, by simp⟩
      unfold addP
      rw [if_neg (by rw [chk_zero had.more]; simp), if_neg (by rw [hv2]; simp), if_pos ⟨by simp, by unfold lastT; rw [List.getLast?_concat]; exact Int.le_refl _⟩]
    unfold verP
    simp only
    rw [hc, hold, if_pos (by simp)]
  rw [if_neg h3] at h0 hs' ⊢
  by_cases h4 : r.kind = 4
  · rw [if_pos h4] at h0 hs' ⊢
    rw [if_pos h4]
    refine ⟨?_, by omega, by omega⟩
    obtain ⟨_, hk⟩ := sweep_in h0
    rw [hk] at hs'
    subst hs'
    unfold sweepS
    simp only
    rw [if_neg (by omega), sweepK_twice h.kc]
  rw [if_neg h4] at h0
  simp at h0

/-! ### what is read is read again -/

theorem at_more {l m : List Vr} (h : Rise l) {t : Int} (hm : ∀ x ∈ m, t < x.ts) : atV (l ++ m) t = atV l t := by
  obtain ⟨a, b, rfl, ha, hb, -⟩ := parts h t
  rw [List.append_assoc, at_is ha (fun x hx => (List.mem_append.1 hx).elim (hb x) (hm x)), at_is ha hb]

theorem at_sweep {l : List Vr} (h : ChOk l) {low t : Int} (hle : low ≤ t) : atV (sweepL l low) t = atV l t ∨ ((atV l t).2 = true ∧ (atV l t).1.dead = true ∧ (atV (sweepL l low) t).2 = false) := by
  obtain ⟨a, b, rfl, ha, hb, -⟩ := parts h.rise low
  obtain ⟨c, d, rfl, hc, hd, -⟩ := parts (List.pairwise_append.1 h.rise).2.1 t
  have ha2 : ∀ x ∈ a, x.ts ≤ t := fun x hx => Int.le_trans (ha x hx) hle
  rw [sweep_is ha hb, ← List.append_assoc, ← List.append_assoc, at_is (app_le (keep_le ha2) hc) hd, at_is (app_le ha2 hc) hd]
  rcases List.eq_nil_or_concat c with rfl | ⟨c', x, rfl⟩
  · rw [List.append_nil, List.append_nil]
    rcases List.eq_nil_or_concat a with rfl | ⟨a', y, rfl⟩
    · exact .inl rfl
    · unfold keepL
      rw [List.concat_eq_append, List.getLast?_concat]
      simp only
      by_cases hd : y.dead = true
      · rw [if_pos hd]
        exact .inr ⟨trivial, hd, rfl⟩
      · rw [if_neg hd]
        exact .inl rfl
  · rw [List.concat_eq_append, ← List.append_assoc, ← List.append_assoc, List.getLast?_concat, List.getLast?_concat]
    exact .inl rfl

/-- how what counts now stands to what was read -/
def Still (code : Int) (v : Vr) (c : Vr × Bool) : Prop :=
  (c.2 = false ∧ (code = 0 ∧ v = noVr ∨ code = 2)) ∨ (c = (v, true) ∧ code = if v.dead then 2 else 1)

theorem at_none {l : List Vr} {t : Int} (h : (atV l t).2 = false) : (atV l t).1 = noVr := by
  unfold atV at h ⊢
  cases hl : (lowL l t).getLast? with
  | none => rfl
  | some x => rw [hl] at h; simp at h

theorem still_start {s : Shf} {key : ByteArray} {t code : Int} {v : Vr} (h : readP s key t = (code, v)) (h3 : code ≠ 3) (h4 : code ≠ 4) : s.over ≤ t ∧ Still code v (atV (chainK s.k key) t) := by
  unfold readP at h
  by_cases h1 : t < s.over
  · rw [if_pos h1] at h; simp only [Prod.mk.injEq] at h; omega
  rw [if_neg h1] at h
  by_cases h2 : heldB s key false = true
  · rw [if_pos h2] at h; simp only [Prod.mk.injEq] at h; omega
  rw [if_neg h2] at h
  refine ⟨by omega, ?_⟩
  obtain ⟨x, b, hx⟩ : ∃ x b, atV (chainK s.k key) t = (x, b) := ⟨_, _, rfl⟩
  rw [hx] at h ⊢
  cases b with
  | false =>
    simp only [if_true, Prod.mk.injEq] at h
    exact .inl ⟨rfl, .inl ⟨h.1.symm, h.2.symm⟩⟩
  | true =>
    simp only [Bool.true_eq_false, if_false] at h
    by_cases hd : x.dead = true
    · rw [if_pos hd, Prod.mk.injEq] at h
      obtain ⟨rfl, rfl⟩ := h
      exact .inr ⟨rfl, by rw [if_pos hd]⟩
    · rw [if_neg hd, Prod.mk.injEq] at h
      obtain ⟨rfl, rfl⟩ := h
      exact .inr ⟨rfl, by rw [if_neg hd]⟩

theorem still_end {s : Shf} {key : ByteArray} {t code : Int} {v : Vr} (ho : s.over ≤ t) (h : Still code v (atV (chainK s.k key) t)) : (readP s key t).1 = 3 ∨ readP s key t = (code, v) ∨ (code = 2 ∧ (readP s key t).1 = 0) := by
  unfold readP
  rw [if_neg (by omega)]
  by_cases h2 : heldB s key false = true
  · rw [if_pos h2]; exact .inl rfl
  rw [if_neg h2]
  rcases h with ⟨h, ⟨rfl, rfl⟩ | rfl⟩ | ⟨h, hc⟩
  · rw [if_pos h]; exact .inr (.inl rfl)
  · rw [if_pos h]; exact .inr (.inr ⟨rfl, rfl⟩)
  · rw [h, if_neg (by simp)]
    by_cases hd : v.dead = true
    · rw [if_pos hd] at hc ⊢; exact .inr (.inl (by rw [hc]))
    · rw [if_neg hd] at hc ⊢; exact .inr (.inl (by rw [hc]))

theorem still_more {code : Int} {v : Vr} {l : List Vr} {x : Vr} {t : Int} (h : Still code v (atV l t)) (hl : Rise l) (hx : t < x.ts) : Still code v (atV (l ++ [x]) t) := by
  rw [at_more hl (fun y hy => by rw [List.mem_singleton.1 hy]; exact hx)]
  exact h

theorem still_sweep {code : Int} {v : Vr} {l : List Vr} {low t : Int} (h : Still code v (atV l t)) (hl : ChOk l) (hle : low ≤ t) : Still code v (atV (sweepL l low) t) := by
  rcases at_sweep hl hle with e | ⟨h1, h2, h3⟩
  · rw [e]; exact h
  · rcases h with ⟨h4, _⟩ | ⟨h4, h5⟩
    · rw [h1] at h4; cases h4
    · rw [h4] at h2
      rw [if_pos h2] at h5
      exact .inl ⟨h3, .inr h5⟩

/-- a decision: each chain as it was, or with a version of its time behind -/
theorem do_chain {s : Shf} (h : ShOk s) {txn ts : Int} (ht : stampOk ts) (key : ByteArray) : chainK (doP s txn ts).1.k key = chainK s.k key ∨ 0 < ts ∧ ∃ x : Vr, x.ts = ts ∧ chainK (doP s txn ts).1.k key = chainK s.k key ++ [x] := by
  unfold doP
  by_cases h1 : 1 < (stateP s txn).1
  · rw [if_pos h1]; split <;> exact .inl rfl
  rw [if_neg h1]
  cases hp : prepOf s.p txn with
  | none => exact .inl rfl
  | some r =>
    simp only
    by_cases h2 : 0 < ts
    · rw [if_pos h2]
      by_cases h3 : r.ws.any (fun x => decide (ts ≤ lastT (chainK s.k x.key))) = true
      · rw [if_pos h3]; exact .inl rfl
      rw [if_neg h3]
      by_cases h4 : longW s.k r.ws s.k.length = true
      · rw [if_pos h4]; exact .inl rfl
      rw [if_neg h4]
      have h3' : ∀ x ∈ r.ws, lastT (chainK s.k x.key) < ts := fun x hx => by
        simp only [List.any_eq_true, not_exists, not_and] at h3
        have := h3 x hx
        simp at this
        omega
      have h4' : longW s.k r.ws s.k.length = false := by simpa using h4
      have hpo := h.po r (prep_mem hp).1
      obtain ⟨w1, w2⟩ := prep_writes hpo.1 hpo.2
      unfold stampOk at ht
      obtain ⟨_, k2, k3⟩ := addW_ok (ts := ts) ⟨by omega, by omega⟩ r.ws s.k h.kok w1 w2 h3' (longW_chain h4')
      show chainK (addW ts r.ws s.k) key = _ ∨ _
      by_cases hk : ∃ x ∈ r.ws, x.key = key
      · obtain ⟨x, hx, rfl⟩ := hk
        exact .inr ⟨h2, ⟨ts, x.shard, x.dead⟩, rfl, k3 x hx⟩
      · exact .inl (k2 key fun x hx e => hk ⟨x, hx, e⟩)
    · rw [if_neg h2]; exact .inl rfl

theorem do_over {s : Shf} {txn ts : Int} : (doP s txn ts).1.over = s.over := by
  unfold doP
  split
  · split <;> rfl
  · split
    · rfl
    · split
      · split
        · rfl
        · split <;> rfl
      · rfl

/-- a record that the law does not pass over -/
def Skip (t : Int) (r : Rec) : Prop := (r.kind ≠ 1 ∧ r.kind ≠ 4 ∧ r.ts ≠ 0 ∧ r.ts ≤ t) ∨ (r.kind = 4 ∧ t < r.ts)

theorem still_step {s : Shf} (h : ShOk s) {r : Rec} {key : ByteArray} {t code : Int} {v : Vr} (ho : s.over ≤ t) (hs : Still code v (atV (chainK s.k key) t)) (hn : ¬ Skip t r) : (applyP s r).1.over ≤ t ∧ Still code v (atV (chainK (applyP s r).1.k key) t) := by
  have hch : ChOk (chainK s.k key) := h.kok.chain key
  unfold applyP
  by_cases hr : ¬ RecOk r
  · rw [if_pos hr]; exact ⟨ho, hs⟩
  rw [if_neg hr]
  have hr := Classical.not_not.1 hr
  have ht := hr.1.2.1
  by_cases h1 : r.kind = 1
  · rw [if_pos h1]
    unfold prepareP
    split
    · exact ⟨ho, hs⟩
    · split
      · exact ⟨ho, hs⟩
      · split
        · exact ⟨ho, hs⟩
        · split
          · exact ⟨ho, hs⟩
          · exact ⟨ho, hs⟩
  rw [if_neg h1]
  by_cases h2 : r.kind = 2
  · rw [if_pos h2]
    refine ⟨by rw [do_over]; exact ho, ?_⟩
    rcases do_chain h (txn := r.txn) ht key with e | ⟨hp, x, hx, e⟩
    · rw [e]; exact hs
    · rw [e]
      refine still_more hs hch.rise ?_
      rw [hx]
      by_cases hle : r.ts ≤ t
      · exact absurd (.inl ⟨h1, by omega, by omega, hle⟩) hn
      · omega
  rw [if_neg h2]
  by_cases h3 : r.kind = 3
  · rw [if_pos h3]
    by_cases h0 : (verP s r.key ⟨r.ts, r.text, r.dead⟩).2 = 0
    · obtain ⟨ha, he⟩ := ver_in h0
      rw [he]
      refine ⟨ho, ?_⟩
      show Still code v (atV (chainK (addK s.k r.key ⟨r.ts, r.text, r.dead⟩) key) t)
      unfold addK
      rw [chain_put]
      by_cases hk : key = r.key
      · rw [if_pos hk, (added ha).2, ← hk]
        refine still_more hs hch.rise ?_
        have h5 := ((Rc.kind_3 h3).1 hr.2).2.2.2.1
        show t < r.ts
        by_cases hle : r.ts ≤ t
        · exact absurd (.inl ⟨h1, by omega, h5, hle⟩) hn
        · omega
      · rw [if_neg hk]; exact hs
    · rw [ver_ref h0]; exact ⟨ho, hs⟩
  rw [if_neg h3]
  by_cases h4 : r.kind = 4
  · rw [if_pos h4]
    have hle : r.ts ≤ t := by
      by_cases hle : r.ts ≤ t
      · exact hle
      · exact absurd (.inr ⟨h4, by omega⟩) hn
    by_cases h0 : (sweepS s r.ts).2 = 0
    · obtain ⟨_, he⟩ := sweep_in h0
      rw [he]
      refine ⟨hle, ?_⟩
      show Still code v (atV (chainK (sweepK s.k r.ts) key) t)
      rw [chain_sweep key r.ts h.ks]
      exact still_sweep hs hch hle
    · rw [sweep_ref h0]; exact ⟨ho, hs⟩
  rw [if_neg h4]
  exact ⟨ho, hs⟩

end Sh
end Go.Proofs.YtiobhbagjokpcaaGreat

/- The landed shelf in the memory: two maps, a row, a number; what it reaches; no condition. -/
namespace Go.Proofs.YtiobhbagjokpcaaGreat
namespace Sh
open Go.RowKit Bk Ch Lt Rc Tr

noncomputable def strQ : KeyT Tryz.prog 9 ByteArray := strT Tryz.underlying9
noncomputable def intQ : KeyT Tryz.prog 3 Int := intT Tryz.underlying3

theorem strQ_ok {s : ByteArray} (h : s.size ≤ maxLen) : strQ.ok s := h
theorem intQ_ok {x : Int} (h1 : -9223372036854775808 ≤ x) (h2 : x ≤ 9223372036854775807) : intQ.ok x := WalkArith.wf_i64 ⟨h1, h2⟩

/-- what stands in the two maps -/
def kp (x : KI) : ByteArray × Value := (x.k.name, .slice x.A x.k.l.length x.c)
def pp (x : RI) : Int × Value := (x.l.txn, .agg (rcs x).toArray)

/-- the blocks that the shelf's calls write -/
def Mu (g bc bp : Nat) (v : Value) : Nat → Prop := fun k => k = g ∨ k = bc ∨ k = bp ∨ v.ownBlock = some k

/-- the landed shelf: F is all that it reads and writes -/
structure LAt (W : World) (F : Nat → Prop) (g bc bp : Nat) (v : Value) (K : List KI) (P : List RI) (s : Shf) : Prop where
  cel : Cel W g 63 [.map (some bc), .map (some bp), v, .int .i64 s.over]
  mc : MapIs strQ W bc (K.map kp)
  mp : MapIs intQ W bp (P.map pp)
  re : W.ownsRow 0 71 2 v s.e.length (s.e.flatMap ecs)
  en : s.e = [] → v = .slice none 0 0
  kv : ∀ x ∈ K, KVal W (Mu g bc bp v) x
  pv : ∀ x ∈ P, PVal W (Mu g bc bp v) x
  ek : K.map (·.k) = s.k
  ep : P.map (·.l) = s.p
  bd : bc ≠ bp
  fm : ∀ k, Mu g bc bp v k → F k
  fk : ∀ x ∈ K, 0 < x.k.l.length → ∀ ad, x.A = some ad → F ad.block
  fp : ∀ x ∈ P, (0 < x.l.keys.length → ∀ ad, x.A = some ad → F ad.block) ∧ (0 < x.l.ws.length → ∀ ad, x.B = some ad → F ad.block)
  fl : ∀ k, F k → k < W.heap.size

def LRep (W : World) (F : Nat → Prop) (g : Nat) (s : Shf) : Prop := ∃ bc bp v K P, LAt W F g bc bp v K P s

section
variable {W W' : World} {F : Nat → Prop} {g bc bp : Nat} {v : Value} {K : List KI} {P : List RI} {s : Shf}

theorem rowF_in {A : Option Addr} {cs : List Value} {M : Nat → Prop} (h : RowF W M A cs) (hF : 0 < cs.length → ∀ ad, A = some ad → F ad.block) (hs : W.heap.size ≤ W'.heap.size) (hk : ∀ k, F k → W'.heap[k]? = W.heap[k]?) : RowF W' M A cs := fun hp => by
  obtain ⟨ad, e, h1, h2, h3⟩ := h hp
  refine ⟨ad, e, Nat.lt_of_lt_of_le h1 hs, h2, fun j u hu => ?_⟩
  rw [← h3 j u hu]
  unfold World.cell?
  rw [st_block, hk _ (hF hp ad e)]

theorem kval_in {x : KI} {M : Nat → Prop} (h : KVal W M x) (hF : 0 < x.k.l.length → ∀ ad, x.A = some ad → F ad.block) (hs : W.heap.size ≤ W'.heap.size) (hk : ∀ k, F k → W'.heap[k]? = W.heap[k]?) : KVal W' M x :=
  ⟨rowF_in h.row (fun hp => hF (by rw [vrV_len] at hp; omega)) hs hk, h.nil, h.le, h.cap⟩

theorem cell_in (hk : ∀ k, F k → W'.heap[k]? = W.heap[k]?) {a : Addr} (ha : F a.block) : W'.cell? a = W.cell? a := by unfold World.cell?; rw [hk _ ha]

theorem strs_in {A : Option Addr} {l : List ByteArray} (h : StrsAt W A l) (hF : 0 < l.length → ∀ ad, A = some ad → F ad.block) (hs : W.heap.size ≤ W'.heap.size) (hk : ∀ k, F k → W'.heap[k]? = W.heap[k]?) : StrsAt W' A l := fun hp => by
  obtain ⟨ad, e, h1, h2⟩ := h hp
  have hn := hF hp ad e
  exact ⟨ad, e, Nat.lt_of_lt_of_le h1 hs, fun i hi => (cell_in hk (by rw [st_block]; exact hn)).trans (h2 i hi)⟩

theorem wrs_in {A : Option Addr} {l : List Wr} (h : WrsAt W A l) (hF : 0 < l.length → ∀ ad, A = some ad → F ad.block) (hs : W.heap.size ≤ W'.heap.size) (hk : ∀ k, F k → W'.heap[k]? = W.heap[k]?) : WrsAt W' A l := fun hp => by
  obtain ⟨ad, e, h1, h2⟩ := h hp
  have hn := hF hp ad e
  exact ⟨ad, e, Nat.lt_of_lt_of_le h1 hs, fun i hi => ⟨(cell_in hk (by rw [st_block]; exact hn)).trans (h2 i hi).1, (cell_in hk (by rw [st_block]; exact hn)).trans (h2 i hi).2.1, (cell_in hk (by rw [st_block]; exact hn)).trans (h2 i hi).2.2⟩⟩

theorem pval_in {x : RI} {M : Nat → Prop} (h : PVal W M x) (hF : (0 < x.l.keys.length → ∀ ad, x.A = some ad → F ad.block) ∧ (0 < x.l.ws.length → ∀ ad, x.B = some ad → F ad.block)) (hs : W.heap.size ≤ W'.heap.size) (hk : ∀ k, F k → W'.heap[k]? = W.heap[k]?) : PVal W' M x :=
  ⟨⟨strs_in h.val.ks hF.1 hs hk, wrs_in h.val.ws hF.2 hs hk, h.val.rng, h.val.kn, h.val.wn⟩, h.ka, h.wa⟩

theorem row_in {e : TypeId} {n : Nat} {cs : List Value} (h : W.ownsRow 0 e 2 v n cs) (hF : ∀ k, v.ownBlock = some k → W'.heap[k]? = W.heap[k]?) : W'.ownsRow 0 e 2 v n cs := by
  rcases h with ⟨hl, h0 | ⟨i, cap, cur, hv, hb, hgt, rest⟩⟩
  · exact ⟨hl, .inl h0⟩
  · exact ⟨hl, .inr ⟨i, cap, cur, hv, hb, (hF i (by rw [hv]; rfl)).trans hgt, rest⟩⟩

/-- what the shelf reaches is as it was -/
theorem LAt.kept (h : LAt W F g bc bp v K P s) (hs : W.heap.size ≤ W'.heap.size) (hk : ∀ k, F k → W'.heap[k]? = W.heap[k]?) : LAt W' F g bc bp v K P s :=
  ⟨(hk g (h.fm g (.inl rfl))).trans h.cel, h.mc.kept (hk bc (h.fm bc (.inr (.inl rfl)))), h.mp.kept (hk bp (h.fm bp (.inr (.inr (.inl rfl))))),
   row_in h.re (fun k hv => hk k (h.fm k (.inr (.inr (.inr hv))))), h.en, fun x hx => kval_in (h.kv x hx) (h.fk x hx) hs hk, fun x hx => pval_in (h.pv x hx) (h.fp x hx) hs hk,
   h.ek, h.ep, h.bd, h.fm, h.fk, h.fp, fun k hf => Nat.lt_of_lt_of_le (h.fl k hf) hs⟩

theorem LAt.below (h : LAt W F g bc bp v K P s) (hb : Below W.heap.size W W') : LAt W' F g bc bp v K P s := h.kept hb.size (fun k hf => hb.block k (h.fl k hf))

theorem LRep.kept (h : LRep W F g s) (hs : W.heap.size ≤ W'.heap.size) (hk : ∀ k, F k → W'.heap[k]? = W.heap[k]?) : LRep W' F g s := by
  obtain ⟨bc, bp, v, K, P, h⟩ := h
  exact ⟨bc, bp, v, K, P, h.kept hs hk⟩
theorem LRep.below (h : LRep W F g s) (hb : Below W.heap.size W W') : LRep W' F g s := by
  obtain ⟨bc, bp, v, K, P, h⟩ := h
  exact ⟨bc, bp, v, K, P, h.below hb⟩
theorem LRep.lt (h : LRep W F g s) : ∀ k, F k → k < W.heap.size := by
  obtain ⟨bc, bp, v, K, P, h⟩ := h
  exact h.fl
theorem LRep.self (h : LRep W F g s) : F g := by
  obtain ⟨bc, bp, v, K, P, h⟩ := h
  exact h.fm g (.inl rfl)

theorem LAt.klen (h : LAt W F g bc bp v K P s) : K.length = s.k.length := by rw [← h.ek, List.length_map]
theorem LAt.plen (h : LAt W F g bc bp v K P s) : P.length = s.p.length := by rw [← h.ep, List.length_map]

/-- one that is prepared, in the map -/
theorem LAt.prep_in (h : LAt W F g bc bp v K P s) {txn : Int} {r : Rec} (hp : prepOf s.p txn = some r) : ∃ x ∈ P, x.l = r ∧ (txn, Value.agg (rcs x).toArray) ∈ P.map pp := by
  obtain ⟨h1, h2⟩ := prep_mem hp
  rw [← h.ep] at h1
  obtain ⟨x, hx, rfl⟩ := List.mem_map.1 h1
  exact ⟨x, hx, rfl, List.mem_map.2 ⟨x, hx, by unfold pp; rw [h2]⟩⟩

theorem LAt.prep_out (h : LAt W F g bc bp v K P s) {txn : Int} (hp : prepOf s.p txn = none) : txn ∉ (P.map pp).map (·.1) := fun hc => by
  obtain ⟨q, hq, e⟩ := List.mem_map.1 hc
  obtain ⟨x, hx, rfl⟩ := List.mem_map.1 hq
  exact (prep_none.1 hp) x.l (by rw [← h.ep]; exact List.mem_map_of_mem hx) e

/-- the chain of a key, in the map -/
theorem LAt.key_in (h : LAt W F g bc bp v K P s) {key : ByteArray} {k : Kc} (hf : findK s.k key = some k) : ∃ x ∈ K, x.k = k ∧ (key, Value.slice x.A x.k.l.length x.c) ∈ K.map kp := by
  obtain ⟨h1, h2⟩ := find_mem hf
  rw [← h.ek] at h1
  obtain ⟨x, hx, rfl⟩ := List.mem_map.1 h1
  exact ⟨x, hx, rfl, List.mem_map.2 ⟨x, hx, by unfold kp; rw [h2]⟩⟩

theorem LAt.key_out (h : LAt W F g bc bp v K P s) {key : ByteArray} (hf : findK s.k key = none) : key ∉ (K.map kp).map (·.1) := fun hc => by
  obtain ⟨q, hq, e⟩ := List.mem_map.1 hc
  obtain ⟨x, hx, rfl⟩ := List.mem_map.1 hq
  unfold findK at hf
  rw [List.find?_eq_none] at hf
  have := hf x.k (by rw [← h.ek]; exact List.mem_map_of_mem hx)
  simp only [decide_eq_true_eq] at this
  exact this e

theorem Tryz.zeroRow : ∀ W : World, (zeroValue 66).run Tryz.prog W = .ok (.slice none 0 0) W := fun W => by kernel_rfl

theorem Tryz.zeroRec : ∀ W : World, (zeroValue 37).run Tryz.prog W = .ok (.agg (rcs ⟨noRec, none, none, 0, 0⟩).toArray) W := fun W => by kernel_rfl

/-- 's.chains[key]' -/
theorem LAt.chain (h : LAt W F g bc bp v K P s) {key : ByteArray} (hk : key.size ≤ maxLen) : ∃ x : KI, x.k.l = chainK s.k key ∧ KVal W (Mu g bc bp v) x ∧ (0 < x.k.l.length → ∀ ad, x.A = some ad → F ad.block) ∧
    ∀ V : World, LAt V F g bc bp v K P s → (Instr.lookup 59 (.map (some bc)) (.string key) false).run Tryz.prog V = .ok (.slice x.A x.k.l.length x.c) V := by
  cases hf : findK s.k key with
  | none =>
    refine ⟨⟨⟨key, []⟩, none, 0⟩, by unfold chainK; rw [hf], ⟨fun hp => absurd hp (by simp [vrV]), fun _ => ⟨rfl, rfl⟩, Nat.le_refl _, Nat.zero_le _⟩, fun hp => absurd hp (by simp), fun V hV => ?_⟩
    exact hV.mc.look_no Tryz.underlying59 (Tryz.zeroRow V) (x := key) (strQ_ok hk) (hV.key_out hf)
  | some k =>
    obtain ⟨x, hx, rfl, hm⟩ := h.key_in hf
    refine ⟨x, by unfold chainK; rw [hf], h.kv x hx, h.fk x hx, fun V hV => ?_⟩
    exact hV.mc.look Tryz.underlying59 (Tryz.zeroRow V) (x := key) hm

end

end Sh
end Go.Proofs.YtiobhbagjokpcaaGreat
