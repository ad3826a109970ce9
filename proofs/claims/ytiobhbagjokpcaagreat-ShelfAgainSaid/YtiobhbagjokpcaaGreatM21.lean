/- Parts of the proof, joined: ShMath3; their conditions stand with each. -/
import Derived.Test.YtiobhbagjokpcaaGreatM20

/- Shelves in plain lists: made anew of its records a shelf is the same; what was read is read again; no condition. -/
namespace Go.Proofs.YtiobhbagjokpcaaGreat
namespace Sh
open Ch Rc Lt

/-- records applied one by one: the shelf, and whether each was OK -/
noncomputable def goP : List Rec → Shf → Shf × Bool
  | [], s => (s, true)
  | r :: t, s => ((goP t (applyP s r).1).1, decide ((applyP s r).2 = 0) && (goP t (applyP s r).1).2)

theorem goP_cons (r : Rec) (t : List Rec) (s : Shf) : goP (r :: t) s = ((goP t (applyP s r).1).1, decide ((applyP s r).2 = 0) && (goP t (applyP s r).1).2) := rfl

theorem goP_app (a b : List Rec) : ∀ s, goP (a ++ b) s = ((goP b (goP a s).1).1, (goP a s).2 && (goP b (goP a s).1).2) := by
  induction a with
  | nil => intro s; simp [goP]
  | cons r t ih =>
    intro s
    rw [List.cons_append, goP_cons, ih, goP_cons]
    simp [Bool.and_assoc]

theorem goP_one {s s' : Shf} {r : Rec} (h : applyP s r = (s', 0)) : goP [r] s = (s', true) := by
  rw [goP_cons, h]
  rfl

theorem key_zero : (⟨#[]⟩ : ByteArray) = ⟨#[]⟩ := rfl

theorem sweepR_ok {t : Int} (h : stampOk t) : RecOk (sweepR t) := ⟨⟨.inl rfl, h, by simp [sweepR], by simp [sweepR]⟩, (Rc.kind_4 rfl).2 ⟨⟨⟨rfl, rfl⟩, ⟨rfl, rfl, rfl⟩, rfl⟩, rfl⟩⟩

theorem verR_ok {key : ByteArray} {v : Vr} (hk : keyOk key) (hv : vrOk v) : RecOk (verR key v) := by
  obtain ⟨h1, h2, h3, h4⟩ := hv
  refine ⟨⟨.inl rfl, ⟨by show 0 ≤ v.ts; omega, h2⟩, by simp [verR], by simp [verR]⟩, (Rc.kind_3 rfl).2 ⟨⟨rfl, rfl⟩, rfl, rfl, by show v.ts ≠ 0; omega, hk, h3, ?_⟩⟩
  show v.dead = false ∨ v.shard = ⟨#[]⟩
  by_cases hd : v.dead = true
  · exact .inr (Classical.not_not.1 fun hn => h4 ⟨hd, hn⟩)
  · exact .inl (by simpa using hd)

theorem doR_ok {x : Int × Int} (h1 : txnOk x.1) (h2 : stampOk x.2) : RecOk (doR x) := ⟨⟨.inr h1, h2, by simp [doR], by simp [doR]⟩, (Rc.kind_2 rfl).2 ⟨⟨⟨rfl, rfl⟩, ⟨rfl, rfl, rfl⟩, rfl⟩, by show x.1 ≠ 0; unfold txnOk at h1; omega⟩⟩

theorem apply_sweep {s : Shf} {t : Int} (h : stampOk t) : applyP s (sweepR t) = sweepS s t := by
  unfold applyP
  rw [if_neg (fun hn => hn (sweepR_ok h)), if_neg (by simp [sweepR]), if_neg (by simp [sweepR]), if_neg (by simp [sweepR]), if_pos (show (sweepR t).kind = 4 from rfl)]
  rfl

theorem apply_ver {s : Shf} {key : ByteArray} {v : Vr} (hk : keyOk key) (hv : vrOk v) : applyP s (verR key v) = verP s key v := by
  unfold applyP
  rw [if_neg (fun hn => hn (verR_ok hk hv)), if_neg (by simp [verR]), if_neg (by simp [verR]), if_pos (show (verR key v).kind = 3 from rfl)]
  rfl

theorem apply_do {s : Shf} {x : Int × Int} (h1 : txnOk x.1) (h2 : stampOk x.2) : applyP s (doR x) = doP s x.1 x.2 := by
  unfold applyP
  rw [if_neg (fun hn => hn (doR_ok h1 h2)), if_neg (by simp [doR]), if_pos (show (doR x).kind = 2 from rfl)]
  rfl

theorem apply_prep {s : Shf} {r : Rec} (h : RecOk r) (hk : r.kind = 1) : applyP s r = prepareP s r := by
  unfold applyP
  rw [if_neg (fun hn => hn h), if_pos hk]

/-- a key behind all others -/
theorem put_last {k : List Kc} {key : ByteArray} {l : List Vr} (h : ∀ x ∈ k, ltK x.name key = true) : putK k key l = k ++ [⟨key, l⟩] := by
  induction k with
  | nil => rfl
  | cons x r ih =>
    unfold putK
    rw [if_pos (h x (List.mem_cons_self ..)), ih (fun y hy => h y (List.mem_cons_of_mem _ hy)), List.cons_append]

theorem put_over {k : List Kc} {key : ByteArray} {l l' : List Vr} (h : ∀ x ∈ k, ltK x.name key = true) : putK (k ++ [⟨key, l'⟩]) key l = k ++ [⟨key, l⟩] := by
  induction k with
  | nil => rw [List.nil_append]; unfold putK; rw [if_neg (by rw [lt_irrefl]; simp), if_pos rfl]; rfl
  | cons x r ih =>
    rw [List.cons_append]
    unfold putK
    rw [if_pos (h x (List.mem_cons_self ..)), ih (fun y hy => h y (List.mem_cons_of_mem _ hy)), List.cons_append]

theorem find_below {k : List Kc} {key : ByteArray} (h : ∀ x ∈ k, ltK x.name key = true) : findK k key = none := by
  unfold findK
  rw [List.find?_eq_none]
  intro x hx e
  exact lt_ne (h x hx) (by simpa using e)

theorem find_end {k : List Kc} {key : ByteArray} {l : List Vr} (h : ∀ x ∈ k, ltK x.name key = true) : findK (k ++ [⟨key, l⟩]) key = some ⟨key, l⟩ := by
  have h1 := find_below h
  unfold findK at h1 ⊢
  rw [List.find?_append, h1, List.find?_cons_of_pos (by simp)]
  rfl

theorem take_ok {l : List Vr} (h : ChOk l) (i : Nat) : ChOk (l.take i) := ok_sub h (List.take_sublist i l)

/-- a key's versions, one by one -/
theorem go_vers {s : Shf} {key : ByteArray} {l : List Vr} (hk : keyOk key) (hl : ChOk l) (hb : ∀ x ∈ s.k, ltK x.name key = true) (hn : s.k.length < 1024) : ∀ i, 1 ≤ i → i ≤ l.length → goP ((l.take i).map (verR key)) s = (⟨s.k ++ [⟨key, l.take i⟩], s.p, s.e, s.over⟩, true) := by
  intro i h1
  induction i with
  | zero => omega
  | succ i ih =>
    intro h2
    have hi : i < l.length := by omega
    have ht : l.take (i + 1) = l.take i ++ [l[i]] := List.take_succ_eq_append_getElem hi
    have hok : ChOk (l.take i ++ [l[i]]) := by rw [← ht]; exact take_ok hl _
    have hv : vrOk l[i] := hl.each _ (List.getElem_mem hi)
    have hlen : (l.take i).length = i := by rw [List.length_take]; omega
    have hll := hl.len
    have hadd : addP (l.take i) l[i] = (l.take i ++ [l[i]], 0) := by
      refine (added (add_may (take_ok hl i) hv ?_ (by omega))).2
      rcases Nat.eq_zero_or_pos i with rfl | hp
      · have := hv.1
        show (0 : Int) < _
        omega
      · have hr := (List.pairwise_append.1 hok.rise).2.2
        have hne : l.take i ≠ [] := fun e => by rw [e] at hlen; simp at hlen; omega
        have e : lastT (l.take i) = ((l.take i).getLast hne).ts := by unfold lastT; rw [List.getLast?_eq_some_getLast hne]
        rw [e]
        exact hr _ (List.getLast_mem hne) _ (List.mem_singleton.2 rfl)
    rw [ht, List.map_append]
    rcases Nat.eq_zero_or_pos i with rfl | hp
    · rw [List.take_zero, List.map_nil, List.nil_append, List.nil_append, List.map_cons, List.map_nil]
      refine goP_one ?_
      rw [apply_ver hk hv]
      have hf := find_below hb
      rw [List.take_zero, List.nil_append] at hadd
      unfold verP
      rw [show chainK s.k key = [] by unfold chainK; rw [hf], hadd, if_neg (by simp), if_neg (by omega)]
      unfold addK
      rw [show chainK s.k key = [] by unfold chainK; rw [hf], hadd, put_last hb]
    · rw [goP_app, ih hp (by omega), List.map_cons, List.map_nil]
      have h3 : applyP ⟨s.k ++ [⟨key, l.take i⟩], s.p, s.e, s.over⟩ (verR key l[i]) = (⟨s.k ++ [⟨key, l.take i ++ [l[i]]⟩], s.p, s.e, s.over⟩, 0) := by
        rw [apply_ver hk hv]
        have hf := find_end (l := l.take i) hb
        have hc : chainK (s.k ++ [⟨key, l.take i⟩]) key = l.take i := by unfold chainK; rw [hf]
        unfold verP
        simp only
        rw [hc, hadd, if_neg (by simp), if_neg (by unfold hasK; rw [hf]; simp)]
        unfold addK
        rw [hc, hadd, put_over hb]
      rw [goP_one h3]
      rfl

theorem go_keys : ∀ (k a : List Kc) (over : Int), KOk (a ++ k) → (a ++ k).length ≤ 1024 → goP (k.flatMap fun x => x.l.map (verR x.name)) ⟨a, [], [], over⟩ = (⟨a ++ k, [], [], over⟩, true)
  | [], a, over, _, _ => by rw [List.flatMap_nil, List.append_nil]; rfl
  | x :: r, a, over, h, hn => by
    have hs := List.pairwise_append.1 h.ks
    have hx : x ∈ a ++ x :: r := List.mem_append_right _ (List.mem_cons_self ..)
    have hz := h.kz x hx
    have hp : 1 ≤ x.l.length := Nat.pos_of_ne_zero fun e => hz (List.eq_nil_of_length_eq_zero e)
    have hlen : a.length < 1024 := by rw [List.length_append, List.length_cons] at hn; omega
    have h1 := go_vers (s := ⟨a, [], [], over⟩) (h.kn x hx) (h.kc x hx) (fun y hy => hs.2.2 y hy x (List.mem_cons_self ..)) hlen x.l.length hp (Nat.le_refl _)
    rw [List.take_length] at h1
    rw [List.flatMap_cons, goP_app, h1]
    have e : a ++ x :: r = (a ++ [x]) ++ r := by simp
    have h2 := go_keys r (a ++ [x]) over (by rw [← e]; exact h) (by rw [← e]; exact hn)
    show ((goP _ ⟨a ++ [⟨x.name, x.l⟩], [], [], over⟩).1, _) = _
    rw [show (⟨x.name, x.l⟩ : Kc) = x from rfl, h2, e]
    rfl

theorem go_ends : ∀ (e a : List (Int × Int)) (k : List Kc) (over : Int), (a ++ e).length ≤ 1024 → (a ++ e).Pairwise (fun x y => x.1 ≠ y.1) → (∀ x ∈ e, txnOk x.1 ∧ stampOk x.2) → goP (e.map doR) ⟨k, [], a, over⟩ = (⟨k, [], a ++ e, over⟩, true)
  | [], a, k, over, _, _, _ => by rw [List.map_nil, List.append_nil]; rfl
  | x :: r, a, k, over, hl, hp, ho => by
    obtain ⟨o1, o2⟩ := ho x (List.mem_cons_self ..)
    have hn : endOf a x.1 = none := end_none.2 fun y hy => (List.pairwise_append.1 hp).2.2 y hy x (List.mem_cons_self ..)
    have e : a ++ x :: r = (a ++ [x]) ++ r := by simp
    have h1 : applyP ⟨k, [], a, over⟩ (doR x) = (⟨k, [], a ++ [x], over⟩, 0) := by
      rw [apply_do o1 o2]
      have hst : stateP ⟨k, [], a, over⟩ x.1 = (0, 0) := by
        unfold stateP
        rw [show prepOf (⟨k, [], a, over⟩ : Shf).p x.1 = none from rfl]
        show (match endOf a x.1 with | none => ((0 : Int), (0 : Int)) | some x => if 0 < x.2 then (2, x.2) else (3, 0)) = _
        rw [hn]
      unfold doP
      rw [hst, if_neg (by decide)]
      show (endP ⟨k, [], a, over⟩ x.1 x.2, (0 : Int)) = _
      unfold endP capE outP
      rw [if_neg (by simp only [List.length_append, List.length_cons, List.length_nil] at hl ⊢; omega)]
      rfl
    rw [List.map_cons]
    have h2 := goP_app [doR x] (r.map doR) ⟨k, [], a, over⟩
    rw [goP_one h1, go_ends r (a ++ [x]) k over (by rw [← e]; exact hl) (by rw [← e]; exact hp) (fun y hy => ho y (List.mem_cons_of_mem _ hy))] at h2
    rw [e]
    exact h2

theorem go_preps : ∀ (p a : List Rec) (k : List Kc) (e : List (Int × Int)) (over : Int), (a ++ p).length ≤ 1024 → (a ++ p).Pairwise (fun x y => x.txn < y.txn) → (∀ r ∈ p, RecOk r ∧ r.kind = 1) → (∀ r ∈ a ++ p, ∀ q ∈ a ++ p, r.txn ≠ q.txn → ∀ x ∈ r.ws, heldR q x.key true = false) → (∀ x ∈ e, ∀ r ∈ p, r.txn ≠ x.1) →
    goP p ⟨k, a, e, over⟩ = (⟨k, a ++ p, e, over⟩, true)
  | [], a, k, e, over, _, _, _, _, _ => by rw [List.append_nil]; rfl
  | r :: t, a, k, e, over, hl, hp, ho, ha, he => by
    obtain ⟨o1, o2⟩ := ho r (List.mem_cons_self ..)
    have hlt : ∀ q ∈ a, q.txn < r.txn := fun q hq => (List.pairwise_append.1 hp).2.2 q hq r (List.mem_cons_self ..)
    have hr : r ∈ a ++ r :: t := List.mem_append_right _ (List.mem_cons_self ..)
    have ee : a ++ r :: t = (a ++ [r]) ++ t := by simp
    have h1 : applyP ⟨k, a, e, over⟩ r = (⟨k, a ++ [r], e, over⟩, 0) := by
      rw [apply_prep o1 o2]
      have hst : (stateP ⟨k, a, e, over⟩ r.txn).1 = 0 := state_zero.2 ⟨prep_none.2 fun q hq => by have := hlt q hq; omega, end_none.2 fun x hx => fun h => he x hx r (List.mem_cons_self ..) h.symm⟩
      have hk1 : r.keys.any (fun y => heldB ⟨k, a, e, over⟩ y false) = false := by
        rw [List.any_eq_false]
        intro y hy h
        obtain ⟨q, hq, hh⟩ := List.any_eq_true.1 h
        unfold heldR at hh
        simp only [Bool.false_and, Bool.or_false, List.any_eq_true, decide_eq_true_eq] at hh
        obtain ⟨x, hx, rfl⟩ := hh
        have h5 := ha q (List.mem_append_left _ hq) r hr (by have := hlt q hq; omega) x hx
        unfold heldR at h5
        rw [Bool.or_eq_false_iff, Bool.true_and, List.any_eq_false, List.any_eq_false] at h5
        exact h5.2 _ hy (by simp)
      have hk2 : r.ws.any (fun x => heldB ⟨k, a, e, over⟩ x.key true) = false := by
        rw [List.any_eq_false]
        intro x hx h
        obtain ⟨q, hq, hh⟩ := List.any_eq_true.1 h
        have h5 := ha r hr q (List.mem_append_left _ hq) (by have := hlt q hq; omega) x hx
        rw [h5] at hh; cases hh
      unfold prepareP
      rw [if_neg (by rw [hst]; simp), if_neg (by rw [hk1]; simp), if_neg (by rw [hk2]; simp), if_neg (by rw [List.length_append, List.length_cons] at hl; show ¬ 1024 ≤ a.length; omega)]
      show ((⟨k, insP a r, e, over⟩ : Shf), (0 : Int)) = _
      rw [ins_last hlt]
    have h2 := goP_app [r] t ⟨k, a, e, over⟩
    rw [goP_one h1, go_preps t (a ++ [r]) k e over (by rw [← ee]; exact hl) (by rw [← ee]; exact hp) (fun q hq => ho q (List.mem_cons_of_mem _ hq)) (by rw [← ee]; exact ha) (fun x hx q hq => he x hx q (List.mem_cons_of_mem _ hq))] at h2
    rw [ee]
    exact h2

/-- made anew it is the same -/
theorem go_again {s : Shf} (h : ShOk s) : goP (recordsP s) empty = (s, true) := by
  have h0 : goP (if 0 < s.over then [sweepR s.over] else []) empty = (⟨[], [], [], s.over⟩, true) := by
    by_cases hp : 0 < s.over
    · rw [if_pos hp]
      refine goP_one ?_
      rw [apply_sweep h.ov]
      unfold sweepS
      rw [if_neg (by show ¬ s.over < 0; omega)]
      rfl
    · rw [if_neg hp]
      have : s.over = 0 := by have := h.ov; unfold stampOk at this; omega
      rw [this]; rfl
  unfold recordsP
  rw [goP_app, goP_app, goP_app, h0]
  simp only
  rw [go_keys s.k [] s.over h.kok h.kl]
  simp only
  rw [List.nil_append, go_ends s.e [] s.k s.over h.el h.ed h.eo]
  simp only
  rw [List.nil_append, go_preps s.p [] s.k s.e s.over h.pl h.pr h.po h.pa h.ep]
  rfl

end Sh
end Go.Proofs.YtiobhbagjokpcaaGreat
