/- Parts of the proof, joined: ShMath2; their conditions stand with each. -/
import Derived.Test.YtiobhbagjokpcaaGreatM12

/- Shelves in plain lists: what an applied record keeps; no condition. -/
namespace Go.Proofs.YtiobhbagjokpcaaGreat
namespace Sh
open Ch Rc Lt

/-! ### prepared ones -/

theorem prep_mem {p : List Rec} {txn : Int} {r : Rec} (h : prepOf p txn = some r) : r ∈ p ∧ r.txn = txn := ⟨List.mem_of_find?_eq_some h, by simpa using List.find?_some h⟩

theorem prep_none {p : List Rec} {txn : Int} : prepOf p txn = none ↔ ∀ r ∈ p, r.txn ≠ txn := by
  unfold prepOf
  rw [List.find?_eq_none]
  constructor
  · intro h r hr e; exact h r hr (by simp [e])
  · intro h r hr e; exact h r hr (by simpa using e)

theorem end_none {e : List (Int × Int)} {txn : Int} : endOf e txn = none ↔ ∀ x ∈ e, x.1 ≠ txn := by
  unfold endOf
  rw [List.find?_eq_none]
  constructor
  · intro h r hr e; exact h r hr (by simp [e])
  · intro h r hr e; exact h r hr (by simpa using e)

theorem state_zero {s : Shf} {txn : Int} : (stateP s txn).1 = 0 ↔ prepOf s.p txn = none ∧ endOf s.e txn = none := by
  unfold stateP
  cases prepOf s.p txn with
  | some r => simp
  | none =>
    cases endOf s.e txn with
    | none => simp
    | some x =>
      by_cases h : 0 < x.2
      · simp [h]
      · simp [h]

theorem state_le {s : Shf} {txn : Int} (h : ¬ 1 < (stateP s txn).1) : endOf s.e txn = none ∨ ∃ r, prepOf s.p txn = some r := by
  unfold stateP at h
  cases hp : prepOf s.p txn with
  | some r => exact .inr ⟨r, rfl⟩
  | none =>
    rw [hp] at h
    cases he : endOf s.e txn with
    | none => exact .inl rfl
    | some x =>
      rw [he] at h
      simp only at h
      by_cases h0 : 0 < x.2
      · rw [if_pos h0] at h; simp at h
      · rw [if_neg h0] at h; simp at h

theorem mem_ins {p : List Rec} {r q : Rec} : q ∈ insP p r ↔ q = r ∨ q ∈ p := by
  unfold insP
  rw [List.mem_append, List.mem_cons]
  constructor
  · rintro (h | h | h)
    · exact .inr ((List.takeWhile_prefix _).subset h)
    · exact .inl h
    · exact .inr ((List.dropWhile_suffix _).subset h)
  · rintro (h | h)
    · exact .inr (.inl h)
    · have := List.takeWhile_append_dropWhile (p := fun q : Rec => decide (q.txn < r.txn)) (l := p)
      rw [← this] at h
      rcases List.mem_append.1 h with h | h
      · exact .inl h
      · exact .inr (.inr h)

theorem ins_len (p : List Rec) (r : Rec) : (insP p r).length = p.length + 1 := by
  unfold insP
  have := congrArg List.length (List.takeWhile_append_dropWhile (p := fun q : Rec => decide (q.txn < r.txn)) (l := p))
  rw [List.length_append] at this
  rw [List.length_append, List.length_cons]
  omega

theorem ins_rise : ∀ {p : List Rec} {r : Rec}, p.Pairwise (fun x y => x.txn < y.txn) → (∀ q ∈ p, q.txn ≠ r.txn) → (insP p r).Pairwise (fun x y => x.txn < y.txn)
  | [], r, _, _ => by unfold insP; simp
  | x :: t, r, h, hn => by
    obtain ⟨h1, h2⟩ := List.pairwise_cons.1 h
    have ih := ins_rise (r := r) h2 (fun q hq => hn q (List.mem_cons_of_mem _ hq))
    have hx := hn x (List.mem_cons_self ..)
    unfold insP at ih ⊢
    by_cases hl : x.txn < r.txn
    · rw [List.takeWhile_cons_of_pos (by simpa using hl), List.dropWhile_cons_of_pos (by simpa using hl), List.cons_append]
      refine List.pairwise_cons.2 ⟨fun y hy => ?_, ih⟩
      have : y = r ∨ y ∈ t := (mem_ins (p := t) (r := r)).1 hy
      rcases this with rfl | hy
      · exact hl
      · exact h1 y hy
    · rw [List.takeWhile_cons_of_neg (by simpa using hl), List.dropWhile_cons_of_neg (by simpa using hl), List.nil_append]
      refine List.pairwise_cons.2 ⟨fun y hy => ?_, h⟩
      rcases List.mem_cons.1 hy with rfl | hy
      · omega
      · have := h1 y hy; omega

theorem ins_last {p : List Rec} {r : Rec} (h : ∀ q ∈ p, q.txn < r.txn) : insP p r = p ++ [r] := by
  have h1 : p.takeWhile (fun q => decide (q.txn < r.txn)) = p := by
    induction p with
    | nil => rfl
    | cons x t ih => rw [List.takeWhile_cons_of_pos (by simpa using h x (List.mem_cons_self ..)), ih (fun q hq => h q (List.mem_cons_of_mem _ hq))]
  have h2 := List.takeWhile_append_dropWhile (p := fun q : Rec => decide (q.txn < r.txn)) (l := p)
  rw [h1] at h2
  have h3 : p.dropWhile (fun q => decide (q.txn < r.txn)) = [] := by
    have h4 := congrArg List.length h2
    rw [List.length_append] at h4
    exact List.eq_nil_of_length_eq_zero (by omega)
  unfold insP
  rw [h1, h3]

theorem out_sub (p : List Rec) (txn : Int) : (outP p txn).Sublist p := List.eraseP_sublist

theorem out_not {p : List Rec} {txn : Int} (h : p.Pairwise (fun x y => x.txn < y.txn)) : ∀ r ∈ outP p txn, r.txn ≠ txn := by
  induction p with
  | nil => intro r hr; cases hr
  | cons x t ih =>
    obtain ⟨h1, h2⟩ := List.pairwise_cons.1 h
    intro r hr
    unfold outP at hr ih
    by_cases hx : x.txn = txn
    · rw [List.eraseP_cons_of_pos (by simpa using hx)] at hr
      have := h1 r hr; omega
    · rw [List.eraseP_cons_of_neg (by simpa using hx)] at hr
      rcases List.mem_cons.1 hr with rfl | hr
      · exact hx
      · exact ih h2 r hr

theorem out_same {p : List Rec} {txn : Int} (h : ∀ r ∈ p, r.txn ≠ txn) : outP p txn = p := by
  unfold outP
  rw [List.eraseP_of_forall_not (fun r hr => by simpa using h r hr)]

/-! ### ended ones -/

theorem cap_sub (e : List (Int × Int)) : (capE e).Sublist e := by
  unfold capE
  by_cases h : 1024 < e.length
  · rw [if_pos h]; exact List.drop_sublist _ _
  · rw [if_neg h]; exact List.Sublist.refl _

theorem cap_len {e : List (Int × Int)} (h : e.length ≤ 1025) : (capE e).length ≤ 1024 := by
  unfold capE
  by_cases h2 : 1024 < e.length
  · rw [if_pos h2, List.length_drop]; omega
  · rw [if_neg h2]; omega

theorem end_ok {s : Shf} (h : ShOk s) {txn ts : Int} (ht : txnOk txn) (hs : stampOk ts) (hn : endOf s.e txn = none) : ShOk (endP s txn ts) := by
  have hn' := end_none.1 hn
  have hos := out_sub s.p txn
  have hcs := cap_sub (s.e ++ [(txn, ts)])
  have hmem : ∀ x ∈ capE (s.e ++ [(txn, ts)]), x ∈ s.e ∨ x = (txn, ts) := fun x hx => by
    rcases List.mem_append.1 (hcs.subset hx) with h | h
    · exact .inl h
    · exact .inr (List.mem_singleton.1 h)
  refine ⟨h.ks, h.kn, h.kc, h.kz, h.kl, h.pr.sublist hos, fun r hr => h.po r (hos.subset hr), Nat.le_trans hos.length_le h.pl, fun r hr q hq => h.pa r (hos.subset hr) q (hos.subset hq), cap_len (by rw [List.length_append]; have := h.el; simp; omega), ?_, fun x hx => ?_, fun x hx r hr => ?_, h.ov⟩
  · refine List.Pairwise.sublist hcs (List.pairwise_append.2 ⟨h.ed, by simp, fun x hx y hy => ?_⟩)
    obtain rfl := List.mem_singleton.1 hy
    exact hn' x hx
  · rcases hmem x hx with h2 | rfl
    · exact h.eo x h2
    · exact ⟨ht, hs⟩
  · rcases hmem x hx with h2 | rfl
    · exact h.ep x h2 r (hos.subset hr)
    · exact out_not h.pr r hr

/-- a transaction that is prepared is not ended -/
theorem prep_end {s : Shf} (h : ShOk s) {txn : Int} {r : Rec} (hp : prepOf s.p txn = some r) : endOf s.e txn = none := by
  obtain ⟨h1, h2⟩ := prep_mem hp
  exact end_none.2 fun x hx e => h.ep x hx r h1 (by rw [h2, e])

/-! ### versions -/

/-- a list of keys as a shelf has it -/
structure KOk (k : List Kc) : Prop where
  ks : Sorted k
  kn : ∀ x ∈ k, keyOk x.name
  kc : ∀ x ∈ k, ChOk x.l
  kz : ∀ x ∈ k, x.l ≠ []

theorem ShOk.kok {s : Shf} (h : ShOk s) : KOk s.k := ⟨h.ks, h.kn, h.kc, h.kz⟩

theorem KOk.chain {k : List Kc} (h : KOk k) (key : ByteArray) : ChOk (chainK k key) := by
  unfold chainK
  cases hf : findK k key with
  | none => exact ⟨by simp, by simp, List.Pairwise.nil⟩
  | some x => exact h.kc x (find_mem hf).1

theorem KOk.add {k : List Kc} (h : KOk k) {key : ByteArray} (hk : keyOk key) {v : Vr} (hv : (addP (chainK k key) v).2 = 0) : KOk (addK k key v) := by
  obtain ⟨h1, h2⟩ := added hv
  unfold addK
  rw [h2]
  refine ⟨put_sorted _ _ h.ks, fun x hx => ?_, fun x hx => ?_, fun x hx => ?_⟩
  all_goals rcases mem_put _ _ _ _ hx with rfl | hx
  · exact hk
  · exact h.kn x hx
  · exact h1.more
  · exact h.kc x hx
  · simp
  · exact h.kz x hx

theorem KOk.sweep {k : List Kc} (h : KOk k) (t : Int) : KOk (sweepK k t) := by
  refine ⟨sweep_sorted t h.ks, fun x hx => ?_, fun x hx => ?_, fun x hx => ?_⟩
  all_goals obtain ⟨y, hy, rfl, he⟩ := mem_sweep hx
  · exact h.kn y hy
  · exact ok_sub (h.kc y hy) (sweep_sub t)
  · exact he

/-- writes that may be done: each version may be added -/
theorem add_may {l : List Vr} (h : ChOk l) {v : Vr} (hv : vrOk v) (hl : lastT l < v.ts) (hn : l.length < 1024) : (addP l v).2 = 0 := by
  unfold addP
  have h2 : (chkP [v]).2 = 0 := chk_ok.2 ⟨by simp, fun x hx => by rw [List.mem_singleton.1 hx]; exact hv, by simp⟩
  rw [if_neg (by rw [chk_zero h]; simp), if_neg (by rw [h2]; simp), if_neg (by omega), if_neg (by omega)]

theorem rises_ne {l : List ByteArray} (h : Rises l) : l.Pairwise (fun x y => ltK x y = true) := by
  rw [List.pairwise_iff_getElem]
  have step : ∀ i (h1 : i + 1 < l.length), ltK (l[i]'(by omega)) l[i + 1] = true := fun i h1 => by
    have := (h (i + 1) h1).2 (by omega)
    unfold leT at this
    rw [Bool.or_eq_false_iff] at this
    simp only [Nat.add_sub_cancel] at this
    rcases lt_total (l[i]'(by omega)) l[i + 1] with h2 | h2 | h2
    · exact h2
    · rw [h2] at this; simp at this
    · unfold ltK at h2; rw [this.1] at h2; cases h2
  intro i j hi hj hij
  induction j with
  | zero => omega
  | succ j ih =>
    by_cases e : i = j
    · subst e; exact step i hj
    · exact lt_trans (ih (by omega) (by omega)) (step j hj)

/-- the writes of a record, one by one -/
theorem addW_ok {ts : Int} (hts : 1 ≤ ts ∧ ts ≤ 1125899906842624) : ∀ (ws : List Wr) (k : List Kc), KOk k → (∀ x ∈ ws, keyOk x.key ∧ wrOk x) → ws.Pairwise (fun x y => x.key ≠ y.key) → (∀ x ∈ ws, lastT (chainK k x.key) < ts) → (∀ x ∈ ws, (chainK k x.key).length < 1024) →
    KOk (addW ts ws k) ∧ (∀ key, (∀ x ∈ ws, x.key ≠ key) → chainK (addW ts ws k) key = chainK k key) ∧ (∀ x ∈ ws, chainK (addW ts ws k) x.key = chainK k x.key ++ [⟨ts, x.shard, x.dead⟩])
  | [], k, h, _, _, _, _ => ⟨h, fun _ _ => rfl, fun x hx => by cases hx⟩
  | x :: r, k, h, hw, hp, hl, hn => by
    obtain ⟨hp1, hp2⟩ := List.pairwise_cons.1 hp
    have hx := hw x (List.mem_cons_self ..)
    have hv : vrOk ⟨ts, x.shard, x.dead⟩ := by
      have := hx.2
      unfold wrOk at this
      exact ⟨hts.1, hts.2, this.1, this.2⟩
    have h0 := add_may (h.chain x.key) hv (hl x (List.mem_cons_self ..)) (hn x (List.mem_cons_self ..))
    have hk' : KOk (addK k x.key ⟨ts, x.shard, x.dead⟩) := h.add hx.1 h0
    have hch : ∀ key, chainK (addK k x.key ⟨ts, x.shard, x.dead⟩) key = if key = x.key then chainK k x.key ++ [⟨ts, x.shard, x.dead⟩] else chainK k key := fun key => by
      unfold addK
      rw [chain_put, (added h0).2]
    have hne : ∀ y ∈ r, y.key ≠ x.key := fun y hy e => hp1 y hy e.symm
    obtain ⟨i1, i2, i3⟩ := addW_ok hts r _ hk' (fun y hy => hw y (List.mem_cons_of_mem _ hy)) hp2 (fun y hy => by rw [hch, if_neg (hne y hy)]; exact hl y (List.mem_cons_of_mem _ hy)) (fun y hy => by rw [hch, if_neg (hne y hy)]; exact hn y (List.mem_cons_of_mem _ hy))
    refine ⟨i1, fun key hkey => ?_, fun y hy => ?_⟩
    · show chainK (addW ts r _) key = _
      rw [i2 key (fun y hy => hkey y (List.mem_cons_of_mem _ hy)), hch, if_neg (fun e => hkey x (List.mem_cons_self ..) e.symm)]
    · rcases List.mem_cons.1 hy with rfl | hy
      · show chainK (addW ts r _) y.key = _
        rw [i2 y.key (fun z hz => hne z hz), hch, if_pos rfl]
      · show chainK (addW ts r _) y.key = _
        rw [i3 y hy, hch, if_neg (hne y hy)]

theorem add_len {k : List Kc} (h : KOk k) (key : ByteArray) (v : Vr) : (addK k key v).length = if hasK k key then k.length else k.length + 1 := put_len key _ h.ks

theorem has_put (k : List Kc) (key : ByteArray) (l : List Vr) (key' : ByteArray) : hasK (putK k key l) key' = (decide (key' = key) || hasK k key') := by
  unfold hasK
  rw [find_put]
  by_cases h : key' = key
  · simp [h]
  · simp [h]

theorem longW_far {k k' : List Kc} : ∀ {ws : List Wr} {n : Nat}, (∀ y ∈ ws, chainK k' y.key = chainK k y.key ∧ hasK k' y.key = hasK k y.key) → longW k' ws n = longW k ws n
  | [], _, _ => rfl
  | x :: r, n, h => by
    unfold longW
    rw [(h x (List.mem_cons_self ..)).1, (h x (List.mem_cons_self ..)).2, longW_far (fun y hy => h y (List.mem_cons_of_mem _ hy))]

theorem longW_chain {k : List Kc} : ∀ {ws : List Wr} {n : Nat}, longW k ws n = false → ∀ x ∈ ws, (chainK k x.key).length < 1024
  | [], _, _, x, hx => by cases hx
  | x :: r, n, h, y, hy => by
    unfold longW at h
    rw [Bool.or_eq_false_iff, Bool.or_eq_false_iff] at h
    rcases List.mem_cons.1 hy with rfl | hy
    · have := h.1.1; simp at this; omega
    · exact longW_chain h.2 y hy

theorem addW_len {ts : Int} (hts : 1 ≤ ts ∧ ts ≤ 1125899906842624) : ∀ (ws : List Wr) (k : List Kc), KOk k → (∀ x ∈ ws, keyOk x.key ∧ wrOk x) → ws.Pairwise (fun x y => x.key ≠ y.key) → (∀ x ∈ ws, lastT (chainK k x.key) < ts) → k.length ≤ 1024 → longW k ws k.length = false → (addW ts ws k).length ≤ 1024
  | [], k, _, _, _, _, hl, _ => hl
  | x :: r, k, h, hw, hp, hl, hk, hlong => by
    obtain ⟨hp1, hp2⟩ := List.pairwise_cons.1 hp
    have hx := hw x (List.mem_cons_self ..)
    have hlen := longW_chain hlong x (List.mem_cons_self ..)
    have hv : vrOk ⟨ts, x.shard, x.dead⟩ := by
      have := hx.2
      unfold wrOk at this
      exact ⟨hts.1, hts.2, this.1, this.2⟩
    have h0 := add_may (h.chain x.key) hv (hl x (List.mem_cons_self ..)) hlen
    have hk' : KOk (addK k x.key ⟨ts, x.shard, x.dead⟩) := h.add hx.1 h0
    have hne : ∀ y ∈ r, y.key ≠ x.key := fun y hy e => hp1 y hy e.symm
    have hch : ∀ y ∈ r, chainK (addK k x.key ⟨ts, x.shard, x.dead⟩) y.key = chainK k y.key ∧ hasK (addK k x.key ⟨ts, x.shard, x.dead⟩) y.key = hasK k y.key := fun y hy => by
      unfold addK
      rw [chain_put, if_neg (hne y hy), has_put]
      exact ⟨rfl, by simp [hne y hy]⟩
    unfold longW at hlong
    rw [Bool.or_eq_false_iff, Bool.or_eq_false_iff] at hlong
    have hal := add_len h x.key ⟨ts, x.shard, x.dead⟩
    refine addW_len hts r _ hk' (fun y hy => hw y (List.mem_cons_of_mem _ hy)) hp2 (fun y hy => by rw [(hch y hy).1]; exact hl y (List.mem_cons_of_mem _ hy)) ?_ ?_
    · rw [hal]
      have := hlong.1.2
      simp at this
      omega
    · rw [hal, longW_far hch]
      exact hlong.2

/-- a prepared record's writes -/
theorem prep_writes {r : Rec} (h : RecOk r) (hk : r.kind = 1) : (∀ x ∈ r.ws, keyOk x.key ∧ wrOk x) ∧ r.ws.Pairwise (fun x y => x.key ≠ y.key) := by
  have h2 := ((kind_1 hk).1 h.2).2.2.2.2
  obtain ⟨_, h3, h4⟩ := h2
  have h5 := rises_ne h4
  refine ⟨fun x hx => ⟨(h.bounds.2.2.2.2.2.1 x hx).1, h3 x hx⟩, ?_⟩
  exact (List.pairwise_map.1 h5).imp (fun h => lt_ne h)

theorem do_ok {s : Shf} (h : ShOk s) {txn ts : Int} (ht : txnOk txn) (hs : stampOk ts) : ShOk (doP s txn ts).1 := by
  unfold doP
  by_cases h1 : 1 < (stateP s txn).1
  · rw [if_pos h1]; split <;> exact h
  rw [if_neg h1]
  cases hp : prepOf s.p txn with
  | none =>
    have hn : endOf s.e txn = none := by
      rcases state_le h1 with h2 | ⟨r, h2⟩
      · exact h2
      · rw [hp] at h2; cases h2
    exact end_ok h ht hs hn
  | some r =>
    have hn := prep_end h hp
    simp only
    by_cases h2 : 0 < ts
    · rw [if_pos h2]
      by_cases h3 : r.ws.any (fun x => decide (ts ≤ lastT (chainK s.k x.key))) = true
      · rw [if_pos h3]; exact h
      rw [if_neg h3]
      by_cases h4 : longW s.k r.ws s.k.length = true
      · rw [if_pos h4]; exact h
      rw [if_neg h4]
      have h3' : ∀ x ∈ r.ws, lastT (chainK s.k x.key) < ts := fun x hx => by
        simp only [List.any_eq_true, not_exists, not_and] at h3
        have := h3 x hx
        simp at this
        omega
      have h4' : longW s.k r.ws s.k.length = false := by simpa using h4
      have hpo := h.po r (prep_mem hp).1
      obtain ⟨w1, w2⟩ := prep_writes hpo.1 hpo.2
      unfold stampOk at hs
      have hts : 1 ≤ ts ∧ ts ≤ 1125899906842624 := by omega
      obtain ⟨k1, _, _⟩ := addW_ok hts r.ws s.k h.kok w1 w2 h3' (longW_chain h4')
      have k2 := addW_len hts r.ws s.k h.kok w1 w2 h3' h.kl h4'
      have h5 : ShOk ⟨addW ts r.ws s.k, s.p, s.e, s.over⟩ := ⟨k1.ks, k1.kn, k1.kc, k1.kz, k2, h.pr, h.po, h.pl, h.pa, h.el, h.ed, h.eo, h.ep, h.ov⟩
      exact end_ok h5 ht (by unfold stampOk; omega) hn
    · rw [if_neg h2]
      exact end_ok h ht hs hn

theorem prepare_ok {s : Shf} (h : ShOk s) {r : Rec} (hr : RecOk r) (hk : r.kind = 1) : ShOk (prepareP s r).1 := by
  unfold prepareP
  by_cases h1 : (stateP s r.txn).1 ≠ 0
  · rw [if_pos h1]; exact h
  rw [if_neg h1]
  by_cases h2 : r.keys.any (fun y => heldB s y false) = true
  · rw [if_pos h2]; exact h
  rw [if_neg h2]
  by_cases h3 : r.ws.any (fun x => heldB s x.key true) = true
  · rw [if_pos h3]; exact h
  rw [if_neg h3]
  by_cases h4 : 1024 ≤ s.p.length
  · rw [if_pos h4]; exact h
  rw [if_neg h4]
  obtain ⟨hp, he⟩ := state_zero.1 (Decidable.not_not.1 h1)
  have hp' := prep_none.1 hp
  have he' := end_none.1 he
  -- whoever writes is alone
  have hA : ∀ q ∈ s.p, ∀ x ∈ r.ws, heldR q x.key true = false := fun q hq x hx => by
    cases hh : heldR q x.key true with
    | false => rfl
    | true => exact absurd (List.any_eq_true.2 ⟨x, hx, List.any_eq_true.2 ⟨q, hq, hh⟩⟩) h3
  have hB : ∀ q ∈ s.p, ∀ x ∈ q.ws, heldR r x.key true = false := fun q hq x hx => by
    cases hh : heldR r x.key true with
    | false => rfl
    | true =>
      exfalso
      unfold heldR at hh
      simp only [Bool.or_eq_true, Bool.true_and, List.any_eq_true, decide_eq_true_eq] at hh
      rcases hh with ⟨y, hy, e⟩ | ⟨y, hy, e⟩
      · have := hA q hq y hy
        unfold heldR at this
        rw [Bool.or_eq_false_iff] at this
        have h5 := this.1
        rw [List.any_eq_false] at h5
        exact h5 x hx (by simp [e])
      · refine h2 (List.any_eq_true.2 ⟨y, hy, List.any_eq_true.2 ⟨q, hq, ?_⟩⟩)
        unfold heldR
        rw [Bool.or_eq_true]
        exact .inl (List.any_eq_true.2 ⟨x, hx, by simp [e]⟩)
  refine ⟨h.ks, h.kn, h.kc, h.kz, h.kl, ins_rise h.pr hp', fun q hq => ?_, by show (insP s.p r).length ≤ 1024; rw [ins_len]; omega, fun a ha b hb hab => ?_, h.el, h.ed, h.eo, fun x hx q hq => ?_, h.ov⟩
  · rcases mem_ins.1 hq with rfl | hq
    · exact ⟨hr, hk⟩
    · exact h.po q hq
  · rcases mem_ins.1 ha with ha1 | ha1
    · rcases mem_ins.1 hb with hb1 | hb1
      · exact absurd (by rw [ha1, hb1]) hab
      · rw [ha1]; exact hA b hb1
    · rcases mem_ins.1 hb with hb1 | hb1
      · rw [hb1]; exact hB a ha1
      · exact h.pa a ha1 b hb1 hab
  · rcases mem_ins.1 hq with rfl | hq
    · exact fun e => he' x hx e.symm
    · exact h.ep x hx q hq

theorem ver_ok {s : Shf} (h : ShOk s) {key : ByteArray} (hk : keyOk key) (v : Vr) : ShOk (verP s key v).1 := by
  unfold verP
  by_cases h1 : (addP (chainK s.k key) v).2 ≠ 0
  · rw [if_pos h1]; exact h
  rw [if_neg h1]
  by_cases h2 : hasK s.k key = false ∧ 1024 ≤ s.k.length
  · rw [if_pos h2]; exact h
  rw [if_neg h2]
  have k1 := h.kok.add hk (Decidable.not_not.1 h1)
  have k2 := add_len h.kok key v
  have hkl := h.kl
  refine ⟨k1.ks, k1.kn, k1.kc, k1.kz, ?_, h.pr, h.po, h.pl, h.pa, h.el, h.ed, h.eo, h.ep, h.ov⟩
  show (addK s.k key v).length ≤ 1024
  rw [k2]
  cases hh : hasK s.k key with
  | true => simpa using hkl
  | false =>
    have : ¬ 1024 ≤ s.k.length := fun e => h2 ⟨hh, e⟩
    simp only [Bool.false_eq_true, if_false]
    omega

theorem sweep_ok {s : Shf} (h : ShOk s) {t : Int} (ht : stampOk t) : ShOk (sweepS s t).1 := by
  unfold sweepS
  by_cases h1 : t < s.over
  · rw [if_pos h1]; exact h
  rw [if_neg h1]
  have k1 := h.kok.sweep t
  exact ⟨k1.ks, k1.kn, k1.kc, k1.kz, Nat.le_trans (sweep_len s.k t) h.kl, h.pr, h.po, h.pl, h.pa, h.el, h.ed, h.eo, h.ep, ht⟩

theorem apply_ok {s : Shf} (h : ShOk s) (r : Rec) : ShOk (applyP s r).1 := by
  unfold applyP
  by_cases h0 : ¬ RecOk r
  · rw [if_pos h0]; exact h
  rw [if_neg h0]
  have hr := Classical.not_not.1 h0
  have t1 := hr.1.1
  have t2 := hr.1.2.1
  by_cases h1 : r.kind = 1
  · rw [if_pos h1]; exact prepare_ok h hr h1
  rw [if_neg h1]
  by_cases h2 : r.kind = 2
  · rw [if_pos h2]
    have := ((kind_2 h2).1 hr.2).2
    exact do_ok h (t1.resolve_left this) t2
  rw [if_neg h2]
  by_cases h3 : r.kind = 3
  · rw [if_pos h3]
    exact ver_ok h ((kind_3 h3).1 hr.2).2.2.2.2.1 _
  rw [if_neg h3]
  by_cases h4 : r.kind = 4
  · rw [if_pos h4]; exact sweep_ok h t2
  rw [if_neg h4]; exact h

end Sh
end Go.Proofs.YtiobhbagjokpcaaGreat
