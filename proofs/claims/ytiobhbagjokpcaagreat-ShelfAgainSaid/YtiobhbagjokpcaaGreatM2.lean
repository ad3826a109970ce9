/- Parts of the proof, joined: ChMath, ChMath2; their conditions stand with each. -/
import Derived.Test.YtiobhbagjokpcaaGreatM1

/- Chains in plain lists: what may be, what counts, what a sweep leaves; no condition. -/
namespace Go.Proofs.YtiobhbagjokpcaaGreat
namespace Ch

/-- a version -/
structure Vr where
  ts : Int
  shard : ByteArray
  dead : Bool

instance : Inhabited Vr := ⟨⟨0, ⟨#[]⟩, false⟩⟩

def noVr : Vr := ⟨0, ⟨#[]⟩, false⟩

theorem vr_ext {x y : Vr} (h1 : x.ts = y.ts) (h2 : x.shard = y.shard) (h3 : x.dead = y.dead) : x = y := by
  obtain ⟨a, b, c⟩ := x
  obtain ⟨d, e, f⟩ := y
  simp only at h1 h2 h3
  rw [h1, h2, h3]

instance : DecidableEq Vr := fun x y => decidable_of_iff (x.ts = y.ts ∧ x.shard = y.shard ∧ x.dead = y.dead) ⟨fun h => vr_ext h.1 h.2.1 h.2.2, fun h => by rw [h]; exact ⟨rfl, rfl, rfl⟩⟩


/-- the version by itself may be -/
def vrOk (x : Vr) : Prop := 1 ≤ x.ts ∧ x.ts ≤ 1125899906842624 ∧ x.shard.size ≤ 2052 ∧ ¬ (x.dead = true ∧ x.shard ≠ ⟨#[]⟩)

/-- what is refused of a version behind the time p, 0 of none -/
def bad (p : Option Int) (x : Vr) : Int :=
  if x.ts < 1 ∨ 1125899906842624 < x.ts then 1
  else if 2052 < x.shard.size then 2
  else if x.dead = true ∧ x.shard ≠ ⟨#[]⟩ then 4
  else match p with
    | none => 0
    | some q => if x.ts ≤ q then 110 else 0

def chkL : Option Int → List Vr → Nat → Int × Int
  | _, [], _ => (0, 0)
  | p, x :: r, i => if bad p x = 0 then chkL (some x.ts) r (i + 1) else (i, bad p x)

def chkP (l : List Vr) : Int × Int := if 1024 < l.length then (-1, 2) else chkL none l 0

def lowL (l : List Vr) (t : Int) : List Vr := l.takeWhile (fun x => decide (x.ts ≤ t))

def placeN (l : List Vr) (t : Int) : Nat := (lowL l t).length

def lastT (l : List Vr) : Int := match l.getLast? with | none => 0 | some x => x.ts

def addP (l : List Vr) (v : Vr) : List Vr × Int :=
  if (chkP l).2 ≠ 0 then ([], (chkP l).2)
  else if (chkP [v]).2 ≠ 0 then ([], (chkP [v]).2)
  else if 0 < l.length ∧ v.ts ≤ lastT l then ([], 110)
  else if 1024 ≤ l.length then ([], 2)
  else (l ++ [v], 0)

def atV (l : List Vr) (t : Int) : Vr × Bool := match (lowL l t).getLast? with | none => (noVr, false) | some x => (x, true)

def atP (l : List Vr) (t : Int) : Vr × Bool × Int := if (chkP l).2 ≠ 0 then (noVr, false, (chkP l).2) else ((atV l t).1, (atV l t).2, 0)

/-- how many go -/
def goN (l : List Vr) (t : Int) : Nat := match (lowL l t).getLast? with | none => 0 | some x => if x.dead then placeN l t else placeN l t - 1

def sweepL (l : List Vr) (t : Int) : List Vr := l.drop (goN l t)

def sweepP (l : List Vr) (t : Int) : List Vr × Int := if (chkP l).2 ≠ 0 then ([], (chkP l).2) else (sweepL l t, 0)

def lastP (l : List Vr) : Int × Int := if (chkP l).2 ≠ 0 then (0, (chkP l).2) else (lastT l, 0)

/-! ### chains that may be -/

structure ChOk (l : List Vr) : Prop where
  len : l.length ≤ 1024
  each : ∀ x ∈ l, vrOk x
  rise : l.Pairwise (fun x y => x.ts < y.ts)

theorem bad_ok {p : Option Int} {x : Vr} : bad p x = 0 ↔ vrOk x ∧ ∀ q, p = some q → q < x.ts := by
  unfold bad vrOk
  by_cases h1 : x.ts < 1 ∨ 1125899906842624 < x.ts
  · rw [if_pos h1]
    constructor
    · intro h; omega
    · intro h; omega
  rw [if_neg h1]
  by_cases h2 : 2052 < x.shard.size
  · rw [if_pos h2]
    constructor
    · intro h; omega
    · intro h; omega
  rw [if_neg h2]
  by_cases h3 : x.dead = true ∧ x.shard ≠ ⟨#[]⟩
  · rw [if_pos h3]
    constructor
    · intro h; omega
    · intro h; exact absurd h3 h.1.2.2.2
  rw [if_neg h3]
  cases p with
  | none =>
    constructor
    · intro _; exact ⟨⟨by omega, by omega, by omega, h3⟩, fun q h => by cases h⟩
    · intro _; rfl
  | some q =>
    simp only
    by_cases h4 : x.ts ≤ q
    · rw [if_pos h4]
      constructor
      · intro h; omega
      · intro h; have := h.2 q rfl; omega
    · rw [if_neg h4]
      constructor
      · intro _; exact ⟨⟨by omega, by omega, by omega, h3⟩, fun q' h => by obtain rfl := Option.some.inj h; omega⟩
      · intro _; rfl

theorem chkL_ok : ∀ (l : List Vr) (p : Option Int) (i : Nat), (chkL p l i).2 = 0 ↔ (∀ x ∈ l, vrOk x) ∧ l.Pairwise (fun x y => x.ts < y.ts) ∧ ∀ q, p = some q → ∀ x ∈ l, q < x.ts
  | [], p, i => by simp [chkL]
  | x :: r, p, i => by
    unfold chkL
    by_cases h : bad p x = 0
    · rw [if_pos h, chkL_ok r]
      obtain ⟨h1, h2⟩ := bad_ok.1 h
      constructor
      · rintro ⟨a, b, c⟩
        have c' := c x.ts rfl
        refine ⟨fun y hy => ?_, List.pairwise_cons.2 ⟨c', b⟩, fun q e y hy => ?_⟩
        · rcases List.mem_cons.1 hy with rfl | hy
          · exact h1
          · exact a y hy
        · rcases List.mem_cons.1 hy with rfl | hy
          · exact h2 q e
          · have := h2 q e; have := c' y hy; omega
      · rintro ⟨a, b, c⟩
        obtain ⟨b1, b2⟩ := List.pairwise_cons.1 b
        exact ⟨fun y hy => a y (List.mem_cons_of_mem _ hy), b2, fun q e y hy => by obtain rfl := Option.some.inj e; exact b1 y hy⟩
    · rw [if_neg h]
      constructor
      · intro e; exact absurd e h
      · rintro ⟨a, b, c⟩
        exact absurd (bad_ok.2 ⟨a x (List.mem_cons_self ..), fun q e => c q e x (List.mem_cons_self ..)⟩) h

theorem chk_ok {l : List Vr} : (chkP l).2 = 0 ↔ ChOk l := by
  unfold chkP
  by_cases h : 1024 < l.length
  · rw [if_pos h]
    constructor
    · intro e; simp at e
    · intro e; have := e.len; omega
  · rw [if_neg h, chkL_ok]
    constructor
    · rintro ⟨a, b, _⟩; exact ⟨by omega, a, b⟩
    · intro e; exact ⟨e.each, e.rise, fun q e => by cases e⟩

theorem chk_zero {l : List Vr} (h : ChOk l) : chkP l = (0, 0) := by
  have h2 := chk_ok.2 h
  have : ∀ (l : List Vr) (p : Option Int) (i : Nat), (chkL p l i).2 = 0 → chkL p l i = (0, 0) := by
    intro l
    induction l with
    | nil => intro p i _; rfl
    | cons x r ih =>
      intro p i h
      unfold chkL at h ⊢
      by_cases hb : bad p x = 0
      · rw [if_pos hb] at h ⊢; exact ih _ _ h
      · rw [if_neg hb] at h; exact absurd h hb
  unfold chkP at h2 ⊢
  by_cases hl : 1024 < l.length
  · rw [if_pos hl] at h2; simp at h2
  · rw [if_neg hl] at h2 ⊢; exact this _ _ _ h2

/-! ### a chain in two parts: what is not above t, and what is -/

def highL (l : List Vr) (t : Int) : List Vr := l.dropWhile (fun x => decide (x.ts ≤ t))

theorem low_high (l : List Vr) (t : Int) : lowL l t ++ highL l t = l := List.takeWhile_append_dropWhile

theorem low_le {l : List Vr} {t : Int} : ∀ x ∈ lowL l t, x.ts ≤ t := fun x hx => by
  have := List.all_eq_true.1 (List.all_takeWhile (p := fun x : Vr => decide (x.ts ≤ t)) (l := l)) x hx
  simpa using this

theorem ok_sub {a b : List Vr} (h : ChOk a) (hs : b.Sublist a) : ChOk b :=
  ⟨Nat.le_trans hs.length_le h.len, fun x hx => h.each x (hs.subset hx), h.rise.sublist hs⟩

/-- parts that are as asked are the parts -/
theorem low_is {a b : List Vr} {t : Int} (ha : ∀ x ∈ a, x.ts ≤ t) (hb : ∀ x ∈ b, t < x.ts) : lowL (a ++ b) t = a := by
  unfold lowL
  induction a with
  | nil =>
    cases b with
    | nil => rfl
    | cons x r =>
      have := hb x (List.mem_cons_self ..)
      rw [List.nil_append, List.takeWhile_cons_of_neg (by simp; omega)]
  | cons x r ih =>
    have := ha x (List.mem_cons_self ..)
    rw [List.cons_append, List.takeWhile_cons_of_pos (by simpa using this), ih (fun y hy => ha y (List.mem_cons_of_mem _ hy))]

theorem parts {l : List Vr} (h : l.Pairwise (fun x y => x.ts < y.ts)) (t : Int) : ∃ a b, l = a ++ b ∧ (∀ x ∈ a, x.ts ≤ t) ∧ (∀ x ∈ b, t < x.ts) ∧ lowL l t = a := by
  refine ⟨lowL l t, highL l t, (low_high l t).symm, low_le, fun x hx => ?_, rfl⟩
  unfold highL at hx
  induction l with
  | nil => simp at hx
  | cons y r ih =>
    obtain ⟨h1, h2⟩ := List.pairwise_cons.1 h
    by_cases hy : y.ts ≤ t
    · rw [List.dropWhile_cons_of_pos (by simpa using hy)] at hx
      exact ih h2 hx
    · rw [List.dropWhile_cons_of_neg (by simpa using hy)] at hx
      rcases List.mem_cons.1 hx with rfl | hx
      · omega
      · have := h1 x hx; omega

/-- what a sweep leaves of what is not above -/
def keepL (a : List Vr) : List Vr := match a.getLast? with | none => [] | some x => if x.dead then [] else [x]

theorem sweep_is {a b : List Vr} {t : Int} (ha : ∀ x ∈ a, x.ts ≤ t) (hb : ∀ x ∈ b, t < x.ts) : sweepL (a ++ b) t = keepL a ++ b := by
  unfold sweepL goN placeN keepL
  rw [low_is ha hb]
  rcases List.eq_nil_or_concat a with rfl | ⟨a', x, rfl⟩
  · rfl
  · rw [List.concat_eq_append, List.getLast?_concat]
    simp only
    by_cases hd : x.dead = true
    · rw [if_pos hd, if_pos hd, List.drop_append_of_le_length (Nat.le_refl _), List.drop_length, List.nil_append]
    · rw [if_neg hd, if_neg hd, List.append_assoc, List.length_append, List.length_singleton, Nat.add_sub_cancel, List.drop_left]

theorem at_is {a b : List Vr} {t : Int} (ha : ∀ x ∈ a, x.ts ≤ t) (hb : ∀ x ∈ b, t < x.ts) : atV (a ++ b) t = match a.getLast? with | none => (noVr, false) | some x => (x, true) := by
  unfold atV
  rw [low_is ha hb]

/-- what is read: a shard; none, if there is none or none any more -/
def there (l : List Vr) (t : Int) : ByteArray × Bool := ((atV l t).1.shard, (atV l t).2 && !(atV l t).1.dead)

theorem keep_sub (a : List Vr) : (keepL a).Sublist a := by
  unfold keepL
  rcases List.eq_nil_or_concat a with rfl | ⟨a', x, rfl⟩
  · exact List.Sublist.refl _
  · rw [List.concat_eq_append, List.getLast?_concat]
    simp only
    by_cases hd : x.dead = true
    · rw [if_pos hd]; exact List.nil_sublist _
    · rw [if_neg hd]; exact List.sublist_append_right _ _

theorem sweep_sub {l : List Vr} (t : Int) : (sweepL l t).Sublist l := List.drop_sublist _ _

end Ch
end Go.Proofs.YtiobhbagjokpcaaGreat

/- Chains in plain lists: what is read stays; no condition. -/
namespace Go.Proofs.YtiobhbagjokpcaaGreat
namespace Ch

theorem keep_app (a c : List Vr) : keepL (keepL a ++ c) = keepL (a ++ c) := by
  rcases List.eq_nil_or_concat c with rfl | ⟨c', x, rfl⟩
  · rw [List.append_nil, List.append_nil]
    rcases List.eq_nil_or_concat a with rfl | ⟨a', y, rfl⟩
    · rfl
    · unfold keepL
      rw [List.concat_eq_append, List.getLast?_concat]
      simp only
      by_cases hd : y.dead = true
      · rw [if_pos hd]; rfl
      · rw [if_neg hd]
        show (if y.dead = true then [] else [y]) = _
        rw [if_neg hd]
  · unfold keepL
    rw [List.concat_eq_append, ← List.append_assoc, ← List.append_assoc, List.getLast?_concat, List.getLast?_concat]

theorem keep_le {a : List Vr} {t : Int} (h : ∀ x ∈ a, x.ts ≤ t) : ∀ x ∈ keepL a, x.ts ≤ t := fun x hx => h x ((keep_sub a).subset hx)

theorem app_le {a c : List Vr} {t : Int} (h : ∀ x ∈ a, x.ts ≤ t) (h2 : ∀ x ∈ c, x.ts ≤ t) : ∀ x ∈ a ++ c, x.ts ≤ t := fun x hx => (List.mem_append.1 hx).elim (h x) (h2 x)

abbrev Rise (l : List Vr) : Prop := l.Pairwise (fun x y => x.ts < y.ts)

/-- a sweep, more behind, and a later sweep: the later one alone -/
theorem sweep_more {l m : List Vr} (h : Rise (l ++ m)) {low high : Int} (hle : low ≤ high) : sweepL (sweepL l low ++ m) high = sweepL (l ++ m) high := by
  obtain ⟨a, b, rfl, ha, hb, -⟩ := parts (List.pairwise_append.1 h).1 low
  have hbm : Rise (b ++ m) := by
    rw [List.append_assoc] at h
    exact (List.pairwise_append.1 h).2.1
  obtain ⟨c, d, hcd, hc, hd, -⟩ := parts hbm high
  have ha2 : ∀ x ∈ a, x.ts ≤ high := fun x hx => Int.le_trans (ha x hx) hle
  rw [sweep_is ha hb, List.append_assoc, List.append_assoc, hcd, ← List.append_assoc, ← List.append_assoc, sweep_is (app_le (keep_le ha2) hc) hd, sweep_is (app_le ha2 hc) hd, keep_app]

theorem sweep_twice {l : List Vr} (h : Rise l) {low high : Int} (hle : low ≤ high) : sweepL (sweepL l low) high = sweepL l high := by
  have := sweep_more (l := l) (m := []) (by rw [List.append_nil]; exact h) hle
  rwa [List.append_nil, List.append_nil] at this

theorem there_of {a b : List Vr} {t : Int} (ha : ∀ x ∈ a, x.ts ≤ t) (hb : ∀ x ∈ b, t < x.ts) : there (a ++ b) t = match a.getLast? with | none => (⟨#[]⟩, false) | some x => (x.shard, !x.dead) := by
  unfold there
  rw [at_is ha hb]
  cases a.getLast? with
  | none => rfl
  | some x => simp

theorem there_more {l m : List Vr} (h : Rise l) {t : Int} (hm : ∀ x ∈ m, t < x.ts) : there (l ++ m) t = there l t := by
  obtain ⟨a, b, rfl, ha, hb, -⟩ := parts h t
  rw [List.append_assoc, there_of ha (fun x hx => (List.mem_append.1 hx).elim (hb x) (hm x)), there_of ha hb]

theorem there_sweep {l : List Vr} (h : ChOk l) {low t : Int} (hle : low ≤ t) : there (sweepL l low) t = there l t := by
  obtain ⟨a, b, rfl, ha, hb, -⟩ := parts h.rise low
  obtain ⟨c, d, rfl, hc, hd, -⟩ := parts (List.pairwise_append.1 h.rise).2.1 t
  have ha2 : ∀ x ∈ a, x.ts ≤ t := fun x hx => Int.le_trans (ha x hx) hle
  rw [sweep_is ha hb, ← List.append_assoc, ← List.append_assoc, there_of (app_le (keep_le ha2) hc) hd, there_of (app_le ha2 hc) hd]
  rcases List.eq_nil_or_concat c with rfl | ⟨c', x, rfl⟩
  · rw [List.append_nil, List.append_nil]
    rcases List.eq_nil_or_concat a with rfl | ⟨a', y, rfl⟩
    · rfl
    · have hy := (h.each y (by simp)).2.2.2
      unfold keepL
      rw [List.concat_eq_append, List.getLast?_concat]
      simp only
      by_cases hd : y.dead = true
      · rw [if_pos hd]
        have he : y.shard = ⟨#[]⟩ := Decidable.not_not.1 (fun hn => hy ⟨hd, hn⟩)
        rw [he, hd]; rfl
      · rw [if_neg hd]; rfl
  · rw [List.concat_eq_append, ← List.append_assoc, ← List.append_assoc, List.getLast?_concat, List.getLast?_concat]

/-! ### what is added -/

structure Added (l : List Vr) (v : Vr) : Prop where
  ok : ChOk l
  one : vrOk v
  last : lastT l < v.ts
  all : ∀ x ∈ l, x.ts < v.ts
  more : ChOk (l ++ [v])

theorem last_top {l : List Vr} (h : Rise l) : ∀ x ∈ l, x.ts ≤ lastT l := by
  rcases List.eq_nil_or_concat l with rfl | ⟨l', y, rfl⟩
  · intro x hx; simp at hx
  · rw [List.concat_eq_append] at h ⊢
    unfold lastT
    rw [List.getLast?_concat]
    intro x hx
    rcases List.mem_append.1 hx with hx | hx
    · exact Int.le_of_lt ((List.pairwise_append.1 h).2.2 x hx y (by simp))
    · obtain rfl := List.mem_singleton.1 hx; exact Int.le_refl _

theorem added {l : List Vr} {v : Vr} (h : (addP l v).2 = 0) : Added l v ∧ addP l v = (l ++ [v], 0) := by
  unfold addP at h ⊢
  by_cases h1 : (chkP l).2 ≠ 0
  · rw [if_pos h1] at h; exact absurd h h1
  rw [if_neg h1] at h ⊢
  by_cases h2 : (chkP [v]).2 ≠ 0
  · rw [if_pos h2] at h; exact absurd h h2
  rw [if_neg h2] at h ⊢
  by_cases h3 : 0 < l.length ∧ v.ts ≤ lastT l
  · rw [if_pos h3] at h; simp at h
  rw [if_neg h3] at h ⊢
  by_cases h4 : 1024 ≤ l.length
  · rw [if_pos h4] at h; simp at h
  rw [if_neg h4] at h ⊢
  have ok := chk_ok.1 (Decidable.not_not.1 h1)
  have one := (chk_ok.1 (Decidable.not_not.1 h2)).each v (by simp)
  have hl : lastT l < v.ts := by
    by_cases h0 : 0 < l.length
    · omega
    · have : l = [] := List.eq_nil_of_length_eq_zero (by omega)
      subst this
      have := one.1
      show (0 : Int) < _
      omega
  have hall : ∀ x ∈ l, x.ts < v.ts := fun x hx => Int.lt_of_le_of_lt (last_top ok.rise x hx) hl
  refine ⟨⟨ok, one, hl, hall, ⟨by rw [List.length_append]; simp; omega, fun x hx => ?_, List.pairwise_append.2 ⟨ok.rise, by simp, fun x hx y hy => by obtain rfl := List.mem_singleton.1 hy; exact hall x hx⟩⟩⟩, rfl⟩
  rcases List.mem_append.1 hx with hx | hx
  · exact ok.each x hx
  · obtain rfl := List.mem_singleton.1 hx; exact one

theorem at_last {l : List Vr} {v : Vr} {t : Int} (h : ∀ x ∈ l, x.ts ≤ t) (hv : v.ts ≤ t) : atV (l ++ [v]) t = (v, true) := by
  have := at_is (a := l ++ [v]) (b := []) (t := t) (app_le h (fun x hx => by obtain rfl := List.mem_singleton.1 hx; exact hv)) (by simp)
  rw [List.append_nil, List.getLast?_concat] at this
  exact this

theorem at_mem {l : List Vr} (h : Rise l) {x : Vr} (hx : x ∈ l) : atV l x.ts = (x, true) := by
  obtain ⟨p, s, rfl⟩ := List.append_of_mem hx
  obtain ⟨h1, h2, h3⟩ := List.pairwise_append.1 h
  have := at_is (a := p ++ [x]) (b := s) (t := x.ts) (app_le (fun y hy => Int.le_of_lt (h3 y hy x (by simp))) (fun y hy => by obtain rfl := List.mem_singleton.1 hy; exact Int.le_refl _)) (List.pairwise_cons.1 h2).1
  rw [List.append_assoc, List.getLast?_concat] at this
  exact this

theorem at_zero {l : List Vr} (h : ∀ x ∈ l, vrOk x) : atV l 0 = (noVr, false) := by
  have := at_is (a := []) (b := l) (t := 0) (by simp) (fun x hx => by have := (h x hx).1; omega)
  exact this

end Ch
end Go.Proofs.YtiobhbagjokpcaaGreat
