/- Parts of the proof, joined: ShMath; their conditions stand with each. -/
import Derived.Test.YtiobhbagjokpcaaM2
import Derived.Test.YtiobhbagjokpcaaM10

/- Shelves in plain lists: keys with their chains, prepared and ended transactions; what the calls answer; no condition. -/
namespace Go.Proofs.Ytiobhbagjokpcaa
namespace Sh
open Ch Rc Lt

/-! ### texts in Go's order -/

theorem bytesLess_nil2 (l : List UInt8) : Op.bytesLess l [] = false := by cases l <;> rfl

theorem less_irrefl : ∀ l : List UInt8, Op.bytesLess l l = false
  | [] => rfl
  | a :: x => by
    unfold Op.bytesLess
    rw [less_irrefl x]
    simp

theorem less_trans : ∀ x y z : List UInt8, Op.bytesLess x y = true → Op.bytesLess y z = true → Op.bytesLess x z = true
  | _, [], _, h, _ => by rw [bytesLess_nil2] at h; cases h
  | _, _ :: _, [], _, h => by rw [bytesLess_nil2] at h; cases h
  | [], _ :: _, _ :: _, _, _ => rfl
  | a :: x, b :: y, c :: z, h1, h2 => by
    unfold Op.bytesLess at h1 h2 ⊢
    simp only [Bool.or_eq_true, Bool.and_eq_true, decide_eq_true_eq, beq_iff_eq] at h1 h2 ⊢
    rcases h1 with h1 | ⟨rfl, h1⟩
    · rcases h2 with h2 | ⟨rfl, h2⟩
      · exact .inl (by rw [UInt8.lt_iff_toNat_lt] at *; omega)
      · exact .inl h1
    · rcases h2 with h2 | ⟨rfl, h2⟩
      · exact .inl h2
      · exact .inr ⟨rfl, less_trans x y z h1 h2⟩

theorem less_total : ∀ x y : List UInt8, Op.bytesLess x y = true ∨ x = y ∨ Op.bytesLess y x = true
  | [], [] => .inr (.inl rfl)
  | [], _ :: _ => .inl rfl
  | _ :: _, [] => .inr (.inr rfl)
  | a :: x, b :: y => by
    unfold Op.bytesLess
    simp only [Bool.or_eq_true, Bool.and_eq_true, decide_eq_true_eq, beq_iff_eq]
    rcases less_total x y with h | h | h
    · by_cases e : a = b
      · exact .inl (.inr ⟨e, h⟩)
      · rcases Nat.lt_or_gt_of_ne (fun h => e (UInt8.toNat_inj.1 h)) with h2 | h2
        · exact .inl (.inl (UInt8.lt_iff_toNat_lt.2 h2))
        · exact .inr (.inr (.inl (UInt8.lt_iff_toNat_lt.2 h2)))
    · by_cases e : a = b
      · exact .inr (.inl (by rw [e, h]))
      · rcases Nat.lt_or_gt_of_ne (fun h => e (UInt8.toNat_inj.1 h)) with h2 | h2
        · exact .inl (.inl (UInt8.lt_iff_toNat_lt.2 h2))
        · exact .inr (.inr (.inl (UInt8.lt_iff_toNat_lt.2 h2)))
    · by_cases e : a = b
      · exact .inr (.inr (.inr ⟨e.symm, h⟩))
      · rcases Nat.lt_or_gt_of_ne (fun h => e (UInt8.toNat_inj.1 h)) with h2 | h2
        · exact .inl (.inl (UInt8.lt_iff_toNat_lt.2 h2))
        · exact .inr (.inr (.inl (UInt8.lt_iff_toNat_lt.2 h2)))

def ltK (a b : ByteArray) : Bool := Op.bytesLess a.toList b.toList

theorem toList_inj {a b : ByteArray} (h : a.toList = b.toList) : a = b := by
  rw [ByteArray.toList_eq, ByteArray.toList_eq] at h
  obtain ⟨a⟩ := a
  obtain ⟨b⟩ := b
  congr 1
  exact Array.toList_inj.1 h

theorem lt_irrefl (a : ByteArray) : ltK a a = false := less_irrefl _
theorem lt_trans {a b c : ByteArray} (h : ltK a b = true) (h2 : ltK b c = true) : ltK a c = true := less_trans _ _ _ h h2
theorem lt_total (a b : ByteArray) : ltK a b = true ∨ a = b ∨ ltK b a = true := by
  rcases less_total a.toList b.toList with h | h | h
  · exact .inl h
  · exact .inr (.inl (toList_inj h))
  · exact .inr (.inr h)
theorem lt_ne {a b : ByteArray} (h : ltK a b = true) : a ≠ b := fun e => by rw [e, lt_irrefl] at h; cases h
theorem lt_not {a b : ByteArray} (h : ltK a b = true) : ltK b a = false := by
  cases hb : ltK b a with
  | false => rfl
  | true => have := lt_trans h hb; rw [lt_irrefl] at this; cases this

/-! ### a shelf -/

/-- a key and its chain -/
structure Kc where
  name : ByteArray
  l : List Vr

structure Shf where
  k : List Kc
  p : List Rec
  e : List (Int × Int)
  over : Int

def empty : Shf := ⟨[], [], [], 0⟩

def findK (k : List Kc) (key : ByteArray) : Option Kc := k.find? (fun x => decide (x.name = key))
def hasK (k : List Kc) (key : ByteArray) : Bool := (findK k key).isSome
def chainK (k : List Kc) (key : ByteArray) : List Vr := match findK k key with | none => [] | some x => x.l

def putK : List Kc → ByteArray → List Vr → List Kc
  | [], key, l => [⟨key, l⟩]
  | x :: r, key, l => if ltK x.name key then x :: putK r key l else if x.name = key then ⟨key, l⟩ :: r else ⟨key, l⟩ :: x :: r

def heldR (r : Rec) (key : ByteArray) (w : Bool) : Bool := r.ws.any (fun x => decide (x.key = key)) || (w && r.keys.any (fun y => decide (y = key)))
def heldB (s : Shf) (key : ByteArray) (w : Bool) : Bool := s.p.any (fun r => heldR r key w)

def prepOf (p : List Rec) (txn : Int) : Option Rec := p.find? (fun r => decide (r.txn = txn))
def endOf (e : List (Int × Int)) (txn : Int) : Option (Int × Int) := e.find? (fun x => decide (x.1 = txn))

def stateP (s : Shf) (txn : Int) : Int × Int :=
  match prepOf s.p txn with
  | some _ => (1, 0)
  | none => match endOf s.e txn with
    | none => (0, 0)
    | some x => if 0 < x.2 then (2, x.2) else (3, 0)

def insP (p : List Rec) (r : Rec) : List Rec := p.takeWhile (fun q => decide (q.txn < r.txn)) ++ r :: p.dropWhile (fun q => decide (q.txn < r.txn))
def outP (p : List Rec) (txn : Int) : List Rec := p.eraseP (fun q => decide (q.txn = txn))
def capE (e : List (Int × Int)) : List (Int × Int) := if 1024 < e.length then e.drop 1 else e
def endP (s : Shf) (txn ts : Int) : Shf := ⟨s.k, outP s.p txn, capE (s.e ++ [(txn, ts)]), s.over⟩

def prepareP (s : Shf) (r : Rec) : Shf × Int :=
  if (stateP s r.txn).1 ≠ 0 then (s, 6)
  else if r.keys.any (fun y => heldB s y false) then (s, 180)
  else if r.ws.any (fun x => heldB s x.key true) then (s, 180)
  else if 1024 ≤ s.p.length then (s, 2)
  else (⟨s.k, insP s.p r, s.e, s.over⟩, 0)

def addK (k : List Kc) (key : ByteArray) (v : Vr) : List Kc := putK k key (addP (chainK k key) v).1
def addW (ts : Int) : List Wr → List Kc → List Kc
  | [], k => k
  | x :: r, k => addW ts r (addK k x.key ⟨ts, x.shard, x.dead⟩)

def longW (k : List Kc) : List Wr → Nat → Bool
  | [], _ => false
  | x :: r, n => (decide (1024 ≤ (chainK k x.key).length) || decide (1024 < if hasK k x.key then n else n + 1)) || longW k r (if hasK k x.key then n else n + 1)

def doP (s : Shf) (txn ts : Int) : Shf × Int :=
  if 1 < (stateP s txn).1 then (if (stateP s txn).2 = ts then (s, 6) else (s, 120))
  else match prepOf s.p txn with
    | none => (endP s txn ts, 0)
    | some r =>
      if 0 < ts then
        if r.ws.any (fun x => decide (ts ≤ lastT (chainK s.k x.key))) then (s, 110)
        else if longW s.k r.ws s.k.length then (s, 2)
        else (endP ⟨addW ts r.ws s.k, s.p, s.e, s.over⟩ txn ts, 0)
      else (endP s txn ts, 0)

def verP (s : Shf) (key : ByteArray) (v : Vr) : Shf × Int :=
  if (addP (chainK s.k key) v).2 ≠ 0 then (s, (addP (chainK s.k key) v).2)
  else if hasK s.k key = false ∧ 1024 ≤ s.k.length then (s, 2)
  else (⟨addK s.k key v, s.p, s.e, s.over⟩, 0)

def sweepK (k : List Kc) (t : Int) : List Kc := (k.map (fun x => ⟨x.name, sweepL x.l t⟩)).filter (fun x => !x.l.isEmpty)

def sweepS (s : Shf) (t : Int) : Shf × Int := if t < s.over then (s, 110) else (⟨sweepK s.k t, s.p, s.e, t⟩, 0)

open Classical in
noncomputable def applyP (s : Shf) (r : Rec) : Shf × Int :=
  if ¬ RecOk r then (s, 80)
  else if r.kind = 1 then prepareP s r
  else if r.kind = 2 then doP s r.txn r.ts
  else if r.kind = 3 then verP s r.key ⟨r.ts, r.text, r.dead⟩
  else if r.kind = 4 then sweepS s r.ts
  else (s, 80)

def readP (s : Shf) (key : ByteArray) (t : Int) : Int × Vr :=
  if t < s.over then (4, noVr)
  else if heldB s key false then (3, noVr)
  else if (atV (chainK s.k key) t).2 = false then (0, noVr)
  else if (atV (chainK s.k key) t).1.dead then (2, (atV (chainK s.k key) t).1)
  else (1, (atV (chainK s.k key) t).1)

def sweepR (t : Int) : Rec := ⟨4, 0, t, 0, ⟨#[]⟩, ⟨#[]⟩, false, [], []⟩
def verR (key : ByteArray) (v : Vr) : Rec := ⟨3, 0, v.ts, 0, key, v.shard, v.dead, [], []⟩
def doR (x : Int × Int) : Rec := ⟨2, x.1, x.2, 0, ⟨#[]⟩, ⟨#[]⟩, false, [], []⟩

def recordsP (s : Shf) : List Rec := (if 0 < s.over then [sweepR s.over] else []) ++ (s.k.flatMap fun x => x.l.map (verR x.name)) ++ s.e.map doR ++ s.p

/-! ### what holds of each shelf that records made -/

abbrev Sorted (k : List Kc) : Prop := k.Pairwise (fun x y => ltK x.name y.name = true)

structure ShOk (s : Shf) : Prop where
  ks : Sorted s.k
  kn : ∀ x ∈ s.k, keyOk x.name
  kc : ∀ x ∈ s.k, ChOk x.l
  kz : ∀ x ∈ s.k, x.l ≠ []
  kl : s.k.length ≤ 1024
  pr : s.p.Pairwise (fun x y => x.txn < y.txn)
  po : ∀ r ∈ s.p, RecOk r ∧ r.kind = 1
  pl : s.p.length ≤ 1024
  pa : ∀ r ∈ s.p, ∀ q ∈ s.p, r.txn ≠ q.txn → ∀ x ∈ r.ws, heldR q x.key true = false
  el : s.e.length ≤ 1024
  ed : s.e.Pairwise (fun x y => x.1 ≠ y.1)
  eo : ∀ x ∈ s.e, txnOk x.1 ∧ stampOk x.2
  ep : ∀ x ∈ s.e, ∀ r ∈ s.p, r.txn ≠ x.1
  ov : stampOk s.over

theorem ok_empty : ShOk empty := by
  refine ⟨List.Pairwise.nil, ?_, ?_, ?_, ?_, List.Pairwise.nil, ?_, ?_, ?_, ?_, List.Pairwise.nil, ?_, ?_, ?_⟩
  all_goals first | (intro x hx; simp [empty] at hx; done) | (simp [empty]; done) | (unfold empty stampOk; simp)

/-! ### keys -/

theorem find_put : ∀ (k : List Kc) (key : ByteArray) (l : List Vr) (key' : ByteArray), findK (putK k key l) key' = if key' = key then some ⟨key, l⟩ else findK k key'
  | [], key, l, key' => by
    unfold putK findK
    by_cases h : key' = key
    · rw [if_pos h, List.find?_cons_of_pos (by simp [h])]
    · rw [if_neg h, List.find?_cons_of_neg (by simp; exact fun e => h e.symm)]
  | x :: r, key, l, key' => by
    unfold putK
    by_cases h1 : ltK x.name key = true
    · rw [if_pos h1]
      have ih := find_put r key l key'
      unfold findK at ih ⊢
      by_cases h2 : x.name = key'
      · rw [List.find?_cons_of_pos (by simp [h2]), List.find?_cons_of_pos (by simp [h2]), if_neg (fun e => lt_ne h1 (h2.trans e))]
      · rw [List.find?_cons_of_neg (by simp [h2]), List.find?_cons_of_neg (by simp [h2]), ih]
    · rw [if_neg h1]
      by_cases h3 : x.name = key
      · rw [if_pos h3]
        unfold findK
        by_cases h : key' = key
        · rw [if_pos h, List.find?_cons_of_pos (by simp [h])]
        · rw [if_neg h, List.find?_cons_of_neg (by simp; exact fun e => h e.symm), List.find?_cons_of_neg (by simp; exact fun e => h (e.symm.trans h3))]
      · rw [if_neg h3]
        unfold findK
        by_cases h : key' = key
        · rw [if_pos h, List.find?_cons_of_pos (by simp [h])]
        · rw [if_neg h, List.find?_cons_of_neg (by simp; exact fun e => h e.symm)]

theorem chain_put (k : List Kc) (key : ByteArray) (l : List Vr) (key' : ByteArray) : chainK (putK k key l) key' = if key' = key then l else chainK k key' := by
  unfold chainK
  rw [find_put]
  by_cases h : key' = key
  · rw [if_pos h, if_pos h]
  · rw [if_neg h, if_neg h]

theorem mem_put : ∀ (k : List Kc) (key : ByteArray) (l : List Vr) (y : Kc), y ∈ putK k key l → y = ⟨key, l⟩ ∨ y ∈ k
  | [], key, l, y, h => by
    unfold putK at h
    exact .inl (List.mem_singleton.1 h)
  | x :: r, key, l, y, h => by
    unfold putK at h
    by_cases h1 : ltK x.name key = true
    · rw [if_pos h1] at h
      rcases List.mem_cons.1 h with h | h
      · exact .inr (by rw [h]; exact List.mem_cons_self ..)
      · exact (mem_put r key l y h).imp id (fun h => List.mem_cons_of_mem _ h)
    · rw [if_neg h1] at h
      by_cases h3 : x.name = key
      · rw [if_pos h3] at h
        rcases List.mem_cons.1 h with h | h
        · exact .inl h
        · exact .inr (List.mem_cons_of_mem _ h)
      · rw [if_neg h3] at h
        rcases List.mem_cons.1 h with h | h
        · exact .inl h
        · exact .inr h

theorem put_sorted : ∀ {k : List Kc} (key : ByteArray) (l : List Vr), Sorted k → Sorted (putK k key l)
  | [], key, l, _ => by unfold putK; simp [Sorted]
  | x :: r, key, l, h => by
    obtain ⟨h1, h2⟩ := List.pairwise_cons.1 h
    unfold putK
    by_cases hl : ltK x.name key = true
    · rw [if_pos hl]
      refine List.pairwise_cons.2 ⟨fun y hy => ?_, put_sorted key l h2⟩
      rcases mem_put r key l y hy with rfl | hy
      · exact hl
      · exact h1 y hy
    · rw [if_neg hl]
      by_cases h3 : x.name = key
      · rw [if_pos h3]
        exact List.pairwise_cons.2 ⟨fun y hy => by show ltK key y.name = true; rw [← h3]; exact h1 y hy, h2⟩
      · rw [if_neg h3]
        have hk : ltK key x.name = true := by
          rcases lt_total key x.name with h | h | h
          · exact h
          · exact absurd h.symm h3
          · exact absurd h hl
        refine List.pairwise_cons.2 ⟨fun y hy => ?_, h⟩
        rcases List.mem_cons.1 hy with rfl | hy
        · exact hk
        · exact lt_trans hk (h1 y hy)

theorem find_mem {k : List Kc} {key : ByteArray} {x : Kc} (h : findK k key = some x) : x ∈ k ∧ x.name = key := ⟨List.mem_of_find?_eq_some h, by simpa using List.find?_some h⟩

theorem find_of_mem {k : List Kc} (hs : Sorted k) {x : Kc} (hx : x ∈ k) : findK k x.name = some x := by
  induction k with
  | nil => cases hx
  | cons y r ih =>
    obtain ⟨h1, h2⟩ := List.pairwise_cons.1 hs
    unfold findK
    rcases List.mem_cons.1 hx with rfl | hx
    · rw [List.find?_cons_of_pos (by simp)]
    · rw [List.find?_cons_of_neg (by simp; exact lt_ne (h1 x hx))]
      exact ih h2 hx

/-- nothing above a key that is below all of a list -/
theorem find_above {k : List Kc} {key : ByteArray} (h : ∀ x ∈ k, ltK key x.name = true) : findK k key = none := by
  unfold findK
  rw [List.find?_eq_none]
  intro x hx e
  exact lt_ne (h x hx) (by simpa using (of_decide_eq_true e).symm)

theorem put_len : ∀ {k : List Kc} (key : ByteArray) (l : List Vr), Sorted k → (putK k key l).length = if hasK k key then k.length else k.length + 1
  | [], key, l, _ => rfl
  | x :: r, key, l, h => by
    obtain ⟨h1, h2⟩ := List.pairwise_cons.1 h
    have ih := put_len key l h2
    unfold hasK findK at ih ⊢
    unfold putK
    by_cases hl : ltK x.name key = true
    · rw [if_pos hl, List.find?_cons_of_neg (by simp; exact lt_ne hl), List.length_cons, ih, List.length_cons]
      split <;> rfl
    · rw [if_neg hl]
      by_cases h3 : x.name = key
      · rw [if_pos h3, List.find?_cons_of_pos (by simp [h3])]
        rfl
      · rw [if_neg h3]
        have hk : ltK key x.name = true := by
          rcases lt_total key x.name with h | h | h
          · exact h
          · exact absurd h.symm h3
          · exact absurd h hl
        have := find_above (k := x :: r) (key := key) (fun y hy => by
          rcases List.mem_cons.1 hy with rfl | hy
          · exact hk
          · exact lt_trans hk (h1 y hy))
        unfold findK at this
        rw [this]
        rfl

theorem chain_ok {s : Shf} (h : ∀ x ∈ s.k, ChOk x.l) (key : ByteArray) : ChOk (chainK s.k key) := by
  unfold chainK
  cases hf : findK s.k key with
  | none => exact ⟨by simp, by simp, List.Pairwise.nil⟩
  | some x => exact h x (find_mem hf).1

/-! ### sweeps -/

theorem find_sweep : ∀ {k : List Kc} (key : ByteArray) (t : Int), Sorted k → findK (sweepK k t) key = match findK k key with | none => none | some x => if (sweepL x.l t).isEmpty then none else some ⟨x.name, sweepL x.l t⟩
  | [], key, t, _ => rfl
  | x :: r, key, t, h => by
    obtain ⟨h1, h2⟩ := List.pairwise_cons.1 h
    have ih := find_sweep key t h2
    unfold sweepK findK at *
    rw [List.map_cons]
    by_cases hn : x.name = key
    · rw [List.find?_cons_of_pos (by simp [hn])]
      simp only
      cases he : (sweepL x.l t).isEmpty with
      | false =>
        rw [List.filter_cons_of_pos (by simp [he]), List.find?_cons_of_pos (by simp [hn])]
        rfl
      | true =>
        rw [List.filter_cons_of_neg (by simp [he]), ih]
        have := find_above (k := r) (key := key) (fun y hy => by rw [← hn]; exact h1 y hy)
        unfold findK at this
        rw [this]
        rfl
    · rw [List.find?_cons_of_neg (by simp [hn])]
      cases he : (sweepL x.l t).isEmpty with
      | false => rw [List.filter_cons_of_pos (by simp [he]), List.find?_cons_of_neg (by simp [hn]), ih]
      | true => rw [List.filter_cons_of_neg (by simp [he]), ih]

theorem chain_sweep {k : List Kc} (key : ByteArray) (t : Int) (h : Sorted k) : chainK (sweepK k t) key = sweepL (chainK k key) t := by
  unfold chainK
  rw [find_sweep key t h]
  cases findK k key with
  | none => rfl
  | some x =>
    simp only
    cases he : (sweepL x.l t).isEmpty with
    | false => rfl
    | true => rw [if_pos rfl]; exact (List.isEmpty_iff.1 he).symm

theorem sweep_sorted {k : List Kc} (t : Int) (h : Sorted k) : Sorted (sweepK k t) := by
  unfold sweepK
  refine List.Pairwise.filter _ (List.pairwise_map.2 h)

theorem mem_sweep {k : List Kc} {t : Int} {y : Kc} (h : y ∈ sweepK k t) : ∃ x ∈ k, y = ⟨x.name, sweepL x.l t⟩ ∧ sweepL x.l t ≠ [] := by
  unfold sweepK at h
  obtain ⟨h1, h2⟩ := List.mem_filter.1 h
  obtain ⟨x, hx, rfl⟩ := List.mem_map.1 h1
  exact ⟨x, hx, rfl, fun e => by simp [e] at h2⟩

theorem sweep_len (k : List Kc) (t : Int) : (sweepK k t).length ≤ k.length := by
  unfold sweepK
  refine Nat.le_trans (List.length_filter_le ..) ?_
  rw [List.length_map]
  exact Nat.le_refl _

end Sh
end Go.Proofs.Ytiobhbagjokpcaa
