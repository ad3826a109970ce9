/- Parts of the proof, joined: ShMath, ChRow, ChSame, ChBook, ChRef, ChRef2, ChRef3; their conditions stand with each. -/
import Derived.Deep.SlicePairs
import Derived.Deep.QuietTactic
import Derived.BigQuiet
import Derived.Test.YtbkanoblcojdfaaGreatM0
import Derived.Test.YtbkanoblcojdfaaGreatM1
import Derived.Test.YtbkanoblcojdfaaGreatM2
import Derived.Test.YtbkanoblcojdfaaGreatM3

namespace Go.Proofs.YtbkanoblcojdfaaGreat
namespace Sh
open Ch Rc Lt
theorem bytesLess_nil2 (l : List UInt8) : Op.bytesLess l [] = false := by cases l <;> rfl
theorem less_irrefl : ∀ l : List UInt8, Op.bytesLess l l = false
  | [] => rfl
  | a :: x => by
    unfold Op.bytesLess
    rw [less_irrefl x]
    simp
theorem less_trans : ∀ x y z : List UInt8, Op.bytesLess x y = true → Op.bytesLess y z = true → Op.bytesLess x z = true
  | _, [], _, h, _ => by rw [bytesLess_nil2] at h; cases h
  | _, _ :: _, [], _, h => by rw [bytesLess_nil2] at h; cases h
  | [], _ :: _, _ :: _, _, _ => rfl
  | a :: x, b :: y, c :: z, h1, h2 => by
    unfold Op.bytesLess at h1 h2 ⊢
    simp only [Bool.or_eq_true, Bool.and_eq_true, decide_eq_true_eq, beq_iff_eq] at h1 h2 ⊢
    rcases h1 with h1 | ⟨rfl, h1⟩
    · rcases h2 with h2 | ⟨rfl, h2⟩
      · exact .inl (by rw [UInt8.lt_iff_toNat_lt] at *; omega)
      · exact .inl h1
    · rcases h2 with h2 | ⟨rfl, h2⟩
      · exact .inl h2
      · exact .inr ⟨rfl, less_trans x y z h1 h2⟩
theorem less_total : ∀ x y : List UInt8, Op.bytesLess x y = true ∨ x = y ∨ Op.bytesLess y x = true
  | [], [] => .inr (.inl rfl)
  | [], _ :: _ => .inl rfl
  | _ :: _, [] => .inr (.inr rfl)
  | a :: x, b :: y => by
    unfold Op.bytesLess
    simp only [Bool.or_eq_true, Bool.and_eq_true, decide_eq_true_eq, beq_iff_eq]
    rcases less_total x y with h | h | h
    · by_cases e : a = b
      · exact .inl (.inr ⟨e, h⟩)
      · rcases Nat.lt_or_gt_of_ne (fun h => e (UInt8.toNat_inj.1 h)) with h2 | h2
        · exact .inl (.inl (UInt8.lt_iff_toNat_lt.2 h2))
        · exact .inr (.inr (.inl (UInt8.lt_iff_toNat_lt.2 h2)))
    · by_cases e : a = b
      · exact .inr (.inl (by rw [e, h]))
      · rcases Nat.lt_or_gt_of_ne (fun h => e (UInt8.toNat_inj.1 h)) with h2 | h2
        · exact .inl (.inl (UInt8.lt_iff_toNat_lt.2 h2))
        · exact .inr (.inr (.inl (UInt8.lt_iff_toNat_lt.2 h2)))
    · by_cases e : a = b
      · exact .inr (.inr (.inr ⟨e.symm, h⟩))
      · rcases Nat.lt_or_gt_of_ne (fun h => e (UInt8.toNat_inj.1 h)) with h2 | h2
        · exact .inl (.inl (UInt8.lt_iff_toNat_lt.2 h2))
        · exact .inr (.inr (.inl (UInt8.lt_iff_toNat_lt.2 h2)))
def ltK (a b : ByteArray) : Bool := Op.bytesLess a.toList b.toList
theorem toList_inj {a b : ByteArray} (h : a.toList = b.toList) : a = b := by
  rw [ByteArray.toList_eq, ByteArray.toList_eq] at h
  obtain ⟨a⟩ := a
  obtain ⟨b⟩ := b
  congr 1
  exact Array.toList_inj.1 h
theorem lt_irrefl (a : ByteArray) : ltK a a = false := less_irrefl _
theorem lt_trans {a b c : ByteArray} (h : ltK a b = true) (h2 : ltK b c = true) : ltK a c = true := less_trans _ _ _ h h2
theorem lt_total (a b : ByteArray) : ltK a b = true ∨ a = b ∨ ltK b a = true := by
  rcases less_total a.toList b.toList with h | h | h
  · exact .inl h
  · exact .inr (.inl (toList_inj h))
  · exact .inr (.inr h)
theorem lt_ne {a b : ByteArray} (h : ltK a b = true) : a ≠ b := fun e => by rw [e, lt_irrefl] at h; cases h
structure Kc where
  name : ByteArray
  l : List Vr
structure Shf where
  k : List Kc
  p : List Rec
  e : List (Int × Int)
  over : Int
def empty : Shf := ⟨[], [], [], 0⟩
def findK (k : List Kc) (key : ByteArray) : Option Kc := k.find? (fun x => decide (x.name = key))
def hasK (k : List Kc) (key : ByteArray) : Bool := (findK k key).isSome
def chainK (k : List Kc) (key : ByteArray) : List Vr := match findK k key with | none => [] | some x => x.l
def putK : List Kc → ByteArray → List Vr → List Kc
  | [], key, l => [⟨key, l⟩]
  | x :: r, key, l => if ltK x.name key then x :: putK r key l else if x.name = key then ⟨key, l⟩ :: r else ⟨key, l⟩ :: x :: r
def heldR (r : Rec) (key : ByteArray) (w : Bool) : Bool := r.ws.any (fun x => decide (x.key = key)) || (w && r.keys.any (fun y => decide (y = key)))
def heldB (s : Shf) (key : ByteArray) (w : Bool) : Bool := s.p.any (fun r => heldR r key w)
def prepOf (p : List Rec) (txn : Int) : Option Rec := p.find? (fun r => decide (r.txn = txn))
def endOf (e : List (Int × Int)) (txn : Int) : Option (Int × Int) := e.find? (fun x => decide (x.1 = txn))
def stateP (s : Shf) (txn : Int) : Int × Int :=
  match prepOf s.p txn with
  | some _ => (1, 0)
  | none => match endOf s.e txn with
    | none => (0, 0)
    | some x => if 0 < x.2 then (2, x.2) else (3, 0)
def insP (p : List Rec) (r : Rec) : List Rec := p.takeWhile (fun q => decide (q.txn < r.txn)) ++ r :: p.dropWhile (fun q => decide (q.txn < r.txn))
def outP (p : List Rec) (txn : Int) : List Rec := p.eraseP (fun q => decide (q.txn = txn))
def capE (e : List (Int × Int)) : List (Int × Int) := if 1024 < e.length then e.drop 1 else e
def endP (s : Shf) (txn ts : Int) : Shf := ⟨s.k, outP s.p txn, capE (s.e ++ [(txn, ts)]), s.over⟩
def prepareP (s : Shf) (r : Rec) : Shf × Int :=
  if (stateP s r.txn).1 ≠ 0 then (s, 6)
  else if r.keys.any (fun y => heldB s y false) then (s, 180)
  else if r.ws.any (fun x => heldB s x.key true) then (s, 180)
  else if 1024 ≤ s.p.length then (s, 2)
  else (⟨s.k, insP s.p r, s.e, s.over⟩, 0)
def addK (k : List Kc) (key : ByteArray) (v : Vr) : List Kc := putK k key (addP (chainK k key) v).1
def addW (ts : Int) : List Wr → List Kc → List Kc
  | [], k => k
  | x :: r, k => addW ts r (addK k x.key ⟨ts, x.shard, x.dead⟩)
def longW (k : List Kc) : List Wr → Nat → Bool
  | [], _ => false
  | x :: r, n => (decide (1024 ≤ (chainK k x.key).length) || decide (1024 < if hasK k x.key then n else n + 1)) || longW k r (if hasK k x.key then n else n + 1)
def doP (s : Shf) (txn ts : Int) : Shf × Int :=
  if 1 < (stateP s txn).1 then (if (stateP s txn).2 = ts then (s, 6) else (s, 120))
  else match prepOf s.p txn with
    | none => (endP s txn ts, 0)
    | some r =>
      if 0 < ts then
        if r.ws.any (fun x => decide (ts ≤ lastT (chainK s.k x.key))) then (s, 110)
        else if longW s.k r.ws s.k.length then (s, 2)
        else (endP ⟨addW ts r.ws s.k, s.p, s.e, s.over⟩ txn ts, 0)
      else (endP s txn ts, 0)
def verP (s : Shf) (key : ByteArray) (v : Vr) : Shf × Int :=
  if (addP (chainK s.k key) v).2 ≠ 0 then (s, (addP (chainK s.k key) v).2)
  else if hasK s.k key = false ∧ 1024 ≤ s.k.length then (s, 2)
  else (⟨addK s.k key v, s.p, s.e, s.over⟩, 0)
def sweepK (k : List Kc) (t : Int) : List Kc := (k.map (fun x => ⟨x.name, sweepL x.l t⟩)).filter (fun x => !x.l.isEmpty)
def sweepS (s : Shf) (t : Int) : Shf × Int := if t < s.over then (s, 110) else (⟨sweepK s.k t, s.p, s.e, t⟩, 0)
open Classical in
noncomputable def applyP (s : Shf) (r : Rec) : Shf × Int :=
  if ¬ RecOk r then (s, 80)
  else if r.kind = 1 then prepareP s r
  else if r.kind = 2 then doP s r.txn r.ts
  else if r.kind = 3 then verP s r.key ⟨r.ts, r.text, r.dead⟩
  else if r.kind = 4 then sweepS s r.ts
  else (s, 80)
def readP (s : Shf) (key : ByteArray) (t : Int) : Int × Vr :=
  if t < s.over then (4, noVr)
  else if heldB s key false then (3, noVr)
  else if (atV (chainK s.k key) t).2 = false then (0, noVr)
  else if (atV (chainK s.k key) t).1.dead then (2, (atV (chainK s.k key) t).1)
  else (1, (atV (chainK s.k key) t).1)
def sweepR (t : Int) : Rec := ⟨4, 0, t, 0, ⟨#[]⟩, ⟨#[]⟩, false, [], []⟩
def verR (key : ByteArray) (v : Vr) : Rec := ⟨3, 0, v.ts, 0, key, v.shard, v.dead, [], []⟩
def doR (x : Int × Int) : Rec := ⟨2, x.1, x.2, 0, ⟨#[]⟩, ⟨#[]⟩, false, [], []⟩
def recordsP (s : Shf) : List Rec := (if 0 < s.over then [sweepR s.over] else []) ++ (s.k.flatMap fun x => x.l.map (verR x.name)) ++ s.e.map doR ++ s.p
abbrev Sorted (k : List Kc) : Prop := k.Pairwise (fun x y => ltK x.name y.name = true)
structure ShOk (s : Shf) : Prop where
  ks : Sorted s.k
  kn : ∀ x ∈ s.k, keyOk x.name
  kc : ∀ x ∈ s.k, ChOk x.l
  kz : ∀ x ∈ s.k, x.l ≠ []
  kl : s.k.length ≤ 1024
  pr : s.p.Pairwise (fun x y => x.txn < y.txn)
  po : ∀ r ∈ s.p, RecOk r ∧ r.kind = 1
  pl : s.p.length ≤ 1024
  pa : ∀ r ∈ s.p, ∀ q ∈ s.p, r.txn ≠ q.txn → ∀ x ∈ r.ws, heldR q x.key true = false
  el : s.e.length ≤ 1024
  ed : s.e.Pairwise (fun x y => x.1 ≠ y.1)
  eo : ∀ x ∈ s.e, txnOk x.1 ∧ stampOk x.2
  ep : ∀ x ∈ s.e, ∀ r ∈ s.p, r.txn ≠ x.1
  ov : stampOk s.over
theorem ok_empty : ShOk empty := by
  refine ⟨List.Pairwise.nil, ?_, ?_, ?_, ?_, List.Pairwise.nil, ?_, ?_, ?_, ?_, List.Pairwise.nil, ?_, ?_, ?_⟩
  all_goals first | (intro x hx; simp [empty] at hx; done) | (simp [empty]; done) | (unfold empty stampOk; simp)
theorem find_put : ∀ (k : List Kc) (key : ByteArray) (l : List Vr) (key' : ByteArray), findK (putK k key l) key' = if key' = key then some ⟨key, l⟩ else findK k key'
  | [], key, l, key' => by
    unfold putK findK
    by_cases h : key' = key
    · rw [if_pos h, List.find?_cons_of_pos (by simp [h])]
    · rw [if_neg h, List.find?_cons_of_neg (by simp; exact fun e => h e.symm)]
  | x :: r, key, l, key' => by
    unfold putK
    by_cases h1 : ltK x.name key = true
    · rw [if_pos h1]
      have ih := find_put r key l key'
      unfold findK at ih ⊢
      by_cases h2 : x.name = key'
      · rw [List.find?_cons_of_pos (by simp [h2]), List.find?_cons_of_pos (by simp [h2]), if_neg (fun e => lt_ne h1 (h2.trans e))]
      · rw [List.find?_cons_of_neg (by simp [h2]), List.find?_cons_of_neg (by simp [h2]), ih]
    · rw [if_neg h1]
      by_cases h3 : x.name = key
      · rw [if_pos h3]
        unfold findK
        by_cases h : key' = key
        · rw [if_pos h, List.find?_cons_of_pos (by simp [h])]
        · rw [if_neg h, List.find?_cons_of_neg (by simp; exact fun e => h e.symm), List.find?_cons_of_neg (by simp; exact fun e => h (e.symm.trans h3))]
      · rw [if_neg h3]
        unfold findK
        by_cases h : key' = key
        · rw [if_pos h, List.find?_cons_of_pos (by simp [h])]
        · rw [if_neg h, List.find?_cons_of_neg (by simp; exact fun e => h e.symm)]
theorem chain_put (k : List Kc) (key : ByteArray) (l : List Vr) (key' : ByteArray) : chainK (putK k key l) key' = if key' = key then l else chainK k key' := by
  unfold chainK
  rw [find_put]
  by_cases h : key' = key
  · rw [if_pos h, if_pos h]
  · rw [if_neg h, if_neg h]
theorem mem_put : ∀ (k : List Kc) (key : ByteArray) (l : List Vr) (y : Kc), y ∈ putK k key l → y = ⟨key, l⟩ ∨ y ∈ k
  | [], key, l, y, h => by
    unfold putK at h
    exact .inl (List.mem_singleton.1 h)
  | x :: r, key, l, y, h => by
    unfold putK at h
    by_cases h1 : ltK x.name key = true
    · rw [if_pos h1] at h
      rcases List.mem_cons.1 h with h | h
      · exact .inr (by rw [h]; exact List.mem_cons_self ..)
      · exact (mem_put r key l y h).imp id (fun h => List.mem_cons_of_mem _ h)
    · rw [if_neg h1] at h
      by_cases h3 : x.name = key
      · rw [if_pos h3] at h
        rcases List.mem_cons.1 h with h | h
        · exact .inl h
        · exact .inr (List.mem_cons_of_mem _ h)
      · rw [if_neg h3] at h
        rcases List.mem_cons.1 h with h | h
        · exact .inl h
        · exact .inr h
theorem put_sorted : ∀ {k : List Kc} (key : ByteArray) (l : List Vr), Sorted k → Sorted (putK k key l)
  | [], key, l, _ => by unfold putK; simp [Sorted]
  | x :: r, key, l, h => by
    obtain ⟨h1, h2⟩ := List.pairwise_cons.1 h
    unfold putK
    by_cases hl : ltK x.name key = true
    · rw [if_pos hl]
      refine List.pairwise_cons.2 ⟨fun y hy => ?_, put_sorted key l h2⟩
      rcases mem_put r key l y hy with rfl | hy
      · exact hl
      · exact h1 y hy
    · rw [if_neg hl]
      by_cases h3 : x.name = key
      · rw [if_pos h3]
        exact List.pairwise_cons.2 ⟨fun y hy => by show ltK key y.name = true; rw [← h3]; exact h1 y hy, h2⟩
      · rw [if_neg h3]
        have hk : ltK key x.name = true := by
          rcases lt_total key x.name with h | h | h
          · exact h
          · exact absurd h.symm h3
          · exact absurd h hl
        refine List.pairwise_cons.2 ⟨fun y hy => ?_, h⟩
        rcases List.mem_cons.1 hy with rfl | hy
        · exact hk
        · exact lt_trans hk (h1 y hy)
theorem find_mem {k : List Kc} {key : ByteArray} {x : Kc} (h : findK k key = some x) : x ∈ k ∧ x.name = key := ⟨List.mem_of_find?_eq_some h, by simpa using List.find?_some h⟩
theorem find_of_mem {k : List Kc} (hs : Sorted k) {x : Kc} (hx : x ∈ k) : findK k x.name = some x := by
  induction k with
  | nil => cases hx
  | cons y r ih =>
    obtain ⟨h1, h2⟩ := List.pairwise_cons.1 hs
    unfold findK
    rcases List.mem_cons.1 hx with rfl | hx
    · rw [List.find?_cons_of_pos (by simp)]
    · rw [List.find?_cons_of_neg (by simp; exact lt_ne (h1 x hx))]
      exact ih h2 hx
theorem find_above {k : List Kc} {key : ByteArray} (h : ∀ x ∈ k, ltK key x.name = true) : findK k key = none := by
  unfold findK
  rw [List.find?_eq_none]
  intro x hx e
  exact lt_ne (h x hx) (by simpa using (of_decide_eq_true e).symm)
theorem put_len : ∀ {k : List Kc} (key : ByteArray) (l : List Vr), Sorted k → (putK k key l).length = if hasK k key then k.length else k.length + 1
  | [], key, l, _ => rfl
  | x :: r, key, l, h => by
    obtain ⟨h1, h2⟩ := List.pairwise_cons.1 h
    have ih := put_len key l h2
    unfold hasK findK at ih ⊢
    unfold putK
    by_cases hl : ltK x.name key = true
    · rw [if_pos hl, List.find?_cons_of_neg (by simp; exact lt_ne hl), List.length_cons, ih, List.length_cons]
      split <;> rfl
    · rw [if_neg hl]
      by_cases h3 : x.name = key
      · rw [if_pos h3, List.find?_cons_of_pos (by simp [h3])]
        rfl
      · rw [if_neg h3]
        have hk : ltK key x.name = true := by
          rcases lt_total key x.name with h | h | h
          · exact h
          · exact absurd h.symm h3
          · exact absurd h hl
        have := find_above (k := x :: r) (key := key) (fun y hy => by
          rcases List.mem_cons.1 hy with rfl | hy
          · exact hk
          · exact lt_trans hk (h1 y hy))
        unfold findK at this
        rw [this]
        rfl
theorem sweep_sorted {k : List Kc} (t : Int) (h : Sorted k) : Sorted (sweepK k t) := by
  unfold sweepK
  refine List.Pairwise.filter _ (List.pairwise_map.2 h)
theorem mem_sweep {k : List Kc} {t : Int} {y : Kc} (h : y ∈ sweepK k t) : ∃ x ∈ k, y = ⟨x.name, sweepL x.l t⟩ ∧ sweepL x.l t ≠ [] := by
  unfold sweepK at h
  obtain ⟨h1, h2⟩ := List.mem_filter.1 h
  obtain ⟨x, hx, rfl⟩ := List.mem_map.1 h1
  exact ⟨x, hx, rfl, fun e => by simp [e] at h2⟩
theorem sweep_len (k : List Kc) (t : Int) : (sweepK k t).length ≤ k.length := by
  unfold sweepK
  refine Nat.le_trans (List.length_filter_le ..) ?_
  rw [List.length_map]
  exact Nat.le_refl _
end Sh
end Go.Proofs.YtbkanoblcojdfaaGreat

namespace Go.Proofs.YtbkanoblcojdfaaGreat
namespace Ch
open Go.ChangeShapes Go.WideShapes Go.ChangeAt Go.RowKit Go.Joins Go.Deep Bk
def vcs (x : Vr) : List Value := [.int .i64 x.ts, .string x.shard, .bool x.dead]
def vrV (l : List Vr) : List Value := l.flatMap vcs
def VrsAt (w : World) (A : Option Addr) (l : List Vr) : Prop :=
  0 < l.length → ∃ ad, A = some ad ∧ ad.block < w.heap.size ∧ ∀ i (h : i < l.length), w.cell? (ad.add (i * 3)) = some (.int .i64 l[i].ts) ∧ w.cell? (ad.add (i * 3 + 1)) = some (.string l[i].shard) ∧ w.cell? (ad.add (i * 3 + 2)) = some (.bool l[i].dead)
theorem VrsAt.below {w w' : World} {A : Option Addr} {l : List Vr} (h : VrsAt w A l) (hb : Below w.heap.size w w') : VrsAt w' A l := fun hp => by
  obtain ⟨ad, h1, h2, h3⟩ := h hp
  exact ⟨ad, h1, Nat.lt_of_lt_of_le h2 hb.size, fun i hi => ⟨(cell_kept hb _ (by rw [st_block]; exact h2)).trans (h3 i hi).1, (cell_kept hb _ (by rw [st_block]; exact h2)).trans (h3 i hi).2.1, (cell_kept hb _ (by rw [st_block]; exact h2)).trans (h3 i hi).2.2⟩⟩
theorem VrsAt.alloc {w : World} {A : Option Addr} {l : List Vr} (h : VrsAt w A l) (o : Obj) : VrsAt (w.alloc o) A l := h.below ((Below.refl _ w).alloc (Nat.le_refl _) o)
structure VrRng (x : Vr) : Prop where
  ts : -9223372036854775808 ≤ x.ts ∧ x.ts ≤ 9223372036854775807
  shard : x.shard.size ≤ reachBytes
section
variable {H : Type} {enc : TypeId × Value → H} {W : World}
set_option maxRecDepth 20000 in
theorem open_agg_any {r : Reach} {b0 : Nat} {t : TypeId} {fs : Array Field} {v : Value} {d : DataW H} {p : List MemPlace} (hs : Tryz.prog.underlying t = some (.struct fs)) (hone : oneCellFields Tryz.prog fs = true) (hC : Tryz.prog.cellsOf t = fs.size)
    (hv : Value.okWide Tryz.prog W r b0 t v) (h : DataW.Trod enc Tryz.prog W 0 (fun _ => true) true t v d p) :
    ∃ (cs : List Value) (xs : List (DataW H × List MemPlace)) (n : Nat), v = .agg cs.toArray ∧ cs.length = fs.size ∧ d = .agg (xs.map (·.1)) ∧ p = xs.flatMap (·.2) ∧ xs.length = fs.size ∧
      ∀ (i : Nat) (f : Field) (u : Value) (y : DataW H × List MemPlace), fs[i]? = some f → cs[i]? = some u → xs[i]? = some y → DataW.trod enc Tryz.prog W 0 (fun _ => true) true n f.type [u] = some y := by
  obtain ⟨cs, rfl, hsz⟩ := okWide_struct hs hv
  obtain ⟨fuel, hf⟩ := h
  obtain ⟨xs, n, _, hx, _, hlen, hall⟩ := DataW.trod_struct hs hf
  simp only [Prod.mk.injEq] at hx
  refine ⟨cs.toList, xs, n, by simp, by rw [Array.length_toList, hsz, hC], hx.1, hx.2, hlen, fun i f u y hi hu hy => ?_⟩
  obtain ⟨o, k⟩ := hone_of hone i f hi
  have h1 := hall i f hi
  rw [o, k, hy] at h1
  rw [← h1]
  congr 1
  have hlt : i < cs.toList.length := (List.getElem?_eq_some_iff.1 hu).1
  show [u] = List.take 1 (List.drop i cs.toList)
  rw [List.drop_eq_getElem_cons hlt, List.take_succ_cons, List.take_zero, (List.getElem?_eq_some_iff.1 hu).2]
theorem agg_weights {t : TypeId} {fs : Array Field} (hs : Tryz.prog.underlying t = some (.struct fs)) {xs : List (DataW H × List MemPlace)} {i : Nat} {f : Field} {y : DataW H × List MemPlace} (hi : fs[i]? = some f) (hy : xs[i]? = some y) (hw : ∀ k ∈ (DataW.agg (xs.map (·.1))).weights Tryz.prog t, k ≤ reachBytes) : ∀ k ∈ y.1.weights Tryz.prog f.type, k ≤ reachBytes := fun k hk => hw k (by
  simp only [DataW.weights, hs]
  exact DataW.weights_mem_each (ts := fs.toList.map (·.type)) (ds := xs.map (·.1)) (j := i) (by rw [List.getElem?_map, Array.getElem?_toList, hi]; rfl) (by rw [List.getElem?_map, hy]; rfl) k hk)
end
theorem Tryz.infoVer : (Tryz.prog.info? 77).map (fun i => (i.zero, i.size, i.bytes)) = some (some (.agg #[.int .i64 0, .string ⟨#[]⟩, .bool false]), 3, 32) := by kernel_rfl
theorem vrV_len (l : List Vr) : (vrV l).length = l.length * 3 := by
  induction l with
  | nil => rfl
  | cons x r ih => unfold vrV at ih ⊢; rw [List.flatMap_cons, List.length_append, ih, List.length_cons]; show 3 + _ = _; omega
theorem vrV_at : ∀ (l : List Vr) (i : Nat) (h : i < l.length), (vrV l)[i * 3]? = some (.int .i64 l[i].ts) ∧ (vrV l)[i * 3 + 1]? = some (.string l[i].shard) ∧ (vrV l)[i * 3 + 2]? = some (.bool l[i].dead)
  | [], _, h => absurd h (by simp)
  | x :: r, 0, _ => ⟨rfl, rfl, rfl⟩
  | x :: r, i + 1, h => by
    have h3 : (vcs x).length = 3 := rfl
    obtain ⟨h0, h1, h2⟩ := vrV_at r i (by simpa using h)
    unfold vrV at h0 h1 h2 ⊢
    rw [List.flatMap_cons, List.getElem?_append_right (by omega), List.getElem?_append_right (by omega), List.getElem?_append_right (by omega), h3]
    rw [show (i + 1) * 3 - 3 = i * 3 by omega, show (i + 1) * 3 + 1 - 3 = i * 3 + 1 by omega, show (i + 1) * 3 + 2 - 3 = i * 3 + 2 by omega]
    exact ⟨h0, h1, h2⟩
theorem vrV_app (a b : List Vr) : vrV (a ++ b) = vrV a ++ vrV b := by unfold vrV; rw [List.flatMap_append]
theorem vrV_snoc (a : List Vr) (x : Vr) : vrV (a ++ [x]) = vrV a ++ vcs x := by rw [vrV_app]; unfold vrV; simp
theorem vrV_one (l : List Vr) : ∀ u ∈ vrV l, u.oneCell' = true := fun u hu => by
  obtain ⟨x, _, hx⟩ := List.mem_flatMap.1 hu
  unfold vcs at hx
  simp only [List.mem_cons, List.not_mem_nil, or_false] at hx
  rcases hx with rfl | rfl | rfl <;> rfl
theorem VrsAt.news {w : World} {ad : Addr} {l : List Vr} (h : VrsAt w (some ad) l) : ∀ j u, (vrV l)[j]? = some u → w.cell? (ad.add j) = some u := fun j u hu => by
  have hj : j < l.length * 3 := by
    have := (List.getElem?_eq_some_iff.1 hu).1
    rwa [vrV_len] at this
  obtain ⟨a', e, _, h3⟩ := h (by omega)
  obtain rfl := Option.some.inj e
  obtain ⟨y0, y1, y2⟩ := vrV_at l (j / 3) (by omega)
  obtain ⟨x0, x1, x2⟩ := h3 (j / 3) (by omega)
  have hc : j % 3 = 0 ∨ j % 3 = 1 ∨ j % 3 = 2 := by omega
  rcases hc with r | r | r
  · have ej : j = j / 3 * 3 := by omega
    rw [← ej] at y0 x0
    rw [y0] at hu; rw [x0]; exact hu
  · have ej : j = j / 3 * 3 + 1 := by omega
    rw [← ej] at y1 x1
    rw [y1] at hu; rw [x1]; exact hu
  · have ej : j = j / 3 * 3 + 2 := by omega
    rw [← ej] at y2 x2
    rw [y2] at hu; rw [x2]; exact hu
end Ch
end Go.Proofs.YtbkanoblcojdfaaGreat

namespace Go.Proofs.YtbkanoblcojdfaaGreat
namespace Ch
open Go.RowKit Bk
attribute [local go_sem ↓] Go.wp_at_zero Go.wp_at_succ
attribute [local go_sem] floatUpon pick
theorem add_field (a : Addr) (n k : Nat) (hk : 0 < k) : (⟨(a.add n).block, (a.add n).off + k, none⟩ : Addr) = a.add (n + k) := by
  unfold Addr.add
  by_cases h : n = 0
  · rw [if_pos h, if_neg (by omega), h, Nat.zero_add]
  · rw [if_neg h, if_neg (by omega)]
    simp only [Nat.add_assoc]
end Ch
end Go.Proofs.YtbkanoblcojdfaaGreat

namespace Go.Proofs.YtbkanoblcojdfaaGreat
namespace Ch
open Go.RowKit Bk
attribute [local go_sem ↓] Go.wp_at_zero Go.wp_at_succ
attribute [local go_sem] floatUpon pick
theorem run_append_opt3 {P : Program} (w : World) (base : Nat) (t ty e : TypeId) (i : TypeInfo) (z : Value) (bytes : Nat) (ht : P.underlying t = some (.slice e)) (hi : P.info? e = some i) (hz : i.zero = some z)
    (hsize : i.size = 3) (hby : i.bytes = bytes) (hzs : z.cells.size = 3) (v : Value) (n : Nat) (xs : List Value) (hown : w.ownsRow base e 3 v n xs)
    (A : Option Addr) (m c : Nat) (news : List Value) (hl : news.length = m * 3) (hA : A = none → m = 0 ∧ c = 0) (hnews : ∀ ad, A = some ad → ∀ j u, news[j]? = some u → w.cell? (ad.add j) = some u) (h1 : ∀ u ∈ news, u.oneCell' = true)
    (h63 : n + m ≤ maxLen) (hbytes : (n + m) * bytes ≤ 140737488355328) (hbase : base ≤ w.heap.size) :
    ∃ v' w', (Builtin.append_ #[t, t] ty #[v, .slice A m c]).run P w = .ok v' w' ∧ w'.ownsRow base e 3 v' (n + m) (xs ++ news) ∧ w.grownBy w' v.ownBlock ∧ (v'.ownBlock = v.ownBlock ∨ v'.ownBlock = some w.heap.size) := by
  cases A with
  | none =>
    obtain ⟨rfl, rfl⟩ := hA rfl
    obtain rfl : news = [] := List.eq_nil_of_length_eq_zero (by omega)
    exact ⟨v, w, run_append_owned_none (P := P) w base t ty e i 3 ht hi _ _ _ hown, by rw [List.append_nil]; exact hown, ⟨rfl, rfl, rfl, Nat.le_refl _, fun _ _ _ => rfl⟩, .inl rfl⟩
  | some ad =>
    obtain ⟨v', w', hr, h2, h3, _, h5⟩ := run_append_own_at (P := P) w base t ty e i z 3 bytes ht hi hz hsize hby hzs (by omega) v n xs hown ad m c news hl (hnews ad rfl) h1 h63 hbytes hbase
    exact ⟨v', w', hr, h2, h3, h5⟩
theorem wpList_append_opt3 {P : Program} {w : World} {ops : Array Oper} {rest : List Oper} {o : Oper} {a : Act} {Q : Exit → Act → World → Prop} (hgd : o.guard = none) (s x : Operand) (t : TypeId)
    (ho : o.op = .call { callee := .builtin .append, args := #[s, x], argTypes := #[t, t] })
    (base : Nat) (e : TypeId) (i : TypeInfo) (z : Value) (bytes : Nat) (ht : P.underlying t = some (.slice e)) (hi : P.info? e = some i) (hz : i.zero = some z)
    (hsize : i.size = 3) (hby : i.bytes = bytes) (hzs : z.cells.size = 3) (v : Value) (n : Nat) (xs : List Value) (hs : a.eval s = v) (hown : w.ownsRow base e 3 v n xs)
    (A : Option Addr) (m c : Nat) (news : List Value) (hx : a.eval x = .slice A m c) (hl : news.length = m * 3) (hA : A = none → m = 0 ∧ c = 0) (hnews : ∀ ad, A = some ad → ∀ j u, news[j]? = some u → w.cell? (ad.add j) = some u) (h1 : ∀ u ∈ news, u.oneCell' = true)
    (h63 : n + m ≤ maxLen) (hbytes : (n + m) * bytes ≤ 140737488355328) (hbase : base ≤ w.heap.size)
    (h : ∀ v' w', w'.ownsRow base e 3 v' (n + m) (xs ++ news) → w.grownBy w' v.ownBlock → (v'.ownBlock = v.ownBlock ∨ v'.ownBlock = some w.heap.size) → wpList P ops Q rest (a.put o.dst v') w') :
    wpList P ops Q (o :: rest) a w := by
  refine wpList_plain hgd fun K hK => ?_
  obtain ⟨v', w', hr, h2, h3, h5⟩ := run_append_opt3 (P := P) w base t o.type e i z bytes ht hi hz hsize hby hzs v n xs hown A m c news hl hA hnews h1 h63 hbytes hbase
  unfold Oper.wp execOp
  simp only [ho, resolve, invoke, builtin, Sem.run_bind, Sem.run_pure, Result.andThen_ok, List.map_toArray, List.map_cons, List.map_nil, hs, hx, hr]
  exact hK _ _ (h v' w' h2 h3 h5)
def markV : Vr := ⟨-77, ⟨#[]⟩, false⟩
theorem new_cells (w : World) (x : Vr) (t : TypeId) : ∀ j u, (vcs x)[j]? = some u → (w.alloc (.cells (vcs x).toArray t)).cell? ((⟨w.heap.size, 0, none⟩ : Addr).add j) = some u := fun j u hj => by
  rw [addr_head]
  exact blk_cell (blk1 w _).2 (by rw [List.getElem?_toArray]; exact hj)
theorem vcs_one (x : Vr) : ∀ u ∈ vcs x, u.oneCell' = true := fun u hu => by
  unfold vcs at hu
  simp only [List.mem_cons, List.not_mem_nil, or_false] at hu
  rcases hu with rfl | rfl | rfl <;> rfl
theorem vrs_own {w : World} {H n : Nat} {v : Value} {e : TypeId} {l : List Vr} (h : w.ownsRow H e 3 v n (vrV l)) (hl : n = l.length) : ∃ (A : Option Addr) (c : Nat), v = .slice A n c ∧ VrsAt w A l ∧ n ≤ c ∧ c ≤ maxLen ∧ (A = none → n = 0 ∧ c = 0) := by
  rcases h.2 with ⟨rfl, rfl⟩ | ⟨g, cap, cur, rfl, _, hg, h1, h2, hsz, htk⟩
  · exact ⟨none, 0, rfl, fun hp => by omega, Nat.le_refl _, Nat.zero_le _, fun _ => ⟨rfl, rfl⟩⟩
  · refine ⟨_, cap, rfl, fun _ => ⟨_, rfl, (Array.getElem?_eq_some_iff.1 hg).1, fun i hi => ?_⟩, h1, h2, fun e => by cases e⟩
    obtain ⟨x0, x1, x2⟩ := vrV_at l i hi
    have hlen : (vrV l).length = n * 3 := by rw [vrV_len, hl]
    have hc : ∀ j u, (vrV l)[j]? = some u → w.cell? ((⟨g, 0, none⟩ : Addr).add j) = some u := fun j u hu => by
      rw [addr_head]
      refine blk_cell hg ?_
      have hj := (List.getElem?_eq_some_iff.1 hu).1
      rw [← htk, List.getElem?_take_of_lt (by omega)] at hu
      rw [← Array.getElem?_toList]; exact hu
    exact ⟨hc _ _ x0, hc _ _ x1, hc _ _ x2⟩
def Lent (W : World) (H : Nat) (l : List Vr) (g cap : Nat) : Prop := W.ownsRow H 77 3 (.slice (some ⟨g, 0, none⟩) (l.length + 1) cap) (l.length + 1) (vrV (l ++ [markV]))
theorem Lent.cap {W : World} {H g cap : Nat} {l : List Vr} (h : Lent W H l g cap) : l.length + 1 ≤ cap ∧ cap ≤ 9223372036854775807 ∧ g < W.heap.size ∧ H ≤ g := by
  rcases h.2 with ⟨h1, h2⟩ | ⟨g', cap', cur, h1, h0, h2, h3, h4, _⟩
  · simp at h1
  · simp only [Value.slice.injEq, Option.some.injEq, Addr.mk.injEq] at h1
    obtain ⟨⟨rfl, -⟩, -, rfl⟩ := h1
    unfold maxLen at h4
    exact ⟨h3, h4, (Array.getElem?_eq_some_iff.1 h2).1, h0⟩
theorem Lent.vrs {W : World} {H g cap : Nat} {l : List Vr} (h : Lent W H l g cap) : VrsAt W (some ⟨g, 0, none⟩) l := by
  obtain ⟨A, c, e, h1, _⟩ := vrs_own h (by simp)
  simp only [Value.slice.injEq] at e
  obtain ⟨rfl, -, -⟩ := e
  intro hp
  obtain ⟨ad, e, h2, h3⟩ := h1 (by simp)
  refine ⟨ad, e, h2, fun i hi => ?_⟩
  have := h3 i (by rw [List.length_append]; omega)
  rwa [List.getElem_append_left hi] at this
theorem Lent.below {W W' : World} {H g cap : Nat} {l : List Vr} (h : Lent W H l g cap) (hb : Below W.heap.size W W') : Lent W' H l g cap := st_keep h hb
end Ch
end Go.Proofs.YtbkanoblcojdfaaGreat

namespace Go.Proofs.YtbkanoblcojdfaaGreat
namespace Ch
open Go.RowKit Bk
attribute [local go_sem ↓] Go.wp_at_zero Go.wp_at_succ
attribute [local go_sem] floatUpon pick
theorem below_drew (B : Nat) (W : World) (n : Nat) : Below B W (W.drewN n) := ⟨rfl, rfl, rfl, Nat.le_refl _, fun _ _ => rfl⟩
def prevT (l : List Vr) (j : Nat) : Option Int := match j with | 0 => none | k + 1 => (l[k]?).map (·.ts)
theorem chk_step {l : List Vr} {j : Nat} (h : j < l.length) : chkL (prevT l j) (l.drop j) j = if bad (prevT l j) l[j] = 0 then chkL (prevT l (j + 1)) (l.drop (j + 1)) (j + 1) else ((j : Int), bad (prevT l j) l[j]) := by
  rw [List.drop_eq_getElem_cons h]
  show (if bad (prevT l j) l[j] = 0 then chkL (some l[j].ts) (l.drop (j + 1)) (j + 1) else _) = _
  have : prevT l (j + 1) = some l[j].ts := by show (l[j]?).map _ = _; rw [List.getElem?_eq_getElem h]; rfl
  rw [this]
theorem bad_1 {p : Option Int} {x : Vr} (h : x.ts < 1 ∨ 1125899906842624 < x.ts) : bad p x = 1 := by unfold bad; rw [if_pos h]
theorem bad_2 {p : Option Int} {x : Vr} (h1 : ¬ x.ts < 1) (h1' : ¬ 1125899906842624 < x.ts) (h2 : 2052 < x.shard.size) : bad p x = 2 := by unfold bad; rw [if_neg (by omega), if_pos h2]
theorem bad_4 {p : Option Int} {x : Vr} (h1 : ¬ x.ts < 1) (h1' : ¬ 1125899906842624 < x.ts) (h2 : ¬ 2052 < x.shard.size) (h3 : x.dead = true ∧ x.shard ≠ ⟨#[]⟩) : bad p x = 4 := by unfold bad; rw [if_neg (by omega), if_neg h2, if_pos h3]
theorem bad_110 {q t : Int} {s : ByteArray} {d : Bool} (h : ¬ t < 1 ∧ ¬ 1125899906842624 < t ∧ ¬ 2052 < s.size ∧ ¬ (d = true ∧ s ≠ ⟨#[]⟩)) (h4 : t ≤ q) : bad (some q) ⟨t, s, d⟩ = 110 := by unfold bad; rw [if_neg (by simp only; omega), if_neg h.2.2.1, if_neg h.2.2.2]; show (if t ≤ q then (110 : Int) else 0) = 110; rw [if_pos h4]
theorem bad_go {p : Option Int} {t : Int} {s : ByteArray} {d : Bool} (h : ¬ t < 1 ∧ ¬ 1125899906842624 < t ∧ ¬ 2052 < s.size ∧ ¬ (d = true ∧ s ≠ ⟨#[]⟩)) (h4 : ∀ q, p = some q → q < t) : bad p ⟨t, s, d⟩ = 0 := bad_ok.2 ⟨⟨by simp only; omega, by simp only; omega, by simp only; omega, h.2.2.2⟩, h4⟩
set_option maxRecDepth 20000 in
set_option maxHeartbeats 8000000 in
theorem rcheck_any (A : Option Addr) (c : Nat) (l : List Vr) (w : World) (h : VrsAt w A l) (hn : l.length * 32 ≤ 140737488351232) (hr : ∀ x ∈ l, VrRng x) :
    Calls Tryz.prog 165 #[.slice A l.length c] w fun e w' => e = .returned (.tuple #[.int .i64 (chkP l).1, .int .i64 (chkP l).2]) ∧ Below w.heap.size w w' := by
  have HA := Lib.hid h
  have HR := Lib.hid hr
  clear h hr
  have hlen : (l.length : Int) ≤ 9223372036854775807 := by omega
  by_cases hl : 1024 < l.length
  · have pl : (1024 : Int) < (l.length : Int) := by omega
    have E := Lib.hid (show chkP l = (-1, 2) by unfold chkP; rw [if_pos hl])
    clear hl
    go_enter Tryz.func165, Tryz.ntmps165
    go_wp2_with fail
    go_ret2
    exact ⟨by rw [E.out]; rfl, Below.refl _ _⟩
  · have pl : ¬ (1024 : Int) < (l.length : Int) := by omega
    have E := Lib.hid (show chkP l = chkL none l 0 by unfold chkP; rw [if_neg hl])
    clear hl
    go_enter Tryz.func165, Tryz.ntmps165
    go_wp2_with fail
    go_loopw [4] (fun iv wr => ∃ j : Nat, j ≤ l.length ∧ iv = .int .i64 (j : Int) ∧ Hid (chkL none l 0 = chkL (prevT l j) (l.drop j) j) ∧ Hid (Below w.heap.size w wr)) (fun iv _ => l.length - (intOf iv).toNat)
    case atStart => exact ⟨0, by omega, rfl, Lib.hid rfl, Lib.hid (Below.refl _ _)⟩
    case round =>
      obtain ⟨j, hj, rfl, hs, hb⟩ := hrel
      by_cases hlt : j < l.length
      · have pj : (j : Int) < (l.length : Int) := by omega
        obtain ⟨ad, rfl, hab, hcl⟩ := (HA.out.below hb.out) (by omega)
        obtain ⟨x0, x1, x2⟩ := hcl j hlt
        have hcl2 : ∀ k (h : k < l.length), wr.cell? (ad.add (k * 3)) = some (.int .i64 l[k].ts) ∧ True ∧ True := fun k h => ⟨(hcl k h).1, trivial, trivial⟩
        have HCl := Lib.hid hcl2
        have ST := Lib.hid (chk_step hlt)
        have hrg := (HR.out _ (List.getElem_mem hlt)).shard
        rw [← add_field _ _ _ (by omega)] at x1 x2
        obtain ⟨X, hX⟩ : ∃ X, l[j] = X := ⟨_, rfl⟩
        have HXe := Lib.hid hX
        rw [hX] at x0 x1 x2 hrg
        clear hX hab hcl hcl2
        obtain ⟨xt, xs, xd⟩ := X
        simp only at x0 x1 x2 hrg
        have rb : reachBytes = 140737488351232 := rfl
        have hxs : (xs.size : Int) ≤ 140737488351232 := by omega
        clear hrg rb
        by_cases h1 : xt < 1
        ·
          have E2 := Lib.hid (show chkP l = ((j : Int), 1) by
            have hbad : bad (prevT l j) ⟨xt, xs, xd⟩ = 1 := bad_1 (.inl h1)
            rw [E.out, hs.out, ST.out, HXe.out, hbad]; rfl)
          have HB := hb
          clear hs hb
          go_wp2_with fail
          go_ret2
          exact ⟨by rw [E2.out]; rfl, HB.out⟩
        by_cases h1' : 1125899906842624 < xt
        ·
          have E2 := Lib.hid (show chkP l = ((j : Int), 1) by
            have hbad : bad (prevT l j) ⟨xt, xs, xd⟩ = 1 := bad_1 (.inr h1')
            rw [E.out, hs.out, ST.out, HXe.out, hbad]; rfl)
          have HB := hb
          clear hs hb
          go_wp2_with fail
          go_ret2
          exact ⟨by rw [E2.out]; rfl, HB.out⟩
        by_cases h2 : 2052 < xs.size
        · have ps : (2052 : Int) < (xs.size : Int) := by omega
          have E2 := Lib.hid (show chkP l = ((j : Int), 2) by
            have hbad : bad (prevT l j) ⟨xt, xs, xd⟩ = 2 := bad_2 h1 h1' h2
            rw [E.out, hs.out, ST.out, HXe.out, hbad]; rfl)
          have HB := hb
          clear hs hb
          go_wp2_with fail
          go_ret2
          exact ⟨by rw [E2.out]; rfl, HB.out⟩
        have ps : ¬ (2052 : Int) < (xs.size : Int) := by omega
        cases xd with
        | false =>
          have h3 : ¬ ((false : Bool) = true ∧ xs ≠ ⟨#[]⟩) := fun h => by cases h.1
          cases hj0 : (decide (j = 0)) with
          | true =>
            have hz : j = 0 := by simpa using hj0
            have HZ := Lib.hid (show prevT l j = none by rw [hz]; rfl)
            have pz : ¬ (0 : Int) < (j : Int) := by omega
            have pz2 : ¬ 0 < j := by omega
            clear hz hj0
            have HS2 := Lib.hid (show chkL none l 0 = chkL (prevT l (j + 1)) (l.drop (j + 1)) (j + 1) by
              have hbad : bad (prevT l j) ⟨xt, xs, false⟩ = 0 := bad_go ⟨h1, h1', h2, h3⟩ (fun q e => by rw [HZ.out] at e; cases e)
              rw [hs.out, ST.out, HXe.out, hbad]; rfl)
            have HB := hb
            clear hs hb
            go_upto_region 12 with fail
            go_quiet (fail)
            rename_i nq
            have HB := Lib.hid (HB.out.trans (below_drew _ _ nq))
            generalize wr.drewN nq = W9 at HB ⊢
            go_wp2_with fail
            go_roundw
            case rel => exact ⟨j + 1, by omega, by go_num, HS2, HB⟩
            case measure => simp [intOf]; omega
          | false =>
            have hz : ¬ j = 0 := by simpa using hj0
            obtain ⟨k, hk⟩ : ∃ k, j = k + 1 := ⟨j - 1, by omega⟩
            have hkl : k < l.length := by omega
            obtain ⟨y0, -, -⟩ := HCl.out k hkl
            have hp : prevT l j = some l[k].ts := by rw [hk]; show (l[k]?).map _ = _; rw [List.getElem?_eq_getElem hkl]; rfl
            generalize l[k].ts = yt at y0 hp
            have hkj : (j : Int) - 1 = (k : Int) := by omega
            have HP := Lib.hid hp
            have hkb : (k : Int) < (l.length : Int) := by omega
            have hjp : (0 : Int) < (j : Int) := by omega
            have hjp2 : 0 < j := by omega
            clear hk hp hz hkl hj0
            by_cases h4 : xt ≤ yt
            · have E2 := Lib.hid (show chkP l = ((j : Int), 110) by
                have hbad : bad (prevT l j) ⟨xt, xs, false⟩ = 110 := by rw [HP.out]; exact bad_110 ⟨h1, h1', h2, h3⟩ h4
                rw [E.out, hs.out, ST.out, HXe.out, hbad]; rfl)
              have HB := hb
              clear hs hb
              go_upto_region 12 with fail
              go_quiet (fail)
              rename_i nq
              have HB := Lib.hid (HB.out.trans (below_drew _ _ nq))
              generalize wr.drewN nq = W9 at HB ⊢
              go_wp2_with fail
              go_ret2
              exact ⟨by rw [E2.out]; rfl, HB.out⟩
            · have h4' : yt < xt := by omega
              have HS2 := Lib.hid (show chkL none l 0 = chkL (prevT l (j + 1)) (l.drop (j + 1)) (j + 1) by
                have hbad : bad (prevT l j) ⟨xt, xs, false⟩ = 0 := bad_go ⟨h1, h1', h2, h3⟩ (fun q e => by rw [HP.out] at e; obtain rfl := Option.some.inj e; exact h4')
                rw [hs.out, ST.out, HXe.out, hbad]; rfl)
              have HB := hb
              clear hs hb
              go_upto_region 12 with fail
              go_quiet (fail)
              rename_i nq
              have HB := Lib.hid (HB.out.trans (below_drew _ _ nq))
              generalize wr.drewN nq = W9 at HB ⊢
              go_wp2_with fail
              go_roundw
              case rel => exact ⟨j + 1, by omega, by go_num, HS2, HB⟩
              case measure => simp [intOf]; omega
        | true =>
          by_cases he : xs = ⟨#[]⟩
          · subst he
            have t0 := text_eq ⟨#[]⟩
            have h3 : ¬ ((true : Bool) = true ∧ (⟨#[]⟩ : ByteArray) ≠ ⟨#[]⟩) := fun h => h.2 rfl
            cases hj0 : (decide (j = 0)) with
            | true =>
              have hz : j = 0 := by simpa using hj0
              have HZ := Lib.hid (show prevT l j = none by rw [hz]; rfl)
              have pz : ¬ (0 : Int) < (j : Int) := by omega
              have pz2 : ¬ 0 < j := by omega
              clear hz hj0
              have HS2 := Lib.hid (show chkL none l 0 = chkL (prevT l (j + 1)) (l.drop (j + 1)) (j + 1) by
                have hbad : bad (prevT l j) ⟨xt, ⟨#[]⟩, true⟩ = 0 := bad_go ⟨h1, h1', h2, h3⟩ (fun q e => by rw [HZ.out] at e; cases e)
                rw [hs.out, ST.out, HXe.out, hbad]; rfl)
              have HB := hb
              clear hs hb
              go_upto_region 12 with fail
              go_quiet (fail)
              rename_i nq
              have HB := Lib.hid (HB.out.trans (below_drew _ _ nq))
              generalize wr.drewN nq = W9 at HB ⊢
              go_wp2_with fail
              go_roundw
              case rel => exact ⟨j + 1, by omega, by go_num, HS2, HB⟩
              case measure => simp [intOf]; omega
            | false =>
              have hz : ¬ j = 0 := by simpa using hj0
              obtain ⟨k, hk⟩ : ∃ k, j = k + 1 := ⟨j - 1, by omega⟩
              have hkl : k < l.length := by omega
              obtain ⟨y0, -, -⟩ := HCl.out k hkl
              have hp : prevT l j = some l[k].ts := by rw [hk]; show (l[k]?).map _ = _; rw [List.getElem?_eq_getElem hkl]; rfl
              generalize l[k].ts = yt at y0 hp
              have hkj : (j : Int) - 1 = (k : Int) := by omega
              have HP := Lib.hid hp
              have hkb : (k : Int) < (l.length : Int) := by omega
              have hjp : (0 : Int) < (j : Int) := by omega
              have hjp2 : 0 < j := by omega
              clear hk hp hz hkl hj0
              by_cases h4 : xt ≤ yt
              · have E2 := Lib.hid (show chkP l = ((j : Int), 110) by
                  have hbad : bad (prevT l j) ⟨xt, ⟨#[]⟩, true⟩ = 110 := by rw [HP.out]; exact bad_110 ⟨h1, h1', h2, h3⟩ h4
                  rw [E.out, hs.out, ST.out, HXe.out, hbad]; rfl)
                have HB := hb
                clear hs hb
                go_upto_region 12 with fail
                go_quiet (fail)
                rename_i nq
                have HB := Lib.hid (HB.out.trans (below_drew _ _ nq))
                generalize wr.drewN nq = W9 at HB ⊢
                go_wp2_with fail
                go_ret2
                exact ⟨by rw [E2.out]; rfl, HB.out⟩
              · have h4' : yt < xt := by omega
                have HS2 := Lib.hid (show chkL none l 0 = chkL (prevT l (j + 1)) (l.drop (j + 1)) (j + 1) by
                  have hbad : bad (prevT l j) ⟨xt, ⟨#[]⟩, true⟩ = 0 := bad_go ⟨h1, h1', h2, h3⟩ (fun q e => by rw [HP.out] at e; obtain rfl := Option.some.inj e; exact h4')
                  rw [hs.out, ST.out, HXe.out, hbad]; rfl)
                have HB := hb
                clear hs hb
                go_upto_region 12 with fail
                go_quiet (fail)
                rename_i nq
                have HB := Lib.hid (HB.out.trans (below_drew _ _ nq))
                generalize wr.drewN nq = W9 at HB ⊢
                go_wp2_with fail
                go_roundw
                case rel => exact ⟨j + 1, by omega, by go_num, HS2, HB⟩
                case measure => simp [intOf]; omega
          · have t0 := text_ne he
            have t1 : ¬ xs.toList = [] := fun h => he (by
              rw [ByteArray.toList_eq] at h
              obtain ⟨a⟩ := xs
              congr 1
              exact Array.toList_inj.1 h)
            have t2 : xs.toList.isEmpty = false := by rw [List.isEmpty_eq_false_iff]; exact t1
            have E2 := Lib.hid (show chkP l = ((j : Int), 4) by
              have hbad : bad (prevT l j) ⟨xt, xs, true⟩ = 4 := bad_4 h1 h1' h2 ⟨rfl, he⟩
              rw [E.out, hs.out, ST.out, HXe.out, hbad]; rfl)
            have HB := hb
            clear hs hb
            go_wp2_with fail
            go_ret2
            exact ⟨by rw [E2.out]; rfl, HB.out⟩
      · obtain rfl : j = l.length := by omega
        have E2 := Lib.hid (show chkP l = (0, 0) by rw [E.out, hs.out, List.drop_length]; rfl)
        have HB := hb
        clear hs hb
        go_wp2_with fail
        go_ret2
        exact ⟨by rw [E2.out]; rfl, HB.out⟩
end Ch
end Go.Proofs.YtbkanoblcojdfaaGreat

namespace Go.Proofs.YtbkanoblcojdfaaGreat
namespace Ch
open Go.RowKit Bk
attribute [local go_sem ↓] Go.wp_at_zero Go.wp_at_succ
attribute [local go_sem] floatUpon pick
theorem low_at {l : List Vr} {t : Int} : ∀ {n : Nat}, n ≤ l.length → (∀ i (h : i < l.length), i < n → l[i].ts ≤ t) → (∀ h : n < l.length, t < l[n].ts) → lowL l t = l.take n := by
  induction l with
  | nil => intro n _ _ _; simp [lowL]
  | cons x r ih =>
    intro n hn h1 h2
    cases n with
    | zero =>
      have := h2 (by simp)
      unfold lowL
      rw [List.takeWhile_cons_of_neg (by simp; exact this), List.take_zero]
    | succ k =>
      have hx := h1 0 (by simp) (by omega)
      unfold lowL at ih ⊢
      rw [List.takeWhile_cons_of_pos (by simpa using hx), List.take_succ_cons, ih (n := k) (by simpa using hn) (fun i h hi => h1 (i + 1) (by simpa using h) (by omega)) (fun h => h2 (by simpa using h))]
theorem place_at {l : List Vr} {t : Int} {n : Nat} (hn : n ≤ l.length) (h1 : ∀ i (h : i < l.length), i < n → l[i].ts ≤ t) (h2 : ∀ h : n < l.length, t < l[n].ts) : placeN l t = n := by
  unfold placeN
  rw [low_at hn h1 h2, List.length_take]
  omega
set_option maxRecDepth 20000 in
set_option maxHeartbeats 4000000 in
theorem rplace_any (A : Option Addr) (c : Nat) (l : List Vr) (t : Int) (w : World) (h : VrsAt w A l) (hn : l.length * 32 ≤ 140737488351232) :
    Calls Tryz.prog 166 #[.slice A l.length c, .int .i64 t] w fun e w' => e = .returned (.int .i64 (placeN l t : Int)) ∧ Below w.heap.size w w' := by
  have HA := Lib.hid h
  clear h
  have hlen : (l.length : Int) ≤ 9223372036854775807 := by omega
  go_enter Tryz.func166, Tryz.ntmps166
  go_wp2_with fail
  go_loopw [5] (fun iv wr => ∃ j : Nat, j ≤ l.length ∧ iv = .int .i64 (j : Int) ∧ Hid (∀ i (h : i < l.length), i < j → l[i].ts ≤ t) ∧ Hid (Below w.heap.size w wr)) (fun iv _ => l.length - (intOf iv).toNat)
  case atStart => exact ⟨0, by omega, rfl, Lib.hid (fun i _ h => absurd h (by omega)), Lib.hid (Below.refl _ _)⟩
  case round =>
    obtain ⟨j, hj, rfl, hs, hb⟩ := hrel
    by_cases hlt : j < l.length
    · have pj : (j : Int) < (l.length : Int) := by omega
      obtain ⟨ad, rfl, hab, hcl⟩ := (HA.out.below hb.out) (by omega)
      obtain ⟨x0, -, -⟩ := hcl j hlt
      obtain ⟨xt, hX⟩ : ∃ xt, l[j].ts = xt := ⟨_, rfl⟩
      have HXe := Lib.hid hX
      rw [hX] at x0
      clear hX hab hcl
      by_cases h1 : xt ≤ t
      · have HS := Lib.hid (show ∀ i (h : i < l.length), i < j + 1 → l[i].ts ≤ t from fun i h hi => by
          by_cases e : i = j
          · subst e; rw [HXe.out]; exact h1
          · exact hs.out i h (by omega))
        have HB := hb
        clear hs hb HXe
        go_wp2_with fail
        go_roundw
        case rel => exact ⟨j + 1, by omega, by go_num, HS, HB⟩
        case measure => simp [intOf]; omega
      · have h2 : t < xt := by omega
        have E := Lib.hid (place_at hj hs.out (fun h => by rw [HXe.out]; exact h2))
        have HB := hb
        clear hs hb HXe h1
        go_wp2_with fail
        go_ret
        exact ⟨by rw [E.out]; rfl, HB.out⟩
    · obtain rfl : j = l.length := by omega
      have E := Lib.hid (place_at (Nat.le_refl _) hs.out (fun h => absurd h (by omega)))
      have HB := hb
      clear hs hb
      go_wp2_with fail
      go_ret
      exact ⟨by rw [E.out]; rfl, HB.out⟩
end Ch
end Go.Proofs.YtbkanoblcojdfaaGreat

namespace Go.Proofs.YtbkanoblcojdfaaGreat
namespace Ch
open Go.RowKit Bk
attribute [local go_sem ↓] Go.wp_at_zero Go.wp_at_succ
attribute [local go_sem] floatUpon pick
theorem lastT_at {l : List Vr} (h : 0 < l.length) : lastT l = (l[l.length - 1]'(by omega)).ts := by
  unfold lastT
  rw [List.getLast?_eq_getElem?, List.getElem?_eq_getElem (by omega)]
set_option maxRecDepth 20000 in
set_option maxHeartbeats 4000000 in
theorem rlast_any (A : Option Addr) (c : Nat) (l : List Vr) (w : World) (h : VrsAt w A l) (hn : l.length * 32 ≤ 140737488351232) (hr : ∀ x ∈ l, VrRng x) :
    Calls Tryz.prog 113 #[.slice A l.length c] w fun e w' => e = .returned (.tuple #[.int .i64 (lastP l).1, .int .i64 (lastP l).2]) ∧ Below w.heap.size w w' := by
  have HC := Lib.hid (rcheck_any A c l w h hn hr)
  have HA := Lib.hid h
  have hlen : (l.length : Int) ≤ 9223372036854775807 := by omega
  have E := Lib.hid (show lastP l = if (chkP l).2 ≠ 0 then (0, (chkP l).2) else (lastT l, 0) from rfl)
  obtain ⟨a, e, hae⟩ : ∃ a e, chkP l = (a, e) := ⟨_, _, rfl⟩
  rw [hae] at HC E
  simp only at HC E
  clear h hr hae
  go_enter Tryz.func113, Tryz.ntmps113
  go_wp2_with fail
  refine HC.out.mono ?_
  rintro e1 w1 ⟨rfl, hb⟩
  have HB := Lib.hid hb
  clear HC
  by_cases he : e = 0
  · subst he
    by_cases h0 : 0 < l.length
    · obtain ⟨ad, rfl, hab, hcl⟩ := (HA.out.below hb) (by omega)
      obtain ⟨x0, -, -⟩ := hcl (l.length - 1) (by omega)
      have hlt := lastT_at h0
      rw [← hlt] at x0
      have E2 := Lib.hid (show lastP l = (lastT l, 0) by rw [E.out]; rfl)
      have hc1 : (l.length : Int) - 1 = ((l.length - 1 : Nat) : Int) := by omega
      have hc2 : ((l.length - 1 : Nat) : Int) < (l.length : Int) := by omega
      have h0' : ¬ (l.length : Int) = 0 := by omega
      have hz : ((l.length : Int) == 0) = false := by simpa using h0'
      generalize l.length - 1 = k at x0 hc1 hc2
      generalize lastT l = lt at x0 E2
      clear hab hcl hlt E hb h0
      go_wp2_with fail
      go_ret2
      exact ⟨by rw [E2.out]; rfl, HB.out⟩
    · have h00 : l.length = 0 := by omega
      have E2 := Lib.hid (show lastP l = (0, 0) by
        have : l = [] := List.eq_nil_of_length_eq_zero h00
        rw [E.out, this]; rfl)
      rw [h00] at *
      clear h0 h00 E hb
      go_wp2_with fail
      go_ret2
      exact ⟨by rw [E2.out]; rfl, HB.out⟩
  · have E2 := Lib.hid (show lastP l = (0, e) by rw [E.out, if_pos he])
    have hz : (e == 0) = false := by simpa using he
    clear E hb
    go_wp2_with fail
    go_ret2
    exact ⟨by rw [E2.out]; rfl, HB.out⟩
end Ch
end Go.Proofs.YtbkanoblcojdfaaGreat
