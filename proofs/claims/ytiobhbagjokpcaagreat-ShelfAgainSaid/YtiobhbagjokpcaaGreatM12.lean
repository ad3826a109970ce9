/- Parts of the proof, joined: RcEnv, ShMath; their conditions stand with each. -/
import Derived.Test.YtiobhbagjokpcaaGreatM2
import Derived.Test.YtiobhbagjokpcaaGreatM11

/- A record in its block, and what Check answers; no condition. -/
namespace Go.Proofs.YtiobhbagjokpcaaGreat
namespace Rc
open Go.RowKit Bk Lt

/-- what a walk over a record keeps: its lists, its cells, what was there -/
structure RcEnv (w W : World) (g : Nat) (A B : Option Addr) (c d : Nat) (r : Rec) : Prop where
  ks : StrsAt W A r.keys
  ws : WrsAt W B r.ws
  cel : Cel W g 37 [.int .i64 r.kind, .int .i64 r.txn, .int .i64 r.ts, .int .i64 r.coord, .string r.key, .string r.text, .bool r.dead, .slice A r.keys.length c, .slice B r.ws.length d]
  bel : Below w.heap.size w W

theorem RcEnv.step {w W W' : World} {g : Nat} {A B : Option Addr} {c d : Nat} {r : Rec} (h : RcEnv w W g A B c d r) (hb : Below W.heap.size W W') : RcEnv w W' g A B c d r :=
  ⟨h.ks.below hb, h.ws.below hb, h.cel.below hb, h.bel.trans (hb.mono h.bel.size)⟩

theorem RcEnv.start {w : World} {A B : Option Addr} {c d : Nat} {r : Rec} (ha : StrsAt w A r.keys) (hb : WrsAt w B r.ws) :
    RcEnv w (w.alloc (.cells #[.int .i64 r.kind, .int .i64 r.txn, .int .i64 r.ts, .int .i64 r.coord, .string r.key, .string r.text, .bool r.dead, .slice A r.keys.length c, .slice B r.ws.length d] 37)) w.heap.size A B c d r :=
  ⟨ha.alloc _, hb.alloc _, (blk1 w _).2, (Below.refl _ w).alloc (Nat.le_refl _) _⟩

open Classical in
/-- what Check answers -/
noncomputable def ckN (r : Rec) : Nat := if RecOk r then 0 else 80

theorem ckN_of {r : Rec} (h : RecOk r) : ckN r = 0 := by unfold ckN; rw [if_pos h]
theorem ckN_not {r : Rec} (h : ¬ RecOk r) : ckN r = 80 := by unfold ckN; rw [if_neg h]
theorem ckN_ok {r : Rec} (h : headOk r) (h2 : kindOk r) : ckN r = 0 := ckN_of ⟨h, h2⟩
theorem ckN_bad {r : Rec} (h : ¬ kindOk r) : ckN r = 80 := ckN_not (fun hh => h hh.2)
theorem ckN_head {r : Rec} (h : ¬ headOk r) : ckN r = 80 := ckN_not (fun hh => h hh.1)

theorem kind_1 {r : Rec} (h : r.kind = 1) : kindOk r ↔ TextOk r ∧ r.txn ≠ 0 ∧ r.keys.length ≤ 16 ∧ Rises r.keys ∧ WritesOk r.ws := by
  constructor
  · rintro (h2 | h2 | h2 | h2 | h2 | h2 | h2)
    · exact h2.2
    all_goals omega
  · intro h2; exact .inl ⟨h, h2⟩
theorem kind_2 {r : Rec} (h : r.kind = 2) : kindOk r ↔ BareOk r ∧ r.txn ≠ 0 := by
  constructor
  · rintro (h2 | h2 | h2 | h2 | h2 | h2 | h2)
    · omega
    · exact h2.2
    all_goals omega
  · intro h2; exact .inr (.inl ⟨h, h2⟩)
theorem kind_3 {r : Rec} (h : r.kind = 3) : kindOk r ↔ ListsOk r ∧ r.coord = 0 ∧ r.txn = 0 ∧ r.ts ≠ 0 ∧ keyOk r.key ∧ r.text.size ≤ 2052 ∧ (r.dead = false ∨ r.text = ⟨#[]⟩) := by
  constructor
  · rintro (h2 | h2 | h2 | h2 | h2 | h2 | h2)
    · omega
    · omega
    · exact h2.2
    all_goals omega
  · intro h2; exact .inr (.inr (.inl ⟨h, h2⟩))
theorem kind_4 {r : Rec} (h : r.kind = 4) : kindOk r ↔ BareOk r ∧ r.txn = 0 := by
  constructor
  · rintro (h2 | h2 | h2 | h2 | h2 | h2 | h2)
    · omega
    · omega
    · omega
    · exact h2.2
    all_goals omega
  · intro h2; exact .inr (.inr (.inr (.inl ⟨h, h2⟩)))
theorem kind_5 {r : Rec} (h : r.kind = 5) : kindOk r ↔ BareOk r ∧ r.txn ≠ 0 ∧ r.ts ≠ 0 := by
  constructor
  · rintro (h2 | h2 | h2 | h2 | h2 | h2 | h2)
    · omega
    · omega
    · omega
    · omega
    · exact h2.2
    all_goals omega
  · intro h2; exact .inr (.inr (.inr (.inr (.inl ⟨h, h2⟩))))
theorem kind_6 {r : Rec} (h : r.kind = 6) : kindOk r ↔ BareOk r ∧ r.txn ≠ 0 ∧ r.ts = 0 := by
  constructor
  · rintro (h2 | h2 | h2 | h2 | h2 | h2 | h2)
    · omega
    · omega
    · omega
    · omega
    · omega
    · exact h2.2
    · omega
  · intro h2; exact .inr (.inr (.inr (.inr (.inr (.inl ⟨h, h2⟩)))))
theorem kind_7 {r : Rec} (h : r.kind = 7) : kindOk r ↔ BareOk r ∧ r.txn = 0 ∧ r.ts ≠ 0 := by
  constructor
  · rintro (h2 | h2 | h2 | h2 | h2 | h2 | h2)
    · omega
    · omega
    · omega
    · omega
    · omega
    · omega
    · exact h2.2
  · intro h2; exact .inr (.inr (.inr (.inr (.inr (.inr ⟨h, h2⟩)))))
theorem kind_no {r : Rec} (h : r.kind < 1 ∨ 7 < r.kind) : ¬ kindOk r := by
  rintro (h2 | h2 | h2 | h2 | h2 | h2 | h2) <;> omega

/-- a record's lists in the memory, as an argument or a result has them -/
structure RecVal (w : World) (A B : Option Addr) (c d : Nat) (r : Rec) : Prop where
  ks : StrsAt w A r.keys
  ws : WrsAt w B r.ws
  rng : RecRange r c d
  kn : A = none → r.keys = [] ∧ c = 0
  wn : B = none → r.ws = [] ∧ d = 0

theorem RecVal.below {w W : World} {A B : Option Addr} {c d : Nat} {r : Rec} (h : RecVal w A B c d r) (hb : Below w.heap.size w W) : RecVal W A B c d r :=
  ⟨h.ks.below hb, h.ws.below hb, h.rng, h.kn, h.wn⟩

/-- the ranges of one that a pack may say -/
theorem cand_range {ns : List Int} {ts : List ByteArray} (h : Pk.MayBe ns ts) : RecRng (cand ns ts) := by
  obtain ⟨h1, h2, h3, h4⟩ := h
  have rb : reachBytes = 140737488351232 := by unfold reachBytes; rfl
  have hi : ∀ i, -9223372036854775808 ≤ ns.getD i 0 ∧ ns.getD i 0 ≤ 9223372036854775807 := fun i => by
    rw [List.getD_eq_getElem?_getD]
    cases e : ns[i]? with
    | none => simp
    | some z =>
      have hz := h3 z (List.mem_of_getElem? e)
      unfold Pk.numOk at hz
      simp only [Option.getD_some]; omega
  have ht : ∀ t ∈ ts, t.size ≤ reachBytes := fun t ht => by have := h4 t ht; omega
  have hp : ∀ (fs : List Int) (us : List ByteArray), (∀ u ∈ us, u.size ≤ reachBytes) → ∀ x ∈ pairL fs us, x.key.size ≤ reachBytes ∧ x.shard.size ≤ reachBytes := by
    intro fs
    induction fs with
    | nil => intro us _ x hx; simp [pairL] at hx
    | cons f fs ih =>
      intro us hu x hx
      match us, hu, hx with
      | [], _, hx => simp [pairL] at hx
      | [k], _, hx => simp [pairL] at hx
      | k :: s :: r, hu, hx =>
        rcases List.mem_cons.1 hx with rfl | hx
        · exact ⟨hu _ (by simp), hu _ (by simp)⟩
        · exact ih r (fun u hr => hu u (by simp [hr])) x hx
  have hpl : ∀ (fs : List Int) (us : List ByteArray), (pairL fs us).length ≤ fs.length := by
    intro fs
    induction fs with
    | nil => intro us; simp [pairL]
    | cons f fs ih =>
      intro us
      match us with
      | [] => simp [pairL]
      | [k] => simp [pairL]
      | k :: s :: r => rw [pairL, List.length_cons, List.length_cons]; have := ih r; omega
  have hg : ∀ i, (ts.getD i ⟨#[]⟩).size ≤ reachBytes := fun i => by
    rw [List.getD_eq_getElem?_getD]
    cases e : ts[i]? with
    | none => simp only [Option.getD_none]; show (0 : Nat) ≤ _; omega
    | some t => exact ht t (List.mem_of_getElem? e)
  refine ⟨hi 0, hi 1, hi 2, hi 3, hg 0, hg 1, ?_, ?_, ?_, ?_⟩
  · show ((ts.drop 2).take (manyOf ns)).length * 16 ≤ _
    rw [List.length_take, List.length_drop]; omega
  · show (pairL (ns.drop 6) (ts.drop (2 + manyOf ns))).length * 40 ≤ _
    have := hpl (ns.drop 6) (ts.drop (2 + manyOf ns))
    rw [List.length_drop] at this; omega
  · intro t ht2
    exact ht t (List.mem_of_mem_drop (List.mem_of_mem_take ht2))
  · exact hp _ _ (fun u hu => ht u (List.mem_of_mem_drop hu))

theorem RecOk.rng {r : Rec} (h : RecOk r) : RecRng r := by
  obtain ⟨b1, b2, b3, b4, b5, b6, b7, b8⟩ := h.bounds
  obtain ⟨⟨h1, h2, h3, h4⟩, _⟩ := h
  have rb : reachBytes = 140737488351232 := by unfold reachBytes; rfl
  unfold txnOk at h1
  unfold stampOk at h2
  exact ⟨by omega, by omega, by omega, by omega, by omega, by omega, by omega, by omega, fun k hk => by have := b5 k hk; unfold keyOk at this; omega, fun x hx => by have := b6 x hx; unfold keyOk at this; omega⟩

/-- which record bytes are, and what is told -/
noncomputable def decX (s : ByteArray) : Rec × Nat := open Classical in if h : ∃ r, RecOk r ∧ s.data.toList = recL r then (Classical.choose h, 0) else (noRec, 80)

theorem decX_ok {s : ByteArray} {r : Rec} (h : RecOk r) (hs : s.data.toList = recL r) : decX s = (r, 0) := by
  have hx : ∃ r, RecOk r ∧ s.data.toList = recL r := ⟨r, h, hs⟩
  unfold decX
  rw [dif_pos hx]
  have hc := Classical.choose_spec hx
  rw [recL_inj hc.1 h (hc.2.symm.trans hs)]

theorem decX_no {s : ByteArray} (h : NoRec s) : decX s = (noRec, 80) := by
  unfold decX
  rw [dif_neg (fun ⟨r, h1, h2⟩ => h r h1 h2)]

theorem decX_cases (s : ByteArray) : (∃ r, RecOk r ∧ s.data.toList = recL r ∧ decX s = (r, 0)) ∨ (NoRec s ∧ decX s = (noRec, 80)) := by
  by_cases h : ∃ r, RecOk r ∧ s.data.toList = recL r
  · obtain ⟨r, h1, h2⟩ := h
    exact .inl ⟨r, h1, h2, decX_ok h1 h2⟩
  · have hn : NoRec s := fun r h1 h2 => h ⟨r, h1, h2⟩
    exact .inr ⟨hn, decX_no hn⟩

theorem decX_bytes {r : Rec} (h : RecOk r) : decX ⟨(recL r).toArray⟩ = (r, 0) := decX_ok h (by simp)

theorem recL_size {r : Rec} (h : RecOk r) : (⟨(recL r).toArray⟩ : ByteArray).size ≤ 1000000000000000 := by
  have := Pk.bytesL_le h.pack
  show (recL r).toArray.size ≤ _
  rw [List.size_toArray]
  unfold recL
  omega

open Classical in
/-- what Encode answers -/
noncomputable def encV (r : Rec) : Value := if RecOk r then .tuple #[.string ⟨(recL r).toArray⟩, .int .i64 0] else .tuple #[.string ⟨#[]⟩, .int .i64 80]

theorem encV_ok {r : Rec} (h : RecOk r) : encV r = .tuple #[.string ⟨(recL r).toArray⟩, .int .i64 0] := by unfold encV; rw [if_pos h]
theorem encV_bad {r : Rec} (h : ¬ RecOk r) : encV r = .tuple #[.string ⟨#[]⟩, .int .i64 80] := by unfold encV; rw [if_neg h]

theorem encV_form (r : Rec) : ∃ (t : ByteArray) (e : Int), encV r = .tuple #[.string t, .int .i64 e] := by
  unfold encV
  split
  · exact ⟨_, _, rfl⟩
  · exact ⟨_, _, rfl⟩

end Rc
end Go.Proofs.YtiobhbagjokpcaaGreat

/- Shelves in plain lists: keys with their chains, prepared and ended transactions; what the calls answer; no condition. -/
namespace Go.Proofs.YtiobhbagjokpcaaGreat
namespace Sh
open Ch Rc Lt

/-! ### texts in Go's order -/

theorem bytesLess_nil2 (l : List UInt8) : Op.bytesLess l [] = false := by cases l <;> rfl

theorem less_irrefl : ∀ l : List UInt8, Op.bytesLess l l = false
  | [] => rfl
  | a :: x => by
    unfold Op.bytesLess
    rw [less_irrefl x]
    simp

theorem less_trans : ∀ x y z : List UInt8, Op.bytesLess x y = true → Op.bytesLess y z = true → Op.bytesLess x z = true
  | _, [], _, h, _ => by rw [bytesLess_nil2] at h; cases h
  | _, _ :: _, [], _, h => by rw [bytesLess_nil2] at h; cases h
  | [], _ :: _, _ :: _, _, _ => rfl
  | a :: x, b :: y, c :: z, h1, h2 => by
    unfold Op.bytesLess at h1 h2 ⊢
    simp only [Bool.or_eq_true, Bool.and_eq_true, decide_eq_true_eq, beq_iff_eq] at h1 h2 ⊢
    rcases h1 with h1 | ⟨rfl, h1⟩
    · rcases h2 with h2 | ⟨rfl, h2⟩
      · exact .inl (by rw [UInt8.lt_iff_toNat_lt] at *; omega)
      · exact .inl h1
    · rcases h2 with h2 | ⟨rfl, h2⟩
      · exact .inl h2
      · exact .inr ⟨rfl, less_trans x y z h1 h2⟩

theorem less_total : ∀ x y : List UInt8, Op.bytesLess x y = true ∨ x = y ∨ Op.bytesLess y x = true
  | [], [] => .inr (.inl rfl)
  | [], _ :: _ => .inl rfl
  | _ :: _, [] => .inr (.inr rfl)
  | a :: x, b :: y => by
    unfold Op.bytesLess
    simp only [Bool.or_eq_true, Bool.and_eq_true, decide_eq_true_eq, beq_iff_eq]
    rcases less_total x y with h | h | h
    · by_cases e : a = b
      · exact .inl (.inr ⟨e, h⟩)
      · rcases Nat.lt_or_gt_of_ne (fun h => e (UInt8.toNat_inj.1 h)) with h2 | h2
        · exact .inl (.inl (UInt8.lt_iff_toNat_lt.2 h2))
        · exact .inr (.inr (.inl (UInt8.lt_iff_toNat_lt.2 h2)))
    · by_cases e : a = b
      · exact .inr (.inl (by rw [e, h]))
      · rcases Nat.lt_or_gt_of_ne (fun h => e (UInt8.toNat_inj.1 h)) with h2 | h2
        · exact .inl (.inl (UInt8.lt_iff_toNat_lt.2 h2))
        · exact .inr (.inr (.inl (UInt8.lt_iff_toNat_lt.2 h2)))
    · by_cases e : a = b
      · exact .inr (.inr (.inr ⟨e.symm, h⟩))
      · rcases Nat.lt_or_gt_of_ne (fun h => e (UInt8.toNat_inj.1 h)) with h2 | h2
        · exact .inl (.inl (UInt8.lt_iff_toNat_lt.2 h2))
        · exact .inr (.inr (.inl (UInt8.lt_iff_toNat_lt.2 h2)))

def ltK (a b : ByteArray) : Bool := Op.bytesLess a.toList b.toList

theorem toList_inj {a b : ByteArray} (h : a.toList = b.toList) : a = b := by
  rw [ByteArray.toList_eq, ByteArray.toList_eq] at h
  obtain ⟨a⟩ := a
  obtain ⟨b⟩ := b
  congr 1
  exact Array.toList_inj.1 h

theorem lt_irrefl (a : ByteArray) : ltK a a = false := less_irrefl _
theorem lt_trans {a b c : ByteArray} (h : ltK a b = true) (h2 : ltK b c = true) : ltK a c = true := less_trans _ _ _ h h2
theorem lt_total (a b : ByteArray) : ltK a b = true ∨ a = b ∨ ltK b a = true := by
  rcases less_total a.toList b.toList with h | h | h
  · exact .inl h
  · exact .inr (.inl (toList_inj h))
  · exact .inr (.inr h)
theorem lt_ne {a b : ByteArray} (h : ltK a b = true) : a ≠ b := fun e => by rw [e, lt_irrefl] at h; cases h
theorem lt_not {a b : ByteArray} (h : ltK a b = true) : ltK b a = false := by
  cases hb : ltK b a with
  | false => rfl
  | true => have := lt_trans h hb; rw [lt_irrefl] at this; cases this

/-! ### a shelf -/

/-- a key and its chain -/
structure Kc where
  name : ByteArray
  l : List Vr

structure Shf where
  k : List Kc
  p : List Rec
  e : List (Int × Int)
  over : Int

def empty : Shf := ⟨[], [], [], 0⟩

def findK (k : List Kc) (key : ByteArray) : Option Kc := k.find? (fun x => decide (x.name = key))
def hasK (k : List Kc) (key : ByteArray) : Bool := (findK k key).isSome
def chainK (k : List Kc) (key : ByteArray) : List Vr := match findK k key with | none => [] | some x => x.l

def putK : List Kc → ByteArray → List Vr → List Kc
  | [], key, l => [⟨key, l⟩]
  | x :: r, key, l => if ltK x.name key then x :: putK r key l else if x.name = key then ⟨key, l⟩ :: r else ⟨key, l⟩ :: x :: r

def heldR (r : Rec) (key : ByteArray) (w : Bool) : Bool := r.ws.any (fun x => decide (x.key = key)) || (w && r.keys.any (fun y => decide (y = key)))
def heldB (s : Shf) (key : ByteArray) (w : Bool) : Bool := s.p.any (fun r => heldR r key w)

def prepOf (p : List Rec) (txn : Int) : Option Rec := p.find? (fun r => decide (r.txn = txn))
def endOf (e : List (Int × Int)) (txn : Int) : Option (Int × Int) := e.find? (fun x => decide (x.1 = txn))

def stateP (s : Shf) (txn : Int) : Int × Int :=
  match prepOf s.p txn with
  | some _ => (1, 0)
  | none => match endOf s.e txn with
    | none => (0, 0)
    | some x => if 0 < x.2 then (2, x.2) else (3, 0)

def insP (p : List Rec) (r : Rec) : List Rec := p.takeWhile (fun q => decide (q.txn < r.txn)) ++ r :: p.dropWhile (fun q => decide (q.txn < r.txn))
def outP (p : List Rec) (txn : Int) : List Rec := p.eraseP (fun q => decide (q.txn = txn))
def capE (e : List (Int × Int)) : List (Int × Int) := if 1024 < e.length then e.drop 1 else e
def endP (s : Shf) (txn ts : Int) : Shf := ⟨s.k, outP s.p txn, capE (s.e ++ [(txn, ts)]), s.over⟩

def prepareP (s : Shf) (r : Rec) : Shf × Int :=
  if (stateP s r.txn).1 ≠ 0 then (s, 6)
  else if r.keys.any (fun y => heldB s y false) then (s, 180)
  else if r.ws.any (fun x => heldB s x.key true) then (s, 180)
  else if 1024 ≤ s.p.length then (s, 2)
  else (⟨s.k, insP s.p r, s.e, s.over⟩, 0)

def addK (k : List Kc) (key : ByteArray) (v : Vr) : List Kc := putK k key (addP (chainK k key) v).1
def addW (ts : Int) : List Wr → List Kc → List Kc
  | [], k => k
  | x :: r, k => addW ts r (addK k x.key ⟨ts, x.shard, x.dead⟩)

def longW (k : List Kc) : List Wr → Nat → Bool
  | [], _ => false
  | x :: r, n => (decide (1024 ≤ (chainK k x.key).length) || decide (1024 < if hasK k x.key then n else n + 1)) || longW k r (if hasK k x.key then n else n + 1)

def doP (s : Shf) (txn ts : Int) : Shf × Int :=
  if 1 < (stateP s txn).1 then (if (stateP s txn).2 = ts then (s, 6) else (s, 120))
  else match prepOf s.p txn with
    | none => (endP s txn ts, 0)
    | some r =>
      if 0 < ts then
        if r.ws.any (fun x => decide (ts ≤ lastT (chainK s.k x.key))) then (s, 110)
        else if longW s.k r.ws s.k.length then (s, 2)
        else (endP ⟨addW ts r.ws s.k, s.p, s.e, s.over⟩ txn ts, 0)
      else (endP s txn ts, 0)

def verP (s : Shf) (key : ByteArray) (v : Vr) : Shf × Int :=
  if (addP (chainK s.k key) v).2 ≠ 0 then (s, (addP (chainK s.k key) v).2)
  else if hasK s.k key = false ∧ 1024 ≤ s.k.length then (s, 2)
  else (⟨addK s.k key v, s.p, s.e, s.over⟩, 0)

def sweepK (k : List Kc) (t : Int) : List Kc := (k.map (fun x => ⟨x.name, sweepL x.l t⟩)).filter (fun x => !x.l.isEmpty)

def sweepS (s : Shf) (t : Int) : Shf × Int := if t < s.over then (s, 110) else (⟨sweepK s.k t, s.p, s.e, t⟩, 0)

open Classical in
noncomputable def applyP (s : Shf) (r : Rec) : Shf × Int :=
  if ¬ RecOk r then (s, 80)
  else if r.kind = 1 then prepareP s r
  else if r.kind = 2 then doP s r.txn r.ts
  else if r.kind = 3 then verP s r.key ⟨r.ts, r.text, r.dead⟩
  else if r.kind = 4 then sweepS s r.ts
  else (s, 80)

def readP (s : Shf) (key : ByteArray) (t : Int) : Int × Vr :=
  if t < s.over then (4, noVr)
  else if heldB s key false then (3, noVr)
  else if (atV (chainK s.k key) t).2 = false then (0, noVr)
  else if (atV (chainK s.k key) t).1.dead then (2, (atV (chainK s.k key) t).1)
  else (1, (atV (chainK s.k key) t).1)

def sweepR (t : Int) : Rec := ⟨4, 0, t, 0, ⟨#[]⟩, ⟨#[]⟩, false, [], []⟩
def verR (key : ByteArray) (v : Vr) : Rec := ⟨3, 0, v.ts, 0, key, v.shard, v.dead, [], []⟩
def doR (x : Int × Int) : Rec := ⟨2, x.1, x.2, 0, ⟨#[]⟩, ⟨#[]⟩, false, [], []⟩

def recordsP (s : Shf) : List Rec := (if 0 < s.over then [sweepR s.over] else []) ++ (s.k.flatMap fun x => x.l.map (verR x.name)) ++ s.e.map doR ++ s.p

/-! ### what holds of each shelf that records made -/

abbrev Sorted (k : List Kc) : Prop := k.Pairwise (fun x y => ltK x.name y.name = true)

structure ShOk (s : Shf) : Prop where
  ks : Sorted s.k
  kn : ∀ x ∈ s.k, keyOk x.name
  kc : ∀ x ∈ s.k, ChOk x.l
  kz : ∀ x ∈ s.k, x.l ≠ []
  kl : s.k.length ≤ 1024
  pr : s.p.Pairwise (fun x y => x.txn < y.txn)
  po : ∀ r ∈ s.p, RecOk r ∧ r.kind = 1
  pl : s.p.length ≤ 1024
  pa : ∀ r ∈ s.p, ∀ q ∈ s.p, r.txn ≠ q.txn → ∀ x ∈ r.ws, heldR q x.key true = false
  el : s.e.length ≤ 1024
  ed : s.e.Pairwise (fun x y => x.1 ≠ y.1)
  eo : ∀ x ∈ s.e, txnOk x.1 ∧ stampOk x.2
  ep : ∀ x ∈ s.e, ∀ r ∈ s.p, r.txn ≠ x.1
  ov : stampOk s.over

theorem ok_empty : ShOk empty := by
  refine ⟨List.Pairwise.nil, ?_, ?_, ?_, ?_, List.Pairwise.nil, ?_, ?_, ?_, ?_, List.Pairwise.nil, ?_, ?_, ?_⟩
  all_goals first | (intro x hx; simp [empty] at hx; done) | (simp [empty]; done) | (unfold empty stampOk; simp)

/-! ### keys -/

theorem find_put : ∀ (k : List Kc) (key : ByteArray) (l : List Vr) (key' : ByteArray), findK (putK k key l) key' = if key' = key then some ⟨key, l⟩ else findK k key'
  | [], key, l, key' => by
    unfold putK findK
    by_cases h : key' = key
    · rw [if_pos h, List.find?_cons_of_pos (by simp [h])]
    · rw [if_neg h, List.find?_cons_of_neg (by simp; exact fun e => h e.symm)]
  | x :: r, key, l, key' => by
    unfold putK
    by_cases h1 : ltK x.name key = true
    · rw [if_pos h1]
      have ih := find_put r key l key'
      unfold findK at ih ⊢
      by_cases h2 : x.name = key'
      · rw [List.find?_cons_of_pos (by simp [h2]), List.find?_cons_of_pos (by simp [h2]), if_neg (fun e => lt_ne h1 (h2.trans e))]
      · rw [List.find?_cons_of_neg (by simp [h2]), List.find?_cons_of_neg (by simp [h2]), ih]
    · rw [if_neg h1]
      by_cases h3 : x.name = key
      · rw [if_pos h3]
        unfold findK
        by_cases h : key' = key
        · rw [if_pos h, List.find?_cons_of_pos (by simp [h])]
        · rw [if_neg h, List.find?_cons_of_neg (by simp; exact fun e => h e.symm), List.find?_cons_of_neg (by simp; exact fun e => h (e.symm.trans h3))]
      · rw [if_neg h3]
        unfold findK
        by_cases h : key' = key
        · rw [if_pos h, List.find?_cons_of_pos (by simp [h])]
        · rw [if_neg h, List.find?_cons_of_neg (by simp; exact fun e => h e.symm)]

theorem chain_put (k : List Kc) (key : ByteArray) (l : List Vr) (key' : ByteArray) : chainK (putK k key l) key' = if key' = key then l else chainK k key' := by
  unfold chainK
  rw [find_put]
  by_cases h : key' = key
  · rw [if_pos h, if_pos h]
  · rw [if_neg h, if_neg h]

theorem mem_put : ∀ (k : List Kc) (key : ByteArray) (l : List Vr) (y : Kc), y ∈ putK k key l → y = ⟨key, l⟩ ∨ y ∈ k
  | [], key, l, y, h => by
    unfold putK at h
    exact .inl (List.mem_singleton.1 h)
  | x :: r, key, l, y, h => by
    unfold putK at h
    by_cases h1 : ltK x.name key = true
    · rw [if_pos h1] at h
      rcases List.mem_cons.1 h with h | h
      · exact .inr (by rw [h]; exact List.mem_cons_self ..)
      · exact (mem_put r key l y h).imp id (fun h => List.mem_cons_of_mem _ h)
    · rw [if_neg h1] at h
      by_cases h3 : x.name = key
      · rw [if_pos h3] at h
        rcases List.mem_cons.1 h with h | h
        · exact .inl h
        · exact .inr (List.mem_cons_of_mem _ h)
      · rw [if_neg h3] at h
        rcases List.mem_cons.1 h with h | h
        · exact .inl h
        · exact .inr h

theorem put_sorted : ∀ {k : List Kc} (key : ByteArray) (l : List Vr), Sorted k → Sorted (putK k key l)
  | [], key, l, _ => by unfold putK; simp [Sorted]
  | x :: r, key, l, h => by
    obtain ⟨h1, h2⟩ := List.pairwise_cons.1 h
    unfold putK
    by_cases hl : ltK x.name key = true
    · rw [if_pos hl]
      refine List.pairwise_cons.2 ⟨fun y hy => ?_, put_sorted key l h2⟩
      rcases mem_put r key l y hy with rfl | hy
      · exact hl
      · exact h1 y hy
    · rw [if_neg hl]
      by_cases h3 : x.name = key
      · rw [if_pos h3]
        exact List.pairwise_cons.2 ⟨fun y hy => by show ltK key y.name = true; rw [← h3]; exact h1 y hy, h2⟩
      · rw [if_neg h3]
        have hk : ltK key x.name = true := by
          rcases lt_total key x.name with h | h | h
          · exact h
          · exact absurd h.symm h3
          · exact absurd h hl
        refine List.pairwise_cons.2 ⟨fun y hy => ?_, h⟩
        rcases List.mem_cons.1 hy with rfl | hy
        · exact hk
        · exact lt_trans hk (h1 y hy)

theorem find_mem {k : List Kc} {key : ByteArray} {x : Kc} (h : findK k key = some x) : x ∈ k ∧ x.name = key := ⟨List.mem_of_find?_eq_some h, by simpa using List.find?_some h⟩

theorem find_of_mem {k : List Kc} (hs : Sorted k) {x : Kc} (hx : x ∈ k) : findK k x.name = some x := by
  induction k with
  | nil => cases hx
  | cons y r ih =>
    obtain ⟨h1, h2⟩ := List.pairwise_cons.1 hs
    unfold findK
    rcases List.mem_cons.1 hx with rfl | hx
    · rw [List.find?_cons_of_pos (by simp)]
    · rw [List.find?_cons_of_neg (by simp; exact lt_ne (h1 x hx))]
      exact ih h2 hx

/-- nothing above a key that is below all of a list -/
theorem find_above {k : List Kc} {key : ByteArray} (h : ∀ x ∈ k, ltK key x.name = true) : findK k key = none := by
  unfold findK
  rw [List.find?_eq_none]
  intro x hx e
  exact lt_ne (h x hx) (by simpa using (of_decide_eq_true e).symm)

theorem put_len : ∀ {k : List Kc} (key : ByteArray) (l : List Vr), Sorted k → (putK k key l).length = if hasK k key then k.length else k.length + 1
  | [], key, l, _ => rfl
  | x :: r, key, l, h => by
    obtain ⟨h1, h2⟩ := List.pairwise_cons.1 h
    have ih := put_len key l h2
    unfold hasK findK at ih ⊢
    unfold putK
    by_cases hl : ltK x.name key = true
    · rw [if_pos hl, List.find?_cons_of_neg (by simp; exact lt_ne hl), List.length_cons, ih, List.length_cons]
      split <;> rfl
    · rw [if_neg hl]
      by_cases h3 : x.name = key
      · rw [if_pos h3, List.find?_cons_of_pos (by simp [h3])]
        rfl
      · rw [if_neg h3]
        have hk : ltK key x.name = true := by
          rcases lt_total key x.name with h | h | h
          · exact h
          · exact absurd h.symm h3
          · exact absurd h hl
        have := find_above (k := x :: r) (key := key) (fun y hy => by
          rcases List.mem_cons.1 hy with rfl | hy
          · exact hk
          · exact lt_trans hk (h1 y hy))
        unfold findK at this
        rw [this]
        rfl

theorem chain_ok {s : Shf} (h : ∀ x ∈ s.k, ChOk x.l) (key : ByteArray) : ChOk (chainK s.k key) := by
  unfold chainK
  cases hf : findK s.k key with
  | none => exact ⟨by simp, by simp, List.Pairwise.nil⟩
  | some x => exact h x (find_mem hf).1

/-! ### sweeps -/

theorem find_sweep : ∀ {k : List Kc} (key : ByteArray) (t : Int), Sorted k → findK (sweepK k t) key = match findK k key with | none => none | some x => if (sweepL x.l t).isEmpty then none else some ⟨x.name, sweepL x.l t⟩
  | [], key, t, _ => rfl
  | x :: r, key, t, h => by
    obtain ⟨h1, h2⟩ := List.pairwise_cons.1 h
    have ih := find_sweep key t h2
    unfold sweepK findK at *
    rw [List.map_cons]
    by_cases hn : x.name = key
    · rw [List.find?_cons_of_pos (by simp [hn])]
      simp only
      cases he : (sweepL x.l t).isEmpty with
      | false =>
        rw [List.filter_cons_of_pos (by simp [he]), List.find?_cons_of_pos (by simp [hn])]
        rfl
      | true =>
        rw [List.filter_cons_of_neg (by simp [he]), ih]
        have := find_above (k := r) (key := key) (fun y hy => by rw [← hn]; exact h1 y hy)
        unfold findK at this
        rw [this]
        rfl
    · rw [List.find?_cons_of_neg (by simp [hn])]
      cases he : (sweepL x.l t).isEmpty with
      | false => rw [List.filter_cons_of_pos (by simp [he]), List.find?_cons_of_neg (by simp [hn]), ih]
      | true => rw [List.filter_cons_of_neg (by simp [he]), ih]

theorem chain_sweep {k : List Kc} (key : ByteArray) (t : Int) (h : Sorted k) : chainK (sweepK k t) key = sweepL (chainK k key) t := by
  unfold chainK
  rw [find_sweep key t h]
  cases findK k key with
  | none => rfl
  | some x =>
    simp only
    cases he : (sweepL x.l t).isEmpty with
    | false => rfl
    | true => rw [if_pos rfl]; exact (List.isEmpty_iff.1 he).symm

theorem sweep_sorted {k : List Kc} (t : Int) (h : Sorted k) : Sorted (sweepK k t) := by
  unfold sweepK
  refine List.Pairwise.filter _ (List.pairwise_map.2 h)

theorem mem_sweep {k : List Kc} {t : Int} {y : Kc} (h : y ∈ sweepK k t) : ∃ x ∈ k, y = ⟨x.name, sweepL x.l t⟩ ∧ sweepL x.l t ≠ [] := by
  unfold sweepK at h
  obtain ⟨h1, h2⟩ := List.mem_filter.1 h
  obtain ⟨x, hx, rfl⟩ := List.mem_map.1 h1
  exact ⟨x, hx, rfl, fun e => by simp [e] at h2⟩

theorem sweep_len (k : List Kc) (t : Int) : (sweepK k t).length ≤ k.length := by
  unfold sweepK
  refine Nat.le_trans (List.length_filter_le ..) ?_
  rw [List.length_map]
  exact Nat.le_refl _

end Sh
end Go.Proofs.YtiobhbagjokpcaaGreat
