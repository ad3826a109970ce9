/- Parts of the proof, joined: LtMath; their conditions stand with each. -/
import Derived.Test.YtiobhbagjokpcaaGreatM1
import Derived.Test.YtiobhbagjokpcaaGreatM3

/- Letters in plain lists: keys that rise, what a letter may be, its numbers and texts; no condition. -/
namespace Go.Proofs.YtiobhbagjokpcaaGreat
namespace Lt

def keyOk (s : ByteArray) : Prop := 1 ≤ s.size ∧ s.size ≤ 32
instance (s : ByteArray) : Decidable (keyOk s) := inferInstanceAs (Decidable (_ ∧ _))

/-- a is at most b, as Go compares texts -/
def leT (a b : ByteArray) : Bool := Op.bytesLess a.toList b.toList || a.toList == b.toList

/-- keys, each above the one ahead -/
def Rises (l : List ByteArray) : Prop := ∀ i (h : i < l.length), keyOk l[i] ∧ (0 < i → leT l[i] (l[i - 1]'(by omega)) = false)

theorem Rises.nil : Rises [] := fun i h => absurd h (by simp)

/-- how far the keys rise -/
def RisesTo (l : List ByteArray) (j : Nat) : Prop := ∀ i (h : i < l.length), i < j → keyOk l[i] ∧ (0 < i → leT l[i] (l[i - 1]'(by omega)) = false)

theorem RisesTo.zero (l : List ByteArray) : RisesTo l 0 := fun i _ hj => absurd hj (by omega)

theorem RisesTo.succ {l : List ByteArray} {j : Nat} (h : RisesTo l j) (hj : j < l.length) (hk : keyOk l[j]) (hr : 0 < j → leT l[j] (l[j - 1]'(by omega)) = false) : RisesTo l (j + 1) := fun i hi hij => by
  by_cases e : i = j
  · subst e; exact ⟨hk, hr⟩
  · exact h i hi (by omega)

theorem RisesTo.all {l : List ByteArray} (h : RisesTo l l.length) : Rises l := fun i hi => h i hi hi

theorem not_rises {l : List ByteArray} {j : Nat} (hj : j < l.length) (h : ¬ (keyOk l[j] ∧ (0 < j → leT l[j] (l[j - 1]'(by omega)) = false))) : ¬ Rises l := fun hr => h (hr j hj)

/-- a write -/
structure Wr where
  key : ByteArray
  shard : ByteArray
  dead : Bool

def wrOk (x : Wr) : Prop := x.shard.size ≤ 2052 ∧ ¬ (x.dead = true ∧ x.shard ≠ ⟨#[]⟩)

instance (x : Wr) : Decidable (wrOk x) := inferInstanceAs (Decidable (_ ∧ _))

def WritesOk (l : List Wr) : Prop := l.length ≤ 16 ∧ (∀ x ∈ l, wrOk x) ∧ Rises (l.map Wr.key)

def addr (n : Int) : Prop := (0 ≤ n ∧ n < 12) ∨ (100 ≤ n ∧ n < 116)
def txnOk (n : Int) : Prop := 1 ≤ n ∧ n ≤ 1125899906842623
def stampOk (n : Int) : Prop := 0 ≤ n ∧ n ≤ 1125899906842624

instance (n : Int) : Decidable (addr n) := inferInstanceAs (Decidable (_ ∨ _))
instance (n : Int) : Decidable (txnOk n) := inferInstanceAs (Decidable (_ ∧ _))
instance (n : Int) : Decidable (stampOk n) := inferInstanceAs (Decidable (_ ∧ _))

/-- a letter -/
structure Let where
  kind : Int
  src : Int
  dst : Int
  txn : Int
  ts : Int
  code : Int
  text : ByteArray
  keys : List ByteArray
  ws : List Wr

/-- what its kind lets it have -/
def kindOk (l : Let) : Prop :=
  (l.kind = 1 ∧ (l.keys.length = 1 ∧ (∀ k ∈ l.keys, keyOk k) ∧ l.ws = []) ∧ l.text = ⟨#[]⟩ ∧ l.code = 0) ∨
  (l.kind = 2 ∧ (l.keys.length = 1 ∧ (∀ k ∈ l.keys, keyOk k) ∧ l.ws = []) ∧ l.text.size ≤ 2052 ∧ (l.text = ⟨#[]⟩ ∨ l.code = 1)) ∨
  (l.kind = 3 ∧ l.keys.length ≤ 16 ∧ Rises l.keys ∧ WritesOk l.ws ∧ l.text = ⟨#[]⟩ ∧ l.code = 0) ∨
  (l.kind = 4 ∧ (l.keys = [] ∧ l.ws = [] ∧ l.text = ⟨#[]⟩) ∧ l.code ≤ 1) ∨
  ((l.kind = 5 ∨ l.kind = 6 ∨ l.kind = 7) ∧ (l.keys = [] ∧ l.ws = [] ∧ l.text = ⟨#[]⟩) ∧ l.code = 0) ∨
  (l.kind = 8 ∧ (l.keys = [] ∧ l.ws = [] ∧ l.text = ⟨#[]⟩) ∧ l.code ≤ 2)

def headOk (l : Let) : Prop := addr l.src ∧ addr l.dst ∧ txnOk l.txn ∧ stampOk l.ts ∧ 0 ≤ l.code ∧ l.code ≤ 4

def LetOk (l : Let) : Prop := headOk l ∧ kindOk l

/-- its numbers and texts -/
def numsOf (l : Let) : List Int := [l.kind, l.src, l.dst, l.txn, l.ts, l.code, (l.keys.length : Int)] ++ l.ws.map fun x => if x.dead then 1 else 0
def textsOf (l : Let) : List ByteArray := l.text :: (l.keys ++ l.ws.flatMap fun x => [x.key, x.shard])

def letL (l : Let) : List UInt8 := Pk.bytesL (numsOf l) (textsOf l)

theorem LetOk.bounds {l : Let} (h : LetOk l) : l.keys.length ≤ 16 ∧ l.ws.length ≤ 16 ∧ l.text.size ≤ 2052 ∧ (∀ k ∈ l.keys, keyOk k) ∧ (∀ x ∈ l.ws, keyOk x.key ∧ x.shard.size ≤ 2052) ∧ 1 ≤ l.kind ∧ l.kind ≤ 8 := by
  obtain ⟨_, h⟩ := h
  have e0 : (⟨#[]⟩ : ByteArray).size = 0 := rfl
  have rk : ∀ (m : List ByteArray), Rises m → ∀ k ∈ m, keyOk k := fun m hm k hk => by
    obtain ⟨i, hi, e⟩ := List.mem_iff_getElem.1 hk
    rw [← e]; exact (hm i hi).1
  have rw_ : ∀ (m : List Wr), Rises (m.map Wr.key) → ∀ x ∈ m, keyOk x.key := fun m hm x hx => rk _ hm _ (List.mem_map.2 ⟨x, hx, rfl⟩)
  rcases h with ⟨h1, ⟨h2, h3, h4⟩, h5, _⟩ | ⟨h1, ⟨h2, h3, h4⟩, h5, _⟩ | ⟨h1, h2, h3, ⟨h4, h5, h6⟩, h7, _⟩ | ⟨h1, ⟨h2, h3, h4⟩, _⟩ | ⟨h1, ⟨h2, h3, h4⟩, _⟩ | ⟨h1, ⟨h2, h3, h4⟩, _⟩
  · rw [h4, h5]; exact ⟨by omega, by simp, by rw [e0]; omega, h3, by simp, by omega, by omega⟩
  · rw [h4]; exact ⟨by omega, by simp, h5, h3, by simp, by omega, by omega⟩
  · rw [h7]; exact ⟨h2, h4, by rw [e0]; omega, rk _ h3, fun x hx => ⟨rw_ _ h6 x hx, (h5 x hx).1⟩, by omega, by omega⟩
  all_goals rw [h2, h3, h4]; exact ⟨by simp, by simp, by rw [e0]; omega, by simp, by simp, by omega, by omega⟩

/-- a letter that may be is a pack that may be -/
theorem LetOk.pack {l : Let} (h : LetOk l) : Pk.MayBe (numsOf l) (textsOf l) := by
  obtain ⟨b1, b2, b3, b4, b5, b6, b7⟩ := h.bounds
  obtain ⟨⟨h1, h2, h3, h4, h5, h6⟩, _⟩ := h
  have fl : (l.ws.flatMap fun x => [x.key, x.shard]).length = 2 * l.ws.length := by
    induction l.ws with
    | nil => rfl
    | cons x r ih => simp only [List.flatMap_cons, List.length_append, List.length_cons, List.length_nil]; omega
  refine ⟨?_, ?_, fun n hn => ?_, fun t ht => ?_⟩
  · unfold numsOf
    rw [List.length_append, List.length_map]
    show 7 + _ ≤ _
    omega
  · unfold textsOf
    rw [List.length_cons, List.length_append, fl]
    omega
  · unfold numsOf at hn
    rcases List.mem_append.1 hn with hn | hn
    · simp only [List.mem_cons, List.not_mem_nil, or_false] at hn
      unfold addr at h1 h2
      unfold txnOk at h3
      unfold stampOk at h4
      unfold Pk.numOk
      rcases hn with rfl | rfl | rfl | rfl | rfl | rfl | rfl <;> omega
    · obtain ⟨x, _, rfl⟩ := List.mem_map.1 hn
      unfold Pk.numOk
      split <;> omega
  · unfold textsOf at ht
    rcases List.mem_cons.1 ht with rfl | ht
    · omega
    · rcases List.mem_append.1 ht with ht | ht
      · have := b4 t ht; unfold keyOk at this; omega
      · obtain ⟨x, hx, hx2⟩ := List.mem_flatMap.1 ht
        have := b5 x hx
        unfold keyOk at this
        simp only [List.mem_cons, List.not_mem_nil, or_false] at hx2
        rcases hx2 with rfl | rfl <;> omega

/-- numbers and texts say the letter -/
theorem let_inj {l m : Let} (hn : numsOf l = numsOf m) (ht : textsOf l = textsOf m) : l = m := by
  obtain ⟨k1, a1, b1, c1, d1, e1, t1, ks1, ws1⟩ := l
  obtain ⟨k2, a2, b2, c2, d2, e2, t2, ks2, ws2⟩ := m
  simp only [numsOf, textsOf, List.cons_append, List.nil_append, List.cons.injEq] at hn ht
  obtain ⟨rfl, rfl, rfl, rfl, rfl, rfl, hk, hw⟩ := hn
  obtain ⟨rfl, ht⟩ := ht
  have hk' : ks1.length = ks2.length := by omega
  obtain ⟨rfl, hf⟩ := List.append_inj ht hk'
  have : ∀ (x y : List Wr), (x.map fun z => if z.dead = true then (1 : Int) else 0) = (y.map fun z => if z.dead = true then (1 : Int) else 0) → (x.flatMap fun z => [z.key, z.shard]) = (y.flatMap fun z => [z.key, z.shard]) → x = y := by
    intro x
    induction x with
    | nil => intro y h _; cases y with
      | nil => rfl
      | cons z r => simp at h
    | cons z r ih =>
      intro y h1 h2
      cases y with
      | nil => simp at h1
      | cons z2 r2 =>
        simp only [List.map_cons, List.cons.injEq, List.flatMap_cons, List.cons_append, List.nil_append] at h1 h2
        obtain ⟨g1, g2⟩ := h1
        obtain ⟨g3, g4, g5⟩ := h2
        rw [ih r2 g2 g5]
        congr 1
        obtain ⟨zk, zs, zd⟩ := z
        obtain ⟨yk, ys, yd⟩ := z2
        simp only at g1 g3 g4
        subst g3 g4
        cases zd <;> cases yd <;> simp at g1 ⊢
  rw [this ws1 ws2 hw hf]

theorem letL_inj {l m : Let} (hl : LetOk l) (hm : LetOk m) (h : letL l = letL m) : l = m := by
  have h1 := Pk.decL_back hl.pack
  have h2 := Pk.decL_back hm.pack
  unfold letL at h
  rw [h, h2] at h1
  simp only [Except.ok.injEq, Prod.mk.injEq] at h1
  exact (let_inj h1.1 h1.2).symm

end Lt
end Go.Proofs.YtiobhbagjokpcaaGreat
