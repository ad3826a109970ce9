/- Parts of the proof, joined: LtDec0, RcEnv; their conditions stand with each. -/
import Derived.Test.YtiobhbagjokpcaaM9

/- Parts of slices, nine cells that are written over, and writes of the call's own; no condition. -/
namespace Go.Proofs.Ytiobhbagjokpcaa
namespace Lt
open Go.RowKit Bk

attribute [local go_sem ↓] Go.wp_at_zero Go.wp_at_succ
attribute [local go_sem] floatUpon pick

/-- the zero letter in its block -/
theorem zero_cells (w : World) : Cel (w.alloc (.cells #[.int .i64 0, .int .i64 0, .int .i64 0, .int .i64 0, .int .i64 0, .int .i64 0, .string ⟨#[]⟩, .slice none 0 0, .slice none 0 0] 135)) w.heap.size 135 [.int .i64 0, .int .i64 0, .int .i64 0, .int .i64 0, .int .i64 0, .int .i64 0, .string ⟨#[]⟩, .slice none 0 0, .slice none 0 0] := (blk1 w _).2

theorem add_add (a : Addr) (k i : Nat) : (a.add k).add i = a.add (k + i) := by
  unfold Addr.add
  by_cases hk : k = 0
  · subst hk; simp
  · by_cases hi : i = 0
    · subst hi; simp [hk]
    · simp [hk, hi, Nat.add_assoc]

theorem add_lit (a : Addr) (k : Nat) (h : 0 < k) : (⟨a.block, a.off + k, none⟩ : Addr) = a.add k := by unfold Addr.add; rw [if_neg (by omega)]

theorem ints_sub {w : World} {a : Addr} {l : List Int} {k c : Nat} (h : IntsAt w (some a) l) (hc : l.length ≤ c) : IntsAt w (if c = k then some a else some (a.add k)) (l.drop k) := fun hp => by
  rw [List.length_drop] at hp
  obtain ⟨a', e, hb, hcl⟩ := h (by omega)
  obtain rfl := Option.some.inj e
  refine ⟨a.add k, by rw [if_neg (by omega)], by rw [st_block]; exact hb, fun i hi => ?_⟩
  rw [List.length_drop] at hi
  rw [add_add, hcl (k + i) (by omega), List.getElem_drop]

theorem strs_sub {w : World} {a : Addr} {l : List ByteArray} {k c : Nat} (h : StrsAt w (some a) l) (hc : l.length ≤ c) : StrsAt w (if c = k then some a else some (a.add k)) (l.drop k) := fun hp => by
  rw [List.length_drop] at hp
  obtain ⟨a', e, hb, hcl⟩ := h (by omega)
  obtain rfl := Option.some.inj e
  refine ⟨a.add k, by rw [if_neg (by omega)], by rw [st_block]; exact hb, fun i hi => ?_⟩
  rw [List.length_drop] at hi
  rw [add_add, hcl (k + i) (by omega), List.getElem_drop]

theorem strs_take {w : World} {A : Option Addr} {l : List ByteArray} (h : StrsAt w A l) (q : Nat) : StrsAt w A (l.take q) := fun hp => by
  rw [List.length_take] at hp
  obtain ⟨a, e, hb, hcl⟩ := h (by omega)
  refine ⟨a, e, hb, fun i hi => ?_⟩
  rw [List.length_take] at hi
  rw [hcl i (by omega), List.getElem_take]

theorem strs_far {w W : World} {A : Option Addr} {l : List ByteArray} (h : StrsAt w A l) {R : Nat} (hR : ∀ a, A = some a → a.block ≠ R) (hs : w.heap.size ≤ W.heap.size) (he : ∀ a : Addr, a.block ≠ R → W.cell? a = w.cell? a) : StrsAt W A l := fun hp => by
  obtain ⟨a, e, hb, hcl⟩ := h hp
  exact ⟨a, e, Nat.lt_of_lt_of_le hb hs, fun i hi => (he _ (by rw [st_block]; exact hR a e)).trans (hcl i hi)⟩

theorem wrs_far {w W : World} {A : Option Addr} {l : List Wr} (h : WrsAt w A l) {R : Nat} (hR : ∀ a, A = some a → a.block ≠ R) (hs : w.heap.size ≤ W.heap.size) (he : ∀ a : Addr, a.block ≠ R → W.cell? a = w.cell? a) : WrsAt W A l := fun hp => by
  obtain ⟨a, e, hb, hcl⟩ := h hp
  exact ⟨a, e, Nat.lt_of_lt_of_le hb hs, fun i hi => ⟨(he _ (by rw [st_block]; exact hR a e)).trans (hcl i hi).1, (he _ (by rw [st_block]; exact hR a e)).trans (hcl i hi).2.1, (he _ (by rw [st_block]; exact hR a e)).trans (hcl i hi).2.2⟩⟩

theorem below_row {w W : World} {H o : Nat} (h : Below H w W) (ho : H ≤ o) (cs : Array Value) : Below H w (W.setRow o cs) :=
  h.trans ⟨rfl, rfl, rfl, by simp, fun k hk => setRow_other _ _ _ _ (by omega)⟩

/-- nine cells are written over -/
def set9 (W : World) (R : Nat) (v0 v1 v2 v3 v4 v5 v6 v7 v8 : Value) : World :=
  (((((((((W.setCell ⟨R, 0, none⟩ v0).setCell ⟨R, 1, none⟩ v1).setCell ⟨R, 2, none⟩ v2).setCell ⟨R, 3, none⟩ v3).setCell ⟨R, 4, none⟩ v4).setCell ⟨R, 5, none⟩ v5).setCell ⟨R, 6, none⟩ v6).setCell ⟨R, 7, none⟩ v7).setCell ⟨R, 8, none⟩ v8)

theorem set9_cel {W : World} {R : Nat} {t : TypeId} {u0 u1 u2 u3 u4 u5 u6 u7 u8 v0 v1 v2 v3 v4 v5 v6 v7 v8 : Value} (h : Cel W R t [u0, u1, u2, u3, u4, u5, u6, u7, u8]) : Cel (set9 W R v0 v1 v2 v3 v4 v5 v6 v7 v8) R t [v0, v1, v2, v3, v4, v5, v6, v7, v8] :=
  ((((((((h.set (i := 0) (v := v0)).set (i := 1) (v := v1)).set (i := 2) (v := v2)).set (i := 3) (v := v3)).set (i := 4) (v := v4)).set (i := 5) (v := v5)).set (i := 6) (v := v6)).set (i := 7) (v := v7)).set (i := 8) (v := v8)

theorem set9_below {w W : World} {H R : Nat} {v0 v1 v2 v3 v4 v5 v6 v7 v8 : Value} (h : Below H w W) (hR : H ≤ R) : Below H w (set9 W R v0 v1 v2 v3 v4 v5 v6 v7 v8) :=
  ((((((((h.setCell (p := ⟨R, 0, none⟩) hR v0).setCell (p := ⟨R, 1, none⟩) hR v1).setCell (p := ⟨R, 2, none⟩) hR v2).setCell (p := ⟨R, 3, none⟩) hR v3).setCell (p := ⟨R, 4, none⟩) hR v4).setCell (p := ⟨R, 5, none⟩) hR v5).setCell (p := ⟨R, 6, none⟩) hR v6).setCell (p := ⟨R, 7, none⟩) hR v7).setCell (p := ⟨R, 8, none⟩) hR v8

theorem set9_other {W : World} {R : Nat} {v0 v1 v2 v3 v4 v5 v6 v7 v8 : Value} {a : Addr} (h : a.block ≠ R) : (set9 W R v0 v1 v2 v3 v4 v5 v6 v7 v8).cell? a = W.cell? a := by
  have hh : (set9 W R v0 v1 v2 v3 v4 v5 v6 v7 v8).heap[a.block]? = W.heap[a.block]? := by
    have e : ∀ (W : World) (i : Nat) (v : Value), (W.setCell ⟨R, i, none⟩ v).heap[a.block]? = W.heap[a.block]? := fun W i v => Below.heap_setCell W ⟨R, i, none⟩ v a.block h
    unfold set9
    rw [e, e, e, e, e, e, e, e, e]
  exact World.cell?_of_block hh

theorem set9_size {W : World} {R : Nat} {v0 v1 v2 v3 v4 v5 v6 v7 v8 : Value} : (set9 W R v0 v1 v2 v3 v4 v5 v6 v7 v8).heap.size = W.heap.size := by
  unfold set9; simp

/-- the writes of a row that was made behind block X -/
def SW (X n : Nat) (L : List Wr) (A : Option Addr) (c : Nat) (W : World) : Prop := WrsAt W A L ∧ n ≤ c ∧ c ≤ maxLen ∧ (A = none → c = 0) ∧ ∀ a, A = some a → X ≤ a.block

theorem SW.keep {X n : Nat} {L : List Wr} {A : Option Addr} {c : Nat} {W W' : World} (h : SW X n L A c W) (hb : Below W.heap.size W W') : SW X n L A c W' := ⟨h.1.below hb, h.2⟩

def S85 (X n : Nat) (L : List Wr) (v : Value) (W : World) : Prop := ∃ A c, v = .tuple #[.slice A n c, .bool true] ∧ SW X n L A c W
def S86 (X n : Nat) (L : List Wr) (v : Value) (W : World) : Prop := ∃ A c, v = .slice A n c ∧ SW X n L A c W
theorem S85.keep {X n : Nat} {L : List Wr} {v : Value} {W W' : World} (h : S85 X n L v W) (hb : Below W.heap.size W W') : S85 X n L v W' := by
  obtain ⟨A, c, e, h⟩ := h; exact ⟨A, c, e, h.keep hb⟩
theorem S86.keep {X n : Nat} {L : List Wr} {v : Value} {W W' : World} (h : S86 X n L v W) (hb : Below W.heap.size W W') : S86 X n L v W' := by
  obtain ⟨A, c, e, h⟩ := h; exact ⟨A, c, e, h.keep hb⟩

theorem wrs_own2 {w : World} {H n : Nat} {v : Value} {e : TypeId} {l : List Wr} (h : w.ownsRow H e 3 v n (wrV l)) (hl : n = l.length) {X : Nat} (hX : X ≤ H) : ∃ (A : Option Addr) (c : Nat), v = .slice A n c ∧ SW X n l A c w := by
  obtain ⟨A, c, rfl, h1, h2, h3, h4⟩ := wrs_own h hl
  exact ⟨A, c, rfl, h1, h2, h3, h4, fun a ea => Nat.le_trans hX (h.lt a.block (by rw [ea]; rfl)).1⟩

end Lt
end Go.Proofs.Ytiobhbagjokpcaa

/- A record in its block, and what Check answers; no condition. -/
namespace Go.Proofs.Ytiobhbagjokpcaa
namespace Rc
open Go.RowKit Bk Lt

/-- what a walk over a record keeps: its lists, its cells, what was there -/
structure RcEnv (w W : World) (g : Nat) (A B : Option Addr) (c d : Nat) (r : Rec) : Prop where
  ks : StrsAt W A r.keys
  ws : WrsAt W B r.ws
  cel : Cel W g 32 [.int .i64 r.kind, .int .i64 r.txn, .int .i64 r.ts, .int .i64 r.coord, .string r.key, .string r.text, .bool r.dead, .slice A r.keys.length c, .slice B r.ws.length d]
  bel : Below w.heap.size w W

theorem RcEnv.step {w W W' : World} {g : Nat} {A B : Option Addr} {c d : Nat} {r : Rec} (h : RcEnv w W g A B c d r) (hb : Below W.heap.size W W') : RcEnv w W' g A B c d r :=
  ⟨h.ks.below hb, h.ws.below hb, h.cel.below hb, h.bel.trans (hb.mono h.bel.size)⟩

theorem RcEnv.start {w : World} {A B : Option Addr} {c d : Nat} {r : Rec} (ha : StrsAt w A r.keys) (hb : WrsAt w B r.ws) :
    RcEnv w (w.alloc (.cells #[.int .i64 r.kind, .int .i64 r.txn, .int .i64 r.ts, .int .i64 r.coord, .string r.key, .string r.text, .bool r.dead, .slice A r.keys.length c, .slice B r.ws.length d] 32)) w.heap.size A B c d r :=
  ⟨ha.alloc _, hb.alloc _, (blk1 w _).2, (Below.refl _ w).alloc (Nat.le_refl _) _⟩

open Classical in
/-- what Check answers -/
noncomputable def ckN (r : Rec) : Nat := if RecOk r then 0 else 80

theorem ckN_of {r : Rec} (h : RecOk r) : ckN r = 0 := by unfold ckN; rw [if_pos h]
theorem ckN_not {r : Rec} (h : ¬ RecOk r) : ckN r = 80 := by unfold ckN; rw [if_neg h]
theorem ckN_ok {r : Rec} (h : headOk r) (h2 : kindOk r) : ckN r = 0 := ckN_of ⟨h, h2⟩
theorem ckN_bad {r : Rec} (h : ¬ kindOk r) : ckN r = 80 := ckN_not (fun hh => h hh.2)
theorem ckN_head {r : Rec} (h : ¬ headOk r) : ckN r = 80 := ckN_not (fun hh => h hh.1)

theorem kind_1 {r : Rec} (h : r.kind = 1) : kindOk r ↔ TextOk r ∧ r.txn ≠ 0 ∧ r.keys.length ≤ 16 ∧ Rises r.keys ∧ WritesOk r.ws := by
  constructor
  · rintro (h2 | h2 | h2 | h2 | h2 | h2 | h2)
    · exact h2.2
    all_goals omega
  · intro h2; exact .inl ⟨h, h2⟩
theorem kind_2 {r : Rec} (h : r.kind = 2) : kindOk r ↔ BareOk r ∧ r.txn ≠ 0 := by
  constructor
  · rintro (h2 | h2 | h2 | h2 | h2 | h2 | h2)
    · omega
    · exact h2.2
    all_goals omega
  · intro h2; exact .inr (.inl ⟨h, h2⟩)
theorem kind_3 {r : Rec} (h : r.kind = 3) : kindOk r ↔ ListsOk r ∧ r.coord = 0 ∧ r.txn = 0 ∧ r.ts ≠ 0 ∧ keyOk r.key ∧ r.text.size ≤ 2052 ∧ (r.dead = false ∨ r.text = ⟨#[]⟩) := by
  constructor
  · rintro (h2 | h2 | h2 | h2 | h2 | h2 | h2)
    · omega
    · omega
    · exact h2.2
    all_goals omega
  · intro h2; exact .inr (.inr (.inl ⟨h, h2⟩))
theorem kind_4 {r : Rec} (h : r.kind = 4) : kindOk r ↔ BareOk r ∧ r.txn = 0 := by
  constructor
  · rintro (h2 | h2 | h2 | h2 | h2 | h2 | h2)
    · omega
    · omega
    · omega
    · exact h2.2
    all_goals omega
  · intro h2; exact .inr (.inr (.inr (.inl ⟨h, h2⟩)))
theorem kind_5 {r : Rec} (h : r.kind = 5) : kindOk r ↔ BareOk r ∧ r.txn ≠ 0 ∧ r.ts ≠ 0 := by
  constructor
  · rintro (h2 | h2 | h2 | h2 | h2 | h2 | h2)
    · omega
    · omega
    · omega
    · omega
    · exact h2.2
    all_goals omega
  · intro h2; exact .inr (.inr (.inr (.inr (.inl ⟨h, h2⟩))))
theorem kind_6 {r : Rec} (h : r.kind = 6) : kindOk r ↔ BareOk r ∧ r.txn ≠ 0 ∧ r.ts = 0 := by
  constructor
  · rintro (h2 | h2 | h2 | h2 | h2 | h2 | h2)
    · omega
    · omega
    · omega
    · omega
    · omega
    · exact h2.2
    · omega
  · intro h2; exact .inr (.inr (.inr (.inr (.inr (.inl ⟨h, h2⟩)))))
theorem kind_7 {r : Rec} (h : r.kind = 7) : kindOk r ↔ BareOk r ∧ r.txn = 0 ∧ r.ts ≠ 0 := by
  constructor
  · rintro (h2 | h2 | h2 | h2 | h2 | h2 | h2)
    · omega
    · omega
    · omega
    · omega
    · omega
    · omega
    · exact h2.2
  · intro h2; exact .inr (.inr (.inr (.inr (.inr (.inr ⟨h, h2⟩)))))
theorem kind_no {r : Rec} (h : r.kind < 1 ∨ 7 < r.kind) : ¬ kindOk r := by
  rintro (h2 | h2 | h2 | h2 | h2 | h2 | h2) <;> omega

/-- a record's lists in the memory, as an argument or a result has them -/
structure RecVal (w : World) (A B : Option Addr) (c d : Nat) (r : Rec) : Prop where
  ks : StrsAt w A r.keys
  ws : WrsAt w B r.ws
  rng : RecRange r c d
  kn : A = none → r.keys = [] ∧ c = 0
  wn : B = none → r.ws = [] ∧ d = 0

theorem RecVal.below {w W : World} {A B : Option Addr} {c d : Nat} {r : Rec} (h : RecVal w A B c d r) (hb : Below w.heap.size w W) : RecVal W A B c d r :=
  ⟨h.ks.below hb, h.ws.below hb, h.rng, h.kn, h.wn⟩

/-- the ranges of one that a pack may say -/
theorem cand_range {ns : List Int} {ts : List ByteArray} (h : Pk.MayBe ns ts) : RecRng (cand ns ts) := by
  obtain ⟨h1, h2, h3, h4⟩ := h
  have rb : reachBytes = 140737488351232 := by unfold reachBytes; rfl
  have hi : ∀ i, -9223372036854775808 ≤ ns.getD i 0 ∧ ns.getD i 0 ≤ 9223372036854775807 := fun i => by
    rw [List.getD_eq_getElem?_getD]
    cases e : ns[i]? with
    | none => simp
    | some z =>
      have hz := h3 z (List.mem_of_getElem? e)
      unfold Pk.numOk at hz
      simp only [Option.getD_some]; omega
  have ht : ∀ t ∈ ts, t.size ≤ reachBytes := fun t ht => by have := h4 t ht; omega
  have hp : ∀ (fs : List Int) (us : List ByteArray), (∀ u ∈ us, u.size ≤ reachBytes) → ∀ x ∈ pairL fs us, x.key.size ≤ reachBytes ∧ x.shard.size ≤ reachBytes := by
    intro fs
    induction fs with
    | nil => intro us _ x hx; simp [pairL] at hx
    | cons f fs ih =>
      intro us hu x hx
      match us, hu, hx with
      | [], _, hx => simp [pairL] at hx
      | [k], _, hx => simp [pairL] at hx
      | k :: s :: r, hu, hx =>
        rcases List.mem_cons.1 hx with rfl | hx
        · exact ⟨hu _ (by simp), hu _ (by simp)⟩
        · exact ih r (fun u hr => hu u (by simp [hr])) x hx
  have hpl : ∀ (fs : List Int) (us : List ByteArray), (pairL fs us).length ≤ fs.length := by
    intro fs
    induction fs with
    | nil => intro us; simp [pairL]
    | cons f fs ih =>
      intro us
      match us with
      | [] => simp [pairL]
      | [k] => simp [pairL]
      | k :: s :: r => rw [pairL, List.length_cons, List.length_cons]; have := ih r; omega
  have hg : ∀ i, (ts.getD i ⟨#[]⟩).size ≤ reachBytes := fun i => by
    rw [List.getD_eq_getElem?_getD]
    cases e : ts[i]? with
    | none => simp only [Option.getD_none]; show (0 : Nat) ≤ _; omega
    | some t => exact ht t (List.mem_of_getElem? e)
  refine ⟨hi 0, hi 1, hi 2, hi 3, hg 0, hg 1, ?_, ?_, ?_, ?_⟩
  · show ((ts.drop 2).take (manyOf ns)).length * 16 ≤ _
    rw [List.length_take, List.length_drop]; omega
  · show (pairL (ns.drop 6) (ts.drop (2 + manyOf ns))).length * 40 ≤ _
    have := hpl (ns.drop 6) (ts.drop (2 + manyOf ns))
    rw [List.length_drop] at this; omega
  · intro t ht2
    exact ht t (List.mem_of_mem_drop (List.mem_of_mem_take ht2))
  · exact hp _ _ (fun u hu => ht u (List.mem_of_mem_drop hu))

theorem RecOk.rng {r : Rec} (h : RecOk r) : RecRng r := by
  obtain ⟨b1, b2, b3, b4, b5, b6, b7, b8⟩ := h.bounds
  obtain ⟨⟨h1, h2, h3, h4⟩, _⟩ := h
  have rb : reachBytes = 140737488351232 := by unfold reachBytes; rfl
  unfold txnOk at h1
  unfold stampOk at h2
  exact ⟨by omega, by omega, by omega, by omega, by omega, by omega, by omega, by omega, fun k hk => by have := b5 k hk; unfold keyOk at this; omega, fun x hx => by have := b6 x hx; unfold keyOk at this; omega⟩

/-- which record bytes are, and what is told -/
noncomputable def decX (s : ByteArray) : Rec × Nat := open Classical in if h : ∃ r, RecOk r ∧ s.data.toList = recL r then (Classical.choose h, 0) else (noRec, 80)

theorem decX_ok {s : ByteArray} {r : Rec} (h : RecOk r) (hs : s.data.toList = recL r) : decX s = (r, 0) := by
  have hx : ∃ r, RecOk r ∧ s.data.toList = recL r := ⟨r, h, hs⟩
  unfold decX
  rw [dif_pos hx]
  have hc := Classical.choose_spec hx
  rw [recL_inj hc.1 h (hc.2.symm.trans hs)]

theorem decX_no {s : ByteArray} (h : NoRec s) : decX s = (noRec, 80) := by
  unfold decX
  rw [dif_neg (fun ⟨r, h1, h2⟩ => h r h1 h2)]

theorem decX_cases (s : ByteArray) : (∃ r, RecOk r ∧ s.data.toList = recL r ∧ decX s = (r, 0)) ∨ (NoRec s ∧ decX s = (noRec, 80)) := by
  by_cases h : ∃ r, RecOk r ∧ s.data.toList = recL r
  · obtain ⟨r, h1, h2⟩ := h
    exact .inl ⟨r, h1, h2, decX_ok h1 h2⟩
  · have hn : NoRec s := fun r h1 h2 => h ⟨r, h1, h2⟩
    exact .inr ⟨hn, decX_no hn⟩

theorem decX_bytes {r : Rec} (h : RecOk r) : decX ⟨(recL r).toArray⟩ = (r, 0) := decX_ok h (by simp)

theorem recL_size {r : Rec} (h : RecOk r) : (⟨(recL r).toArray⟩ : ByteArray).size ≤ 1000000000000000 := by
  have := Pk.bytesL_le h.pack
  show (recL r).toArray.size ≤ _
  rw [List.size_toArray]
  unfold recL
  omega

open Classical in
/-- what Encode answers -/
noncomputable def encV (r : Rec) : Value := if RecOk r then .tuple #[.string ⟨(recL r).toArray⟩, .int .i64 0] else .tuple #[.string ⟨#[]⟩, .int .i64 80]

theorem encV_ok {r : Rec} (h : RecOk r) : encV r = .tuple #[.string ⟨(recL r).toArray⟩, .int .i64 0] := by unfold encV; rw [if_pos h]
theorem encV_bad {r : Rec} (h : ¬ RecOk r) : encV r = .tuple #[.string ⟨#[]⟩, .int .i64 80] := by unfold encV; rw [if_neg h]

theorem encV_form (r : Rec) : ∃ (t : ByteArray) (e : Int), encV r = .tuple #[.string t, .int .i64 e] := by
  unfold encV
  split
  · exact ⟨_, _, rfl⟩
  · exact ⟨_, _, rfl⟩

end Rc
end Go.Proofs.Ytiobhbagjokpcaa
