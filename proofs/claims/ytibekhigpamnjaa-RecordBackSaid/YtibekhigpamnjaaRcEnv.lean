/- A record in its block, and what Check answers; no condition. -/
import Derived.Test.YtibekhigpamnjaaRcOpen
import Derived.Test.YtibekhigpamnjaaA5
namespace Go.Proofs.Ytibekhigpamnjaa
namespace Rc
open Go.RowKit Bk Lt

/-- what a walk over a record keeps: its lists, its cells, what was there -/
structure RcEnv (w W : World) (g : Nat) (A B : Option Addr) (c d : Nat) (r : Rec) : Prop where
  ks : StrsAt W A r.keys
  ws : WrsAt W B r.ws
  cel : Cel W g 25 [.int .i64 r.kind, .int .i64 r.txn, .int .i64 r.ts, .int .i64 r.coord, .string r.key, .string r.text, .bool r.dead, .slice A r.keys.length c, .slice B r.ws.length d]
  bel : Below w.heap.size w W

theorem RcEnv.step {w W W' : World} {g : Nat} {A B : Option Addr} {c d : Nat} {r : Rec} (h : RcEnv w W g A B c d r) (hb : Below W.heap.size W W') : RcEnv w W' g A B c d r :=
  ⟨h.ks.below hb, h.ws.below hb, h.cel.below hb, h.bel.trans (hb.mono h.bel.size)⟩

theorem RcEnv.start {w : World} {A B : Option Addr} {c d : Nat} {r : Rec} (ha : StrsAt w A r.keys) (hb : WrsAt w B r.ws) :
    RcEnv w (w.alloc (.cells #[.int .i64 r.kind, .int .i64 r.txn, .int .i64 r.ts, .int .i64 r.coord, .string r.key, .string r.text, .bool r.dead, .slice A r.keys.length c, .slice B r.ws.length d] 25)) w.heap.size A B c d r :=
  ⟨ha.alloc _, hb.alloc _, (blk1 w _).2, (Below.refl _ w).alloc (Nat.le_refl _) _⟩

open Classical in
/-- what Check answers -/
noncomputable def ckN (r : Rec) : Nat := if RecOk r then 0 else 80

theorem ckN_of {r : Rec} (h : RecOk r) : ckN r = 0 := by unfold ckN; rw [if_pos h]
theorem ckN_not {r : Rec} (h : ¬ RecOk r) : ckN r = 80 := by unfold ckN; rw [if_neg h]
theorem ckN_ok {r : Rec} (h : headOk r) (h2 : kindOk r) : ckN r = 0 := ckN_of ⟨h, h2⟩
theorem ckN_bad {r : Rec} (h : ¬ kindOk r) : ckN r = 80 := ckN_not (fun hh => h hh.2)
theorem ckN_head {r : Rec} (h : ¬ headOk r) : ckN r = 80 := ckN_not (fun hh => h hh.1)

theorem kind_1 {r : Rec} (h : r.kind = 1) : kindOk r ↔ TextOk r ∧ r.txn ≠ 0 ∧ r.keys.length ≤ 16 ∧ Rises r.keys ∧ WritesOk r.ws := by
  constructor
  · rintro (h2 | h2 | h2 | h2 | h2 | h2 | h2)
    · exact h2.2
    all_goals omega
  · intro h2; exact .inl ⟨h, h2⟩
theorem kind_2 {r : Rec} (h : r.kind = 2) : kindOk r ↔ BareOk r ∧ r.txn ≠ 0 := by
  constructor
  · rintro (h2 | h2 | h2 | h2 | h2 | h2 | h2)
    · omega
    · exact h2.2
    all_goals omega
  · intro h2; exact .inr (.inl ⟨h, h2⟩)
theorem kind_3 {r : Rec} (h : r.kind = 3) : kindOk r ↔ ListsOk r ∧ r.coord = 0 ∧ r.txn = 0 ∧ r.ts ≠ 0 ∧ keyOk r.key ∧ r.text.size ≤ 2052 ∧ (r.dead = false ∨ r.text = ⟨#[]⟩) := by
  constructor
  · rintro (h2 | h2 | h2 | h2 | h2 | h2 | h2)
    · omega
    · omega
    · exact h2.2
    all_goals omega
  · intro h2; exact .inr (.inr (.inl ⟨h, h2⟩))
theorem kind_4 {r : Rec} (h : r.kind = 4) : kindOk r ↔ BareOk r ∧ r.txn = 0 := by
  constructor
  · rintro (h2 | h2 | h2 | h2 | h2 | h2 | h2)
    · omega
    · omega
    · omega
    · exact h2.2
    all_goals omega
  · intro h2; exact .inr (.inr (.inr (.inl ⟨h, h2⟩)))
theorem kind_5 {r : Rec} (h : r.kind = 5) : kindOk r ↔ BareOk r ∧ r.txn ≠ 0 ∧ r.ts ≠ 0 := by
  constructor
  · rintro (h2 | h2 | h2 | h2 | h2 | h2 | h2)
    · omega
    · omega
    · omega
    · omega
    · exact h2.2
    all_goals omega
  · intro h2; exact .inr (.inr (.inr (.inr (.inl ⟨h, h2⟩))))
theorem kind_6 {r : Rec} (h : r.kind = 6) : kindOk r ↔ BareOk r ∧ r.txn ≠ 0 ∧ r.ts = 0 := by
  constructor
  · rintro (h2 | h2 | h2 | h2 | h2 | h2 | h2)
    · omega
    · omega
    · omega
    · omega
    · omega
    · exact h2.2
    · omega
  · intro h2; exact .inr (.inr (.inr (.inr (.inr (.inl ⟨h, h2⟩)))))
theorem kind_7 {r : Rec} (h : r.kind = 7) : kindOk r ↔ BareOk r ∧ r.txn = 0 ∧ r.ts ≠ 0 := by
  constructor
  · rintro (h2 | h2 | h2 | h2 | h2 | h2 | h2)
    · omega
    · omega
    · omega
    · omega
    · omega
    · omega
    · exact h2.2
  · intro h2; exact .inr (.inr (.inr (.inr (.inr (.inr ⟨h, h2⟩)))))
theorem kind_no {r : Rec} (h : r.kind < 1 ∨ 7 < r.kind) : ¬ kindOk r := by
  rintro (h2 | h2 | h2 | h2 | h2 | h2 | h2) <;> omega

/-- a record's lists in the memory, as an argument or a result has them -/
structure RecVal (w : World) (A B : Option Addr) (c d : Nat) (r : Rec) : Prop where
  ks : StrsAt w A r.keys
  ws : WrsAt w B r.ws
  rng : RecRange r c d
  kn : A = none → r.keys = [] ∧ c = 0
  wn : B = none → r.ws = [] ∧ d = 0

theorem RecVal.below {w W : World} {A B : Option Addr} {c d : Nat} {r : Rec} (h : RecVal w A B c d r) (hb : Below w.heap.size w W) : RecVal W A B c d r :=
  ⟨h.ks.below hb, h.ws.below hb, h.rng, h.kn, h.wn⟩

/-- the ranges of one that a pack may say -/
theorem cand_range {ns : List Int} {ts : List ByteArray} (h : Pk.MayBe ns ts) : RecRng (cand ns ts) := by
  obtain ⟨h1, h2, h3, h4⟩ := h
  have rb : reachBytes = 140737488351232 := by unfold reachBytes; rfl
  have hi : ∀ i, -9223372036854775808 ≤ ns.getD i 0 ∧ ns.getD i 0 ≤ 9223372036854775807 := fun i => by
    rw [List.getD_eq_getElem?_getD]
    cases e : ns[i]? with
    | none => simp
    | some z =>
      have hz := h3 z (List.mem_of_getElem? e)
      unfold Pk.numOk at hz
      simp only [Option.getD_some]; omega
  have ht : ∀ t ∈ ts, t.size ≤ reachBytes := fun t ht => by have := h4 t ht; omega
  have hp : ∀ (fs : List Int) (us : List ByteArray), (∀ u ∈ us, u.size ≤ reachBytes) → ∀ x ∈ pairL fs us, x.key.size ≤ reachBytes ∧ x.shard.size ≤ reachBytes := by
    intro fs
    induction fs with
    | nil => intro us _ x hx; simp [pairL] at hx
    | cons f fs ih =>
      intro us hu x hx
      match us, hu, hx with
      | [], _, hx => simp [pairL] at hx
      | [k], _, hx => simp [pairL] at hx
      | k :: s :: r, hu, hx =>
        rcases List.mem_cons.1 hx with rfl | hx
        · exact ⟨hu _ (by simp), hu _ (by simp)⟩
        · exact ih r (fun u hr => hu u (by simp [hr])) x hx
  have hpl : ∀ (fs : List Int) (us : List ByteArray), (pairL fs us).length ≤ fs.length := by
    intro fs
    induction fs with
    | nil => intro us; simp [pairL]
    | cons f fs ih =>
      intro us
      match us with
      | [] => simp [pairL]
      | [k] => simp [pairL]
      | k :: s :: r => rw [pairL, List.length_cons, List.length_cons]; have := ih r; omega
  have hg : ∀ i, (ts.getD i ⟨#[]⟩).size ≤ reachBytes := fun i => by
    rw [List.getD_eq_getElem?_getD]
    cases e : ts[i]? with
    | none => simp only [Option.getD_none]; show (0 : Nat) ≤ _; omega
    | some t => exact ht t (List.mem_of_getElem? e)
  refine ⟨hi 0, hi 1, hi 2, hi 3, hg 0, hg 1, ?_, ?_, ?_, ?_⟩
  · show ((ts.drop 2).take (manyOf ns)).length * 16 ≤ _
    rw [List.length_take, List.length_drop]; omega
  · show (pairL (ns.drop 6) (ts.drop (2 + manyOf ns))).length * 40 ≤ _
    have := hpl (ns.drop 6) (ts.drop (2 + manyOf ns))
    rw [List.length_drop] at this; omega
  · intro t ht2
    exact ht t (List.mem_of_mem_drop (List.mem_of_mem_take ht2))
  · exact hp _ _ (fun u hu => ht u (List.mem_of_mem_drop hu))

theorem RecOk.rng {r : Rec} (h : RecOk r) : RecRng r := by
  obtain ⟨b1, b2, b3, b4, b5, b6, b7, b8⟩ := h.bounds
  obtain ⟨⟨h1, h2, h3, h4⟩, _⟩ := h
  have rb : reachBytes = 140737488351232 := by unfold reachBytes; rfl
  unfold txnOk at h1
  unfold stampOk at h2
  exact ⟨by omega, by omega, by omega, by omega, by omega, by omega, by omega, by omega, fun k hk => by have := b5 k hk; unfold keyOk at this; omega, fun x hx => by have := b6 x hx; unfold keyOk at this; omega⟩

/-- which record bytes are, and what is told -/
noncomputable def decX (s : ByteArray) : Rec × Nat := open Classical in if h : ∃ r, RecOk r ∧ s.data.toList = recL r then (Classical.choose h, 0) else (noRec, 80)

theorem decX_ok {s : ByteArray} {r : Rec} (h : RecOk r) (hs : s.data.toList = recL r) : decX s = (r, 0) := by
  have hx : ∃ r, RecOk r ∧ s.data.toList = recL r := ⟨r, h, hs⟩
  unfold decX
  rw [dif_pos hx]
  have hc := Classical.choose_spec hx
  rw [recL_inj hc.1 h (hc.2.symm.trans hs)]

theorem decX_no {s : ByteArray} (h : NoRec s) : decX s = (noRec, 80) := by
  unfold decX
  rw [dif_neg (fun ⟨r, h1, h2⟩ => h r h1 h2)]

theorem decX_cases (s : ByteArray) : (∃ r, RecOk r ∧ s.data.toList = recL r ∧ decX s = (r, 0)) ∨ (NoRec s ∧ decX s = (noRec, 80)) := by
  by_cases h : ∃ r, RecOk r ∧ s.data.toList = recL r
  · obtain ⟨r, h1, h2⟩ := h
    exact .inl ⟨r, h1, h2, decX_ok h1 h2⟩
  · have hn : NoRec s := fun r h1 h2 => h ⟨r, h1, h2⟩
    exact .inr ⟨hn, decX_no hn⟩

theorem decX_bytes {r : Rec} (h : RecOk r) : decX ⟨(recL r).toArray⟩ = (r, 0) := decX_ok h (by simp)

theorem recL_size {r : Rec} (h : RecOk r) : (⟨(recL r).toArray⟩ : ByteArray).size ≤ 1000000000000000 := by
  have := Pk.bytesL_le h.pack
  show (recL r).toArray.size ≤ _
  rw [List.size_toArray]
  unfold recL
  omega

open Classical in
/-- what Encode answers -/
noncomputable def encV (r : Rec) : Value := if RecOk r then .tuple #[.string ⟨(recL r).toArray⟩, .int .i64 0] else .tuple #[.string ⟨#[]⟩, .int .i64 80]

theorem encV_ok {r : Rec} (h : RecOk r) : encV r = .tuple #[.string ⟨(recL r).toArray⟩, .int .i64 0] := by unfold encV; rw [if_pos h]
theorem encV_bad {r : Rec} (h : ¬ RecOk r) : encV r = .tuple #[.string ⟨#[]⟩, .int .i64 80] := by unfold encV; rw [if_neg h]

theorem encV_form (r : Rec) : ∃ (t : ByteArray) (e : Int), encV r = .tuple #[.string t, .int .i64 e] := by
  unfold encV
  split
  · exact ⟨_, _, rfl⟩
  · exact ⟨_, _, rfl⟩

end Rc
end Go.Proofs.Ytibekhigpamnjaa
