/- Parts of the proof, joined: LtOpen2, LtEnv, PkRef, PkRef2, PkRef3, PkRead, PkDecEnv, BkStr; their conditions stand with each. -/
import Derived.Deep.Cut
import Derived.Deep.CutRange
import Derived.Deep.DeepCutAuto
import Derived.Test.YtiobhbagjokpcaaM1
import Derived.Test.YtiobhbagjokpcaaM3
import Derived.Test.YtiobhbagjokpcaaM5
import Derived.Test.YtiobhbagjokpcaaM6

/- A letter as an argument, its writes counted at forty bytes each: what its reading says. -/
namespace Go.Proofs.Ytiobhbagjokpcaa
namespace Lt
open Go.ChangeShapes Go.WideShapes Go.ChangeAt Go.RowKit Go.Joins Go.Deep Bk

section
variable {H : Type} {enc : TypeId × Value → H} {W : World}

set_option maxRecDepth 20000 in
theorem field_writes40 {t e : TypeId} {f0 f1 f2 : Field} {v : Value} {fuel : Nat} {y : DataW H × List MemPlace} (ht : Try.prog.underlying t = some (.slice e)) (he : Try.prog.underlying e = some (.struct #[f0, f1, f2])) (ce : Try.prog.cellsOf e = 3) (hone : oneCellFields Try.prog #[f0, f1, f2] = true)
    (t0 : Try.prog.underlying f0.type = some .string) (t1 : Try.prog.underlying f1.type = some .string) (t2 : Try.prog.underlying f2.type = some .bool) (hb40 : 40 ≤ Try.prog.bytesOf e)
    (hf : DataW.trod enc Try.prog W 0 (fun _ => true) true fuel t [v] = some y) (hwt : ∀ k ∈ y.1.weights Try.prog t, k ≤ reachBytes) (hl : ∀ x ∈ y.2, x.block < W.heap.size) :
    ∃ (A : Option Addr) (c : Nat) (L : List Wr), v = .slice A L.length c ∧ WrsAt W A L ∧ L.length * 40 ≤ reachBytes ∧ L.length ≤ c ∧ c ≤ maxLen ∧ (∀ x ∈ L, x.key.size ≤ reachBytes ∧ x.shard.size ≤ reachBytes) ∧ (A = none → L = [] ∧ c = 0) := by
  rcases open_slice ht hf with ⟨hcs, _⟩ | ⟨a, len, cap, m, n, D, Pl, hcs, _, hl', hm, hmm, hx, hall⟩
  · obtain rfl : v = .slice none 0 0 := by simpa using hcs
    exact ⟨none, 0, [], rfl, fun h => absurd h (by simp), by simp, by simp, Nat.zero_le _, by simp, fun _ => ⟨rfl, rfl⟩⟩
  · obtain rfl : v = .slice (some a) len cap := by simpa using hcs
    subst hx
    simp only [if_true] at hmm
    subst hmm
    have each : ∀ i, i < len → ∃ q : Wr, W.cell? (a.add (i * 3)) = some (.string q.key) ∧ W.cell? (a.add (i * 3 + 1)) = some (.string q.shard) ∧ W.cell? (a.add (i * 3 + 2)) = some (.bool q.dead) ∧ q.key.size ≤ reachBytes ∧ q.shard.size ≤ reachBytes := by
      intro i hi
      obtain ⟨cs', h1, h2⟩ := hall i (by omega)
      rw [ce] at h1
      obtain ⟨_, hlen, hcell⟩ := World.cells?_some h1
      have hwi : ∀ k ∈ (D i).weights Try.prog e, k ≤ reachBytes := fun k hk => hwt k (by
        simp only [DataW.weights, ht, List.mem_cons, List.mem_append]
        refine .inr (.inl ?_)
        have : ∀ (ds : List (DataW H)), D i ∈ ds → k ∈ DataW.weightsAll Try.prog e ds := by
          intro ds
          induction ds with
          | nil => intro h; simp at h
          | cons x r ih =>
            intro h
            show k ∈ x.weights Try.prog e ++ DataW.weightsAll Try.prog e r
            rw [List.mem_append]
            rcases List.mem_cons.1 h with rfl | h
            · exact .inl hk
            · exact .inr (ih h)
        exact this _ (List.mem_map.2 ⟨i, List.mem_range.2 hi, rfl⟩))
      obtain ⟨xs, k, _, hxy, _, hxl, hff⟩ := DataW.trod_struct he h2
      obtain ⟨o0, c0⟩ := hone_of hone 0 f0 rfl
      obtain ⟨o1, c1⟩ := hone_of hone 1 f1 rfl
      obtain ⟨o2, c2⟩ := hone_of hone 2 f2 rfl
      match xs, hxl, cs', hlen with
      | [y0, y1, y2], _, [v0, v1, v2], _ =>
        have g0 := hff 0 f0 rfl
        have g1 := hff 1 f1 rfl
        have g2 := hff 2 f2 rfl
        simp [o0, o1, o2, c0, c1, c2] at g0 g1 g2
        simp only [Prod.mk.injEq] at hxy
        rw [hxy.1] at hwi
        obtain ⟨k0, rfl, s0⟩ := field_text t0 g0 (agg_weights (i := 0) he rfl rfl hwi)
        obtain ⟨k1, rfl, s1⟩ := field_text t1 g1 (agg_weights (i := 1) he rfl rfl hwi)
        obtain ⟨k2, rfl⟩ := field_bool t2 g2
        have e0 := hcell 0 (by omega)
        have e1 := hcell 1 (by omega)
        have e2 := hcell 2 (by omega)
        rw [add_add] at e0 e1 e2
        exact ⟨⟨k0, k1, k2⟩, by simpa using e0, by simpa using e1, by simpa using e2, s0, s1⟩
    obtain ⟨q, hq⟩ := choose_lt each
    have hL : ((List.range len).map q).length = len := by simp
    have hat : ∀ i (h : i < ((List.range len).map q).length), ((List.range len).map q)[i] = q i := fun i h => by simp
    have hs := hwt ((((List.range len).map D).length + ((List.range (m - len)).map fun j => D (len + j)).length) * Try.prog.bytesOf e) (by simp [DataW.weights, ht])
    refine ⟨some a, m, (List.range len).map q, by rw [hL], fun hpos => ⟨a, rfl, ?_, fun i hi => ?_⟩, ?_, by rw [hL]; exact hl', hm, fun x hx => ?_, fun h => by cases h⟩
    · obtain ⟨b, off, spot⟩ := a
      rw [hL] at hpos
      exact hl (.cell b off) (List.mem_append_left _ (MemPlace.mem_row.2 ⟨0, by rw [ce]; omega, by simp⟩))
    · rw [hat i hi]
      have := hq i (by rw [hL] at hi; exact hi)
      exact ⟨this.1, this.2.1, this.2.2.1⟩
    · rw [hL]
      refine Nat.le_trans (Nat.mul_le_mul ?_ hb40) hs
      rw [List.length_map, List.length_range]
      omega
    · obtain ⟨i, hi, rfl⟩ := List.mem_map.1 hx
      exact (hq i (List.mem_range.1 hi)).2.2.2

/-- .. and forty bytes for each of its writes -/
def LetArg2 (w : World) (v : Value) (l : Let) : Prop :=
  ∃ (A B : Option Addr) (c d : Nat), v = letV l A B c d ∧ StrsAt w A l.keys ∧ WrsAt w B l.ws ∧ LetRange l c d ∧ (A = none → l.keys = [] ∧ c = 0) ∧ (B = none → l.ws = [] ∧ d = 0) ∧ l.ws.length * 40 ≤ reachBytes

set_option maxRecDepth 20000 in
theorem open_letter2 {base : Nat} {v : Value} {d : DataW H} {p : List MemPlace} {ts : List TypeId} {ds : List (DataW H)} {j : Nat}
    (hsz : (DataW.weightsEach Try.prog ts ds).all (· ≤ reachBytes) = true) (hj : ts[j]? = some 135) (hd : ds[j]? = some d)
    (hv : Value.okWide Try.prog W .any base 135 v) (h : DataW.Trod enc Try.prog W 0 (fun _ => true) true 135 v d p) (hl : ∀ x ∈ p, x.block < W.heap.size) : ∃ l, LetArg2 W v l := by
  obtain ⟨cs, xs, n, rfl, hcl, rfl, rfl, hxl, hall⟩ := open_agg_any Try.underlying135 (by kernel_rfl) (by kernel_rfl) hv h
  have hw := arg_weights hsz hj hd
  match cs, hcl, xs, hxl with
  | [v0, v1, v2, v3, v4, v5, v6, v7, v8], _, [y0, y1, y2, y3, y4, y5, y6, y7, y8], _ =>
    obtain ⟨kind, rfl, r0⟩ := field_int Try.underlying3 (hall 0 _ _ _ rfl rfl rfl)
    obtain ⟨src, rfl, r1⟩ := field_int Try.underlying3 (hall 1 _ _ _ rfl rfl rfl)
    obtain ⟨dst, rfl, r2⟩ := field_int Try.underlying3 (hall 2 _ _ _ rfl rfl rfl)
    obtain ⟨txn, rfl, r3⟩ := field_int Try.underlying3 (hall 3 _ _ _ rfl rfl rfl)
    obtain ⟨ts', rfl, r4⟩ := field_int Try.underlying3 (hall 4 _ _ _ rfl rfl rfl)
    obtain ⟨code, rfl, r5⟩ := field_int Try.underlying3 (hall 5 _ _ _ rfl rfl rfl)
    obtain ⟨text, rfl, r6⟩ := field_text Try.underlying9 (hall 6 _ _ _ rfl rfl rfl) (agg_weights (i := 6) Try.underlying135 rfl rfl hw)
    obtain ⟨A, c, K, rfl, a1, a2, a3, a4, a5, a6⟩ := field_texts Try.underlying29 Try.underlying9 (by kernel_rfl) (by kernel_rfl) (hall 7 _ _ _ rfl rfl rfl) (agg_weights (i := 7) Try.underlying135 rfl rfl hw) (fun x hx => hl x (List.mem_flatMap.2 ⟨y7, by simp, hx⟩))
    obtain ⟨B, d, L, rfl, b1, b2, b3, b4, b5, b6⟩ := field_writes40 Try.underlying30 Try.underlying36 (by kernel_rfl) (by kernel_rfl) Try.underlying9 Try.underlying9 Try.underlying4 (of_decide_eq_true (by kernel_rfl)) (hall 8 _ _ _ rfl rfl rfl) (agg_weights (i := 8) Try.underlying135 rfl rfl hw) (fun x hx => hl x (List.mem_flatMap.2 ⟨y8, by simp, hx⟩))
    exact ⟨⟨kind, src, dst, txn, ts', code, text, K, L⟩, A, B, c, d, rfl, a1, b1, ⟨⟨r0, r1, r2, r3, r4, r5, r6, a2, Nat.le_trans (Nat.mul_le_mul_left _ (by omega)) b2, a5, b5⟩, a3, b3, a4, b4⟩, a6, b6, b2⟩

end

end Lt
end Go.Proofs.Ytiobhbagjokpcaa

/- What the document's own Check of letters answers; contract; no condition but the range. -/
namespace Go.Proofs.Ytiobhbagjokpcaa
namespace Lt
open Go.RowKit Bk

attribute [local go_sem ↓] Go.wp_at_zero Go.wp_at_succ
attribute [local go_sem] floatUpon pick

/-- what a walk over a letter keeps: its lists, its cells, what was there -/
structure LtEnv (w W : World) (g : Nat) (A B : Option Addr) (c d : Nat) (l : Let) : Prop where
  ks : StrsAt W A l.keys
  ws : WrsAt W B l.ws
  cel : Cel W g 135 [.int .i64 l.kind, .int .i64 l.src, .int .i64 l.dst, .int .i64 l.txn, .int .i64 l.ts, .int .i64 l.code, .string l.text, .slice A l.keys.length c, .slice B l.ws.length d]
  bel : Below w.heap.size w W

theorem LtEnv.step {w W W' : World} {g : Nat} {A B : Option Addr} {c d : Nat} {l : Let} (h : LtEnv w W g A B c d l) (hb : Below W.heap.size W W') : LtEnv w W' g A B c d l :=
  ⟨h.ks.below hb, h.ws.below hb, h.cel.below hb, h.bel.trans (hb.mono h.bel.size)⟩

theorem LtEnv.start {w : World} {A B : Option Addr} {c d : Nat} {l : Let} (ha : StrsAt w A l.keys) (hb : WrsAt w B l.ws) :
    LtEnv w (w.alloc (.cells #[.int .i64 l.kind, .int .i64 l.src, .int .i64 l.dst, .int .i64 l.txn, .int .i64 l.ts, .int .i64 l.code, .string l.text, .slice A l.keys.length c, .slice B l.ws.length d] 135)) w.heap.size A B c d l :=
  ⟨ha.alloc _, hb.alloc _, (blk1 w _).2, (Below.refl _ w).alloc (Nat.le_refl _) _⟩

open Classical in
/-- what Check answers -/
noncomputable def ckN (l : Let) : Nat := if LetOk l then 0 else 70

theorem ckN_ok {l : Let} (h : headOk l) (h2 : kindOk l) : ckN l = 0 := by unfold ckN; rw [if_pos ⟨h, h2⟩]
theorem ckN_bad {l : Let} (h : ¬ kindOk l) : ckN l = 70 := by unfold ckN; rw [if_neg (fun hh => h hh.2)]
theorem ckN_head {l : Let} (h : ¬ headOk l) : ckN l = 70 := by unfold ckN; rw [if_neg (fun hh => h hh.1)]
theorem ckN_zero {l : Let} : ckN l = 0 ↔ LetOk l := by
  unfold ckN
  split
  · next h => exact ⟨fun _ => h, fun _ => rfl⟩
  · next h => exact ⟨fun e => by omega, fun hh => absurd hh h⟩
theorem ckN_cases (l : Let) : ckN l = 0 ∨ ckN l = 70 := by unfold ckN; split <;> simp

def OneOk (l : Let) : Prop := l.keys.length = 1 ∧ (∀ k ∈ l.keys, keyOk k) ∧ l.ws = []
def BareOk (l : Let) : Prop := l.keys = [] ∧ l.ws = [] ∧ l.text = ⟨#[]⟩

theorem kind_1 {l : Let} (h : l.kind = 1) : kindOk l ↔ OneOk l ∧ l.text = ⟨#[]⟩ ∧ l.code = 0 := by
  constructor
  · rintro (h2 | h2 | h2 | h2 | h2 | h2)
    · exact h2.2
    all_goals omega
  · intro h2; exact .inl ⟨h, h2⟩
theorem kind_2 {l : Let} (h : l.kind = 2) : kindOk l ↔ OneOk l ∧ l.text.size ≤ 2052 ∧ (l.text = ⟨#[]⟩ ∨ l.code = 1) := by
  constructor
  · rintro (h2 | h2 | h2 | h2 | h2 | h2)
    · omega
    · exact h2.2
    all_goals omega
  · intro h2; exact .inr (.inl ⟨h, h2⟩)
theorem kind_3 {l : Let} (h : l.kind = 3) : kindOk l ↔ l.keys.length ≤ 16 ∧ Rises l.keys ∧ WritesOk l.ws ∧ l.text = ⟨#[]⟩ ∧ l.code = 0 := by
  constructor
  · rintro (h2 | h2 | h2 | h2 | h2 | h2)
    · omega
    · omega
    · exact h2.2
    all_goals omega
  · intro h2; exact .inr (.inr (.inl ⟨h, h2⟩))
theorem kind_4 {l : Let} (h : l.kind = 4) : kindOk l ↔ BareOk l ∧ l.code ≤ 1 := by
  constructor
  · rintro (h2 | h2 | h2 | h2 | h2 | h2)
    · omega
    · omega
    · omega
    · exact h2.2
    all_goals omega
  · intro h2; exact .inr (.inr (.inr (.inl ⟨h, h2⟩)))
theorem kind_5 {l : Let} (h : l.kind = 5 ∨ l.kind = 6 ∨ l.kind = 7) : kindOk l ↔ BareOk l ∧ l.code = 0 := by
  constructor
  · rintro (h2 | h2 | h2 | h2 | h2 | h2)
    · omega
    · omega
    · omega
    · omega
    · exact h2.2
    · omega
  · intro h2; exact .inr (.inr (.inr (.inr (.inl ⟨h, h2⟩))))
theorem kind_8 {l : Let} (h : l.kind = 8) : kindOk l ↔ BareOk l ∧ l.code ≤ 2 := by
  constructor
  · rintro (h2 | h2 | h2 | h2 | h2 | h2)
    · omega
    · omega
    · omega
    · omega
    · omega
    · exact h2.2
  · intro h2; exact .inr (.inr (.inr (.inr (.inr ⟨h, h2⟩))))
theorem kind_no {l : Let} (h : l.kind < 1 ∨ 8 < l.kind) : ¬ kindOk l := by
  rintro (h2 | h2 | h2 | h2 | h2 | h2) <;> omega

theorem empty_list {s : ByteArray} (h : s ≠ ⟨#[]⟩) : ¬ s.toList = [] := fun e => h (by
  rw [ByteArray.toList_eq] at e
  obtain ⟨a⟩ := s
  congr 1
  exact Array.toList_inj.1 e)

theorem list_one {l : List ByteArray} (h : l.length = 1) : ∃ k, l = [k] := by
  match l, h with
  | [k], _ => exact ⟨k, rfl⟩


end Lt
end Go.Proofs.Ytiobhbagjokpcaa

/- What the document's own numbers of packs are; contracts; no condition but the range. -/
namespace Go.Proofs.Ytiobhbagjokpcaa
namespace Pk
open Go.RowKit Bk

attribute [local go_sem ↓] Go.wp_at_zero Go.wp_at_succ
attribute [local go_sem] floatUpon pick

theorem byteCells_snoc (O : List UInt8) (x : Nat) (h : x < 256) : Lib.byteCells O ++ [.int .u8 (x : Int)] = Lib.byteCells (O ++ [UInt8.ofNat x]) := by
  unfold Lib.byteCells
  rw [List.map_append, List.map_cons, UInt8.toNat_ofNat_of_lt' (by show x < 256; exact h)]; rfl

theorem u8_wrap {x : Int} (h0 : 0 ≤ x) (h1 : x < 256) : IntKind.u8.wrap x = x := by
  simp only [IntKind.wrap, IntKind.bits, IntKind.signed]; simp; omega

/-- what Number answers -/
def numV (z : Int) : Value := if numOk z then .tuple #[.string ⟨(signed z).toArray⟩, .int .i64 0] else .tuple #[.string ⟨#[]⟩, .int .i64 1]

end Pk
end Go.Proofs.Ytiobhbagjokpcaa

/- What the document's own Check of packs answers; contract; no condition but the range. -/
namespace Go.Proofs.Ytiobhbagjokpcaa
namespace Pk
open Go.RowKit Bk

attribute [local go_sem ↓] Go.wp_at_zero Go.wp_at_succ
attribute [local go_sem] floatUpon pick

/-- the value of a pack -/
def packV (A B : Option Addr) (c d : Nat) (ns : List Int) (ts : List ByteArray) : Value := .agg #[.slice A ns.length c, .slice B ts.length d]

/-- .. that holds these -/
def Holds (w : World) (v : Value) (ns : List Int) (ts : List ByteArray) : Prop :=
  ∃ (A B : Option Addr) (c d : Nat), v = packV A B c d ns ts ∧ IntsAt w A ns ∧ StrsAt w B ts

theorem Holds.below {w w' : World} {v : Value} {ns : List Int} {ts : List ByteArray} (h : Holds w v ns ts) (hb : Below w.heap.size w w') : Holds w' v ns ts := by
  obtain ⟨A, B, c, d, h1, h2, h3⟩ := h
  exact ⟨A, B, c, d, h1, h2.below hb, h3.below hb⟩

theorem ckE_long {ns : List Int} {ts : List ByteArray} (h : 1024 < ns.length ∨ 1024 < ts.length) : ckE ns ts = 2 := by unfold ckE; rw [if_pos h]

theorem ckE_num {ns : List Int} {ts : List ByteArray} (h : ¬ (1024 < ns.length ∨ 1024 < ts.length)) {z : Int} (hz : z ∈ ns) (hn : ¬ numOk z) : ckE ns ts = 1 := by
  unfold ckE
  rw [if_neg h, if_pos (fun hh => hn (hh z hz))]

theorem ckE_text {ns : List Int} {ts : List ByteArray} (h : ¬ (1024 < ns.length ∨ 1024 < ts.length)) (h2 : ∀ n ∈ ns, numOk n) {t : ByteArray} (ht : t ∈ ts) (hn : 4096 < t.size) : ckE ns ts = 2 := by
  unfold ckE
  rw [if_neg h, if_neg (fun hh => hh h2), if_pos (fun hh => by have := hh t ht; omega)]

theorem ckE_ok {ns : List Int} {ts : List ByteArray} (h : ¬ (1024 < ns.length ∨ 1024 < ts.length)) (h2 : ∀ n ∈ ns, numOk n) (h3 : ∀ t ∈ ts, t.size ≤ 4096) : ckE ns ts = 0 := ckE_zero.2 ⟨by omega, by omega, h2, h3⟩

theorem mem_take_succ {α : Type} {l : List α} {j : Nat} (h : j < l.length) {p : α → Prop} (h1 : ∀ x ∈ l.take j, p x) (h2 : p l[j]) : ∀ x ∈ l.take (j + 1), p x := by
  intro x hx
  rw [List.take_add_one, List.getElem?_eq_getElem h] at hx
  rcases List.mem_append.1 hx with hx | hx
  · exact h1 x hx
  · rw [Option.toList_some, List.mem_singleton] at hx
    rw [hx]; exact h2

end Pk
end Go.Proofs.Ytiobhbagjokpcaa

/- What the document's own Bytes and Encode of packs answer; contracts; no condition but the range. -/
namespace Go.Proofs.Ytiobhbagjokpcaa
namespace Pk
open Go.RowKit Bk

attribute [local go_sem ↓] Go.wp_at_zero Go.wp_at_succ
attribute [local go_sem] floatUpon pick

theorem cat_size (L : List UInt8) : (⟨L.toArray⟩ : ByteArray).size = L.length := by
  show L.toArray.size = _
  simp

theorem text_cat (L M : List UInt8) : (⟨L.toArray⟩ : ByteArray) ++ ⟨M.toArray⟩ = ⟨(L ++ M).toArray⟩ := by rw [← ByteArray.mk_append_mk]

theorem numsL_succ {ns : List Int} {j : Nat} (h : j < ns.length) : numsL (ns.take (j + 1)) = numsL (ns.take j) ++ signed ns[j] := by
  unfold numsL
  rw [List.take_add_one, List.getElem?_eq_getElem h, List.flatMap_append]
  simp

theorem textsL_succ {ts : List ByteArray} {j : Nat} (h : j < ts.length) : textsL (ts.take (j + 1)) = textsL (ts.take j) ++ textL ts[j] := by
  unfold textsL
  rw [List.take_add_one, List.getElem?_eq_getElem h, List.flatMap_append]
  simp

theorem bytesL_at {ns : List Int} {ts : List ByteArray} (h : MayBe ns ts) (j k : Nat) : (plain ns.length ++ numsL (ns.take j)).length ≤ 5000000 ∧ (plain ns.length ++ (numsL ns ++ (plain ts.length ++ textsL (ts.take k)))).length ≤ 5000000 := by
  obtain ⟨h1, h2, h3, h4⟩ := h
  have b1 : MayBe (ns.take j) [] := ⟨by rw [List.length_take]; omega, by simp, fun n hn => h3 n (List.mem_of_mem_take hn), by simp⟩
  have a1 := plain_len 9 ns.length (by show _ < 9223372036854775808; omega) (by omega)
  have a2 := plain_len 9 ts.length (by show _ < 9223372036854775808; omega) (by omega)
  have a3 := numsL_le ns h3
  have a4 := numsL_le (ns.take j) (fun n hn => h3 n (List.mem_of_mem_take hn))
  have a5 := textsL_le (ts.take k) (fun n hn => h4 n (List.mem_of_mem_take hn))
  rw [List.length_take] at a4 a5
  simp only [List.length_append]
  omega

/-- what Encode answers -/
def encV (ns : List Int) (ts : List ByteArray) : Value := if ckE ns ts = 0 then .tuple #[.string ⟨(bytesL ns ts).toArray⟩, .int .i64 0] else .tuple #[.string ⟨#[]⟩, .int .i64 (ckE ns ts : Int)]

theorem encV_ok {ns : List Int} {ts : List ByteArray} (h : MayBe ns ts) : encV ns ts = .tuple #[.string ⟨(bytesL ns ts).toArray⟩, .int .i64 0] := by unfold encV; rw [if_pos (ckE_zero.2 h)]
theorem encV_bad {ns : List Int} {ts : List ByteArray} (h : ckE ns ts ≠ 0) : encV ns ts = .tuple #[.string ⟨#[]⟩, .int .i64 (ckE ns ts : Int)] := by unfold encV; rw [if_neg h]

theorem ckE_le (ns : List Int) (ts : List ByteArray) : ckE ns ts ≤ 2 := by
  unfold ckE
  split
  · omega
  · split
    · omega
    · split <;> omega

/-- the range of what a pack as an argument holds -/
def InRange (ns : List Int) (ts : List ByteArray) : Prop :=
  ns.length ≤ 9223372036854775807 ∧ ts.length ≤ 9223372036854775807 ∧ (∀ n ∈ ns, -9223372036854775808 ≤ n ∧ n ≤ 9223372036854775807) ∧ ∀ t ∈ ts, t.size ≤ 9223372036854775807

end Pk
end Go.Proofs.Ytiobhbagjokpcaa

/- What the document's own reading of numbers answers; contracts; no condition but the range. -/
namespace Go.Proofs.Ytiobhbagjokpcaa
namespace Pk
open Go.RowKit Bk

attribute [local go_sem ↓] Go.wp_at_zero Go.wp_at_succ
attribute [local go_sem] floatUpon pick

/-- i bytes are read, they say x -/
def liftR (i x : Nat) : Rd → Rd
  | .ok n u => .ok (x + 128 ^ i * n) (i + u)
  | .fin => .fin
  | .form => .form

theorem liftR_push (i x y : Nat) (r : Rd) : liftR i x (r.push y) = liftR (i + 1) (x + 128 ^ i * y) r := by
  cases r with
  | ok n u =>
    simp only [Rd.push, liftR, Rd.ok.injEq]
    refine ⟨?_, by omega⟩
    rw [Nat.mul_add, Nat.pow_succ, Nat.add_assoc, Nat.mul_assoc]
  | fin => rfl
  | form => rfl

theorem readK_hi {k i : Nat} {b : UInt8} {r : List UInt8} (h : 128 ≤ b.toNat) : readK (k + 1) i (b :: r) = (readK k (i + 1) r).push (b.toNat % 128) := by
  rw [readK, if_neg (by omega)]

theorem readK_zero {k i : Nat} {b : UInt8} {r : List UInt8} (h : b.toNat = 0) (hi : 0 < i) : readK (k + 1) i (b :: r) = .form := by
  rw [readK, if_pos (by omega), if_pos ⟨h, hi⟩]

theorem readK_last {k i : Nat} {b : UInt8} {r : List UInt8} (h : b.toNat < 128) (hi : ¬ (b.toNat = 0 ∧ 0 < i)) : readK (k + 1) i (b :: r) = .ok b.toNat 1 := by
  rw [readK, if_pos h, if_neg hi]

/-- what read answers -/
def readV (s : ByteArray) (a : Nat) : Value :=
  match readR (s.data.toList.drop a) with
  | .ok n u => .tuple #[.int .i64 (n : Int), .int .i64 ((a + u : Nat) : Int), .int .i64 0]
  | .fin => .tuple #[.int .i64 0, .int .i64 (s.size : Int), .int .i64 50]
  | .form => .tuple #[.int .i64 0, .int .i64 (a : Int), .int .i64 3]

theorem list_size (s : ByteArray) : s.data.toList.length = s.size := Array.length_toList

theorem drop_at (s : ByteArray) (p : Nat) (h : p < s.size) : s.data.toList.drop p = s[p] :: s.data.toList.drop (p + 1) := by
  have h' : p < s.data.toList.length := by rw [list_size]; exact h
  rw [List.drop_eq_getElem_cons h', Array.getElem_toList]; rfl

theorem pow128 (n : Nat) : 128 ^ n = 2 ^ (7 * n) := by rw [Nat.pow_mul]

/-- what count answers -/
def cntV (s : ByteArray) (a most : Nat) : Value :=
  match readR (s.data.toList.drop a) with
  | .ok n u => if most < n then .tuple #[.int .i64 0, .int .i64 (a : Int), .int .i64 2] else .tuple #[.int .i64 (n : Int), .int .i64 ((a + u : Nat) : Int), .int .i64 0]
  | .fin => .tuple #[.int .i64 0, .int .i64 (s.size : Int), .int .i64 50]
  | .form => .tuple #[.int .i64 0, .int .i64 (a : Int), .int .i64 3]

end Pk
end Go.Proofs.Ytiobhbagjokpcaa

/- What a walk over Decode of packs keeps; the decoding, carried on; no condition. -/
namespace Go.Proofs.Ytiobhbagjokpcaa
namespace Pk
open Go.RowKit Bk

theorem Try.infoInt : (Try.prog.info? 3).map (fun i => (i.zero, i.size, i.bytes)) = some (some (.int .i64 0), 1, 8) := by kernel_rfl

/-! ### the decoding, carried on -/

def goN (O : List Int) (k : Nat) (L : List UInt8) : Except Er (List Int × List UInt8) :=
  match numsF k L with
  | .error e => .error e
  | .ok (ns, r) => .ok (O ++ ns, r)

theorem goN_start (k : Nat) (L : List UInt8) : goN [] k L = numsF k L := by
  unfold goN
  cases numsF k L with
  | error e => rfl
  | ok x => rfl

theorem goN_done (O : List Int) (L : List UInt8) : goN O 0 L = .ok (O, L) := by simp [goN, numsF]

theorem goN_more {O : List Int} {k n : Nat} {L r : List UInt8} (h : numF L = .ok (n, r)) : goN O (k + 1) L = goN (O ++ [unzig n]) k r := by
  unfold goN
  rw [numsF, h]
  simp only
  cases numsF k r with
  | error e => rfl
  | ok x => obtain ⟨ns, r2⟩ := x; simp

theorem goN_err {O : List Int} {k : Nat} {L : List UInt8} {e : Er} (h : numF L = .error e) : goN O (k + 1) L = .error e := by
  unfold goN
  rw [numsF, h]

def goT (O : List ByteArray) (k : Nat) (L : List UInt8) : Except Er (List ByteArray × List UInt8) :=
  match textsF k L with
  | .error e => .error e
  | .ok (ts, r) => .ok (O ++ ts, r)

theorem goT_start (k : Nat) (L : List UInt8) : goT [] k L = textsF k L := by
  unfold goT
  cases textsF k L with
  | error e => rfl
  | ok x => rfl

theorem goT_done (O : List ByteArray) (L : List UInt8) : goT O 0 L = .ok (O, L) := by simp [goT, textsF]

theorem goT_more {O : List ByteArray} {k : Nat} {t : ByteArray} {L r : List UInt8} (h : textF L = .ok (t, r)) : goT O (k + 1) L = goT (O ++ [t]) k r := by
  unfold goT
  rw [textsF, h]
  simp only
  cases textsF k r with
  | error e => rfl
  | ok x => obtain ⟨ns, r2⟩ := x; simp

theorem goT_err {O : List ByteArray} {k : Nat} {L : List UInt8} {e : Er} (h : textF L = .error e) : goT O (k + 1) L = .error e := by
  unfold goT
  rw [textsF, h]

/-- what a reading says of the decoding: it goes on at a with n, or it stops with the error at a -/
def Said (s : ByteArray) (r : Except Er (Nat × List UInt8)) (n a c : Nat) : Prop :=
  (c = 0 ∧ a ≤ s.size ∧ n < 9223372036854775808 ∧ r = .ok (n, s.data.toList.drop a)) ∨ (c ≠ 0 ∧ c ≤ 50 ∧ a ≤ s.size ∧ n = 0 ∧ ∃ e : Er, r = .error e ∧ a = e.place s.size ∧ c = e.code)

theorem readR_in {s : ByteArray} {a n u : Nat} (ha : a ≤ s.size) (h : readR (s.data.toList.drop a) = .ok n u) : a + u ≤ s.size := by
  obtain ⟨h1, h2, _⟩ := readR_ok h
  have h3 := congrArg List.length h1
  rw [List.length_append, List.length_drop, List.length_drop, List.length_drop, list_size, ← h2] at h3
  omega

theorem read_said (s : ByteArray) (a : Nat) (ha : a ≤ s.size) : ∃ n p c : Nat, readV s a = .tuple #[.int .i64 (n : Int), .int .i64 (p : Int), .int .i64 (c : Int)] ∧ Said s (numF (s.data.toList.drop a)) n p c := by
  cases hr : readR (s.data.toList.drop a) with
  | ok n u =>
    have h9 : n < 9223372036854775808 := (readR_ok hr).2.2
    refine ⟨n, a + u, 0, by unfold readV; rw [hr]; rfl, .inl ⟨rfl, readR_in ha hr, h9, ?_⟩⟩
    unfold numF; rw [hr]; simp only [List.drop_drop]
  | fin => exact ⟨0, s.size, 50, by unfold readV; rw [hr]; rfl, .inr ⟨by omega, by omega, by omega, rfl, .fin, by unfold numF; rw [hr], rfl, rfl⟩⟩
  | form => exact ⟨0, a, 3, by unfold readV; rw [hr]; rfl, .inr ⟨by omega, by omega, by omega, rfl, .bad (s.data.toList.drop a).length 3, by unfold numF; rw [hr], by simp only [Er.place, List.length_drop, list_size]; omega, rfl⟩⟩

theorem cnt_said (s : ByteArray) (a most : Nat) (ha : a ≤ s.size) : ∃ n p c : Nat, cntV s a most = .tuple #[.int .i64 (n : Int), .int .i64 (p : Int), .int .i64 (c : Int)] ∧ Said s (cnt most (s.data.toList.drop a)) n p c ∧ n ≤ most := by
  cases hr : readR (s.data.toList.drop a) with
  | ok n u =>
    have h9 : n < 9223372036854775808 := (readR_ok hr).2.2
    by_cases hm : most < n
    · refine ⟨0, a, 2, by unfold cntV; rw [hr]; simp only; rw [if_pos hm]; rfl, .inr ⟨by omega, by omega, by omega, rfl, .bad (s.data.toList.drop a).length 2, ?_, by simp only [Er.place, List.length_drop, list_size]; omega, rfl⟩, by omega⟩
      unfold cnt; rw [hr]; simp only; rw [if_pos hm]
    · refine ⟨n, a + u, 0, by unfold cntV; rw [hr]; simp only; rw [if_neg hm]; rfl, .inl ⟨rfl, readR_in ha hr, h9, ?_⟩, by omega⟩
      unfold cnt; rw [hr]; simp only; rw [if_neg hm, List.drop_drop]
  | fin => exact ⟨0, s.size, 50, by unfold cntV; rw [hr]; rfl, .inr ⟨by omega, by omega, by omega, rfl, .fin, by unfold cnt; rw [hr], rfl, rfl⟩, by omega⟩
  | form => exact ⟨0, a, 3, by unfold cntV; rw [hr]; rfl, .inr ⟨by omega, by omega, by omega, rfl, .bad (s.data.toList.drop a).length 3, by unfold cnt; rw [hr], by simp only [Er.place, List.length_drop, list_size]; omega, rfl⟩, by omega⟩

end Pk
end Go.Proofs.Ytiobhbagjokpcaa

/- Pieces of a text as steps of a walk; one new cell; no condition but the range. -/
namespace Go.Proofs.Ytiobhbagjokpcaa
namespace Bk
open Go.RowKit

theorem text_size (L : List UInt8) : (⟨L.toArray⟩ : ByteArray).size = L.length := by
  show L.toArray.size = _
  simp

theorem textL_size (s : ByteArray) : s.data.toList.length = s.size := Array.length_toList

theorem extract_list (s : ByteArray) (a b : Nat) : s.extract a b = ⟨((s.data.toList.drop a).take (b - a)).toArray⟩ := by
  apply ByteArray.ext
  apply Array.toList_inj.1
  simp [ByteArray.data_extract, Array.toList_extract, List.extract_eq_take_drop]

theorem str_from (s : ByteArray) (a : Nat) (h : a ≤ s.size) (i : Int) (hi : i = (a : Int)) (W : World) :
    (Instr.slice 9 (.string s) (some (.int .i64 i)) none none).run Try.prog W = .ok (.string ⟨(s.data.toList.drop a).toArray⟩) W := by
  subst hi
  rw [run_slice_string_l W 9 s Try.underlying9 .i64 _ (by omega) (by omega), extract_list, Int.toNat_natCast, List.take_of_length_le (by rw [List.length_drop, Array.length_toList]; exact Nat.le_refl _)]

theorem str_to (s : ByteArray) (b : Nat) (h : b ≤ s.size) (j : Int) (hj : j = (b : Int)) (W : World) :
    (Instr.slice 9 (.string s) none (some (.int .i64 j)) none).run Try.prog W = .ok (.string ⟨(s.data.toList.take b).toArray⟩) W := by
  subst hj
  rw [run_slice_string_h W 9 s Try.underlying9 .i64 _ (by omega) (by omega), extract_list, Int.toNat_natCast, List.drop_zero, Nat.sub_zero]

theorem str_mid (s : ByteArray) (a b : Nat) (h1 : a ≤ b) (h : b ≤ s.size) (i j : Int) (hi : i = (a : Int)) (hj : j = (b : Int)) (W : World) :
    (Instr.slice 9 (.string s) (some (.int .i64 i)) (some (.int .i64 j)) none).run Try.prog W = .ok (.string ⟨((s.data.toList.drop a).take (b - a)).toArray⟩) W := by
  subst hi hj
  rw [run_slice_string W 9 s .i64 .i64 _ _ Try.underlying9 (by omega) (by omega) (by omega), extract_list, Int.toNat_natCast, Int.toNat_natCast]

theorem str_at (s : ByteArray) (a : Nat) (b : UInt8) (h : s.data.toList[a]? = some b) (i : Int) (hi : i = (a : Int)) (W : World) :
    (Instr.index 9 (.string s) (.int .i64 i)).run Try.prog W = .ok (.int .u8 (b.toNat : Int)) W := by
  subst hi
  have hl : a < s.data.toList.length := (List.getElem?_eq_some_iff.1 h).1
  have hl2 : a < s.size := by rw [Array.length_toList] at hl; exact hl
  rw [run_index_string W 9 s .i64 _ Try.underlying9, dif_pos (by omega)]
  congr 3
  rw [List.getElem?_eq_getElem hl] at h
  rw [← Option.some.inj h]
  simp only [Int.toNat_natCast]
  rfl

theorem str_one {w : World} {g : Nat} {t : TypeId} {u : Value} (h : w.heap[g]? = some (.cells #[u] t (0, 0))) : ∀ j v, [u][j]? = some v → w.cell? ((⟨g, 0, none⟩ : Addr).add j) = some v := fun j v hv => by
  match j with
  | 0 => simp at hv; subst hv; rw [addr_head]; exact blk_cell h rfl
  | j + 1 => simp at hv

end Bk
end Go.Proofs.Ytiobhbagjokpcaa
