/- What the walks of layers from the fifth on use, of texts, rows and numbers, and contracts of the functions that all layers' laws use; no condition but the range. -/
import Derived.Test.YtlhcaankfhdakaaRows
import Derived.WalkKit
import Derived.WalkSpells
import Derived.WalkLawsBesides
import Derived.Lib.Hide
import Derived.Deep.QuietTactic
import Derived.BigQuiet
import Derived.Deep.RegionWith
import Derived.Laws.CopyOwn
import Derived.Deep.RegionHeld3
import Derived.Deep.DeepCutAuto
import Derived.Deep.DrawnRows
import Derived.Deep.RegionHeldLaw
import Derived.Lib.AppendStr
import Derived.SliceStrings
import Derived.ProofKit
import Derived.SizedLaws
import Derived.ChangeSlices
import Derived.Carry
import Derived.Below
import Derived.Maps.AppendAt
import Derived.IntWalk
import Derived.Deep.AppendLies
import Derived.Laws.OwnMore
import Derived.Laws.BitsAllLaws
import Derived.Deep.Draws
import Derived.Lib.SmallJoins
import Derived.Lib.BufferWrite
import Derived.StillTail
namespace Go.Proofs.Ytlhcaankfhdakaa
namespace Bk
open Go.ChangeShapes Go.WideShapes Go.ChangeAt Go.RowKit

theorem i64_wrap {x : Int} (h0 : 0 ≤ x) (h1 : x < 9223372036854775808) : IntKind.i64.wrap x = x := by
  simp only [IntKind.wrap, IntKind.bits, IntKind.signed]; simp; omega

theorem ofInt_i64 (a : Nat) (ha : a < 9223372036854775808) : (BitVec.ofInt 64 (a : Int)).toNat = a := by
  rw [BitVec.ofInt_natCast, BitVec.toNat_ofNat]; exact Nat.mod_eq_of_lt (by omega)

theorem i64_xor_nat (a b : Nat) (ha : a < 9223372036854775808) (hb : b < 9223372036854775808) : bits .xor .i64 (a : Int) (b : Int) = ((a ^^^ b : Nat) : Int) := by
  have hx : a ^^^ b < 2 ^ 63 := Nat.xor_lt_two_pow (by omega) (by omega)
  show IntKind.i64.wrap ((BitVec.ofInt 64 (a : Int) ^^^ BitVec.ofInt 64 (b : Int)).toNat : Int) = _
  rw [BitVec.toNat_xor, ofInt_i64 a ha, ofInt_i64 b hb, i64_wrap (by omega) (by omega)]

theorem ret_int {k : IntKind} {a b : Int} (h : a = b) : Ending.returned (.int k a) = .returned (.int k b) := by rw [h]

theorem addr_head (b j : Nat) : (⟨b, 0, none⟩ : Addr).add j = ⟨b, j, none⟩ := by unfold Addr.add; split <;> simp_all

theorem below_append {H : Nat} {w wr w1 : World} {v : Value} {o : Obj} {e : TypeId} {n : Nat} {xs : List Value} (hown : wr.ownsRow H e 1 v n xs) (hb : Below H w wr) (hH : H ≤ w.heap.size) (hg : (wr.alloc o).grownBy w1 v.ownBlock) : Below H w w1 :=
  (hb.alloc (Nat.le_trans hH hb.size) o).grown hg (by have := hb.size; simp; omega) (fun j hj => (hown.lt j hj).1)

theorem Try.infoU8 : (Try.prog.info? 5).map (fun i => (i.zero, i.size, i.bytes)) = some (some (.int .u8 0), 1, 1) := by kernel_rfl

theorem blk1 (w : World) (A : Obj) : (w.alloc A).heap.size = w.heap.size + 1 ∧ (w.alloc A).heap[w.heap.size]? = some A :=
  ⟨by simp, heap_alloc_new w A⟩

theorem blk2 (w : World) (A B : Obj) : ((w.alloc A).alloc B).heap.size = w.heap.size + 2 ∧ ((w.alloc A).alloc B).heap[w.heap.size]? = some A ∧ ((w.alloc A).alloc B).heap[w.heap.size + 1]? = some B := by
  obtain ⟨s1, b1⟩ := blk1 w A
  obtain ⟨s2, b2⟩ := blk1 (w.alloc A) B
  refine ⟨by omega, ?_, by rw [← s1]; exact b2⟩
  rw [heap_alloc_old _ _ (by omega)]; exact b1

theorem blk3 (w : World) (A B C : Obj) : (((w.alloc A).alloc B).alloc C).heap.size = w.heap.size + 3 ∧ (((w.alloc A).alloc B).alloc C).heap[w.heap.size]? = some A ∧
    (((w.alloc A).alloc B).alloc C).heap[w.heap.size + 1]? = some B ∧ (((w.alloc A).alloc B).alloc C).heap[w.heap.size + 2]? = some C := by
  obtain ⟨s1, b1, b2⟩ := blk2 w A B
  obtain ⟨s2, b3⟩ := blk1 ((w.alloc A).alloc B) C
  refine ⟨by omega, ?_, ?_, by rw [← s1]; exact b3⟩
  · rw [heap_alloc_old _ _ (by omega)]; exact b1
  · rw [heap_alloc_old _ _ (by omega)]; exact b2

theorem blk_cell {w : World} {g j : Nat} {cs : Array Value} {T : TypeId} {v : Value} (h : w.heap[g]? = some (.cells cs T (0, 0))) (hv : cs[j]? = some v) : w.cell? ⟨g, j, none⟩ = some v :=
  (cell_of_row w g j cs T (0, 0) h).trans hv

theorem blk_free {w : World} {g : Nat} {cs : Array Value} {T : TypeId} (h : w.heap[g]? = some (.cells cs T (0, 0))) : ∀ j, w.frozen? ⟨g, j, none⟩ = false := fun j => frozen_of_row w g j cs T h

theorem below_new {w w1 : World} {o : Obj} (h : Below (w.alloc o).heap.size (w.alloc o) w1) : Below w.heap.size w w1 :=
  ((Below.refl _ w).alloc (Nat.le_refl _) o).trans (h.mono (by simp))

/-- a cell of an old block, wherever it points -/
theorem cell_kept {B : Nat} {w w1 : World} (h : Below B w w1) (a : Addr) (ha : a.block < B) : w1.cell? a = w.cell? a := by
  unfold World.cell?
  rw [h.block a.block ha]

def strV (l : List ByteArray) : List Value := l.map Value.string

theorem strV_len (l : List ByteArray) : (strV l).length = l.length := by simp [strV]

theorem strV_at {l : List ByteArray} {i : Nat} (h : i < l.length) : (strV l)[i]? = some (.string l[i]) := by
  unfold strV
  rw [List.getElem?_map, List.getElem?_eq_getElem h]; rfl

theorem Try.infoStr : (Try.prog.info? 9).map (fun i => (i.zero, i.size, i.bytes)) = some (some (.string ⟨#[]⟩), 1, 16) := by kernel_rfl

theorem st_block (a : Addr) (n : Nat) : (a.add n).block = a.block := by unfold Addr.add; split <;> rfl

/-- the slice v holds the texts l -/
def StrsAt (w : World) (A : Option Addr) (l : List ByteArray) : Prop :=
  0 < l.length → ∃ ad, A = some ad ∧ ad.block < w.heap.size ∧ ∀ i (h : i < l.length), w.cell? (ad.add i) = some (.string l[i])

theorem StrsAt.below {w w' : World} {A : Option Addr} {l : List ByteArray} (h : StrsAt w A l) (hb : Below w.heap.size w w') : StrsAt w' A l := fun hp => by
  obtain ⟨ad, h1, h2, h3⟩ := h hp
  exact ⟨ad, h1, Nat.lt_of_lt_of_le h2 hb.size, fun i hi => (cell_kept hb _ (by rw [st_block]; exact h2)).trans (h3 i hi)⟩

theorem StrsAt.alloc {w : World} {A : Option Addr} {l : List ByteArray} (h : StrsAt w A l) (o : Obj) : StrsAt (w.alloc o) A l := h.below ((Below.refl _ w).alloc (Nat.le_refl _) o)

theorem StrsAt.drewN {w : World} {A : Option Addr} {l : List ByteArray} (h : StrsAt w A l) (n : Nat) : StrsAt (w.drewN n) A l := h

theorem StrsAt.blk {w : World} {g : Nat} {t : TypeId} {l : List ByteArray} (h : w.heap[g]? = some (.cells (strV l).toArray t (0, 0))) : StrsAt w (some ⟨g, 0, none⟩) l := fun _ =>
  ⟨_, rfl, (Array.getElem?_eq_some_iff.1 h).1, fun i hi => by rw [addr_head]; exact blk_cell h (by rw [List.getElem?_toArray]; exact strV_at hi)⟩

theorem StrsAt.own {w : World} {H g n cap : Nat} {e : TypeId} {l : List ByteArray} (h : w.ownsRow H e 1 (.slice (some ⟨g, 0, none⟩) n cap) n (strV l)) (hl : n = l.length) : StrsAt w (some ⟨g, 0, none⟩) l := fun hp => by
  have hf := World.ownsRow.cellAt h
  refine ⟨_, rfl, ?_, fun i hi => ?_⟩
  · obtain ⟨g', cap', hv, _, hlt⟩ := World.ownsRow.form h (by omega)
    simp only [Value.slice.injEq, Option.some.injEq, Addr.mk.injEq] at hv
    obtain ⟨⟨rfl, -⟩, -⟩ := hv
    exact hlt
  · rw [addr_head, hf i (by omega)]
    exact strV_at hi

theorem add_zero' (ad : Addr) : ad.add 0 = ad := by simp [Addr.add]

/-- what the call owns stays owned while no old block is written -/
theorem st_keep {H size n : Nat} {w W : World} {e : TypeId} {v : Value} {xs : List Value} (h : w.ownsRow H e size v n xs) (hb : Below w.heap.size w W) : W.ownsRow H e size v n xs := by
  refine ⟨h.1, ?_⟩
  rcases h.2 with h' | ⟨g, cap, cur, hv, h1, h2, h3⟩
  · exact .inl h'
  · exact .inr ⟨g, cap, cur, hv, h1, (hb.block g (Array.getElem?_eq_some_iff.1 h2).1).trans h2, h3⟩

theorem owns_blk0 {w : World} {H g n : Nat} {e : TypeId} {xs : List Value} (h : w.ownsRow H e 1 (.slice (some ⟨g, 0, none⟩) n n) n xs) : w.heap[g]? = some (.cells xs.toArray e (0, 0)) := by
  rcases h.2 with ⟨h', _⟩ | ⟨g', cap', cur, h', _, hg, _, _, hcs, htake⟩
  · simp at h'
  · simp only [Value.slice.injEq, Option.some.injEq, Addr.mk.injEq, and_true, true_and] at h'
    obtain ⟨rfl, rfl⟩ := h'
    rw [Nat.mul_one] at hcs htake
    rw [List.take_of_length_le (by rw [Array.length_toList]; omega)] at htake
    rw [hg, ← htake]

theorem text_ne {s t : ByteArray} (h : s ≠ t) : (s.toList == t.toList) = false := by
  rw [beq_eq_false_iff_ne]
  intro e
  rw [ByteArray.toList_eq, ByteArray.toList_eq] at e
  apply h
  obtain ⟨a⟩ := s
  obtain ⟨b⟩ := t
  congr 1
  exact Array.toList_inj.1 e

theorem text_eq (s : ByteArray) : (s.toList == s.toList) = true := by simp

/-- the slice v holds the texts l, in blocks that are there -/
def TextsOf (w : World) (v : Value) (l : List ByteArray) : Prop :=
  ∃ (A : Option Addr) (c : Nat), v = .slice A l.length c ∧ StrsAt w A l ∧ (A = none → l = [] ∧ c = 0) ∧ l.length * 16 ≤ 140737488351232 ∧ (∀ s ∈ l, s.size ≤ 140737488351232) ∧ l.length ≤ c ∧ c ≤ maxLen

theorem weights_strs {H : Type} (P : Program) (e : TypeId) : ∀ (ss : List ByteArray) (s : ByteArray), s ∈ ss → s.size ∈ DataW.weightsAll (H := H) P e (strs ss)
  | [], _, h => by simp at h
  | x :: r, s, h => by
    show s.size ∈ (DataW.lit (H := H) (.string x.data.toList)).weights P e ++ DataW.weightsAll P e (strs r)
    rw [List.mem_append]
    rcases List.mem_cons.1 h with rfl | h
    · left
      show s.size ∈ [s.data.toList.length]
      simp
    · exact .inr (weights_strs P e r s h)

set_option maxRecDepth 20000 in
theorem open_textsOf2 {H : Type} {enc : TypeId × Value → H} {W : World} {base : Nat} {t e : TypeId} {v : Value} {d : DataW H} {p : List MemPlace} {ts : List TypeId} {ds : List (DataW H)} {j : Nat}
    (ht : Try.prog.underlying t = some (.slice e)) (he : Try.prog.underlying e = some .string) (hc : Try.prog.cellsOf e = 1)
    (hsz : (DataW.weightsEach Try.prog ts ds).all (· ≤ reachBytes) = true) (hj : ts[j]? = some t) (hd : ds[j]? = some d) (hb16 : Try.prog.bytesOf e = 16)
    (hv : Value.okWide Try.prog W .any base t v) (h : DataW.Trod enc Try.prog W 0 (fun _ => true) true t v d p) (hl : ∀ x ∈ p, x.block < W.heap.size) : ∃ L, TextsOf W v L ∧ ((d = .nil ∧ L = []) ∨ ∃ r, d = .slice (strs L) r) := by
  obtain ⟨a0, len, cap, rfl⟩ := okWide_slice ht hv
  obtain ⟨fuel, hf⟩ := h
  rcases open_strings ht he hc hf with ⟨hcs, hx⟩ | ⟨a, len', cap', zs, hcs, _, hl', hm, hz, hx, hcell, hwz⟩
  · simp [Value.cells] at hcs
    obtain ⟨rfl, rfl, rfl⟩ := hcs
    exact ⟨[], ⟨none, 0, rfl, fun h => absurd h (by simp), fun _ => ⟨rfl, rfl⟩, by simp, by simp, by simp, Nat.zero_le _⟩, .inl ⟨by simpa using congrArg Prod.fst hx, rfl⟩⟩
  · simp [Value.cells] at hcs
    obtain ⟨rfl, rfl, rfl⟩ := hcs
    simp only [Prod.mk.injEq] at hx
    obtain ⟨rfl, rfl⟩ := hx
    simp only [if_true] at hz
    have hlen : (zs.take len).length = len := by rw [List.length_take]; omega
    have hs := sized_slice hsz hj hd ht
    rw [hb16] at hs
    have hs2 : (zs.take len).length * 16 ≤ reachBytes := by
      refine Nat.le_trans (Nat.mul_le_mul_right 16 ?_) hs
      simp only [strs, List.length_map]
      omega
    refine ⟨zs.take len, ⟨some a, cap, by rw [hlen], fun hpos => ⟨a, rfl, ?_, fun i hi => ?_⟩, fun h => (by cases h), hs2, fun s hs' => ?_, by rw [hlen]; exact hl', hm⟩, .inr ⟨_, rfl⟩⟩
    · obtain ⟨b, off, spot⟩ := a
      exact hl (.cell b off) (MemPlace.mem_row.2 ⟨0, by omega, by simp⟩)
    · have h1 := hcell i (by omega)
      rw [h1]
      congr 2
      rw [List.getElem_take, List.getD_eq_getElem?_getD, List.getElem?_eq_getElem (by omega), Option.getD_some]
    · have h1 := List.all_eq_true.1 hsz _ (DataW.weights_mem_each hj hd s.size (by
        simp only [DataW.weights, ht, List.mem_cons, List.mem_append]
        exact .inr (.inl (weights_strs _ _ _ _ hs'))))
      have h2 : s.size ≤ reachBytes := by simpa using h1
      exact h2

def markS : ByteArray := ⟨#[109, 97, 114, 107]⟩

theorem StrsAt.news {w : World} {ad : Addr} {l : List ByteArray} (h : StrsAt w (some ad) l) : ∀ j u, (strV l)[j]? = some u → w.cell? (ad.add j) = some u := fun j u hu => by
  have hj : j < l.length := by
    have := (List.getElem?_eq_some_iff.1 hu).1
    rwa [strV_len] at this
  obtain ⟨a', e, _, h3⟩ := h (by omega)
  obtain rfl := Option.some.inj e
  rw [strV_at hj] at hu
  rw [← hu]
  exact h3 j hj

theorem lent_strs {w : World} {H g cap : Nat} {l : List ByteArray} (h : w.ownsRow H 9 1 (.slice (some ⟨g, 0, none⟩) (l.length + 1) cap) (l.length + 1) (strV l ++ [.string markS])) : StrsAt w (some ⟨g, 0, none⟩) l := fun _ => by
  have hf := World.ownsRow.cellAt h
  refine ⟨_, rfl, ?_, fun i hi => ?_⟩
  · obtain ⟨g', cap', hv, _, hlt⟩ := World.ownsRow.form h (by omega)
    simp only [Value.slice.injEq, Option.some.injEq, Addr.mk.injEq] at hv
    obtain ⟨⟨rfl, -⟩, -⟩ := hv
    exact hlt
  · rw [addr_head, hf i (by omega), List.getElem?_append_left (by rw [strV_len]; exact hi)]
    exact strV_at hi

theorem lent_mark {w : World} {H g cap : Nat} {l : List ByteArray} (h : w.ownsRow H 9 1 (.slice (some ⟨g, 0, none⟩) (l.length + 1) cap) (l.length + 1) (strV l ++ [.string markS])) : w.cell? ⟨g, l.length, none⟩ = some (.string ⟨#[109, 97, 114, 107]⟩) := by
  rw [World.ownsRow.cellAt h l.length (by omega), List.getElem?_append_right (by rw [strV_len]; exact Nat.le_refl _), strV_len, Nat.sub_self]
  rfl

/-- a number from 0 to n - 1 -/
def amongV (x : Int) (n : Nat) : Nat := (x % (n : Int)).toNat

theorem amongV_lt (x : Int) (n : Nat) (h : 1 ≤ n) : amongV x n < n := by
  have h1 := Int.emod_nonneg x (show (n : Int) ≠ 0 by omega)
  have h2 := Int.emod_lt_of_pos x (show (0 : Int) < n by omega)
  unfold amongV
  omega

theorem amongV_emod (x : Int) (n : Nat) (h : 1 ≤ n) : ((amongV x n : Nat) : Int) = x % (n : Int) := by
  have h1 := Int.emod_nonneg x (show (n : Int) ≠ 0 by omega)
  unfold amongV
  omega

theorem among_eq (x : Int) (n : Nat) (h1 : 1 ≤ n) : (x.tmod (n : Int) + (n : Int)).tmod (n : Int) = ((amongV x n : Nat) : Int) ∧ -(n : Int) < x.tmod (n : Int) ∧ x.tmod (n : Int) < (n : Int) := by
  have a1 : x.tmod (n : Int) < (n : Int) := Int.tmod_lt_of_pos x (by omega)
  have a2 : -(n : Int) < x.tmod (n : Int) := by
    rcases Int.le_total 0 x with h | h
    · have := Int.tmod_nonneg (n : Int) h; omega
    · have := Int.tmod_lt_of_pos (-x) (show (0 : Int) < n by omega)
      rw [Int.neg_tmod] at this
      omega
  refine ⟨?_, a2, a1⟩
  rw [Int.tmod_eq_emod_of_nonneg (by omega), amongV_emod x n h1, Int.add_emod_right, Int.tmod_def, Int.sub_mul_emod_self_left]

set_option maxHeartbeats 1000000 in
theorem among_any (x : Int) (n : Nat) (w : World) (h1 : 1 ≤ n) (h2 : n ≤ 1000000) :
    Calls Try.prog 9 #[.int .i64 x, .int .i64 (n : Int)] w fun e w' => e = .returned (.int .i64 ((amongV x n : Nat) : Int)) ∧ w' = w := by
  obtain ⟨e1, e2, e3⟩ := among_eq x n h1
  have e4 : ((n : Int) == 0) = false := by simp; omega
  have e6 : wrap64 (x.tmod (n : Int) + (n : Int)) = x.tmod (n : Int) + (n : Int) := IntWalk.wrap64_in _ ⟨by omega, by omega⟩
  have E : Hid ((wrap64 (x.tmod (n : Int) + (n : Int))).tmod (n : Int) = ((amongV x n : Nat) : Int)) := by
    show _ = _
    rw [e6, e1]
  clear e1 e2 e3 e6
  go_enter Try.func9, Try.ntmps9
  go_wp2
  go_ret
  exact ⟨ret_int E.out, rfl⟩

def Cel (w : World) (g : Nat) (t : TypeId) (xs : List Value) : Prop := w.heap[g]? = some (.cells xs.toArray t (0, 0))

section
variable {w w' : World} {g g' i : Nat} {t : TypeId} {xs : List Value} {v : Value}
theorem Cel.lt (h : Cel w g t xs) : g < w.heap.size := (Array.getElem?_eq_some_iff.1 h).1
theorem Cel.cell (h : Cel w g t xs) (hv : xs[i]? = some v) : w.cell? ⟨g, i, none⟩ = some v := blk_cell h (by rw [List.getElem?_toArray]; exact hv)
theorem Cel.free (h : Cel w g t xs) : w.frozen? ⟨g, i, none⟩ = false := blk_free h i
theorem Cel.set (h : Cel w g t xs) : Cel (w.setCell ⟨g, i, none⟩ v) g t (xs.set i v) := by
  unfold Cel at *
  simp [World.setCell, Array.getElem?_modify, h]
theorem Cel.far (h : Cel w g t xs) (hn : g ≠ g') : Cel (w.setCell ⟨g', i, none⟩ v) g t xs := (Below.heap_setCell w ⟨g', i, none⟩ v g hn).trans h
theorem Cel.below (h : Cel w g t xs) (hb : Below w.heap.size w w') : Cel w' g t xs := (hb.block g h.lt).trans h
theorem Cel.drewN (h : Cel w g t xs) (n : Nat) : Cel (w.drewN n) g t xs := h
end

/-- the block stands whole; its mark lies behind its cells -/
def CelM (w : World) (g : Nat) (t : TypeId) (xs : List Value) : Prop := ∃ lo hi, xs.length ≤ lo ∧ w.heap[g]? = some (.cells xs.toArray t (lo, hi))

section
variable {w w' : World} {g i : Nat} {t : TypeId} {xs : List Value} {v : Value}
theorem CelM.lt (h : CelM w g t xs) : g < w.heap.size := by obtain ⟨_, _, _, h⟩ := h; exact (Array.getElem?_eq_some_iff.1 h).1
theorem CelM.cell (h : CelM w g t xs) (hv : xs[i]? = some v) : w.cell? ⟨g, i, none⟩ = some v := by
  obtain ⟨lo, hi, _, h⟩ := h
  rw [cell_of_row w g i _ t (lo, hi) h, List.getElem?_toArray]; exact hv
theorem CelM.free (h : CelM w g t xs) (hi : i < xs.length) : w.frozen? ⟨g, i, none⟩ = false := by
  obtain ⟨lo, hi', h1, h⟩ := h
  simp only [World.frozen?, h, Bool.and_eq_false_iff, decide_eq_false_iff_not]
  left; omega
theorem CelM.set (h : CelM w g t xs) : CelM (w.setCell ⟨g, i, none⟩ v) g t (xs.set i v) := by
  obtain ⟨lo, hi, h1, h⟩ := h
  refine ⟨lo, hi, by rw [List.length_set]; exact h1, ?_⟩
  rw [setCell_eq_setRow w g i _ t (lo, hi) v h, setRow_heap w g _ _ t _ h, List.setIfInBounds_toArray]
theorem CelM.below (h : CelM w g t xs) (hb : Below w.heap.size w w') : CelM w' g t xs := by
  have hl := h.lt
  obtain ⟨lo, hi, h1, h⟩ := h
  exact ⟨lo, hi, h1, (hb.block g hl).trans h⟩
end

/-- two slices share no block -/
def Unlike (u v : Value) : Prop := ∀ j, u.ownBlock = some j → v.ownBlock = some j → False

theorem Unlike.symm {u v : Value} (h : Unlike u v) : Unlike v u := fun j h1 h2 => h j h2 h1

theorem Unlike.ne {u v : Value} (h : Unlike u v) : u.ownBlock = none ∨ u.ownBlock ≠ v.ownBlock := by
  cases e : u.ownBlock with
  | none => exact .inl rfl
  | some j => exact .inr fun e2 => h j e e2.symm

theorem Unlike.next {u v v' : Value} {n m : Nat} (h : Unlike u v) (hu : ∀ j, u.ownBlock = some j → j < n) (hat : v'.ownBlock = v.ownBlock ∨ v'.ownBlock = some m) (hm : n ≤ m) : Unlike u v' := fun j h1 h2 => by
  rcases hat with e | e
  · exact h j h1 (by rw [← e]; exact h2)
  · rw [e] at h2
    have := hu j h1
    simp only [Option.some.injEq] at h2
    omega

def byteAt (s : ByteArray) (p : Nat) : UInt8 := s.data[p]?.getD 0

theorem byteAt_get (s : ByteArray) (p : Nat) (h : p < s.size) : s[p]'h = byteAt s p := by
  unfold byteAt
  have h' : p < s.data.size := h
  rw [Array.getElem?_eq_getElem h']; rfl

/-- a row of values of which the first j stand, behind them zeros -/
def preV (xs : List Value) (z : Value) (j : Nat) : List Value := xs.take j ++ List.replicate (xs.length - j) z

theorem preV_length (xs : List Value) (z : Value) (j : Nat) (h : j ≤ xs.length) : (preV xs z j).length = xs.length := by simp [preV]; omega

theorem preV_set (xs : List Value) (z v : Value) (j : Nat) (h : j < xs.length) (hv : xs[j]? = some v) : (preV xs z j).set j v = preV xs z (j + 1) := by
  have e : xs[j]'h = v := by rw [List.getElem?_eq_getElem h] at hv; exact Option.some.inj hv
  unfold preV
  rw [show xs.length - j = (xs.length - (j + 1)) + 1 from by omega, List.replicate_succ, List.take_succ_eq_append_getElem h, e]
  rw [List.set_append_right _ _ (by simp; omega)]
  simp only [List.length_take, Nat.min_eq_left (Nat.le_of_lt h), Nat.sub_self, List.set_cons_zero, List.append_assoc, List.cons_append, List.nil_append]

theorem preV_at (xs : List Value) (z : Value) (j i : Nat) (h : j ≤ xs.length) (hi : i < xs.length) : ∃ v, (preV xs z j)[i]? = some v :=
  ⟨_, List.getElem?_eq_getElem (by rw [preV_length _ _ _ h]; exact hi)⟩

theorem preV_end (xs : List Value) (z : Value) : preV xs z xs.length = xs := by
  unfold preV
  rw [List.take_length, Nat.sub_self, List.replicate_zero, List.append_nil]

theorem preV_zero (xs : List Value) (z : Value) (n : Nat) (h : xs.length = n) (hz : z.cells = #[z]) : (madeCells z.cells (n * 1)).toList = preV xs z 0 := by
  rw [Nat.mul_one, hz, toList_madeCells_one]
  simp [preV, h]

/-- a text as bytes with a mark behind -/
theorem bytesRow_list (a : ByteArray) (cap : Nat) : ∃ rest : List Value, bytesRow a cap = (Lib.byteCells a.data.toList ++ rest).toArray := by
  refine ⟨List.replicate (cap - a.size) (.int .u8 0), ?_⟩
  apply Array.ext'
  unfold bytesRow
  rw [Array.toList_append, Array.toList_map, Array.toList_replicate]
  rfl

theorem bytes_at (a : ByteArray) (p : Nat) (rest : List Value) (h : p < a.size) : (Lib.byteCells a.data.toList ++ rest)[p]? = some (.int .u8 ((byteAt a p).toNat : Int)) := by
  have h' : p < a.data.size := h
  rw [List.getElem?_append_left (by rw [Lib.byteCells_length, Array.length_toList]; exact h')]
  unfold Lib.byteCells byteAt
  rw [List.getElem?_map, Array.getElem?_toList, Array.getElem?_eq_getElem h']; rfl

theorem owns_lower {w : World} {H H' n : Nat} {v : Value} {e : TypeId} {xs : List Value} (h : w.ownsRow H e 1 v n xs) (hH : H' ≤ H) : w.ownsRow H' e 1 v n xs := by
  refine ⟨h.1, ?_⟩
  rcases h.2 with h' | ⟨g, cap, cur, hv, h1, h2, h3, h4, h5, h6⟩
  · exact .inl h'
  · exact .inr ⟨g, cap, cur, hv, Nat.le_trans hH h1, h2, h3, h4, h5, h6⟩

end Bk
end Go.Proofs.Ytlhcaankfhdakaa
