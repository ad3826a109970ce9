/- Parts of the proof, joined: Bk, ChMath, ChMath2, PkMath, LtMath; their conditions stand with each. -/
import Derived.Test.YtbkanoblcojdfaaGreatRows
import Derived.WalkKit
import Derived.WalkSpells
import Derived.WalkLawsBesides
import Derived.Lib.Hide
import Derived.Deep.QuietTactic
import Derived.BigQuiet
import Derived.Deep.RegionWith
import Derived.Laws.CopyOwn
import Derived.Deep.RegionHeld3
import Derived.Deep.DeepCutAuto
import Derived.Deep.DrawnRows
import Derived.Deep.RegionHeldLaw
import Derived.Lib.AppendStr
import Derived.SliceStrings
import Derived.ProofKit
import Derived.SizedLaws
import Derived.ChangeSlices
import Derived.Carry
import Derived.Below
import Derived.Maps.AppendAt
import Derived.IntWalk
import Derived.Deep.AppendLies
import Derived.Laws.OwnMore
import Derived.Laws.BitsAllLaws
import Derived.Deep.Draws
import Derived.Lib.SmallJoins
import Derived.Lib.BufferWrite
import Derived.StillTail

namespace Go.Proofs.YtbkanoblcojdfaaGreat
namespace Bk
open Go.ChangeShapes Go.WideShapes Go.ChangeAt Go.RowKit
theorem i64_wrap {x : Int} (h0 : 0 ≤ x) (h1 : x < 9223372036854775808) : IntKind.i64.wrap x = x := by
  simp only [IntKind.wrap, IntKind.bits, IntKind.signed]; simp; omega
theorem addr_head (b j : Nat) : (⟨b, 0, none⟩ : Addr).add j = ⟨b, j, none⟩ := by unfold Addr.add; split <;> simp_all
theorem below_append {H : Nat} {w wr w1 : World} {v : Value} {o : Obj} {e : TypeId} {n : Nat} {xs : List Value} (hown : wr.ownsRow H e 1 v n xs) (hb : Below H w wr) (hH : H ≤ w.heap.size) (hg : (wr.alloc o).grownBy w1 v.ownBlock) : Below H w w1 :=
  (hb.alloc (Nat.le_trans hH hb.size) o).grown hg (by have := hb.size; simp; omega) (fun j hj => (hown.lt j hj).1)
theorem Tryz.infoU8 : (Tryz.prog.info? 5).map (fun i => (i.zero, i.size, i.bytes)) = some (some (.int .u8 0), 1, 1) := by kernel_rfl
theorem blk1 (w : World) (A : Obj) : (w.alloc A).heap.size = w.heap.size + 1 ∧ (w.alloc A).heap[w.heap.size]? = some A :=
  ⟨by simp, heap_alloc_new w A⟩
theorem blk2 (w : World) (A B : Obj) : ((w.alloc A).alloc B).heap.size = w.heap.size + 2 ∧ ((w.alloc A).alloc B).heap[w.heap.size]? = some A ∧ ((w.alloc A).alloc B).heap[w.heap.size + 1]? = some B := by
  obtain ⟨s1, b1⟩ := blk1 w A
  obtain ⟨s2, b2⟩ := blk1 (w.alloc A) B
  refine ⟨by omega, ?_, by rw [← s1]; exact b2⟩
  rw [heap_alloc_old _ _ (by omega)]; exact b1
theorem blk_cell {w : World} {g j : Nat} {cs : Array Value} {T : TypeId} {v : Value} (h : w.heap[g]? = some (.cells cs T (0, 0))) (hv : cs[j]? = some v) : w.cell? ⟨g, j, none⟩ = some v :=
  (cell_of_row w g j cs T (0, 0) h).trans hv
theorem blk_free {w : World} {g : Nat} {cs : Array Value} {T : TypeId} (h : w.heap[g]? = some (.cells cs T (0, 0))) : ∀ j, w.frozen? ⟨g, j, none⟩ = false := fun j => frozen_of_row w g j cs T h
theorem cell_kept {B : Nat} {w w1 : World} (h : Below B w w1) (a : Addr) (ha : a.block < B) : w1.cell? a = w.cell? a := by
  unfold World.cell?
  rw [h.block a.block ha]
def strV (l : List ByteArray) : List Value := l.map Value.string
theorem strV_len (l : List ByteArray) : (strV l).length = l.length := by simp [strV]
theorem strV_at {l : List ByteArray} {i : Nat} (h : i < l.length) : (strV l)[i]? = some (.string l[i]) := by
  unfold strV
  rw [List.getElem?_map, List.getElem?_eq_getElem h]; rfl
theorem Tryz.infoStr : (Tryz.prog.info? 9).map (fun i => (i.zero, i.size, i.bytes)) = some (some (.string ⟨#[]⟩), 1, 16) := by kernel_rfl
theorem st_block (a : Addr) (n : Nat) : (a.add n).block = a.block := by unfold Addr.add; split <;> rfl
def StrsAt (w : World) (A : Option Addr) (l : List ByteArray) : Prop :=
  0 < l.length → ∃ ad, A = some ad ∧ ad.block < w.heap.size ∧ ∀ i (h : i < l.length), w.cell? (ad.add i) = some (.string l[i])
theorem StrsAt.below {w w' : World} {A : Option Addr} {l : List ByteArray} (h : StrsAt w A l) (hb : Below w.heap.size w w') : StrsAt w' A l := fun hp => by
  obtain ⟨ad, h1, h2, h3⟩ := h hp
  exact ⟨ad, h1, Nat.lt_of_lt_of_le h2 hb.size, fun i hi => (cell_kept hb _ (by rw [st_block]; exact h2)).trans (h3 i hi)⟩
theorem StrsAt.alloc {w : World} {A : Option Addr} {l : List ByteArray} (h : StrsAt w A l) (o : Obj) : StrsAt (w.alloc o) A l := h.below ((Below.refl _ w).alloc (Nat.le_refl _) o)
theorem StrsAt.drewN {w : World} {A : Option Addr} {l : List ByteArray} (h : StrsAt w A l) (n : Nat) : StrsAt (w.drewN n) A l := h
theorem StrsAt.blk {w : World} {g : Nat} {t : TypeId} {l : List ByteArray} (h : w.heap[g]? = some (.cells (strV l).toArray t (0, 0))) : StrsAt w (some ⟨g, 0, none⟩) l := fun _ =>
  ⟨_, rfl, (Array.getElem?_eq_some_iff.1 h).1, fun i hi => by rw [addr_head]; exact blk_cell h (by rw [List.getElem?_toArray]; exact strV_at hi)⟩
theorem StrsAt.own {w : World} {H g n cap : Nat} {e : TypeId} {l : List ByteArray} (h : w.ownsRow H e 1 (.slice (some ⟨g, 0, none⟩) n cap) n (strV l)) (hl : n = l.length) : StrsAt w (some ⟨g, 0, none⟩) l := fun hp => by
  have hf := World.ownsRow.cellAt h
  refine ⟨_, rfl, ?_, fun i hi => ?_⟩
  · obtain ⟨g', cap', hv, _, hlt⟩ := World.ownsRow.form h (by omega)
    simp only [Value.slice.injEq, Option.some.injEq, Addr.mk.injEq] at hv
    obtain ⟨⟨rfl, -⟩, -⟩ := hv
    exact hlt
  · rw [addr_head, hf i (by omega)]
    exact strV_at hi
theorem add_zero' (ad : Addr) : ad.add 0 = ad := by simp [Addr.add]
theorem st_keep {H size n : Nat} {w W : World} {e : TypeId} {v : Value} {xs : List Value} (h : w.ownsRow H e size v n xs) (hb : Below w.heap.size w W) : W.ownsRow H e size v n xs := by
  refine ⟨h.1, ?_⟩
  rcases h.2 with h' | ⟨g, cap, cur, hv, h1, h2, h3⟩
  · exact .inl h'
  · exact .inr ⟨g, cap, cur, hv, h1, (hb.block g (Array.getElem?_eq_some_iff.1 h2).1).trans h2, h3⟩
theorem text_ne {s t : ByteArray} (h : s ≠ t) : (s.toList == t.toList) = false := by
  rw [beq_eq_false_iff_ne]
  intro e
  rw [ByteArray.toList_eq, ByteArray.toList_eq] at e
  apply h
  obtain ⟨a⟩ := s
  obtain ⟨b⟩ := t
  congr 1
  exact Array.toList_inj.1 e
theorem text_eq (s : ByteArray) : (s.toList == s.toList) = true := by simp
set_option maxRecDepth 20000 in
set_option maxHeartbeats 2000000 in
theorem same_any (A B : Option Addr) (c d : Nat) (a b : List ByteArray) (w : World) (ha : StrsAt w A a) (hb : StrsAt w B b) (hn : a.length ≤ 9223372036854775807) :
    Calls Tryz.prog 50 #[.slice A a.length c, .slice B b.length d] w fun e w' => e = .returned (.bool (decide (a = b))) ∧ ∃ n, w' = w.drewN n := by
  by_cases hl : a.length = b.length
  · have q1 : ((a.length : Int) != (b.length : Int)) = false := by simp [hl]
    have HA := Lib.hid ha
    have HB := Lib.hid hb
    have HL := Lib.hid hl
    clear ha hb hl
    go_enter Tryz.func50, Tryz.ntmps50
    go_wp2_with fail
    go_loopw [5] (fun i wr => ∃ j n : Nat, j ≤ a.length ∧ i = .int .i64 (j : Int) ∧ Hid (∀ x (h : x < a.length) (h2 : x < b.length), x < j → a[x] = b[x]) ∧ wr = w.drewN n) (fun i _ => a.length - (intOf i).toNat)
    case atStart => exact ⟨0, 0, by omega, rfl, fun x _ _ h => absurd h (by omega), rfl⟩
    case round =>
      obtain ⟨j, n, hj, rfl, heq, rfl⟩ := hrel
      by_cases hlt : j < a.length
      · have hltb : j < b.length := by rw [← HL.out]; exact hlt
        obtain ⟨ad, rfl, _, hca⟩ := HA.out (by omega)
        obtain ⟨bd, rfl, _, hcb⟩ := HB.out (by omega)
        have c1 := hca j hlt
        have c2 := hcb j hltb
        have p1 : (j : Int) < (a.length : Int) := by omega
        have p2 : (j : Int) < (b.length : Int) := by omega
        clear hca hcb
        generalize hW : w.drewN n = W
        have HW := Lib.hid hW
        have c1' : W.cell? (ad.add j) = some (.string a[j]) := by rw [← hW]; exact c1
        have c2' : W.cell? (bd.add j) = some (.string b[j]) := by rw [← hW]; exact c2
        clear hW c1 c2
        by_cases hx : a[j] = b[j]
        · have q2 : (a[j].toList == b[j].toList) = true := by rw [hx]; simp
          have HX := Lib.hid hx
          clear hx
          go_wp2_with fail
          go_quiet (fail)
          go_wp2
          go_roundw
          case rel => exact ⟨j + 1, _, by omega, by go_num, (fun x h h2 hxj => by
            by_cases e : x = j
            · subst e; exact HX.out
            · exact heq.out x h h2 (by omega)), by rw [← HW.out, World.drewN_drewN]⟩
          case measure => simp [intOf]; omega
        · have q2 : (a[j].toList == b[j].toList) = false := text_ne hx
          have E := Lib.hid (show decide (a = b) = false by rw [decide_eq_false_iff_not]; intro e; exact hx (by simp only [e]))
          clear hx
          go_wp2_with fail
          go_quiet (fail)
          go_wp2
          go_ret
          exact ⟨by rw [E.out]; rfl, _, by rw [← HW.out, World.drewN_drewN]⟩
      · have E := Lib.hid (show decide (a = b) = true by
          rw [decide_eq_true_eq]
          exact List.ext_getElem HL.out fun x h h2 => heq.out x h h2 (by omega))
        go_wp2_with fail
        go_ret
        exact ⟨by rw [E.out]; rfl, _, rfl⟩
  · have q1 : ((a.length : Int) != (b.length : Int)) = true := by simp; omega
    have E := Lib.hid (show decide (a = b) = false by rw [decide_eq_false_iff_not]; intro e; exact hl (by rw [e]))
    clear hl ha hb
    go_enter Tryz.func50, Tryz.ntmps50
    go_wp2_with fail
    go_ret
    exact ⟨by rw [E.out]; rfl, 0, rfl⟩
theorem weights_strs {H : Type} (P : Program) (e : TypeId) : ∀ (ss : List ByteArray) (s : ByteArray), s ∈ ss → s.size ∈ DataW.weightsAll (H := H) P e (strs ss)
  | [], _, h => by simp at h
  | x :: r, s, h => by
    show s.size ∈ (DataW.lit (H := H) (.string x.data.toList)).weights P e ++ DataW.weightsAll P e (strs r)
    rw [List.mem_append]
    rcases List.mem_cons.1 h with rfl | h
    · left
      show s.size ∈ [s.data.toList.length]
      simp
    · exact .inr (weights_strs P e r s h)
theorem StrsAt.news {w : World} {ad : Addr} {l : List ByteArray} (h : StrsAt w (some ad) l) : ∀ j u, (strV l)[j]? = some u → w.cell? (ad.add j) = some u := fun j u hu => by
  have hj : j < l.length := by
    have := (List.getElem?_eq_some_iff.1 hu).1
    rwa [strV_len] at this
  obtain ⟨a', e, _, h3⟩ := h (by omega)
  obtain rfl := Option.some.inj e
  rw [strV_at hj] at hu
  rw [← hu]
  exact h3 j hj
def Cel (w : World) (g : Nat) (t : TypeId) (xs : List Value) : Prop := w.heap[g]? = some (.cells xs.toArray t (0, 0))
section
variable {w w' : World} {g g' i : Nat} {t : TypeId} {xs : List Value} {v : Value}
theorem Cel.lt (h : Cel w g t xs) : g < w.heap.size := (Array.getElem?_eq_some_iff.1 h).1
theorem Cel.cell (h : Cel w g t xs) (hv : xs[i]? = some v) : w.cell? ⟨g, i, none⟩ = some v := blk_cell h (by rw [List.getElem?_toArray]; exact hv)
theorem Cel.free (h : Cel w g t xs) : w.frozen? ⟨g, i, none⟩ = false := blk_free h i
theorem Cel.set (h : Cel w g t xs) : Cel (w.setCell ⟨g, i, none⟩ v) g t (xs.set i v) := by
  unfold Cel at *
  simp [World.setCell, Array.getElem?_modify, h]
theorem Cel.far (h : Cel w g t xs) (hn : g ≠ g') : Cel (w.setCell ⟨g', i, none⟩ v) g t xs := (Below.heap_setCell w ⟨g', i, none⟩ v g hn).trans h
theorem Cel.below (h : Cel w g t xs) (hb : Below w.heap.size w w') : Cel w' g t xs := (hb.block g h.lt).trans h
theorem Cel.drewN (h : Cel w g t xs) (n : Nat) : Cel (w.drewN n) g t xs := h
end
def CelM (w : World) (g : Nat) (t : TypeId) (xs : List Value) : Prop := ∃ lo hi, xs.length ≤ lo ∧ w.heap[g]? = some (.cells xs.toArray t (lo, hi))
section
variable {w w' : World} {g i : Nat} {t : TypeId} {xs : List Value} {v : Value}
theorem CelM.lt (h : CelM w g t xs) : g < w.heap.size := by obtain ⟨_, _, _, h⟩ := h; exact (Array.getElem?_eq_some_iff.1 h).1
theorem CelM.cell (h : CelM w g t xs) (hv : xs[i]? = some v) : w.cell? ⟨g, i, none⟩ = some v := by
  obtain ⟨lo, hi, _, h⟩ := h
  rw [cell_of_row w g i _ t (lo, hi) h, List.getElem?_toArray]; exact hv
theorem CelM.free (h : CelM w g t xs) (hi : i < xs.length) : w.frozen? ⟨g, i, none⟩ = false := by
  obtain ⟨lo, hi', h1, h⟩ := h
  simp only [World.frozen?, h, Bool.and_eq_false_iff, decide_eq_false_iff_not]
  left; omega
theorem CelM.set (h : CelM w g t xs) : CelM (w.setCell ⟨g, i, none⟩ v) g t (xs.set i v) := by
  obtain ⟨lo, hi, h1, h⟩ := h
  refine ⟨lo, hi, by rw [List.length_set]; exact h1, ?_⟩
  rw [setCell_eq_setRow w g i _ t (lo, hi) v h, setRow_heap w g _ _ t _ h, List.setIfInBounds_toArray]
theorem CelM.below (h : CelM w g t xs) (hb : Below w.heap.size w w') : CelM w' g t xs := by
  have hl := h.lt
  obtain ⟨lo, hi, h1, h⟩ := h
  exact ⟨lo, hi, h1, (hb.block g hl).trans h⟩
end
def Unlike (u v : Value) : Prop := ∀ j, u.ownBlock = some j → v.ownBlock = some j → False
theorem Unlike.symm {u v : Value} (h : Unlike u v) : Unlike v u := fun j h1 h2 => h j h2 h1
theorem Unlike.ne {u v : Value} (h : Unlike u v) : u.ownBlock = none ∨ u.ownBlock ≠ v.ownBlock := by
  cases e : u.ownBlock with
  | none => exact .inl rfl
  | some j => exact .inr fun e2 => h j e e2.symm
theorem Unlike.next {u v v' : Value} {n m : Nat} (h : Unlike u v) (hu : ∀ j, u.ownBlock = some j → j < n) (hat : v'.ownBlock = v.ownBlock ∨ v'.ownBlock = some m) (hm : n ≤ m) : Unlike u v' := fun j h1 h2 => by
  rcases hat with e | e
  · exact h j h1 (by rw [← e]; exact h2)
  · rw [e] at h2
    have := hu j h1
    simp only [Option.some.injEq] at h2
    omega
end Bk
end Go.Proofs.YtbkanoblcojdfaaGreat

namespace Go.Proofs.YtbkanoblcojdfaaGreat
namespace Ch
structure Vr where
  ts : Int
  shard : ByteArray
  dead : Bool
instance : Inhabited Vr := ⟨⟨0, ⟨#[]⟩, false⟩⟩
def noVr : Vr := ⟨0, ⟨#[]⟩, false⟩
theorem vr_ext {x y : Vr} (h1 : x.ts = y.ts) (h2 : x.shard = y.shard) (h3 : x.dead = y.dead) : x = y := by
  obtain ⟨a, b, c⟩ := x
  obtain ⟨d, e, f⟩ := y
  simp only at h1 h2 h3
  rw [h1, h2, h3]
instance : DecidableEq Vr := fun x y => decidable_of_iff (x.ts = y.ts ∧ x.shard = y.shard ∧ x.dead = y.dead) ⟨fun h => vr_ext h.1 h.2.1 h.2.2, fun h => by rw [h]; exact ⟨rfl, rfl, rfl⟩⟩
def vrOk (x : Vr) : Prop := 1 ≤ x.ts ∧ x.ts ≤ 1125899906842624 ∧ x.shard.size ≤ 2052 ∧ ¬ (x.dead = true ∧ x.shard ≠ ⟨#[]⟩)
def bad (p : Option Int) (x : Vr) : Int :=
  if x.ts < 1 ∨ 1125899906842624 < x.ts then 1
  else if 2052 < x.shard.size then 2
  else if x.dead = true ∧ x.shard ≠ ⟨#[]⟩ then 4
  else match p with
    | none => 0
    | some q => if x.ts ≤ q then 110 else 0
def chkL : Option Int → List Vr → Nat → Int × Int
  | _, [], _ => (0, 0)
  | p, x :: r, i => if bad p x = 0 then chkL (some x.ts) r (i + 1) else (i, bad p x)
def chkP (l : List Vr) : Int × Int := if 1024 < l.length then (-1, 2) else chkL none l 0
def lowL (l : List Vr) (t : Int) : List Vr := l.takeWhile (fun x => decide (x.ts ≤ t))
def placeN (l : List Vr) (t : Int) : Nat := (lowL l t).length
def lastT (l : List Vr) : Int := match l.getLast? with | none => 0 | some x => x.ts
def addP (l : List Vr) (v : Vr) : List Vr × Int :=
  if (chkP l).2 ≠ 0 then ([], (chkP l).2)
  else if (chkP [v]).2 ≠ 0 then ([], (chkP [v]).2)
  else if 0 < l.length ∧ v.ts ≤ lastT l then ([], 110)
  else if 1024 ≤ l.length then ([], 2)
  else (l ++ [v], 0)
def atV (l : List Vr) (t : Int) : Vr × Bool := match (lowL l t).getLast? with | none => (noVr, false) | some x => (x, true)
def atP (l : List Vr) (t : Int) : Vr × Bool × Int := if (chkP l).2 ≠ 0 then (noVr, false, (chkP l).2) else ((atV l t).1, (atV l t).2, 0)
def goN (l : List Vr) (t : Int) : Nat := match (lowL l t).getLast? with | none => 0 | some x => if x.dead then placeN l t else placeN l t - 1
def sweepL (l : List Vr) (t : Int) : List Vr := l.drop (goN l t)
def sweepP (l : List Vr) (t : Int) : List Vr × Int := if (chkP l).2 ≠ 0 then ([], (chkP l).2) else (sweepL l t, 0)
def lastP (l : List Vr) : Int × Int := if (chkP l).2 ≠ 0 then (0, (chkP l).2) else (lastT l, 0)
structure ChOk (l : List Vr) : Prop where
  len : l.length ≤ 1024
  each : ∀ x ∈ l, vrOk x
  rise : l.Pairwise (fun x y => x.ts < y.ts)
theorem bad_ok {p : Option Int} {x : Vr} : bad p x = 0 ↔ vrOk x ∧ ∀ q, p = some q → q < x.ts := by
  unfold bad vrOk
  by_cases h1 : x.ts < 1 ∨ 1125899906842624 < x.ts
  · rw [if_pos h1]
    constructor
    · intro h; omega
    · intro h; omega
  rw [if_neg h1]
  by_cases h2 : 2052 < x.shard.size
  · rw [if_pos h2]
    constructor
    · intro h; omega
    · intro h; omega
  rw [if_neg h2]
  by_cases h3 : x.dead = true ∧ x.shard ≠ ⟨#[]⟩
  · rw [if_pos h3]
    constructor
    · intro h; omega
    · intro h; exact absurd h3 h.1.2.2.2
  rw [if_neg h3]
  cases p with
  | none =>
    constructor
    · intro _; exact ⟨⟨by omega, by omega, by omega, h3⟩, fun q h => by cases h⟩
    · intro _; rfl
  | some q =>
    simp only
    by_cases h4 : x.ts ≤ q
    · rw [if_pos h4]
      constructor
      · intro h; omega
      · intro h; have := h.2 q rfl; omega
    · rw [if_neg h4]
      constructor
      · intro _; exact ⟨⟨by omega, by omega, by omega, h3⟩, fun q' h => by obtain rfl := Option.some.inj h; omega⟩
      · intro _; rfl
theorem chkL_ok : ∀ (l : List Vr) (p : Option Int) (i : Nat), (chkL p l i).2 = 0 ↔ (∀ x ∈ l, vrOk x) ∧ l.Pairwise (fun x y => x.ts < y.ts) ∧ ∀ q, p = some q → ∀ x ∈ l, q < x.ts
  | [], p, i => by simp [chkL]
  | x :: r, p, i => by
    unfold chkL
    by_cases h : bad p x = 0
    · rw [if_pos h, chkL_ok r]
      obtain ⟨h1, h2⟩ := bad_ok.1 h
      constructor
      · rintro ⟨a, b, c⟩
        have c' := c x.ts rfl
        refine ⟨fun y hy => ?_, List.pairwise_cons.2 ⟨c', b⟩, fun q e y hy => ?_⟩
        · rcases List.mem_cons.1 hy with rfl | hy
          · exact h1
          · exact a y hy
        · rcases List.mem_cons.1 hy with rfl | hy
          · exact h2 q e
          · have := h2 q e; have := c' y hy; omega
      · rintro ⟨a, b, c⟩
        obtain ⟨b1, b2⟩ := List.pairwise_cons.1 b
        exact ⟨fun y hy => a y (List.mem_cons_of_mem _ hy), b2, fun q e y hy => by obtain rfl := Option.some.inj e; exact b1 y hy⟩
    · rw [if_neg h]
      constructor
      · intro e; exact absurd e h
      · rintro ⟨a, b, c⟩
        exact absurd (bad_ok.2 ⟨a x (List.mem_cons_self ..), fun q e => c q e x (List.mem_cons_self ..)⟩) h
theorem chk_ok {l : List Vr} : (chkP l).2 = 0 ↔ ChOk l := by
  unfold chkP
  by_cases h : 1024 < l.length
  · rw [if_pos h]
    constructor
    · intro e; simp at e
    · intro e; have := e.len; omega
  · rw [if_neg h, chkL_ok]
    constructor
    · rintro ⟨a, b, _⟩; exact ⟨by omega, a, b⟩
    · intro e; exact ⟨e.each, e.rise, fun q e => by cases e⟩
theorem chk_zero {l : List Vr} (h : ChOk l) : chkP l = (0, 0) := by
  have h2 := chk_ok.2 h
  have : ∀ (l : List Vr) (p : Option Int) (i : Nat), (chkL p l i).2 = 0 → chkL p l i = (0, 0) := by
    intro l
    induction l with
    | nil => intro p i _; rfl
    | cons x r ih =>
      intro p i h
      unfold chkL at h ⊢
      by_cases hb : bad p x = 0
      · rw [if_pos hb] at h ⊢; exact ih _ _ h
      · rw [if_neg hb] at h; exact absurd h hb
  unfold chkP at h2 ⊢
  by_cases hl : 1024 < l.length
  · rw [if_pos hl] at h2; simp at h2
  · rw [if_neg hl] at h2 ⊢; exact this _ _ _ h2
theorem ok_sub {a b : List Vr} (h : ChOk a) (hs : b.Sublist a) : ChOk b :=
  ⟨Nat.le_trans hs.length_le h.len, fun x hx => h.each x (hs.subset hx), h.rise.sublist hs⟩
theorem sweep_sub {l : List Vr} (t : Int) : (sweepL l t).Sublist l := List.drop_sublist _ _
end Ch
end Go.Proofs.YtbkanoblcojdfaaGreat

namespace Go.Proofs.YtbkanoblcojdfaaGreat
namespace Ch
abbrev Rise (l : List Vr) : Prop := l.Pairwise (fun x y => x.ts < y.ts)
structure Added (l : List Vr) (v : Vr) : Prop where
  ok : ChOk l
  one : vrOk v
  last : lastT l < v.ts
  all : ∀ x ∈ l, x.ts < v.ts
  more : ChOk (l ++ [v])
theorem last_top {l : List Vr} (h : Rise l) : ∀ x ∈ l, x.ts ≤ lastT l := by
  rcases List.eq_nil_or_concat l with rfl | ⟨l', y, rfl⟩
  · intro x hx; simp at hx
  · rw [List.concat_eq_append] at h ⊢
    unfold lastT
    rw [List.getLast?_concat]
    intro x hx
    rcases List.mem_append.1 hx with hx | hx
    · exact Int.le_of_lt ((List.pairwise_append.1 h).2.2 x hx y (by simp))
    · obtain rfl := List.mem_singleton.1 hx; exact Int.le_refl _
theorem added {l : List Vr} {v : Vr} (h : (addP l v).2 = 0) : Added l v ∧ addP l v = (l ++ [v], 0) := by
  unfold addP at h ⊢
  by_cases h1 : (chkP l).2 ≠ 0
  · rw [if_pos h1] at h; exact absurd h h1
  rw [if_neg h1] at h ⊢
  by_cases h2 : (chkP [v]).2 ≠ 0
  · rw [if_pos h2] at h; exact absurd h h2
  rw [if_neg h2] at h ⊢
  by_cases h3 : 0 < l.length ∧ v.ts ≤ lastT l
  · rw [if_pos h3] at h; simp at h
  rw [if_neg h3] at h ⊢
  by_cases h4 : 1024 ≤ l.length
  · rw [if_pos h4] at h; simp at h
  rw [if_neg h4] at h ⊢
  have ok := chk_ok.1 (Decidable.not_not.1 h1)
  have one := (chk_ok.1 (Decidable.not_not.1 h2)).each v (by simp)
  have hl : lastT l < v.ts := by
    by_cases h0 : 0 < l.length
    · omega
    · have : l = [] := List.eq_nil_of_length_eq_zero (by omega)
      subst this
      have := one.1
      show (0 : Int) < _
      omega
  have hall : ∀ x ∈ l, x.ts < v.ts := fun x hx => Int.lt_of_le_of_lt (last_top ok.rise x hx) hl
  refine ⟨⟨ok, one, hl, hall, ⟨by rw [List.length_append]; simp; omega, fun x hx => ?_, List.pairwise_append.2 ⟨ok.rise, by simp, fun x hx y hy => by obtain rfl := List.mem_singleton.1 hy; exact hall x hx⟩⟩⟩, rfl⟩
  rcases List.mem_append.1 hx with hx | hx
  · exact ok.each x hx
  · obtain rfl := List.mem_singleton.1 hx; exact one
end Ch
end Go.Proofs.YtbkanoblcojdfaaGreat

namespace Go.Proofs.YtbkanoblcojdfaaGreat
namespace Pk
def plain (n : Nat) : List UInt8 := if n < 128 then [UInt8.ofNat n] else UInt8.ofNat (n % 128 + 128) :: plain (n / 128)
termination_by n
decreasing_by omega
theorem plain_small {n : Nat} (h : n < 128) : plain n = [UInt8.ofNat n] := by rw [plain, if_pos h]
theorem plain_big {n : Nat} (h : 128 ≤ n) : plain n = UInt8.ofNat (n % 128 + 128) :: plain (n / 128) := by rw [plain, if_neg (by omega)]
inductive Rd
  | ok (n used : Nat)
  | fin
  | form
def Rd.push (x : Nat) : Rd → Rd
  | .ok n u => .ok (x + 128 * n) (u + 1)
  | .fin => .fin
  | .form => .form
def readK : Nat → Nat → List UInt8 → Rd
  | 0, _, _ => .form
  | _ + 1, _, [] => .fin
  | k + 1, i, b :: r => if b.toNat < 128 then (if b.toNat = 0 ∧ 0 < i then .form else .ok b.toNat 1) else (readK k (i + 1) r).push (b.toNat % 128)
def readR (L : List UInt8) : Rd := readK 9 0 L
theorem ofNat_toNat_lt {n : Nat} (h : n < 256) : (UInt8.ofNat n).toNat = n := UInt8.toNat_ofNat_of_lt' (by show n < 256; exact h)
theorem readK_plain : ∀ (k i n : Nat) (rest : List UInt8), n < 128 ^ k → (0 < i → 0 < n) → 1 ≤ k → readK k i (plain n ++ rest) = .ok n (plain n).length
  | 0, i, n, rest, h, hp, hk => absurd hk (by omega)
  | k + 1, i, n, rest, h, hp, _ => by
    by_cases hs : n < 128
    · rw [plain_small hs]
      show (if (UInt8.ofNat n).toNat < 128 then _ else _) = _
      rw [ofNat_toNat_lt (by omega), if_pos hs, if_neg (by omega)]; rfl
    · rw [plain_big (by omega)]
      show (if (UInt8.ofNat (n % 128 + 128)).toNat < 128 then _ else _) = _
      rw [ofNat_toNat_lt (by omega), if_neg (by omega)]
      have h2 : n / 128 < 128 ^ k := Nat.div_lt_of_lt_mul (by rw [Nat.pow_succ] at h; omega)
      have hk : 1 ≤ k := by
        rcases Nat.eq_zero_or_pos k with e | e
        · subst e; simp at h2; omega
        · exact e
      show (readK k (i + 1) (plain (n / 128) ++ rest)).push _ = _
      rw [readK_plain k (i + 1) (n / 128) rest h2 (fun _ => by omega) hk]
      show Rd.ok _ _ = Rd.ok _ _
      rw [List.length_cons, show (n % 128 + 128) % 128 + 128 * (n / 128) = n by omega]
theorem readK_cut : ∀ (k i n j : Nat), n < 128 ^ k → 1 ≤ k → j < (plain n).length → readK k i ((plain n).take j) = .fin
  | 0, i, n, j, h, hk, hj => absurd hk (by omega)
  | k + 1, i, n, 0, h, _, hj => rfl
  | k + 1, i, n, j + 1, h, _, hj => by
    by_cases hs : n < 128
    · rw [plain_small hs] at hj; simp at hj
    · rw [plain_big (by omega)] at hj ⊢
      rw [List.length_cons] at hj
      have h2 : n / 128 < 128 ^ k := Nat.div_lt_of_lt_mul (by rw [Nat.pow_succ] at h; omega)
      have hk : 1 ≤ k := by
        rcases Nat.eq_zero_or_pos k with e | e
        · subst e; simp at h2; omega
        · exact e
      show (if (UInt8.ofNat (n % 128 + 128)).toNat < 128 then _ else _) = _
      rw [ofNat_toNat_lt (by omega), if_neg (by omega)]
      show (readK k (i + 1) ((plain (n / 128)).take j)).push _ = _
      rw [readK_cut k (i + 1) (n / 128) j h2 hk (by omega)]; rfl
termination_by n => n
decreasing_by omega
def zig (z : Int) : Nat := if z < 0 then (-2 * z - 1).toNat else (2 * z).toNat
def unzig (n : Nat) : Int := if n % 2 = 1 then -((n / 2 : Nat) : Int) - 1 else ((n / 2 : Nat) : Int)
theorem unzig_zig (z : Int) : unzig (zig z) = z := by
  unfold unzig zig
  split <;> split <;> omega
def numOk (z : Int) : Prop := -4611686018427387904 ≤ z ∧ z ≤ 4611686018427387903
instance (z : Int) : Decidable (numOk z) := inferInstanceAs (Decidable (_ ∧ _))
theorem zig_lt {z : Int} (h : numOk z) : zig z < 128 ^ 9 := by
  obtain ⟨h1, h2⟩ := h
  show zig z < 9223372036854775808
  unfold zig
  split <;> omega
def signed (z : Int) : List UInt8 := plain (zig z)
def MayBe (ns : List Int) (ts : List ByteArray) : Prop := ns.length ≤ 1024 ∧ ts.length ≤ 1024 ∧ (∀ n ∈ ns, numOk n) ∧ ∀ t ∈ ts, t.size ≤ 4096
def textL (t : ByteArray) : List UInt8 := plain t.size ++ t.data.toList
def numsL (ns : List Int) : List UInt8 := ns.flatMap signed
def textsL (ts : List ByteArray) : List UInt8 := ts.flatMap textL
def bytesL (ns : List Int) (ts : List ByteArray) : List UInt8 := plain ns.length ++ (numsL ns ++ (plain ts.length ++ textsL ts))
inductive Er
  | fin
  | bad (left code : Nat)
def Er.place (n : Nat) : Er → Nat
  | .fin => n
  | .bad left _ => n - left
def Er.code : Er → Nat
  | .fin => 50
  | .bad _ c => c
def cnt (most : Nat) (L : List UInt8) : Except Er (Nat × List UInt8) :=
  match readR L with
  | .ok n u => if most < n then .error (.bad L.length 2) else .ok (n, L.drop u)
  | .fin => .error .fin
  | .form => .error (.bad L.length 3)
def numF (L : List UInt8) : Except Er (Nat × List UInt8) :=
  match readR L with
  | .ok n u => .ok (n, L.drop u)
  | .fin => .error .fin
  | .form => .error (.bad L.length 3)
def numsF : Nat → List UInt8 → Except Er (List Int × List UInt8)
  | 0, L => .ok ([], L)
  | k + 1, L => match numF L with
    | .error e => .error e
    | .ok (n, r) => match numsF k r with
      | .error e => .error e
      | .ok (ns, r2) => .ok (unzig n :: ns, r2)
def textF (L : List UInt8) : Except Er (ByteArray × List UInt8) :=
  match cnt 4096 L with
  | .error e => .error e
  | .ok (n, r) => if r.length < n then .error .fin else .ok (⟨(r.take n).toArray⟩, r.drop n)
def textsF : Nat → List UInt8 → Except Er (List ByteArray × List UInt8)
  | 0, L => .ok ([], L)
  | k + 1, L => match textF L with
    | .error e => .error e
    | .ok (t, r) => match textsF k r with
      | .error e => .error e
      | .ok (ts, r2) => .ok (t :: ts, r2)
def decL (L : List UInt8) : Except Er (List Int × List ByteArray) :=
  match cnt 1024 L with
  | .error e => .error e
  | .ok (k, r1) => match numsF k r1 with
    | .error e => .error e
    | .ok (ns, r2) => match cnt 1024 r2 with
      | .error e => .error e
      | .ok (m, r3) => match textsF m r3 with
        | .error e => .error e
        | .ok (ts, r4) => if r4 = [] then .ok (ns, ts) else .error (.bad r4.length 3)
structure Good {α : Type} (f : List UInt8 → Except Er (α × List UInt8)) (A : List UInt8) (a : α) : Prop where
  whole : ∀ rest, f (A ++ rest) = .ok (a, rest)
  cut : ∀ j, j < A.length → f (A.take j) = .error .fin
theorem Good.of_eq {α : Type} {f g : List UInt8 → Except Er (α × List UInt8)} {A : List UInt8} {a : α} (h : Good f A a) (e : ∀ L, g L = f L) : Good g A a :=
  ⟨fun rest => by rw [e]; exact h.whole rest, fun j hj => by rw [e]; exact h.cut j hj⟩
theorem Good.then {α β γ : Type} {f : List UInt8 → Except Er (α × List UInt8)} {g : α → List UInt8 → Except Er (β × List UInt8)} {h : α → β → γ} {A B : List UInt8} {a : α} {b : β} (hA : Good f A a) (hB : Good (g a) B b) :
    Good (fun L => match f L with | .error e => .error e | .ok (a, r) => match g a r with | .error e => .error e | .ok (b, r2) => .ok (h a b, r2)) (A ++ B) (h a b) := by
  refine ⟨fun rest => ?_, fun j hj => ?_⟩
  · rw [List.append_assoc]
    simp only [hA.whole, hB.whole]
  · by_cases hlt : j < A.length
    · rw [List.take_append_of_le_length (by omega)]
      simp only [hA.cut j hlt]
    · rw [List.length_append] at hj
      rw [List.take_append, List.take_of_length_le (by omega)]
      simp only [hA.whole, hB.cut (j - A.length) (by omega)]
theorem readR_plain {n : Nat} (rest : List UInt8) (h : n < 128 ^ 9) : readR (plain n ++ rest) = .ok n (plain n).length := readK_plain 9 0 n rest h (fun h => absurd h (by omega)) (by omega)
theorem readR_cut {n j : Nat} (h : n < 128 ^ 9) (hj : j < (plain n).length) : readR ((plain n).take j) = .fin := readK_cut 9 0 n j h (by omega) hj
theorem cnt_good {most n : Nat} (h : n ≤ most) (h9 : n < 128 ^ 9) : Good (cnt most) (plain n) n := by
  refine ⟨fun rest => ?_, fun j hj => ?_⟩
  · unfold cnt
    rw [readR_plain rest h9]
    simp only [if_neg (show ¬ most < n by omega), List.drop_left]
  · unfold cnt
    rw [readR_cut h9 hj]
theorem numF_good {n : Nat} (h9 : n < 128 ^ 9) : Good numF (plain n) n := by
  refine ⟨fun rest => ?_, fun j hj => ?_⟩
  · unfold numF
    rw [readR_plain rest h9]
    simp only [List.drop_left]
  · unfold numF
    rw [readR_cut h9 hj]
theorem numsF_good : ∀ (ns : List Int), (∀ n ∈ ns, numOk n) → Good (numsF ns.length) (numsL ns) ns
  | [], _ => ⟨fun _ => rfl, fun j hj => absurd hj (by simp [numsL])⟩
  | z :: ns, h => by
    have hz := h z (List.mem_cons_self ..)
    have h1 := numF_good (zig_lt hz)
    have h2 := numsF_good ns (fun n hn => h n (List.mem_cons_of_mem _ hn))
    have h3 := Good.then (h := fun n (ns : List Int) => unzig n :: ns) h1 (g := fun _ => numsF ns.length) h2
    rw [unzig_zig] at h3
    refine h3.of_eq fun L => ?_
    rw [List.length_cons, numsF]
    cases numF L with
    | error e => rfl
    | ok x => obtain ⟨n, r⟩ := x; simp only; cases numsF ns.length r <;> rfl
theorem take_good {t : ByteArray} : Good (fun r => if r.length < t.size then Except.error Er.fin else .ok ((⟨(r.take t.size).toArray⟩ : ByteArray), r.drop t.size)) t.data.toList t := by
  have hl : t.data.toList.length = t.size := Array.length_toList
  refine ⟨fun rest => ?_, fun j hj => ?_⟩
  · rw [if_neg (by rw [List.length_append]; omega), ← hl, List.take_left, List.drop_left]
  · rw [if_pos (by rw [List.length_take]; omega)]
theorem textF_good {t : ByteArray} (h : t.size ≤ 4096) : Good textF (textL t) t := by
  have h1 := cnt_good (most := 4096) (n := t.size) h (by show _ < 9223372036854775808; omega)
  refine ⟨fun rest => ?_, fun j hj => ?_⟩
  · unfold textF textL
    rw [List.append_assoc, h1.whole]
    exact take_good.whole rest
  · unfold textF
    by_cases hlt : j < (plain t.size).length
    · unfold textL
      rw [List.take_append_of_le_length (by omega), h1.cut j hlt]
    · unfold textL at hj ⊢
      rw [List.length_append] at hj
      rw [List.take_append, List.take_of_length_le (by omega), h1.whole]
      exact take_good.cut (j - (plain t.size).length) (by omega)
theorem textsF_good : ∀ (ts : List ByteArray), (∀ t ∈ ts, t.size ≤ 4096) → Good (textsF ts.length) (textsL ts) ts
  | [], _ => ⟨fun _ => rfl, fun j hj => absurd hj (by simp [textsL])⟩
  | t :: ts, h => by
    have h1 := textF_good (h t (List.mem_cons_self ..))
    have h2 := textsF_good ts (fun n hn => h n (List.mem_cons_of_mem _ hn))
    have h3 := Good.then (h := fun t (ts : List ByteArray) => t :: ts) h1 (g := fun _ => textsF ts.length) h2
    refine h3.of_eq fun L => ?_
    rw [List.length_cons, textsF]
    cases textF L with
    | error e => rfl
    | ok x => obtain ⟨n, r⟩ := x; simp only; cases textsF ts.length r <;> rfl
theorem decL_bytes {ns : List Int} {ts : List ByteArray} (h : MayBe ns ts) (rest : List UInt8) : decL (bytesL ns ts ++ rest) = if rest = [] then .ok (ns, ts) else .error (.bad rest.length 3) := by
  obtain ⟨h1, h2, h3, h4⟩ := h
  unfold decL bytesL
  rw [List.append_assoc, (cnt_good h1 (by show _ < 9223372036854775808; omega)).whole]
  simp only
  rw [List.append_assoc, (numsF_good ns h3).whole]
  simp only
  rw [List.append_assoc, (cnt_good h2 (by show _ < 9223372036854775808; omega)).whole]
  simp only
  rw [(textsF_good ts h4).whole]
theorem decL_back {ns : List Int} {ts : List ByteArray} (h : MayBe ns ts) : decL (bytesL ns ts) = .ok (ns, ts) := by
  have := decL_bytes h []
  rwa [List.append_nil, if_pos rfl] at this
end Pk
end Go.Proofs.YtbkanoblcojdfaaGreat

namespace Go.Proofs.YtbkanoblcojdfaaGreat
namespace Lt
def keyOk (s : ByteArray) : Prop := 1 ≤ s.size ∧ s.size ≤ 32
instance (s : ByteArray) : Decidable (keyOk s) := inferInstanceAs (Decidable (_ ∧ _))
def leT (a b : ByteArray) : Bool := Op.bytesLess a.toList b.toList || a.toList == b.toList
def Rises (l : List ByteArray) : Prop := ∀ i (h : i < l.length), keyOk l[i] ∧ (0 < i → leT l[i] (l[i - 1]'(by omega)) = false)
theorem Rises.nil : Rises [] := fun i h => absurd h (by simp)
def RisesTo (l : List ByteArray) (j : Nat) : Prop := ∀ i (h : i < l.length), i < j → keyOk l[i] ∧ (0 < i → leT l[i] (l[i - 1]'(by omega)) = false)
theorem RisesTo.zero (l : List ByteArray) : RisesTo l 0 := fun i _ hj => absurd hj (by omega)
theorem RisesTo.succ {l : List ByteArray} {j : Nat} (h : RisesTo l j) (hj : j < l.length) (hk : keyOk l[j]) (hr : 0 < j → leT l[j] (l[j - 1]'(by omega)) = false) : RisesTo l (j + 1) := fun i hi hij => by
  by_cases e : i = j
  · subst e; exact ⟨hk, hr⟩
  · exact h i hi (by omega)
theorem RisesTo.all {l : List ByteArray} (h : RisesTo l l.length) : Rises l := fun i hi => h i hi hi
theorem not_rises {l : List ByteArray} {j : Nat} (hj : j < l.length) (h : ¬ (keyOk l[j] ∧ (0 < j → leT l[j] (l[j - 1]'(by omega)) = false))) : ¬ Rises l := fun hr => h (hr j hj)
structure Wr where
  key : ByteArray
  shard : ByteArray
  dead : Bool
def wrOk (x : Wr) : Prop := x.shard.size ≤ 2052 ∧ ¬ (x.dead = true ∧ x.shard ≠ ⟨#[]⟩)
instance (x : Wr) : Decidable (wrOk x) := inferInstanceAs (Decidable (_ ∧ _))
def WritesOk (l : List Wr) : Prop := l.length ≤ 16 ∧ (∀ x ∈ l, wrOk x) ∧ Rises (l.map Wr.key)
def addr (n : Int) : Prop := (0 ≤ n ∧ n < 12) ∨ (100 ≤ n ∧ n < 116)
def txnOk (n : Int) : Prop := 1 ≤ n ∧ n ≤ 1125899906842623
def stampOk (n : Int) : Prop := 0 ≤ n ∧ n ≤ 1125899906842624
instance (n : Int) : Decidable (addr n) := inferInstanceAs (Decidable (_ ∨ _))
instance (n : Int) : Decidable (txnOk n) := inferInstanceAs (Decidable (_ ∧ _))
instance (n : Int) : Decidable (stampOk n) := inferInstanceAs (Decidable (_ ∧ _))
structure Let where
  kind : Int
  src : Int
  dst : Int
  txn : Int
  ts : Int
  code : Int
  text : ByteArray
  keys : List ByteArray
  ws : List Wr
def kindOk (l : Let) : Prop :=
  (l.kind = 1 ∧ (l.keys.length = 1 ∧ (∀ k ∈ l.keys, keyOk k) ∧ l.ws = []) ∧ l.text = ⟨#[]⟩ ∧ l.code = 0) ∨
  (l.kind = 2 ∧ (l.keys.length = 1 ∧ (∀ k ∈ l.keys, keyOk k) ∧ l.ws = []) ∧ l.text.size ≤ 2052 ∧ (l.text = ⟨#[]⟩ ∨ l.code = 1)) ∨
  (l.kind = 3 ∧ l.keys.length ≤ 16 ∧ Rises l.keys ∧ WritesOk l.ws ∧ l.text = ⟨#[]⟩ ∧ l.code = 0) ∨
  (l.kind = 4 ∧ (l.keys = [] ∧ l.ws = [] ∧ l.text = ⟨#[]⟩) ∧ l.code ≤ 1) ∨
  ((l.kind = 5 ∨ l.kind = 6 ∨ l.kind = 7) ∧ (l.keys = [] ∧ l.ws = [] ∧ l.text = ⟨#[]⟩) ∧ l.code = 0) ∨
  (l.kind = 8 ∧ (l.keys = [] ∧ l.ws = [] ∧ l.text = ⟨#[]⟩) ∧ l.code ≤ 2)
def headOk (l : Let) : Prop := addr l.src ∧ addr l.dst ∧ txnOk l.txn ∧ stampOk l.ts ∧ 0 ≤ l.code ∧ l.code ≤ 4
def LetOk (l : Let) : Prop := headOk l ∧ kindOk l
def numsOf (l : Let) : List Int := [l.kind, l.src, l.dst, l.txn, l.ts, l.code, (l.keys.length : Int)] ++ l.ws.map fun x => if x.dead then 1 else 0
def textsOf (l : Let) : List ByteArray := l.text :: (l.keys ++ l.ws.flatMap fun x => [x.key, x.shard])
def letL (l : Let) : List UInt8 := Pk.bytesL (numsOf l) (textsOf l)
theorem LetOk.bounds {l : Let} (h : LetOk l) : l.keys.length ≤ 16 ∧ l.ws.length ≤ 16 ∧ l.text.size ≤ 2052 ∧ (∀ k ∈ l.keys, keyOk k) ∧ (∀ x ∈ l.ws, keyOk x.key ∧ x.shard.size ≤ 2052) ∧ 1 ≤ l.kind ∧ l.kind ≤ 8 := by
  obtain ⟨_, h⟩ := h
  have e0 : (⟨#[]⟩ : ByteArray).size = 0 := rfl
  have rk : ∀ (m : List ByteArray), Rises m → ∀ k ∈ m, keyOk k := fun m hm k hk => by
    obtain ⟨i, hi, e⟩ := List.mem_iff_getElem.1 hk
    rw [← e]; exact (hm i hi).1
  have rw_ : ∀ (m : List Wr), Rises (m.map Wr.key) → ∀ x ∈ m, keyOk x.key := fun m hm x hx => rk _ hm _ (List.mem_map.2 ⟨x, hx, rfl⟩)
  rcases h with ⟨h1, ⟨h2, h3, h4⟩, h5, _⟩ | ⟨h1, ⟨h2, h3, h4⟩, h5, _⟩ | ⟨h1, h2, h3, ⟨h4, h5, h6⟩, h7, _⟩ | ⟨h1, ⟨h2, h3, h4⟩, _⟩ | ⟨h1, ⟨h2, h3, h4⟩, _⟩ | ⟨h1, ⟨h2, h3, h4⟩, _⟩
  · rw [h4, h5]; exact ⟨by omega, by simp, by rw [e0]; omega, h3, by simp, by omega, by omega⟩
  · rw [h4]; exact ⟨by omega, by simp, h5, h3, by simp, by omega, by omega⟩
  · rw [h7]; exact ⟨h2, h4, by rw [e0]; omega, rk _ h3, fun x hx => ⟨rw_ _ h6 x hx, (h5 x hx).1⟩, by omega, by omega⟩
  all_goals rw [h2, h3, h4]; exact ⟨by simp, by simp, by rw [e0]; omega, by simp, by simp, by omega, by omega⟩
theorem LetOk.pack {l : Let} (h : LetOk l) : Pk.MayBe (numsOf l) (textsOf l) := by
  obtain ⟨b1, b2, b3, b4, b5, b6, b7⟩ := h.bounds
  obtain ⟨⟨h1, h2, h3, h4, h5, h6⟩, _⟩ := h
  have fl : (l.ws.flatMap fun x => [x.key, x.shard]).length = 2 * l.ws.length := by
    induction l.ws with
    | nil => rfl
    | cons x r ih => simp only [List.flatMap_cons, List.length_append, List.length_cons, List.length_nil]; omega
  refine ⟨?_, ?_, fun n hn => ?_, fun t ht => ?_⟩
  · unfold numsOf
    rw [List.length_append, List.length_map]
    show 7 + _ ≤ _
    omega
  · unfold textsOf
    rw [List.length_cons, List.length_append, fl]
    omega
  · unfold numsOf at hn
    rcases List.mem_append.1 hn with hn | hn
    · simp only [List.mem_cons, List.not_mem_nil, or_false] at hn
      unfold addr at h1 h2
      unfold txnOk at h3
      unfold stampOk at h4
      unfold Pk.numOk
      rcases hn with rfl | rfl | rfl | rfl | rfl | rfl | rfl <;> omega
    · obtain ⟨x, _, rfl⟩ := List.mem_map.1 hn
      unfold Pk.numOk
      split <;> omega
  · unfold textsOf at ht
    rcases List.mem_cons.1 ht with rfl | ht
    · omega
    · rcases List.mem_append.1 ht with ht | ht
      · have := b4 t ht; unfold keyOk at this; omega
      · obtain ⟨x, hx, hx2⟩ := List.mem_flatMap.1 ht
        have := b5 x hx
        unfold keyOk at this
        simp only [List.mem_cons, List.not_mem_nil, or_false] at hx2
        rcases hx2 with rfl | rfl <;> omega
end Lt
end Go.Proofs.YtbkanoblcojdfaaGreat
