/- Parts of the proof, joined: Bk, SuMath, SuRef; their conditions stand with each. -/
import Derived.Test.YtjehjbkcdpidbaaGreatRows
import Derived.WalkKit
import Derived.WalkSpells
import Derived.WalkLawsBesides
import Derived.Lib.Hide
import Derived.Deep.QuietTactic
import Derived.BigQuiet
import Derived.Deep.RegionWith
import Derived.Laws.CopyOwn
import Derived.Deep.RegionHeld3
import Derived.Deep.DeepCutAuto
import Derived.Deep.DrawnRows
import Derived.Deep.RegionHeldLaw
import Derived.Lib.AppendStr
import Derived.SliceStrings
import Derived.ProofKit
import Derived.SizedLaws
import Derived.ChangeSlices
import Derived.Carry
import Derived.Below
import Derived.Maps.AppendAt
import Derived.IntWalk
import Derived.Deep.AppendLies
import Derived.Laws.OwnMore
import Derived.Laws.BitsAllLaws
import Derived.Deep.Draws
import Derived.Lib.SmallJoins
import Derived.Lib.BufferWrite
import Derived.StillTail

/- What the walks of layers from the fifth on use, of texts, rows and numbers, and contracts of the functions that all layers' laws use; no condition but the range. -/
namespace Go.Proofs.YtjehjbkcdpidbaaGreat
namespace Bk
open Go.ChangeShapes Go.WideShapes Go.ChangeAt Go.RowKit

theorem i64_wrap {x : Int} (h0 : 0 ≤ x) (h1 : x < 9223372036854775808) : IntKind.i64.wrap x = x := by
  simp only [IntKind.wrap, IntKind.bits, IntKind.signed]; simp; omega

theorem ofInt_i64 (a : Nat) (ha : a < 9223372036854775808) : (BitVec.ofInt 64 (a : Int)).toNat = a := by
  rw [BitVec.ofInt_natCast, BitVec.toNat_ofNat]; exact Nat.mod_eq_of_lt (by omega)

theorem i64_xor_nat (a b : Nat) (ha : a < 9223372036854775808) (hb : b < 9223372036854775808) : bits .xor .i64 (a : Int) (b : Int) = ((a ^^^ b : Nat) : Int) := by
  have hx : a ^^^ b < 2 ^ 63 := Nat.xor_lt_two_pow (by omega) (by omega)
  show IntKind.i64.wrap ((BitVec.ofInt 64 (a : Int) ^^^ BitVec.ofInt 64 (b : Int)).toNat : Int) = _
  rw [BitVec.toNat_xor, ofInt_i64 a ha, ofInt_i64 b hb, i64_wrap (by omega) (by omega)]

theorem ret_int {k : IntKind} {a b : Int} (h : a = b) : Ending.returned (.int k a) = .returned (.int k b) := by rw [h]

theorem addr_head (b j : Nat) : (⟨b, 0, none⟩ : Addr).add j = ⟨b, j, none⟩ := by unfold Addr.add; split <;> simp_all

theorem below_append {H : Nat} {w wr w1 : World} {v : Value} {o : Obj} {e : TypeId} {n : Nat} {xs : List Value} (hown : wr.ownsRow H e 1 v n xs) (hb : Below H w wr) (hH : H ≤ w.heap.size) (hg : (wr.alloc o).grownBy w1 v.ownBlock) : Below H w w1 :=
  (hb.alloc (Nat.le_trans hH hb.size) o).grown hg (by have := hb.size; simp; omega) (fun j hj => (hown.lt j hj).1)

theorem Tryz.infoU8 : (Tryz.prog.info? 5).map (fun i => (i.zero, i.size, i.bytes)) = some (some (.int .u8 0), 1, 1) := by kernel_rfl

theorem blk1 (w : World) (A : Obj) : (w.alloc A).heap.size = w.heap.size + 1 ∧ (w.alloc A).heap[w.heap.size]? = some A :=
  ⟨by simp, heap_alloc_new w A⟩

theorem blk2 (w : World) (A B : Obj) : ((w.alloc A).alloc B).heap.size = w.heap.size + 2 ∧ ((w.alloc A).alloc B).heap[w.heap.size]? = some A ∧ ((w.alloc A).alloc B).heap[w.heap.size + 1]? = some B := by
  obtain ⟨s1, b1⟩ := blk1 w A
  obtain ⟨s2, b2⟩ := blk1 (w.alloc A) B
  refine ⟨by omega, ?_, by rw [← s1]; exact b2⟩
  rw [heap_alloc_old _ _ (by omega)]; exact b1

theorem blk3 (w : World) (A B C : Obj) : (((w.alloc A).alloc B).alloc C).heap.size = w.heap.size + 3 ∧ (((w.alloc A).alloc B).alloc C).heap[w.heap.size]? = some A ∧
    (((w.alloc A).alloc B).alloc C).heap[w.heap.size + 1]? = some B ∧ (((w.alloc A).alloc B).alloc C).heap[w.heap.size + 2]? = some C := by
  obtain ⟨s1, b1, b2⟩ := blk2 w A B
  obtain ⟨s2, b3⟩ := blk1 ((w.alloc A).alloc B) C
  refine ⟨by omega, ?_, ?_, by rw [← s1]; exact b3⟩
  · rw [heap_alloc_old _ _ (by omega)]; exact b1
  · rw [heap_alloc_old _ _ (by omega)]; exact b2

theorem blk_cell {w : World} {g j : Nat} {cs : Array Value} {T : TypeId} {v : Value} (h : w.heap[g]? = some (.cells cs T (0, 0))) (hv : cs[j]? = some v) : w.cell? ⟨g, j, none⟩ = some v :=
  (cell_of_row w g j cs T (0, 0) h).trans hv

theorem blk_free {w : World} {g : Nat} {cs : Array Value} {T : TypeId} (h : w.heap[g]? = some (.cells cs T (0, 0))) : ∀ j, w.frozen? ⟨g, j, none⟩ = false := fun j => frozen_of_row w g j cs T h

theorem below_new {w w1 : World} {o : Obj} (h : Below (w.alloc o).heap.size (w.alloc o) w1) : Below w.heap.size w w1 :=
  ((Below.refl _ w).alloc (Nat.le_refl _) o).trans (h.mono (by simp))

/-- a cell of an old block, wherever it points -/
theorem cell_kept {B : Nat} {w w1 : World} (h : Below B w w1) (a : Addr) (ha : a.block < B) : w1.cell? a = w.cell? a := by
  unfold World.cell?
  rw [h.block a.block ha]

def strV (l : List ByteArray) : List Value := l.map Value.string

theorem strV_len (l : List ByteArray) : (strV l).length = l.length := by simp [strV]

theorem strV_at {l : List ByteArray} {i : Nat} (h : i < l.length) : (strV l)[i]? = some (.string l[i]) := by
  unfold strV
  rw [List.getElem?_map, List.getElem?_eq_getElem h]; rfl

theorem Tryz.infoStr : (Tryz.prog.info? 9).map (fun i => (i.zero, i.size, i.bytes)) = some (some (.string ⟨#[]⟩), 1, 16) := by kernel_rfl

theorem st_block (a : Addr) (n : Nat) : (a.add n).block = a.block := by unfold Addr.add; split <;> rfl

/-- the slice v holds the texts l -/
def StrsAt (w : World) (A : Option Addr) (l : List ByteArray) : Prop :=
  0 < l.length → ∃ ad, A = some ad ∧ ad.block < w.heap.size ∧ ∀ i (h : i < l.length), w.cell? (ad.add i) = some (.string l[i])

theorem StrsAt.below {w w' : World} {A : Option Addr} {l : List ByteArray} (h : StrsAt w A l) (hb : Below w.heap.size w w') : StrsAt w' A l := fun hp => by
  obtain ⟨ad, h1, h2, h3⟩ := h hp
  exact ⟨ad, h1, Nat.lt_of_lt_of_le h2 hb.size, fun i hi => (cell_kept hb _ (by rw [st_block]; exact h2)).trans (h3 i hi)⟩

theorem StrsAt.alloc {w : World} {A : Option Addr} {l : List ByteArray} (h : StrsAt w A l) (o : Obj) : StrsAt (w.alloc o) A l := h.below ((Below.refl _ w).alloc (Nat.le_refl _) o)

theorem StrsAt.drewN {w : World} {A : Option Addr} {l : List ByteArray} (h : StrsAt w A l) (n : Nat) : StrsAt (w.drewN n) A l := h

theorem StrsAt.blk {w : World} {g : Nat} {t : TypeId} {l : List ByteArray} (h : w.heap[g]? = some (.cells (strV l).toArray t (0, 0))) : StrsAt w (some ⟨g, 0, none⟩) l := fun _ =>
  ⟨_, rfl, (Array.getElem?_eq_some_iff.1 h).1, fun i hi => by rw [addr_head]; exact blk_cell h (by rw [List.getElem?_toArray]; exact strV_at hi)⟩

theorem StrsAt.own {w : World} {H g n cap : Nat} {e : TypeId} {l : List ByteArray} (h : w.ownsRow H e 1 (.slice (some ⟨g, 0, none⟩) n cap) n (strV l)) (hl : n = l.length) : StrsAt w (some ⟨g, 0, none⟩) l := fun hp => by
  have hf := World.ownsRow.cellAt h
  refine ⟨_, rfl, ?_, fun i hi => ?_⟩
  · obtain ⟨g', cap', hv, _, hlt⟩ := World.ownsRow.form h (by omega)
    simp only [Value.slice.injEq, Option.some.injEq, Addr.mk.injEq] at hv
    obtain ⟨⟨rfl, -⟩, -⟩ := hv
    exact hlt
  · rw [addr_head, hf i (by omega)]
    exact strV_at hi

theorem add_zero' (ad : Addr) : ad.add 0 = ad := by simp [Addr.add]

/-- what the call owns stays owned while no old block is written -/
theorem st_keep {H size n : Nat} {w W : World} {e : TypeId} {v : Value} {xs : List Value} (h : w.ownsRow H e size v n xs) (hb : Below w.heap.size w W) : W.ownsRow H e size v n xs := by
  refine ⟨h.1, ?_⟩
  rcases h.2 with h' | ⟨g, cap, cur, hv, h1, h2, h3⟩
  · exact .inl h'
  · exact .inr ⟨g, cap, cur, hv, h1, (hb.block g (Array.getElem?_eq_some_iff.1 h2).1).trans h2, h3⟩

theorem own_bytes {w : World} {H g n cap : Nat} {L : List UInt8} (h : w.ownsRow H 5 1 (.slice (some ⟨g, 0, none⟩) n cap) n (Lib.byteCells L)) (hn : n = L.length) (lo m c : Nat) (hlo : lo + m ≤ L.length) :
    (convert 82 9 (.slice (some ⟨g, lo, none⟩) m c)).run Tryz.prog w = .ok (.string ⟨((L.drop lo).take m).toArray⟩) w := by
  have hlen : ((L.drop lo).take m).length = m := by rw [List.length_take, List.length_drop]; omega
  have := run_convert_bytes_back (P := Tryz.prog) w 82 9 5 ⟨g, lo, none⟩ c ((L.drop lo).take m) Tryz.underlying82 Tryz.underlying5 Tryz.underlying9 (fun j hj => by
    have hj' : j < m := by rw [hlen] at hj; exact hj
    have hadd : (⟨g, lo, none⟩ : Addr).add j = ⟨g, lo + j, none⟩ := by unfold Addr.add; split <;> simp_all
    rw [hadd, World.ownsRow.cellAt h (lo + j) (by omega)]
    unfold Lib.byteCells
    rw [List.getElem?_map, List.getElem?_eq_getElem (by omega), Option.map_some, List.getElem_take, List.getElem_drop])
  rwa [hlen] at this

theorem owns_blk0 {w : World} {H g n : Nat} {e : TypeId} {xs : List Value} (h : w.ownsRow H e 1 (.slice (some ⟨g, 0, none⟩) n n) n xs) : w.heap[g]? = some (.cells xs.toArray e (0, 0)) := by
  rcases h.2 with ⟨h', _⟩ | ⟨g', cap', cur, h', _, hg, _, _, hcs, htake⟩
  · simp at h'
  · simp only [Value.slice.injEq, Option.some.injEq, Addr.mk.injEq, and_true, true_and] at h'
    obtain ⟨rfl, rfl⟩ := h'
    rw [Nat.mul_one] at hcs htake
    rw [List.take_of_length_le (by rw [Array.length_toList]; omega)] at htake
    rw [hg, ← htake]

theorem text_ne {s t : ByteArray} (h : s ≠ t) : (s.toList == t.toList) = false := by
  rw [beq_eq_false_iff_ne]
  intro e
  rw [ByteArray.toList_eq, ByteArray.toList_eq] at e
  apply h
  obtain ⟨a⟩ := s
  obtain ⟨b⟩ := t
  congr 1
  exact Array.toList_inj.1 e

theorem text_eq (s : ByteArray) : (s.toList == s.toList) = true := by simp

set_option maxRecDepth 20000 in
set_option maxHeartbeats 2000000 in
theorem same_any (A B : Option Addr) (c d : Nat) (a b : List ByteArray) (w : World) (ha : StrsAt w A a) (hb : StrsAt w B b) (hn : a.length ≤ 9223372036854775807) :
    Calls Tryz.prog 18 #[.slice A a.length c, .slice B b.length d] w fun e w' => e = .returned (.bool (decide (a = b))) ∧ ∃ n, w' = w.drewN n := by
  by_cases hl : a.length = b.length
  · have q1 : ((a.length : Int) != (b.length : Int)) = false := by simp [hl]
    have HA := Lib.hid ha
    have HB := Lib.hid hb
    have HL := Lib.hid hl
    clear ha hb hl
    go_enter Tryz.func18, Tryz.ntmps18
    go_wp2_with fail
    go_loopw [5] (fun i wr => ∃ j n : Nat, j ≤ a.length ∧ i = .int .i64 (j : Int) ∧ Hid (∀ x (h : x < a.length) (h2 : x < b.length), x < j → a[x] = b[x]) ∧ wr = w.drewN n) (fun i _ => a.length - (intOf i).toNat)
    case atStart => exact ⟨0, 0, by omega, rfl, fun x _ _ h => absurd h (by omega), rfl⟩
    case round =>
      obtain ⟨j, n, hj, rfl, heq, rfl⟩ := hrel
      by_cases hlt : j < a.length
      · have hltb : j < b.length := by rw [← HL.out]; exact hlt
        obtain ⟨ad, rfl, _, hca⟩ := HA.out (by omega)
        obtain ⟨bd, rfl, _, hcb⟩ := HB.out (by omega)
        have c1 := hca j hlt
        have c2 := hcb j hltb
        have p1 : (j : Int) < (a.length : Int) := by omega
        have p2 : (j : Int) < (b.length : Int) := by omega
        clear hca hcb
        generalize hW : w.drewN n = W
        have HW := Lib.hid hW
        have c1' : W.cell? (ad.add j) = some (.string a[j]) := by rw [← hW]; exact c1
        have c2' : W.cell? (bd.add j) = some (.string b[j]) := by rw [← hW]; exact c2
        clear hW c1 c2
        by_cases hx : a[j] = b[j]
        · have q2 : (a[j].toList == b[j].toList) = true := by rw [hx]; simp
          have HX := Lib.hid hx
          clear hx
          go_wp2_with fail
          go_quiet (fail)
          go_wp2
          go_roundw
          case rel => exact ⟨j + 1, _, by omega, by go_num, (fun x h h2 hxj => by
            by_cases e : x = j
            · subst e; exact HX.out
            · exact heq.out x h h2 (by omega)), by rw [← HW.out, World.drewN_drewN]⟩
          case measure => simp [intOf]; omega
        · have q2 : (a[j].toList == b[j].toList) = false := text_ne hx
          have E := Lib.hid (show decide (a = b) = false by rw [decide_eq_false_iff_not]; intro e; exact hx (by simp only [e]))
          clear hx
          go_wp2_with fail
          go_quiet (fail)
          go_wp2
          go_ret
          exact ⟨by rw [E.out]; rfl, _, by rw [← HW.out, World.drewN_drewN]⟩
      · have E := Lib.hid (show decide (a = b) = true by
          rw [decide_eq_true_eq]
          exact List.ext_getElem HL.out fun x h h2 => heq.out x h h2 (by omega))
        go_wp2_with fail
        go_ret
        exact ⟨by rw [E.out]; rfl, _, rfl⟩
  · have q1 : ((a.length : Int) != (b.length : Int)) = true := by simp; omega
    have E := Lib.hid (show decide (a = b) = false by rw [decide_eq_false_iff_not]; intro e; exact hl (by rw [e]))
    clear hl ha hb
    go_enter Tryz.func18, Tryz.ntmps18
    go_wp2_with fail
    go_ret
    exact ⟨by rw [E.out]; rfl, 0, rfl⟩

/-- the slice v holds the texts l, in blocks that are there -/
def TextsOf (w : World) (v : Value) (l : List ByteArray) : Prop :=
  ∃ (A : Option Addr) (c : Nat), v = .slice A l.length c ∧ StrsAt w A l ∧ (A = none → l = [] ∧ c = 0) ∧ l.length * 16 ≤ 140737488351232 ∧ (∀ s ∈ l, s.size ≤ 140737488351232) ∧ l.length ≤ c ∧ c ≤ maxLen

theorem weights_strs {H : Type} (P : Program) (e : TypeId) : ∀ (ss : List ByteArray) (s : ByteArray), s ∈ ss → s.size ∈ DataW.weightsAll (H := H) P e (strs ss)
  | [], _, h => by simp at h
  | x :: r, s, h => by
    show s.size ∈ (DataW.lit (H := H) (.string x.data.toList)).weights P e ++ DataW.weightsAll P e (strs r)
    rw [List.mem_append]
    rcases List.mem_cons.1 h with rfl | h
    · left
      show s.size ∈ [s.data.toList.length]
      simp
    · exact .inr (weights_strs P e r s h)

set_option maxRecDepth 20000 in
theorem open_textsOf2 {H : Type} {enc : TypeId × Value → H} {W : World} {base : Nat} {t e : TypeId} {v : Value} {d : DataW H} {p : List MemPlace} {ts : List TypeId} {ds : List (DataW H)} {j : Nat}
    (ht : Tryz.prog.underlying t = some (.slice e)) (he : Tryz.prog.underlying e = some .string) (hc : Tryz.prog.cellsOf e = 1)
    (hsz : (DataW.weightsEach Tryz.prog ts ds).all (· ≤ reachBytes) = true) (hj : ts[j]? = some t) (hd : ds[j]? = some d) (hb16 : Tryz.prog.bytesOf e = 16)
    (hv : Value.okWide Tryz.prog W .any base t v) (h : DataW.Trod enc Tryz.prog W 0 (fun _ => true) true t v d p) (hl : ∀ x ∈ p, x.block < W.heap.size) : ∃ L, TextsOf W v L ∧ ((d = .nil ∧ L = []) ∨ ∃ r, d = .slice (strs L) r) := by
  obtain ⟨a0, len, cap, rfl⟩ := okWide_slice ht hv
  obtain ⟨fuel, hf⟩ := h
  rcases open_strings ht he hc hf with ⟨hcs, hx⟩ | ⟨a, len', cap', zs, hcs, _, hl', hm, hz, hx, hcell, hwz⟩
  · simp [Value.cells] at hcs
    obtain ⟨rfl, rfl, rfl⟩ := hcs
    exact ⟨[], ⟨none, 0, rfl, fun h => absurd h (by simp), fun _ => ⟨rfl, rfl⟩, by simp, by simp, by simp, Nat.zero_le _⟩, .inl ⟨by simpa using congrArg Prod.fst hx, rfl⟩⟩
  · simp [Value.cells] at hcs
    obtain ⟨rfl, rfl, rfl⟩ := hcs
    simp only [Prod.mk.injEq] at hx
    obtain ⟨rfl, rfl⟩ := hx
    simp only [if_true] at hz
    have hlen : (zs.take len).length = len := by rw [List.length_take]; omega
    have hs := sized_slice hsz hj hd ht
    rw [hb16] at hs
    have hs2 : (zs.take len).length * 16 ≤ reachBytes := by
      refine Nat.le_trans (Nat.mul_le_mul_right 16 ?_) hs
      simp only [strs, List.length_map]
      omega
    refine ⟨zs.take len, ⟨some a, cap, by rw [hlen], fun hpos => ⟨a, rfl, ?_, fun i hi => ?_⟩, fun h => (by cases h), hs2, fun s hs' => ?_, by rw [hlen]; exact hl', hm⟩, .inr ⟨_, rfl⟩⟩
    · obtain ⟨b, off, spot⟩ := a
      exact hl (.cell b off) (MemPlace.mem_row.2 ⟨0, by omega, by simp⟩)
    · have h1 := hcell i (by omega)
      rw [h1]
      congr 2
      rw [List.getElem_take, List.getD_eq_getElem?_getD, List.getElem?_eq_getElem (by omega), Option.getD_some]
    · have h1 := List.all_eq_true.1 hsz _ (DataW.weights_mem_each hj hd s.size (by
        simp only [DataW.weights, ht, List.mem_cons, List.mem_append]
        exact .inr (.inl (weights_strs _ _ _ _ hs'))))
      have h2 : s.size ≤ reachBytes := by simpa using h1
      exact h2

def markS : ByteArray := ⟨#[109, 97, 114, 107]⟩

theorem StrsAt.news {w : World} {ad : Addr} {l : List ByteArray} (h : StrsAt w (some ad) l) : ∀ j u, (strV l)[j]? = some u → w.cell? (ad.add j) = some u := fun j u hu => by
  have hj : j < l.length := by
    have := (List.getElem?_eq_some_iff.1 hu).1
    rwa [strV_len] at this
  obtain ⟨a', e, _, h3⟩ := h (by omega)
  obtain rfl := Option.some.inj e
  rw [strV_at hj] at hu
  rw [← hu]
  exact h3 j hj

set_option maxRecDepth 20000 in
set_option maxHeartbeats 2000000 in
theorem lend_any (v : Value) (l : List ByteArray) (w : World) (h : TextsOf w v l) :
    Calls Tryz.prog 35 #[v] w fun e w' =>
      ∃ g cap, e = .returned (.slice (some ⟨g, 0, none⟩) l.length cap) ∧ w'.ownsRow w.heap.size 9 1 (.slice (some ⟨g, 0, none⟩) (l.length + 1) cap) (l.length + 1) (strV l ++ [.string markS]) ∧ Below w.heap.size w w' := by
  obtain ⟨i0, hi, hz0, hz1, hz2⟩ := info_parts Tryz.infoStr
  obtain ⟨A, c, rfl, hst, hnil, hn16, hmax⟩ := h
  have HSt := Lib.hid hst
  have HN16 : l.length * 16 ≤ 140737488351232 := hn16
  have hOwn : (w.alloc (.cells #[] 9)).ownsRow w.heap.size 9 1 (.slice (some ⟨w.heap.size, 0, none⟩) 0 0) 0 [] := World.ownsRow_lit (base := w.heap.size) (e := 9) (size := 1) w #[] 0 (Nat.le_refl _) (by unfold maxLen; omega) rfl
  have HO := Lib.hid hOwn
  have hB1 : Below w.heap.size w (w.alloc (.cells #[] 9)) := (Below.refl _ w).alloc (Nat.le_refl _) _
  have HB1 := Lib.hid hB1
  have hH1 : w.heap.size ≤ (w.alloc (.cells #[] 9)).heap.size := by simp
  clear hst hmax hn16 hOwn hB1
  -- behind the first append: the texts, a row of the call's own
  cases A with
  | none =>
    obtain ⟨rfl, rfl⟩ := hnil rfl
    have hap := run_append_owned_none (P := Tryz.prog) _ w.heap.size 37 37 9 i0 1 Tryz.underlying37 hi _ _ _ HO.out
    clear hnil HN16
    go_enter Tryz.func35, Tryz.ntmps35
    go_upto_region 2 with fail
    have HO2 : Hid ((w.alloc (.cells #[] 9)).ownsRow w.heap.size 9 1 (.slice (some ⟨w.heap.size, 0, none⟩) 0 0) 0 []) := HO.out
    have HB2 := HB1
    clear HO HB1 hap HSt hH1
    generalize hW2 : w.alloc (.cells #[] 9) = W2 at HO2 HB2 ⊢
    clear hW2
    go_wp2_with (at_builtin; refine wpList_append_own _ rfl _ _ 37 rfl w.heap.size 9 i0 (.string ⟨#[]⟩) 1 16 Tryz.underlying37 hi hz0 hz1 hz2 rfl (by decide) _ _ _ rfl (HO2.out.alloc _) ⟨W2.heap.size, 0, none⟩ 1 1 [.string markS] rfl rfl ?d1 ?d2 ?d3 ?d4 ?d5 ?_)
    case d1 => exact cell_one_new _ _ _
    case d2 => intro q hq; simp at hq; subst hq; rfl
    case d3 => unfold maxLen; omega
    case d4 => omega
    case d5 => have := HB2.out.size; simp; omega
    intro v' w5 hown' hgrow _
    have HB5 := Lib.hid (below_append HO2.out HB2.out (Nat.le_refl _) hgrow)
    obtain ⟨g, cap, rfl, _, hlt⟩ := World.ownsRow.form hown' (by omega)
    have hcap : 0 + 1 ≤ cap := by
      rcases hown'.2 with ⟨h1, h2⟩ | ⟨g', cap', cur, h1, _, _, h3, _⟩
      · simp at h1
      · simp only [Value.slice.injEq] at h1; omega
    have hcapM : cap ≤ 9223372036854775807 := by
      rcases hown'.2 with ⟨h1, h2⟩ | ⟨g', cap', cur, h1, _, _, _, h3, _⟩
      · simp at h1
      · simp only [Value.slice.injEq] at h1; unfold maxLen at h3; omega
    have HO5 := Lib.hid hown'
    have hcl : (0 : Int) ≤ (cap : Int) := by omega
    have hc0 : ¬ cap = 0 := by omega
    clear hown' hgrow HO2 HB2
    go_wp2_with fail
    go_ret
    exact ⟨g, cap, rfl, HO5.out, HB5.out⟩
  | some ad =>
    clear hnil
    go_enter Tryz.func35, Tryz.ntmps35
    go_upto_region 2 with (at_builtin; refine wpList_append_own _ rfl _ _ 37 rfl w.heap.size 9 i0 (.string ⟨#[]⟩) 1 16 Tryz.underlying37 hi hz0 hz1 hz2 rfl (by decide) _ _ _ rfl HO.out ad l.length c (strV l) rfl (by rw [strV_len, Nat.mul_one]) ?c1 ?c2 ?c3 ?c4 hH1 ?_)
    case c1 => exact (HSt.out.alloc _).news
    case c2 => intro u hu; obtain ⟨s, _, rfl⟩ := List.mem_map.1 hu; rfl
    case c3 => unfold maxLen; omega
    case c4 => omega
    intro v2 W2 hown hgrow _
    have HB2 : Hid (Below w.heap.size w W2) := HB1.out.grown hgrow hH1 (fun k hk => (World.ownsRow.lt HO.out k hk).1)
    have HO2 := Lib.hid hown
    clear hown hgrow HO HB1 HSt hH1
    go_wp2_with (at_builtin; refine wpList_append_own _ rfl _ _ 37 rfl w.heap.size 9 i0 (.string ⟨#[]⟩) 1 16 Tryz.underlying37 hi hz0 hz1 hz2 rfl (by decide) _ _ _ rfl (HO2.out.alloc _) ⟨W2.heap.size, 0, none⟩ 1 1 [.string markS] rfl rfl ?c1 ?c2 ?c3 ?c4 ?c5 ?_)
    case c1 => exact cell_one_new _ _ _
    case c2 => intro q hq; simp at hq; subst hq; rfl
    case c3 => unfold maxLen; omega
    case c4 => omega
    case c5 => have := HB2.out.size; simp; omega
    intro v' w5 hown' hgrow _
    have HB5 := Lib.hid (below_append HO2.out HB2.out (Nat.le_refl _) hgrow)
    obtain ⟨g, cap, rfl, _, hlt⟩ := World.ownsRow.form hown' (by omega)
    have hcap : l.length + 1 ≤ cap := by
      rcases hown'.2 with ⟨h1, h2⟩ | ⟨g', cap', cur, h1, _, _, h3, _⟩
      · simp at h1
      · simp only [Value.slice.injEq] at h1; omega
    have hcapM : cap ≤ 9223372036854775807 := by
      rcases hown'.2 with ⟨h1, h2⟩ | ⟨g', cap', cur, h1, _, _, _, h3, _⟩
      · simp at h1
      · simp only [Value.slice.injEq] at h1; unfold maxLen at h3; omega
    have HO5 := Lib.hid hown'
    have hcl : (l.length : Int) ≤ (cap : Int) := by omega
    have hc0 : ¬ cap = 0 := by omega
    clear hown' hgrow HO2 HB2
    go_wp2_with fail
    go_ret
    exact ⟨g, cap, rfl, HO5.out, HB5.out⟩

theorem lent_strs {w : World} {H g cap : Nat} {l : List ByteArray} (h : w.ownsRow H 9 1 (.slice (some ⟨g, 0, none⟩) (l.length + 1) cap) (l.length + 1) (strV l ++ [.string markS])) : StrsAt w (some ⟨g, 0, none⟩) l := fun _ => by
  have hf := World.ownsRow.cellAt h
  refine ⟨_, rfl, ?_, fun i hi => ?_⟩
  · obtain ⟨g', cap', hv, _, hlt⟩ := World.ownsRow.form h (by omega)
    simp only [Value.slice.injEq, Option.some.injEq, Addr.mk.injEq] at hv
    obtain ⟨⟨rfl, -⟩, -⟩ := hv
    exact hlt
  · rw [addr_head, hf i (by omega), List.getElem?_append_left (by rw [strV_len]; exact hi)]
    exact strV_at hi

theorem lent_mark {w : World} {H g cap : Nat} {l : List ByteArray} (h : w.ownsRow H 9 1 (.slice (some ⟨g, 0, none⟩) (l.length + 1) cap) (l.length + 1) (strV l ++ [.string markS])) : w.cell? ⟨g, l.length, none⟩ = some (.string ⟨#[109, 97, 114, 107]⟩) := by
  rw [World.ownsRow.cellAt h l.length (by omega), List.getElem?_append_right (by rw [strV_len]; exact Nat.le_refl _), strV_len, Nat.sub_self]
  rfl

set_option maxRecDepth 20000 in
set_option maxHeartbeats 2000000 in
theorem kept_any (H g cap : Nat) (v : Value) (l : List ByteArray) (w : World) (h : TextsOf w v l) (ho : w.ownsRow H 9 1 (.slice (some ⟨g, 0, none⟩) (l.length + 1) cap) (l.length + 1) (strV l ++ [.string markS])) :
    Calls Tryz.prog 38 #[.slice (some ⟨g, 0, none⟩) l.length cap, v] w fun e w' => e = .returned (.bool true) ∧ ∃ n, w' = w.drewN n := by
  obtain ⟨A, c, rfl, hst, _, hn16, _⟩ := h
  have hsm := same_any (some ⟨g, 0, none⟩) A cap c l l w (lent_strs ho) hst (by omega)
  rw [show decide (l = l) = true by simp] at hsm
  have HSM := Lib.hid hsm
  have hmark := lent_mark ho
  have hcap : l.length + 1 ≤ cap := by
    rcases ho.2 with ⟨h1, h2⟩ | ⟨g', cap', cur, h1, _, _, h3, _⟩
    · simp at h1
    · simp only [Value.slice.injEq] at h1; omega
  have hcapM : cap ≤ 9223372036854775807 := by
    rcases ho.2 with ⟨h1, h2⟩ | ⟨g', cap', cur, h1, _, _, _, h3, _⟩
    · simp at h1
    · simp only [Value.slice.injEq] at h1; unfold maxLen at h3; omega
  have hcl : (l.length : Int) + 1 ≤ (cap : Int) := by omega
  have hc0 : ¬ cap = 0 := by omega
  have pl : (l.length : Int) < (l.length : Int) + 1 := by omega
  clear hsm hst ho
  go_enter Tryz.func38, Tryz.ntmps38
  go_wp2_with fail
  refine HSM.out.mono ?_
  rintro e w1 ⟨rfl, d, rfl⟩
  have hmark2 : (w.drewN d).cell? ⟨g, l.length, none⟩ = some (.string ⟨#[109, 97, 114, 107]⟩) := hmark
  clear hmark
  go_wp2_with fail
  go_ret
  exact ⟨rfl, d, rfl⟩

/-- a number from 0 to n - 1 -/
def amongV (x : Int) (n : Nat) : Nat := (x % (n : Int)).toNat

theorem amongV_lt (x : Int) (n : Nat) (h : 1 ≤ n) : amongV x n < n := by
  have h1 := Int.emod_nonneg x (show (n : Int) ≠ 0 by omega)
  have h2 := Int.emod_lt_of_pos x (show (0 : Int) < n by omega)
  unfold amongV
  omega

theorem amongV_emod (x : Int) (n : Nat) (h : 1 ≤ n) : ((amongV x n : Nat) : Int) = x % (n : Int) := by
  have h1 := Int.emod_nonneg x (show (n : Int) ≠ 0 by omega)
  unfold amongV
  omega

theorem among_eq (x : Int) (n : Nat) (h1 : 1 ≤ n) : (x.tmod (n : Int) + (n : Int)).tmod (n : Int) = ((amongV x n : Nat) : Int) ∧ -(n : Int) < x.tmod (n : Int) ∧ x.tmod (n : Int) < (n : Int) := by
  have a1 : x.tmod (n : Int) < (n : Int) := Int.tmod_lt_of_pos x (by omega)
  have a2 : -(n : Int) < x.tmod (n : Int) := by
    rcases Int.le_total 0 x with h | h
    · have := Int.tmod_nonneg (n : Int) h; omega
    · have := Int.tmod_lt_of_pos (-x) (show (0 : Int) < n by omega)
      rw [Int.neg_tmod] at this
      omega
  refine ⟨?_, a2, a1⟩
  rw [Int.tmod_eq_emod_of_nonneg (by omega), amongV_emod x n h1, Int.add_emod_right, Int.tmod_def, Int.sub_mul_emod_self_left]

set_option maxHeartbeats 1000000 in
theorem among_any (x : Int) (n : Nat) (w : World) (h1 : 1 ≤ n) (h2 : n ≤ 1000000) :
    Calls Tryz.prog 31 #[.int .i64 x, .int .i64 (n : Int)] w fun e w' => e = .returned (.int .i64 ((amongV x n : Nat) : Int)) ∧ w' = w := by
  obtain ⟨e1, e2, e3⟩ := among_eq x n h1
  have e4 : ((n : Int) == 0) = false := by simp; omega
  have e6 : wrap64 (x.tmod (n : Int) + (n : Int)) = x.tmod (n : Int) + (n : Int) := IntWalk.wrap64_in _ ⟨by omega, by omega⟩
  have E : Hid ((wrap64 (x.tmod (n : Int) + (n : Int))).tmod (n : Int) = ((amongV x n : Nat) : Int)) := by
    show _ = _
    rw [e6, e1]
  clear e1 e2 e3 e6
  go_enter Tryz.func31, Tryz.ntmps31
  go_wp2
  go_ret
  exact ⟨ret_int E.out, rfl⟩

def Cel (w : World) (g : Nat) (t : TypeId) (xs : List Value) : Prop := w.heap[g]? = some (.cells xs.toArray t (0, 0))

section
variable {w w' : World} {g g' i : Nat} {t : TypeId} {xs : List Value} {v : Value}
theorem Cel.lt (h : Cel w g t xs) : g < w.heap.size := (Array.getElem?_eq_some_iff.1 h).1
theorem Cel.cell (h : Cel w g t xs) (hv : xs[i]? = some v) : w.cell? ⟨g, i, none⟩ = some v := blk_cell h (by rw [List.getElem?_toArray]; exact hv)
theorem Cel.free (h : Cel w g t xs) : w.frozen? ⟨g, i, none⟩ = false := blk_free h i
theorem Cel.set (h : Cel w g t xs) : Cel (w.setCell ⟨g, i, none⟩ v) g t (xs.set i v) := by
  unfold Cel at *
  simp [World.setCell, Array.getElem?_modify, h]
theorem Cel.far (h : Cel w g t xs) (hn : g ≠ g') : Cel (w.setCell ⟨g', i, none⟩ v) g t xs := (Below.heap_setCell w ⟨g', i, none⟩ v g hn).trans h
theorem Cel.below (h : Cel w g t xs) (hb : Below w.heap.size w w') : Cel w' g t xs := (hb.block g h.lt).trans h
theorem Cel.drewN (h : Cel w g t xs) (n : Nat) : Cel (w.drewN n) g t xs := h
end

/-- the block stands whole; its mark lies behind its cells -/
def CelM (w : World) (g : Nat) (t : TypeId) (xs : List Value) : Prop := ∃ lo hi, xs.length ≤ lo ∧ w.heap[g]? = some (.cells xs.toArray t (lo, hi))

section
variable {w w' : World} {g i : Nat} {t : TypeId} {xs : List Value} {v : Value}
theorem CelM.lt (h : CelM w g t xs) : g < w.heap.size := by obtain ⟨_, _, _, h⟩ := h; exact (Array.getElem?_eq_some_iff.1 h).1
theorem CelM.cell (h : CelM w g t xs) (hv : xs[i]? = some v) : w.cell? ⟨g, i, none⟩ = some v := by
  obtain ⟨lo, hi, _, h⟩ := h
  rw [cell_of_row w g i _ t (lo, hi) h, List.getElem?_toArray]; exact hv
theorem CelM.free (h : CelM w g t xs) (hi : i < xs.length) : w.frozen? ⟨g, i, none⟩ = false := by
  obtain ⟨lo, hi', h1, h⟩ := h
  simp only [World.frozen?, h, Bool.and_eq_false_iff, decide_eq_false_iff_not]
  left; omega
theorem CelM.set (h : CelM w g t xs) : CelM (w.setCell ⟨g, i, none⟩ v) g t (xs.set i v) := by
  obtain ⟨lo, hi, h1, h⟩ := h
  refine ⟨lo, hi, by rw [List.length_set]; exact h1, ?_⟩
  rw [setCell_eq_setRow w g i _ t (lo, hi) v h, setRow_heap w g _ _ t _ h, List.setIfInBounds_toArray]
theorem CelM.below (h : CelM w g t xs) (hb : Below w.heap.size w w') : CelM w' g t xs := by
  have hl := h.lt
  obtain ⟨lo, hi, h1, h⟩ := h
  exact ⟨lo, hi, h1, (hb.block g hl).trans h⟩
end

/-- two slices share no block -/
def Unlike (u v : Value) : Prop := ∀ j, u.ownBlock = some j → v.ownBlock = some j → False

theorem Unlike.symm {u v : Value} (h : Unlike u v) : Unlike v u := fun j h1 h2 => h j h2 h1

theorem Unlike.ne {u v : Value} (h : Unlike u v) : u.ownBlock = none ∨ u.ownBlock ≠ v.ownBlock := by
  cases e : u.ownBlock with
  | none => exact .inl rfl
  | some j => exact .inr fun e2 => h j e e2.symm

theorem Unlike.next {u v v' : Value} {n m : Nat} (h : Unlike u v) (hu : ∀ j, u.ownBlock = some j → j < n) (hat : v'.ownBlock = v.ownBlock ∨ v'.ownBlock = some m) (hm : n ≤ m) : Unlike u v' := fun j h1 h2 => by
  rcases hat with e | e
  · exact h j h1 (by rw [← e]; exact h2)
  · rw [e] at h2
    have := hu j h1
    simp only [Option.some.injEq] at h2
    omega

def byteAt (s : ByteArray) (p : Nat) : UInt8 := s.data[p]?.getD 0

theorem byteAt_get (s : ByteArray) (p : Nat) (h : p < s.size) : s[p]'h = byteAt s p := by
  unfold byteAt
  have h' : p < s.data.size := h
  rw [Array.getElem?_eq_getElem h']; rfl

/-- a row of values of which the first j stand, behind them zeros -/
def preV (xs : List Value) (z : Value) (j : Nat) : List Value := xs.take j ++ List.replicate (xs.length - j) z

theorem preV_length (xs : List Value) (z : Value) (j : Nat) (h : j ≤ xs.length) : (preV xs z j).length = xs.length := by simp [preV]; omega

theorem preV_set (xs : List Value) (z v : Value) (j : Nat) (h : j < xs.length) (hv : xs[j]? = some v) : (preV xs z j).set j v = preV xs z (j + 1) := by
  have e : xs[j]'h = v := by rw [List.getElem?_eq_getElem h] at hv; exact Option.some.inj hv
  unfold preV
  rw [show xs.length - j = (xs.length - (j + 1)) + 1 from by omega, List.replicate_succ, List.take_succ_eq_append_getElem h, e]
  rw [List.set_append_right _ _ (by simp; omega)]
  simp only [List.length_take, Nat.min_eq_left (Nat.le_of_lt h), Nat.sub_self, List.set_cons_zero, List.append_assoc, List.cons_append, List.nil_append]

theorem preV_at (xs : List Value) (z : Value) (j i : Nat) (h : j ≤ xs.length) (hi : i < xs.length) : ∃ v, (preV xs z j)[i]? = some v :=
  ⟨_, List.getElem?_eq_getElem (by rw [preV_length _ _ _ h]; exact hi)⟩

theorem preV_end (xs : List Value) (z : Value) : preV xs z xs.length = xs := by
  unfold preV
  rw [List.take_length, Nat.sub_self, List.replicate_zero, List.append_nil]

theorem preV_zero (xs : List Value) (z : Value) (n : Nat) (h : xs.length = n) (hz : z.cells = #[z]) : (madeCells z.cells (n * 1)).toList = preV xs z 0 := by
  rw [Nat.mul_one, hz, toList_madeCells_one]
  simp [preV, h]

/-- a text as bytes with a mark behind -/
theorem bytesRow_list (a : ByteArray) (cap : Nat) : ∃ rest : List Value, bytesRow a cap = (Lib.byteCells a.data.toList ++ rest).toArray := by
  refine ⟨List.replicate (cap - a.size) (.int .u8 0), ?_⟩
  apply Array.ext'
  unfold bytesRow
  rw [Array.toList_append, Array.toList_map, Array.toList_replicate]
  rfl

theorem bytes_at (a : ByteArray) (p : Nat) (rest : List Value) (h : p < a.size) : (Lib.byteCells a.data.toList ++ rest)[p]? = some (.int .u8 ((byteAt a p).toNat : Int)) := by
  have h' : p < a.data.size := h
  rw [List.getElem?_append_left (by rw [Lib.byteCells_length, Array.length_toList]; exact h')]
  unfold Lib.byteCells byteAt
  rw [List.getElem?_map, Array.getElem?_toList, Array.getElem?_eq_getElem h']; rfl

/-- 'string(b[lo:hi])' of a row of bytes that is known whole -/
theorem bytes_string {w : World} {g : Nat} {L : List UInt8} (hg : w.heap[g]? = some (.cells (Lib.byteCells L).toArray 5 (0, 0))) (lo n cap : Nat) (h : lo + n ≤ L.length) :
    (convert 82 9 (.slice (some ⟨g, lo, none⟩) n cap)).run Tryz.prog w = .ok (.string ⟨((L.drop lo).take n).toArray⟩) w := by
  have hlen : ((L.drop lo).take n).length = n := by rw [List.length_take, List.length_drop]; omega
  have := run_convert_bytes_back (P := Tryz.prog) w 82 9 5 ⟨g, lo, none⟩ cap ((L.drop lo).take n) Tryz.underlying82 Tryz.underlying5 Tryz.underlying9 (fun j hj => by
    have hj' : j < n := by rw [hlen] at hj; exact hj
    have hadd : (⟨g, lo, none⟩ : Addr).add j = ⟨g, lo + j, none⟩ := by unfold Addr.add; split <;> simp_all
    rw [hadd]
    refine blk_cell hg ?_
    rw [List.getElem?_toArray]
    unfold Lib.byteCells
    rw [List.getElem?_map, List.getElem?_eq_getElem (by omega), Option.map_some, List.getElem_take, List.getElem_drop])
  rwa [hlen] at this

theorem owns_lower {w : World} {H H' n : Nat} {v : Value} {e : TypeId} {xs : List Value} (h : w.ownsRow H e 1 v n xs) (hH : H' ≤ H) : w.ownsRow H' e 1 v n xs := by
  refine ⟨h.1, ?_⟩
  rcases h.2 with h' | ⟨g, cap, cur, hv, h1, h2, h3, h4, h5, h6⟩
  · exact .inl h'
  · exact .inr ⟨g, cap, cur, hv, Nat.le_trans hH h1, h2, h3, h4, h5, h6⟩

end Bk
end Go.Proofs.YtjehjbkcdpidbaaGreat

/- Check sums in plain numbers: one bit at a time; what is turned within 32 bits is seen; no condition. -/
namespace Go.Proofs.YtjehjbkcdpidbaaGreat
namespace Su

/-- one bit -/
def T (y : Nat) : Nat := if y % 2 = 1 then (y / 2) ^^^ 3988292384 else y / 2

def Tn : Nat → Nat → Nat
  | 0, y => y
  | n + 1, y => Tn n (T y)

theorem half_xor (a b : Nat) : (a ^^^ b) / 2 = (a / 2) ^^^ (b / 2) := by
  have h := Nat.shiftRight_xor_distrib (a := a) (b := b) (i := 1)
  simpa [Nat.shiftRight_succ] using h

theorem mod_xor (a b : Nat) : (a ^^^ b) % 2 = (a % 2 + b % 2) % 2 := by
  have h := Nat.xor_mod_two_pow (a := a) (b := b) (n := 1)
  rw [show 2 ^ 1 = 2 from rfl] at h
  rw [h]
  rcases Nat.mod_two_eq_zero_or_one a with ha | ha <;> rcases Nat.mod_two_eq_zero_or_one b with hb | hb <;> rw [ha, hb] <;> rfl

theorem T_xor (a b : Nat) : T (a ^^^ b) = T a ^^^ T b := by
  unfold T
  rw [mod_xor, half_xor]
  rcases Nat.mod_two_eq_zero_or_one a with ha | ha <;> rcases Nat.mod_two_eq_zero_or_one b with hb | hb <;> rw [ha, hb]
  · simp
  · simp [Nat.xor_assoc]
  · simp only [Nat.add_zero, Nat.reduceMod, if_true, Nat.zero_ne_one, if_false]
    rw [Nat.xor_assoc, Nat.xor_assoc, Nat.xor_comm (b / 2)]
  · simp only [Nat.reduceAdd, Nat.reduceMod, Nat.zero_ne_one, if_false, if_true]
    rw [Nat.xor_assoc, Nat.xor_comm (b / 2), ← Nat.xor_assoc 3988292384, Nat.xor_self, Nat.zero_xor]

theorem T_double (y : Nat) : T (2 * y) = y := by
  unfold T
  rw [if_neg (by omega)]
  omega

theorem T_lt {y : Nat} (h : y < 4294967296) : T y < 4294967296 := by
  unfold T
  split
  · exact Nat.xor_lt_two_pow (n := 32) (by omega) (by omega)
  · omega

theorem T_zero {y : Nat} (h : y < 4294967296) (h0 : T y = 0) : y = 0 := by
  unfold T at h0
  split at h0
  · have e : y / 2 = 3988292384 := by
      have h2 : ((y / 2) ^^^ 3988292384) ^^^ 3988292384 = 0 ^^^ 3988292384 := by rw [h0]
      rw [Nat.xor_assoc, Nat.xor_self, Nat.xor_zero, Nat.zero_xor] at h2
      exact h2
    omega
  · omega

theorem Tn_add : ∀ (a b y : Nat), Tn (a + b) y = Tn b (Tn a y)
  | 0, b, y => by rw [Nat.zero_add]; rfl
  | a + 1, b, y => by
    rw [show a + 1 + b = (a + b) + 1 by omega]
    exact Tn_add a b (T y)

theorem Tn_xor : ∀ (n a b : Nat), Tn n (a ^^^ b) = Tn n a ^^^ Tn n b
  | 0, _, _ => rfl
  | n + 1, a, b => by
    show Tn n (T (a ^^^ b)) = Tn n (T a) ^^^ Tn n (T b)
    rw [T_xor, Tn_xor n]

theorem Tn_lt : ∀ (n : Nat) {y : Nat}, y < 4294967296 → Tn n y < 4294967296
  | 0, _, h => h
  | n + 1, _, h => Tn_lt n (T_lt h)

theorem Tn_zero : ∀ (n : Nat) {y : Nat}, y < 4294967296 → Tn n y = 0 → y = 0
  | 0, _, _, h => h
  | n + 1, _, h, h0 => T_zero h (Tn_zero n (T_lt h) h0)

theorem Tn_shift : ∀ (n y : Nat), Tn n (y * 2 ^ n) = y
  | 0, y => by rw [Nat.pow_zero, Nat.mul_one]; rfl
  | n + 1, y => by
    show Tn n (T (y * 2 ^ (n + 1))) = y
    rw [show y * 2 ^ (n + 1) = 2 * (y * 2 ^ n) by rw [Nat.pow_succ, Nat.mul_comm (2 ^ n) 2, ← Nat.mul_assoc, ← Nat.mul_assoc, Nat.mul_comm y 2], T_double, Tn_shift n]

/-- bits within 32 that are not all 0 leave their trace -/
theorem burst {nb first q : Nat} (hq : q < 4294967296) (h0 : Tn nb (q * 2 ^ first) = 0) : q = 0 := by
  rcases Nat.le_total first nb with h | h
  · obtain ⟨d, rfl⟩ : ∃ d, nb = first + d := ⟨nb - first, by omega⟩
    rw [Tn_add, Tn_shift] at h0
    exact Tn_zero d hq h0
  · obtain ⟨d, rfl⟩ : ∃ d, first = d + nb := ⟨first - nb, by omega⟩
    rw [Nat.pow_add, ← Nat.mul_assoc, Tn_shift] at h0
    rcases Nat.mul_eq_zero.1 h0 with h1 | h1
    · exact h1
    · exact absurd h1 (by have := Nat.pow_pos (n := d) (show 0 < 2 by omega); omega)

/-! ### texts -/

def byteStep (x : Nat) (b : UInt8) : Nat := Tn 8 (x ^^^ b.toNat)

def reg (x : Nat) (L : List UInt8) : Nat := L.foldl byteStep x

/-- the sum of a text -/
def crc (L : List UInt8) : Nat := reg 4294967295 L ^^^ 4294967295

/-- the bytes as one number, the lowest first -/
def num : List UInt8 → Nat
  | [] => 0
  | b :: r => b.toNat + 256 * num r

theorem byte_add (b : UInt8) (m : Nat) : b.toNat + 256 * m = b.toNat ^^^ (256 * m) := by
  have hb : b.toNat < 2 ^ 8 := b.toNat_lt
  have h := Nat.two_pow_add_eq_or_of_lt hb m
  rw [show 2 ^ 8 = 256 from rfl] at h
  rw [Nat.add_comm, h]
  apply Nat.eq_of_testBit_eq
  intro i
  rw [Nat.testBit_or, Nat.testBit_xor]
  by_cases hi : i < 8
  · have e : (256 * m).testBit i = false := by
      rw [show 256 * m = 2 ^ 8 * m from rfl, Nat.testBit_two_pow_mul]
      simp; omega
    rw [e]; simp
  · have e : b.toNat.testBit i = false := Nat.testBit_lt_two_pow (Nat.lt_of_lt_of_le hb (Nat.pow_le_pow_right (by omega) (by omega)))
    rw [e]; simp

theorem reg_num : ∀ (L : List UInt8) (x : Nat), reg x L = Tn (8 * L.length) (num L ^^^ x)
  | [], x => by
    show x = Tn 0 (0 ^^^ x)
    rw [Nat.zero_xor]; rfl
  | b :: r, x => by
    show reg (byteStep x b) r = _
    rw [reg_num r, show 8 * (b :: r).length = 8 + 8 * r.length by rw [List.length_cons]; omega, Tn_add]
    congr 1
    show _ = Tn 8 ((b.toNat + 256 * num r) ^^^ x)
    rw [byte_add, Nat.xor_comm b.toNat, Nat.xor_assoc, Tn_xor, show 256 * num r = num r * 2 ^ 8 by rw [Nat.mul_comm], Tn_shift, Nat.xor_comm b.toNat x]
    rfl

theorem reg_append (x : Nat) (A B : List UInt8) : reg x (A ++ B) = reg (reg x A) B := List.foldl_append ..

theorem reg_lt {x : Nat} (hx : x < 4294967296) (L : List UInt8) : reg x L < 4294967296 := by
  induction L generalizing x with
  | nil => exact hx
  | cons b r ih =>
    refine ih (Tn_lt 8 (Nat.xor_lt_two_pow (n := 32) hx ?_))
    have := b.toNat_lt
    omega

theorem crc_lt (L : List UInt8) : crc L < 4294967296 := Nat.xor_lt_two_pow (n := 32) (reg_lt (by omega) L) (by omega)

/-- a number's bytes, the lowest first -/
def le : Nat → Nat → List UInt8
  | 0, _ => []
  | k + 1, n => UInt8.ofNat (n % 256) :: le k (n / 256)

theorem le_length : ∀ (k n : Nat), (le k n).length = k
  | 0, _ => rfl
  | k + 1, n => by unfold le; rw [List.length_cons, le_length k]

theorem num_le : ∀ (k n : Nat), n < 256 ^ k → num (le k n) = n
  | 0, n, h => by simp at h; subst h; rfl
  | k + 1, n, h => by
    unfold le num
    rw [num_le k (n / 256) (by rw [Nat.pow_succ] at h; exact Nat.div_lt_of_lt_mul (by rw [Nat.mul_comm]; exact h)), UInt8.toNat_ofNat_of_lt' (by show n % 256 < 256; omega)]
    omega

theorem num_append : ∀ (A B : List UInt8), num (A ++ B) = num A + 256 ^ A.length * num B
  | [], B => by simp [num]
  | a :: A, B => by
    show a.toNat + 256 * num (A ++ B) = a.toNat + 256 * num A + _
    rw [num_append A B, List.length_cons, Nat.pow_succ, Nat.mul_add, Nat.add_assoc, ← Nat.mul_assoc, Nat.mul_comm 256 (256 ^ A.length)]

theorem num_lt : ∀ (A : List UInt8), num A < 256 ^ A.length
  | [] => by simp [num]
  | a :: A => by
    have h := num_lt A
    have := a.toNat_lt
    unfold num
    rw [List.length_cons, Nat.pow_succ]
    omega

theorem add_shift_xor {a n b : Nat} (h : a < 2 ^ n) : a + 2 ^ n * b = a ^^^ (2 ^ n * b) := by
  have h1 := Nat.two_pow_add_eq_or_of_lt h b
  rw [Nat.add_comm, h1]
  apply Nat.eq_of_testBit_eq
  intro i
  rw [Nat.testBit_or, Nat.testBit_xor]
  by_cases hi : i < n
  · have e : (2 ^ n * b).testBit i = false := by rw [Nat.testBit_two_pow_mul]; simp; omega
    rw [e]; simp
  · have e : a.testBit i = false := Nat.testBit_lt_two_pow (Nat.lt_of_lt_of_le h (Nat.pow_le_pow_right (by omega) (by omega)))
    rw [e]; simp

theorem pow256 (n : Nat) : 256 ^ n = 2 ^ (8 * n) := by rw [Nat.pow_mul]

/-- a text with its sum behind it: what is left in the register -/
theorem whole_reg (A B : List UInt8) (h : num B = crc A) : Tn (8 * A.length) (num (A ++ B) ^^^ 4294967295) = 4294967295 := by
  have hA : num A < 2 ^ (8 * A.length) := by rw [← pow256]; exact num_lt A
  rw [num_append, pow256, add_shift_xor hA, Nat.xor_assoc, Nat.xor_comm (2 ^ (8 * A.length) * num B), ← Nat.xor_assoc, Tn_xor, ← reg_num, Nat.mul_comm (2 ^ (8 * A.length)), Tn_shift, h]
  unfold crc
  rw [← Nat.xor_assoc, Nat.xor_self, Nat.zero_xor]

/-- two texts with their sums that are unlike in bits within 32 are alike -/
theorem turned_seen {A B A' B' : List UInt8} {q first : Nat} (hl : A.length = A'.length) (hB : num B = crc A) (hB' : num B' = crc A') (hq : q < 4294967296) (he : num (A ++ B) ^^^ num (A' ++ B') = q * 2 ^ first) : q = 0 := by
  refine burst (nb := 8 * A.length) (first := first) hq ?_
  have h1 := whole_reg A B hB
  have h2 := whole_reg A' B' hB'
  rw [← hl] at h2
  have e : num (A ++ B) ^^^ num (A' ++ B') = (num (A ++ B) ^^^ 4294967295) ^^^ (num (A' ++ B') ^^^ 4294967295) := by
    rw [Nat.xor_assoc, Nat.xor_comm 4294967295, Nat.xor_assoc, Nat.xor_self, Nat.xor_zero]
  rw [← he, e, Tn_xor, h1, h2, Nat.xor_self]

theorem num_inj : ∀ {A B : List UInt8}, A.length = B.length → num A = num B → A = B
  | [], [], _, _ => rfl
  | [], _ :: _, h, _ => by simp at h
  | _ :: _, [], h, _ => by simp at h
  | a :: A, b :: B, hl, h => by
    unfold num at h
    have := a.toNat_lt
    have := b.toNat_lt
    have e1 : a.toNat = b.toNat := by omega
    have e2 : num A = num B := by omega
    rw [num_inj (by simpa using hl) e2, UInt8.toNat.inj e1]

end Su
end Go.Proofs.YtjehjbkcdpidbaaGreat

/- What the document's own sum, frame and search answer; contracts; no condition but the range. -/
namespace Go.Proofs.YtjehjbkcdpidbaaGreat
namespace Su
open Go.RowKit Bk

theorem T_odd {x : Nat} (h : x % 2 = 1) (hx : x < 4294967296) : bits .xor .i64 ((x : Int) / 2) 3988292384 = ((T x : Nat) : Int) := by
  have h2 := i64_xor_nat (x / 2) 3988292384 (by omega) (by omega)
  unfold T
  rw [if_pos h, ← h2, Int.natCast_ediv]
  rfl

theorem T_even {x : Nat} (h : ¬ x % 2 = 1) : ((x : Int) / 2) = ((T x : Nat) : Int) := by
  unfold T
  rw [if_neg h, Int.natCast_ediv]
  rfl

theorem Tn_succ' (n y : Nat) : Tn (n + 1) y = T (Tn n y) := by rw [Tn_add]; rfl

set_option maxRecDepth 20000 in
set_option maxHeartbeats 2000000 in
theorem rsum_any (s : ByteArray) (w : World) (hs : s.size ≤ 9223372036854775807) :
    Calls Tryz.prog 112 #[.string s] w fun e w' => e = .returned (.int .i64 ((crc s.data.toList : Nat) : Int)) ∧ w' = w := by
  have hb : (s.size : Int) ≤ 9223372036854775807 := by omega
  go_enter Tryz.func112, Tryz.ntmps112
  go_wp2_with fail
  go_loopw [3, 4] (fun x i wr => ∃ j : Nat, j ≤ s.size ∧ i = .int .i64 (j : Int) ∧ x = .int .i64 ((reg 4294967295 (s.data.toList.take j) : Nat) : Int) ∧ wr = w) (fun _ i _ => s.size - (intOf i).toNat)
  case atStart => exact ⟨0, by omega, rfl, rfl, rfl⟩
  case round =>
    obtain ⟨j, hj, rfl, rfl, rfl⟩ := hrel
    by_cases hlt : j < s.size
    · have pj : (j : Int) < (s.size : Int) := by omega
      have hlen : j < s.data.toList.length := by rw [Array.length_toList]; exact hlt
      have hstep : reg 4294967295 (s.data.toList.take (j + 1)) = Tn 8 (reg 4294967295 (s.data.toList.take j) ^^^ (s[j]'hlt).toNat) := by
        rw [List.take_add_one, List.getElem?_eq_getElem hlen, reg_append, Array.getElem_toList]; rfl
      have hr := reg_lt (x := 4294967295) (by omega) (s.data.toList.take j)
      have HS := Lib.hid hstep
      have hb8 : (s[j]'hlt).toNat < 256 := (s[j]'hlt).toNat_lt
      generalize hbv : (s[j]'hlt).toNat = b at hb8
      have hix : ∀ W, (Instr.index 9 (.string s) (.int .i64 (j : Int))).run Tryz.prog W = .ok (.int .u8 (b : Int)) W := fun W => by
        rw [run_index_string W 9 s .i64 _ Tryz.underlying9, dif_pos (by omega)]
        simp only [Int.toNat_natCast, hbv]
      rw [hbv] at HS
      generalize reg 4294967295 (s.data.toList.take j) = x at hr HS ⊢
      have hx := i64_xor_nat x b (by omega) (by omega)
      have hx2 : x ^^^ b < 4294967296 := Nat.xor_lt_two_pow (n := 32) hr (by omega)
      generalize hy : x ^^^ b = y at hx hx2
      rw [hy] at HS
      clear hstep hbv hy hlen
      go_wp2_with fail
      obtain ⟨wo, rfl⟩ : ∃ wo : World, wo = wr := ⟨_, rfl⟩
      go_loopw [3, 5] (fun x i wr => ∃ k : Nat, k ≤ 8 ∧ i = .int .i64 (k : Int) ∧ x = .int .i64 ((Tn k y : Nat) : Int) ∧ wr = wo) (fun _ i _ => 8 - (intOf i).toNat)
      case atStart => exact ⟨0, by omega, rfl, rfl, rfl⟩
      case round =>
        obtain ⟨k, hk, rfl, rfl, rfl⟩ := hrel
        by_cases hk8 : k < 8
        · have pk : (k : Int) < 8 := by omega
          have hz := Tn_lt k hx2
          have hs2 := Tn_succ' k y
          generalize Tn k y = z at hz hs2 ⊢
          by_cases hodd : z % 2 = 1
          · have h1 := T_odd hodd hz
            have hm : ((z : Int).tmod 2 == 1) = true := by rw [Int.tmod_eq_emod_of_nonneg (by omega)]; simp; omega
            rw [← hs2] at h1
            have hd : (z : Int).tdiv 2 = (z : Int) / 2 := Int.tdiv_eq_ediv_of_nonneg (by omega)
            go_wp2_with fail
            go_roundw
            case rel => exact ⟨k + 1, by omega, by go_num, by rw [hs2], trivial⟩
            case measure => simp [intOf]; omega
          · have h1 := T_even hodd
            have hm : ((z : Int).tmod 2 == 1) = false := by rw [Int.tmod_eq_emod_of_nonneg (by omega)]; simp; omega
            rw [← hs2] at h1
            have hd : (z : Int).tdiv 2 = (z : Int) / 2 := Int.tdiv_eq_ediv_of_nonneg (by omega)
            go_wp2_with fail
            go_roundw
            case rel => exact ⟨k + 1, by omega, by go_num, by rw [hs2], trivial⟩
            case measure => simp [intOf]; omega
        · obtain rfl : k = 8 := by omega
          have HSo := HS.out
          go_wp2_with fail
          go_roundw
          case rel => exact ⟨j + 1, by omega, by go_num, by rw [HSo], trivial⟩
          case measure => simp [intOf]; omega
    · obtain rfl : j = s.size := by omega
      have hr := reg_lt (x := 4294967295) (by omega) (s.data.toList.take s.size)
      have hx := i64_xor_nat (reg 4294967295 (s.data.toList.take s.size)) 4294967295 (by omega) (by omega)
      have hc : reg 4294967295 (s.data.toList.take s.size) ^^^ 4294967295 = crc s.data.toList := by
        rw [List.take_of_length_le (by rw [Array.length_toList]; exact Nat.le_refl _)]; rfl
      rw [hc] at hx
      clear hc
      generalize reg 4294967295 (s.data.toList.take s.size) = x at hr hx ⊢
      have hx' : bits .xor .i64 (x : Int) 4294967295 = ((crc s.data.toList : Nat) : Int) := hx
      clear hx
      go_wp2_with fail
      go_ret
      exact ⟨rfl, rfl⟩

/-- pieces as one text -/
def catL (l : List ByteArray) : List UInt8 := l.flatMap fun s => s.data.toList

theorem catL_take (l : List ByteArray) (j : Nat) (h : j < l.length) : catL (l.take (j + 1)) = catL (l.take j) ++ l[j].data.toList := by
  unfold catL
  rw [List.take_add_one, List.getElem?_eq_getElem h, List.flatMap_append]
  simp

theorem catL_le (l : List ByteArray) (j : Nat) : (catL (l.take j)).length ≤ (catL l).length := by
  have e : catL l = catL (l.take j) ++ catL (l.drop j) := by unfold catL; rw [← List.flatMap_append, List.take_append_drop]
  rw [e, List.length_append]
  omega

theorem cat_size (L : List UInt8) : (⟨L.toArray⟩ : ByteArray).size = L.length := by
  show L.toArray.size = _
  simp

theorem le_succ' : ∀ (i n : Nat), le (i + 1) n = le i n ++ [UInt8.ofNat (n / 256 ^ i % 256)]
  | 0, n => by simp [le]
  | i + 1, n => by
    show UInt8.ofNat (n % 256) :: le (i + 1) (n / 256) = (UInt8.ofNat (n % 256) :: le i (n / 256)) ++ _
    rw [le_succ' i (n / 256), Nat.div_div_eq_div_mul, List.cons_append, Nat.pow_succ, Nat.mul_comm 256]

set_option maxRecDepth 20000 in
set_option maxHeartbeats 1000000 in
theorem rbytes_any (n k : Nat) (w : World) (_hn : n ≤ 9223372036854775807) (h1 : 1 ≤ k) (hk : k ≤ 7) :
    Calls Tryz.prog 111 #[.int .i64 (n : Int), .int .i64 (k : Int)] w fun e w' => e = .returned (.string ⟨(le k n).toArray⟩) ∧ Below w.heap.size w w' := by
  obtain ⟨i1, hi', hz0', hz1', hz2'⟩ := info_parts Tryz.infoU8
  go_enter Tryz.func111, Tryz.ntmps111
  go_wp2_with fail
  go_loopw [5, 6] (fun u c wr => ∃ i : Nat, i ≤ k ∧ c = .int .i64 (i : Int) ∧ Hid (wr.ownsRow w.heap.size 5 1 u i (Lib.byteCells (le i n))) ∧ Hid (Below w.heap.size w wr)) (fun _ c _ => k - (intOf c).toNat)
  case atStart => exact ⟨0, by omega, rfl, World.ownsRow_nil _ _ _ _, Below.refl _ _⟩
  case round =>
    obtain ⟨i, hik, rfl, hown, hbel⟩ := hrel
    by_cases hlt : i < k
    · have pi : (i : Int) < (k : Int) := by omega
      have hsh : (n : Int) / 2 ^ (8 * (i : Int)).toNat = ((n / 256 ^ i : Nat) : Int) := by
        rw [show (8 * (i : Int)).toNat = 8 * i by omega, pow256, Int.natCast_ediv, Int.natCast_pow]; rfl
      have hcv : IntKind.u8.wrap ((n / 256 ^ i : Nat) : Int) = ((n / 256 ^ i : Nat) : Int) % 256 := by
        simp [IntKind.wrap, IntKind.bits, IntKind.signed]
      have hst := le_succ' i n
      have hbc : Lib.byteCells (le i n) ++ [.int .u8 (((n / 256 ^ i : Nat) : Int) % 256)] = Lib.byteCells (le (i + 1) n) := by
        rw [hst]
        unfold Lib.byteCells
        rw [List.map_append, List.map_cons, UInt8.toNat_ofNat_of_lt' (by show n / 256 ^ i % 256 < 256; omega)]; rfl
      have hmod : n / 256 ^ i % 256 < 256 := by omega
      generalize n / 256 ^ i = q at hsh hcv hbc hmod
      have HBC := Lib.hid hbc
      clear hst hbc
      go_wp2_with (at_builtin; refine wpList_append_own _ rfl _ _ 82 rfl w.heap.size 5 i1 (.int .u8 0) 1 1 Tryz.underlying82 hi' hz0' hz1' hz2' rfl (by decide) _ _ _ rfl (hown.out.alloc _) ⟨wr.heap.size, 0, none⟩ 1 1 [.int .u8 ((q : Int) % 256)] rfl rfl ?c1 ?c2 ?c3 ?c4 ?c5 ?_)
      case c1 => exact cell_one_new _ _ _
      case c2 => intro u hu; simp at hu; subst hu; rfl
      case c3 => unfold maxLen; omega
      case c4 => omega
      case c5 => have := hbel.out.size; simp; omega
      intro v' w5 hown' hgrow _
      have HB5 := Lib.hid (below_append hown.out hbel.out (Nat.le_refl _) hgrow)
      rw [HBC.out] at hown'
      have HO5 := Lib.hid hown'
      clear hown' hgrow
      go_wp2_with fail
      go_roundw
      case rel => exact ⟨i + 1, by omega, by go_num, HO5.out, HB5.out⟩
      case measure => simp [intOf]; omega
    · obtain rfl : i = k := by omega
      have hlen : (Lib.byteCells (le i n)).length = i := by rw [Lib.byteCells_length, le_length]
      obtain ⟨g, cap, rfl, _, _⟩ := World.ownsRow.form hown.out h1
      · have hcv := own_bytes hown.out (le_length i n).symm 0 i cap (by rw [le_length]; omega)
        rw [List.drop_zero, List.take_of_length_le (by rw [le_length]; exact Nat.le_refl _)] at hcv
        go_wp2_with fail
        go_ret
        exact ⟨rfl, hbel.out⟩

end Su
end Go.Proofs.YtjehjbkcdpidbaaGreat
