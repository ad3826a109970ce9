/- The landed device's cache: a map of numbers by arrays of sixty-four bytes, said as a list of texts; no condition but the range. -/
import Derived.Test.YtecgimnmccmpjaaScSec
import Derived.Lib.SlKeysI
import Derived.Maps.OwnOps
import Derived.Maps.OwnSet
import Derived.Maps.Views
import Derived.Maps.Range
import Derived.WalkArith
namespace Go.Proofs.Ytecgimnmccmpjaa
namespace Sc
open Go.RowKit Bk

open Classical in
/-- what an array of bytes is as an element of a map -/
noncomputable def rdSec (v : Value) : Option (DataW Unit × List MemPlace) :=
  if h : ∃ s : ByteArray, s.size = 64 ∧ v = secV s then some (.lit (.string (Classical.choose h).data.toList), []) else none

def strD (s : ByteArray) : DataW Unit := .lit (.string s.data.toList)

theorem strD_inj {s t : ByteArray} (h : strD s = strD t) : s = t := by
  unfold strD at h
  simp only [DataW.lit.injEq, Lit.string.injEq] at h
  cases s; cases t
  congr 1
  exact Array.toList_inj.1 h

theorem rdSec_mk {s : ByteArray} (h : s.size = 64) : rdSec (secV s) = some (strD s, []) := by
  have hx : ∃ t : ByteArray, t.size = 64 ∧ secV s = secV t := ⟨s, h, rfl⟩
  unfold rdSec
  rw [dif_pos hx]
  have e := secV_inj (Classical.choose_spec hx).2
  rw [← e]; rfl

theorem rdSec_inv {v : Value} {z : DataW Unit × List MemPlace} (h : rdSec v = some z) : ∃ s : ByteArray, s.size = 64 ∧ v = secV s ∧ z = (strD s, []) := by
  have h0 := h
  unfold rdSec at h
  split at h
  next hx =>
    obtain ⟨s, hs, rfl⟩ := hx
    rw [rdSec_mk hs] at h0
    exact ⟨s, hs, rfl, (Option.some.inj h0).symm⟩
  · cases h

/-- what waits for a number -/
def slot (new : List ByteArray) (x : Int) : Option ByteArray :=
  if 0 ≤ x ∧ x < (new.length : Int) ∧ new.getD x.toNat nil0 ≠ nil0 then some (new.getD x.toNat nil0) else none

theorem slot_nat {new : List ByteArray} {i : Nat} (h : i < new.length) : slot new (i : Int) = if new.getD i nil0 = nil0 then none else some (new.getD i nil0) := by
  unfold slot
  rw [Int.toNat_natCast]
  by_cases e : new.getD i nil0 = nil0
  · rw [if_neg (fun hc => hc.2.2 e), if_pos e]
  · rw [if_pos ⟨by omega, by omega, e⟩, if_neg e]

theorem slot_some {new : List ByteArray} {x : Int} (h : (slot new x).isSome = true) : ∃ i : Nat, x = (i : Int) ∧ i < new.length ∧ new.getD i nil0 ≠ nil0 := by
  unfold slot at h
  split at h
  next hc =>
    obtain ⟨h0, h1, h2⟩ := hc
    exact ⟨x.toNat, by omega, by omega, h2⟩
  · cases h

theorem slot_set {new : List ByteArray} {i : Nat} (h : i < new.length) {t : ByteArray} (ht : t ≠ nil0) (x : Int) : slot (new.set i t) x = if x = (i : Int) then some t else slot new x := by
  by_cases e : x = (i : Int)
  · subst e
    rw [if_pos rfl, slot_nat (by simpa using h)]
    have : (new.set i t).getD i nil0 = t := by rw [List.getD_eq_getElem?_getD, List.getElem?_set_self h]; rfl
    rw [this, if_neg ht]
  · rw [if_neg e]
    unfold slot
    rw [List.length_set]
    by_cases hx : 0 ≤ x ∧ x < (new.length : Int)
    · have : (new.set i t).getD x.toNat nil0 = new.getD x.toNat nil0 := by
        rw [List.getD_eq_getElem?_getD, List.getD_eq_getElem?_getD, List.getElem?_set_ne (by omega)]
      rw [this]
    · rw [if_neg (fun hc => hx ⟨hc.1, hc.2.1⟩), if_neg (fun hc => hx ⟨hc.1, hc.2.1⟩)]

theorem slot_none (n : Nat) (x : Int) : slot (List.replicate n nil0) x = none := by
  unfold slot
  rw [if_neg]
  rintro ⟨h0, h1, h2⟩
  rw [List.length_replicate] at h1
  rw [List.getD_eq_getElem?_getD, List.getElem?_replicate, if_pos (by omega)] at h2
  exact h2 rfl

/-- the numbers for which something waits, rising -/
def dirtyK (new : List ByteArray) (n : Nat) : List Int := ((List.range n).filter fun i => decide (new.getD i nil0 ≠ nil0)).map Int.ofNat

theorem dirtyK_nodup (new : List ByteArray) (n : Nat) : (dirtyK new n).Nodup := by
  unfold dirtyK
  refine List.pairwise_map.2 ((List.nodup_range.filter _).imp fun {a b} hne e => hne (Int.ofNat.inj e))

theorem dirtyK_mem {new : List ByteArray} {x : Int} : x ∈ dirtyK new new.length ↔ (slot new x).isSome = true := by
  unfold dirtyK
  rw [List.mem_map]
  constructor
  · rintro ⟨i, hi, rfl⟩
    rw [List.mem_filter, List.mem_range] at hi
    have := hi.2
    simp only [ne_eq, decide_not, Bool.not_eq_eq_eq_not, Bool.not_true, decide_eq_false_iff_not] at this
    show (slot new (i : Int)).isSome = true
    rw [slot_nat hi.1, if_neg this]; rfl
  · intro h
    obtain ⟨i, rfl, h1, h2⟩ := slot_some h
    exact ⟨i, by rw [List.mem_filter, List.mem_range]; exact ⟨h1, by simpa using h2⟩, rfl⟩

theorem dirtyK_succ (new : List ByteArray) (n : Nat) : dirtyK new (n + 1) = dirtyK new n ++ if new.getD n nil0 = nil0 then [] else [(n : Int)] := by
  unfold dirtyK
  rw [List.range_succ, List.filter_append, List.map_append]
  congr 1
  by_cases h : new.getD n nil0 = nil0
  · rw [if_pos h, List.filter_cons_of_neg (by rw [decide_eq_true_eq]; exact fun hc => hc h)]; rfl
  · rw [if_neg h, List.filter_cons_of_pos (by rw [decide_eq_true_eq]; exact h)]; rfl

theorem dirtyK_cnt {new : List ByteArray} : ∀ {n : Nat}, n ≤ new.length → (dirtyK new n).length = cnt new n
  | 0, _ => by simp [dirtyK, cnt]
  | n + 1, h => by
    rw [dirtyK_succ, List.length_append, dirtyK_cnt (n := n) (by omega), cnt_succ (show n < new.length by omega), getD_at (show n < new.length by omega)]
    by_cases e : new[n] = nil0
    · rw [if_pos e, if_pos e]; rfl
    · rw [if_neg e, if_neg e]; rfl

/-- the j-th of them -/
theorem dirtyK_at {new : List ByteArray} : ∀ {n : Nat}, n ≤ new.length → ∀ {j : Nat} {x : Int}, (dirtyK new n)[j]? = some x → ∃ i : Nat, x = (i : Int) ∧ i < n ∧ new.getD i nil0 ≠ nil0 ∧ cnt new i = j
  | 0, _, j, x, h => by simp [dirtyK] at h
  | n + 1, hn, j, x, h => by
    rw [dirtyK_succ] at h
    by_cases hj : j < (dirtyK new n).length
    · rw [List.getElem?_append_left hj] at h
      obtain ⟨i, h1, h2, h3⟩ := dirtyK_at (n := n) (by omega) h
      exact ⟨i, h1, by omega, h3⟩
    · rw [List.getElem?_append_right (by omega)] at h
      by_cases e : new.getD n nil0 = nil0
      · rw [if_pos e] at h; simp at h
      · rw [if_neg e] at h
        have hj2 : j - (dirtyK new n).length = 0 := by
          have := (List.getElem?_eq_some_iff.1 h).1
          simp at this; omega
        rw [hj2] at h
        simp only [List.length_cons, List.length_nil, Nat.zero_add, Nat.lt_add_one, getElem?_pos, List.getElem_cons_zero, Option.some.injEq] at h
        exact ⟨n, h.symm, by omega, e, by rw [← dirtyK_cnt (show n ≤ new.length by omega)]; omega⟩

theorem dirtyK_sorted (new : List ByteArray) (n : Nat) : (dirtyK new n).Pairwise (fun a b => leI a b = true) := by
  unfold dirtyK
  rw [List.pairwise_map]
  refine (List.pairwise_lt_range.filter _).imp fun {a b} h => ?_
  simp only [leI, decide_eq_true_eq]
  show (a : Int) ≤ (b : Int)
  omega

theorem Try.keyedInt : Go.Maps.Keyed Try.prog 3 := Go.Maps.int_keyed Try.underlying3

/-- what a map's datum says of the texts that wait -/
structure Says (D : DataW Unit) (new : List ByteArray) : Prop where
  has : ∀ x : Int, Maps.has D (.int .i64 x) = (slot new x).isSome
  at_ : ∀ (x : Int) (s : ByteArray), slot new x = some s → ∀ z, D.atKey (.int .i64 x) z = strD s

/-- block b is a map that holds what waits -/
def SecMap (w : World) (b : Nat) (new : List ByteArray) : Prop := ∃ D : DataW Unit, w.ownsMap Try.prog 3 rdSec b new.length D ∧ Says D new

theorem tight {H : Type} {P : Program} {k : TypeId} {R : Value → Option (DataW H × List MemPlace)} {w : World} {b n : Nat} {D : DataW H} (h : w.ownsMap P k R b n D) {m : Nat} (hm : Maps.size D ≤ m) : w.ownsMap P k R b m D := by
  obtain ⟨es, clock, hb, F, hs, rfl⟩ := h
  refine ⟨es, clock, hb, F, ?_, rfl⟩
  rw [Maps.size_eq, length_read] at hm
  exact hm

section
variable {w w' : World} {b n : Nat} {new : List ByteArray} {D : DataW Unit}

theorem keys_perm (h : w.ownsMap Try.prog 3 rdSec b n D) (hs : Says D new) : (dirtyK new new.length).Perm (intKeys D) := by
  obtain ⟨es, hD, hpw, _⟩ := h.entries Try.keyedInt
  obtain ⟨es', hD', hko⟩ := h.keysOf
  obtain rfl : es = es' := by rw [hD] at hD'; simpa using hD'
  subst hD
  exact perm_intKeys hpw (fun p hp => by obtain ⟨v, hv⟩ := hko p hp; obtain ⟨x, _, hx, _⟩ := Maps.keyOf_i64 Try.underlying3 hv; exact ⟨x, hx⟩) (dirtyK_nodup _ _) (fun x => by rw [hs.has x]; exact dirtyK_mem)

theorem size_cnt (h : w.ownsMap Try.prog 3 rdSec b n D) (hs : Says D new) : Maps.size D = cnt new new.length := by
  have h1 := (keys_perm h hs).length_eq
  rw [dirtyK_cnt (Nat.le_refl _)] at h1
  rw [h1]
  obtain ⟨es, hD, _⟩ := h.entries Try.keyedInt
  subst hD
  simp [Maps.size_eq, intKeys]

theorem SecMap.lt (h : SecMap w b new) : b < w.heap.size := by
  obtain ⟨D, h1, _⟩ := h
  exact h1.lt

theorem SecMap.kept (h : SecMap w b new) (hk : w'.heap[b]? = w.heap[b]?) : SecMap w' b new := by
  obtain ⟨D, ⟨es, clock, h1, h2⟩, h3⟩ := h
  exact ⟨D, ⟨es, clock, hk.trans h1, h2⟩, h3⟩

theorem secMap_made (w : World) (n : Nat) : SecMap (w.alloc (.map #[] 0)) w.heap.size (List.replicate n nil0) :=
  ⟨.map [], (World.ownsMap_made _ _ _ _).mono (Nat.zero_le _), fun x => by rw [slot_none]; rfl, fun x s h => by rw [slot_none] at h; cases h⟩

/-- how many wait -/
theorem SecMap.len (h : SecMap w b new) (ty : TypeId) : (Builtin.len_ #[55] ty #[.map (some b)]).run Try.prog w = .ok (.int .i64 (cnt new new.length : Int)) w := by
  obtain ⟨D, h1, h2⟩ := h
  rw [h1.len Try.underlying55 ty, size_cnt h1 h2]

set_option maxRecDepth 20000 in
/-- what waits for a number is read -/
theorem SecMap.look (h : SecMap w b new) {x : Int} (h1 : -9223372036854775808 ≤ x) (h2 : x ≤ 9223372036854775807) :
    (Instr.lookup 55 (.map (some b)) (.int .i64 x) true).run Try.prog w = .ok (.tuple #[secV ((slot new x).getD zero64), .bool (slot new x).isSome]) w := by
  obtain ⟨D, hD, hs⟩ := h
  obtain ⟨v, ps, hrun, hR⟩ := hD.look_ok (t := 55) Try.keyedInt Try.underlying55 (zero_sec w) (rdSec_mk zero64_size)
    (Go.Maps.keyOf_int_mk Try.underlying3 (WalkArith.wf_i64 ⟨h1, h2⟩))
  obtain ⟨s, hs64, rfl, hz⟩ := rdSec_inv hR
  have e := congrArg Prod.fst hz
  simp only at e
  rw [hrun, hs.has x]
  congr 4
  cases hsl : slot new x with
  | none =>
    have hh := hs.has x
    rw [hsl] at hh
    rw [Maps.atKey_of_not_has hh] at e
    rw [strD_inj e]; rfl
  | some t =>
    rw [hs.at_ x t hsl] at e
    rw [strD_inj e]; rfl

theorem SecMap.look1 (h : SecMap w b new) {x : Int} (h1 : -9223372036854775808 ≤ x) (h2 : x ≤ 9223372036854775807) {t : ByteArray} (hsl : slot new x = some t) :
    (Instr.lookup 55 (.map (some b)) (.int .i64 x) false).run Try.prog w = .ok (secV t) w := by
  obtain ⟨D, hD, hs⟩ := h
  obtain ⟨v, ps, hrun, hR⟩ := hD.lookup (t := 55) Try.keyedInt Try.underlying55 (zero_sec w) (rdSec_mk zero64_size)
    (Go.Maps.keyOf_int_mk Try.underlying3 (WalkArith.wf_i64 ⟨h1, h2⟩))
  obtain ⟨s, hs64, rfl, hz⟩ := rdSec_inv hR
  have e := congrArg Prod.fst hz
  simp only at e
  rw [hs.at_ x t hsl] at e
  rw [hrun, strD_inj e]

set_option maxRecDepth 20000 in
/-- a text is put to wait -/
theorem SecMap.store (h : SecMap w b new) (hn : new.length < maxLen) {i : Nat} (hi : i < new.length) {t : ByteArray} (ht : t.size = 64) :
    ∃ w', (Instr.mapUpdate 55 (.map (some b)) (.int .i64 (i : Int)) (secV t)).run Try.prog w = .ok () w' ∧ SecMap w' b (new.set i t) ∧ w.grownBy w' (some b) ∧ w'.heap.size = w.heap.size := by
  have h64 : maxLen ≤ 9223372036854775807 := by unfold maxLen; omega
  have tn : t ≠ nil0 := fun e => by rw [e, nil0_size] at ht; cases ht
  obtain ⟨D, hD, hs⟩ := h
  have hm := hD.isMap
  obtain ⟨w', hrun, ho, htn⟩ := hD.store (t := 55) Try.keyedInt Try.underlying55 hn (Go.Maps.keyOf_int_mk Try.underlying3 (WalkArith.wf_i64 (n := (i : Int)) ⟨by omega, by omega⟩)) (rdSec_mk ht)
  have hg := htn.grown
  have hsz : w'.heap.size = w.heap.size := by
    obtain ⟨es, clock, es', clock', _, rfl⟩ := htn
    simp [ChangeMaps.setBlock]
  have hs' : Says (D.put (.int .i64 (i : Int)) (strD t)) (new.set i t) := by
    refine ⟨fun x => ?_, fun x s hx z => ?_⟩
    · rw [slot_set hi tn]
      by_cases e : x = (i : Int)
      · subst e; rw [if_pos rfl]; exact Maps.has_put_same hm (by simp [WideAt.IsKeyLit]) _
      · rw [if_neg e]
        have hne : Lit.int .i64 x ≠ Lit.int .i64 (i : Int) := fun h => e (by injection h)
        rw [Maps.has_put_other hne]; exact hs.has x
    · rw [slot_set hi tn] at hx
      by_cases e : x = (i : Int)
      · subst e; rw [if_pos rfl] at hx; cases hx; exact Maps.atKey_put_same hm (by simp [WideAt.IsKeyLit]) _ _
      · rw [if_neg e] at hx
        have hne : Lit.int .i64 x ≠ Lit.int .i64 (i : Int) := fun h => e (by injection h)
        rw [Maps.atKey_put_other hne]; exact hs.at_ x s hx z
  refine ⟨w', hrun, ⟨_, tight ho ?_, hs'⟩, hg, hsz⟩
  rw [size_cnt ho hs']
  exact cnt_le _ _

set_option maxRecDepth 20000 in
/-- none waits any more -/
theorem SecMap.clear (h : SecMap w b new) (ty : TypeId) (m : Nat) : ∃ w', (Builtin.clear_ #[55] ty #[.map (some b)]).run Try.prog w = .ok (.tuple #[]) w' ∧ SecMap w' b (List.replicate m nil0) ∧ w.grownBy w' (some b) ∧ w'.heap.size = w.heap.size := by
  obtain ⟨D, ⟨es, clock, hb, _⟩, _⟩ := h
  refine ⟨ChangeMaps.setBlock w b (.map #[] clock), ?_, ⟨.map [], ⟨#[], clock, ChangeMaps.heap_setBlock_same hb _, ⟨by simp, MapKept.stamped_empty clock, by simp⟩, by simp, rfl⟩, fun x => by rw [slot_none]; rfl, fun x s h => by rw [slot_none] at h; cases h⟩,
    ⟨rfl, rfl, rfl, by simp [ChangeMaps.setBlock], fun i _ hi => ChangeMaps.heap_setBlock_other hb _ (fun e => hi (by rw [e]))⟩, by simp [ChangeMaps.setBlock]⟩
  simp [Builtin.clear_, run_underlying Try.underlying55, MapKept.run_getObj_map hb, MapKept.run_setObj_map _ hb, Result.andThen, ChangeMaps.setBlock]

end

end Sc
end Go.Proofs.Ytecgimnmccmpjaa
