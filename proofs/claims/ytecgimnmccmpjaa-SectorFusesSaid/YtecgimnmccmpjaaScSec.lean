/- The landed device's sectors in the memory: rows of arrays of sixty-four bytes, as blocks known whole; no condition but the sizes. -/
import Derived.Test.YtecgimnmccmpjaaScNone
import Derived.Deep.MidRow
import Derived.Deep.WholeRow
import Derived.Laws.CopyRow
namespace Go.Proofs.Ytecgimnmccmpjaa
namespace Sc
open Go.RowKit Bk

/-- a sector's cells, and the value that it is -/
def secC (s : ByteArray) : List Value := Lib.byteCells s.data.toList
def secV (s : ByteArray) : Value := .agg (secC s).toArray

theorem secC_len (s : ByteArray) : (secC s).length = s.size := by
  unfold secC
  rw [Lib.byteCells_length]; rfl

theorem secC_one (s : ByteArray) : ∀ v ∈ secC s, v.oneCell' = true := Lib.byteCells_one _

theorem secC_inj {s t : ByteArray} (h : secC s = secC t) : s = t := by
  unfold secC Lib.byteCells at h
  have hf : ∀ a b : UInt8, (Value.int .u8 (a.toNat : Int)) = Value.int .u8 (b.toNat : Int) → a = b := fun a b e => by
    simp only [Value.int.injEq, true_and] at e
    exact UInt8.toNat_inj.1 (by omega)
  have h2 : s.data.toList = t.data.toList := by
    refine List.ext_getElem? fun i => ?_
    have h3 := congrArg (fun l => l[i]?) h
    simp only [List.getElem?_map] at h3
    cases e1 : s.data.toList[i]? <;> cases e2 : t.data.toList[i]? <;> rw [e1, e2] at h3
    · simp at h3
    · simp at h3
    · simp only [Option.map_some, Option.some.injEq] at h3
      rw [hf _ _ h3]
  cases s; cases t
  congr 1
  exact Array.toList_inj.1 h2

theorem secV_inj {s t : ByteArray} (h : secV s = secV t) : s = t := by
  unfold secV at h
  simp only [Value.agg.injEq] at h
  exact secC_inj (by simpa using congrArg Array.toList h)

/-- the cells of a row of sectors -/
def onC (l : List ByteArray) : List Value := l.flatMap secC

theorem onC_len : ∀ {l : List ByteArray}, (∀ s ∈ l, s.size = 64) → (onC l).length = l.length * 64
  | [], _ => rfl
  | x :: l, h => by
    have := onC_len (l := l) (fun s hs => h s (by simp [hs]))
    unfold onC at *
    rw [List.flatMap_cons, List.length_append, this, secC_len, h x (by simp), List.length_cons]
    omega

theorem onC_parts {l : List ByteArray} {i : Nat} (h : i < l.length) : onC l = onC (l.take i) ++ (secC l[i] ++ onC (l.drop (i + 1))) := by
  have : l = l.take i ++ l[i] :: l.drop (i + 1) := by rw [List.getElem_cons_drop, List.take_append_drop]
  conv => lhs; rw [this]
  unfold onC
  rw [List.flatMap_append, List.flatMap_cons]

theorem onC_set {l : List ByteArray} {i : Nat} (h : i < l.length) (t : ByteArray) : onC (l.set i t) = onC (l.take i) ++ (secC t ++ onC (l.drop (i + 1))) := by
  rw [List.set_eq_take_append_cons_drop, if_pos h]
  unfold onC
  rw [List.flatMap_append, List.flatMap_cons]

section
variable {l : List ByteArray} {i : Nat} (h64 : ∀ s ∈ l, s.size = 64) (h : i < l.length)
include h64 h

theorem onC_ahead : (onC (l.take i)).length = i * 64 := by
  rw [onC_len (fun s hs => h64 s (List.mem_of_mem_take hs)), List.length_take, Nat.min_eq_left (by omega)]

theorem onC_cell {j : Nat} {v : Value} (hv : (secC l[i])[j]? = some v) : (onC l)[i * 64 + j]? = some v := by
  have hj : j < (secC l[i]).length := (List.getElem?_eq_some_iff.1 hv).1
  rw [onC_parts h, List.getElem?_append_right (by rw [onC_ahead h64 h]; omega), onC_ahead h64 h, List.getElem?_append_left (by omega), Nat.add_sub_cancel_left]
  exact hv

/-- some bytes of a sector written over -/
theorem onC_over {cs : List Value} {n : Nat} (hc : cs.length = n) (hn : n ≤ 64) : (onC l).take (i * 64) ++ cs ++ (onC l).drop (i * 64 + n) = onC (l.take i) ++ (cs ++ (secC l[i]).drop n ++ onC (l.drop (i + 1))) := by
  have hs : (secC l[i]).length = 64 := by rw [secC_len]; exact h64 _ (List.getElem_mem h)
  have ha := onC_ahead h64 h
  rw [onC_parts h, List.take_append_of_le_length (by omega), List.take_of_length_le (by omega), List.drop_append, ha, List.drop_of_length_le (by omega), List.nil_append, Nat.add_sub_cancel_left, List.drop_append_of_le_length (by omega)]
  simp only [List.append_assoc]

end

theorem torn_cells {o n : ByteArray} (_ho : o.size = 64) (_hn : n.size = 64) (p : Int) : secC (torn o n p) = (secC n).take (cutN p) ++ (secC o).drop (cutN p) := by
  unfold secC torn Lib.byteCells
  simp [List.map_take, List.map_drop]

theorem zero_cells : secC zero64 = List.replicate 64 (Value.int .u8 0) := by
  unfold secC zero64
  rw [List.toList_toArray]
  exact zeros_cells

theorem zeros_row (n : Nat) : onC (List.replicate n zero64) = List.replicate (n * 64) (Value.int .u8 0) := by
  unfold onC
  induction n with
  | zero => simp
  | succ n ih => rw [List.replicate_succ, List.flatMap_cons, ih, zero_cells, List.replicate_append_replicate, Nat.add_mul, Nat.one_mul, Nat.add_comm]

theorem Try.infoSec : (Try.prog.info? 64).map (fun i => (i.zero, i.size, i.bytes)) = some (some (.agg (List.replicate 64 (Value.int .u8 0)).toArray), 64, 64) := by kernel_rfl

theorem size_sec : (Try.prog.info? 64).map (·.size) = some 64 := by
  obtain ⟨i0, hi, hz0, hz1, hz2⟩ := info_parts Try.infoSec
  rw [hi, Option.map_some, hz1]

set_option maxRecDepth 20000 in
theorem zero_sec (w : World) : (zeroValue 64).run Try.prog w = .ok (secV zero64) w := by
  unfold secV
  rw [zero_cells]
  kernel_rfl

section
variable {w : World} {a : Nat} {l : List ByteArray} {i : Nat}

theorem sec_range (h : Cel w a 64 (onC l)) (h64 : ∀ s ∈ l, s.size = 64) (hi : i < l.length) : w.rangeAt a (i * 64) (secC l[i]) := fun _ _ hv => h.cell (onC_cell h64 hi hv)

/-- a sector is read -/
theorem sec_load (h : Cel w a 64 (onC l)) (h64 : ∀ s ∈ l, s.size = 64) (hi : i < l.length) : (Instr.loadAt 64 (.pointer (some ⟨a, i * 64, none⟩))).run Try.prog w = .ok (secV l[i]) w :=
  run_loadAt_mid w a (i * 64) 64 (secC l[i]) _ (sec_range h h64 hi) Try.underlying64 rfl (by rw [size_sec, secC_len, h64 _ (List.getElem_mem hi)])

/-- a variable of the call's own is read -/
theorem sec_own {s : ByteArray} (h : Cel w a 64 (secC s)) (hs : s.size = 64) : (Instr.loadAt 64 (.pointer (some ⟨a, 0, none⟩))).run Try.prog w = .ok (secV s) w :=
  run_loadAt_mid w a 0 64 (secC s) _ (fun _ _ hv => by rw [Nat.zero_add]; exact h.cell hv) Try.underlying64 rfl (by rw [size_sec, secC_len, hs])

theorem cel_row {w : World} {g : Nat} {t : TypeId} {xs : List Value} (h : Cel w g t xs) (ys : List Value) : Cel (w.setRow g ys.toArray) g t ys := setRow_heap w g _ _ t (0, 0) h

theorem row_far {w : World} {g k : Nat} (c : Array Value) (hn : k ≠ g) : (w.setRow g c).heap[k]? = w.heap[k]? := setRow_other _ _ _ _ hn

/-- a sector is written -/
theorem sec_store (h : Cel w a 64 (onC l)) (h64 : ∀ s ∈ l, s.size = 64) (hi : i < l.length) {t : ByteArray} (ht : t.size = 64) :
    (Instr.storeAt 64 (.pointer (some ⟨a, i * 64, none⟩)) (secV t)).run Try.prog w = .ok () (w.setRow a (onC (l.set i t)).toArray) := by
  have hl := onC_len h64
  have htl : (secC t).length = 64 := (secC_len t).trans ht
  have hst := run_storeCells_at Try.prog a (i * 64) 64 (secC t) 0 _ w h (by rw [List.size_toArray, hl, htl]; omega) (secC_one t)
  have e : (onC l).toArray.toList.take (i * 64 + 0) ++ secC t ++ (onC l).toArray.toList.drop (i * 64 + 0 + (secC t).length) = onC (l.set i t) := by
    rw [List.toList_toArray, Nat.add_zero, htl, onC_over h64 hi htl (Nat.le_refl _), onC_set hi, List.drop_of_length_le (by rw [secC_len, h64 _ (List.getElem_mem hi)]; exact Nat.le_refl _), List.append_nil]
  rw [e] at hst
  obtain ⟨i0, hi0, hz0, hz1, hz2⟩ := info_parts Try.infoSec
  simp only [Instr.storeAt, Instr.sureAddr, Sem.run_bind, Sem.run_pure, Result.andThen_ok]
  simp [storeVar, sizeOf, typeInfo, hi0, hz1, secV, Value.cells, htl, hst]

/-- a variable of the call's own is written -/
theorem sec_put {s t : ByteArray} (h : Cel w a 64 (secC s)) (hs : s.size = 64) (ht : t.size = 64) :
    (Instr.storeAt 64 (.pointer (some ⟨a, 0, none⟩)) (secV t)).run Try.prog w = .ok () (w.setRow a (secC t).toArray) := by
  have h1 : Cel w a 64 (onC [s]) := by simpa [onC] using h
  have := sec_store (i := 0) h1 (by simpa using hs) (by simp) ht
  simpa [onC] using this

end

end Sc
end Go.Proofs.Ytecgimnmccmpjaa
