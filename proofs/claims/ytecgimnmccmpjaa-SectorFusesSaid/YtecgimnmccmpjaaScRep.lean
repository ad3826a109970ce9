/- A call that writes its own blocks alone; the document's device in the memory; no condition. -/
import Derived.Test.YtecgimnmccmpjaaScMath
namespace Go.Proofs.Ytecgimnmccmpjaa
namespace Sc
open Go.RowKit Bk

/-- beside the blocks F no old block is turned; F' are old ones of F and new ones -/
structure Fr (F F' : Nat → Prop) (w w' : World) : Prop where
  os : w'.os = w.os
  tape : w'.tape = w.tape
  output : w'.output = w.output
  size : w.heap.size ≤ w'.heap.size
  block : ∀ k, k < w.heap.size → ¬ F k → w'.heap[k]? = w.heap[k]?
  foot : ∀ k, F' k → F k ∨ w.heap.size ≤ k

theorem Fr.refl (F : Nat → Prop) (w : World) : Fr F F w w := ⟨rfl, rfl, rfl, Nat.le_refl _, fun _ _ _ => rfl, fun _ h => .inl h⟩

theorem Fr.trans {F G H : Nat → Prop} {a b c : World} (h : Fr F G a b) (k : Fr G H b c) : Fr F H a c :=
  ⟨k.os.trans h.os, k.tape.trans h.tape, k.output.trans h.output, Nat.le_trans h.size k.size,
    fun i hi hn => (k.block i (Nat.lt_of_lt_of_le hi h.size) (fun hg => (h.foot i hg).elim hn (by omega))).trans (h.block i hi hn),
    fun i hi => (k.foot i hi).elim (fun hg => h.foot i hg) (fun hs => .inr (Nat.le_trans h.size hs))⟩

theorem Fr.below {F : Nat → Prop} {a b c : World} {G : Nat → Prop} (h : Fr F G a b) (k : Below b.heap.size b c) : Fr F G a c :=
  ⟨k.os.trans h.os, k.tape.trans h.tape, k.output.trans h.output, Nat.le_trans h.size k.size,
    fun i hi hn => (k.block i (Nat.lt_of_lt_of_le hi h.size)).trans (h.block i hi hn), h.foot⟩

theorem Fr.set {F G : Nat → Prop} {a b : World} (h : Fr F G a b) {p : Addr} (hp : F p.block) (v : Value) : Fr F G a (b.setCell p v) :=
  ⟨h.os, h.tape, h.output, by simpa [World.setCell] using h.size, fun i hi hn => (Below.heap_setCell b p v i (fun e => hn (by rw [e]; exact hp))).trans (h.block i hi hn), h.foot⟩

/-- as a call tells it that owns blocks from B on -/
theorem Fr.belowB {F G : Nat → Prop} {a b : World} {B : Nat} (h : Fr F G a b) (hF : ∀ k, F k → B ≤ k) (hB : B ≤ a.heap.size) : Below B a b :=
  ⟨h.os, h.tape, h.output, h.size, fun k hk => h.block k (by omega) (fun hf => by have := hF k hf; omega)⟩

/-- the blocks of one are as they were behind a call of another one -/
theorem Fr.kept {F G : Nat → Prop} {a b : World} (h : Fr F G a b) {H : Nat → Prop} (hd : ∀ k, H k → ¬ F k) (hl : ∀ k, H k → k < a.heap.size) : ∀ k, H k → b.heap[k]? = a.heap[k]? := fun k hk => h.block k (hl k hk) (hd k hk)

theorem strV_get {l : List ByteArray} {sp : List Value} {i : Nat} (h : i < l.length) : (strV l ++ sp)[i]? = some (.string l[i]) := by
  rw [List.getElem?_append_left (by rw [strV_len]; exact h)]
  exact strV_at h

theorem strV_set {l : List ByteArray} {sp : List Value} {i : Nat} (t : ByteArray) (h : i < l.length) : (strV l ++ sp).set i (.string t) = strV (l.set i t) ++ sp := by
  rw [List.set_append_left _ _ (by rw [strV_len]; exact h)]
  congr 1
  unfold strV
  rw [List.map_set]

/-- the document's device: a struct, and two rows of texts -/
structure RAt (w : World) (g : Nat) (ao an : Addr) (co cn : Nat) (so sn : List Value) (D : Dev) : Prop where
  cel : Cel w g 38 [.slice (some ao) D.on.length co, .slice (some an) D.new.length cn, .int .i64 (D.left : Int), .bool D.down]
  o0 : ao = ⟨ao.block, 0, none⟩
  n0 : an = ⟨an.block, 0, none⟩
  ro : Cel w ao.block 9 (strV D.on ++ so)
  rn : Cel w an.block 9 (strV D.new ++ sn)
  d1 : g ≠ ao.block
  d2 : g ≠ an.block
  d3 : ao.block ≠ an.block

def RFoot (g : Nat) (ao an : Addr) : Nat → Prop := fun k => k = g ∨ k = ao.block ∨ k = an.block

section
variable {w w' : World} {g : Nat} {ao an : Addr} {co cn : Nat} {so sn : List Value} {D : Dev}

theorem RAt.lt (h : RAt w g ao an co cn so sn D) : ∀ k, RFoot g ao an k → k < w.heap.size := fun k hk => by
  rcases hk with rfl | rfl | rfl
  · exact h.cel.lt
  · exact h.ro.lt
  · exact h.rn.lt

theorem RAt.kept (h : RAt w g ao an co cn so sn D) (hk : ∀ k, RFoot g ao an k → w'.heap[k]? = w.heap[k]?) : RAt w' g ao an co cn so sn D :=
  ⟨(hk g (.inl rfl)).trans h.cel, h.o0, h.n0, (hk _ (.inr (.inl rfl))).trans h.ro, (hk _ (.inr (.inr rfl))).trans h.rn, h.d1, h.d2, h.d3⟩

theorem RAt.step (h : RAt w g ao an co cn so sn D) (hb : Below w.heap.size w w') : RAt w' g ao an co cn so sn D := h.kept fun k hk => hb.block k (h.lt k hk)

theorem at_add (h : ao = ⟨ao.block, 0, none⟩) (i : Nat) : ao.add i = ⟨ao.block, i, none⟩ := by
  rw [h]; exact addr_head _ _

theorem RAt.readO (h : RAt w g ao an co cn so sn D) {i : Nat} (hi : i < D.on.length) : w.cell? (ao.add i) = some (.string D.on[i]) := by
  rw [at_add h.o0]; exact h.ro.cell (strV_get hi)

theorem RAt.readN (h : RAt w g ao an co cn so sn D) {i : Nat} (hi : i < D.new.length) : w.cell? (an.add i) = some (.string D.new[i]) := by
  rw [at_add h.n0]; exact h.rn.cell (strV_get hi)

theorem RAt.freeO (h : RAt w g ao an co cn so sn D) (i : Nat) : w.frozen? (ao.add i) = false := by
  rw [at_add h.o0]; exact h.ro.free

theorem RAt.freeN (h : RAt w g ao an co cn so sn D) (i : Nat) : w.frozen? (an.add i) = false := by
  rw [at_add h.n0]; exact h.rn.free

theorem RAt.setO (h : RAt w g ao an co cn so sn D) {i : Nat} (hi : i < D.on.length) (t : ByteArray) : RAt (w.setCell (ao.add i) (.string t)) g ao an co cn so sn ⟨D.on.set i t, D.new, D.left, D.down⟩ := by
  rw [at_add h.o0]
  refine ⟨?_, h.o0, h.n0, ?_, h.rn.far (Ne.symm h.d3), h.d1, h.d2, h.d3⟩
  · show Cel _ g _ [.slice (some ao) (D.on.set i t).length co, _, _, _]
    rw [List.length_set]
    exact h.cel.far h.d1
  · have := h.ro.set (i := i) (v := .string t)
    rwa [strV_set t hi] at this

theorem RAt.setN (h : RAt w g ao an co cn so sn D) {i : Nat} (hi : i < D.new.length) (t : ByteArray) : RAt (w.setCell (an.add i) (.string t)) g ao an co cn so sn ⟨D.on, D.new.set i t, D.left, D.down⟩ := by
  rw [at_add h.n0]
  refine ⟨?_, h.o0, h.n0, h.ro.far h.d3, ?_, h.d1, h.d2, h.d3⟩
  · show Cel _ g _ [_, .slice (some an) (D.new.set i t).length cn, _, _]
    rw [List.length_set]
    exact h.cel.far h.d2
  · have := h.rn.set (i := i) (v := .string t)
    rwa [strV_set t hi] at this

theorem RAt.setLeft (h : RAt w g ao an co cn so sn D) (n : Nat) : RAt (w.setCell ⟨g, 2, none⟩ (.int .i64 (n : Int))) g ao an co cn so sn ⟨D.on, D.new, n, D.down⟩ :=
  ⟨h.cel.set, h.o0, h.n0, h.ro.far (Ne.symm h.d1), h.rn.far (Ne.symm h.d2), h.d1, h.d2, h.d3⟩

theorem RAt.setDown (h : RAt w g ao an co cn so sn D) (b : Bool) : RAt (w.setCell ⟨g, 3, none⟩ (.bool b)) g ao an co cn so sn ⟨D.on, D.new, D.left, b⟩ :=
  ⟨h.cel.set, h.o0, h.n0, h.ro.far (Ne.symm h.d1), h.rn.far (Ne.symm h.d2), h.d1, h.d2, h.d3⟩

theorem foot_g : RFoot g ao an g := .inl rfl
theorem foot_o (i : Nat) : RFoot g ao an (ao.add i).block := by rw [st_block]; exact .inr (.inl rfl)
theorem foot_n (i : Nat) : RFoot g ao an (an.add i).block := by rw [st_block]; exact .inr (.inr rfl)

end

end Sc
end Go.Proofs.Ytecgimnmccmpjaa
