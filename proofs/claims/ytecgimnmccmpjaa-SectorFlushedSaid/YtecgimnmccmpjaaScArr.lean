/- A device, and an array of texts beside it; numbers as an argument; no condition. -/
import Derived.Test.YtecgimnmccmpjaaScOpen
import Derived.Test.YtecgimnmccmpjaaScView
import Derived.Test.YtecgimnmccmpjaaScRepeat
import Derived.Test.YtecgimnmccmpjaaScStep2
namespace Go.Proofs.Ytecgimnmccmpjaa
namespace Sc
open Go.ChangeShapes Go.WideShapes Go.ChangeAt Go.RowKit Go.Joins Go.Deep Bk

/-- the value is a slice of these numbers -/
def IntsOf (w : World) (v : Value) (l : List Int) : Prop :=
  ∃ (A : Option Addr) (c : Nat), v = .slice A l.length c ∧ IntsAt w A l ∧ l.length * 8 ≤ reachBytes ∧ ∀ n ∈ l, -9223372036854775808 ≤ n ∧ n ≤ 9223372036854775807

section
variable {H : Type} {enc : TypeId × Value → H} {W : World}

set_option maxRecDepth 20000 in
theorem open_intsOf {base : Nat} {v : Value} {d : DataW H} {p : List MemPlace} {ts : List TypeId} {ds : List (DataW H)} {j : Nat}
    (hsz : (DataW.weightsEach Try.prog ts ds).all (· ≤ reachBytes) = true) (hj : ts[j]? = some 32) (hd : ds[j]? = some d)
    (hv : Value.okWide Try.prog W .any base 32 v) (h : DataW.Trod enc Try.prog W 0 (fun _ => true) true 32 v d p) (hl : ∀ x ∈ p, x.block < W.heap.size) : ∃ l, IntsOf W v l := by
  obtain ⟨a0, len, cap, rfl⟩ := okWide_slice Try.underlying32 hv
  obtain ⟨fuel, hf⟩ := h
  obtain ⟨A, c, L, e, q1, q2, _, _, q5, _⟩ := field_ints Try.underlying32 Try.underlying3 (by kernel_rfl) (by kernel_rfl) hf (arg_weights hsz hj hd) hl
  exact ⟨L, A, c, e, q1, q2, q5⟩

end

section
variable {Rep : World → (Nat → Prop) → Nat → Dev → Prop} {w0 W W' : World} {F F' : Nat → Prop} {g b : Nat} {D D' : Dev} {t : TypeId} {l : List ByteArray}

/-- a device that a call made, and an array of texts -/
structure OneB (Rep : World → (Nat → Prop) → Nat → Dev → Prop) (w0 W : World) (F : Nat → Prop) (g : Nat) (D : Dev) (b : Nat) (t : TypeId) (l : List ByteArray) : Prop where
  o : One Rep w0 W F g D
  c : Cel W b t (strV l)
  nf : ¬ F b
  bb : w0.heap.size ≤ b

theorem OneB.act (h : OneB Rep w0 W F g D b t l) (h1 : Rep W' F' g D') (h2 : Fr F F' W W') : OneB Rep w0 W' F' g D' b t l :=
  ⟨h.o.act h1 h2, (h2.block b h.c.lt h.nf).trans h.c, fun hf => (h2.foot b hf).elim h.nf (fun hs => by have := h.c.lt; omega), h.bb⟩

theorem OneB.step (HD : DevAll Rep) (h : OneB Rep w0 W F g D b t l) (hb : Below W.heap.size W W') : OneB Rep w0 W' F g D b t l :=
  ⟨h.o.step HD hb, h.c.below hb, h.nf, h.bb⟩

theorem OneB.new (HD : DevAll Rep) (h : One Rep w0 W F g D) (t : TypeId) (l : List ByteArray) : OneB Rep w0 (W.alloc (.cells (strV l).toArray t)) F g D W.heap.size t l :=
  ⟨h.step HD ((Below.refl _ W).alloc (Nat.le_refl _) _), (blk1 W _).2, fun hf => absurd (HD.lt h.d _ hf) (Nat.lt_irrefl _), h.bel.size⟩

theorem strV_put {l : List ByteArray} {i : Nat} (s : ByteArray) : (strV l).set i (.string s) = strV (l.set i s) := by
  unfold strV; rw [List.map_set]

theorem OneB.set (HD : DevAll Rep) (h : OneB Rep w0 W F g D b t l) (i : Nat) (s : ByteArray) : OneB Rep w0 (W.setCell ⟨b, i, none⟩ (.string s)) F g D b t (l.set i s) := by
  refine ⟨⟨HD.kept h.o.d (fun k hk => Below.heap_setCell _ _ _ _ (fun e => h.nf (by rw [show b = k from e.symm]; exact hk))), h.o.bF, h.o.bel.setCell (p := ⟨b, i, none⟩) h.bb _⟩, ?_, h.nf, h.bb⟩
  have := h.c.set (i := i) (v := .string s)
  rwa [strV_put] at this

theorem OneB.cell (h : OneB Rep w0 W F g D b t l) {i : Nat} (hi : i < l.length) : W.cell? ⟨b, i, none⟩ = some (.string l[i]) := h.c.cell (strV_at hi)
theorem OneB.free (h : OneB Rep w0 W F g D b t l) (i : Nat) : W.frozen? ⟨b, i, none⟩ = false := h.c.free

end

end Sc
end Go.Proofs.Ytecgimnmccmpjaa
