/- What is asked of the landed package sector; a landed device and the document's side by side; no condition. -/
import Derived.Test.YtecgimnmccmpjaaScRef3
import Derived.Test.YtecgimnmccmpjaaScRef5
namespace Go.Proofs.Ytecgimnmccmpjaa
namespace Sc
open Go.RowKit Bk

/-- what is asked of the landed package: 'Rep W F g D' says that in block g lies a device as D, that owns the blocks F -/
structure DevAll (Rep : World → (Nat → Prop) → Nat → Dev → Prop) : Prop where
  lt : ∀ {W F g D}, Rep W F g D → ∀ k, F k → k < W.heap.size
  ok : ∀ {W F g D}, Rep W F g D → DevOk D
  kept : ∀ {W W' F g D}, Rep W F g D → (∀ k, F k → W'.heap[k]? = W.heap[k]?) → Rep W' F g D
  new : ∀ (n : Int) (w : World), -9223372036854775808 ≤ n ∧ n ≤ 9223372036854775807 → Calls Try.prog 7 #[.int .i64 n] w fun e w' =>
    (1 ≤ n ∧ n ≤ 2048 ∧ ∃ (F : Nat → Prop) (g : Nat), e = .returned (.tuple #[.pointer (some ⟨g, 0, none⟩), .int .i64 0]) ∧ Rep w' F g (new0 n.toNat) ∧ (∀ k, F k → w.heap.size ≤ k) ∧ Below w.heap.size w w') ∨
    (¬ (1 ≤ n ∧ n ≤ 2048) ∧ e = .returned (.tuple #[.pointer none, .int .i64 1]) ∧ Below w.heap.size w w')
  size : ∀ {F g D} (w : World), Rep w F g D → Calls Try.prog 11 #[.pointer (some ⟨g, 0, none⟩)] w fun e w' => e = .returned (.int .i64 (D.on.length : Int)) ∧ ∃ F', Rep w' F' g D ∧ Fr F F' w w'
  read : ∀ {F g D} (i : Int) (w : World), Rep w F g D → -9223372036854775808 ≤ i ∧ i ≤ 9223372036854775807 → Calls Try.prog 18 #[.pointer (some ⟨g, 0, none⟩), .int .i64 i] w fun e w' => e = .returned (.tuple #[.string (rdV D i).1, .int .i64 (rdV D i).2]) ∧ ∃ F', Rep w' F' g D ∧ Fr F F' w w'
  write : ∀ {F g D} (i : Int) (t : ByteArray) (w : World), Rep w F g D → -9223372036854775808 ≤ i ∧ i ≤ 9223372036854775807 → t.size ≤ reachBytes → Calls Try.prog 15 #[.pointer (some ⟨g, 0, none⟩), .int .i64 i, .string t] w fun e w' => e = .returned (.int .i64 (wrD D i t).2) ∧ ∃ F', Rep w' F' g (wrD D i t).1 ∧ Fr F F' w w'
  flush : ∀ {F g D} (w : World), Rep w F g D → Calls Try.prog 16 #[.pointer (some ⟨g, 0, none⟩)] w fun e w' => e = .returned (.int .i64 (flD D).2) ∧ ∃ F', Rep w' F' g (flD D).1 ∧ Fr F F' w w'
  fuse : ∀ {F g D} (n : Int) (w : World), Rep w F g D → -9223372036854775808 ≤ n ∧ n ≤ 9223372036854775807 → Calls Try.prog 20 #[.pointer (some ⟨g, 0, none⟩), .int .i64 n] w fun e w' => e = .returned (.int .i64 (fuD D n).2) ∧ ∃ F', Rep w' F' g (fuD D n).1 ∧ Fr F F' w w'
  crash : ∀ {F g D} (A : Option Addr) (c : Nat) (ps : List Int) (w : World), Rep w F g D → IntsAt w A ps → (0 < ps.length → ∀ a, A = some a → ¬ F a.block) → ps.length * 8 ≤ reachBytes → (∀ p ∈ ps, -9223372036854775808 ≤ p ∧ p ≤ 9223372036854775807) → Calls Try.prog 17 #[.pointer (some ⟨g, 0, none⟩), .slice A ps.length c] w fun e w' => e = .returned (.tuple #[]) ∧ ∃ F', Rep w' F' g (crD D ps) ∧ Fr F F' w w'
  dirty : ∀ {F g D} (w : World), Rep w F g D → Calls Try.prog 12 #[.pointer (some ⟨g, 0, none⟩)] w fun e w' => e = .returned (.int .i64 (dirtyN D : Int)) ∧ ∃ F', Rep w' F' g D ∧ Fr F F' w w'
  wipe : ∀ {F g D} (w : World), Rep w F g D → Calls Try.prog 21 #[.pointer (some ⟨g, 0, none⟩)] w fun e w' => e = .returned (.tuple #[]) ∧ ∃ F', Rep w' F' g (wiD D) ∧ Fr F F' w w'

section
variable {Rep : World → (Nat → Prop) → Nat → Dev → Prop}

/-- one device that a call made, and old memory -/
structure One (Rep : World → (Nat → Prop) → Nat → Dev → Prop) (w0 W : World) (F : Nat → Prop) (g : Nat) (D : Dev) : Prop where
  d : Rep W F g D
  bF : ∀ k, F k → w0.heap.size ≤ k
  bel : Below w0.heap.size w0 W

theorem One.act {w0 W W' : World} {F F' : Nat → Prop} {g : Nat} {D D' : Dev} (h : One Rep w0 W F g D) (h1 : Rep W' F' g D') (h2 : Fr F F' W W') : One Rep w0 W' F' g D' :=
  ⟨h1, fun k hk => (h2.foot k hk).elim (h.bF k) (fun hs => Nat.le_trans h.bel.size hs), h.bel.trans (h2.belowB h.bF h.bel.size)⟩

theorem One.step (HD : DevAll Rep) {w0 W W' : World} {F : Nat → Prop} {g : Nat} {D : Dev} (h : One Rep w0 W F g D) (hb : Below W.heap.size W W') : One Rep w0 W' F g D :=
  ⟨HD.kept h.d (fun k hk => hb.block k (HD.lt h.d k hk)), h.bF, h.bel.trans (hb.mono h.bel.size)⟩

/-- a cell outside of it -/
theorem One.cell {W W' : World} {F F' : Nat → Prop} (h2 : Fr F F' W W') {a : Addr} (ha : a.block < W.heap.size) (hn : ¬ F a.block) : W'.cell? a = W.cell? a := by
  unfold World.cell?
  rw [h2.block a.block ha hn]

/-- both, no block shared -/
structure Pr (Rep : World → (Nat → Prop) → Nat → Dev → Prop) (w0 W : World) (F : Nat → Prop) (g h : Nat) (ao an : Addr) (co cn : Nat) (so sn : List Value) (D E : Dev) : Prop where
  d : Rep W F g D
  r : RAt W h ao an co cn so sn E
  dis : ∀ k, RFoot h ao an k → ¬ F k
  bF : ∀ k, F k → w0.heap.size ≤ k
  bR : ∀ k, RFoot h ao an k → w0.heap.size ≤ k
  bel : Below w0.heap.size w0 W

variable {w0 W W' : World} {F F' : Nat → Prop} {g h : Nat} {ao an : Addr} {co cn : Nat} {so sn : List Value} {D D' E E' : Dev}

theorem Pr.actD (p : Pr Rep w0 W F g h ao an co cn so sn D E) (h1 : Rep W' F' g D') (h2 : Fr F F' W W') : Pr Rep w0 W' F' g h ao an co cn so sn D' E :=
  ⟨h1, p.r.kept (h2.kept p.dis p.r.lt), fun k hk hf => (h2.foot k hf).elim (p.dis k hk) (fun hs => by have := p.r.lt k hk; omega),
    fun k hk => (h2.foot k hk).elim (p.bF k) (fun hs => Nat.le_trans p.bel.size hs), p.bR, p.bel.trans (h2.belowB p.bF p.bel.size)⟩

theorem Pr.actR (HD : DevAll Rep) (p : Pr Rep w0 W F g h ao an co cn so sn D E) (h1 : RAt W' h ao an co cn so sn E') (h2 : Fr (RFoot h ao an) (RFoot h ao an) W W') : Pr Rep w0 W' F g h ao an co cn so sn D E' :=
  ⟨HD.kept p.d (h2.kept (fun k hk hr => p.dis k hr hk) (HD.lt p.d)), h1, p.dis, p.bF, p.bR, p.bel.trans (h2.belowB p.bR p.bel.size)⟩

theorem Pr.step (HD : DevAll Rep) (p : Pr Rep w0 W F g h ao an co cn so sn D E) (hb : Below W.heap.size W W') : Pr Rep w0 W' F g h ao an co cn so sn D E :=
  ⟨HD.kept p.d (fun k hk => hb.block k (HD.lt p.d k hk)), p.r.step hb, p.dis, p.bF, p.bR, p.bel.trans (hb.mono p.bel.size)⟩

end

end Sc
end Go.Proofs.Ytecgimnmccmpjaa
