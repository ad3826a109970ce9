/- A queue of the law's own; the chapter's example; no condition. -/
import Derived.Test.YtpjoiepdcilcnaaDuCalls2
namespace Go.Proofs.Ytpjoiepdcilcnaa
namespace Du
open Go.RowKit Bk

/-- a queue of the call's own; S: blocks beside it -/
structure QS (w0 W : World) (S : Nat → Prop) (b : Nat) (D : Ds) : Prop where
  q : ∃ F, LQ W w0.heap.size F b D ∧ ∀ k, S k → k < W.heap.size ∧ ¬ F k
  bel : Below w0.heap.size w0 W

section
variable {w0 W W' : World} {S : Nat → Prop} {b : Nat} {D : Ds}

theorem QS.below (h : QS w0 W S b D) (hb : Below W.heap.size W W') : QS w0 W' S b D := by
  obtain ⟨⟨F, h1, h2⟩, h3⟩ := h
  exact ⟨⟨F, h1.below hb, fun k hk => ⟨Nat.lt_of_lt_of_le (h2 k hk).1 hb.size, (h2 k hk).2⟩⟩, h3.trans (hb.mono h3.size)⟩

theorem QS.post {F : Nat → Prop} {D' : Ds} (h1 : LQ W w0.heap.size F b D) (h2 : ∀ k, S k → k < W.heap.size ∧ ¬ F k) (h3 : Below w0.heap.size w0 W) (hp : QPost W w0.heap.size b F D' W') : QS w0 W' S b D' ∧ ∀ k, S k → W'.heap[k]? = W.heap[k]? := by
  obtain ⟨F', h4, h5⟩ := hp
  refine ⟨⟨⟨F', h4, fun k hk => ⟨Nat.lt_of_lt_of_le (h2 k hk).1 h5.size, fun hf => (h5.foot k hf).elim (h2 k hk).2 (fun hs => by have := (h2 k hk).1; omega)⟩⟩, h3.trans (h5.below (fun k hk => (h1.lt k hk).2) h3.size)⟩, fun k hk => h5.block k (h2 k hk).1 (h2 k hk).2⟩

theorem snew (hb : Below w0.heap.size w0 W) : Calls Try.prog 7 #[] W fun e W' => ∃ b, e = .returned (.pointer (some ⟨b, 0, none⟩)) ∧ QS w0 W' (fun _ => False) b newD := by
  refine (qnew_any hb.size).mono ?_
  rintro e W' ⟨b, F, rfl, h1, h2⟩
  exact ⟨b, rfl, ⟨F, h1, fun k hk => hk.elim⟩, hb.trans (h2.below (fun k hk => hk.elim) hb.size)⟩

theorem sput (h : QS w0 W S b D) (a u i : Int) (hm : D.many ≤ 4611686018427387904) : Calls Try.prog 10 #[.pointer (some ⟨b, 0, none⟩), .int .i64 a, .int .i64 u, .int .i64 i] W fun e W' => e = .returned (.tuple #[.int .i64 (putD D a u i).2.1, .int .i64 (putD D a u i).2.2]) ∧ QS w0 W' S b (putD D a u i).1 ∧ ∀ k, S k → W'.heap[k]? = W.heap[k]? := by
  obtain ⟨⟨F, h1, h2⟩, h3⟩ := h
  refine (qput_any h1 a u i hm).mono ?_
  rintro e W' ⟨rfl, hp⟩
  exact ⟨rfl, QS.post h1 h2 h3 hp⟩
theorem stake (h : QS w0 W S b D) : Calls Try.prog 13 #[.pointer (some ⟨b, 0, none⟩)] W fun e W' => e = .returned (.tuple #[.int .i64 (takeD D).2.1, .bool (takeD D).2.2]) ∧ QS w0 W' S b (takeD D).1 ∧ ∀ k, S k → W'.heap[k]? = W.heap[k]? := by
  obtain ⟨⟨F, h1, h2⟩, h3⟩ := h
  refine (qtake_any h1).mono ?_
  rintro e W' ⟨rfl, hp⟩
  exact ⟨rfl, QS.post h1 h2 h3 hp⟩
theorem sdrop (h : QS w0 W S b D) (n : Int) : Calls Try.prog 15 #[.pointer (some ⟨b, 0, none⟩), .int .i64 n] W fun e W' => e = .returned (.int .i64 (dropD D n).2) ∧ QS w0 W' S b (dropD D n).1 ∧ ∀ k, S k → W'.heap[k]? = W.heap[k]? := by
  obtain ⟨⟨F, h1, h2⟩, h3⟩ := h
  refine (qdrop_any h1 n).mono ?_
  rintro e W' ⟨rfl, hp⟩
  exact ⟨rfl, QS.post h1 h2 h3 hp⟩
theorem sgo (h : QS w0 W S b D) (t : Int) : Calls Try.prog 17 #[.pointer (some ⟨b, 0, none⟩), .int .i64 t] W fun e W' => e = .returned (.int .i64 (goD D t).2) ∧ QS w0 W' S b (goD D t).1 ∧ ∀ k, S k → W'.heap[k]? = W.heap[k]? := by
  obtain ⟨⟨F, h1, h2⟩, h3⟩ := h
  refine (qgo_any h1 t).mono ?_
  rintro e W' ⟨rfl, hp⟩
  exact ⟨rfl, QS.post h1 h2 h3 hp⟩
theorem slen (h : QS w0 W S b D) : Calls Try.prog 22 #[.pointer (some ⟨b, 0, none⟩)] W fun e W' => e = .returned (.int .i64 (D.L.length : Int)) ∧ Below W.heap.size W W' := by
  obtain ⟨⟨F, h1, h2⟩, h3⟩ := h
  exact qlen_any h1
theorem snow (h : QS w0 W S b D) : Calls Try.prog 21 #[.pointer (some ⟨b, 0, none⟩)] W fun e W' => e = .returned (.int .i64 D.tick) ∧ W' = W := by
  obtain ⟨⟨F, h1, h2⟩, h3⟩ := h
  exact qnow_any h1

/-- a block beside it -/
theorem QS.beside (h : QS w0 W S b D) {p : Nat} {o : Obj} (hp : p = W.heap.size) : QS w0 (W.alloc o) (fun k => S k ∨ k = p) b D := by
  obtain ⟨⟨F, h1, h2⟩, h3⟩ := h
  have hb := (Below.refl W.heap.size W).alloc (Nat.le_refl _) o
  refine ⟨⟨F, h1.below hb, fun k hk => ?_⟩, h3.trans (hb.mono h3.size)⟩
  rcases hk with hk | rfl
  · exact ⟨Nat.lt_of_lt_of_le (h2 k hk).1 hb.size, (h2 k hk).2⟩
  · refine ⟨by simp; omega, fun hf => by have := (h1.lt _ hf).1; omega⟩

end

def e1 : Ds := ⟨[⟨5, 1, 7, 1⟩], 0, 1⟩
def e2 : Ds := ⟨[⟨5, 1, 7, 1⟩, ⟨3, 1, 8, 2⟩], 0, 2⟩
def e3 : Ds := ⟨[⟨5, 1, 7, 1⟩, ⟨3, 1, 8, 2⟩, ⟨4, 9, 9, 3⟩], 0, 3⟩
def e4 : Ds := ⟨[⟨5, 1, 7, 1⟩, ⟨3, 1, 8, 2⟩, ⟨4, 9, 9, 3⟩], 5, 3⟩
def e5 : Ds := ⟨[⟨5, 1, 7, 1⟩, ⟨3, 1, 8, 2⟩], 5, 3⟩
def e6 : Ds := ⟨[⟨5, 1, 7, 1⟩], 5, 3⟩
def e7 : Ds := ⟨[], 5, 3⟩
theorem ex1 : putD newD 5 1 7 = (e1, 1, 0) := rfl
theorem ex2 : putD e1 3 1 8 = (e2, 2, 0) := rfl
theorem ex3 : putD e2 4 9 9 = (e3, 3, 0) := rfl
theorem ex4 : takeD e3 = (e3, 0, false) := rfl
theorem ex5 : goD e3 5 = (e4, 0) := rfl
theorem ex6 : takeD e4 = (e5, 9, true) := rfl
theorem ex7 : takeD e5 = (e6, 8, true) := rfl
theorem ex8 : takeD e6 = (e7, 7, true) := rfl

end Du
end Go.Proofs.Ytpjoiepdcilcnaa
