/- Parts of the proof, joined: ShL22; their conditions stand with each. -/
import Derived.Test.YtiobhbagjokpcaaGreatM43

/- The landed shelf: records that are answered, in a row of the call's own; no condition. -/
namespace Go.Proofs.YtiobhbagjokpcaaGreat
namespace Sh
open Go.RowKit Bk Ch Lt Rc Tr

/-- a block that one of the record's lists lies in -/
def Rb (x : RI) (a : Nat) : Prop := (0 < x.l.keys.length ∧ ∃ ad, x.A = some ad ∧ ad.block = a) ∨ (0 < x.l.ws.length ∧ ∃ ad, x.B = some ad ∧ ad.block = a)

/-- what is answered so far -/
structure OutL (W w : World) (v : Value) (X : List RI) : Prop where
  row : w.ownsRow W.heap.size 37 9 v X.length (X.flatMap rcs)
  pv : ∀ x ∈ X, PVal w (fun k => v.ownBlock = some k) x
  new : ∀ x ∈ X, NewR W.heap.size x
  ord : X.Pairwise (fun x y => ∀ a b, Rb x a → Rb y b → a < b)

theorem rb_lt {w : World} {M : Nat → Prop} {x : RI} (h : PVal w M x) {a : Nat} (hb : Rb x a) : a < w.heap.size := by
  rcases hb with ⟨hp, ad, e, rfl⟩ | ⟨hp, ad, e, rfl⟩
  · obtain ⟨ad', e', hl, _⟩ := h.val.ks hp
    rw [e] at e'
    obtain rfl := Option.some.inj e'
    exact hl
  · obtain ⟨ad', e', hl, _⟩ := h.val.ws hp
    rw [e] at e'
    obtain rfl := Option.some.inj e'
    exact hl

theorem rb_ge {X : Nat} {x : RI} (h : NewR X x) {a : Nat} (hb : Rb x a) : X ≤ a := by
  rcases hb with ⟨hp, ad, e, rfl⟩ | ⟨hp, ad, e, rfl⟩
  · exact h.ks hp ad e
  · exact h.ws hp ad e

section
variable {W w w1 w2 : World} {v v' : Value} {X : List RI} {y : RI}

theorem OutL.below (h : OutL W w v X) (hb : Below w.heap.size w w1) : OutL W w1 v X :=
  ⟨st_keep h.row hb, fun x hx => (h.pv x hx).both (Away.of hb) (fun _ hk => .inl hk), h.new, h.ord⟩

theorem OutL.none (w : World) : OutL w w (.slice none 0 0) [] :=
  ⟨World.ownsRow_nil _ _ _ _, by simp, by simp, List.Pairwise.nil⟩

/-- one more -/
theorem OutL.grow (h : OutL W w v X) (hW : W.heap.size ≤ w.heap.size) (hb : Below w.heap.size w w1) (hv : RecVal w1 y.A y.B y.c y.d y.l) (hn : NewR w.heap.size y)
    (ho : w2.ownsRow W.heap.size 37 9 v' (X.length + 1) (X.flatMap rcs ++ rcs y)) (hg : (w1.alloc (.cells (rcs y).toArray 37)).grownBy w2 v.ownBlock)
    (hat : v'.ownBlock = v.ownBlock ∨ v'.ownBlock = some (w1.heap.size + 1)) : OutL W w2 v' (X ++ [y]) := by
  have hb1 := (Below.refl _ w1).alloc (Nat.le_refl _) (.cells (rcs y).toArray 37)
  have hsz : (w1.alloc (.cells (rcs y).toArray 37)).heap.size = w1.heap.size + 1 := Array.size_push ..
  rw [← hsz] at hat
  have hlt : ∀ k, v.ownBlock = some k → k < w.heap.size := fun k hk => (h.row.lt k hk).2
  have aw : Away (fun k => v.ownBlock = some k) (w1.alloc (.cells (rcs y).toArray 37)) w2 := ⟨hg.size, fun k hk hn => hg.block k hk (fun e => hn e.symm)⟩
  have tn : ∀ k, v'.ownBlock = some k → v.ownBlock = some k ∨ (w1.alloc (.cells (rcs y).toArray 37)).heap.size ≤ k := fun k hk => by
    rcases hat with e | e
    · exact .inl (by rw [← e]; exact hk)
    · rw [e] at hk
      exact .inr (by rw [Option.some.inj hk]; exact Nat.le_refl _)
  have hy1 : PVal w1 (fun k => v.ownBlock = some k) y := pval_new hv hn hlt
  have h1 : ∀ x ∈ X ++ [y], PVal w1 (fun k => v.ownBlock = some k) x := fun x hx => by
    rcases List.mem_append.1 hx with hx | hx
    · exact (h.below hb).pv x hx
    · rw [List.mem_singleton.1 hx]
      exact hy1
  refine ⟨?_, fun x hx => ((h1 x hx).both (Away.of hb1) (fun _ hk => .inl hk)).both aw tn, fun x hx => ?_, ?_⟩
  · rw [List.length_append, List.flatMap_append]
    simpa using ho
  · rcases List.mem_append.1 hx with hx | hx
    · exact h.new x hx
    · rw [List.mem_singleton.1 hx]
      exact ⟨fun hp ad e => Nat.le_trans hW (hn.ks hp ad e), fun hp ad e => Nat.le_trans hW (hn.ws hp ad e)⟩
  · refine List.pairwise_append.2 ⟨h.ord, List.pairwise_singleton .., fun x hx z hz a b ha hb' => ?_⟩
    rw [List.mem_singleton.1 hz] at hb'
    exact Nat.lt_of_lt_of_le (rb_lt (h.pv x hx) ha) (rb_ge hn hb')

end

end Sh
end Go.Proofs.YtiobhbagjokpcaaGreat
