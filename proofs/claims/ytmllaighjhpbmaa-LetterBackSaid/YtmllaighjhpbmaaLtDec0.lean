/- Parts of slices, nine cells that are written over, and writes of the call's own; no condition. -/
import Derived.Test.YtmllaighjhpbmaaLtCand
namespace Go.Proofs.Ytmllaighjhpbmaa
namespace Lt
open Go.RowKit Bk

attribute [local go_sem ↓] Go.wp_at_zero Go.wp_at_succ
attribute [local go_sem] floatUpon pick

/-- the zero letter in its block -/
theorem zero_cells (w : World) : Cel (w.alloc (.cells #[.int .i64 0, .int .i64 0, .int .i64 0, .int .i64 0, .int .i64 0, .int .i64 0, .string ⟨#[]⟩, .slice none 0 0, .slice none 0 0] 25)) w.heap.size 25 [.int .i64 0, .int .i64 0, .int .i64 0, .int .i64 0, .int .i64 0, .int .i64 0, .string ⟨#[]⟩, .slice none 0 0, .slice none 0 0] := (blk1 w _).2

theorem add_add (a : Addr) (k i : Nat) : (a.add k).add i = a.add (k + i) := by
  unfold Addr.add
  by_cases hk : k = 0
  · subst hk; simp
  · by_cases hi : i = 0
    · subst hi; simp [hk]
    · simp [hk, hi, Nat.add_assoc]

theorem add_lit (a : Addr) (k : Nat) (h : 0 < k) : (⟨a.block, a.off + k, none⟩ : Addr) = a.add k := by unfold Addr.add; rw [if_neg (by omega)]

theorem ints_sub {w : World} {a : Addr} {l : List Int} {k c : Nat} (h : IntsAt w (some a) l) (hc : l.length ≤ c) : IntsAt w (if c = k then some a else some (a.add k)) (l.drop k) := fun hp => by
  rw [List.length_drop] at hp
  obtain ⟨a', e, hb, hcl⟩ := h (by omega)
  obtain rfl := Option.some.inj e
  refine ⟨a.add k, by rw [if_neg (by omega)], by rw [st_block]; exact hb, fun i hi => ?_⟩
  rw [List.length_drop] at hi
  rw [add_add, hcl (k + i) (by omega), List.getElem_drop]

theorem strs_sub {w : World} {a : Addr} {l : List ByteArray} {k c : Nat} (h : StrsAt w (some a) l) (hc : l.length ≤ c) : StrsAt w (if c = k then some a else some (a.add k)) (l.drop k) := fun hp => by
  rw [List.length_drop] at hp
  obtain ⟨a', e, hb, hcl⟩ := h (by omega)
  obtain rfl := Option.some.inj e
  refine ⟨a.add k, by rw [if_neg (by omega)], by rw [st_block]; exact hb, fun i hi => ?_⟩
  rw [List.length_drop] at hi
  rw [add_add, hcl (k + i) (by omega), List.getElem_drop]

theorem strs_take {w : World} {A : Option Addr} {l : List ByteArray} (h : StrsAt w A l) (q : Nat) : StrsAt w A (l.take q) := fun hp => by
  rw [List.length_take] at hp
  obtain ⟨a, e, hb, hcl⟩ := h (by omega)
  refine ⟨a, e, hb, fun i hi => ?_⟩
  rw [List.length_take] at hi
  rw [hcl i (by omega), List.getElem_take]

theorem strs_far {w W : World} {A : Option Addr} {l : List ByteArray} (h : StrsAt w A l) {R : Nat} (hR : ∀ a, A = some a → a.block ≠ R) (hs : w.heap.size ≤ W.heap.size) (he : ∀ a : Addr, a.block ≠ R → W.cell? a = w.cell? a) : StrsAt W A l := fun hp => by
  obtain ⟨a, e, hb, hcl⟩ := h hp
  exact ⟨a, e, Nat.lt_of_lt_of_le hb hs, fun i hi => (he _ (by rw [st_block]; exact hR a e)).trans (hcl i hi)⟩

theorem wrs_far {w W : World} {A : Option Addr} {l : List Wr} (h : WrsAt w A l) {R : Nat} (hR : ∀ a, A = some a → a.block ≠ R) (hs : w.heap.size ≤ W.heap.size) (he : ∀ a : Addr, a.block ≠ R → W.cell? a = w.cell? a) : WrsAt W A l := fun hp => by
  obtain ⟨a, e, hb, hcl⟩ := h hp
  exact ⟨a, e, Nat.lt_of_lt_of_le hb hs, fun i hi => ⟨(he _ (by rw [st_block]; exact hR a e)).trans (hcl i hi).1, (he _ (by rw [st_block]; exact hR a e)).trans (hcl i hi).2.1, (he _ (by rw [st_block]; exact hR a e)).trans (hcl i hi).2.2⟩⟩

theorem below_row {w W : World} {H o : Nat} (h : Below H w W) (ho : H ≤ o) (cs : Array Value) : Below H w (W.setRow o cs) :=
  h.trans ⟨rfl, rfl, rfl, by simp, fun k hk => setRow_other _ _ _ _ (by omega)⟩

/-- nine cells are written over -/
def set9 (W : World) (R : Nat) (v0 v1 v2 v3 v4 v5 v6 v7 v8 : Value) : World :=
  (((((((((W.setCell ⟨R, 0, none⟩ v0).setCell ⟨R, 1, none⟩ v1).setCell ⟨R, 2, none⟩ v2).setCell ⟨R, 3, none⟩ v3).setCell ⟨R, 4, none⟩ v4).setCell ⟨R, 5, none⟩ v5).setCell ⟨R, 6, none⟩ v6).setCell ⟨R, 7, none⟩ v7).setCell ⟨R, 8, none⟩ v8)

theorem set9_cel {W : World} {R : Nat} {t : TypeId} {u0 u1 u2 u3 u4 u5 u6 u7 u8 v0 v1 v2 v3 v4 v5 v6 v7 v8 : Value} (h : Cel W R t [u0, u1, u2, u3, u4, u5, u6, u7, u8]) : Cel (set9 W R v0 v1 v2 v3 v4 v5 v6 v7 v8) R t [v0, v1, v2, v3, v4, v5, v6, v7, v8] :=
  ((((((((h.set (i := 0) (v := v0)).set (i := 1) (v := v1)).set (i := 2) (v := v2)).set (i := 3) (v := v3)).set (i := 4) (v := v4)).set (i := 5) (v := v5)).set (i := 6) (v := v6)).set (i := 7) (v := v7)).set (i := 8) (v := v8)

theorem set9_below {w W : World} {H R : Nat} {v0 v1 v2 v3 v4 v5 v6 v7 v8 : Value} (h : Below H w W) (hR : H ≤ R) : Below H w (set9 W R v0 v1 v2 v3 v4 v5 v6 v7 v8) :=
  ((((((((h.setCell (p := ⟨R, 0, none⟩) hR v0).setCell (p := ⟨R, 1, none⟩) hR v1).setCell (p := ⟨R, 2, none⟩) hR v2).setCell (p := ⟨R, 3, none⟩) hR v3).setCell (p := ⟨R, 4, none⟩) hR v4).setCell (p := ⟨R, 5, none⟩) hR v5).setCell (p := ⟨R, 6, none⟩) hR v6).setCell (p := ⟨R, 7, none⟩) hR v7).setCell (p := ⟨R, 8, none⟩) hR v8

theorem set9_other {W : World} {R : Nat} {v0 v1 v2 v3 v4 v5 v6 v7 v8 : Value} {a : Addr} (h : a.block ≠ R) : (set9 W R v0 v1 v2 v3 v4 v5 v6 v7 v8).cell? a = W.cell? a := by
  have hh : (set9 W R v0 v1 v2 v3 v4 v5 v6 v7 v8).heap[a.block]? = W.heap[a.block]? := by
    have e : ∀ (W : World) (i : Nat) (v : Value), (W.setCell ⟨R, i, none⟩ v).heap[a.block]? = W.heap[a.block]? := fun W i v => Below.heap_setCell W ⟨R, i, none⟩ v a.block h
    unfold set9
    rw [e, e, e, e, e, e, e, e, e]
  exact World.cell?_of_block hh

theorem set9_size {W : World} {R : Nat} {v0 v1 v2 v3 v4 v5 v6 v7 v8 : Value} : (set9 W R v0 v1 v2 v3 v4 v5 v6 v7 v8).heap.size = W.heap.size := by
  unfold set9; simp

/-- the writes of a row that was made behind block X -/
def SW (X n : Nat) (L : List Wr) (A : Option Addr) (c : Nat) (W : World) : Prop := WrsAt W A L ∧ n ≤ c ∧ c ≤ maxLen ∧ (A = none → c = 0) ∧ ∀ a, A = some a → X ≤ a.block

theorem SW.keep {X n : Nat} {L : List Wr} {A : Option Addr} {c : Nat} {W W' : World} (h : SW X n L A c W) (hb : Below W.heap.size W W') : SW X n L A c W' := ⟨h.1.below hb, h.2⟩

def S85 (X n : Nat) (L : List Wr) (v : Value) (W : World) : Prop := ∃ A c, v = .tuple #[.slice A n c, .bool true] ∧ SW X n L A c W
def S86 (X n : Nat) (L : List Wr) (v : Value) (W : World) : Prop := ∃ A c, v = .slice A n c ∧ SW X n L A c W
theorem S85.keep {X n : Nat} {L : List Wr} {v : Value} {W W' : World} (h : S85 X n L v W) (hb : Below W.heap.size W W') : S85 X n L v W' := by
  obtain ⟨A, c, e, h⟩ := h; exact ⟨A, c, e, h.keep hb⟩
theorem S86.keep {X n : Nat} {L : List Wr} {v : Value} {W W' : World} (h : S86 X n L v W) (hb : Below W.heap.size W W') : S86 X n L v W' := by
  obtain ⟨A, c, e, h⟩ := h; exact ⟨A, c, e, h.keep hb⟩

theorem wrs_own2 {w : World} {H n : Nat} {v : Value} {e : TypeId} {l : List Wr} (h : w.ownsRow H e 3 v n (wrV l)) (hl : n = l.length) {X : Nat} (hX : X ≤ H) : ∃ (A : Option Addr) (c : Nat), v = .slice A n c ∧ SW X n l A c w := by
  obtain ⟨A, c, rfl, h1, h2, h3, h4⟩ := wrs_own h hl
  exact ⟨A, c, rfl, h1, h2, h3, h4, fun a ea => Nat.le_trans hX (h.lt a.block (by rw [ea]; rfl)).1⟩

end Lt
end Go.Proofs.Ytmllaighjhpbmaa
