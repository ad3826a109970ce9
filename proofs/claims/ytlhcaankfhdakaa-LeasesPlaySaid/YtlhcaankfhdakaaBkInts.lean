/- A slice's whole numbers, as StrsAt says of texts; SameInts; no condition but the range. -/
import Derived.Test.YtlhcaankfhdakaaBk
namespace Go.Proofs.Ytlhcaankfhdakaa
namespace Bk
open Go.RowKit

attribute [local go_sem ↓] Go.wp_at_zero Go.wp_at_succ

def intV (l : List Int) : List Value := l.map (Value.int .i64)

theorem intV_len (l : List Int) : (intV l).length = l.length := by simp [intV]

theorem intV_at {l : List Int} {i : Nat} (h : i < l.length) : (intV l)[i]? = some (.int .i64 l[i]) := by
  unfold intV
  rw [List.getElem?_map, List.getElem?_eq_getElem h]; rfl

theorem intV_snoc (O : List Int) (x : Int) : intV (O ++ [x]) = intV O ++ [.int .i64 x] := by simp [intV]

/-- the slice v holds the numbers l -/
def IntsAt (w : World) (A : Option Addr) (l : List Int) : Prop :=
  0 < l.length → ∃ ad, A = some ad ∧ ad.block < w.heap.size ∧ ∀ i (h : i < l.length), w.cell? (ad.add i) = some (.int .i64 l[i])

theorem IntsAt.below {w w' : World} {A : Option Addr} {l : List Int} (h : IntsAt w A l) (hb : Below w.heap.size w w') : IntsAt w' A l := fun hp => by
  obtain ⟨ad, h1, h2, h3⟩ := h hp
  exact ⟨ad, h1, Nat.lt_of_lt_of_le h2 hb.size, fun i hi => (cell_kept hb _ (by rw [st_block]; exact h2)).trans (h3 i hi)⟩

theorem IntsAt.alloc {w : World} {A : Option Addr} {l : List Int} (h : IntsAt w A l) (o : Obj) : IntsAt (w.alloc o) A l := h.below ((Below.refl _ w).alloc (Nat.le_refl _) o)

theorem IntsAt.drewN {w : World} {A : Option Addr} {l : List Int} (h : IntsAt w A l) (n : Nat) : IntsAt (w.drewN n) A l := h

theorem IntsAt.blk {w : World} {g : Nat} {t : TypeId} {l : List Int} (h : w.heap[g]? = some (.cells (intV l).toArray t (0, 0))) : IntsAt w (some ⟨g, 0, none⟩) l := fun _ =>
  ⟨_, rfl, (Array.getElem?_eq_some_iff.1 h).1, fun i hi => by rw [addr_head]; exact blk_cell h (by rw [List.getElem?_toArray]; exact intV_at hi)⟩

theorem IntsAt.own {w : World} {H g n cap : Nat} {e : TypeId} {l : List Int} (h : w.ownsRow H e 1 (.slice (some ⟨g, 0, none⟩) n cap) n (intV l)) (hl : n = l.length) : IntsAt w (some ⟨g, 0, none⟩) l := fun hp => by
  have hf := World.ownsRow.cellAt h
  refine ⟨_, rfl, ?_, fun i hi => ?_⟩
  · obtain ⟨g', cap', hv, _, hlt⟩ := World.ownsRow.form h (by omega)
    simp only [Value.slice.injEq, Option.some.injEq, Addr.mk.injEq] at hv
    obtain ⟨⟨rfl, -⟩, -⟩ := hv
    exact hlt
  · rw [addr_head, hf i (by omega)]
    exact intV_at hi

theorem ints_of_own {w : World} {H n : Nat} {v : Value} {e : TypeId} {O : List Int} (h : w.ownsRow H e 1 v n (intV O)) (hl : n = O.length) : ∃ (A : Option Addr) (c : Nat), v = .slice A n c ∧ IntsAt w A O := by
  have h2 := h.2
  rcases h2 with ⟨h1, h2, h3⟩ | ⟨g, cap, cur, h1, _⟩
  · exact ⟨none, 0, h1, fun hp => absurd hl (by omega)⟩
  · subst h1
    exact ⟨_, _, rfl, IntsAt.own h hl⟩

theorem strs_of_own2 {w : World} {H n : Nat} {v : Value} {e : TypeId} {O : List ByteArray} (h : w.ownsRow H e 1 v n (strV O)) (hl : n = O.length) : ∃ (A : Option Addr) (c : Nat), v = .slice A n c ∧ StrsAt w A O := by
  have h2 := h.2
  rcases h2 with ⟨h1, h2, h3⟩ | ⟨g, cap, cur, h1, _⟩
  · exact ⟨none, 0, h1, fun hp => absurd hl (by omega)⟩
  · subst h1
    exact ⟨_, _, rfl, StrsAt.own h hl⟩

theorem IntsAt.news {w : World} {ad : Addr} {l : List Int} (h : IntsAt w (some ad) l) : ∀ j u, (intV l)[j]? = some u → w.cell? (ad.add j) = some u := fun j u hu => by
  have hj : j < l.length := by
    have := (List.getElem?_eq_some_iff.1 hu).1
    rwa [intV_len] at this
  obtain ⟨a', e, _, h3⟩ := h (by omega)
  obtain rfl := Option.some.inj e
  rw [intV_at hj] at hu
  rw [← hu]
  exact h3 j hj

end Bk
end Go.Proofs.Ytlhcaankfhdakaa
