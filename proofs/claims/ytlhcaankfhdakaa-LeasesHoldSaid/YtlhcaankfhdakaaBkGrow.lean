/- Onto a row of the call's own one cell is appended at a step of a drawn region: what stands, and what is there; no condition. -/
import Derived.Test.YtlhcaankfhdakaaFloatK
import Derived.Test.YtlhcaankfhdakaaBkStr
import Derived.Maps.AppendAt
namespace Go.Proofs.Ytlhcaankfhdakaa
namespace Bk
open Go.RowKit

/-- no old block is written, or the cell is laid behind the row, where there is room -/
def GrK (T : TypeId) (r : Option Nat) (pre : List Value) (u : Value) (W W' : World) : Prop :=
  Below W.heap.size W W' ∨ ∃ (g : Nat) (cur : Array Value), r = some g ∧ W.heap[g]? = some (.cells cur T (0, 0)) ∧ pre.length + 1 ≤ cur.size ∧ cur.toList.take pre.length = pre ∧ W' = W.setRow g (pre ++ [u] ++ cur.toList.drop (pre.length + 1)).toArray

section
variable {T : TypeId} {r : Option Nat} {pre : List Value} {u : Value} {w W W' : World}

theorem GrK.grown (h : GrK T r pre u W W') : W.grownBy W' r := by
  rcases h with h | ⟨g, cur, rfl, _, _, _, rfl⟩
  · exact ⟨h.os, h.tape, h.output, h.size, fun k hk _ => h.block k hk⟩
  · exact ⟨rfl, rfl, rfl, by simp, fun k _ hk => setRow_other W g k _ (fun e => hk (by rw [e]))⟩

theorem GrK.size (h : GrK T r pre u W W') : W.heap.size ≤ W'.heap.size := h.grown.size

theorem GrK.below {X : Nat} (h : Below X w W) (hX : X ≤ W.heap.size) (hr : ∀ g, r = some g → X ≤ g) (hk : GrK T r pre u W W') : Below X w W' := h.grown hk.grown hX hr

theorem GrK.cel {k : Nat} {t : TypeId} {xs : List Value} (h : Cel W k t xs) (hn : r ≠ some k) (hk : GrK T r pre u W W') : Cel W' k t xs := (hk.grown.block k h.lt (fun e => hn e.symm)).trans h

theorem GrK.blk {k : Nat} {o : Obj} (h : W.heap[k]? = some o) (hn : r ≠ some k) (hk : GrK T r pre u W W') : W'.heap[k]? = some o := (hk.grown.block k (Array.getElem?_eq_some_iff.1 h).1 (fun e => hn e.symm)).trans h

/-- the row, ahead of it -/
theorem GrK.first {H n : Nat} {v : Value} (h : W.ownsRow H T 1 v n pre) (hk : GrK T r pre u W W') : W'.ownsRow H T 1 v n pre := by
  rcases hk with hb | ⟨g, cur, rfl, hg, hz, ht, rfl⟩
  · exact st_keep h hb
  · refine ⟨h.1, ?_⟩
    rcases h.2 with h' | ⟨g2, cap2, cur2, hv, hH, hg2, h1, h2, h3, h4⟩
    · exact .inl h'
    · right
      by_cases e : g2 = g
      · subst e
        rw [hg] at hg2
        simp only [Option.some.injEq, Obj.cells.injEq, and_true] at hg2
        obtain rfl := hg2
        refine ⟨g2, cap2, _, hv, hH, setRow_heap W g2 _ _ T _ hg, h1, h2, ?_, ?_⟩
        · rw [← h3]
          simp only [List.size_toArray, List.length_append, List.length_drop, Array.length_toList, List.length_singleton]
          omega
        · rw [List.toList_toArray, List.append_assoc]
          have hl : pre.length = n * 1 := h.1
          rw [List.take_append_of_le_length (by omega), List.take_of_length_le (by omega)]
      · exact ⟨g2, cap2, cur2, hv, hH, (setRow_other W g g2 _ e).trans hg2, h1, h2, h3, h4⟩

/-- the row that has grown, wherever it lies -/
theorem GrK.more {H n : Nat} {v : Value} (h : W.ownsRow H T 1 v n (pre ++ [u])) (hk : GrK T r pre u W W') : W'.ownsRow H T 1 v n (pre ++ [u]) := by
  rcases hk with hb | ⟨g, cur, rfl, hg, hz, ht, rfl⟩
  · exact st_keep h hb
  · refine ⟨h.1, ?_⟩
    rcases h.2 with h' | ⟨g2, cap2, cur2, hv, hH, hg2, h1, h2, h3, h4⟩
    · exact .inl h'
    · right
      by_cases e : g2 = g
      · subst e
        rw [hg] at hg2
        simp only [Option.some.injEq, Obj.cells.injEq, and_true] at hg2
        obtain rfl := hg2
        refine ⟨g2, cap2, _, hv, hH, setRow_heap W g2 _ _ T _ hg, h1, h2, ?_, ?_⟩
        · rw [← h3]
          simp only [List.size_toArray, List.length_append, List.length_drop, Array.length_toList, List.length_singleton]
          omega
        · rw [List.toList_toArray]
          have hl : (pre ++ [u]).length = n * 1 := h.1
          rw [List.take_append_of_le_length (by omega), List.take_of_length_le (by omega)]
      · exact ⟨g2, cap2, cur2, hv, hH, (setRow_other W g g2 _ e).trans hg2, h1, h2, h3, h4⟩

theorem grown_none (h : W.grownBy W' none) : Below W.heap.size W W' := ⟨h.os, h.tape, h.output, h.size, fun k hk => h.block k hk (by simp)⟩

/-- one cell is appended -/
theorem run_grow1 {P : Program} {H bytes o : Nat} {t ty : TypeId} {i : TypeInfo} {z v : Value} (ht : P.underlying t = some (.slice T)) (hi : P.info? T = some i) (hz : i.zero = some z) (hsize : i.size = 1) (hby : i.bytes = bytes) (hzs : z.cells.size = 1)
    (hown : W.ownsRow H T 1 v pre.length pre) (hr : r = v.ownBlock) (ho : W.heap[o]? = some (.cells #[u] T (0, 0))) (h1 : u.oneCell' = true)
    (h63 : pre.length + 1 ≤ maxLen) (hbytes : (pre.length + 1) * bytes ≤ 140737488355328) (hbase : H ≤ W.heap.size) :
    ∃ v' W', (Builtin.append_ #[t, t] ty #[v, .slice (some ⟨o, 0, none⟩) 1 1]).run P W = .ok v' W' ∧ W'.ownsRow H T 1 v' (pre.length + 1) (pre ++ [u]) ∧ GrK T r pre u W W' ∧ (v'.ownBlock = r ∨ v'.ownBlock = some W.heap.size) := by
  subst hr
  obtain ⟨v', w', hrun, h2, h3, _, h5⟩ := run_append_own_at (P := P) W H t ty T i z 1 bytes ht hi hz hsize hby hzs (by decide) v pre.length pre hown ⟨o, 0, none⟩ 1 1 [u] rfl (str_one ho) (fun q hq => by simp at hq; subst hq; exact h1) h63 hbytes hbase
  refine ⟨v', w', hrun, h2, ?_, h5⟩
  rcases hown.2 with ⟨h', h''⟩ | ⟨g, cap, cur, hv, hbg, hg, hnc, hcm, hcs, htake⟩
  · subst h'
    exact .inl (grown_none h3)
  · subst hv
    by_cases hroom : pre.length + 1 ≤ cap
    · have hr2 := run_append_room (P := P) W t ty T i ht hi g pre.length cap cur hg ⟨o, 0, none⟩ 1 1 [u] (by rw [hsize]; rfl) (str_one ho) (fun q hq => by simp at hq; subst hq; exact h1) hroom (by rw [hsize]; simp; omega)
      rw [hrun] at hr2
      simp only [Result.ok.injEq] at hr2
      refine .inr ⟨g, cur, rfl, hg, by omega, by rw [Nat.mul_one] at htake; exact htake, ?_⟩
      rw [hr2.2, hsize, Nat.mul_one]
      rw [Nat.mul_one] at htake
      rw [htake]; rfl
    · have hr2 := run_append_grow (P := P) W t ty T i z ht hi hz ⟨g, 0, none⟩ pre.length cap pre (by rw [hsize, Nat.mul_one]) (hown.cells (g := g) rfl) ⟨o, 0, none⟩ 1 1 [u] (by rw [hsize]; rfl) (str_one ho) (by omega) (by unfold maxLen at h63; omega) (growslice_fits (by unfold maxLen at h63; omega) (by rw [hby]; exact hbytes))
      rw [hrun] at hr2
      simp only [Result.ok.injEq] at hr2
      left
      rw [hr2.2]
      exact (Below.refl _ W).drew.alloc (by simp) _

theorem satK_of {K : World → World → Prop} {L : List (Value → World → Prop)} (h : ∀ S ∈ L, ∀ v W W', S v W → K W W' → S v W') : ∀ i v W W', satK L i v W → K W W' → satK L i v W' := fun i v W W' hs hk => by
  unfold satK at hs ⊢
  rw [List.getD_eq_getElem?_getD] at hs ⊢
  cases e : L[i]? with
  | none => trivial
  | some S =>
    rw [e] at hs
    exact h S (List.mem_of_getElem? e) v W W' hs hk

end

end Bk
end Go.Proofs.Ytlhcaankfhdakaa
