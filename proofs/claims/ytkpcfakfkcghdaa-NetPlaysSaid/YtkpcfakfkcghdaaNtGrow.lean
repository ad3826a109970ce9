/- Onto a row of the region's own cells are appended at a step of a drawn region, any elements; no condition. -/
import Derived.Test.YtkpcfakfkcghdaaNtRow
import Derived.Test.YtkpcfakfkcghdaaA10
namespace Go.Proofs.Ytkpcfakfkcghdaa
namespace Nt
open Go.RowKit Bk

/-- no old block is written, or cells are laid behind a row of a block from H on, where there is room -/
def GrN (H : Nat) (T : TypeId) (pre us : List Value) (W W' : World) : Prop :=
  Below W.heap.size W W' ∨ ∃ (g : Nat) (cur : Array Value), H ≤ g ∧ W.heap[g]? = some (.cells cur T (0, 0)) ∧ pre.length + us.length ≤ cur.size ∧ cur.toList.take pre.length = pre ∧ W' = W.setRow g (pre ++ us ++ cur.toList.drop (pre.length + us.length)).toArray

section
variable {T : TypeId} {H : Nat} {pre us : List Value} {w W W' : World}

theorem GrN.below {X : Nat} (h : Below X w W) (hX : X ≤ W.heap.size) (hH : X ≤ H) (hk : GrN H T pre us W W') : Below X w W' := by
  rcases hk with hk | ⟨g, cur, hg, _, _, _, rfl⟩
  · exact h.trans (hk.mono hX)
  · exact ⟨h.os, h.tape, h.output, by simpa using h.size, fun k hk => (setRow_other W g k _ (by omega)).trans (h.block k hk)⟩

theorem GrN.size (hk : GrN H T pre us W W') : W.heap.size ≤ W'.heap.size := by
  rcases hk with hk | ⟨g, cur, _, _, _, _, rfl⟩
  · exact hk.size
  · simp

theorem GrN.lit {p : Nat} {t : TypeId} (h : W.heap[p]? = some (.cells #[] t (0, 0))) (hk : GrN H T pre us W W') : W'.heap[p]? = some (.cells #[] t (0, 0)) := by
  rcases hk with hk | ⟨g, cur, _, hg, hz, _, rfl⟩
  · exact (hk.block p (Array.getElem?_eq_some_iff.1 h).1).trans h
  · by_cases e : p = g
    · subst e
      rw [h] at hg
      simp only [Option.some.injEq, Obj.cells.injEq, and_true] at hg
      obtain ⟨rfl, rfl⟩ := hg
      have h1 : pre = [] := List.eq_nil_of_length_eq_zero (by simp at hz; simp [hz.1])
      have h2 : us = [] := List.eq_nil_of_length_eq_zero (by simp at hz; simp [hz.2])
      subst h1 h2
      exact setRow_heap W p _ _ t _ h
    · exact (setRow_other W g p _ e).trans h

/-- the row, ahead of it or behind it -/
theorem GrN.row {B n sz : Nat} {v : Value} {xs : List Value} (h : W.ownsRow B T sz v n xs) (hx : xs = pre ∨ xs = pre ++ us) (hk : GrN H T pre us W W') : W'.ownsRow B T sz v n xs := by
  rcases hk with hb | ⟨g, cur, hH', hg, hz, ht, rfl⟩
  · exact st_keep h hb
  · refine ⟨h.1, ?_⟩
    rcases h.2 with h' | ⟨g2, cap2, cur2, hv, hH, hg2, h1, h2, h3, h4⟩
    · exact .inl h'
    · right
      by_cases e : g2 = g
      · subst e
        rw [hg] at hg2
        simp only [Option.some.injEq, Obj.cells.injEq, and_true] at hg2
        obtain rfl := hg2
        refine ⟨g2, cap2, _, hv, hH, setRow_heap W g2 _ _ T _ hg, h1, h2, ?_, ?_⟩
        · rw [← h3]
          simp only [List.size_toArray, List.length_append, List.length_drop, Array.length_toList]
          omega
        · rw [List.toList_toArray]
          have hl : xs.length = n * sz := h.1
          rcases hx with rfl | rfl
          · rw [List.append_assoc, List.take_append_of_le_length (by omega), List.take_of_length_le (by omega)]
          · rw [List.take_append_of_le_length (by omega), List.take_of_length_le (by omega)]
      · exact ⟨g2, cap2, cur2, hv, hH, (setRow_other W g g2 _ e).trans hg2, h1, h2, h3, h4⟩

/-- cells are appended -/
theorem run_growN {P : Program} {bytes sz n m c : Nat} {A : Option Addr} {t ty : TypeId} {i : TypeInfo} {z v : Value} (ht : P.underlying t = some (.slice T)) (hi : P.info? T = some i) (hz : i.zero = some z) (hsize : i.size = sz) (hby : i.bytes = bytes) (hzs : z.cells.size = sz) (h0 : 0 < sz)
    (hown : W.ownsRow H T sz v n pre) (hl : us.length = m * sz) (hA : A = none → m = 0 ∧ c = 0) (hnews : ∀ ad, A = some ad → ∀ j u, us[j]? = some u → W.cell? (ad.add j) = some u) (h1 : ∀ u ∈ us, u.oneCell' = true)
    (h63 : n + m ≤ maxLen) (hbytes : (n + m) * bytes ≤ 140737488355328) (hbase : H ≤ W.heap.size) :
    ∃ v' W', (Builtin.append_ #[t, t] ty #[v, .slice A m c]).run P W = .ok v' W' ∧ W'.ownsRow H T sz v' (n + m) (pre ++ us) ∧ GrN H T pre us W W' := by
  obtain ⟨v', w', hrun, h2, h3, h5⟩ := run_append_optN (P := P) W H t ty T i z sz bytes ht hi hz hsize hby hzs h0 v n pre hown A m c us hl hA hnews h1 h63 hbytes hbase
  refine ⟨v', w', hrun, h2, ?_⟩
  have hpl : pre.length = n * sz := hown.1
  cases A with
  | none =>
    obtain ⟨rfl, rfl⟩ := hA rfl
    have hr2 := run_append_owned_none (P := P) W H t ty T i sz ht hi _ _ _ hown
    rw [hrun] at hr2
    simp only [Result.ok.injEq] at hr2
    left
    rw [hr2.2]; exact Below.refl _ _
  | some ad =>
    rcases hown.2 with ⟨h', h''⟩ | ⟨g, cap, cur, hv, hbg, hg, hnc, hcm, hcs, htake⟩
    · subst h'
      left
      exact ⟨h3.os, h3.tape, h3.output, h3.size, fun k hk => h3.block k hk (by simp [Value.ownBlock])⟩
    · subst hv
      by_cases hroom : n + m ≤ cap
      · have hr2 := run_append_room (P := P) W t ty T i ht hi g n cap cur hg ad m c us (by rw [hsize]; omega) (hnews ad rfl) h1 hroom (by rw [hsize, hcs, hl, ← Nat.add_mul]; exact Nat.mul_le_mul_right _ hroom)
        rw [hrun] at hr2
        simp only [Result.ok.injEq] at hr2
        refine .inr ⟨g, cur, hbg, hg, by rw [hpl, hl, hcs, ← Nat.add_mul]; exact Nat.mul_le_mul_right _ hroom, by rw [hpl]; exact htake, ?_⟩
        rw [hr2.2, hsize, htake, hpl]
      · have hr2 := run_append_grow (P := P) W t ty T i z ht hi hz ⟨g, 0, none⟩ n cap pre (by rw [hsize]; exact hpl) (hown.cells (g := g) rfl) ad m c us (by rw [hsize]; exact hl) (hnews ad rfl) (by omega) (by unfold maxLen at h63; omega) (growslice_fits (by unfold maxLen at h63; omega) (by rw [hby]; exact hbytes))
        rw [hrun] at hr2
        simp only [Result.ok.injEq] at hr2
        left
        rw [hr2.2]
        exact (Below.refl _ W).drew.alloc (by simp) _

end

/-- no old block is written, or cells are laid behind the row of block r, where there is room -/
def GrR (r : Option Nat) (T : TypeId) (pre us : List Value) (W W' : World) : Prop :=
  Below W.heap.size W W' ∨ ∃ (g : Nat) (cur : Array Value), r = some g ∧ W.heap[g]? = some (.cells cur T (0, 0)) ∧ pre.length + us.length ≤ cur.size ∧ cur.toList.take pre.length = pre ∧ W' = W.setRow g (pre ++ us ++ cur.toList.drop (pre.length + us.length)).toArray

section
variable {T : TypeId} {r : Option Nat} {pre us : List Value} {w W W' : World}

theorem GrR.grown (h : GrR r T pre us W W') : W.grownBy W' r := by
  rcases h with h | ⟨g, cur, rfl, _, _, _, rfl⟩
  · exact ⟨h.os, h.tape, h.output, h.size, fun k hk _ => h.block k hk⟩
  · exact ⟨rfl, rfl, rfl, by simp, fun k _ hk => setRow_other W g k _ (fun e => hk (by rw [e]))⟩

/-- the row, ahead of it or behind it -/
theorem GrR.row {B n sz : Nat} {v : Value} {xs : List Value} (h : W.ownsRow B T sz v n xs) (hx : xs = pre ∨ xs = pre ++ us) (hk : GrR r T pre us W W') : W'.ownsRow B T sz v n xs := by
  rcases hk with hb | ⟨g, cur, hH', hg, hz, ht, rfl⟩
  · exact st_keep h hb
  · refine ⟨h.1, ?_⟩
    rcases h.2 with h' | ⟨g2, cap2, cur2, hv, hH, hg2, h1, h2, h3, h4⟩
    · exact .inl h'
    · right
      by_cases e : g2 = g
      · subst e
        rw [hg] at hg2
        simp only [Option.some.injEq, Obj.cells.injEq, and_true] at hg2
        obtain rfl := hg2
        refine ⟨g2, cap2, _, hv, hH, setRow_heap W g2 _ _ T _ hg, h1, h2, ?_, ?_⟩
        · rw [← h3]
          simp only [List.size_toArray, List.length_append, List.length_drop, Array.length_toList]
          omega
        · rw [List.toList_toArray]
          have hl : xs.length = n * sz := h.1
          rcases hx with rfl | rfl
          · rw [List.append_assoc, List.take_append_of_le_length (by omega), List.take_of_length_le (by omega)]
          · rw [List.take_append_of_le_length (by omega), List.take_of_length_le (by omega)]
      · exact ⟨g2, cap2, cur2, hv, hH, (setRow_other W g g2 _ e).trans hg2, h1, h2, h3, h4⟩

/-- cells are appended -/
theorem run_growR {P : Program} {bytes sz n m c : Nat} {A : Option Addr} {t ty : TypeId} {i : TypeInfo} {z v : Value} (ht : P.underlying t = some (.slice T)) (hi : P.info? T = some i) (hz : i.zero = some z) (hsize : i.size = sz) (hby : i.bytes = bytes) (hzs : z.cells.size = sz) (h0 : 0 < sz)
    {H : Nat} (hr : r = v.ownBlock) (hown : W.ownsRow H T sz v n pre) (hl : us.length = m * sz) (hA : A = none → m = 0 ∧ c = 0) (hnews : ∀ ad, A = some ad → ∀ j u, us[j]? = some u → W.cell? (ad.add j) = some u) (h1 : ∀ u ∈ us, u.oneCell' = true)
    (h63 : n + m ≤ maxLen) (hbytes : (n + m) * bytes ≤ 140737488355328) (hbase : H ≤ W.heap.size) :
    ∃ v' W', (Builtin.append_ #[t, t] ty #[v, .slice A m c]).run P W = .ok v' W' ∧ W'.ownsRow H T sz v' (n + m) (pre ++ us) ∧ GrR r T pre us W W' ∧ (v'.ownBlock = v.ownBlock ∨ v'.ownBlock = some W.heap.size) := by
  obtain ⟨v', w', hrun, h2, h3, h5⟩ := run_append_optN (P := P) W H t ty T i z sz bytes ht hi hz hsize hby hzs h0 v n pre hown A m c us hl hA hnews h1 h63 hbytes hbase
  refine ⟨v', w', hrun, h2, ?_, h5⟩
  have hpl : pre.length = n * sz := hown.1
  cases A with
  | none =>
    obtain ⟨rfl, rfl⟩ := hA rfl
    have hr2 := run_append_owned_none (P := P) W H t ty T i sz ht hi _ _ _ hown
    rw [hrun] at hr2
    simp only [Result.ok.injEq] at hr2
    left
    rw [hr2.2]; exact Below.refl _ _
  | some ad =>
    rcases hown.2 with ⟨h', h''⟩ | ⟨g, cap, cur, hv, hbg, hg, hnc, hcm, hcs, htake⟩
    · subst h'
      left
      exact ⟨h3.os, h3.tape, h3.output, h3.size, fun k hk => h3.block k hk (by simp [Value.ownBlock])⟩
    · subst hv
      by_cases hroom : n + m ≤ cap
      · have hr2 := run_append_room (P := P) W t ty T i ht hi g n cap cur hg ad m c us (by rw [hsize]; omega) (hnews ad rfl) h1 hroom (by rw [hsize, hcs, hl, ← Nat.add_mul]; exact Nat.mul_le_mul_right _ hroom)
        rw [hrun] at hr2
        simp only [Result.ok.injEq] at hr2
        refine .inr ⟨g, cur, hr, hg, by rw [hpl, hl, hcs, ← Nat.add_mul]; exact Nat.mul_le_mul_right _ hroom, by rw [hpl]; exact htake, ?_⟩
        rw [hr2.2, hsize, htake, hpl]
      · have hr2 := run_append_grow (P := P) W t ty T i z ht hi hz ⟨g, 0, none⟩ n cap pre (by rw [hsize]; exact hpl) (hown.cells (g := g) rfl) ad m c us (by rw [hsize]; exact hl) (hnews ad rfl) (by omega) (by unfold maxLen at h63; omega) (growslice_fits (by unfold maxLen at h63; omega) (by rw [hby]; exact hbytes))
        rw [hrun] at hr2
        simp only [Result.ok.injEq] at hr2
        left
        rw [hr2.2]
        exact (Below.refl _ W).drew.alloc (by simp) _

end

end Nt
end Go.Proofs.Ytkpcfakfkcghdaa
