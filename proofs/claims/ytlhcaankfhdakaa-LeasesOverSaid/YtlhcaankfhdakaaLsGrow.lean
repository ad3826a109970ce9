/- Rows that are appended to in a drawn region; no condition but the range. -/
import Derived.Test.YtlhcaankfhdakaaLsRef5
namespace Go.Proofs.Ytlhcaankfhdakaa
namespace Ls
open Go.RowKit Bk

attribute [local go_sem ↓] Go.wp_at_zero Go.wp_at_succ
attribute [local go_sem] floatUpon pick

theorem run_append_emptyN {P : Program} (w : World) (base : Nat) (t ty e : TypeId) (i : TypeInfo) (z : Value) (sz bytes : Nat) (ht : P.underlying t = some (.slice e)) (hi : P.info? e = some i) (hz : i.zero = some z)
    (hsize : i.size = sz) (hby : i.bytes = bytes) (hzs : z.cells.size = sz) (h0 : 0 < sz) (g : Nat) (hg : w.heap[g]? = some (.cells #[] e (0, 0))) (hbg : base ≤ g)
    (A : Option Addr) (m c : Nat) (news : List Value) (hl : news.length = m * sz) (hA : A = none → m = 0 ∧ c = 0) (hnews : ∀ ad, A = some ad → ∀ j u, news[j]? = some u → w.cell? (ad.add j) = some u) (h1 : ∀ u ∈ news, u.oneCell' = true)
    (h63 : m ≤ maxLen) (hbytes : m * bytes ≤ 140737488355328) :
    ∃ v' w', (Builtin.append_ #[t, t] ty #[.slice (some ⟨g, 0, none⟩) 0 0, .slice A m c]).run P w = .ok v' w' ∧ w'.ownsRow base e sz v' m news ∧ Below w.heap.size w w' := by
  have hlt : g < w.heap.size := (Array.getElem?_eq_some_iff.1 hg).1
  have hown : w.ownsRow base e sz (.slice (some ⟨g, 0, none⟩) 0 0) 0 [] := ⟨by simp, .inr ⟨g, 0, #[], rfl, hbg, hg, Nat.le_refl _, Nat.zero_le _, by simp, by simp⟩⟩
  cases A with
  | none =>
    obtain ⟨rfl, rfl⟩ := hA rfl
    obtain rfl : news = [] := List.eq_nil_of_length_eq_zero (by omega)
    exact ⟨_, _, run_append_owned_none (P := P) w base t ty e i sz ht hi _ _ _ hown, hown, Below.refl _ _⟩
  | some ad =>
    by_cases hm : m = 0
    · subst hm
      obtain rfl : news = [] := List.eq_nil_of_length_eq_zero (by omega)
      have hr := run_append_room (P := P) w t ty e i ht hi g 0 0 #[] hg ad 0 c [] (by simp) (fun j u h => by simp at h) (fun u h => by simp at h) (by omega) (by simp)
      have he : (List.take (0 * i.size) (#[] : Array Value).toList ++ ([] : List Value) ++ List.drop (0 * i.size + ([] : List Value).length) (#[] : Array Value).toList).toArray = (#[] : Array Value) := by simp
      rw [he] at hr
      refine ⟨_, _, hr, ?_, ?_⟩
      · refine ⟨by simp, .inr ⟨g, 0, #[], rfl, hbg, ?_, Nat.le_refl _, Nat.zero_le _, by simp, by simp⟩⟩
        exact setRow_heap w g _ _ e _ hg
      · exact setRow_same hg
    · have hb2 : (0 + m) * bytes ≤ 140737488355328 := by rw [Nat.zero_add]; exact hbytes
      obtain ⟨v', w', hr, h2, h3, _, _⟩ := run_append_own_at (P := P) w base t ty e i z sz bytes ht hi hz hsize hby hzs h0 _ 0 [] hown ad m c news hl (hnews ad rfl) h1 (by omega) hb2 (by omega)
      have hr2 := run_append_grow (P := P) w t ty e i z ht hi hz ⟨g, 0, none⟩ 0 0 [] (by simp) (fun j v h => by simp at h) ad m c news (by rw [hl, hsize]) (hnews ad rfl) (by omega) (by unfold maxLen at h63; omega) (growslice_fits (by omega) (by rw [hby]; exact hb2))
      rw [hr] at hr2
      simp only [Result.ok.injEq] at hr2
      obtain ⟨e1, e2⟩ := hr2
      rw [Nat.zero_add, List.nil_append] at h2
      refine ⟨v', w', hr, h2, ?_⟩
      rw [e2]
      exact (Below.refl _ w).drew.alloc (by simp) _

/-- no old block is written, or cells are laid behind a row of a block from H on, where there is room -/
def GrN (H : Nat) (T : TypeId) (pre us : List Value) (W W' : World) : Prop :=
  Below W.heap.size W W' ∨ ∃ (g : Nat) (cur : Array Value), H ≤ g ∧ W.heap[g]? = some (.cells cur T (0, 0)) ∧ pre.length + us.length ≤ cur.size ∧ cur.toList.take pre.length = pre ∧ W' = W.setRow g (pre ++ us ++ cur.toList.drop (pre.length + us.length)).toArray

section
variable {T : TypeId} {H : Nat} {pre us : List Value} {w W W' : World}

theorem GrN.below {X : Nat} (h : Below X w W) (hX : X ≤ W.heap.size) (hH : X ≤ H) (hk : GrN H T pre us W W') : Below X w W' := by
  rcases hk with hk | ⟨g, cur, hg, _, _, _, rfl⟩
  · exact h.trans (hk.mono hX)
  · exact ⟨h.os, h.tape, h.output, by simpa using h.size, fun k hk => (setRow_other W g k _ (by omega)).trans (h.block k hk)⟩

theorem GrN.size (hk : GrN H T pre us W W') : W.heap.size ≤ W'.heap.size := by
  rcases hk with hk | ⟨g, cur, _, _, _, _, rfl⟩
  · exact hk.size
  · simp

theorem GrN.lit {p : Nat} {t : TypeId} (h : W.heap[p]? = some (.cells #[] t (0, 0))) (hk : GrN H T pre us W W') : W'.heap[p]? = some (.cells #[] t (0, 0)) := by
  rcases hk with hk | ⟨g, cur, _, hg, hz, _, rfl⟩
  · exact (hk.block p (Array.getElem?_eq_some_iff.1 h).1).trans h
  · by_cases e : p = g
    · subst e
      rw [h] at hg
      simp only [Option.some.injEq, Obj.cells.injEq, and_true] at hg
      obtain ⟨rfl, rfl⟩ := hg
      have h1 : pre = [] := List.eq_nil_of_length_eq_zero (by simp at hz; simp [hz.1])
      have h2 : us = [] := List.eq_nil_of_length_eq_zero (by simp at hz; simp [hz.2])
      subst h1 h2
      exact setRow_heap W p _ _ t _ h
    · exact (setRow_other W g p _ e).trans h

/-- the row, ahead of it or behind it -/
theorem GrN.row {B n sz : Nat} {v : Value} {xs : List Value} (h : W.ownsRow B T sz v n xs) (hx : xs = pre ∨ xs = pre ++ us) (hk : GrN H T pre us W W') : W'.ownsRow B T sz v n xs := by
  rcases hk with hb | ⟨g, cur, hH', hg, hz, ht, rfl⟩
  · exact st_keep h hb
  · refine ⟨h.1, ?_⟩
    rcases h.2 with h' | ⟨g2, cap2, cur2, hv, hH, hg2, h1, h2, h3, h4⟩
    · exact .inl h'
    · right
      by_cases e : g2 = g
      · subst e
        rw [hg] at hg2
        simp only [Option.some.injEq, Obj.cells.injEq, and_true] at hg2
        obtain rfl := hg2
        refine ⟨g2, cap2, _, hv, hH, setRow_heap W g2 _ _ T _ hg, h1, h2, ?_, ?_⟩
        · rw [← h3]
          simp only [List.size_toArray, List.length_append, List.length_drop, Array.length_toList]
          omega
        · rw [List.toList_toArray]
          have hl : xs.length = n * sz := h.1
          rcases hx with rfl | rfl
          · rw [List.append_assoc, List.take_append_of_le_length (by omega), List.take_of_length_le (by omega)]
          · rw [List.take_append_of_le_length (by omega), List.take_of_length_le (by omega)]
      · exact ⟨g2, cap2, cur2, hv, hH, (setRow_other W g g2 _ e).trans hg2, h1, h2, h3, h4⟩

/-- cells are appended -/
theorem run_growN {P : Program} {bytes sz n m c : Nat} {A : Option Addr} {t ty : TypeId} {i : TypeInfo} {z v : Value} (ht : P.underlying t = some (.slice T)) (hi : P.info? T = some i) (hz : i.zero = some z) (hsize : i.size = sz) (hby : i.bytes = bytes) (hzs : z.cells.size = sz) (h0 : 0 < sz)
    (hown : W.ownsRow H T sz v n pre) (hl : us.length = m * sz) (hA : A = none → m = 0 ∧ c = 0) (hnews : ∀ ad, A = some ad → ∀ j u, us[j]? = some u → W.cell? (ad.add j) = some u) (h1 : ∀ u ∈ us, u.oneCell' = true)
    (h63 : n + m ≤ maxLen) (hbytes : (n + m) * bytes ≤ 140737488355328) (hbase : H ≤ W.heap.size) :
    ∃ v' W', (Builtin.append_ #[t, t] ty #[v, .slice A m c]).run P W = .ok v' W' ∧ W'.ownsRow H T sz v' (n + m) (pre ++ us) ∧ GrN H T pre us W W' := by
  obtain ⟨v', w', hrun, h2, h3, h5⟩ := run_append_optN (P := P) W H t ty T i z sz bytes ht hi hz hsize hby hzs h0 v n pre hown A m c us hl hA hnews h1 h63 hbytes hbase
  refine ⟨v', w', hrun, h2, ?_⟩
  have hpl : pre.length = n * sz := hown.1
  cases A with
  | none =>
    obtain ⟨rfl, rfl⟩ := hA rfl
    have hr2 := run_append_owned_none (P := P) W H t ty T i sz ht hi _ _ _ hown
    rw [hrun] at hr2
    simp only [Result.ok.injEq] at hr2
    left
    rw [hr2.2]; exact Below.refl _ _
  | some ad =>
    rcases hown.2 with ⟨h', h''⟩ | ⟨g, cap, cur, hv, hbg, hg, hnc, hcm, hcs, htake⟩
    · subst h'
      left
      exact ⟨h3.os, h3.tape, h3.output, h3.size, fun k hk => h3.block k hk (by simp [Value.ownBlock])⟩
    · subst hv
      by_cases hroom : n + m ≤ cap
      · have hr2 := run_append_room (P := P) W t ty T i ht hi g n cap cur hg ad m c us (by rw [hsize]; omega) (hnews ad rfl) h1 hroom (by rw [hsize, hcs, hl, ← Nat.add_mul]; exact Nat.mul_le_mul_right _ hroom)
        rw [hrun] at hr2
        simp only [Result.ok.injEq] at hr2
        refine .inr ⟨g, cur, hbg, hg, by rw [hpl, hl, hcs, ← Nat.add_mul]; exact Nat.mul_le_mul_right _ hroom, by rw [hpl]; exact htake, ?_⟩
        rw [hr2.2, hsize, htake, hpl]
      · have hr2 := run_append_grow (P := P) W t ty T i z ht hi hz ⟨g, 0, none⟩ n cap pre (by rw [hsize]; exact hpl) (hown.cells (g := g) rfl) ad m c us (by rw [hsize]; exact hl) (hnews ad rfl) (by omega) (by unfold maxLen at h63; omega) (growslice_fits (by unfold maxLen at h63; omega) (by rw [hby]; exact hbytes))
        rw [hrun] at hr2
        simp only [Result.ok.injEq] at hr2
        left
        rw [hr2.2]
        exact (Below.refl _ W).drew.alloc (by simp) _

end

theorem GrN.one {H : Nat} {T : TypeId} {pre us : List Value} {p : Nat} {W W' : World} (h : W.heap[p]? = some (.cells us.toArray T (0, 0))) (hk : GrN H T pre us W W') : W'.heap[p]? = some (.cells us.toArray T (0, 0)) := by
  rcases hk with hk | ⟨g, cur, _, hg, hz, _, rfl⟩
  · exact (hk.block p (Array.getElem?_eq_some_iff.1 h).1).trans h
  · by_cases e : p = g
    · subst e
      rw [h] at hg
      simp only [Option.some.injEq, Obj.cells.injEq, and_true] at hg
      subst hg
      have hz2 : pre.length + us.length ≤ us.length := by simpa using hz
      have h1 : pre = [] := List.eq_nil_of_length_eq_zero (by omega)
      subst h1
      rw [setRow_heap W p _ _ T _ h]
      simp
    · exact (setRow_other W g p _ e).trans h

def TIs (u v : Value) (_ : World) : Prop := v = u


end Ls
end Go.Proofs.Ytlhcaankfhdakaa
