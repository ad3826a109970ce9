/- A row of bytes that a string was turned into: behind its last cell stands a mark; one byte is added at a time. -/
import Derived.Test.YtmnciipfepeccaaMatRef
import Derived.Laws.IdiomStrings
namespace Go.Proofs.Ytmnciipfepeccaa
open Go.RowKit

/-- the slice v, of n bytes, owns the cells xs; its row may bear a mark behind its last cell -/
def OwnsM (w : World) (base : Nat) (e : TypeId) (v : Value) (n : Nat) (xs : List Value) : Prop :=
  w.ownsRow base e 1 v n xs ∨
  (xs.length = n ∧ ∃ g cap cur lo hi, v = .slice (some ⟨g, 0, none⟩) n cap ∧ base ≤ g ∧ w.heap[g]? = some (.cells cur e (lo, hi)) ∧ cur.size ≤ lo ∧ n ≤ cap ∧ cap ≤ maxLen ∧ cur.size = cap ∧ cur.toList.take n = xs)

theorem OwnsM.block {w : World} {base n : Nat} {e : TypeId} {v : Value} {xs : List Value} (h : OwnsM w base e v n xs) : ∀ j, v.ownBlock = some j → base ≤ j := by
  intro j hj
  rcases h with h | ⟨_, g, cap, cur, lo, hi, rfl, hb, _⟩
  · exact (h.lt j hj).1
  · simp [Value.ownBlock] at hj; omega

theorem OwnsM.length {w : World} {base n : Nat} {e : TypeId} {v : Value} {xs : List Value} (h : OwnsM w base e v n xs) : xs.length = n := by
  rcases h with h | h
  · rw [h.1, Nat.mul_one]
  · exact h.1

theorem OwnsM.alloc {w : World} {base n : Nat} {e : TypeId} {v : Value} {xs : List Value} (h : OwnsM w base e v n xs) (o : Obj) : OwnsM (w.alloc o) base e v n xs := by
  rcases h with h | ⟨hl, g, cap, cur, lo, hi, rfl, hb, hg, rest⟩
  · exact .inl (h.alloc o)
  · refine .inr ⟨hl, g, cap, cur, lo, hi, rfl, hb, ?_, rest⟩
    rw [heap_alloc_old w o (Array.getElem?_eq_some_iff.1 hg).1]; exact hg

theorem OwnsM.cells {w : World} {base n : Nat} {e : TypeId} {v : Value} {xs : List Value} (h : OwnsM w base e v n xs) (h0 : 0 < n) : ∃ g cap, v = .slice (some ⟨g, 0, none⟩) n cap ∧ ∀ j u, xs[j]? = some u → w.cell? ⟨g, j, none⟩ = some u := by
  rcases h with h | ⟨hl, g, cap, cur, lo, hi, rfl, hb, hg, hlo, hn, hc, hs, ht⟩
  · rcases h.2 with ⟨_, h'⟩ | ⟨g, cap, cur, rfl, _⟩
    · exact absurd h' (by omega)
    · exact ⟨g, cap, rfl, fun j u hu => (h.cellAt j (by have := (List.getElem?_eq_some_iff.1 hu).1; rw [h.1] at this; omega)).trans hu⟩
  · refine ⟨g, cap, rfl, fun j u hu => ?_⟩
    rw [cell_of_row w g j cur e (lo, hi) hg]
    rw [← ht, List.getElem?_take] at hu
    split at hu
    · simpa using hu
    · cases hu

/-- what a string becomes -/
theorem ownsM_new (w : World) (e : TypeId) (s : ByteArray) (base : Nat) (hb : base ≤ w.heap.size) (hs : s.size ≤ maxLen) :
    OwnsM (w.drew.alloc (.cells (bytesRow s (grownCap w s.size 0 e)) e ((bytesRow s (grownCap w s.size 0 e)).size, (bytesRow s (grownCap w s.size 0 e)).size + 1))) base e (.slice (some ⟨w.heap.size, 0, none⟩) s.size (grownCap w s.size 0 e)) s.size (cellsU s.data.toList) := by
  have hge := grownCap_ge w s.size 0 e
  have hds : s.data.size = s.size := rfl
  refine .inr ⟨by unfold cellsU; rw [List.length_map, Array.length_toList]; rfl, _, _, _, _, _, rfl, hb, heap_alloc_new w.drew _, Nat.le_refl _, hge, grownCap_le_maxLen w s.size 0 e hs, ?_, ?_⟩
  · unfold bytesRow; rw [Array.size_append, Array.size_map, Array.size_replicate, hds]; omega
  · unfold bytesRow cellsU
    rw [Array.toList_append, Array.toList_map, List.take_left' (by rw [List.length_map, Array.length_toList]; rfl)]

theorem run_append_mark {P : Program} (w : World) (base : Nat) (t ty e : TypeId) (i : TypeInfo) (ht : P.underlying t = some (.slice e)) (hi : P.info? e = some i) (hz : i.zero = some (.int .u8 0)) (hsize : i.size = 1) (hby : i.bytes = 1)
    (v : Value) (n : Nat) (xs : List Value) (hown : OwnsM w base e v n xs) (a : Addr) (c : Nat) (x : Value) (hx : w.cell? a = some x) (h1 : x.oneCell' = true) (hn : n + 1 ≤ 140737488355328) (hbase : base ≤ w.heap.size) :
    ∃ v' w', (Builtin.append_ #[t, t] ty #[v, .slice (some a) 1 c]).run P w = .ok v' w' ∧ OwnsM w' base e v' (n + 1) (xs ++ [x]) ∧ w.grownBy w' v.ownBlock := by
  have hadd : a.add 0 = a := by unfold Addr.add; split <;> simp_all
  have hnews : ∀ j u, [x][j]? = some u → w.cell? (a.add j) = some u := by
    intro j u hu
    have : j = 0 := by have := (List.getElem?_eq_some_iff.1 hu).1; simp at this; exact this
    subst this
    rw [hadd, hx]; simpa using hu
  have hone : ∀ u ∈ [x], u.oneCell' = true := by intro u hu; simp at hu; subst hu; exact h1
  rcases hown with hown | ⟨hl, g, cap, cur, lo, hi', rfl, hb, hg, hlo, hnc, hcm, hcs, htake⟩
  · obtain ⟨v', w', r1, r2, r3, _⟩ := run_append_own (P := P) w base t ty e i (.int .u8 0) 1 1 ht hi hz hsize hby rfl (by decide) v n xs hown a 1 c [x] (by simp) hnews hone (by unfold maxLen; omega) (by omega) hbase
    exact ⟨v', w', r1, .inl r2, r3⟩
  · by_cases hroom : n + 1 ≤ cap
    · have hcell : w.cell? ⟨g, n, none⟩ = some (cur[n]'(by omega)) := by rw [cell_of_row w g n cur e (lo, hi') hg, Array.getElem?_eq_getElem]
      have hfro : w.frozen? ⟨g, n, none⟩ = false := by
        simp only [World.frozen?, hg, Bool.and_eq_false_iff, decide_eq_false_iff_not]
        left; omega
      have hst : (storeCells ⟨g, n, none⟩ [x] 0).run P w = .ok () (w.setRow g (cur.setIfInBounds n x)) := by
        have h0 : (⟨g, n, none⟩ : Addr).add 0 = ⟨g, n, none⟩ := by unfold Addr.add; split <;> rfl
        have hs : (store ((⟨g, n, none⟩ : Addr).add 0) x).run P w = .ok () (w.setRow g (cur.setIfInBounds n x)) := by
          rw [h0, run_store P w _ x _ h1, hcell]
          simp [hfro, setCell_eq_setRow w g n cur e (lo, hi') x hg]
        simp only [storeCells, Sem.run_bind, hs, Result.andThen_ok]; rfl
      have hf := run_firstCells_some (P := P) w 1 1 a 1 c [x] rfl hnews
      have hr : (Builtin.append_ #[t, t] ty #[.slice (some ⟨g, 0, none⟩) n cap, .slice (some a) 1 c]).run P w = .ok (.slice (some ⟨g, 0, none⟩) (n + 1) cap) (w.setRow g (cur.setIfInBounds n x)) := by
        simp [Builtin.append_, run_underlying ht, sizeOf, typeInfo, hi, Builtin.lenOf, hroom, hf, Addr.add_lit, hst, hsize]
      refine ⟨_, _, hr, .inr ⟨by rw [List.length_append, hl]; rfl, g, cap, _, lo, hi', rfl, hb, setRow_heap w g cur _ e _ hg, by rw [Array.size_setIfInBounds]; exact hlo, hroom, hcm, by rw [Array.size_setIfInBounds]; exact hcs, ?_⟩, ⟨rfl, rfl, rfl, by simp, fun k _ hk => setRow_other w g k _ (fun e => hk (by simp [Value.ownBlock, e]))⟩⟩
      rw [Array.toList_setIfInBounds, ← htake]
      apply List.ext_getElem?
      intro p
      have hlen : (cur.toList.take n).length = n := by rw [List.length_take, Array.length_toList]; omega
      rw [List.getElem?_take, List.getElem?_append, hlen, List.getElem?_set, Array.length_toList]
      by_cases h1 : p < n
      · rw [if_pos (by omega), if_neg (by omega), if_pos h1, List.getElem?_take, if_pos h1]
      · rw [if_neg h1]
        by_cases h2 : p = n
        · subst h2; rw [if_pos (by omega), if_pos rfl, if_pos (by omega), Nat.sub_self]; rfl
        · rw [if_neg (by omega), List.getElem?_eq_none (by simp; omega)]
    · have holds : ∀ j u, xs[j]? = some u → w.cell? ((⟨g, 0, none⟩ : Addr).add j) = some u := by
        intro j u hu
        have hadd : (⟨g, 0, none⟩ : Addr).add j = ⟨g, j, none⟩ := by unfold Addr.add; split <;> simp_all
        rw [hadd, cell_of_row w g j cur e (lo, hi') hg]
        rw [← htake, List.getElem?_take] at hu
        split at hu
        · simpa using hu
        · cases hu
      have hr := run_append_grow (P := P) w t ty e i (.int .u8 0) ht hi hz ⟨g, 0, none⟩ n cap xs (by rw [hsize, hl, Nat.mul_one]) holds a 1 c [x] (by rw [hsize]; rfl) hnews (by omega) (by omega) (growslice_fits (by omega) (by rw [hby]; omega))
      have hge := grownCap_ge w (n + 1) cap e
      refine ⟨_, _, hr, .inl ⟨by rw [List.length_append, hl]; simp, .inr ⟨w.heap.size, _, _, rfl, hbase, heap_alloc_new w.drew _, hge, grownCap_le_maxLen w (n + 1) cap e (by unfold maxLen; omega), ?_, ?_⟩⟩, ⟨rfl, rfl, rfl, by simp, fun k hk _ => heap_alloc_old w.drew _ hk⟩⟩
      · have hzs : (Value.int .u8 0).cells.size = 1 := rfl
        simp only [Array.size_append, List.size_toArray, size_zeroCells, hzs, hl, List.length_cons, List.length_nil]
        omega
      · simp only [Array.toList_append, List.append_assoc]
        rw [← List.append_assoc]
        exact List.take_left' (by rw [List.length_append, hl]; simp)

theorem wpList_append_mark {P : Program} (w : World) {ops : Array Oper} {rest : List Oper} {o : Oper} {a : Act} {Q : Exit → Act → World → Prop} (hgd : o.guard = none) (s y : Operand) (t : TypeId)
    (ho : o.op = .call { callee := .builtin .append, args := #[s, y], argTypes := #[t, t] })
    (base : Nat) (e : TypeId) (i : TypeInfo) (ht : P.underlying t = some (.slice e)) (hi : P.info? e = some i) (hz : i.zero = some (.int .u8 0)) (hsize : i.size = 1) (hby : i.bytes = 1)
    (v : Value) (n : Nat) (xs : List Value) (hs : a.eval s = v) (hown : OwnsM w base e v n xs) (ad : Addr) (c : Nat) (x : Value) (hy : a.eval y = .slice (some ad) 1 c) (hx : w.cell? ad = some x) (h1 : x.oneCell' = true)
    (hn : n + 1 ≤ 140737488355328) (hbase : base ≤ w.heap.size)
    (h : ∀ v' w', OwnsM w' base e v' (n + 1) (xs ++ [x]) → w.grownBy w' v.ownBlock → wpList P ops Q rest (a.put o.dst v') w') : wpList P ops Q (o :: rest) a w := by
  refine wpList_plain hgd fun K hK => ?_
  obtain ⟨v', w', hr, h2, h3⟩ := run_append_mark (P := P) w base t o.type e i ht hi hz hsize hby v n xs hown ad c x hx h1 hn hbase
  unfold Oper.wp execOp
  simp only [ho, resolve, invoke, builtin, Sem.run_bind, Sem.run_pure, Result.andThen_ok, List.map_toArray, List.map_cons, List.map_nil, hs, hy, hr]
  exact hK _ _ (h v' w' h2 h3)

theorem below_mark {H : Nat} {w wr w1 : World} {v : Value} {o : Obj} {e : TypeId} {n : Nat} {xs : List Value} (hown : OwnsM wr H e v n xs) (hb : Below H w wr) (hH : H ≤ w.heap.size) (hg : (wr.alloc o).grownBy w1 v.ownBlock) : Below H w w1 :=
  (hb.alloc (Nat.le_trans hH hb.size) o).grown hg (by have := hb.size; simp; omega) (fun j hj => hown.block j hj)

end Go.Proofs.Ytmnciipfepeccaa
