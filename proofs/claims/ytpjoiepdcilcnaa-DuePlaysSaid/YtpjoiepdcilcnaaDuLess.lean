/- Which of two tasks that are due comes first, in the memory; no condition but the range. -/
import Derived.Test.YtpjoiepdcilcnaaDuRow
import Derived.Test.YtpjoiepdcilcnaaFloat
namespace Go.Proofs.Ytpjoiepdcilcnaa
namespace Du
open Go.RowKit Bk

attribute [local go_sem ↓] Go.wp_at_zero Go.wp_at_succ
attribute [local go_sem] floatUpon pick

theorem or_at {W X : World} {t : TypeId} {a b c : Int} (h : X.heap[W.heap.size]? = some (.cells #[.int .i64 a, .int .i64 b, .int .i64 c] t (0, 0))) :
    Calls Try.prog 55 #[.slice (some ⟨W.heap.size, 0, none⟩) 3 3] X fun e W' => e = .returned (.int .i64 (orI a b c)) ∧ W' = X :=
  have k := or_blk (t := t) (W := X) (p := W.heap.size) (a := a) (b := b) (c := c) h
  or_any _ _ _ _ _ _ k.1 k.2.1 k.2.2

set_option maxHeartbeats 4000000 in
theorem lessR_any {W : World} {base : Nat} {v : Value} {l : List Tk} (h : TRow W base v l) (i j : Nat) (hi : i < l.length) (hj : j < l.length) :
    Calls Try.prog 54 #[.agg #[v], .int .i64 i, .int .i64 j] W fun e W' => e = .returned (.bool (ltR (g l i) (g l j))) ∧ Below W.heap.size W W' := by
  obtain ⟨p, cap, rest, rfl, hb, hc, h1, h2, h3⟩ := h.blk (by omega)
  have hm : cap < 9223372036854775808 := by simp only [maxLen] at h2; omega
  have hp := hc.lt
  have e0 : W.cell? ⟨p, i * 4, none⟩ = some (.int .i64 (g l i).a) := cell_of hc hi (j := 0) (by omega) rfl
  have e1 : W.cell? ⟨p, i * 4 + 1, none⟩ = some (.int .i64 (g l i).u) := cell_of hc hi (j := 1) (by omega) rfl
  have e2 : W.cell? ⟨p, i * 4 + 2, none⟩ = some (.int .i64 (g l i).i) := cell_of hc hi (j := 2) (by omega) rfl
  have e3 : W.cell? ⟨p, i * 4 + 3, none⟩ = some (.int .i64 (g l i).n) := cell_of hc hi (j := 3) (by omega) rfl
  have d0 : W.cell? ⟨p, j * 4, none⟩ = some (.int .i64 (g l j).a) := cell_of hc hj (j := 0) (by omega) rfl
  have d1 : W.cell? ⟨p, j * 4 + 1, none⟩ = some (.int .i64 (g l j).u) := cell_of hc hj (j := 1) (by omega) rfl
  have d2 : W.cell? ⟨p, j * 4 + 2, none⟩ = some (.int .i64 (g l j).i) := cell_of hc hj (j := 2) (by omega) rfl
  have d3 : W.cell? ⟨p, j * 4 + 3, none⟩ = some (.int .i64 (g l j).n) := cell_of hc hj (j := 3) (by omega) rfl
  have HO := Lib.hid (or_ltR (g l i) (g l j))
  clear h hc
  go_enter Try.func54, Try.ntmps54
  go_upto_region 1 with fail
  have hB := (Below.refl W.heap.size W).alloc (Nat.le_refl _) (.cells #[.slice (some ⟨p, 0, none⟩) l.length cap] 54)
  have hx : (W.alloc (.cells #[.slice (some ⟨p, 0, none⟩) l.length cap] 54)).cell? ⟨W.heap.size, 0, none⟩ = some (.slice (some ⟨p, 0, none⟩) l.length cap) := (show Cel _ W.heap.size 54 [.slice (some ⟨p, 0, none⟩) l.length cap] from (blk1 W _).2).cell (i := 0) rfl
  have hx2 : W.heap.size < (W.alloc (.cells #[.slice (some ⟨p, 0, none⟩) l.length cap] 54)).heap.size := by simp
  have hp2 : p < (W.alloc (.cells #[.slice (some ⟨p, 0, none⟩) l.length cap] 54)).heap.size := by simp; omega
  replace e0 := (cell_kept hB _ hp).trans e0
  replace e1 := (cell_kept hB _ hp).trans e1
  replace e2 := (cell_kept hB _ hp).trans e2
  replace e3 := (cell_kept hB _ hp).trans e3
  replace d0 := (cell_kept hB _ hp).trans d0
  replace d1 := (cell_kept hB _ hp).trans d1
  replace d2 := (cell_kept hB _ hp).trans d2
  replace d3 := (cell_kept hB _ hp).trans d3
  have HB := Lib.hid hB
  have HZ := Lib.hid hB.size
  generalize W.alloc (.cells #[.slice (some ⟨p, 0, none⟩) l.length cap] 54) = W1 at HB HZ e0 e1 e2 e3 d0 d1 d2 d3 hx hx2 hp2 ⊢
  clear hB
  generalize hb0 : W.heap.size = b0 at HB HZ hx hx2 hp ⊢
  have HE := Lib.hid hb0
  clear hb0
  have e01 := keep1 e0 hp2
  have e11 := keep1 e1 hp2
  have e21 := keep1 e2 hp2
  have e31 := keep1 e3 hp2
  have d01 := keep1 d0 hp2
  have d11 := keep1 d1 hp2
  have d21 := keep1 d2 hp2
  have d31 := keep1 d3 hp2
  have x1 := keep1 hx hx2
  have e02 := keep2 e0 hp2
  have e12 := keep2 e1 hp2
  have e22 := keep2 e2 hp2
  have e32 := keep2 e3 hp2
  have d02 := keep2 d0 hp2
  have d12 := keep2 d1 hp2
  have d22 := keep2 d2 hp2
  have d32 := keep2 d3 hp2
  have x2 := keep2 hx hx2
  go_region
  clear e01 e11 e21 e31 d01 d11 d21 d31 x1 e02 e12 e22 e32 d02 d12 d22 d32 x2 e0 e1 e2 e3 d0 d1 d2 d3 hx
  all_goals
    go_upto_region 2 with fail
  · have hk := blk2 W1 (.cells #[.int .i64 (g l i).a, .int .i64 (g l i).u, .int .i64 (g l i).i, .int .i64 (g l i).n] 60) (.cells #[.int .i64 (g l j).a, .int .i64 (g l j).u, .int .i64 (g l j).i, .int .i64 (g l j).n] 60)
    have cA : Cel (((W1.alloc (.cells #[.int .i64 (g l i).a, .int .i64 (g l i).u, .int .i64 (g l i).i, .int .i64 (g l i).n] 60)).alloc (.cells #[.int .i64 (g l j).a, .int .i64 (g l j).u, .int .i64 (g l j).i, .int .i64 (g l j).n] 60)).drew) W1.heap.size 60 [.int .i64 (g l i).a, .int .i64 (g l i).u, .int .i64 (g l i).i, .int .i64 (g l i).n] := hk.2.1
    have cB : Cel (((W1.alloc (.cells #[.int .i64 (g l i).a, .int .i64 (g l i).u, .int .i64 (g l i).i, .int .i64 (g l i).n] 60)).alloc (.cells #[.int .i64 (g l j).a, .int .i64 (g l j).u, .int .i64 (g l j).i, .int .i64 (g l j).n] 60)).drew) (W1.heap.size + 1) 60 [.int .i64 (g l j).a, .int .i64 (g l j).u, .int .i64 (g l j).i, .int .i64 (g l j).n] := hk.2.2
    have hs : ((W1.alloc (.cells #[.int .i64 (g l i).a, .int .i64 (g l i).u, .int .i64 (g l i).i, .int .i64 (g l i).n] 60)).alloc (.cells #[.int .i64 (g l j).a, .int .i64 (g l j).u, .int .i64 (g l j).i, .int .i64 (g l j).n] 60)).drew.heap.size = W1.heap.size + 2 := hk.1
    have HG := Lib.hid (HB.out.trans (((Below.refl b0 W1).alloc (by omega) (.cells #[.int .i64 (g l i).a, .int .i64 (g l i).u, .int .i64 (g l i).i, .int .i64 (g l i).n] 60)).alloc (by simp; omega) (.cells #[.int .i64 (g l j).a, .int .i64 (g l j).u, .int .i64 (g l j).i, .int .i64 (g l j).n] 60)).drew)
    generalize ((W1.alloc (.cells #[.int .i64 (g l i).a, .int .i64 (g l i).u, .int .i64 (g l i).i, .int .i64 (g l i).n] 60)).alloc (.cells #[.int .i64 (g l j).a, .int .i64 (g l j).u, .int .i64 (g l j).i, .int .i64 (g l j).n] 60)).drew = W2 at cA cB HG hs ⊢
    have hb3 : b0 ≤ W2.heap.size := by omega
    clear hk hs
    generalize W1.heap.size + 1 = y at cB ⊢
    generalize W1.heap.size = x at cA ⊢
    have HA := Lib.hid cA
    have HC := Lib.hid cB
    clear cA cB
    refine wp_region_said 19 [19, 20, 21, 22, 23, 24, 25, 26, 27, 28, 29, 30, 31, 32, 33, 34, 35, 36, 6]
      [.is (.pointer (some ⟨y, 1, none⟩)), .is (.int .i64 ((g l j).u)), .is (.pointer (some ⟨x, 1, none⟩)), .is (.int .i64 ((g l i).u)), .is (.int .i64 (cmI (g l j).u (g l i).u)), .is (.pointer (some ⟨x, 0, none⟩)), .is (.int .i64 ((g l i).a)), .is (.pointer (some ⟨y, 0, none⟩)), .is (.int .i64 ((g l j).a)), .is (.int .i64 (cmI (g l i).a (g l j).a)), .is (.pointer (some ⟨x, 3, none⟩)), .is (.int .i64 ((g l i).n)), .is (.pointer (some ⟨y, 3, none⟩)), .is (.int .i64 ((g l j).n)), .is (.int .i64 (cmI (g l i).n (g l j).n)), .arr 3 #[.int .i64 (cmI (g l j).u (g l i).u), .int .i64 (cmI (g l i).a (g l j).a), .int .i64 (cmI (g l i).n (g l j).n)] 3 3, .is (.int .i64 (orI (cmI (g l j).u (g l i).u) (cmI (g l i).a (g l j).a) (cmI (g l i).n (g l j).n))), .is (.bool (ltR (g l i) (g l j))), .is (.bool (ltR (g l i) (g l j)))]
      (fun W => Below W2.heap.size W2 W) (by kernel_rfl) (by kernel_rfl) (by kernel_rfl) (by kernel_rfl) (by kernel_rfl) (fun W W' h hb => h.trans (hb.mono h.size)) (Below.refl _ _) ?steps ?last
    case steps =>
      simp only [List.take_succ_cons, List.take_zero]
      refine ⟨?_, ?_, ?_, ?_, ?_, ?_, ?_, ?_, ?_, ?_, ?_, ?_, ?_, ?_, ?_, ?_, ?_, ?_, ?_, trivial⟩
      all_goals
        intro vs W ρ hρ hc hf hg hI hH hd R' hR
        have ka := HA.out.below hI
        have a0 := ka.cell (i := 0) rfl
        have a1 := ka.cell (i := 1) rfl
        have a3 := ka.cell (i := 3) rfl
        have kb := HC.out.below hI
        have c0 := kb.cell (i := 0) rfl
        have c1 := kb.cell (i := 1) rfl
        have c3 := kb.cell (i := 3) rfl
        have HR := Lib.hid hR
        simp [depsOf, Region.binds, sayAt, Say.holds] at hd
        clear hR hI ka kb
        go_simp
        first
          | exact HR.out _ _ HO.out (Below.refl _ _) (by simp [sayAt, Say.isBlk])
          | exact HR.out _ _ (congrArg Value.bool HO.out) (Below.refl _ _) (by simp [sayAt, Say.isBlk])
          | exact HR.out _ _ (by simp [sayAt, Say.holds]) (Below.refl _ _) (by simp [sayAt, Say.isBlk])
          | (refine (compare_any _ _ _).mono ?_
             rintro e W' ⟨rfl, rfl⟩
             exact ⟨_, rfl, HR.out _ _ (by simp [sayAt, Say.holds]) (Below.refl _ _) (by simp [sayAt, Say.isBlk])⟩)
          | (have hx : ∃ q, W2.heap.size ≤ q ∧ q < W.heap.size ∧ vs 15 = .slice (some ⟨q, 0, none⟩) 3 3 ∧ W.heap[q]? = some (.cells #[.int .i64 (cmI (g l j).u (g l i).u), .int .i64 (cmI (g l i).a (g l j).a), .int .i64 (cmI (g l i).n (g l j).n)] 3 (0, 0)) := hd.1
             obtain ⟨q, _, _, hq3, hq4⟩ := hx
             have hq := or_blk hq4
             rw [hq3]
             refine (or_any _ _ _ _ _ _ hq.1 hq.2.1 hq.2.2).mono ?_
             rintro e W' ⟨rfl, rfl⟩
             exact ⟨_, rfl, HR.out _ _ (by simp [sayAt, Say.holds]) (Below.refl _ _) (by simp [sayAt, Say.isBlk])⟩)
          | exact HR.out _ _ ⟨_, hH, by simp, rfl, heap_alloc_new _ _⟩ ((Below.refl _ _).alloc (Nat.le_refl _) _) (fun h => by cases h)
    case last =>
      intro vs W hI hb hg hd
      have g18 := hg 18 (by omega)
      simp only [sayAt, Say.holds, List.getD_cons_succ, List.getD_cons_zero] at g18
      simp only [List.take_succ_cons, List.take_zero, List.drop_succ_cons, List.drop_zero, putAll, Act.put, List.setIfInBounds_toArray, List.set_cons_succ, List.set_cons_zero, Nat.zero_add, Nat.reduceAdd]
      rw [g18]
      have HI := Lib.hid hI
      clear g18 hg hd hI hb
      go_wp2
      go_ret
      exact ⟨rfl, by rw [HE.out]; exact HG.out.trans (HI.out.mono hb3)⟩
  · have hk := blk2 W1 (.cells #[.int .i64 (g l j).a, .int .i64 (g l j).u, .int .i64 (g l j).i, .int .i64 (g l j).n] 60) (.cells #[.int .i64 (g l i).a, .int .i64 (g l i).u, .int .i64 (g l i).i, .int .i64 (g l i).n] 60)
    have cA : Cel (((W1.alloc (.cells #[.int .i64 (g l j).a, .int .i64 (g l j).u, .int .i64 (g l j).i, .int .i64 (g l j).n] 60)).alloc (.cells #[.int .i64 (g l i).a, .int .i64 (g l i).u, .int .i64 (g l i).i, .int .i64 (g l i).n] 60)).drew) W1.heap.size 60 [.int .i64 (g l j).a, .int .i64 (g l j).u, .int .i64 (g l j).i, .int .i64 (g l j).n] := hk.2.1
    have cB : Cel (((W1.alloc (.cells #[.int .i64 (g l j).a, .int .i64 (g l j).u, .int .i64 (g l j).i, .int .i64 (g l j).n] 60)).alloc (.cells #[.int .i64 (g l i).a, .int .i64 (g l i).u, .int .i64 (g l i).i, .int .i64 (g l i).n] 60)).drew) (W1.heap.size + 1) 60 [.int .i64 (g l i).a, .int .i64 (g l i).u, .int .i64 (g l i).i, .int .i64 (g l i).n] := hk.2.2
    have hs : ((W1.alloc (.cells #[.int .i64 (g l j).a, .int .i64 (g l j).u, .int .i64 (g l j).i, .int .i64 (g l j).n] 60)).alloc (.cells #[.int .i64 (g l i).a, .int .i64 (g l i).u, .int .i64 (g l i).i, .int .i64 (g l i).n] 60)).drew.heap.size = W1.heap.size + 2 := hk.1
    have HG := Lib.hid (HB.out.trans (((Below.refl b0 W1).alloc (by omega) (.cells #[.int .i64 (g l j).a, .int .i64 (g l j).u, .int .i64 (g l j).i, .int .i64 (g l j).n] 60)).alloc (by simp; omega) (.cells #[.int .i64 (g l i).a, .int .i64 (g l i).u, .int .i64 (g l i).i, .int .i64 (g l i).n] 60)).drew)
    generalize ((W1.alloc (.cells #[.int .i64 (g l j).a, .int .i64 (g l j).u, .int .i64 (g l j).i, .int .i64 (g l j).n] 60)).alloc (.cells #[.int .i64 (g l i).a, .int .i64 (g l i).u, .int .i64 (g l i).i, .int .i64 (g l i).n] 60)).drew = W2 at cA cB HG hs ⊢
    have hb3 : b0 ≤ W2.heap.size := by omega
    clear hk hs
    generalize W1.heap.size + 1 = y at cB ⊢
    generalize W1.heap.size = x at cA ⊢
    have HA := Lib.hid cB
    have HC := Lib.hid cA
    clear cA cB
    refine wp_region_said 19 [19, 20, 21, 22, 23, 24, 25, 26, 27, 28, 29, 30, 31, 32, 33, 34, 35, 36, 6]
      [.is (.pointer (some ⟨x, 1, none⟩)), .is (.int .i64 ((g l j).u)), .is (.pointer (some ⟨y, 1, none⟩)), .is (.int .i64 ((g l i).u)), .is (.int .i64 (cmI (g l j).u (g l i).u)), .is (.pointer (some ⟨y, 0, none⟩)), .is (.int .i64 ((g l i).a)), .is (.pointer (some ⟨x, 0, none⟩)), .is (.int .i64 ((g l j).a)), .is (.int .i64 (cmI (g l i).a (g l j).a)), .is (.pointer (some ⟨y, 3, none⟩)), .is (.int .i64 ((g l i).n)), .is (.pointer (some ⟨x, 3, none⟩)), .is (.int .i64 ((g l j).n)), .is (.int .i64 (cmI (g l i).n (g l j).n)), .arr 3 #[.int .i64 (cmI (g l j).u (g l i).u), .int .i64 (cmI (g l i).a (g l j).a), .int .i64 (cmI (g l i).n (g l j).n)] 3 3, .is (.int .i64 (orI (cmI (g l j).u (g l i).u) (cmI (g l i).a (g l j).a) (cmI (g l i).n (g l j).n))), .is (.bool (ltR (g l i) (g l j))), .is (.bool (ltR (g l i) (g l j)))]
      (fun W => Below W2.heap.size W2 W) (by kernel_rfl) (by kernel_rfl) (by kernel_rfl) (by kernel_rfl) (by kernel_rfl) (fun W W' h hb => h.trans (hb.mono h.size)) (Below.refl _ _) ?steps ?last
    case steps =>
      simp only [List.take_succ_cons, List.take_zero]
      refine ⟨?_, ?_, ?_, ?_, ?_, ?_, ?_, ?_, ?_, ?_, ?_, ?_, ?_, ?_, ?_, ?_, ?_, ?_, ?_, trivial⟩
      all_goals
        intro vs W ρ hρ hc hf hg hI hH hd R' hR
        have ka := HA.out.below hI
        have a0 := ka.cell (i := 0) rfl
        have a1 := ka.cell (i := 1) rfl
        have a3 := ka.cell (i := 3) rfl
        have kb := HC.out.below hI
        have c0 := kb.cell (i := 0) rfl
        have c1 := kb.cell (i := 1) rfl
        have c3 := kb.cell (i := 3) rfl
        have HR := Lib.hid hR
        simp [depsOf, Region.binds, sayAt, Say.holds] at hd
        clear hR hI ka kb
        go_simp
        first
          | exact HR.out _ _ HO.out (Below.refl _ _) (by simp [sayAt, Say.isBlk])
          | exact HR.out _ _ (congrArg Value.bool HO.out) (Below.refl _ _) (by simp [sayAt, Say.isBlk])
          | exact HR.out _ _ (by simp [sayAt, Say.holds]) (Below.refl _ _) (by simp [sayAt, Say.isBlk])
          | (refine (compare_any _ _ _).mono ?_
             rintro e W' ⟨rfl, rfl⟩
             exact ⟨_, rfl, HR.out _ _ (by simp [sayAt, Say.holds]) (Below.refl _ _) (by simp [sayAt, Say.isBlk])⟩)
          | (have hx : ∃ q, W2.heap.size ≤ q ∧ q < W.heap.size ∧ vs 15 = .slice (some ⟨q, 0, none⟩) 3 3 ∧ W.heap[q]? = some (.cells #[.int .i64 (cmI (g l j).u (g l i).u), .int .i64 (cmI (g l i).a (g l j).a), .int .i64 (cmI (g l i).n (g l j).n)] 3 (0, 0)) := hd.1
             obtain ⟨q, _, _, hq3, hq4⟩ := hx
             have hq := or_blk hq4
             rw [hq3]
             refine (or_any _ _ _ _ _ _ hq.1 hq.2.1 hq.2.2).mono ?_
             rintro e W' ⟨rfl, rfl⟩
             exact ⟨_, rfl, HR.out _ _ (by simp [sayAt, Say.holds]) (Below.refl _ _) (by simp [sayAt, Say.isBlk])⟩)
          | exact HR.out _ _ ⟨_, hH, by simp, rfl, heap_alloc_new _ _⟩ ((Below.refl _ _).alloc (Nat.le_refl _) _) (fun h => by cases h)
    case last =>
      intro vs W hI hb hg hd
      have g18 := hg 18 (by omega)
      simp only [sayAt, Say.holds, List.getD_cons_succ, List.getD_cons_zero] at g18
      simp only [List.take_succ_cons, List.take_zero, List.drop_succ_cons, List.drop_zero, putAll, Act.put, List.setIfInBounds_toArray, List.set_cons_succ, List.set_cons_zero, Nat.zero_add, Nat.reduceAdd]
      rw [g18]
      have HI := Lib.hid hI
      clear g18 hg hd hI hb
      go_wp2
      go_ret
      exact ⟨rfl, by rw [HE.out]; exact HG.out.trans (HI.out.mono hb3)⟩

end Du
end Go.Proofs.Ytpjoiepdcilcnaa
