/- The landed chain: how many are not above a time, by sort.Search; contracts; no condition but the range. -/
import Derived.Test.YtpdojkfjgfeijaaChL1
namespace Go.Proofs.Ytpdojkfjgfeijaa
namespace Ch
open Go.RowKit Bk

attribute [local go_sem ↓] Go.wp_at_zero Go.wp_at_succ
attribute [local go_sem] floatUpon pick

set_option maxRecDepth 20000 in
set_option maxHeartbeats 4000000 in
theorem above_in (A : Option Addr) (c : Nat) (l : List Vr) (t : Int) (p1 p2 : Addr) (j : Nat) (w : World) (hA : VrsAt w A l) (h1 : w.cell? p1 = some (.slice A l.length c)) (h2 : w.cell? p2 = some (.int .i64 t)) (hj : j < l.length) (hn : l.length ≤ 1024) :
    Calls Try.prog 32 #[.int .i64 (j : Int), .pointer (some p1), .pointer (some p2)] w fun e w' => e = .returned (.bool (decide (t < l[j].ts))) ∧ ∃ n, w' = w.drewN n := by
  have hlen : (l.length : Int) ≤ 1024 := by omega
  have pj : (j : Int) < (l.length : Int) := by omega
  obtain ⟨ad, rfl, hab, hcl⟩ := hA (by omega)
  obtain ⟨x0, -, -⟩ := hcl j hj
  generalize l[j].ts = xt at x0 ⊢
  clear hab hcl hA hn hj
  go_enter Try.func32, Try.ntmps32
  go_upto_region 1 with fail
  go_quiet (fail)
  rename_i nq
  go_wp2_with fail
  go_ret
  exact ⟨rfl, _, rfl⟩

/-- what a search has behind it and ahead of it -/
structure Mid (l : List Vr) (t : Int) (i j : Nat) : Prop where
  le : i ≤ j
  ln : j ≤ l.length
  low : ∀ k (h : k < l.length), k < i → l[k].ts ≤ t
  high : ∀ k (h : k < l.length), j ≤ k → t < l[k].ts

theorem Mid.place {l : List Vr} {t : Int} {i : Nat} (h : Mid l t i i) : placeN l t = i := place_at h.ln h.low (fun hk => h.high i hk (Nat.le_refl _))

theorem rise_at {l : List Vr} (h : l.Pairwise (fun x y => x.ts < y.ts)) {i j : Nat} (hj : j < l.length) (hij : i ≤ j) : (l[i]'(by omega)).ts ≤ l[j].ts := by
  rcases Nat.eq_or_lt_of_le hij with e | e
  · subst e; exact Int.le_refl _
  · exact Int.le_of_lt (List.pairwise_iff_getElem.1 h i j (by omega) hj e)

theorem Mid.left {l : List Vr} {t : Int} {i j m : Nat} (h : Mid l t i j) (hr : l.Pairwise (fun x y => x.ts < y.ts)) (hm : m < l.length) (hmj : m < j) (ht : ¬ t < l[m].ts) : Mid l t (m + 1) j :=
  ⟨by omega, h.ln, fun k hk hkm => Int.le_trans (rise_at hr hm (by omega)) (by omega), h.high⟩

theorem Mid.right {l : List Vr} {t : Int} {i j m : Nat} (h : Mid l t i j) (hr : l.Pairwise (fun x y => x.ts < y.ts)) (hm : m < l.length) (him : i ≤ m) (ht : t < l[m].ts) : Mid l t i m :=
  ⟨him, by omega, h.low, fun k hk hkm => Int.lt_of_lt_of_le ht (rise_at hr hk hkm)⟩

set_option maxRecDepth 20000 in
set_option maxHeartbeats 4000000 in
theorem search_any (A : Option Addr) (c : Nat) (l : List Vr) (t : Int) (p1 p2 : Addr) (w : World) (hA : VrsAt w A l) (h1 : w.cell? p1 = some (.slice A l.length c)) (h2 : w.cell? p2 = some (.int .i64 t)) (hb1 : p1.block < w.heap.size) (hb2 : p2.block < w.heap.size) (hr : l.Pairwise (fun x y => x.ts < y.ts)) (hn : l.length ≤ 1024) :
    Calls Try.prog 31 #[.int .i64 (l.length : Int), .func (.func 32) #[] #[.pointer (some p1), .pointer (some p2)]] w fun e w' => e = .returned (.int .i64 (placeN l t : Int)) ∧ Below w.heap.size w w' := by
  have HC := Lib.hid (fun j (hj : j < l.length) W (hb : Below w.heap.size w W) => above_in A c l t p1 p2 j W (hA.below hb) ((cell_kept hb _ hb1).trans h1) ((cell_kept hb _ hb2).trans h2) hj hn)
  have HR := Lib.hid hr
  have hlen : (l.length : Int) ≤ 1024 := by omega
  clear hA h1 h2 hb1 hb2 hr hn
  go_enter Try.func31, Try.ntmps31
  go_wp2_with fail
  go_loopw [5, 6] (fun iv jv wr => ∃ i j : Nat, iv = .int .i64 (i : Int) ∧ jv = .int .i64 (j : Int) ∧ Hid (Mid l t i j) ∧ Hid (Below w.heap.size w wr)) (fun iv jv _ => (intOf jv).toNat - (intOf iv).toNat)
  case atStart => exact ⟨0, l.length, rfl, rfl, Lib.hid ⟨by omega, by omega, fun k _ h => absurd h (by omega), fun k hk h => absurd hk (by omega)⟩, Lib.hid (Below.refl _ _)⟩
  case round =>
    obtain ⟨i, j, rfl, rfl, hm, hb⟩ := hrel
    have hij := hm.out.le
    have hjl := hm.out.ln
    have pj : (j : Int) ≤ 1024 := by omega
    by_cases hlt : i < j
    · have pij : (i : Int) < (j : Int) := by omega
      obtain ⟨m, hmm⟩ : ∃ m : Nat, (i + j) / 2 = m := ⟨_, rfl⟩
      have him : i ≤ m := by omega
      have hmj : m < j := by omega
      have HCm := Lib.hid (HC.out m (by omega))
      go_upto_region 4 with fail
      rw [show ((i : Int) + (j : Int)) / 2 = (m : Int) by omega]
      have hml : m < l.length := by omega
      by_cases ht : t < l[m].ts
      · have HM := Lib.hid (hm.out.right HR.out hml him ht)
        have HCm2 : Hid (∀ W, Below w.heap.size w W → Calls Try.prog 32 #[.int .i64 (m : Int), .pointer (some p1), .pointer (some p2)] W fun e w' => e = .returned (.bool true) ∧ ∃ n, w' = W.drewN n) := Lib.hid (fun W hb => by have := HCm.out W hb; rwa [decide_eq_true ht] at this)
        have HB := hb
        clear hm hb HCm HC ht hmm him hij hjl pij
        go_wp2_with fail
        refine (HCm2.out _ HB.out).mono ?_
        rintro e2 w2 ⟨rfl, nq, rfl⟩
        have HB2 := Lib.hid (HB.out.trans ((below_drew wr.heap.size wr nq).mono HB.out.size))
        generalize wr.drewN nq = W2 at HB2 ⊢
        clear HCm2
        go_wp2_with fail
        go_roundw
        case rel => exact ⟨i, m, rfl, rfl, HM, HB2⟩
        case measure => simp [intOf]; have := HM.out.le; omega
      · have HM := Lib.hid (hm.out.left HR.out hml hmj ht)
        have HCm2 : Hid (∀ W, Below w.heap.size w W → Calls Try.prog 32 #[.int .i64 (m : Int), .pointer (some p1), .pointer (some p2)] W fun e w' => e = .returned (.bool false) ∧ ∃ n, w' = W.drewN n) := Lib.hid (fun W hb => by have := HCm.out W hb; rwa [decide_eq_false ht] at this)
        have HB := hb
        have pm : (m : Int) ≤ 1024 := by omega
        have HMi := Lib.hid him
        have HLt := Lib.hid hlt
        clear hm hb HCm HC ht hmm him hij hjl pij hlt
        go_wp2_with fail
        refine (HCm2.out _ HB.out).mono ?_
        rintro e2 w2 ⟨rfl, nq, rfl⟩
        have HB2 := Lib.hid (HB.out.trans ((below_drew wr.heap.size wr nq).mono HB.out.size))
        generalize wr.drewN nq = W2 at HB2 ⊢
        clear HCm2
        go_wp2_with fail
        go_roundw
        case rel => exact ⟨m + 1, j, by go_num, rfl, HM, HB2⟩
        case measure => simp [intOf]; have := HMi.out; have := HLt.out; omega
    · obtain rfl : i = j := by omega
      have hp := hm.out.place
      have HB := hb
      clear hm hb
      go_wp2_with fail
      go_ret
      exact ⟨by rw [hp]; rfl, HB.out⟩

set_option maxRecDepth 20000 in
set_option maxHeartbeats 4000000 in
theorem notAbove_any (A : Option Addr) (c : Nat) (l : List Vr) (t : Int) (w : World) (hA : VrsAt w A l) (hr : l.Pairwise (fun x y => x.ts < y.ts)) (hn : l.length ≤ 1024) :
    Calls Try.prog 27 #[.slice A l.length c, .int .i64 t] w fun e w' => e = .returned (.int .i64 (placeN l t : Int)) ∧ Below w.heap.size w w' := by
  obtain ⟨W1, hW1⟩ : ∃ W1, w.alloc (.cells #[.slice A l.length c] 22) = W1 := ⟨_, rfl⟩
  obtain ⟨W2, hW2⟩ : ∃ W2, W1.alloc (.cells #[.int .i64 t] 3) = W2 := ⟨_, rfl⟩
  have hs1 : W1.heap.size = w.heap.size + 1 := by rw [← hW1]; simp
  have hs2 : W2.heap.size = w.heap.size + 2 := by rw [← hW2]; simp [hs1]
  have hb1 : Below w.heap.size w W1 := by rw [← hW1]; exact (Below.refl _ w).alloc (Nat.le_refl _) _
  have hb2 : Below W1.heap.size W1 W2 := by rw [← hW2]; exact (Below.refl _ W1).alloc (Nat.le_refl _) _
  have hbw : Below w.heap.size w W2 := hb1.trans (hb2.mono hb1.size)
  have c1 : W1.cell? ⟨w.heap.size, 0, none⟩ = some (.slice A l.length c) := by rw [← hW1]; exact blk_cell (blk1 w _).2 rfl
  have c2 : W2.cell? ⟨W1.heap.size, 0, none⟩ = some (.int .i64 t) := by rw [← hW2]; exact blk_cell (blk1 W1 _).2 rfl
  have c1' : W2.cell? ⟨w.heap.size, 0, none⟩ = some (.slice A l.length c) := (cell_kept hb2 _ (by rw [hs1]; exact Nat.lt_succ_self _)).trans c1
  rw [hs1] at c2
  have HS := Lib.hid (search_any A c l t ⟨w.heap.size, 0, none⟩ ⟨w.heap.size + 1, 0, none⟩ W2 (hA.below hbw) c1' c2 (by show w.heap.size < _; omega) (by show w.heap.size + 1 < _; omega) hr hn)
  have HB := Lib.hid hbw
  have hlen : (l.length : Int) ≤ 1024 := by omega
  clear hA hr hn hb1 hb2 hbw c1 c2 hs2
  go_enter Try.func27, Try.ntmps27
  go_upto_region 1 with fail
  clear hW1 hW2
  go_wp2_with fail
  refine HS.out.mono ?_
  rintro e2 w2 ⟨rfl, hb⟩
  have HB2 := Lib.hid (HB.out.trans (hb.mono HB.out.size))
  clear hb HS HB
  go_wp2_with fail
  go_ret
  exact ⟨rfl, HB2.out⟩

end Ch
end Go.Proofs.Ytpdojkfjgfeijaa
