/- A chain that is overwritten: contract; no condition but the range. -/
import Derived.Test.YtpdojkfjgfeijaaChBook
namespace Go.Proofs.Ytpdojkfjgfeijaa
namespace Ch
open Go.RowKit Bk

attribute [local go_sem ↓] Go.wp_at_zero Go.wp_at_succ
attribute [local go_sem] floatUpon pick

theorem grown_refl (w : World) (r : Option Nat) : w.grownBy w r := ⟨rfl, rfl, rfl, Nat.le_refl _, fun _ _ _ => rfl⟩

theorem grown_set {w W : World} {r : Option Nat} {p : Addr} (h : w.grownBy W r) (hp : r = some p.block) (v : Value) : w.grownBy (W.setCell p v) r :=
  ⟨h.os, h.tape, h.output, by simpa [World.setCell] using h.size, fun i hi hn => (Below.heap_setCell W p v i (fun e => hn (by rw [hp, e]))).trans (h.block i hi hn)⟩

set_option maxRecDepth 20000 in
set_option maxHeartbeats 4000000 in
theorem spoil_any (A : Option Addr) (c n : Nat) (w : World) (hn : n ≤ 9223372036854775807) (h : 0 < n → ∃ gg xs, A = some ⟨gg, 0, none⟩ ∧ Cel w gg 24 xs ∧ n * 3 ≤ xs.length) :
    Calls Try.prog 14 #[.slice A n c] w fun e w' => e = .returned (.tuple #[]) ∧ w.grownBy w' (Value.slice A n c).ownBlock := by
  have H := Lib.hid h
  clear h
  go_enter Try.func14, Try.ntmps14
  go_wp2_with fail
  go_loopw [2] (fun i wr => ∃ (j : Nat), j ≤ n ∧ i = .int .i64 (j : Int) ∧ Hid (w.grownBy wr (Value.slice A n c).ownBlock) ∧ Hid (0 < n → ∃ gg xs, A = some ⟨gg, 0, none⟩ ∧ Cel wr gg 24 xs ∧ n * 3 ≤ xs.length)) (fun i _ => n - (intOf i).toNat)
  case atStart => exact ⟨0, Nat.zero_le _, rfl, Lib.hid (grown_refl _ _), H⟩
  case round =>
    obtain ⟨j, hj, rfl, hf, hc⟩ := hrel
    clear H
    by_cases hlt : j < n
    case neg =>
      have pj : ¬ (j : Int) < (n : Int) := by omega
      go_wp2_with fail
      exact bodyPost_end (results_none rfl _ _ _) rfl ⟨rfl, hf.out⟩
    have pj : (j : Int) < (n : Int) := by omega
    obtain ⟨gg, xs, rfl, hcel, hlen⟩ := hc.out (by omega)
    obtain ⟨u, hu⟩ : ∃ u, xs[j * 3]? = some u := ⟨_, List.getElem?_eq_getElem (by omega)⟩
    obtain ⟨u1, hu1⟩ : ∃ u, xs[j * 3 + 1]? = some u := ⟨_, List.getElem?_eq_getElem (by omega)⟩
    obtain ⟨u2, hu2⟩ : ∃ u, xs[j * 3 + 2]? = some u := ⟨_, List.getElem?_eq_getElem (by omega)⟩
    have d0 := hcel.cell (i := j * 3) hu
    have d1 := hcel.cell (i := j * 3 + 1) hu1
    have d2 := hcel.cell (i := j * 3 + 2) hu2
    have dq := fun i => hcel.free (i := i)
    have HC := Lib.hid (And.intro hcel hlen)
    clear hcel hlen hu hu1 hu2 hc
    go_wp2_with fail
    go_roundw
    case rel => exact ⟨j + 1, by omega, by go_num, Lib.hid (grown_set (p := ⟨gg, j * 3 + 2, none⟩) (grown_set (p := ⟨gg, j * 3 + 1, none⟩) (grown_set (p := ⟨gg, j * 3, none⟩) hf.out rfl _) rfl _) rfl _), Lib.hid (fun _ => ⟨gg, _, rfl, ((HC.out.1.set (i := j * 3)).set (i := j * 3 + 1)).set (i := j * 3 + 2), by rw [List.length_set, List.length_set, List.length_set]; exact HC.out.2⟩)⟩
    case measure => simp [intOf]; omega

theorem spoil_row {W : World} {H n : Nat} {A : Option Addr} {c : Nat} {xs : List Value} (h : W.ownsRow H 24 3 (.slice A n c) n xs) : 0 < n → ∃ gg ys, A = some ⟨gg, 0, none⟩ ∧ Cel W gg 24 ys ∧ n * 3 ≤ ys.length := fun hn => by
  rcases h.2 with ⟨_, h0⟩ | ⟨g, cap, cur, hv, _, hg, hnc, _, hz, _⟩
  · omega
  · simp only [Value.slice.injEq, true_and] at hv
    obtain ⟨rfl, rfl⟩ := hv
    exact ⟨g, cur.toList, rfl, by unfold Cel; rw [hg], by rw [Array.length_toList, hz]; exact Nat.mul_le_mul_right 3 hnc⟩

end Ch
end Go.Proofs.Ytpdojkfjgfeijaa
