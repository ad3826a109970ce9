/- What the document's own inverse answers for what may not be, or is not square. -/
import Derived.Test.YtlmcpnlnbjloaaaMatRef
namespace Go.Proofs.Ytlmcpnlnbjloaaa
open Go.RowKit

theorem below_new2 {w w1 : World} {A B : Obj} (h : Below ((w.alloc A).alloc B).heap.size ((w.alloc A).alloc B) w1) : Below w.heap.size w w1 :=
  (((Below.refl _ w).alloc (Nat.le_refl _) _).alloc (by simp) _).trans (h.mono (by simp; omega))

set_option maxRecDepth 20000 in
set_option maxHeartbeats 2000000 in
theorem rinv_no (r c : Int) (s : ByteArray) (w : World) (h : ¬ may r c s ∨ r ≠ c) :
    Calls Try.prog 20 #[.agg #[.int .i64 r, .int .i64 c, .string s]] w fun e w' =>
      e = .returned (.tuple #[.agg #[.int .i64 0, .int .i64 0, .string ⟨#[]⟩], .int .i64 4]) ∧ Below w.heap.size w w' := by
  by_cases ma : may r c s
  · have ka : ((chk r c s : Nat) : Int) = 0 := by unfold chk; rw [if_pos ma]; rfl
    have hc : r ≠ c := h.resolve_left (fun x => x ma)
    have t1 : (r != c) = true := by simp [hc]
    have t2 : (r == c) = false := by simp [hc]
    clear h ma hc
    go_enter Try.func20, Try.ntmps20
    go_wp2_with fail
    refine (rcheck_any _ _ _ _).mono ?_
    rintro e w1 ⟨rfl, hb1⟩
    have B1 := Lib.hid hb1
    obtain ⟨hc1, hf1⟩ := bcell hb1
    have hz1 := hb1.size
    clear hb1
    simp at hz1
    have x0 : w.heap.size < w1.heap.size := by omega
    have x1 : w.heap.size + 1 < w1.heap.size := by omega
    go_wp2_with fail
    exact bodyPost_ret (v := .tuple #[.agg #[.int .i64 0, .int .i64 0, .string ⟨#[]⟩], .int .i64 4]) (by simp [results, Try.results20, go_sem, hc1]) rfl
      ⟨rfl, below_agg3 (below_new2 B1.out) (by omega) _ _ _⟩
  · have ka : ((chk r c s : Nat) : Int) = 4 := by rw [chk_no ma]; rfl
    clear h ma
    go_enter Try.func20, Try.ntmps20
    go_wp2_with fail
    refine (rcheck_any _ _ _ _).mono ?_
    rintro e w1 ⟨rfl, hb1⟩
    have B1 := Lib.hid hb1
    obtain ⟨hc1, hf1⟩ := bcell hb1
    clear hb1
    go_wp2_with fail
    exact bodyPost_ret (v := .tuple #[.agg #[.int .i64 0, .int .i64 0, .string ⟨#[]⟩], .int .i64 4]) (by simp [results, Try.results20, go_sem, hc1]) rfl
      ⟨rfl, below_agg3 (below_new2 B1.out) (by omega) _ _ _⟩

end Go.Proofs.Ytlmcpnlnbjloaaa
