/- What the landed package's Inverse answers of any matrix. -/
import Derived.Test.YtlmcpnlnbjloaaaMatLandInv
import Derived.Test.YtlmcpnlnbjloaaaMatRef3
import Derived.Test.YtlmcpnlnbjloaaaMatInvs
namespace Go.Proofs.Ytlmcpnlnbjloaaa
open Go.RowKit

set_option maxRecDepth 20000 in
set_option maxHeartbeats 2000000 in
theorem inv_no (r c : Int) (s : ByteArray) (w : World) (h : ¬ may r c s ∨ r ≠ c) :
    Calls Try.prog 19 #[.agg #[.int .i64 r, .int .i64 c, .string s]] w fun e w' =>
      e = .returned (.tuple #[.agg #[.int .i64 0, .int .i64 0, .string ⟨#[]⟩], .int .i64 4]) ∧ Below w.heap.size w w' := by
  by_cases ma : may r c s
  · have ka : ((chk r c s : Nat) : Int) = 0 := by unfold chk; rw [if_pos ma]; rfl
    have hc : r ≠ c := h.resolve_left (fun x => x ma)
    have t1 : (r != c) = true := by simp [hc]
    have t2 : (r == c) = false := by simp [hc]
    clear h ma hc
    go_enter Try.func19, Try.ntmps19
    go_wp2_with fail
    refine (check_any _ _ _ _).mono ?_
    rintro e w1 ⟨rfl, hb1⟩
    have B1 := Lib.hid hb1
    obtain ⟨hc1, hf1⟩ := bcell hb1
    have hz1 := hb1.size
    clear hb1
    simp at hz1
    have x0 : w.heap.size < w1.heap.size := by omega
    have x1 : w.heap.size + 1 < w1.heap.size := by omega
    go_wp2_with fail
    exact bodyPost_ret (v := .tuple #[.agg #[.int .i64 0, .int .i64 0, .string ⟨#[]⟩], .int .i64 4]) (by simp [results, Try.results19, go_sem, hc1]) rfl
      ⟨rfl, below_agg3 (below_new2 B1.out) (by omega) _ _ _⟩
  · have ka : ((chk r c s : Nat) : Int) = 4 := by rw [chk_no ma]; rfl
    clear h ma
    go_enter Try.func19, Try.ntmps19
    go_wp2_with fail
    refine (check_any _ _ _ _).mono ?_
    rintro e w1 ⟨rfl, hb1⟩
    have B1 := Lib.hid hb1
    obtain ⟨hc1, hf1⟩ := bcell hb1
    clear hb1
    go_wp2_with fail
    exact bodyPost_ret (v := .tuple #[.agg #[.int .i64 0, .int .i64 0, .string ⟨#[]⟩], .int .i64 4]) (by simp [results, Try.results19, go_sem, hc1]) rfl
      ⟨rfl, below_agg3 (below_new2 B1.out) (by omega) _ _ _⟩

theorem invAll : InvAll := by
  intro r c s w
  by_cases h : may r c s ∧ r = c
  · obtain ⟨hm, rfl⟩ := h
    obtain ⟨m, n, hr, hc, h1, h2, _, _, hs⟩ := may_nat hm
    have e : m = n := by omega
    subst e
    subst hr
    refine (inv_yes m s w h1 h2 hs).mono ?_
    rintro e w' ⟨hres, hb⟩
    have hv : ∃ v, e = .returned v := by
      rcases hres with ⟨R, h, _⟩ | ⟨h, _⟩
      · exact ⟨_, h⟩
      · exact ⟨_, h⟩
    obtain ⟨v, rfl⟩ := hv
    exact ⟨v, rfl, .inl ⟨m, rfl, rfl, hm, hres⟩, hb⟩
  · refine (inv_no r c s w ?_).mono ?_
    · by_cases hm : may r c s
      · exact .inr fun he => h ⟨hm, he⟩
      · exact .inl hm
    · rintro e w' ⟨rfl, hb⟩
      exact ⟨_, rfl, .inr ⟨h, rfl⟩, hb⟩

end Go.Proofs.Ytlmcpnlnbjloaaa
