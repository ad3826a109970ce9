/- The document's Last and At of a chain: contracts; no condition but the range. -/
import Derived.Test.YtpdojkfjgfeijaaChRef2
namespace Go.Proofs.Ytpdojkfjgfeijaa
namespace Ch
open Go.RowKit Bk

attribute [local go_sem ↓] Go.wp_at_zero Go.wp_at_succ
attribute [local go_sem] floatUpon pick

theorem lastT_at {l : List Vr} (h : 0 < l.length) : lastT l = (l[l.length - 1]'(by omega)).ts := by
  unfold lastT
  rw [List.getLast?_eq_getElem?, List.getElem?_eq_getElem (by omega)]

set_option maxRecDepth 20000 in
set_option maxHeartbeats 4000000 in
theorem rlast_any (A : Option Addr) (c : Nat) (l : List Vr) (w : World) (h : VrsAt w A l) (hn : l.length * 32 ≤ 140737488351232) (hr : ∀ x ∈ l, VrRng x) :
    Calls Try.prog 22 #[.slice A l.length c] w fun e w' => e = .returned (.tuple #[.int .i64 (lastP l).1, .int .i64 (lastP l).2]) ∧ Below w.heap.size w w' := by
  have HC := Lib.hid (rcheck_any A c l w h hn hr)
  have HA := Lib.hid h
  have hlen : (l.length : Int) ≤ 9223372036854775807 := by omega
  have E := Lib.hid (show lastP l = if (chkP l).2 ≠ 0 then (0, (chkP l).2) else (lastT l, 0) from rfl)
  obtain ⟨a, e, hae⟩ : ∃ a e, chkP l = (a, e) := ⟨_, _, rfl⟩
  rw [hae] at HC E
  simp only at HC E
  clear h hr hae
  go_enter Try.func22, Try.ntmps22
  go_wp2_with fail
  refine HC.out.mono ?_
  rintro e1 w1 ⟨rfl, hb⟩
  have HB := Lib.hid hb
  clear HC
  by_cases he : e = 0
  · subst he
    by_cases h0 : 0 < l.length
    · obtain ⟨ad, rfl, hab, hcl⟩ := (HA.out.below hb) (by omega)
      obtain ⟨x0, -, -⟩ := hcl (l.length - 1) (by omega)
      have hlt := lastT_at h0
      rw [← hlt] at x0
      have E2 := Lib.hid (show lastP l = (lastT l, 0) by rw [E.out]; rfl)
      have hc1 : (l.length : Int) - 1 = ((l.length - 1 : Nat) : Int) := by omega
      have hc2 : ((l.length - 1 : Nat) : Int) < (l.length : Int) := by omega
      have h0' : ¬ (l.length : Int) = 0 := by omega
      have hz : ((l.length : Int) == 0) = false := by simpa using h0'
      generalize l.length - 1 = k at x0 hc1 hc2
      generalize lastT l = lt at x0 E2
      clear hab hcl hlt E hb h0
      go_wp2_with fail
      go_ret2
      exact ⟨by rw [E2.out]; rfl, HB.out⟩
    · have h00 : l.length = 0 := by omega
      have E2 := Lib.hid (show lastP l = (0, 0) by
        have : l = [] := List.eq_nil_of_length_eq_zero h00
        rw [E.out, this]; rfl)
      rw [h00] at *
      clear h0 h00 E hb
      go_wp2_with fail
      go_ret2
      exact ⟨by rw [E2.out]; rfl, HB.out⟩
  · have E2 := Lib.hid (show lastP l = (0, e) by rw [E.out, if_pos he])
    have hz : (e == 0) = false := by simpa using he
    clear E hb
    go_wp2_with fail
    go_ret2
    exact ⟨by rw [E2.out]; rfl, HB.out⟩

end Ch
end Go.Proofs.Ytpdojkfjgfeijaa
