/- The table of rows by which the landed package inverts: swaps of two rows, a row scaled, a row reduced by another; no condition but the range. -/
import Derived.Test.YtlmcpnlnbjloaaaMatTab
import Derived.Deep.RegionHeld3
namespace Go.Proofs.Ytlmcpnlnbjloaaa
open Go.RowKit

variable {H tp B rb n : Nat} {g : Nat → Nat} {X Y : Nat → Nat → UInt8} {w w' : World}

theorem hdrA_swap (n m : Nat) (g : Nat → Nat) (a c : Nat) (ha : a < n) (hc : c < n) :
    ((hdrA n m g).setIfInBounds a (.slice (some ⟨g c, 0, none⟩) m m)).setIfInBounds c (.slice (some ⟨g a, 0, none⟩) m m) = hdrA n m fun i => g (GfU.swp c a i) := by
  have hs : (hdrA n m g).size = n := by simp [hdrA]
  apply Array.ext_getElem?
  intro p
  rw [Array.getElem?_setIfInBounds, Array.size_setIfInBounds, hs, Array.getElem?_setIfInBounds, hs]
  by_cases hp : p < n
  · rw [hdrA_at n m (fun i => g (GfU.swp c a i)) p hp]
    unfold GfU.swp
    by_cases h1 : c = p
    · subst h1; rw [if_pos rfl, if_pos hp, if_pos rfl]
    · rw [if_neg h1]
      by_cases h2 : a = p
      · subst h2; rw [if_pos rfl, if_pos ha, if_neg (fun e => h1 e.symm), if_pos rfl]
      · rw [if_neg h2, hdrA_at n m g p hp, if_neg (fun e => h1 e.symm), if_neg (fun e => h2 e.symm)]
  · have h1 : c ≠ p := by omega
    have h2 : a ≠ p := by omega
    rw [if_neg h1, if_neg h2, Array.getElem?_eq_none (by rw [hs]; omega), Array.getElem?_eq_none (by simp [hdrA]; omega)]

theorem Tab.swapped (h : Tab H w tp B rb n g X) (a c : Nat) (ha : a < n) (hc : c < n) :
    Tab H ((w.setCell ⟨rb, a, none⟩ (.slice (some ⟨g c, 0, none⟩) (2 * n) (2 * n))).setCell ⟨rb, c, none⟩ (.slice (some ⟨g a, 0, none⟩) (2 * n) (2 * n))) tp B rb n (fun i => g (GfU.swp c a i)) (fun i j => X (GfU.swp c a i) j) := by
  have hne : ∀ {b : Nat} {cs : Array Value} {T : TypeId}, w.heap[b]? = some (.cells cs T (0, 0)) → T ≠ 68 → b ≠ rb := by
    intro b cs T hb hT e
    rw [e, h.rc] at hb
    injection hb with hb
    injection hb with _ hb _
    exact hT hb.symm
  have ho : ∀ {b : Nat}, b ≠ rb → ((w.setCell ⟨rb, a, none⟩ (.slice (some ⟨g c, 0, none⟩) (2 * n) (2 * n))).setCell ⟨rb, c, none⟩ (.slice (some ⟨g a, 0, none⟩) (2 * n) (2 * n))).heap[b]? = w.heap[b]? := fun hb => by
    rw [heap_setCell_other _ _ _ _ hb, heap_setCell_other _ _ _ _ hb]
  refine ⟨(ho (hne h.tc (by decide))).trans h.tc, (ho (hne h.fl (by decide))).trans h.fl, ?_, fun i hi => ?_, fun i j hi hj e => ?_, h.lo.1, fun i hi => h.lo.2 _ (GfU.swp_lt hc ha hi)⟩
  · rw [heap_setCell_same _ _ _ _ _ _ (heap_setCell_same _ _ _ _ _ _ h.rc), hdrA_swap n (2 * n) g a c ha hc]
  · have hs := GfU.swp_lt hc ha hi
    rw [ho (hne (h.row _ hs) (by decide))]; exact h.row _ hs
  · have := h.inj _ _ (GfU.swp_lt hc ha hi) (GfU.swp_lt hc ha hj) e
    rw [← GfU.swp_swp c a i, this, GfU.swp_swp]

set_option maxRecDepth 20000 in
set_option maxHeartbeats 2000000 in
theorem swap_any (a c : Nat) (h : Tab H w tp B rb n g X) (ha : a < n) (hc : c < n) :
    Calls Try.prog 56 #[.pointer (some ⟨tp, 0, none⟩), .int .i64 (a : Int), .int .i64 (c : Int)] w fun e w' => e = .returned (.tuple #[]) ∧ Tab H w' tp B rb n (fun i => g (GfU.swp c a i)) (fun i j => X (GfU.swp c a i) j) ∧ Below H w w' := by
  have hT := Lib.hid h
  have c1 := h.t1
  have p1 : (a : Int) < (n : Int) := by omega
  have p2 : (c : Int) < (n : Int) := by omega
  have f1 := blk_free h.rc
  by_cases e : a = c
  · subst e
    have c2 := h.hd a ha
    clear h
    go_enter Try.func56, Try.ntmps56
    go_wp2_with fail
    go_region
    all_goals (try go_wp2)
    all_goals go_end0
    all_goals exact ⟨rfl, (hT.out.swapped a a ha ha).drew, (((Below.refl _ w).setCell hT.out.lo.1 _).setCell hT.out.lo.1 _).drew⟩
  · have c2 := h.hd a ha
    have c3 := h.hd c hc
    clear h
    go_enter Try.func56, Try.ntmps56
    go_wp2_with fail
    go_region
    all_goals (try go_wp2)
    all_goals go_end0
    all_goals exact ⟨rfl, (hT.out.swapped a c ha hc).drew, (((Below.refl _ w).setCell hT.out.lo.1 _).setCell hT.out.lo.1 _).drew⟩

end Go.Proofs.Ytlmcpnlnbjloaaa
