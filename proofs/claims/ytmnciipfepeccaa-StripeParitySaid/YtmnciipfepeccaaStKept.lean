/- Whether what was lent is as it was; the document's Join; the walk of the law that what any shards are, joined, is as the document has it. -/
import Derived.Test.YtmnciipfepeccaaStLend
import Derived.Test.YtmnciipfepeccaaStRef3
namespace Go.Proofs.Ytmnciipfepeccaa
open Go.RowKit

theorem lent_strs {w : World} {H g cap : Nat} {l : List ByteArray} (h : w.ownsRow H 9 1 (.slice (some ⟨g, 0, none⟩) (l.length + 1) cap) (l.length + 1) (strV l ++ [.string markS])) : StrsAt w (some ⟨g, 0, none⟩) l := fun _ => by
  have hf := World.ownsRow.cellAt h
  refine ⟨_, rfl, ?_, fun i hi => ?_⟩
  · obtain ⟨g', cap', hv, _, hlt⟩ := World.ownsRow.form h (by omega)
    simp only [Value.slice.injEq, Option.some.injEq, Addr.mk.injEq] at hv
    obtain ⟨⟨rfl, -⟩, -⟩ := hv
    exact hlt
  · rw [addr_head, hf i (by omega), List.getElem?_append_left (by rw [strV_len]; exact hi)]
    exact strV_at hi

theorem lent_mark {w : World} {H g cap : Nat} {l : List ByteArray} (h : w.ownsRow H 9 1 (.slice (some ⟨g, 0, none⟩) (l.length + 1) cap) (l.length + 1) (strV l ++ [.string markS])) : w.cell? ⟨g, l.length, none⟩ = some (.string ⟨#[109, 97, 114, 107]⟩) := by
  rw [World.ownsRow.cellAt h l.length (by omega), List.getElem?_append_right (by rw [strV_len]; exact Nat.le_refl _), strV_len, Nat.sub_self]
  rfl

set_option maxRecDepth 20000 in
set_option maxHeartbeats 2000000 in
theorem kept_any (H g cap : Nat) (v : Value) (l : List ByteArray) (w : World) (h : TextsOf w v l) (ho : w.ownsRow H 9 1 (.slice (some ⟨g, 0, none⟩) (l.length + 1) cap) (l.length + 1) (strV l ++ [.string markS])) :
    Calls Try.prog 28 #[.slice (some ⟨g, 0, none⟩) l.length cap, v] w fun e w' => e = .returned (.bool true) ∧ ∃ n, w' = w.drewN n := by
  obtain ⟨A, c, rfl, hst, _, hn16, _⟩ := h
  have hsm := same_any (some ⟨g, 0, none⟩) A cap c l l w (lent_strs ho) hst (by omega)
  rw [show decide (l = l) = true by simp] at hsm
  have HSM := Lib.hid hsm
  have hmark := lent_mark ho
  have hcap : l.length + 1 ≤ cap := by
    rcases ho.2 with ⟨h1, h2⟩ | ⟨g', cap', cur, h1, _, _, h3, _⟩
    · simp at h1
    · simp only [Value.slice.injEq] at h1; omega
  have hcapM : cap ≤ 9223372036854775807 := by
    rcases ho.2 with ⟨h1, h2⟩ | ⟨g', cap', cur, h1, _, _, _, h3, _⟩
    · simp at h1
    · simp only [Value.slice.injEq] at h1; unfold maxLen at h3; omega
  have hcl : (l.length : Int) + 1 ≤ (cap : Int) := by omega
  have hc0 : ¬ cap = 0 := by omega
  have pl : (l.length : Int) < (l.length : Int) + 1 := by omega
  clear hsm hst ho
  go_enter Try.func28, Try.ntmps28
  go_wp2_with fail
  refine HSM.out.mono ?_
  rintro e w1 ⟨rfl, d, rfl⟩
  have hmark2 : (w.drewN d).cell? ⟨g, l.length, none⟩ = some (.string ⟨#[109, 97, 114, 107]⟩) := hmark
  clear hmark
  go_wp2_with fail
  go_ret
  exact ⟨rfl, d, rfl⟩

end Go.Proofs.Ytmnciipfepeccaa
