/- The walk of the law that what is picked is as the document has it; no condition but the form's reach. -/
import Derived.Test.YtmnciipfepeccaaMatLandPick
import Derived.Test.YtmnciipfepeccaaMatShell
import Derived.Laws.OwnMore
namespace Go.Proofs.Ytmnciipfepeccaa
open Go.RowKit

theorem Try.infoInt : (Try.prog.info? 3).map (fun i => (i.zero, i.size, i.bytes)) = some (some (.int .i64 0), 1, 8) := by kernel_rfl

/-- what is picked of any matrix -/
def pAns (r c : Int) (s : ByteArray) (L : List Int) : Value :=
  if may r c s then pickAns r.toNat c.toNat s L else .tuple #[.agg #[.int .i64 0, .int .i64 0, .string ⟨#[]⟩], .int .i64 4]

theorem pickAns_form (r c : Nat) (s : ByteArray) (L : List Int) : ∃ x y z e, pickAns r c s L = .tuple #[.agg #[.int .i64 x, .int .i64 y, .string z], .int .i64 e] := by
  unfold pickAns
  split
  · split
    · exact ⟨_, _, _, _, rfl⟩
    · split
      · exact ⟨_, _, _, _, rfl⟩
      · exact ⟨_, _, _, _, rfl⟩
  · exact ⟨_, _, _, _, rfl⟩

theorem pAns_form (r c : Int) (s : ByteArray) (L : List Int) : ∃ x y z e, pAns r c s L = .tuple #[.agg #[.int .i64 x, .int .i64 y, .string z], .int .i64 e] := by
  unfold pAns
  split
  · exact pickAns_form _ _ _ _
  · exact ⟨_, _, _, _, rfl⟩

theorem lp_any (r c : Int) (s : ByteArray) (a : Addr) (cap : Nat) (L : List Int) (w : World) (ha : a.block < w.heap.size) (hL : ∀ i (h : i < L.length), w.cell? (a.add i) = some (.int .i64 L[i])) (hm : L.length ≤ 1152921504606846976) :
    Calls Try.prog 18 #[.agg #[.int .i64 r, .int .i64 c, .string s], .slice (some a) L.length cap] w fun e w' => e = .returned (pAns r c s L) ∧ Below w.heap.size w w' := by
  by_cases h : may r c s
  · obtain ⟨m, n, rfl, rfl, h1, h2, h3, h4, hs⟩ := may_nat h
    have := pick_some m n s a cap L w h1 h2 h3 h4 hs ha hL hm
    unfold pAns
    rw [if_pos h]
    exact this
  · unfold pAns
    rw [if_neg h]
    exact pick_shape r c s a _ cap w h

theorem sliceOf_below {w w' : World} {v : Value} {L : List Int} (h : SliceOf w v L) (hb : Below w.heap.size w w') : SliceOf w' v L := by
  rcases h with h | ⟨a, cap, h1, h2, h3, h4⟩
  · exact .inl h
  · refine .inr ⟨a, cap, h1, fun hp => Nat.lt_of_lt_of_le (h2 hp) hb.size, fun i hi => ?_, h4⟩
    rw [cell_kept hb (a.add i) (by rw [add_block]; exact h2 (by omega))]
    exact h3 i hi

theorem sliceOf_alloc {w : World} {v : Value} {L : List Int} (h : SliceOf w v L) (o : Obj) : SliceOf (w.alloc o) v L := sliceOf_below h ((Below.refl _ w).alloc (Nat.le_refl _) o)

end Go.Proofs.Ytmnciipfepeccaa
