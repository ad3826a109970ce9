/- The walk of the law that shard sizes, and the data shards of any object, are those of the document; no condition but the form's reach. -/
import Derived.Test.YtmnciipfepeccaaStRef2
namespace Go.Proofs.Ytmnciipfepeccaa
open Go.RowKit

theorem sizeAns_form (k n : Int) : ∃ x y : Int, sizeAns k n = .tuple #[.int .i64 x, .int .i64 y] := by
  unfold sizeAns
  split
  · exact ⟨_, _, rfl⟩
  · exact ⟨_, _, rfl⟩

/-- both tell the same lists, and the same error -/
theorem split_both (k : Int) (s : ByteArray) : ∃ (l : List ByteArray) (q : Int), l.length ≤ 255 ∧
    (∀ H e w', SplitAns H k s e w' → ∃ A c, e = .returned (.tuple #[.slice A l.length c, .int .i64 q]) ∧ StrsAt w' A l) ∧
    (∀ H e w', RSplitAns H k s e w' → ∃ A c, e = .returned (.tuple #[.slice A l.length c, .int .i64 q]) ∧ StrsAt w' A l) := by
  cases hc : codeB k 0
  · refine ⟨[], 1, by simp, fun H e w' h => ?_, fun H e w' h => ?_⟩
    · unfold SplitAns at h; rw [if_neg (by simp [hc])] at h; exact ⟨none, 0, h, fun h => absurd h (by simp)⟩
    · unfold RSplitAns at h; rw [if_neg (by simp [hc])] at h; exact ⟨none, 0, h, fun h => absurd h (by simp)⟩
  · obtain ⟨k, b, rfl, hb, h1, h2⟩ := codeB_nat hc
    by_cases hs : s.size ≤ 2048
    · refine ⟨St.shards k s, 0, by rw [St.shards_len]; omega, fun H e w' h => ?_, fun H e w' h => ?_⟩
      · unfold SplitAns at h
        rw [if_pos hc, if_pos hs, Int.toNat_natCast] at h
        obtain ⟨g, e1, _, e3⟩ := h
        rw [St.shards_len]
        exact ⟨_, _, e1, StrsAt.blk e3⟩
      · unfold RSplitAns at h
        rw [if_pos hc, if_pos hs, Int.toNat_natCast] at h
        obtain ⟨v, e1, e2⟩ := h
        obtain ⟨g, cap, rfl, _⟩ := World.ownsRow.form e2 (by omega)
        refine ⟨some ⟨g, 0, none⟩, cap, by rw [St.shards_len]; exact e1, StrsAt.own e2 (St.shards_len k s).symm⟩
    · refine ⟨[], 2, by simp, fun H e w' h => ?_, fun H e w' h => ?_⟩
      · unfold SplitAns at h; rw [if_pos hc, if_neg hs] at h; exact ⟨none, 0, h, fun h => absurd h (by simp)⟩
      · unfold RSplitAns at h; rw [if_pos hc, if_neg hs] at h; exact ⟨none, 0, h, fun h => absurd h (by simp)⟩

set_option maxRecDepth 20000 in
set_option maxHeartbeats 2000000 in
theorem splits_walk (k : Int) (s : ByteArray) (n : Int) (hreach : s.size ≤ reachBytes) (w : World) :
    Calls Try.prog 5 #[.int .i64 k, .string s, .int .i64 n] w fun e w' => e = .returned (.bool true) ∧ Below w.heap.size w w' := by
  have hs63 : s.size ≤ 9223372036854775807 := by unfold reachBytes at hreach; omega
  obtain ⟨x, y, hxy⟩ := sizeAns_form k n
  have HXY := Lib.hid hxy
  obtain ⟨l, q, hl, hb1, hb2⟩ := split_both k s
  have HB1 := Lib.hid hb1
  have HB2 := Lib.hid hb2
  have HSp := Lib.hid (fun w => split_any k s w hs63)
  have HRSp := Lib.hid (fun w => rsplit_any k s w hs63)
  have HS := Lib.hid (fun w => Size_any k n w)
  have HR := Lib.hid (fun w => rSize_any k n w)
  rw [HXY.out] at HS HR
  clear hxy hb1 hb2 hreach HXY
  go_enter Try.func5, Try.ntmps5
  go_wp2_with fail
  refine (HS.out _).mono ?_
  rintro e w1 ⟨rfl, rfl⟩
  go_wp2_with fail
  refine (HR.out _).mono ?_
  rintro e w2 ⟨rfl, rfl⟩
  go_wp2_with fail
  refine (HSp.out _).mono ?_
  rintro e w3 ⟨hans, hb⟩
  obtain ⟨A, c, rfl, hst⟩ := HB1.out _ _ _ hans
  have S3 := Lib.hid hst
  have B3 := Lib.hid hb
  clear hans hst hb
  go_wp2_with fail
  refine (HRSp.out _).mono ?_
  rintro e w4 ⟨hans, hb⟩
  obtain ⟨A2, c2, rfl, hst⟩ := HB2.out _ _ _ hans
  have S4 := Lib.hid (S3.out.below hb)
  have R4 := Lib.hid hst
  have B4 := Lib.hid (B3.out.trans (hb.mono B3.out.size))
  clear hans hst hb S3 B3
  go_wp2_with fail
  have hsm := same_any A A2 c c2 l l w4 S4.out R4.out (by omega)
  rw [show decide (l = l) = true by simp] at hsm
  have HSM := Lib.hid hsm
  clear hsm
  refine HSM.out.mono ?_
  rintro e w5 ⟨rfl, d, rfl⟩
  go_wp2_with fail
  refine (stworks _).mono ?_
  rintro e w6 ⟨rfl, hb⟩
  have B6 := Lib.hid ((below_drewN B4.out d).trans (hb.mono (by have := B4.out.size; simpa using this)))
  clear hb
  go_wp2_with fail
  go_ret
  exact ⟨rfl, B6.out⟩

end Go.Proofs.Ytmnciipfepeccaa
