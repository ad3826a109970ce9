/- Generators are those of the document: the law's walk, over what the package's Generator answers. -/
import Derived.Test.YtlmcpnlnbjloaaaMatLaw0
import Derived.Test.YtlmcpnlnbjloaaaMatTold
import Derived.Test.YtlmcpnlnbjloaaaMatGen
import Derived.Deep.RegionHeld3
import Derived.Deep.DeepCutAuto
import Derived.Deep.DrawnRows
namespace Go.Proofs.Ytlmcpnlnbjloaaa
open Go.RowKit

/-- a generator's rows, columns, bytes and number, or why there is none -/
def genAns (k m : Int) : Value :=
  if 1 ≤ k ∧ k ≤ 255 ∧ 0 ≤ m ∧ m ≤ 255 - k then .tuple #[.agg #[.int .i64 (k + m), .int .i64 k, .string ⟨(tabL (k.toNat + m.toNat) k.toNat (GfU.gen k.toNat)).toArray⟩], .int .i64 0]
  else .tuple #[.agg #[.int .i64 0, .int .i64 0, .string ⟨#[]⟩], .int .i64 1]

theorem genAns_form (k m : Int) : ∃ x y z e, genAns k m = .tuple #[.agg #[.int .i64 x, .int .i64 y, .string z], .int .i64 e] := by
  unfold genAns
  split
  · exact ⟨_, _, _, _, rfl⟩
  · exact ⟨_, _, _, _, rfl⟩

theorem rgen_any (k m : Int) (w : World) :
    Calls Try.prog 24 #[.int .i64 k, .int .i64 m] w fun e w' => e = .returned (genAns k m) ∧ Below w.heap.size w w' := by
  unfold genAns
  by_cases h : 1 ≤ k ∧ k ≤ 255 ∧ 0 ≤ m ∧ m ≤ 255 - k
  · obtain ⟨a, rfl⟩ := Int.eq_ofNat_of_zero_le (show 0 ≤ k by omega)
    obtain ⟨b, rfl⟩ := Int.eq_ofNat_of_zero_le (show 0 ≤ m by omega)
    rw [if_pos h]
    exact rgen_yes a b w (by omega) (by omega)
  · rw [if_neg h]
    exact rgen_no k m w (by omega)

def GenAll : Prop := ∀ (k m : Int) (w : World), Calls Try.prog 23 #[.int .i64 k, .int .i64 m] w fun e w' => e = .returned (genAns k m) ∧ Below w.heap.size w w'

set_option maxRecDepth 20000 in
set_option maxHeartbeats 2000000 in
theorem generators_walk (hG : GenExample) (hA : GenAll) (k m : Int) (w : World) :
    Calls Try.prog 6 #[.int .i64 k, .int .i64 m] w fun e w' => e = .returned (.bool true) ∧ Below w.heap.size w w' := by
  have HG := Lib.hid hG
  have HA := Lib.hid hA
  clear hG hA
  by_cases hbig : 1 ≤ k ∧ k ≤ 255 ∧ 0 ≤ m ∧ m ≤ 255 - k ∧ 40 < k + m
  · obtain ⟨g1, g2, g3, g4, g5⟩ := hbig
    have t1 : IntKind.i64.wrap (255 - k) = 255 - k := i64_wrap (by omega) (by omega)
    have t2 : IntKind.i64.wrap (k + m) = k + m := i64_wrap (by omega) (by omega)
    go_enter Try.func6, Try.ntmps6
    go_wp2_with fail
    refine (works_true HG.out _).mono ?_
    rintro e w1 ⟨rfl, hb1⟩
    have B1 := Lib.hid hb1
    clear hb1
    go_wp2_with fail
    go_ret
    exact ⟨rfl, B1.out⟩
  · obtain ⟨x, y, z, e0, hE⟩ := genAns_form k m
    by_cases g1 : k < 1
    · clear hbig
      go_enter Try.func6, Try.ntmps6
      go_wp2_with fail
      refine (HA.out k m _).mono ?_
      rintro e w1 ⟨rfl, hb1⟩
      rw [hE]
      have B1 := Lib.hid hb1
      clear hb1
      go_wp2_with fail
      refine (rgen_any k m _).mono ?_
      rintro e w2 ⟨rfl, hb2⟩
      rw [hE]
      have X2 := matAt_below (matAt_new w1 x y z 23) hb2
      have B2 : Hid (Below w.heap.size w w2) := (B1.out.alloc B1.out.size _).trans (hb2.mono (by have := B1.out.size; simp; omega))
      clear hb2 B1
      generalize w1.heap.size = px at X2 ⊢
      have X3 := matAt_alloc X2 (.cells #[.int .i64 x, .int .i64 y, .string z] 23)
      have Y3 := matAt_new w2 x y z 23
      have B3 : Hid (Below w.heap.size w (w2.alloc (.cells #[.int .i64 x, .int .i64 y, .string z] 23))) := B2.out.alloc B2.out.size _
      clear X2 B2
      go_wp2_with fail
      refine (works_true HG.out _).mono ?_
      rintro e w4 ⟨rfl, hb4⟩
      have B4 := Lib.hid (B3.out.trans (hb4.mono B3.out.size))
      clear hb4 B3 X3 Y3
      go_wp2_with fail
      go_ret
      exact ⟨rfl, B4.out⟩
    by_cases g2 : 255 < k
    · clear hbig
      go_enter Try.func6, Try.ntmps6
      go_wp2_with fail
      refine (HA.out k m _).mono ?_
      rintro e w1 ⟨rfl, hb1⟩
      rw [hE]
      have B1 := Lib.hid hb1
      clear hb1
      go_wp2_with fail
      refine (rgen_any k m _).mono ?_
      rintro e w2 ⟨rfl, hb2⟩
      rw [hE]
      have X2 := matAt_below (matAt_new w1 x y z 23) hb2
      have B2 : Hid (Below w.heap.size w w2) := (B1.out.alloc B1.out.size _).trans (hb2.mono (by have := B1.out.size; simp; omega))
      clear hb2 B1
      generalize w1.heap.size = px at X2 ⊢
      have X3 := matAt_alloc X2 (.cells #[.int .i64 x, .int .i64 y, .string z] 23)
      have Y3 := matAt_new w2 x y z 23
      have B3 : Hid (Below w.heap.size w (w2.alloc (.cells #[.int .i64 x, .int .i64 y, .string z] 23))) := B2.out.alloc B2.out.size _
      clear X2 B2
      go_wp2_with fail
      refine (works_true HG.out _).mono ?_
      rintro e w4 ⟨rfl, hb4⟩
      have B4 := Lib.hid (B3.out.trans (hb4.mono B3.out.size))
      clear hb4 B3 X3 Y3
      go_wp2_with fail
      go_ret
      exact ⟨rfl, B4.out⟩
    by_cases g3 : m < 0
    · clear hbig
      go_enter Try.func6, Try.ntmps6
      go_wp2_with fail
      refine (HA.out k m _).mono ?_
      rintro e w1 ⟨rfl, hb1⟩
      rw [hE]
      have B1 := Lib.hid hb1
      clear hb1
      go_wp2_with fail
      refine (rgen_any k m _).mono ?_
      rintro e w2 ⟨rfl, hb2⟩
      rw [hE]
      have X2 := matAt_below (matAt_new w1 x y z 23) hb2
      have B2 : Hid (Below w.heap.size w w2) := (B1.out.alloc B1.out.size _).trans (hb2.mono (by have := B1.out.size; simp; omega))
      clear hb2 B1
      generalize w1.heap.size = px at X2 ⊢
      have X3 := matAt_alloc X2 (.cells #[.int .i64 x, .int .i64 y, .string z] 23)
      have Y3 := matAt_new w2 x y z 23
      have B3 : Hid (Below w.heap.size w (w2.alloc (.cells #[.int .i64 x, .int .i64 y, .string z] 23))) := B2.out.alloc B2.out.size _
      clear X2 B2
      go_wp2_with fail
      refine (works_true HG.out _).mono ?_
      rintro e w4 ⟨rfl, hb4⟩
      have B4 := Lib.hid (B3.out.trans (hb4.mono B3.out.size))
      clear hb4 B3 X3 Y3
      go_wp2_with fail
      go_ret
      exact ⟨rfl, B4.out⟩
    have t1 : IntKind.i64.wrap (255 - k) = 255 - k := i64_wrap (by omega) (by omega)
    by_cases g4 : 255 - k < m
    · clear hbig
      go_enter Try.func6, Try.ntmps6
      go_wp2_with fail
      refine (HA.out k m _).mono ?_
      rintro e w1 ⟨rfl, hb1⟩
      rw [hE]
      have B1 := Lib.hid hb1
      clear hb1
      go_wp2_with fail
      refine (rgen_any k m _).mono ?_
      rintro e w2 ⟨rfl, hb2⟩
      rw [hE]
      have X2 := matAt_below (matAt_new w1 x y z 23) hb2
      have B2 : Hid (Below w.heap.size w w2) := (B1.out.alloc B1.out.size _).trans (hb2.mono (by have := B1.out.size; simp; omega))
      clear hb2 B1
      generalize w1.heap.size = px at X2 ⊢
      have X3 := matAt_alloc X2 (.cells #[.int .i64 x, .int .i64 y, .string z] 23)
      have Y3 := matAt_new w2 x y z 23
      have B3 : Hid (Below w.heap.size w (w2.alloc (.cells #[.int .i64 x, .int .i64 y, .string z] 23))) := B2.out.alloc B2.out.size _
      clear X2 B2
      go_wp2_with fail
      refine (works_true HG.out _).mono ?_
      rintro e w4 ⟨rfl, hb4⟩
      have B4 := Lib.hid (B3.out.trans (hb4.mono B3.out.size))
      clear hb4 B3 X3 Y3
      go_wp2_with fail
      go_ret
      exact ⟨rfl, B4.out⟩
    · have g5 : k + m ≤ 40 := by omega
      have t2 : IntKind.i64.wrap (k + m) = k + m := i64_wrap (by omega) (by omega)
      clear hbig
      go_enter Try.func6, Try.ntmps6
      go_wp2_with fail
      refine (HA.out k m _).mono ?_
      rintro e w1 ⟨rfl, hb1⟩
      rw [hE]
      have B1 := Lib.hid hb1
      clear hb1
      go_wp2_with fail
      refine (rgen_any k m _).mono ?_
      rintro e w2 ⟨rfl, hb2⟩
      rw [hE]
      have X2 := matAt_below (matAt_new w1 x y z 23) hb2
      have B2 : Hid (Below w.heap.size w w2) := (B1.out.alloc B1.out.size _).trans (hb2.mono (by have := B1.out.size; simp; omega))
      clear hb2 B1
      generalize w1.heap.size = px at X2 ⊢
      have X3 := matAt_alloc X2 (.cells #[.int .i64 x, .int .i64 y, .string z] 23)
      have Y3 := matAt_new w2 x y z 23
      have B3 : Hid (Below w.heap.size w (w2.alloc (.cells #[.int .i64 x, .int .i64 y, .string z] 23))) := B2.out.alloc B2.out.size _
      clear X2 B2
      go_wp2_with fail
      refine (works_true HG.out _).mono ?_
      rintro e w4 ⟨rfl, hb4⟩
      have B4 := Lib.hid (B3.out.trans (hb4.mono B3.out.size))
      clear hb4 B3 X3 Y3
      go_wp2_with fail
      go_ret
      exact ⟨rfl, B4.out⟩

end Go.Proofs.Ytlmcpnlnbjloaaa
