/- Inverses are those of the document: the law's walk, over what the package's Inverse and the document's answer. -/
import Derived.Test.YtlmcpnlnbjloaaaMatLaw0
import Derived.Test.YtlmcpnlnbjloaaaMatTold
import Derived.Deep.RegionHeld3
import Derived.Deep.DeepCutAuto
import Derived.Deep.DrawnRows
namespace Go.Proofs.Ytlmcpnlnbjloaaa
open Go.RowKit

/-- an answer for the inverse of any matrix -/
def InvOut (r c : Int) (s : ByteArray) (v : Value) : Prop :=
  (∃ n : Nat, r = (n : Int) ∧ c = (n : Int) ∧ may r c s ∧ InvRes n s (.returned v)) ∨
  (¬ (may r c s ∧ r = c) ∧ v = .tuple #[.agg #[.int .i64 0, .int .i64 0, .string ⟨#[]⟩], .int .i64 4])

theorem invOut_form {r c : Int} {s : ByteArray} {v : Value} (h : InvOut r c s v) : ∃ x y z e, v = .tuple #[.agg #[.int .i64 x, .int .i64 y, .string z], .int .i64 e] := by
  rcases h with ⟨n, _, _, _, ⟨R, h, _⟩ | ⟨h, _⟩⟩ | ⟨_, h⟩
  · injection h with h; exact ⟨_, _, _, _, h⟩
  · injection h with h; exact ⟨_, _, _, _, h⟩
  · exact ⟨_, _, _, _, h⟩

theorem invOut_one {r c : Int} {s : ByteArray} {v v' : Value} (h : InvOut r c s v) (h' : InvOut r c s v') : v' = v := by
  rcases h with ⟨n, hr, hc, hm, h⟩ | ⟨hn, rfl⟩
  · rcases h' with ⟨n', hr', hc', _, h'⟩ | ⟨hn', _⟩
    · obtain rfl : n' = n := by omega
      rcases h with ⟨R, e, h1, h2⟩ | ⟨e, hs⟩
      · rcases h' with ⟨R', e', h1', h2'⟩ | ⟨_, hs'⟩
        · injection e with e; injection e' with e'
          have hR : tabL n' n' R' = tabL n' n' R := tab_congr n' n' fun i j hi hj => by
            have a1 := GfU.sq_symm (GfU.sq_one_mm n' R')
            have a2 := GfU.sq_mm (GfU.sq_symm h1) (GfU.sq_refl n' R')
            have a3 := GfU.sq_assoc n' R (cel s n') R'
            have a4 := GfU.sq_mm (GfU.sq_refl n' R) h2'
            have a5 := GfU.sq_mm_one n' R
            exact (GfU.sq_trans (GfU.sq_trans (GfU.sq_trans (GfU.sq_trans a1 a2) a3) a4) a5) i j hi hj
          rw [e, e', hR]
        · exact (GfU.sing_no_inv hs' h1).elim
      · rcases h' with ⟨R', e', h1', h2'⟩ | ⟨e', _⟩
        · exact (GfU.sing_no_inv hs h1').elim
        · injection e with e; injection e' with e'; rw [e, e']
    · exact absurd ⟨hm, by omega⟩ hn'
  · rcases h' with ⟨n', hr', hc', hm', h'⟩ | ⟨_, rfl⟩
    · exact absurd ⟨hm', by omega⟩ hn
    · rfl

def InvAll : Prop := ∀ (r c : Int) (s : ByteArray) (w : World), Calls Try.prog 19 #[.agg #[.int .i64 r, .int .i64 c, .string s]] w fun e w' => ∃ v, e = .returned v ∧ InvOut r c s v ∧ Below w.heap.size w w'

def RInvAll : Prop := ∀ (r c : Int) (s : ByteArray) (w : World), Calls Try.prog 20 #[.agg #[.int .i64 r, .int .i64 c, .string s]] w fun e w' => ∃ v, e = .returned v ∧ InvOut r c s v ∧ Below w.heap.size w w'

set_option maxRecDepth 20000 in
set_option maxHeartbeats 2000000 in
theorem inverses_walk (hG : GenExample) (hA : InvAll) (hR : RInvAll) (r c : Int) (s : ByteArray) (w : World) :
    Calls Try.prog 4 #[.agg #[.int .i64 r, .int .i64 c, .string s]] w fun e w' => e = .returned (.bool true) ∧ Below w.heap.size w w' := by
  have HG := Lib.hid hG
  have HA := Lib.hid hA
  have HR := Lib.hid hR
  clear hG hA hR
  by_cases hl0 : (decide (16 < r) || decide (16 < c)) = true
  · have hl := hl0
    clear hl0
    by_cases hm : may r c s
    · have ka : ((chk r c s : Nat) : Int) = 0 := by unfold chk; rw [if_pos hm]; rfl
      clear hm
      by_cases hrc : r = c
      · have t1 : (r == c) = true := by simp [hrc]
        clear hrc
        go_enter Try.func4, Try.ntmps4
        go_wp2_with fail
        have M0 := matAt_new w r c s 23
        have B00 : Hid (Below w.heap.size w (w.alloc (.cells #[.int .i64 r, .int .i64 c, .string s] 23))) := (Below.refl _ w).alloc (Nat.le_refl _) _
        refine (large_any r c s _).mono ?_
        rintro e wl ⟨rfl, hbl⟩
        have P0 := matAt_below M0 hbl
        have B0 : Hid (Below w.heap.size w wl) := B00.out.trans (hbl.mono B00.out.size)
        clear hbl M0 B00
        rw [hl]
        go_wp2_with fail
        refine (rcheck_any _ _ _ _).mono ?_
        rintro e wk ⟨rfl, hbk⟩
        have P0' := matAt_below P0 hbk
        have B0' : Hid (Below w.heap.size w wk) := B0.out.trans (hbk.mono B0.out.size)
        clear P0 B0 hbk
        have P0 := P0'
        have B0 := B0'
        clear P0' B0'
        go_wp2_with fail
        refine (works_true HG.out _).mono ?_
        rintro e w4 ⟨rfl, hb4⟩
        have B4 := Lib.hid (B0.out.trans (hb4.mono B0.out.size))
        clear hb4 B0 P0
        go_wp2_with fail
        go_ret
        exact ⟨rfl, B4.out⟩
      · have t1 : (r == c) = false := by simp [hrc]
        clear hrc
        go_enter Try.func4, Try.ntmps4
        go_wp2_with fail
        have M0 := matAt_new w r c s 23
        have B00 : Hid (Below w.heap.size w (w.alloc (.cells #[.int .i64 r, .int .i64 c, .string s] 23))) := (Below.refl _ w).alloc (Nat.le_refl _) _
        refine (large_any r c s _).mono ?_
        rintro e wl ⟨rfl, hbl⟩
        have P0 := matAt_below M0 hbl
        have B0 : Hid (Below w.heap.size w wl) := B00.out.trans (hbl.mono B00.out.size)
        clear hbl M0 B00
        rw [hl]
        go_wp2_with fail
        refine (rcheck_any _ _ _ _).mono ?_
        rintro e wk ⟨rfl, hbk⟩
        have P0' := matAt_below P0 hbk
        have B0' : Hid (Below w.heap.size w wk) := B0.out.trans (hbk.mono B0.out.size)
        clear P0 B0 hbk
        have P0 := P0'
        have B0 := B0'
        clear P0' B0'
        go_wp2_with fail
        refine (HA.out r c s _).mono ?_
        rintro e w1 ⟨v, rfl, hv, hb1⟩
        obtain ⟨x, y, z, e0, rfl⟩ := invOut_form hv
        have HV := Lib.hid hv
        have P1 := matAt_below P0 hb1
        have B1 : Hid (Below w.heap.size w w1) := B0.out.trans (hb1.mono B0.out.size)
        clear hb1 hv B0 P0
        have P1a := matAt_alloc P1 (.cells #[.int .i64 x, .int .i64 y, .string z] 23)
        go_wp2_with fail
        refine (HR.out r c s _).mono ?_
        rintro e w2 ⟨v, rfl, hv2, hb2⟩
        obtain rfl := invOut_one HV.out hv2
        have X2 := matAt_below (matAt_new w1 x y z 23) hb2
        have B2 : Hid (Below w.heap.size w w2) := (B1.out.alloc B1.out.size _).trans (hb2.mono (by have := B1.out.size; simp; omega))
        clear hb2 hv2 B1 P1 P1a
        generalize w1.heap.size = px at X2 ⊢
        have X3 := matAt_alloc X2 (.cells #[.int .i64 x, .int .i64 y, .string z] 23)
        have Y3 := matAt_new w2 x y z 23
        have B3 : Hid (Below w.heap.size w (w2.alloc (.cells #[.int .i64 x, .int .i64 y, .string z] 23))) := B2.out.alloc B2.out.size _
        clear X2 B2
        go_wp2_with fail
        refine (works_true HG.out _).mono ?_
        rintro e w4 ⟨rfl, hb4⟩
        have B4 := Lib.hid (B3.out.trans (hb4.mono B3.out.size))
        clear hb4 B3 X3 Y3
        go_wp2_with fail
        go_ret
        exact ⟨rfl, B4.out⟩
    · have ka : ((chk r c s : Nat) : Int) = 4 := by rw [chk_no hm]; rfl
      clear hm
      go_enter Try.func4, Try.ntmps4
      go_wp2_with fail
      have M0 := matAt_new w r c s 23
      have B00 : Hid (Below w.heap.size w (w.alloc (.cells #[.int .i64 r, .int .i64 c, .string s] 23))) := (Below.refl _ w).alloc (Nat.le_refl _) _
      refine (large_any r c s _).mono ?_
      rintro e wl ⟨rfl, hbl⟩
      have P0 := matAt_below M0 hbl
      have B0 : Hid (Below w.heap.size w wl) := B00.out.trans (hbl.mono B00.out.size)
      clear hbl M0 B00
      rw [hl]
      go_wp2_with fail
      refine (rcheck_any _ _ _ _).mono ?_
      rintro e wk ⟨rfl, hbk⟩
      have P0' := matAt_below P0 hbk
      have B0' : Hid (Below w.heap.size w wk) := B0.out.trans (hbk.mono B0.out.size)
      clear P0 B0 hbk
      have P0 := P0'
      have B0 := B0'
      clear P0' B0'
      go_wp2_with fail
      refine (HA.out r c s _).mono ?_
      rintro e w1 ⟨v, rfl, hv, hb1⟩
      obtain ⟨x, y, z, e0, rfl⟩ := invOut_form hv
      have HV := Lib.hid hv
      have P1 := matAt_below P0 hb1
      have B1 : Hid (Below w.heap.size w w1) := B0.out.trans (hb1.mono B0.out.size)
      clear hb1 hv B0 P0
      have P1a := matAt_alloc P1 (.cells #[.int .i64 x, .int .i64 y, .string z] 23)
      go_wp2_with fail
      refine (HR.out r c s _).mono ?_
      rintro e w2 ⟨v, rfl, hv2, hb2⟩
      obtain rfl := invOut_one HV.out hv2
      have X2 := matAt_below (matAt_new w1 x y z 23) hb2
      have B2 : Hid (Below w.heap.size w w2) := (B1.out.alloc B1.out.size _).trans (hb2.mono (by have := B1.out.size; simp; omega))
      clear hb2 hv2 B1 P1 P1a
      generalize w1.heap.size = px at X2 ⊢
      have X3 := matAt_alloc X2 (.cells #[.int .i64 x, .int .i64 y, .string z] 23)
      have Y3 := matAt_new w2 x y z 23
      have B3 : Hid (Below w.heap.size w (w2.alloc (.cells #[.int .i64 x, .int .i64 y, .string z] 23))) := B2.out.alloc B2.out.size _
      clear X2 B2
      go_wp2_with fail
      refine (works_true HG.out _).mono ?_
      rintro e w4 ⟨rfl, hb4⟩
      have B4 := Lib.hid (B3.out.trans (hb4.mono B3.out.size))
      clear hb4 B3 X3 Y3
      go_wp2_with fail
      go_ret
      exact ⟨rfl, B4.out⟩
  · have hl : (decide (16 < r) || decide (16 < c)) = false := by simpa using hl0
    clear hl0
    go_enter Try.func4, Try.ntmps4
    go_wp2_with fail
    have M0 := matAt_new w r c s 23
    have B00 : Hid (Below w.heap.size w (w.alloc (.cells #[.int .i64 r, .int .i64 c, .string s] 23))) := (Below.refl _ w).alloc (Nat.le_refl _) _
    refine (large_any r c s _).mono ?_
    rintro e wl ⟨rfl, hbl⟩
    have P0 := matAt_below M0 hbl
    have B0 : Hid (Below w.heap.size w wl) := B00.out.trans (hbl.mono B00.out.size)
    clear hbl M0 B00
    rw [hl]
    go_wp2_with fail
    refine (HA.out r c s _).mono ?_
    rintro e w1 ⟨v, rfl, hv, hb1⟩
    obtain ⟨x, y, z, e0, rfl⟩ := invOut_form hv
    have HV := Lib.hid hv
    have P1 := matAt_below P0 hb1
    have B1 : Hid (Below w.heap.size w w1) := B0.out.trans (hb1.mono B0.out.size)
    clear hb1 hv B0 P0
    have P1a := matAt_alloc P1 (.cells #[.int .i64 x, .int .i64 y, .string z] 23)
    go_wp2_with fail
    refine (HR.out r c s _).mono ?_
    rintro e w2 ⟨v, rfl, hv2, hb2⟩
    obtain rfl := invOut_one HV.out hv2
    have X2 := matAt_below (matAt_new w1 x y z 23) hb2
    have B2 : Hid (Below w.heap.size w w2) := (B1.out.alloc B1.out.size _).trans (hb2.mono (by have := B1.out.size; simp; omega))
    clear hb2 hv2 B1 P1 P1a
    generalize w1.heap.size = px at X2 ⊢
    have X3 := matAt_alloc X2 (.cells #[.int .i64 x, .int .i64 y, .string z] 23)
    have Y3 := matAt_new w2 x y z 23
    have B3 : Hid (Below w.heap.size w (w2.alloc (.cells #[.int .i64 x, .int .i64 y, .string z] 23))) := B2.out.alloc B2.out.size _
    clear X2 B2
    go_wp2_with fail
    refine (works_true HG.out _).mono ?_
    rintro e w4 ⟨rfl, hb4⟩
    have B4 := Lib.hid (B3.out.trans (hb4.mono B3.out.size))
    clear hb4 B3 X3 Y3
    go_wp2_with fail
    go_ret
    exact ⟨rfl, B4.out⟩

end Go.Proofs.Ytlmcpnlnbjloaaa
