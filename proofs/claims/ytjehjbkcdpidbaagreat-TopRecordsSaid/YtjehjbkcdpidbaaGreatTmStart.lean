/- A log keeps a text; over what is asked of it; no condition. -/
import Derived.Test.YtjehjbkcdpidbaaGreatB15
namespace Go.Proofs.YtjehjbkcdpidbaaGreat
namespace Tm
open Go.RowKit Sc Bk Rd

attribute [local go_sem ↓] Go.wp_at_zero Go.wp_at_succ
attribute [local go_sem] floatUpon pick

variable {Rep : RepT} {LRep : LRepT}

def tX : ByteArray := ⟨#[120]⟩

set_option maxRecDepth 20000 in
set_option maxHeartbeats 4000000 in
theorem starts_any (HB : DevBase Rep) (HL : LogAll Rep LRep) (w : World) :
    Calls Tryz.prog 11 #[] w fun e w' => e = .returned (.bool true) ∧ Below w.heap.size w w' := by
  have HD := devF_of HB
  obtain ⟨D1, ho1, i1, c1, k1, n1, in1⟩ := fresh_open (n := 12) (by omega) (by omega)
  have ha1 : appendP D1 ⟨1, 0, [], [], 0⟩ tX = (⟨1, 0, [], [tX], 0⟩, 0) := app_fits (by decide) (by unfold roomN areaN; rw [n1]; decide)
  have in2 := app_in k1 in1 tX
  rw [ha1] at in2
  obtain ⟨D3, hs3, i3, c3, k3, n3, in3⟩ := sync_idle i1 k1 in2 (by decide) (by decide)
  have H1 := Lib.hid (And.intro ho1 (And.intro ha1 hs3))
  have H2 := Lib.hid (And.intro in1 (And.intro in2 in3))
  have H3 := Lib.hid (And.intro i1.2 i3.2)
  clear ho1 ha1 hs3 in1 in2 in3 i1 c1 k1 n1 i3 c3 k3 n3
  go_enter Tryz.func11, Tryz.ntmps11
  go_wp2_with fail
  refine (HB.new 12 w ⟨by omega, by omega⟩).mono ?_
  rintro e w1 (⟨_, _, F1, g, rfl, hr1, hF1, hb1⟩ | ⟨hno, _, _⟩)
  case inr => exact absurd ⟨by omega, by omega⟩ hno
  have O1 : Hid (OneS Rep LRep w w1 F1 g (new0 12) none) := Lib.hid ⟨hr1, hF1, hb1⟩
  clear hr1 hF1 hb1
  go_wp2_with fail
  refine (O1.out.s.opn HL.log).mono ?_
  rintro e w2 ⟨o', rfl, ho', F2, hs2, hf2⟩
  rw [H1.out.1] at ho' hs2 ⊢
  obtain ⟨p, rfl⟩ := op_some ho'
  have O2 := Lib.hid (O1.out.act hs2 hf2)
  clear ho' hs2 hf2 O1
  unfold ptrV
  go_wp2_with fail
  refine (O2.out.s.app HL.log H2.out.1 H3.out.1 tX (by decide)).mono ?_
  rintro e w3 ⟨rfl, F3, hs3, hf3⟩
  rw [H1.out.2.1] at hs3 ⊢
  have O3 := Lib.hid (O2.out.act hs3 hf3)
  clear hs3 hf3 O2
  go_wp2_with fail
  refine (O3.out.s.syn HL.log H2.out.2.1 H3.out.1).mono ?_
  rintro e w4 ⟨rfl, F4, hs4, hf4⟩
  rw [H1.out.2.2] at hs4 ⊢
  have O4 := Lib.hid (O3.out.act hs4 hf4)
  clear hs4 hf4 O3
  go_wp2_with fail
  refine (O4.out.s.texts HL H2.out.2.2 H3.out.2).mono ?_
  rintro e w9 ⟨v, F9, rfl, hrow, hno, hs9, hf9⟩
  have O9 := Lib.hid (O4.out.act hs9 hf9)
  obtain ⟨A, c, rfl, hst⟩ := strs_of_own2 hrow rfl
  have hlen : ((⟨1 + 1, 0, [] ++ waitL ⟨1, 0, [], [tX], 0⟩, [tX], [tX].length⟩ : Lg).ts).length = 1 := rfl
  rw [hlen]
  have HSt : Hid (StrsAt w9 A [tX]) := Lib.hid hst
  clear hrow hno hs9 hf9 O4 hst hlen
  go_wp2_with fail
  have hB : Below w9.heap.size w9 (w9.alloc (.cells #[.string ⟨#[120]⟩] 9)) := (Below.refl _ w9).alloc (Nat.le_refl _) _
  have hsame := same_any A (some ⟨w9.heap.size, 0, none⟩) c 1 [tX] [tX] (w9.alloc (.cells #[.string ⟨#[120]⟩] 9)) (HSt.out.below hB) (StrsAt.blk (t := 9) (heap_alloc_new w9 _)) (by decide)
  rw [show decide ([tX] = [tX]) = true from by simp] at hsame
  have HSm := Lib.hid hsame
  have O10 := Lib.hid (O9.out.step HD HL.log hB)
  clear hsame hB
  refine HSm.out.mono ?_
  rintro e w10 ⟨rfl, n, rfl⟩
  have O11 := Lib.hid (O10.out.step HD HL.log (below_drew _ _ n))
  clear HSm O10
  go_wp2_with fail
  refine (O11.out.s.synced HL H2.out.2.2 H3.out.2).mono ?_
  rintro e w12 ⟨rfl, F12, hs12, hf12⟩
  have O12 := Lib.hid (O11.out.act hs12 hf12)
  clear hs12 hf12 O11
  go_wp2_with fail
  go_ret
  exact ⟨rfl, O12.out.bel⟩

end Tm
end Go.Proofs.YtjehjbkcdpidbaaGreat
