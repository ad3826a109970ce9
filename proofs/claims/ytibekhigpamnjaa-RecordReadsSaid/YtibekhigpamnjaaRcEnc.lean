/- What the document's own Encode of records answers; contract; no condition but the range. -/
import Derived.Test.YtibekhigpamnjaaRcCheck
import Derived.Test.YtibekhigpamnjaaRcBytes
namespace Go.Proofs.Ytibekhigpamnjaa
namespace Rc
open Go.RowKit Bk Lt

attribute [local go_sem ↓] Go.wp_at_zero Go.wp_at_succ
attribute [local go_sem] floatUpon pick

set_option maxRecDepth 20000 in
set_option maxHeartbeats 2000000 in
theorem encode_any (A B : Option Addr) (c d : Nat) (r : Rec) (w : World) (ha : StrsAt w A r.keys) (hb : WrsAt w B r.ws) (hA : A = none → c = 0) (hr : RecRng r) :
    Calls Try.prog 10 #[recV r A B c d] w fun e w' => e = .returned (encV r) ∧ Below w.heap.size w w' := by
  have HC := Lib.hid (fun W (hbl : Below w.heap.size w W) => check_any A B c d r W (ha.below hbl) (hb.below hbl) hr)
  have henv := RcEnv.start (c := c) (d := d) ha hb
  by_cases hm : RecOk r
  · have E := Lib.hid (encV_ok hm)
    have HB := Lib.hid (fun W (hbl : Below w.heap.size w W) => bytes_any A B c d r W (ha.below hbl) (hb.below hbl) hA hm)
    rw [ckN_of hm] at HC
    have HE := Lib.hid henv
    unfold recV at HC HB ⊢
    clear ha hb hr hm henv hA
    go_enter Try.func10, Try.ntmps10
    go_wp2_with fail
    refine (HC.out _ ((Below.refl _ w).alloc (Nat.le_refl _) _)).mono ?_
    rintro e w1 ⟨rfl, hb⟩
    have henv := HE.out.step hb
    have HB1 := Lib.hid henv.bel
    have k0 := henv.cel.cell (i := 0) rfl
    have k1 := henv.cel.cell (i := 1) rfl
    have k2 := henv.cel.cell (i := 2) rfl
    have k3 := henv.cel.cell (i := 3) rfl
    have k4 := henv.cel.cell (i := 4) rfl
    have k5 := henv.cel.cell (i := 5) rfl
    have k6 := henv.cel.cell (i := 6) rfl
    have k7 := henv.cel.cell (i := 7) rfl
    have k8 := henv.cel.cell (i := 8) rfl
    clear hb HC HE henv
    go_wp2_with fail
    refine (HB.out _ HB1.out).mono ?_
    rintro e w2 ⟨rfl, hb⟩
    have HB2 := Lib.hid (HB1.out.trans (hb.mono HB1.out.size))
    clear hb
    go_wp2_with fail
    go_ret2
    exact ⟨by rw [E.out]; rfl, HB2.out⟩
  · have E := Lib.hid (encV_bad hm)
    rw [ckN_not hm] at HC
    unfold recV at HC ⊢
    clear ha hb hr hm henv hA
    go_enter Try.func10, Try.ntmps10
    go_wp2_with fail
    refine (HC.out _ ((Below.refl _ w).alloc (Nat.le_refl _) _)).mono ?_
    rintro e w1 ⟨rfl, hb⟩
    have HB1 := Lib.hid (below_new hb)
    clear hb HC
    go_wp2_with fail
    go_ret2
    exact ⟨by rw [E.out]; rfl, HB1.out⟩

end Rc
end Go.Proofs.Ytibekhigpamnjaa
