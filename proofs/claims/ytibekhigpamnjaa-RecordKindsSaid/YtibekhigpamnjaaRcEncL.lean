/- What the landed package's Encode answers: all that is asked; no condition but the range. -/
import Derived.Test.YtibekhigpamnjaaRcPack
import Derived.Test.YtibekhigpamnjaaA8
namespace Go.Proofs.Ytibekhigpamnjaa
namespace Rc
open Go.RowKit Bk Lt

attribute [local go_sem ↓] Go.wp_at_zero Go.wp_at_succ
attribute [local go_sem] floatUpon pick

theorem RecOk.arg {r : Rec} (h : RecOk r) {c d : Nat} (h1 : (numsOf r).length ≤ c) (h2 : (textsOf r).length ≤ d) (h3 : c ≤ maxLen) (h4 : d ≤ maxLen) : Pk.ArgOk c d (numsOf r) (textsOf r) := by
  obtain ⟨m1, m2, m3, m4⟩ := h.pack
  exact ⟨by omega, by omega, fun n hn => by have := m3 n hn; unfold Pk.numOk at this; omega, fun t ht => by have := m4 t ht; omega, h1, h2, h3, h4⟩

set_option maxRecDepth 20000 in
set_option maxHeartbeats 2000000 in
theorem lencodeAll : EncodeAll := by
  intro A B c d r w h
  have HC := Lib.hid (fun W (hbl : Below w.heap.size w W) => rcheck_any A B c d r W (h.ks.below hbl) (h.ws.below hbl) h.rng.toRecRng)
  have henv := RcEnv.start (c := c) (d := d) h.ks h.ws
  by_cases hm : RecOk r
  · have E := Lib.hid (encV_ok hm)
    have HB := Lib.hid (fun W (hbl : Below w.heap.size w W) => toPack_any A B c d r W (h.ks.below hbl) (h.ws.below hbl) (fun e => (h.kn e).2) hm)
    have HP := Lib.hid (fun A1 B1 c1 d1 W (h1 : IntsAt W A1 (numsOf r)) (h2 : StrsAt W B1 (textsOf r)) (h3 : (numsOf r).length ≤ c1) (h4 : (textsOf r).length ≤ d1) (h5 : c1 ≤ maxLen) (h6 : d1 ≤ maxLen) => Pk.encodeAll A1 B1 c1 d1 (numsOf r) (textsOf r) W h1 h2 (hm.arg h3 h4 h5 h6))
    rw [Pk.encV_ok hm.pack] at HP
    rw [ckN_of hm] at HC
    have HE := Lib.hid henv
    unfold recV at HC HB ⊢
    unfold Pk.packV at HB HP
    clear h hm henv
    go_enter Try.func9, Try.ntmps9
    go_wp2_with fail
    refine (HC.out _ ((Below.refl _ w).alloc (Nat.le_refl _) _)).mono ?_
    rintro e w1 ⟨rfl, hb⟩
    have henv := HE.out.step hb
    have HB1 := Lib.hid henv.bel
    have k0 := henv.cel.cell (i := 0) rfl
    have k1 := henv.cel.cell (i := 1) rfl
    have k2 := henv.cel.cell (i := 2) rfl
    have k3 := henv.cel.cell (i := 3) rfl
    have k4 := henv.cel.cell (i := 4) rfl
    have k5 := henv.cel.cell (i := 5) rfl
    have k6 := henv.cel.cell (i := 6) rfl
    have k7 := henv.cel.cell (i := 7) rfl
    have k8 := henv.cel.cell (i := 8) rfl
    clear hb HC HE henv
    go_wp2_with fail
    refine (HB.out _ HB1.out).mono ?_
    rintro e w2 ⟨A1, B1, c1, d1, rfl, g1, g2, g3, g4, g5, g6, hb⟩
    have HB2 := Lib.hid (HB1.out.trans (hb.mono HB1.out.size))
    have HP2 := Lib.hid (HP.out A1 B1 c1 d1 w2 g1 g2 g3 g4 g5 g6)
    clear hb g1 g2 g3 g4 g5 g6 HP HB
    go_wp2_with fail
    refine HP2.out.mono ?_
    rintro e w3 ⟨rfl, hb⟩
    have HB3 := Lib.hid (HB2.out.trans (hb.mono HB2.out.size))
    clear hb
    go_wp2_with fail
    go_ret2
    exact ⟨by rw [E.out]; rfl, HB3.out⟩
  · have E := Lib.hid (encV_bad hm)
    rw [ckN_not hm] at HC
    unfold recV at HC ⊢
    clear h hm henv
    go_enter Try.func9, Try.ntmps9
    go_wp2_with fail
    refine (HC.out _ ((Below.refl _ w).alloc (Nat.le_refl _) _)).mono ?_
    rintro e w1 ⟨rfl, hb⟩
    have HB1 := Lib.hid (below_new hb)
    clear hb HC
    go_wp2_with fail
    go_ret2
    exact ⟨by rw [E.out]; rfl, HB1.out⟩

end Rc
end Go.Proofs.Ytibekhigpamnjaa
