/- What the landed package's Check, Encode, Key and Rising answer: all that is asked; no condition but the range. -/
import Derived.Test.YtmllaighjhpbmaaLtMay
import Derived.Test.YtmllaighjhpbmaaLtPack
import Derived.Test.YtmllaighjhpbmaaLtLaw
import Derived.Test.YtmllaighjhpbmaaPkDone
namespace Go.Proofs.Ytmllaighjhpbmaa
namespace Lt
open Go.RowKit Bk

attribute [local go_sem ↓] Go.wp_at_zero Go.wp_at_succ
attribute [local go_sem] floatUpon pick

theorem lcheckAll : CheckAll := fun A B c d l w h => lcheck_any A B c d l w h.ks h.ws h.rng.toLetRng

theorem lkeyAll : KeyAll := fun s w hs => (lkey_any s w (by omega)).mono fun e w' ⟨h1, h2⟩ => ⟨h1, by rw [h2]; exact Below.refl _ _⟩

theorem lrisingAll : RisingAll := fun A c l w h hn hr _ _ _ => lrising_any A c l w h (by omega) (fun s hs => by have := hr s hs; omega)

theorem LetOk.arg {l : Let} (h : LetOk l) {c d : Nat} (h1 : (numsOf l).length ≤ c) (h2 : (textsOf l).length ≤ d) (h3 : c ≤ maxLen) (h4 : d ≤ maxLen) : Pk.ArgOk c d (numsOf l) (textsOf l) := by
  obtain ⟨m1, m2, m3, m4⟩ := h.pack
  exact ⟨by omega, by omega, fun n hn => by have := m3 n hn; unfold Pk.numOk at this; omega, fun t ht => by have := m4 t ht; omega, h1, h2, h3, h4⟩

set_option maxRecDepth 20000 in
set_option maxHeartbeats 2000000 in
theorem lencodeAll : EncodeAll := by
  intro A B c d l w h
  have HC := Lib.hid (fun W (hbl : Below w.heap.size w W) => lcheck_any A B c d l W (h.ks.below hbl) (h.ws.below hbl) h.rng.toLetRng)
  have henv := LtEnv.start (c := c) (d := d) h.ks h.ws
  by_cases hm : LetOk l
  · have E := Lib.hid (encV_ok hm)
    have HB := Lib.hid (fun W (hbl : Below w.heap.size w W) => toPack_any A B c d l W (h.ks.below hbl) (h.ws.below hbl) (fun e => (h.kn e).2) hm)
    have HP := Lib.hid (fun A1 B1 c1 d1 W (h1 : IntsAt W A1 (numsOf l)) (h2 : StrsAt W B1 (textsOf l)) (h3 : (numsOf l).length ≤ c1) (h4 : (textsOf l).length ≤ d1) (h5 : c1 ≤ maxLen) (h6 : d1 ≤ maxLen) => Pk.encodeAll A1 B1 c1 d1 (numsOf l) (textsOf l) W h1 h2 (hm.arg h3 h4 h5 h6))
    rw [Pk.encV_ok hm.pack] at HP
    rw [ckN_of hm] at HC
    have HE := Lib.hid henv
    unfold letV at HC HB ⊢
    unfold Pk.packV at HB HP
    clear h hm henv
    go_enter Try.func10, Try.ntmps10
    go_wp2_with fail
    refine (HC.out _ ((Below.refl _ w).alloc (Nat.le_refl _) _)).mono ?_
    rintro e w1 ⟨rfl, hb⟩
    have henv := HE.out.step hb
    have HB1 := Lib.hid henv.bel
    have k0 := henv.cel.cell (i := 0) rfl
    have k1 := henv.cel.cell (i := 1) rfl
    have k2 := henv.cel.cell (i := 2) rfl
    have k3 := henv.cel.cell (i := 3) rfl
    have k4 := henv.cel.cell (i := 4) rfl
    have k5 := henv.cel.cell (i := 5) rfl
    have k6 := henv.cel.cell (i := 6) rfl
    have k7 := henv.cel.cell (i := 7) rfl
    have k8 := henv.cel.cell (i := 8) rfl
    clear hb HC HE henv
    go_wp2_with fail
    refine (HB.out _ HB1.out).mono ?_
    rintro e w2 ⟨A1, B1, c1, d1, rfl, g1, g2, g3, g4, g5, g6, hb⟩
    have HB2 := Lib.hid (HB1.out.trans (hb.mono HB1.out.size))
    have HP2 := Lib.hid (HP.out A1 B1 c1 d1 w2 g1 g2 g3 g4 g5 g6)
    clear hb g1 g2 g3 g4 g5 g6 HP HB
    go_wp2_with fail
    refine HP2.out.mono ?_
    rintro e w3 ⟨rfl, hb⟩
    have HB3 := Lib.hid (HB2.out.trans (hb.mono HB2.out.size))
    clear hb
    go_wp2_with fail
    go_ret2
    exact ⟨by rw [E.out]; rfl, HB3.out⟩
  · have E := Lib.hid (encV_bad hm)
    rw [ckN_not hm] at HC
    unfold letV at HC ⊢
    clear h hm henv
    go_enter Try.func10, Try.ntmps10
    go_wp2_with fail
    refine (HC.out _ ((Below.refl _ w).alloc (Nat.le_refl _) _)).mono ?_
    rintro e w1 ⟨rfl, hb⟩
    have HB1 := Lib.hid (below_new hb)
    clear hb HC
    go_wp2_with fail
    go_ret2
    exact ⟨by rw [E.out]; rfl, HB1.out⟩

end Lt
end Go.Proofs.Ytmllaighjhpbmaa
