/- The law of keys; no condition but the range. -/
import Derived.Test.YtmllaighjhpbmaaLtLaw
namespace Go.Proofs.Ytmllaighjhpbmaa
namespace Lt
open Go.RowKit Bk

attribute [local go_sem ↓] Go.wp_at_zero Go.wp_at_succ
attribute [local go_sem] floatUpon pick

set_option maxRecDepth 20000 in
set_option maxHeartbeats 4000000 in
theorem keys_walk (HE : EncodeAll) (HK : KeyAll) (HR : RisingAll) (s : ByteArray) (hs : s.size ≤ reachBytes) (v : Value) (l : List ByteArray) (w : World) (hv : TextsOf w v l) :
    Calls Try.prog 5 #[.string s, v] w fun e w' => e = .returned (.bool true) ∧ Below w.heap.size w w' := by
  have rb : reachBytes = 140737488351232 := by unfold reachBytes; rfl
  have HWk := Lib.hid (fun W => ltworks HE HK HR W)
  have HLe := Lib.hid (lend_any v l w hv)
  have HK1 := Lib.hid (fun W => HK s W (by omega))
  have HK2 := Lib.hid (fun W => key_any s W (by omega))
  have hv' : ∀ W, Below w.heap.size w W → TextsOf W v l := fun W hb => by
    obtain ⟨A, c, h1, h2, h3⟩ := hv
    exact ⟨A, c, h1, h2.below hb, h3⟩
  obtain ⟨A, c, rfl, h2, h3, h4, h5, h6, h7⟩ := hv
  have HR1 := Lib.hid (fun g cap W (h : StrsAt W (some ⟨g, 0, none⟩) l) (hc : l.length ≤ cap) (hm : cap ≤ maxLen) => HR (some ⟨g, 0, none⟩) cap l W h (by omega) (fun s hs => by have := h5 s hs; omega) hc hm (fun e => by cases e))
  have HR2 := Lib.hid (fun W (hb : Below w.heap.size w W) => rising_any A c l W (h2.below hb) (by omega) (fun s hs => by have := h5 s hs; omega))
  have HKe := Lib.hid (fun g cap W (hb : Below w.heap.size w W) (ho : W.ownsRow w.heap.size 9 1 (.slice (some ⟨g, 0, none⟩) (l.length + 1) cap) (l.length + 1) (strV l ++ [.string markS])) => kept_any w.heap.size g cap (.slice A l.length c) l W (hv' W hb) ho)
  generalize decide (keyOk s) = x1 at *
  generalize risesB l = x2 at *
  clear hv' h2 h3 h4 h5 h6 h7 HK HR HE
  go_enter Try.func5, Try.ntmps5
  go_wp2_with fail
  refine HLe.out.mono ?_
  rintro e w1 ⟨g, cap, rfl, hown, hb⟩
  have HB1 := Lib.hid hb
  have HO1 := Lib.hid hown
  clear hb hown HLe
  go_wp2_with fail
  refine (HK1.out _).mono ?_
  rintro e w2 ⟨rfl, hb⟩
  have HB2 := Lib.hid (HB1.out.trans (hb.mono HB1.out.size))
  have HO2 := Lib.hid (st_keep HO1.out hb)
  clear hb HB1 HO1
  go_wp2_with fail
  refine (HK2.out _).mono ?_
  rintro e w3 ⟨rfl, rfl⟩
  have hcap : l.length ≤ cap ∧ cap ≤ maxLen := by
    rcases HO2.out.2 with ⟨h1, _⟩ | ⟨g', cap', cur, h1, _, _, h3, h4, _⟩
    · cases h1
    · simp only [Value.slice.injEq] at h1; omega
  have HRc := Lib.hid (HR1.out g cap w3 (lent_strs HO2.out) hcap.1 hcap.2)
  clear hcap HR1
  go_wp2_with fail
  refine HRc.out.mono ?_
  rintro e w4 ⟨rfl, hb⟩
  have HB4 := Lib.hid (HB2.out.trans (hb.mono HB2.out.size))
  have HO4 := Lib.hid (st_keep HO2.out hb)
  clear hb HB2 HO2 HRc
  go_wp2_with fail
  refine (HR2.out _ HB4.out).mono ?_
  rintro e w5 ⟨rfl, hb⟩
  have HB5 := Lib.hid (HB4.out.trans (hb.mono HB4.out.size))
  have HO5 := Lib.hid (st_keep HO4.out hb)
  clear hb HB4 HO4
  go_wp2_with fail
  refine (HKe.out g cap _ HB5.out HO5.out).mono ?_
  rintro e w6 ⟨rfl, n, rfl⟩
  have HB6 : Hid (Below w.heap.size w (w5.drewN n)) := Lib.hid ⟨HB5.out.1, HB5.out.2, HB5.out.3, HB5.out.4, HB5.out.5⟩
  generalize w5.drewN n = w6 at HB6 ⊢
  go_wp2_with fail
  refine (HWk.out _).mono ?_
  rintro e w7 ⟨rfl, hb⟩
  have HB7 := Lib.hid (HB6.out.trans (hb.mono HB6.out.size))
  clear hb
  go_wp2_with fail
  go_ret
  exact ⟨rfl, HB7.out⟩

end Lt
end Go.Proofs.Ytmllaighjhpbmaa
