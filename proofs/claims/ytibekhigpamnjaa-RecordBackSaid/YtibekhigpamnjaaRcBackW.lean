/- The law of records there and back; no condition but the range. -/
import Derived.Test.YtibekhigpamnjaaRcLaw
namespace Go.Proofs.Ytibekhigpamnjaa
namespace Rc
open Go.RowKit Bk Lt

attribute [local go_sem ↓] Go.wp_at_zero Go.wp_at_succ
attribute [local go_sem] floatUpon pick

theorem sameV (A B A2 B2 : Option Addr) (c d c2 d2 : Nat) (l : Rec) (W : World) (h : RecVal W A B c d l) (h2 : StrsAt W A2 l.keys) (h3 : WrsAt W B2 l.ws) :
    Calls Try.prog 13 #[recV l A B c d, recV l A2 B2 c2 d2] W fun e w' => e = .returned (.bool true) ∧ Below W.heap.size W w' := by
  have := sameRec_any A B A2 B2 c d c2 d2 l l W h.ks h.ws h2 h3 (by have := h.rng.k16; unfold reachBytes at this; omega) (by have := h.rng.w40; unfold reachBytes at this; omega)
  rwa [sameB_self] at this

set_option maxRecDepth 20000 in
set_option maxHeartbeats 8000000 in
/-- records that are written are read again, and bytes that are read are written again -/
theorem back_walk (HE : EncodeAll) (HD : DecodeAll) (v : Value) (l : Rec) (s : ByteArray) (hs : s.size ≤ reachBytes) (w : World) (hv : RecArg w v l) :
    Calls Try.prog 5 #[v, .string s] w fun e w' => e = .returned (.bool true) ∧ Below w.heap.size w w' := by
  have hs2 : s.size ≤ 1000000000000000 := by unfold reachBytes at hs; omega
  obtain ⟨A, B, c, d, rfl, h1, h2, h3, h4, h5⟩ := hv
  have hw : RecVal w A B c d l := ⟨h1, h2, h3, h4, h5⟩
  have HWk := Lib.hid (fun W => rcworks HE W)
  have HE1 := Lib.hid (fun A B c d l W (h : RecVal W A B c d l) => HE A B c d l W h)
  have HD1 := Lib.hid (fun s W (h : s.size ≤ 1000000000000000) => HD s W h)
  have henv := RcEnv.start (c := c) (d := d) hw.ks hw.ws
  have HV := Lib.hid hw
  clear h1 h2 h3 h4 h5 hw HE HD  hs
  unfold recV
  go_enter Try.func5, Try.ntmps5
  go_upto_region 1 with fail
  generalize w.alloc (.cells #[.int .i64 l.kind, .int .i64 l.txn, .int .i64 l.ts, .int .i64 l.coord, .string l.key, .string l.text, .bool l.dead, .slice A l.keys.length c, .slice B l.ws.length d] 25) = W1 at henv ⊢
  have HEn := Lib.hid henv
  clear henv
  go_wp2_with fail
  refine (HWk.out _).mono ?_
  rintro e w2 ⟨rfl, hb⟩
  have henv := HEn.out.step hb
  have HEn2 := Lib.hid henv
  have k0 := henv.cel.cell (i := 0) rfl
  have k1 := henv.cel.cell (i := 1) rfl
  have k2 := henv.cel.cell (i := 2) rfl
  have k3 := henv.cel.cell (i := 3) rfl
  have k4 := henv.cel.cell (i := 4) rfl
  have k5 := henv.cel.cell (i := 5) rfl
  have k6 := henv.cel.cell (i := 6) rfl
  have k7 := henv.cel.cell (i := 7) rfl
  have k8 := henv.cel.cell (i := 8) rfl
  clear HEn henv hb HWk
  have hEn := HE1.out A B c d l w2 (HV.out.below HEn2.out.bel)
  by_cases hm : RecOk l
  · rw [encV_ok hm] at hEn
    unfold recV at hEn
    have HEnc := Lib.hid hEn
    have hD1 := fun W => HD1.out ⟨(recL l).toArray⟩ W (recL_size hm)
    rw [decX_bytes hm] at hD1
    have HDc := Lib.hid hD1
    unfold recV at HDc
    clear hEn hD1 hm
    simp only at HDc
    generalize (⟨(recL l).toArray⟩ : ByteArray) = sb at *
    go_wp2_with fail
    refine HEnc.out.mono ?_
    rintro e w3 ⟨rfl, hb⟩
    have HEn3 := Lib.hid (HEn2.out.step hb)
    clear hb HEn2 HEnc k0 k1 k2 k3 k4 k5 k6 k7 k8
    go_wp2_with fail
    refine (HDc.out _).mono ?_
    rintro e w4 ⟨A2, B2, c2, d2, rfl, hval, hb⟩
    have hal : Below w4.heap.size w4 (w4.alloc (.cells #[.int .i64 l.kind, .int .i64 l.txn, .int .i64 l.ts, .int .i64 l.coord, .string l.key, .string l.text, .bool l.dead, .slice A2 l.keys.length c2, .slice B2 l.ws.length d2] 25)) := (Below.refl _ w4).alloc (Nat.le_refl _) _
    have HC5 : Hid (Cel (w4.alloc (.cells #[.int .i64 l.kind, .int .i64 l.txn, .int .i64 l.ts, .int .i64 l.coord, .string l.key, .string l.text, .bool l.dead, .slice A2 l.keys.length c2, .slice B2 l.ws.length d2] 25)) w4.heap.size 25 [.int .i64 l.kind, .int .i64 l.txn, .int .i64 l.ts, .int .i64 l.coord, .string l.key, .string l.text, .bool l.dead, .slice A2 l.keys.length c2, .slice B2 l.ws.length d2]) := Lib.hid (blk1 w4 _).2
    have HV5 := Lib.hid (hval.below hal)
    have HEn5 := Lib.hid ((HEn3.out.step hb).step hal)
    clear hb hal hval HEn3 HDc
    go_upto_region 6 with fail
    generalize w4.alloc (.cells #[.int .i64 l.kind, .int .i64 l.txn, .int .i64 l.ts, .int .i64 l.coord, .string l.key, .string l.text, .bool l.dead, .slice A2 l.keys.length c2, .slice B2 l.ws.length d2] 25) = w5 at HC5 HV5 HEn5 ⊢
    generalize w4.heap.size = g2 at HC5 ⊢
    have k0 := HC5.out.cell (i := 0) rfl
    have k1 := HC5.out.cell (i := 1) rfl
    have k2 := HC5.out.cell (i := 2) rfl
    have k3 := HC5.out.cell (i := 3) rfl
    have k4 := HC5.out.cell (i := 4) rfl
    have k5 := HC5.out.cell (i := 5) rfl
    have k6 := HC5.out.cell (i := 6) rfl
    have k7 := HC5.out.cell (i := 7) rfl
    have k8 := HC5.out.cell (i := 8) rfl
    have q0 := HEn5.out.cel.cell (i := 0) rfl
    have q1 := HEn5.out.cel.cell (i := 1) rfl
    have q2 := HEn5.out.cel.cell (i := 2) rfl
    have q3 := HEn5.out.cel.cell (i := 3) rfl
    have q4 := HEn5.out.cel.cell (i := 4) rfl
    have q5 := HEn5.out.cel.cell (i := 5) rfl
    have q6 := HEn5.out.cel.cell (i := 6) rfl
    have q7 := HEn5.out.cel.cell (i := 7) rfl
    have q8 := HEn5.out.cel.cell (i := 8) rfl
    have hS := sameV A2 B2 A B c2 d2 c d l w5 HV5.out (HV.out.ks.below HEn5.out.bel) (HV.out.ws.below HEn5.out.bel)
    unfold recV at hS
    have HS := Lib.hid hS
    have HB5 := Lib.hid HEn5.out.bel
    clear hS HC5 HV5 HEn5
    go_wp2_with fail
    refine HS.out.mono ?_
    rintro e w6 ⟨rfl, hb⟩
    have HB6 := Lib.hid (HB5.out.trans (hb.mono HB5.out.size))
    clear hb HB5 HS k0 k1 k2 k3 k4 k5 k6 k7 k8 q0 q1 q2 q3 q4 q5 q6 q7 q8
    have hD2 := HD1.out s w6 hs2
    rcases decX_cases s with ⟨l2, ho, hsl, hx⟩ | ⟨hn, hx⟩
    · rw [hx] at hD2
      unfold recV at hD2
      have HD2 := Lib.hid hD2
      have HOk := Lib.hid ho
      have t0 : ((⟨(recL l2).toArray⟩ : ByteArray).toList == s.toList) = true := by
        rw [show (⟨(recL l2).toArray⟩ : ByteArray) = s by rw [← hsl]]
        exact text_eq s
      clear hD2 hx ho hsl
      go_wp2_with fail
      refine HD2.out.mono ?_
      rintro e w7 ⟨A2, B2, c2, d2, rfl, hval, hb⟩
      have hal : Below w7.heap.size w7 (w7.alloc (.cells #[.int .i64 l2.kind, .int .i64 l2.txn, .int .i64 l2.ts, .int .i64 l2.coord, .string l2.key, .string l2.text, .bool l2.dead, .slice A2 l2.keys.length c2, .slice B2 l2.ws.length d2] 25)) := (Below.refl _ w7).alloc (Nat.le_refl _) _
      have HC8 : Hid (Cel (w7.alloc (.cells #[.int .i64 l2.kind, .int .i64 l2.txn, .int .i64 l2.ts, .int .i64 l2.coord, .string l2.key, .string l2.text, .bool l2.dead, .slice A2 l2.keys.length c2, .slice B2 l2.ws.length d2] 25)) w7.heap.size 25 [.int .i64 l2.kind, .int .i64 l2.txn, .int .i64 l2.ts, .int .i64 l2.coord, .string l2.key, .string l2.text, .bool l2.dead, .slice A2 l2.keys.length c2, .slice B2 l2.ws.length d2]) := Lib.hid (blk1 w7 _).2
      have hv8 := hval.below hal
      have hE8 := HE1.out A2 B2 c2 d2 l2 _ hv8
      rw [encV_ok HOk.out] at hE8
      unfold recV at hE8
      have HE8 := Lib.hid hE8
      have HB8 := Lib.hid ((HB6.out.trans (hb.mono HB6.out.size)).trans (hal.mono (HB6.out.trans (hb.mono HB6.out.size)).size))
      clear hb hal hval hv8 hE8 HB6 HD2
      go_upto_region 11 with fail
      generalize w7.alloc (.cells #[.int .i64 l2.kind, .int .i64 l2.txn, .int .i64 l2.ts, .int .i64 l2.coord, .string l2.key, .string l2.text, .bool l2.dead, .slice A2 l2.keys.length c2, .slice B2 l2.ws.length d2] 25) = w8 at HC8 HE8 HB8 ⊢
      generalize w7.heap.size = g3 at HC8 ⊢
      have k0 := HC8.out.cell (i := 0) rfl
      have k1 := HC8.out.cell (i := 1) rfl
      have k2 := HC8.out.cell (i := 2) rfl
      have k3 := HC8.out.cell (i := 3) rfl
      have k4 := HC8.out.cell (i := 4) rfl
      have k5 := HC8.out.cell (i := 5) rfl
      have k6 := HC8.out.cell (i := 6) rfl
      have k7 := HC8.out.cell (i := 7) rfl
      have k8 := HC8.out.cell (i := 8) rfl
      generalize (⟨(recL l2).toArray⟩ : ByteArray) = sb2 at *
      go_wp2_with fail
      refine HE8.out.mono ?_
      rintro e w9 ⟨rfl, hb⟩
      have HB9 := Lib.hid (HB8.out.trans (hb.mono HB8.out.size))
      clear hb
      go_wp2_with fail
      go_ret
      exact ⟨rfl, HB9.out⟩
    · rw [hx] at hD2
      simp only at hD2
      have HD2 := Lib.hid hD2
      clear hD2 hx hn
      unfold recV noRec at HD2
      simp only [List.length_nil] at HD2
      go_wp2_with fail
      refine HD2.out.mono ?_
      rintro e w7 ⟨A2, B2, c2, d2, rfl, hval, hb⟩
      have hal : Below w7.heap.size w7 (w7.alloc (.cells #[.int .i64 0, .int .i64 0, .int .i64 0, .int .i64 0, .string ⟨#[]⟩, .string ⟨#[]⟩, .bool false, .slice A2 0 c2, .slice B2 0 d2] 25)) := (Below.refl _ w7).alloc (Nat.le_refl _) _
      have HC8 : Hid (Cel (w7.alloc (.cells #[.int .i64 0, .int .i64 0, .int .i64 0, .int .i64 0, .string ⟨#[]⟩, .string ⟨#[]⟩, .bool false, .slice A2 0 c2, .slice B2 0 d2] 25)) w7.heap.size 25 [.int .i64 0, .int .i64 0, .int .i64 0, .int .i64 0, .string ⟨#[]⟩, .string ⟨#[]⟩, .bool false, .slice A2 0 c2, .slice B2 0 d2]) := Lib.hid (blk1 w7 _).2
      have hS := sameV A2 B2 none none c2 d2 0 0 noRec _ (hval.below hal) (nil_strs _ _) (nil_wrs _ _)
      unfold recV noRec at hS
      simp only [List.length_nil] at hS
      have HS := Lib.hid hS
      have HB8 := Lib.hid ((HB6.out.trans (hb.mono HB6.out.size)).trans (hal.mono (HB6.out.trans (hb.mono HB6.out.size)).size))
      clear hb hal hval hS HB6 HD2
      go_upto_region 11 with fail
      generalize w7.alloc (.cells #[.int .i64 0, .int .i64 0, .int .i64 0, .int .i64 0, .string ⟨#[]⟩, .string ⟨#[]⟩, .bool false, .slice A2 0 c2, .slice B2 0 d2] 25) = w8 at HC8 HS HB8 ⊢
      generalize w7.heap.size = g3 at HC8 ⊢
      have k0 := HC8.out.cell (i := 0) rfl
      have k1 := HC8.out.cell (i := 1) rfl
      have k2 := HC8.out.cell (i := 2) rfl
      have k3 := HC8.out.cell (i := 3) rfl
      have k4 := HC8.out.cell (i := 4) rfl
      have k5 := HC8.out.cell (i := 5) rfl
      have k6 := HC8.out.cell (i := 6) rfl
      have k7 := HC8.out.cell (i := 7) rfl
      have k8 := HC8.out.cell (i := 8) rfl
      go_wp2_with fail
      refine HS.out.mono ?_
      rintro e w9 ⟨rfl, hb⟩
      have HB9 := Lib.hid (HB8.out.trans (hb.mono HB8.out.size))
      clear hb
      go_wp2_with fail
      go_ret
      exact ⟨rfl, HB9.out⟩
  · rw [encV_bad hm] at hEn
    unfold recV at hEn
    have HEnc := Lib.hid hEn
    clear hEn hm
    go_wp2_with fail
    refine HEnc.out.mono ?_
    rintro e w6 ⟨rfl, hb⟩
    have HB6 := Lib.hid (HEn2.out.step hb).bel
    clear hb HEn2 HEnc k0 k1 k2 k3 k4 k5 k6 k7 k8
    have hD2 := HD1.out s w6 hs2
    rcases decX_cases s with ⟨l2, ho, hsl, hx⟩ | ⟨hn, hx⟩
    · rw [hx] at hD2
      unfold recV at hD2
      have HD2 := Lib.hid hD2
      have HOk := Lib.hid ho
      have t0 : ((⟨(recL l2).toArray⟩ : ByteArray).toList == s.toList) = true := by
        rw [show (⟨(recL l2).toArray⟩ : ByteArray) = s by rw [← hsl]]
        exact text_eq s
      clear hD2 hx ho hsl
      go_wp2_with fail
      refine HD2.out.mono ?_
      rintro e w7 ⟨A2, B2, c2, d2, rfl, hval, hb⟩
      have hal : Below w7.heap.size w7 (w7.alloc (.cells #[.int .i64 l2.kind, .int .i64 l2.txn, .int .i64 l2.ts, .int .i64 l2.coord, .string l2.key, .string l2.text, .bool l2.dead, .slice A2 l2.keys.length c2, .slice B2 l2.ws.length d2] 25)) := (Below.refl _ w7).alloc (Nat.le_refl _) _
      have HC8 : Hid (Cel (w7.alloc (.cells #[.int .i64 l2.kind, .int .i64 l2.txn, .int .i64 l2.ts, .int .i64 l2.coord, .string l2.key, .string l2.text, .bool l2.dead, .slice A2 l2.keys.length c2, .slice B2 l2.ws.length d2] 25)) w7.heap.size 25 [.int .i64 l2.kind, .int .i64 l2.txn, .int .i64 l2.ts, .int .i64 l2.coord, .string l2.key, .string l2.text, .bool l2.dead, .slice A2 l2.keys.length c2, .slice B2 l2.ws.length d2]) := Lib.hid (blk1 w7 _).2
      have hv8 := hval.below hal
      have hE8 := HE1.out A2 B2 c2 d2 l2 _ hv8
      rw [encV_ok HOk.out] at hE8
      unfold recV at hE8
      have HE8 := Lib.hid hE8
      have HB8 := Lib.hid ((HB6.out.trans (hb.mono HB6.out.size)).trans (hal.mono (HB6.out.trans (hb.mono HB6.out.size)).size))
      clear hb hal hval hv8 hE8 HB6 HD2
      go_upto_region 11 with fail
      generalize w7.alloc (.cells #[.int .i64 l2.kind, .int .i64 l2.txn, .int .i64 l2.ts, .int .i64 l2.coord, .string l2.key, .string l2.text, .bool l2.dead, .slice A2 l2.keys.length c2, .slice B2 l2.ws.length d2] 25) = w8 at HC8 HE8 HB8 ⊢
      generalize w7.heap.size = g3 at HC8 ⊢
      have k0 := HC8.out.cell (i := 0) rfl
      have k1 := HC8.out.cell (i := 1) rfl
      have k2 := HC8.out.cell (i := 2) rfl
      have k3 := HC8.out.cell (i := 3) rfl
      have k4 := HC8.out.cell (i := 4) rfl
      have k5 := HC8.out.cell (i := 5) rfl
      have k6 := HC8.out.cell (i := 6) rfl
      have k7 := HC8.out.cell (i := 7) rfl
      have k8 := HC8.out.cell (i := 8) rfl
      generalize (⟨(recL l2).toArray⟩ : ByteArray) = sb2 at *
      go_wp2_with fail
      refine HE8.out.mono ?_
      rintro e w9 ⟨rfl, hb⟩
      have HB9 := Lib.hid (HB8.out.trans (hb.mono HB8.out.size))
      clear hb
      go_wp2_with fail
      go_ret
      exact ⟨rfl, HB9.out⟩
    · rw [hx] at hD2
      simp only at hD2
      have HD2 := Lib.hid hD2
      clear hD2 hx hn
      unfold recV noRec at HD2
      simp only [List.length_nil] at HD2
      go_wp2_with fail
      refine HD2.out.mono ?_
      rintro e w7 ⟨A2, B2, c2, d2, rfl, hval, hb⟩
      have hal : Below w7.heap.size w7 (w7.alloc (.cells #[.int .i64 0, .int .i64 0, .int .i64 0, .int .i64 0, .string ⟨#[]⟩, .string ⟨#[]⟩, .bool false, .slice A2 0 c2, .slice B2 0 d2] 25)) := (Below.refl _ w7).alloc (Nat.le_refl _) _
      have HC8 : Hid (Cel (w7.alloc (.cells #[.int .i64 0, .int .i64 0, .int .i64 0, .int .i64 0, .string ⟨#[]⟩, .string ⟨#[]⟩, .bool false, .slice A2 0 c2, .slice B2 0 d2] 25)) w7.heap.size 25 [.int .i64 0, .int .i64 0, .int .i64 0, .int .i64 0, .string ⟨#[]⟩, .string ⟨#[]⟩, .bool false, .slice A2 0 c2, .slice B2 0 d2]) := Lib.hid (blk1 w7 _).2
      have hS := sameV A2 B2 none none c2 d2 0 0 noRec _ (hval.below hal) (nil_strs _ _) (nil_wrs _ _)
      unfold recV noRec at hS
      simp only [List.length_nil] at hS
      have HS := Lib.hid hS
      have HB8 := Lib.hid ((HB6.out.trans (hb.mono HB6.out.size)).trans (hal.mono (HB6.out.trans (hb.mono HB6.out.size)).size))
      clear hb hal hval hS HB6 HD2
      go_upto_region 11 with fail
      generalize w7.alloc (.cells #[.int .i64 0, .int .i64 0, .int .i64 0, .int .i64 0, .string ⟨#[]⟩, .string ⟨#[]⟩, .bool false, .slice A2 0 c2, .slice B2 0 d2] 25) = w8 at HC8 HS HB8 ⊢
      generalize w7.heap.size = g3 at HC8 ⊢
      have k0 := HC8.out.cell (i := 0) rfl
      have k1 := HC8.out.cell (i := 1) rfl
      have k2 := HC8.out.cell (i := 2) rfl
      have k3 := HC8.out.cell (i := 3) rfl
      have k4 := HC8.out.cell (i := 4) rfl
      have k5 := HC8.out.cell (i := 5) rfl
      have k6 := HC8.out.cell (i := 6) rfl
      have k7 := HC8.out.cell (i := 7) rfl
      have k8 := HC8.out.cell (i := 8) rfl
      go_wp2_with fail
      refine HS.out.mono ?_
      rintro e w9 ⟨rfl, hb⟩
      have HB9 := Lib.hid (HB8.out.trans (hb.mono HB8.out.size))
      clear hb
      go_wp2_with fail
      go_ret
      exact ⟨rfl, HB9.out⟩

end Rc
end Go.Proofs.Ytibekhigpamnjaa
