/- The law of bare letters; no condition but the range. -/
import Derived.Test.YtmllaighjhpbmaaLtLaw
import Derived.Test.YtmllaighjhpbmaaLtBook
namespace Go.Proofs.Ytmllaighjhpbmaa
namespace Lt
open Go.RowKit Bk

attribute [local go_sem ↓] Go.wp_at_zero Go.wp_at_succ
attribute [local go_sem] floatUpon pick

theorem LetArg.val {w : World} {v : Value} {l : Let} (h : LetArg w v l) : ∃ (A B : Option Addr) (c d : Nat), v = letV l A B c d ∧ LetVal w A B c d l := by
  obtain ⟨A, B, c, d, h1, h2, h3, h4, h5, h6⟩ := h
  exact ⟨A, B, c, d, h1, h2, h3, h4, h5, h6⟩

theorem bare_ok {l : Let} (h : LetOk l) : LetOk (bareL 6 l.src l.dst l.txn l.ts) := by
  obtain ⟨⟨h1, h2, h3, h4, h5, h6⟩, _⟩ := h
  exact ⟨⟨h1, h2, h3, h4, Int.le_refl 0, by show (0 : Int) ≤ 4; omega⟩, (kind_5 (.inr (.inl rfl))).2 ⟨⟨rfl, rfl, rfl⟩, rfl⟩⟩

theorem text_inj {a b : List UInt8} : ((⟨a.toArray⟩ : ByteArray).toList == (⟨b.toArray⟩ : ByteArray).toList) = decide (a = b) := by
  rw [eql_dec]
  congr 1
  simp

theorem same_bytes {l m : Let} (hl : LetOk l) (hm : LetOk m) : ((⟨(letL l).toArray⟩ : ByteArray).toList == (⟨(letL m).toArray⟩ : ByteArray).toList) = sameB l m := by
  rw [text_inj]
  by_cases h : l = m
  · subst h; rw [sameB_self]; simp
  · rw [sameB_false h, decide_eq_false (fun e => h (letL_inj hl hm e))]

set_option maxRecDepth 20000 in
set_option maxHeartbeats 4000000 in
theorem other_walk (HE : EncodeAll) (HK : KeyAll) (HR : RisingAll) (v : Value) (l : Let) (w : World) (hv : LetArg w v l) :
    Calls Try.prog 7 #[v] w fun e w' => e = .returned (.bool true) ∧ Below w.heap.size w w' := by
  obtain ⟨A, B, c, d, rfl, hw⟩ := hv.val
  clear hv
  have HWk := Lib.hid (fun W => ltworks HE HK HR W)
  have HE1 := Lib.hid (fun W (hb : Below w.heap.size w W) => HE A B c d l W (hw.below hb))
  have henv := LtEnv.start (c := c) (d := d) hw.ks hw.ws
  have HV := Lib.hid hw
  unfold letV at HE1 ⊢
  go_enter Try.func7, Try.ntmps7
  go_upto_region 1 with fail
  generalize w.alloc (.cells #[.int .i64 l.kind, .int .i64 l.src, .int .i64 l.dst, .int .i64 l.txn, .int .i64 l.ts, .int .i64 l.code, .string l.text, .slice A l.keys.length c, .slice B l.ws.length d] 25) = W1 at henv ⊢
  have HEn := Lib.hid henv
  clear henv hw
  go_wp2_with fail
  refine (HWk.out _).mono ?_
  rintro e w2 ⟨rfl, hb⟩
  have henv := HEn.out.step hb
  have HB2 := Lib.hid henv.bel
  have k0 := henv.cel.cell (i := 0) rfl
  have k1 := henv.cel.cell (i := 1) rfl
  have k2 := henv.cel.cell (i := 2) rfl
  have k3 := henv.cel.cell (i := 3) rfl
  have k4 := henv.cel.cell (i := 4) rfl
  have k5 := henv.cel.cell (i := 5) rfl
  have k6 := henv.cel.cell (i := 6) rfl
  have k7 := henv.cel.cell (i := 7) rfl
  have k8 := henv.cel.cell (i := 8) rfl
  have HEn2 := Lib.hid henv
  clear HEn henv hb HWk
  by_cases hm : LetOk l
  case neg =>
    rw [encV_bad hm] at HE1
    go_wp2_with fail
    refine (HE1.out _ HB2.out).mono ?_
    rintro e w3 ⟨rfl, hb⟩
    have HB3 := Lib.hid (HB2.out.trans (hb.mono HB2.out.size))
    clear hb
    go_wp2_with fail
    go_ret
    exact ⟨rfl, HB3.out⟩
  rw [encV_ok hm] at HE1
  have hbo := bare_ok hm
  have HE2 := Lib.hid (fun W => HE none none 0 0 (bareL 6 l.src l.dst l.txn l.ts) W (bare_val W 6 l.src l.dst l.txn l.ts hbo))
  rw [encV_ok hbo] at HE2
  have HSm := Lib.hid (fun W (hb : Below w.heap.size w W) => sameLet_any A B none none c d 0 0 l (bareL 6 l.src l.dst l.txn l.ts) W (HV.out.below hb).ks (HV.out.below hb).ws (nil_strs _ _) (nil_wrs _ _) (by have := HV.out.rng.k16; unfold reachBytes at this; omega) (by have := HV.out.rng.w16; unfold reachBytes at this; omega))
  have t0 := same_bytes hm hbo
  generalize (⟨(letL l).toArray⟩ : ByteArray) = s1 at *
  generalize (⟨(letL (bareL 6 l.src l.dst l.txn l.ts)).toArray⟩ : ByteArray) = s2 at *
  generalize sameB l (bareL 6 l.src l.dst l.txn l.ts) = b0 at *
  unfold letV bareL at HE2 HSm
  simp only [List.length_nil] at HE2 HSm
  clear hm hbo
  go_wp2_with fail
  refine (HE1.out _ HB2.out).mono ?_
  rintro e w3 ⟨rfl, hb⟩
  have henv := HEn2.out.step hb
  have HB3 := Lib.hid henv.bel
  clear k0 k1 k2 k3 k4 k5 k6 k7 k8 hb HEn2
  have k1 := henv.cel.cell (i := 1) rfl
  have k2 := henv.cel.cell (i := 2) rfl
  have k3 := henv.cel.cell (i := 3) rfl
  have k4 := henv.cel.cell (i := 4) rfl
  have HEn3 := Lib.hid henv
  clear henv
  go_upto_region 7 with fail
  have hC : Cel (w3.alloc (.cells #[.int .i64 6, .int .i64 l.src, .int .i64 l.dst, .int .i64 l.txn, .int .i64 l.ts, .int .i64 0, .string ⟨#[]⟩, .slice none 0 0, .slice none 0 0] 25)) w3.heap.size 25 [.int .i64 6, .int .i64 l.src, .int .i64 l.dst, .int .i64 l.txn, .int .i64 l.ts, .int .i64 0, .string ⟨#[]⟩, .slice none 0 0, .slice none 0 0] := (blk1 _ _).2
  have henv := HEn3.out.step ((Below.refl _ w3).alloc (Nat.le_refl _) (.cells #[.int .i64 6, .int .i64 l.src, .int .i64 l.dst, .int .i64 l.txn, .int .i64 l.ts, .int .i64 0, .string ⟨#[]⟩, .slice none 0 0, .slice none 0 0] 25))
  generalize w3.alloc (.cells #[.int .i64 6, .int .i64 l.src, .int .i64 l.dst, .int .i64 l.txn, .int .i64 l.ts, .int .i64 0, .string ⟨#[]⟩, .slice none 0 0, .slice none 0 0] 25) = W4 at hC henv ⊢
  generalize w3.heap.size = o at hC ⊢
  have HEn4 := Lib.hid henv
  have HC4 := Lib.hid hC
  clear hC henv k1 k2 k3 k4 HEn3
  have k0 := HC4.out.cell (i := 0) rfl
  have k1 := HC4.out.cell (i := 1) rfl
  have k2 := HC4.out.cell (i := 2) rfl
  have k3 := HC4.out.cell (i := 3) rfl
  have k4 := HC4.out.cell (i := 4) rfl
  have k5 := HC4.out.cell (i := 5) rfl
  have k6 := HC4.out.cell (i := 6) rfl
  have k7 := HC4.out.cell (i := 7) rfl
  have k8 := HC4.out.cell (i := 8) rfl
  go_wp2_with fail
  refine (HE2.out _).mono ?_
  rintro e w5 ⟨rfl, hb⟩
  have henv := HEn4.out.step hb
  have hC := HC4.out.below hb
  have HB5 := Lib.hid henv.bel
  clear k0 k1 k2 k3 k4 k5 k6 k7 k8 hb HEn4 HC4
  have k0 := henv.cel.cell (i := 0) rfl
  have k1 := henv.cel.cell (i := 1) rfl
  have k2 := henv.cel.cell (i := 2) rfl
  have k3 := henv.cel.cell (i := 3) rfl
  have k4 := henv.cel.cell (i := 4) rfl
  have k5 := henv.cel.cell (i := 5) rfl
  have k6 := henv.cel.cell (i := 6) rfl
  have k7 := henv.cel.cell (i := 7) rfl
  have k8 := henv.cel.cell (i := 8) rfl
  have j0 := hC.cell (i := 0) rfl
  have j1 := hC.cell (i := 1) rfl
  have j2 := hC.cell (i := 2) rfl
  have j3 := hC.cell (i := 3) rfl
  have j4 := hC.cell (i := 4) rfl
  have j5 := hC.cell (i := 5) rfl
  have j6 := hC.cell (i := 6) rfl
  have j7 := hC.cell (i := 7) rfl
  have j8 := hC.cell (i := 8) rfl
  clear henv hC
  go_wp2_with fail
  refine (HSm.out _ HB5.out).mono ?_
  rintro e w6 ⟨rfl, hb⟩
  have HB6 := Lib.hid (HB5.out.trans (hb.mono HB5.out.size))
  clear hb
  go_wp2_with fail
  go_ret
  exact ⟨rfl, HB6.out⟩

end Lt
end Go.Proofs.Ytmllaighjhpbmaa
