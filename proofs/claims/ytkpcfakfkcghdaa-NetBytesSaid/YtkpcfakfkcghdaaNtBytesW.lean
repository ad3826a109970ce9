/- A letter's bytes that are injected are that letter, other bytes are refused; no condition but the ranges. -/
import Derived.Test.YtkpcfakfkcghdaaNtWorks
import Derived.Test.YtkpcfakfkcghdaaNtOpen
namespace Go.Proofs.Ytkpcfakfkcghdaa
namespace Nt
open Go.RowKit Bk Lt
set_option linter.unusedVariables false

attribute [local go_sem ↓] Go.wp_at_zero Go.wp_at_succ
attribute [local go_sem] floatUpon pick

theorem ns_newM {w0 wr : World} {M : Nat → Prop} (room : Int) (hb : Below w0.heap.size w0 wr) (h1 : 1 ≤ room) (h2 : room ≤ 1024) (hM : ∀ k, M k → k < wr.heap.size) :
    Calls Try.prog 8 #[.int .i64 room] wr fun e w' => e = .returned (.tuple #[.pointer (some ⟨wr.heap.size, 0, none⟩), .int .i64 0]) ∧ NS w0 w' M wr.heap.size room [] ∧ Below wr.heap.size wr w' :=
  (lnew_any room wr h1 h2).mono fun e w' ⟨e1, hr, hb2⟩ => ⟨e1, ⟨⟨_, fun k hk => ⟨by rw [hk]; exact hb.size, fun h => by have := hM k h; omega⟩, hr⟩, hb.trans (hb2.mono hb.size), fun k hk => Nat.lt_of_lt_of_le (hM k hk) hb2.size⟩, hb2⟩

theorem inj_ok {room : Int} {l : List Let} {s : ByteArray} {m : Let} (h : decX s = (m, 0)) (hl : (l.length : Int) < room) : injL room l s = (l ++ [m], m, 0) := by
  unfold injL putL; rw [h, if_neg (by simp), if_pos hl]; simp
theorem inj_full {room : Int} {l : List Let} {s : ByteArray} {m : Let} (h : decX s = (m, 0)) (hl : room ≤ (l.length : Int)) : injL room l s = (l, noLet, 150) := by
  unfold injL putL; rw [h, if_neg (by simp)]; simp [show ¬ (l.length : Int) < room by omega]
theorem inj_no {room : Int} {l : List Let} {s : ByteArray} (h : decX s = (noLet, 70)) : injL room l s = (l, noLet, 70) := by
  unfold injL; rw [h, if_pos (by simp)]; rfl

theorem letL_size {l : Let} (h : LetOk l) : (⟨(letL l).toArray⟩ : ByteArray).size ≤ 1000000000000000 := by
  have := Pk.bytesL_le h.pack
  show (letL l).toArray.size ≤ _
  rw [List.size_toArray]
  unfold letL
  omega

set_option maxRecDepth 20000 in
set_option maxHeartbeats 8000000 in
theorem bytes_any (v0 : Value) (l0 : Let) (s : ByteArray) (hs : s.size ≤ reachBytes) (w : World) (h0 : LetArg w v0 l0) : Calls Try.prog 5 #[v0, .string s] w fun e w' => e = .returned (.bool true) ∧ Below w.heap.size w w' := by
  obtain ⟨A, B, c, d, rfl, h1, h2, h3, h4, h5⟩ := h0
  have HV := Lib.hid (show LetVal w A B c d l0 from ⟨h1, h2, h3, h4, h5⟩)
  clear h1 h2 h3 h4 h5
  have hs15 : s.size ≤ 1000000000000000 := by unfold reachBytes at hs; omega
  have hb0 : Below w.heap.size w (w.alloc (.cells #[.int .i64 l0.kind, .int .i64 l0.src, .int .i64 l0.dst, .int .i64 l0.txn, .int .i64 l0.ts, .int .i64 l0.code, .string l0.text, .slice A l0.keys.length c, .slice B l0.ws.length d] 35)) := (Below.refl _ w).alloc (Nat.le_refl _) _
  have hC0 : Cel (w.alloc (.cells #[.int .i64 l0.kind, .int .i64 l0.src, .int .i64 l0.dst, .int .i64 l0.txn, .int .i64 l0.ts, .int .i64 l0.code, .string l0.text, .slice A l0.keys.length c, .slice B l0.ws.length d] 35)) w.heap.size 35 (cellsL l0 (.slice A l0.keys.length c) (.slice B l0.ws.length d)) := (blk1 w _).2
  have hn := ns_newM (M := fun k => k = w.heap.size) 5 hb0 (by omega) (by omega) (fun k hk => by subst hk; exact hC0.lt)
  have HN := Lib.hid hn
  have HC0 := Lib.hid hC0
  have HWk := Lib.hid (fun V => works_any V)
  clear hb0 hC0 hn
  unfold letV
  go_enter Try.func5, Try.ntmps5
  go_upto_region 1 with fail
  generalize w.alloc (.cells #[.int .i64 l0.kind, .int .i64 l0.src, .int .i64 l0.dst, .int .i64 l0.txn, .int .i64 l0.ts, .int .i64 l0.code, .string l0.text, .slice A l0.keys.length c, .slice B l0.ws.length d] 35) = W0 at HN HC0 ⊢
  go_wp2_with fail
  refine HN.out.mono ?_
  rintro e W1 ⟨rfl, hns, hb1⟩
  have HNs := Lib.hid hns
  have HC1 := Lib.hid (HC0.out.below hb1)
  clear hns hb1 HN HC0
  go_wp2_with fail
  refine (HWk.out _).mono ?_
  rintro e W2 ⟨rfl, hb⟩
  have hns2 := HNs.out.below hb
  have hc2 := HC1.out.below hb
  clear hb HNs HC1 HWk
  generalize W0.heap.size = g at *
  have k0 := hc2.cell (i := 0) rfl
  have k1 := hc2.cell (i := 1) rfl
  have k2 := hc2.cell (i := 2) rfl
  have k3 := hc2.cell (i := 3) rfl
  have k4 := hc2.cell (i := 4) rfl
  have k5 := hc2.cell (i := 5) rfl
  have k6 := hc2.cell (i := 6) rfl
  have k7 := hc2.cell (i := 7) rfl
  have k8 := hc2.cell (i := 8) rfl
  have hv2 := HV.out.below hns2.bel
  have hen := lencodeAll A B c d l0 W2 hv2
  have HNs2 := Lib.hid hns2
  have HC2 := Lib.hid hc2
  clear hv2 hns2 hc2
  by_cases hok : LetOk l0
  case pos =>
    rw [encV_ok hok] at hen
    have HEn := Lib.hid hen
    have hdx := decX_bytes hok
    have hbs := letL_size hok
    generalize (⟨(letL l0).toArray⟩ : ByteArray) = bb at HEn hdx hbs
    unfold letV at HEn
    clear hen
    go_wp2_with fail
    refine HEn.out.mono ?_
    rintro e W3 ⟨rfl, hb⟩
    have hns3 := HNs2.out.below hb
    have hc3 := HC2.out.below hb
    have hin := ns_inject hns3 bb hbs
    rw [inj_ok hdx (by simp)] at hin
    have HIn := Lib.hid hin
    have HC3 := Lib.hid hc3
    unfold letV at HIn
    clear hb hns3 hc3 hin HNs2 HC2 HEn k0 k1 k2 k3 k4 k5 k6 k7 k8
    go_wp2_with fail
    refine HIn.out.mono ?_
    rintro e W4 ⟨x, rfl, hx0, hxo, hp, hpx⟩
    have HX0 := Lib.hid (show x.l = l0 from hx0)
    have hal := (Below.refl W4.heap.size W4).alloc (Nat.le_refl _) (.cells #[.int .i64 x.l.kind, .int .i64 x.l.src, .int .i64 x.l.dst, .int .i64 x.l.txn, .int .i64 x.l.ts, .int .i64 x.l.code, .string x.l.text, .slice x.A x.l.keys.length x.c, .slice x.B x.l.ws.length x.d] 35)
    have hX4 : Cel (W4.alloc (.cells #[.int .i64 x.l.kind, .int .i64 x.l.src, .int .i64 x.l.dst, .int .i64 x.l.txn, .int .i64 x.l.ts, .int .i64 x.l.code, .string x.l.text, .slice x.A x.l.keys.length x.c, .slice x.B x.l.ws.length x.d] 35)) W4.heap.size 35 (lcs x) := (blk1 W4 _).2
    have hns4 := hpx.new (M' := fun k => (k = w.heap.size ∨ Lb x k) ∨ k = W4.heap.size) hal (fun k hk => hk.elim .inl (fun e => .inr (by subst e; exact ⟨Nat.le_refl _, hX4.lt⟩)))
    have hc4 := (hp.cel HC3.out rfl).below hal
    have hxo4 := hxo.below hal
    clear hp hpx hal HIn hx0 hxo HC3
    go_upto_region 7 with fail
    generalize W4.alloc (.cells #[.int .i64 x.l.kind, .int .i64 x.l.src, .int .i64 x.l.dst, .int .i64 x.l.txn, .int .i64 x.l.ts, .int .i64 x.l.code, .string x.l.text, .slice x.A x.l.keys.length x.c, .slice x.B x.l.ws.length x.d] 35) = W5 at hX4 hns4 hc4 hxo4 ⊢
    generalize W4.heap.size = q at hX4 hns4 ⊢
    have htk := ns_take hns4 (by simp) 0
    have HTk := Lib.hid htk
    have HX4 := Lib.hid hX4
    have HC4 := Lib.hid hc4
    have HXv := Lib.hid hxo4
    have HNo := Lib.hid hns4
    unfold letV at HTk
    clear htk hX4 hc4 hxo4 hns4
    go_wp2_with fail
    refine HTk.out.mono ?_
    rintro e W6 ⟨y, rfl, hy0, hyo, hp⟩
    have HY0 := Lib.hid (show y.l = l0 from by rw [hy0]; rfl)
    have hp2 : NP w W5 W6 (fun k => (k = w.heap.size ∨ Lb x k) ∨ k = q) g 5 [] := hp
    have hal := (Below.refl W6.heap.size W6).alloc (Nat.le_refl _) (.cells #[.int .i64 y.l.kind, .int .i64 y.l.src, .int .i64 y.l.dst, .int .i64 y.l.txn, .int .i64 y.l.ts, .int .i64 y.l.code, .string y.l.text, .slice y.A y.l.keys.length y.c, .slice y.B y.l.ws.length y.d] 35)
    have hY6 : Cel (W6.alloc (.cells #[.int .i64 y.l.kind, .int .i64 y.l.src, .int .i64 y.l.dst, .int .i64 y.l.txn, .int .i64 y.l.ts, .int .i64 y.l.code, .string y.l.text, .slice y.A y.l.keys.length y.c, .slice y.B y.l.ws.length y.d] 35)) W6.heap.size 35 (lcs y) := (blk1 W6 _).2
    have hns7 := hp2.toNS.below hal
    have hc7 := (hp2.cel HC4.out (.inl (.inl rfl))).below hal
    have hx7 := (hp2.cel HX4.out (.inr rfl)).below hal
    have hyo7 := hyo.below hal
    have hxo7 := (HXv.out.same (fun k hb => hp2.keep k (.inl (.inr hb)))).below hal
    clear hp hp2 hal HTk hy0 hyo HC4 HX4
    go_upto_region 8 with fail
    generalize W6.alloc (.cells #[.int .i64 y.l.kind, .int .i64 y.l.src, .int .i64 y.l.dst, .int .i64 y.l.txn, .int .i64 y.l.ts, .int .i64 y.l.code, .string y.l.text, .slice y.A y.l.keys.length y.c, .slice y.B y.l.ws.length y.d] 35) = W7 at hY6 hns7 hc7 hx7 hyo7 hxo7 ⊢
    generalize W6.heap.size = q2 at hY6 ⊢
    have k0 := hc7.cell (i := 0) rfl
    have k1 := hc7.cell (i := 1) rfl
    have k2 := hc7.cell (i := 2) rfl
    have k3 := hc7.cell (i := 3) rfl
    have k4 := hc7.cell (i := 4) rfl
    have k5 := hc7.cell (i := 5) rfl
    have k6 := hc7.cell (i := 6) rfl
    have k7 := hc7.cell (i := 7) rfl
    have k8 := hc7.cell (i := 8) rfl
    have x0 := hx7.cell (i := 0) rfl
    have x1 := hx7.cell (i := 1) rfl
    have x2 := hx7.cell (i := 2) rfl
    have x3 := hx7.cell (i := 3) rfl
    have x4 := hx7.cell (i := 4) rfl
    have x5 := hx7.cell (i := 5) rfl
    have x6 := hx7.cell (i := 6) rfl
    have x7 := hx7.cell (i := 7) rfl
    have x8 := hx7.cell (i := 8) rfl
    have y0 := hY6.cell (i := 0) rfl
    have y1 := hY6.cell (i := 1) rfl
    have y2 := hY6.cell (i := 2) rfl
    have y3 := hY6.cell (i := 3) rfl
    have y4 := hY6.cell (i := 4) rfl
    have y5 := hY6.cell (i := 5) rfl
    have y6 := hY6.cell (i := 6) rfl
    have y7 := hY6.cell (i := 7) rfl
    have y8 := hY6.cell (i := 8) rfl
    have hvw := HV.out.below hns7.bel
    have HS1 := Lib.hid (fun V (hb : Below W7.heap.size W7 V) => sameLet_any x.A x.B A B x.c x.d c d x.l l0 V (hxo7.below hb).val.ks (hxo7.below hb).val.ws (hvw.below hb).ks (hvw.below hb).ws (by have := hxo7.rng.k16; unfold reachBytes at this; omega) (by have := hxo7.rng.w16; unfold reachBytes at this; omega))
    have HS2 := Lib.hid (fun V (hb : Below W7.heap.size W7 V) => sameLet_any y.A y.B A B y.c y.d c d y.l l0 V (hyo7.below hb).val.ks (hyo7.below hb).val.ws (hvw.below hb).ks (hvw.below hb).ws (by have := hyo7.rng.k16; unfold reachBytes at this; omega) (by have := hyo7.rng.w16; unfold reachBytes at this; omega))
    rw [sameB_true HX0.out] at HS1
    rw [sameB_true HY0.out] at HS2
    unfold letV at HS1 HS2
    have HNs7 := Lib.hid hns7
    have HCs := Lib.hid (fun V (hb : Below W7.heap.size W7 V) => And.intro (hc7.below hb) (hY6.below hb))
    clear hns7 hc7 hx7 hY6 hyo7 hxo7 hvw
    go_wp2_with fail
    refine (HS1.out _ (Below.refl _ _)).mono ?_
    rintro e W8 ⟨rfl, hb8⟩
    have hq8 := HCs.out _ hb8
    clear k0 k1 k2 k3 k4 k5 k6 k7 k8 x0 x1 x2 x3 x4 x5 x6 x7 x8 y0 y1 y2 y3 y4 y5 y6 y7 y8
    have k0 := hq8.1.cell (i := 0) rfl
    have k1 := hq8.1.cell (i := 1) rfl
    have k2 := hq8.1.cell (i := 2) rfl
    have k3 := hq8.1.cell (i := 3) rfl
    have k4 := hq8.1.cell (i := 4) rfl
    have k5 := hq8.1.cell (i := 5) rfl
    have k6 := hq8.1.cell (i := 6) rfl
    have k7 := hq8.1.cell (i := 7) rfl
    have k8 := hq8.1.cell (i := 8) rfl
    have y0 := hq8.2.cell (i := 0) rfl
    have y1 := hq8.2.cell (i := 1) rfl
    have y2 := hq8.2.cell (i := 2) rfl
    have y3 := hq8.2.cell (i := 3) rfl
    have y4 := hq8.2.cell (i := 4) rfl
    have y5 := hq8.2.cell (i := 5) rfl
    have y6 := hq8.2.cell (i := 6) rfl
    have y7 := hq8.2.cell (i := 7) rfl
    have y8 := hq8.2.cell (i := 8) rfl
    have HB8 := Lib.hid hb8
    clear hq8 hb8 HCs HS1
    go_wp2_with fail
    refine (HS2.out _ HB8.out).mono ?_
    rintro e W9 ⟨rfl, hb9⟩
    have HNs9 := Lib.hid ((HNs7.out.below HB8.out).below hb9)
    clear k0 k1 k2 k3 k4 k5 k6 k7 k8 y0 y1 y2 y3 y4 y5 y6 y7 y8 HB8 hb9 HS2 HNs7

    have HDe := Lib.hid (fun V => ldecodeAll s V hs15)
    rcases decX_cases s with ⟨m, -, -, hdx⟩ | ⟨-, hdx⟩
    case inl =>
      simp only [hdx] at HDe
      unfold letV at HDe
      go_wp2_with fail
      refine (HDe.out _).mono ?_
      rintro e W10 ⟨A2, B2, c2, d2, rfl, -, hb⟩
      have hal := (Below.refl W10.heap.size W10).alloc (Nat.le_refl _) (.cells #[.int .i64 m.kind, .int .i64 m.src, .int .i64 m.dst, .int .i64 m.txn, .int .i64 m.ts, .int .i64 m.code, .string m.text, .slice A2 m.keys.length c2, .slice B2 m.ws.length d2] 35)
      have hns11 := (HNs9.out.below hb).below hal
      clear hb hal HDe HNs9
      go_upto_region 11 with fail
      generalize W10.alloc (.cells #[.int .i64 m.kind, .int .i64 m.src, .int .i64 m.dst, .int .i64 m.txn, .int .i64 m.ts, .int .i64 m.code, .string m.text, .slice A2 m.keys.length c2, .slice B2 m.ws.length d2] 35) = W11 at hns11 ⊢
      have hin := ns_inject hns11 s hs15
      rw [inj_ok hdx (by simp)] at hin
      have HIn := Lib.hid hin
      unfold letV at HIn
      clear hin hns11 hdx
      go_wp2_with fail
      refine HIn.out.mono ?_
      rintro e W12 ⟨z, rfl, hz0, hzo, hp, hpx⟩
      have hal := (Below.refl W12.heap.size W12).alloc (Nat.le_refl _) (.cells #[.int .i64 z.l.kind, .int .i64 z.l.src, .int .i64 z.l.dst, .int .i64 z.l.txn, .int .i64 z.l.ts, .int .i64 z.l.code, .string z.l.text, .slice z.A z.l.keys.length z.c, .slice z.B z.l.ws.length z.d] 35)
      have hns13 := hp.toNS.below hal
      clear hp hpx hal HIn hz0 hzo
      go_upto_region 12 with fail
      generalize W12.alloc (.cells #[.int .i64 z.l.kind, .int .i64 z.l.src, .int .i64 z.l.dst, .int .i64 z.l.txn, .int .i64 z.l.ts, .int .i64 z.l.code, .string z.l.text, .slice z.A z.l.keys.length z.c, .slice z.B z.l.ws.length z.d] 35) = W13 at hns13 ⊢
      have HLn := Lib.hid (ns_len hns13)
      have HBl := Lib.hid hns13.bel
      clear hns13
      go_wp2_with fail
      refine HLn.out.mono ?_
      rintro e W14 ⟨rfl, rfl⟩
      go_wp2_with fail
      go_ret
      exact ⟨rfl, HBl.out⟩
    case inr =>
      obtain ⟨m, hm⟩ : ∃ m, noLet = m := ⟨_, rfl⟩
      simp only [hdx, hm] at HDe
      unfold letV at HDe
      go_wp2_with fail
      refine (HDe.out _).mono ?_
      rintro e W10 ⟨A2, B2, c2, d2, rfl, -, hb⟩
      have hal := (Below.refl W10.heap.size W10).alloc (Nat.le_refl _) (.cells #[.int .i64 m.kind, .int .i64 m.src, .int .i64 m.dst, .int .i64 m.txn, .int .i64 m.ts, .int .i64 m.code, .string m.text, .slice A2 m.keys.length c2, .slice B2 m.ws.length d2] 35)
      have hns11 := (HNs9.out.below hb).below hal
      clear hb hal HDe HNs9
      go_upto_region 11 with fail
      generalize W10.alloc (.cells #[.int .i64 m.kind, .int .i64 m.src, .int .i64 m.dst, .int .i64 m.txn, .int .i64 m.ts, .int .i64 m.code, .string m.text, .slice A2 m.keys.length c2, .slice B2 m.ws.length d2] 35) = W11 at hns11 ⊢
      have hin := ns_inject hns11 s hs15
      rw [inj_no hdx] at hin
      have HIn := Lib.hid hin
      unfold letV at HIn
      clear hin hns11 hdx
      go_wp2_with fail
      refine HIn.out.mono ?_
      rintro e W12 ⟨z, rfl, hz0, hzo, hp, hpx⟩
      have hal := (Below.refl W12.heap.size W12).alloc (Nat.le_refl _) (.cells #[.int .i64 z.l.kind, .int .i64 z.l.src, .int .i64 z.l.dst, .int .i64 z.l.txn, .int .i64 z.l.ts, .int .i64 z.l.code, .string z.l.text, .slice z.A z.l.keys.length z.c, .slice z.B z.l.ws.length z.d] 35)
      have hns13 := hp.toNS.below hal
      clear hp hpx hal HIn hz0 hzo
      go_upto_region 12 with fail
      generalize W12.alloc (.cells #[.int .i64 z.l.kind, .int .i64 z.l.src, .int .i64 z.l.dst, .int .i64 z.l.txn, .int .i64 z.l.ts, .int .i64 z.l.code, .string z.l.text, .slice z.A z.l.keys.length z.c, .slice z.B z.l.ws.length z.d] 35) = W13 at hns13 ⊢
      have HLn := Lib.hid (ns_len hns13)
      have HBl := Lib.hid hns13.bel
      clear hns13
      go_wp2_with fail
      refine HLn.out.mono ?_
      rintro e W14 ⟨rfl, rfl⟩
      go_wp2_with fail
      go_ret
      exact ⟨rfl, HBl.out⟩
  rw [encV_bad hok] at hen
  have HEn := Lib.hid hen
  clear hen
  go_wp2_with fail
  refine HEn.out.mono ?_
  rintro e W3 ⟨rfl, hb⟩
  have HNs9 := Lib.hid (HNs2.out.below hb)
  clear hb HNs2 HC2 HEn k0 k1 k2 k3 k4 k5 k6 k7 k8

  have HDe := Lib.hid (fun V => ldecodeAll s V hs15)
  rcases decX_cases s with ⟨m, -, -, hdx⟩ | ⟨-, hdx⟩
  case inl =>
    simp only [hdx] at HDe
    unfold letV at HDe
    go_wp2_with fail
    refine (HDe.out _).mono ?_
    rintro e W10 ⟨A2, B2, c2, d2, rfl, -, hb⟩
    have hal := (Below.refl W10.heap.size W10).alloc (Nat.le_refl _) (.cells #[.int .i64 m.kind, .int .i64 m.src, .int .i64 m.dst, .int .i64 m.txn, .int .i64 m.ts, .int .i64 m.code, .string m.text, .slice A2 m.keys.length c2, .slice B2 m.ws.length d2] 35)
    have hns11 := (HNs9.out.below hb).below hal
    clear hb hal HDe HNs9
    go_upto_region 11 with fail
    generalize W10.alloc (.cells #[.int .i64 m.kind, .int .i64 m.src, .int .i64 m.dst, .int .i64 m.txn, .int .i64 m.ts, .int .i64 m.code, .string m.text, .slice A2 m.keys.length c2, .slice B2 m.ws.length d2] 35) = W11 at hns11 ⊢
    have hin := ns_inject hns11 s hs15
    rw [inj_ok hdx (by simp)] at hin
    have HIn := Lib.hid hin
    unfold letV at HIn
    clear hin hns11 hdx
    go_wp2_with fail
    refine HIn.out.mono ?_
    rintro e W12 ⟨z, rfl, hz0, hzo, hp, hpx⟩
    have hal := (Below.refl W12.heap.size W12).alloc (Nat.le_refl _) (.cells #[.int .i64 z.l.kind, .int .i64 z.l.src, .int .i64 z.l.dst, .int .i64 z.l.txn, .int .i64 z.l.ts, .int .i64 z.l.code, .string z.l.text, .slice z.A z.l.keys.length z.c, .slice z.B z.l.ws.length z.d] 35)
    have hns13 := hp.toNS.below hal
    clear hp hpx hal HIn hz0 hzo
    go_upto_region 12 with fail
    generalize W12.alloc (.cells #[.int .i64 z.l.kind, .int .i64 z.l.src, .int .i64 z.l.dst, .int .i64 z.l.txn, .int .i64 z.l.ts, .int .i64 z.l.code, .string z.l.text, .slice z.A z.l.keys.length z.c, .slice z.B z.l.ws.length z.d] 35) = W13 at hns13 ⊢
    have HLn := Lib.hid (ns_len hns13)
    have HBl := Lib.hid hns13.bel
    clear hns13
    go_wp2_with fail
    refine HLn.out.mono ?_
    rintro e W14 ⟨rfl, rfl⟩
    go_wp2_with fail
    go_ret
    exact ⟨rfl, HBl.out⟩
  case inr =>
    obtain ⟨m, hm⟩ : ∃ m, noLet = m := ⟨_, rfl⟩
    simp only [hdx, hm] at HDe
    unfold letV at HDe
    go_wp2_with fail
    refine (HDe.out _).mono ?_
    rintro e W10 ⟨A2, B2, c2, d2, rfl, -, hb⟩
    have hal := (Below.refl W10.heap.size W10).alloc (Nat.le_refl _) (.cells #[.int .i64 m.kind, .int .i64 m.src, .int .i64 m.dst, .int .i64 m.txn, .int .i64 m.ts, .int .i64 m.code, .string m.text, .slice A2 m.keys.length c2, .slice B2 m.ws.length d2] 35)
    have hns11 := (HNs9.out.below hb).below hal
    clear hb hal HDe HNs9
    go_upto_region 11 with fail
    generalize W10.alloc (.cells #[.int .i64 m.kind, .int .i64 m.src, .int .i64 m.dst, .int .i64 m.txn, .int .i64 m.ts, .int .i64 m.code, .string m.text, .slice A2 m.keys.length c2, .slice B2 m.ws.length d2] 35) = W11 at hns11 ⊢
    have hin := ns_inject hns11 s hs15
    rw [inj_no hdx] at hin
    have HIn := Lib.hid hin
    unfold letV at HIn
    clear hin hns11 hdx
    go_wp2_with fail
    refine HIn.out.mono ?_
    rintro e W12 ⟨z, rfl, hz0, hzo, hp, hpx⟩
    have hal := (Below.refl W12.heap.size W12).alloc (Nat.le_refl _) (.cells #[.int .i64 z.l.kind, .int .i64 z.l.src, .int .i64 z.l.dst, .int .i64 z.l.txn, .int .i64 z.l.ts, .int .i64 z.l.code, .string z.l.text, .slice z.A z.l.keys.length z.c, .slice z.B z.l.ws.length z.d] 35)
    have hns13 := hp.toNS.below hal
    clear hp hpx hal HIn hz0 hzo
    go_upto_region 12 with fail
    generalize W12.alloc (.cells #[.int .i64 z.l.kind, .int .i64 z.l.src, .int .i64 z.l.dst, .int .i64 z.l.txn, .int .i64 z.l.ts, .int .i64 z.l.code, .string z.l.text, .slice z.A z.l.keys.length z.c, .slice z.B z.l.ws.length z.d] 35) = W13 at hns13 ⊢
    have HLn := Lib.hid (ns_len hns13)
    have HBl := Lib.hid hns13.bel
    clear hns13
    go_wp2_with fail
    refine HLn.out.mono ?_
    rintro e W14 ⟨rfl, rfl⟩
    go_wp2_with fail
    go_ret
    exact ⟨rfl, HBl.out⟩

end Nt
end Go.Proofs.Ytkpcfakfkcghdaa
