/- One call of both nets: Send; no condition but the ranges. -/
import Derived.Test.YtkpcfakfkcghdaaNtPl2
namespace Go.Proofs.Ytkpcfakfkcghdaa
namespace Nt
open Go.RowKit Bk Lt
set_option linter.unusedVariables false

attribute [local go_sem ↓] Go.wp_at_zero Go.wp_at_succ
attribute [local go_sem] floatUpon pick

set_option maxRecDepth 20000 in
set_option maxHeartbeats 8000000 in
theorem step0_any {w0 W : World} {g b : Nat} {room : Int} {l : List Let} (a : AI) (h : TM w0 W (fun _ => False) g b room l l) (ha : ActRng w0 a) (hk : amongV a.k 6 = 0) :
    Calls Try.prog 11 #[.pointer (some ⟨g, 0, none⟩), .pointer (some ⟨b, 0, none⟩), actV a] W fun e w' => e = .returned (.bool true) ∧ ∃ l', TM w0 w' (fun _ => False) g b room l' l' := by
  have HA : Hid (∀ V : World, Calls Try.prog 13 #[.int .i64 a.k, .int .i64 6] V fun e w' => e = .returned (.int .i64 0) ∧ w' = V) := Lib.hid (fun V => by
    have h1 := among_any a.k 6 V (by omega) (by omega)
    rw [hk] at h1
    exact h1)
  have HR := Lib.hid ha
  have HH := Lib.hid h
  clear hk h ha
  unfold actV
  go_enter Try.func11, Try.ntmps11
  go_upto_region 1 with fail
  have hC : Cel (W.alloc (.cells #[.int .i64 a.k, .int .i64 a.n, .int .i64 a.x.l.kind, .int .i64 a.x.l.src, .int .i64 a.x.l.dst, .int .i64 a.x.l.txn, .int .i64 a.x.l.ts, .int .i64 a.x.l.code, .string a.x.l.text, .slice a.x.A a.x.l.keys.length a.x.c, .slice a.x.B a.x.l.ws.length a.x.d, .string a.text] 37)) W.heap.size 37 (acs a) := (blk1 W _).2
  have hal := (Below.refl W.heap.size W).alloc (Nat.le_refl _) (.cells #[.int .i64 a.k, .int .i64 a.n, .int .i64 a.x.l.kind, .int .i64 a.x.l.src, .int .i64 a.x.l.dst, .int .i64 a.x.l.txn, .int .i64 a.x.l.ts, .int .i64 a.x.l.code, .string a.x.l.text, .slice a.x.A a.x.l.keys.length a.x.c, .slice a.x.B a.x.l.ws.length a.x.d, .string a.text] 37)
  have hT := HH.out.box hal rfl hC.lt
  have hax := HR.out.x.below HH.out.bel
  have hax := hax.below hal
  generalize W.alloc (.cells #[.int .i64 a.k, .int .i64 a.n, .int .i64 a.x.l.kind, .int .i64 a.x.l.src, .int .i64 a.x.l.dst, .int .i64 a.x.l.txn, .int .i64 a.x.l.ts, .int .i64 a.x.l.code, .string a.x.l.text, .slice a.x.A a.x.l.keys.length a.x.c, .slice a.x.B a.x.l.ws.length a.x.d, .string a.text] 37) = W1 at hC hal hT hax ⊢
  generalize W.heap.size = b0 at hC hT ⊢
  have c0 := hC.cell (i := 0) rfl
  have HC := Lib.hid hC
  have HT := Lib.hid hT
  have HX := Lib.hid hax
  clear hC hal hT hax HH
  have d0 := HC.out.cell (i := 2) rfl
  have d1 := HC.out.cell (i := 3) rfl
  have d2 := HC.out.cell (i := 4) rfl
  have d3 := HC.out.cell (i := 5) rfl
  have d4 := HC.out.cell (i := 6) rfl
  have d5 := HC.out.cell (i := 7) rfl
  have d6 := HC.out.cell (i := 8) rfl
  have d7 := HC.out.cell (i := 9) rfl
  have d8 := HC.out.cell (i := 10) rfl
  have hb0 := HC.out.lt
  have HCp := Lib.hid (copyB_any a.x.A a.x.B a.x.c a.x.d a.x.l W1 HX.out (by have := HR.out.w40; unfold reachBytes at this; omega))
  unfold letV at HCp
  go_wp2_with fail
  refine (HA.out _).mono ?_
  rintro e W2 ⟨rfl, rfl⟩
  clear HA
  go_wp2_with fail
  refine HCp.out.mono ?_
  rintro e W3 ⟨x, rfl, hx0, hxo, hb⟩
  have hx := Lib.hid hx0
  have HN : Hid (∀ k, Lb x k → k ≠ b0) := Lib.hid (fun k hk => by have := (hxo.lt hk).2; omega)
  have ht3 := HT.out.new (M' := fun k => (False ∨ k = b0) ∨ Lb x k) hb (fun k hk => hk.elim .inl (fun h2 => .inr ⟨(hxo.lt h2).2, (hxo.lt h2).1⟩))
  have hC3 := HC.out.below hb
  have hxo3 := hxo.mono (Nat.zero_le _)
  clear hx0 hxo hb hb0 HCp HT HC HX c0 d0 d1 d2 d3 d4 d5 d6 d7 d8
  go_upto_region 4 with fail
  have hX : Cel (W3.alloc (.cells #[.int .i64 x.l.kind, .int .i64 x.l.src, .int .i64 x.l.dst, .int .i64 x.l.txn, .int .i64 x.l.ts, .int .i64 x.l.code, .string x.l.text, .slice x.A x.l.keys.length x.c, .slice x.B x.l.ws.length x.d] 35)) W3.heap.size 35 (lcs x) := (blk1 W3 _).2
  have hal := (Below.refl W3.heap.size W3).alloc (Nat.le_refl _) (.cells #[.int .i64 x.l.kind, .int .i64 x.l.src, .int .i64 x.l.dst, .int .i64 x.l.txn, .int .i64 x.l.ts, .int .i64 x.l.code, .string x.l.text, .slice x.A x.l.keys.length x.c, .slice x.B x.l.ws.length x.d] 35)
  have ht4 := ht3.box hal rfl hX.lt
  have hC4 := hC3.below hal
  have hxo4 := hxo3.below hal
  clear ht3 hC3 hxo3
  generalize W3.alloc (.cells #[.int .i64 x.l.kind, .int .i64 x.l.src, .int .i64 x.l.dst, .int .i64 x.l.txn, .int .i64 x.l.ts, .int .i64 x.l.code, .string x.l.text, .slice x.A x.l.keys.length x.c, .slice x.B x.l.ws.length x.d] 35) = W4 at hX hal ht4 hC4 hxo4 ⊢
  generalize W3.heap.size = p at hX ht4 ⊢
  have m0 := hX.cell (i := 0) rfl
  have m1 := hX.cell (i := 1) rfl
  have m2 := hX.cell (i := 2) rfl
  have m3 := hX.cell (i := 3) rfl
  have m4 := hX.cell (i := 4) rfl
  have m5 := hX.cell (i := 5) rfl
  have m6 := hX.cell (i := 6) rfl
  have m7 := hX.cell (i := 7) rfl
  have m8 := hX.cell (i := 8) rfl
  have HSn := Lib.hid (lp_send ht4 x hxo4 hx.out)
  unfold letV at HSn
  have HX4 := Lib.hid (And.intro hX (And.intro hC4 hxo4))
  clear hX hC4 hxo4 ht4 hal
  go_wp2_with fail
  refine HSn.out.mono ?_
  rintro e W5 ⟨ec, rfl, hec, hp⟩
  have hX5 := hp.out.cel HX4.out.1 (.inr rfl)
  have hC5 := hp.out.cel HX4.out.2.1 (.inl (.inl (.inr rfl)))
  have hxo5 := hp.out.lown HX4.out.2.2 (fun k hk => .inl (.inr hk))
  have hax5 := HR.out.x.below hp.out.bel
  have HT5 := Lib.hid hp.out.toTM
  clear hp HX4 HSn m0 m1 m2 m3 m4 m5 m6 m7 m8
  have m0 := hX5.cell (i := 0) rfl
  have m1 := hX5.cell (i := 1) rfl
  have m2 := hX5.cell (i := 2) rfl
  have m3 := hX5.cell (i := 3) rfl
  have m4 := hX5.cell (i := 4) rfl
  have m5 := hX5.cell (i := 5) rfl
  have m6 := hX5.cell (i := 6) rfl
  have m7 := hX5.cell (i := 7) rfl
  have m8 := hX5.cell (i := 8) rfl
  have d0 := hC5.cell (i := 2) rfl
  have d1 := hC5.cell (i := 3) rfl
  have d2 := hC5.cell (i := 4) rfl
  have d3 := hC5.cell (i := 5) rfl
  have d4 := hC5.cell (i := 6) rfl
  have d5 := hC5.cell (i := 7) rfl
  have d6 := hC5.cell (i := 8) rfl
  have d7 := hC5.cell (i := 9) rfl
  have d8 := hC5.cell (i := 10) rfl
  have HS := Lib.hid (same_of (y := a.x) hxo5.val hax5 hx.out)
  unfold letV at HS
  have HX5 := Lib.hid (And.intro hX5 (And.intro hC5 hxo5))
  clear hX5 hC5 hxo5 hax5
  go_wp2_with fail
  refine HS.out.mono ?_
  rintro e W6 ⟨rfl, hb⟩
  have hX6 := HX5.out.1.below hb
  have hC6 := HX5.out.2.1.below hb
  have hxo6 := HX5.out.2.2.below hb
  have HT6 := Lib.hid (HT5.out.below hb)
  clear m0 m1 m2 m3 m4 m5 m6 m7 m8 d0 d1 d2 d3 d4 d5 d6 d7 d8 HS HX5 HT5 hb
  have m0 := hX6.cell (i := 0) rfl
  have m1 := hX6.cell (i := 1) rfl
  have m2 := hX6.cell (i := 2) rfl
  have m3 := hX6.cell (i := 3) rfl
  have m4 := hX6.cell (i := 4) rfl
  have m5 := hX6.cell (i := 5) rfl
  have m6 := hX6.cell (i := 6) rfl
  have m7 := hX6.cell (i := 7) rfl
  have m8 := hX6.cell (i := 8) rfl
  have HSp := Lib.hid (spoilL_any x W6 hxo6)
  unfold letV at HSp
  have HC6 := Lib.hid hC6
  clear hX6 hC6 hxo6
  go_wp2_with fail
  refine HSp.out.mono ?_
  rintro e W7 ⟨rfl, hf⟩
  have hC7 := (hf.block b0 HC6.out.lt (fun hk => HN.out b0 hk rfl)).trans HC6.out
  have hC7 : Cel W7 b0 37 (acs a) := hC7
  have d0 := hC7.cell (i := 2) rfl
  have d1 := hC7.cell (i := 3) rfl
  have d2 := hC7.cell (i := 4) rfl
  have d3 := hC7.cell (i := 5) rfl
  have d4 := hC7.cell (i := 6) rfl
  have d5 := hC7.cell (i := 7) rfl
  have d6 := hC7.cell (i := 8) rfl
  have d7 := hC7.cell (i := 9) rfl
  have d8 := hC7.cell (i := 10) rfl
  have HT7 := Lib.hid (HT6.out.spoilt hf (fun k hk => .inl (.inr hk)))
  have HD := Lib.hid (dp_send HT7.out a.x HR.out.x)
  unfold letV at HD
  clear hf HSp HT6 HC6 hC7 m0 m1 m2 m3 m4 m5 m6 m7 m8
  go_wp2_with fail
  refine HD.out.mono ?_
  rintro e W8 ⟨ed, rfl, hed, hp⟩
  obtain rfl : ed = ec := hed.out.trans hec.out.symm
  have HT8 := Lib.hid hp.out.toTM
  clear hp hed hec HD HT7 d0 d1 d2 d3 d4 d5 d6 d7 d8
  go_wp2_with fail
  go_ret
  exact ⟨rfl, _, HT8.out⟩

end Nt
end Go.Proofs.Ytkpcfakfkcghdaa
