/- One call of both nets: Drop; no condition but the ranges. -/
import Derived.Test.YtkpcfakfkcghdaaNtPl2
namespace Go.Proofs.Ytkpcfakfkcghdaa
namespace Nt
open Go.RowKit Bk Lt
set_option linter.unusedVariables false

attribute [local go_sem ↓] Go.wp_at_zero Go.wp_at_succ
attribute [local go_sem] floatUpon pick

set_option maxRecDepth 20000 in
set_option maxHeartbeats 8000000 in
theorem step2_any {w0 W : World} {g b : Nat} {room : Int} {l : List Let} (a : AI) (h : TM w0 W (fun _ => False) g b room l l) (ha : ActRng w0 a) (hk : amongV a.k 6 = 2) :
    Calls Try.prog 11 #[.pointer (some ⟨g, 0, none⟩), .pointer (some ⟨b, 0, none⟩), actV a] W fun e w' => e = .returned (.bool true) ∧ ∃ l', TM w0 w' (fun _ => False) g b room l' l' := by
  have HA : Hid (∀ V : World, Calls Try.prog 13 #[.int .i64 a.k, .int .i64 6] V fun e w' => e = .returned (.int .i64 2) ∧ w' = V) := Lib.hid (fun V => by
    have h1 := among_any a.k 6 V (by omega) (by omega)
    rw [hk] at h1
    exact h1)
  have HR := Lib.hid ha
  have HH := Lib.hid h
  clear hk h ha
  unfold actV
  go_enter Try.func11, Try.ntmps11
  go_upto_region 1 with fail
  have hC : Cel (W.alloc (.cells #[.int .i64 a.k, .int .i64 a.n, .int .i64 a.x.l.kind, .int .i64 a.x.l.src, .int .i64 a.x.l.dst, .int .i64 a.x.l.txn, .int .i64 a.x.l.ts, .int .i64 a.x.l.code, .string a.x.l.text, .slice a.x.A a.x.l.keys.length a.x.c, .slice a.x.B a.x.l.ws.length a.x.d, .string a.text] 37)) W.heap.size 37 (acs a) := (blk1 W _).2
  have hal := (Below.refl W.heap.size W).alloc (Nat.le_refl _) (.cells #[.int .i64 a.k, .int .i64 a.n, .int .i64 a.x.l.kind, .int .i64 a.x.l.src, .int .i64 a.x.l.dst, .int .i64 a.x.l.txn, .int .i64 a.x.l.ts, .int .i64 a.x.l.code, .string a.x.l.text, .slice a.x.A a.x.l.keys.length a.x.c, .slice a.x.B a.x.l.ws.length a.x.d, .string a.text] 37)
  have hT := HH.out.box hal rfl hC.lt
  have hax := HR.out.x.below HH.out.bel
  have hax := hax.below hal
  generalize W.alloc (.cells #[.int .i64 a.k, .int .i64 a.n, .int .i64 a.x.l.kind, .int .i64 a.x.l.src, .int .i64 a.x.l.dst, .int .i64 a.x.l.txn, .int .i64 a.x.l.ts, .int .i64 a.x.l.code, .string a.x.l.text, .slice a.x.A a.x.l.keys.length a.x.c, .slice a.x.B a.x.l.ws.length a.x.d, .string a.text] 37) = W1 at hC hal hT hax ⊢
  generalize W.heap.size = b0 at hC hT ⊢
  have c0 := hC.cell (i := 0) rfl
  have HC := Lib.hid hC
  have HT := Lib.hid hT
  have HX := Lib.hid hax
  clear hC hal hT hax HH
  have c1 := HC.out.cell (i := 1) rfl
  have HL := Lib.hid (lp_drop HT.out a.n)
  unfold LP letV at HL
  go_wp2_with fail
  refine (HA.out _).mono ?_
  rintro e W2 ⟨rfl, rfl⟩
  clear HA
  go_wp2_with fail
  refine HL.out.mono ?_
  rintro e W3 ⟨x, ec, rfl, hec, hx, hxo, ht, hkp⟩
  have hC3 := (hkp.out b0 (.inr rfl)).trans HC.out
  clear HL HT hkp c0 c1
  go_upto_region 16 with fail
  have hX : Cel (W3.alloc (.cells #[.int .i64 x.l.kind, .int .i64 x.l.src, .int .i64 x.l.dst, .int .i64 x.l.txn, .int .i64 x.l.ts, .int .i64 x.l.code, .string x.l.text, .slice x.A x.l.keys.length x.c, .slice x.B x.l.ws.length x.d] 35)) W3.heap.size 35 (lcs x) := (blk1 W3 _).2
  have hal := (Below.refl W3.heap.size W3).alloc (Nat.le_refl _) (.cells #[.int .i64 x.l.kind, .int .i64 x.l.src, .int .i64 x.l.dst, .int .i64 x.l.txn, .int .i64 x.l.ts, .int .i64 x.l.code, .string x.l.text, .slice x.A x.l.keys.length x.c, .slice x.B x.l.ws.length x.d] 35)
  have ht4 := ht.out.box hal rfl hX.lt
  have hC4 := (show Cel W3 b0 _ (acs a) from hC3).below hal
  have hxo4 := hxo.out.below hal
  clear ht hC3 hxo
  generalize W3.alloc (.cells #[.int .i64 x.l.kind, .int .i64 x.l.src, .int .i64 x.l.dst, .int .i64 x.l.txn, .int .i64 x.l.ts, .int .i64 x.l.code, .string x.l.text, .slice x.A x.l.keys.length x.c, .slice x.B x.l.ws.length x.d] 35) = W4 at hX hal ht4 hC4 hxo4 ⊢
  generalize W3.heap.size = p at hX ht4 ⊢
  have c1 := hC4.cell (i := 1) rfl
  have HD := Lib.hid (dp_take ht4 a.n)
  unfold DP letV at HD
  have HX4 := Lib.hid (And.intro hX (And.intro hC4 hxo4))
  clear hX hC4 hxo4 ht4 hal HC
  go_wp2_with fail
  refine HD.out.mono ?_
  rintro e W5 ⟨y, ed, rfl, hed, hy, hyv, hp⟩
  obtain rfl : ed = ec := hed.out.trans hec.out.symm
  clear HD hed hec c1
  have hX5 := hp.out.cel HX4.out.1 (.inr rfl)
  have hxo5 := hp.out.lown HX4.out.2.2 (fun k hk => .inl (.inr hk))
  go_upto_region 17 with fail
  have hX : Cel (W5.alloc (.cells #[.int .i64 y.l.kind, .int .i64 y.l.src, .int .i64 y.l.dst, .int .i64 y.l.txn, .int .i64 y.l.ts, .int .i64 y.l.code, .string y.l.text, .slice y.A y.l.keys.length y.c, .slice y.B y.l.ws.length y.d] 35)) W5.heap.size 35 (lcs y) := (blk1 W5 _).2
  have hal := (Below.refl W5.heap.size W5).alloc (Nat.le_refl _) (.cells #[.int .i64 y.l.kind, .int .i64 y.l.src, .int .i64 y.l.dst, .int .i64 y.l.txn, .int .i64 y.l.ts, .int .i64 y.l.code, .string y.l.text, .slice y.A y.l.keys.length y.c, .slice y.B y.l.ws.length y.d] 35)
  have hX6 := hX5.below hal
  have hxo6 := hxo5.below hal
  have hyv6 := hyv.out.below hal
  have ht6 := hp.out.toTM.below hal
  clear hp hyv hX5 hxo5 HX4
  have hX := hX
  have hq : Cel (W5.alloc (.cells #[.int .i64 y.l.kind, .int .i64 y.l.src, .int .i64 y.l.dst, .int .i64 y.l.txn, .int .i64 y.l.ts, .int .i64 y.l.code, .string y.l.text, .slice y.A y.l.keys.length y.c, .slice y.B y.l.ws.length y.d] 35)) W5.heap.size 35 (lcs y) := hX
  generalize W5.alloc (.cells #[.int .i64 y.l.kind, .int .i64 y.l.src, .int .i64 y.l.dst, .int .i64 y.l.txn, .int .i64 y.l.ts, .int .i64 y.l.code, .string y.l.text, .slice y.A y.l.keys.length y.c, .slice y.B y.l.ws.length y.d] 35) = W6 at hX hq hal hX6 hxo6 hyv6 ht6 ⊢
  generalize W5.heap.size = q at hq ⊢
  clear hX hal
  have m0 := hX6.cell (i := 0) rfl
  have m1 := hX6.cell (i := 1) rfl
  have m2 := hX6.cell (i := 2) rfl
  have m3 := hX6.cell (i := 3) rfl
  have m4 := hX6.cell (i := 4) rfl
  have m5 := hX6.cell (i := 5) rfl
  have m6 := hX6.cell (i := 6) rfl
  have m7 := hX6.cell (i := 7) rfl
  have m8 := hX6.cell (i := 8) rfl
  have n0 := hq.cell (i := 0) rfl
  have n1 := hq.cell (i := 1) rfl
  have n2 := hq.cell (i := 2) rfl
  have n3 := hq.cell (i := 3) rfl
  have n4 := hq.cell (i := 4) rfl
  have n5 := hq.cell (i := 5) rfl
  have n6 := hq.cell (i := 6) rfl
  have n7 := hq.cell (i := 7) rfl
  have n8 := hq.cell (i := 8) rfl
  have HS := Lib.hid (same_of hxo6.val hyv6 (hx.out.trans hy.out.symm))
  unfold letV at HS
  have HX6 := Lib.hid (And.intro hX6 (And.intro hxo6 ht6))
  clear hX6 hq hxo6 hyv6 ht6 hx hy
  go_wp2_with fail
  refine HS.out.mono ?_
  rintro e W7 ⟨rfl, hb⟩
  have HT8 := Lib.hid ((HX6.out.2.2.below hb).none)
  clear m0 m1 m2 m3 m4 m5 m6 m7 m8 n0 n1 n2 n3 n4 n5 n6 n7 n8 HX6 HS hb
  go_wp2_with fail
  go_ret
  exact ⟨rfl, _, HT8.out⟩

end Nt
end Go.Proofs.Ytkpcfakfkcghdaa
