/- The net in a law: the chapter's example; no condition. -/
import Derived.Test.YtkpcfakfkcghdaaNtLaw
namespace Go.Proofs.Ytkpcfakfkcghdaa
namespace Nt
open Go.RowKit Bk Lt
set_option linter.unusedVariables false

attribute [local go_sem ↓] Go.wp_at_zero Go.wp_at_succ
attribute [local go_sem] floatUpon pick

theorem send_ok {room : Int} {l : List Let} {m : Let} (h : LetOk m) (hl : (l.length : Int) < room) : sendL room l m = (l ++ [m], 0) := by
  unfold sendL putL; rw [if_pos h, if_pos hl]
theorem send_full {room : Int} {l : List Let} {m : Let} (h : LetOk m) (hl : room ≤ (l.length : Int)) : sendL room l m = (l, 150) := by
  unfold sendL putL; rw [if_pos h, if_neg (by omega)]

/-- plain letters of the transactions 1 to j -/
def plS (j : Nat) : List Let := (List.range j).map fun i : Nat => plL ((i : Int) + 1) 0
theorem plS_len (j : Nat) : (plS j).length = j := by simp [plS]
theorem plS_succ (j : Nat) : plS (j + 1) = plS j ++ [plL ((j : Int) + 1) 0] := by unfold plS; rw [List.range_succ, List.map_append]; rfl

set_option maxRecDepth 20000 in
set_option maxHeartbeats 8000000 in
theorem works_any (w : World) : Calls Try.prog 10 #[] w fun e w' => e = .returned (.bool true) ∧ Below w.heap.size w w' := by
  have HN := Lib.hid (ns_new (w0 := w) (wr := w) 5 (Below.refl _ _) (by omega) (by omega))
  go_enter Try.func10, Try.ntmps10
  go_wp2_with fail
  refine HN.out.mono ?_
  rintro e W1 ⟨rfl, hs⟩
  have HS := Lib.hid hs
  clear hs HN
  go_wp2_with fail
  go_loopw [3] (fun iv wr => ∃ j : Nat, j ≤ 3 ∧ iv = .int .i64 ((j : Int) + 1) ∧ Hid (NS w wr (fun _ => False) w.heap.size 5 (plS j))) (fun iv _ => 4 - (RowKit.intOf iv).toNat)
  case atStart => exact ⟨0, by omega, rfl, HS⟩
  case round =>
    obtain ⟨j, hj, rfl, hs⟩ := hrel
    clear HS
    by_cases hlt : j < 3
    · have pj : (j : Int) + 1 ≤ 3 := by omega
      have HPl := Lib.hid (fun V => plain_any ((j : Int) + 1) 0 V)
      unfold letV at HPl
      go_wp2_with fail
      refine (HPl.out _).mono ?_
      rintro e W2 ⟨rfl, hb2⟩
      have hs2 := hs.out.below hb2
      have hok : LetOk (plL ((j : Int) + 1) 0) := plL_ok (by omega) (by omega) (by omega) (by omega)
      have hsn := ns_send hs2 (plI ((j : Int) + 1) 0) (plI_own _ (by omega) (by omega) (by omega) (by omega))
      rw [show (plI ((j : Int) + 1) 0).l = plL ((j : Int) + 1) 0 from rfl, send_ok hok (by rw [plS_len]; omega), ← plS_succ] at hsn
      have HSn := Lib.hid hsn
      unfold letV at HSn
      clear hs hs2 hsn hb2 hok
      go_wp2_with fail
      refine HSn.out.mono ?_
      rintro e W3 ⟨rfl, hp⟩
      have HS3 := Lib.hid hp.toNS
      clear hp HSn
      go_wp2_with fail
      go_roundw
      case rel => exact ⟨j + 1, by omega, by go_num, HS3⟩
      case measure => simp [RowKit.intOf]; omega
    · obtain rfl : j = 3 := by omega
      have e3 : plS 3 = [plL 1 0, plL 2 0, plL 3 0] := rfl
      rw [e3] at hs
      have ht := ns_take hs.out (by simp) 4
      have ea : amongV 4 [plL 1 0, plL 2 0, plL 3 0].length = 1 := by decide
      rw [ea] at ht
      have HT := Lib.hid ht
      unfold letV at HT
      clear ht hs e3 ea
      go_wp2_with fail
      refine HT.out.mono ?_
      rintro e W2 ⟨x, rfl, hx, -, hp⟩
      have hxt : Hid (x.l.txn = 2) := Lib.hid (by rw [hx]; rfl)
      have hal := (Below.refl W2.heap.size W2).alloc (Nat.le_refl _) (.cells #[.int .i64 x.l.kind, .int .i64 x.l.src, .int .i64 x.l.dst, .int .i64 x.l.txn, .int .i64 x.l.ts, .int .i64 x.l.code, .string x.l.text, .slice x.A x.l.keys.length x.c, .slice x.B x.l.ws.length x.d] 35)
      have hX : Cel (W2.alloc (.cells #[.int .i64 x.l.kind, .int .i64 x.l.src, .int .i64 x.l.dst, .int .i64 x.l.txn, .int .i64 x.l.ts, .int .i64 x.l.code, .string x.l.text, .slice x.A x.l.keys.length x.c, .slice x.B x.l.ws.length x.d] 35)) W2.heap.size 35 (lcs x) := (blk1 W2 _).2
      have hs3 := hp.toNS.new (M' := fun k => k = W2.heap.size) hal (fun k hk => .inr (by subst hk; exact ⟨Nat.le_refl _, hX.lt⟩))
      clear hp hal HT hx
      go_upto_region 10 with fail
      generalize W2.alloc (.cells #[.int .i64 x.l.kind, .int .i64 x.l.src, .int .i64 x.l.dst, .int .i64 x.l.txn, .int .i64 x.l.ts, .int .i64 x.l.code, .string x.l.text, .slice x.A x.l.keys.length x.c, .slice x.B x.l.ws.length x.d] 35) = W3 at hX hs3 ⊢
      generalize W2.heap.size = q at hX hs3 ⊢
      have e4 : [plL 1 0, plL 2 0, plL 3 0].eraseIdx 1 = [plL 1 0, plL 3 0] := rfl
      rw [e4] at hs3
      have ht := ns_take hs3 (by simp) (-1)
      have ea : amongV (-1) [plL 1 0, plL 3 0].length = 1 := by decide
      rw [ea] at ht
      have HT := Lib.hid ht
      have HX := Lib.hid hX
      unfold letV at HT
      clear ht hs3 ea e4 hX
      go_wp2_with fail
      refine HT.out.mono ?_
      rintro e W4 ⟨y, rfl, hy, -, hp⟩
      have hyt : Hid (y.l.txn = 3) := Lib.hid (by rw [hy]; rfl)
      have hX4 := hp.cel HX.out rfl
      have hal := (Below.refl W4.heap.size W4).alloc (Nat.le_refl _) (.cells #[.int .i64 y.l.kind, .int .i64 y.l.src, .int .i64 y.l.dst, .int .i64 y.l.txn, .int .i64 y.l.ts, .int .i64 y.l.code, .string y.l.text, .slice y.A y.l.keys.length y.c, .slice y.B y.l.ws.length y.d] 35)
      have hY : Cel (W4.alloc (.cells #[.int .i64 y.l.kind, .int .i64 y.l.src, .int .i64 y.l.dst, .int .i64 y.l.txn, .int .i64 y.l.ts, .int .i64 y.l.code, .string y.l.text, .slice y.A y.l.keys.length y.c, .slice y.B y.l.ws.length y.d] 35)) W4.heap.size 35 (lcs y) := (blk1 W4 _).2
      have hs5 := hp.toNS.below hal
      have hX5 := hX4.below hal
      clear hp hal HT hy hX4 HX
      go_upto_region 11 with fail
      generalize W4.alloc (.cells #[.int .i64 y.l.kind, .int .i64 y.l.src, .int .i64 y.l.dst, .int .i64 y.l.txn, .int .i64 y.l.ts, .int .i64 y.l.code, .string y.l.text, .slice y.A y.l.keys.length y.c, .slice y.B y.l.ws.length y.d] 35) = W5 at hX5 hY hs5 ⊢
      generalize W4.heap.size = q2 at hY ⊢
      have x3 := hX5.cell (i := 3) rfl
      have y3 := hY.cell (i := 3) rfl
      rw [hxt.out] at x3
      rw [hyt.out] at y3
      have HL := Lib.hid (ns_len hs5)
      have HB := Lib.hid hs5.bel
      clear hs5 hX5 hY hxt hyt
      go_wp2_with fail
      refine HL.out.mono ?_
      rintro e W6 ⟨rfl, rfl⟩
      go_wp2_with fail
      go_ret
      exact ⟨rfl, HB.out⟩

end Nt
end Go.Proofs.Ytkpcfakfkcghdaa
