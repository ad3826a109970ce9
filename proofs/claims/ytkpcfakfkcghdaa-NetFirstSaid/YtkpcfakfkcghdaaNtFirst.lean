/- Letters that are taken from the front come in their order, from the back turned round; no condition but the ranges. -/
import Derived.Test.YtkpcfakfkcghdaaNtWorks
namespace Go.Proofs.Ytkpcfakfkcghdaa
namespace Nt
open Go.RowKit Bk Lt
set_option linter.unusedVariables false

attribute [local go_sem ↓] Go.wp_at_zero Go.wp_at_succ
attribute [local go_sem] floatUpon pick

theorem u64_mod (x : Int) : ∃ m : Nat, m ≤ 49 ∧ wrap64 ((IntKind.u64.wrap x).tmod 50) = (m : Int) := by
  have h1 : 0 ≤ IntKind.u64.wrap x := by
    simp only [IntKind.wrap, IntKind.bits, IntKind.signed]
    simp
    omega
  have h2 := Int.tmod_nonneg (50 : Int) h1
  have h3 := Int.tmod_lt_of_pos (IntKind.u64.wrap x) (show (0 : Int) < 50 by omega)
  refine ⟨((IntKind.u64.wrap x).tmod 50).toNat, by omega, ?_⟩
  rw [IntWalk.wrap64_in _ ⟨by omega, by omega⟩]
  omega

theorem plS_at {m j : Nat} (h : j < m) : (plS m)[j]? = some (plL ((j : Int) + 1) 0) := by
  unfold plS
  rw [List.getElem?_map, List.getElem?_range h]; rfl

/-- what is left behind j takes -/
def rest (back : Bool) (m j : Nat) : List Let := if back then plS (m - j) else (plS m).drop j

theorem rest_front {m j : Nat} (h : j < m) : 1 ≤ (rest false m j).length ∧ (rest false m j).getD (amongV 0 (rest false m j).length) noLet = plL ((j : Int) + 1) 0 ∧ (rest false m j).eraseIdx (amongV 0 (rest false m j).length) = rest false m (j + 1) := by
  have hl : (rest false m j).length = m - j := by simp [rest, plS_len]
  have ha : amongV 0 (rest false m j).length = 0 := by unfold amongV; simp
  rw [ha, hl]
  refine ⟨by omega, ?_, ?_⟩
  · simp only [rest, Bool.false_eq_true, if_false]
    rw [List.getD_eq_getElem?_getD, List.getElem?_drop, Nat.add_zero, plS_at h]; rfl
  · simp only [rest, Bool.false_eq_true, if_false]
    rw [List.eraseIdx_zero, List.tail_drop]

theorem rest_back {m j : Nat} (h : j < m) : 1 ≤ (rest true m j).length ∧ (rest true m j).getD (amongV (-1) (rest true m j).length) noLet = plL ((m : Int) - (j : Int)) 0 ∧ (rest true m j).eraseIdx (amongV (-1) (rest true m j).length) = rest true m (j + 1) := by
  have hl : (rest true m j).length = m - j := by simp [rest, plS_len]
  have ha : amongV (-1) (rest true m j).length = m - (j + 1) := by
    rw [hl]
    have h1 : ((-1 : Int)) % ((m - j : Nat) : Int) = ((m - j : Nat) : Int) - 1 := by
      rw [show (-1 : Int) = (((m - j : Nat) : Int) - 1) - ((m - j : Nat) : Int) by omega, Int.sub_emod_right, Int.emod_eq_of_lt (by omega) (by omega)]
    unfold amongV
    rw [h1]; omega
  rw [ha, hl]
  have e : m - j = (m - (j + 1)) + 1 := by omega
  refine ⟨by omega, ?_, ?_⟩
  · simp only [rest, if_true]
    rw [List.getD_eq_getElem?_getD, plS_at (by omega), Option.getD_some]
    congr 1
    omega
  · simp only [rest, if_true]
    rw [e, plS_succ, List.eraseIdx_append_of_length_le (by rw [plS_len]; exact Nat.le_refl _), plS_len, Nat.sub_self]
    simp

set_option maxRecDepth 20000 in
set_option maxHeartbeats 8000000 in
theorem first_any (many : Int) (back : Bool) (w : World) : Calls Try.prog 7 #[.int .i64 many, .bool back] w fun e w' => e = .returned (.bool true) ∧ Below w.heap.size w w' := by
  have HN := Lib.hid (ns_new (w0 := w) (wr := w) 50 (Below.refl _ _) (by omega) (by omega))
  have HWk := Lib.hid (fun V => works_any V)
  go_enter Try.func7, Try.ntmps7
  go_wp2_with fail
  refine HN.out.mono ?_
  rintro e W1 ⟨rfl, hs⟩
  have HS := Lib.hid hs
  clear hs HN
  go_wp2_with fail
  refine (HWk.out _).mono ?_
  rintro e W2 ⟨rfl, hb⟩
  have HS2 := Lib.hid (HS.out.below hb)
  clear hb HS HWk
  go_upto_region 5 with fail
  obtain ⟨m, hm49, hm⟩ := u64_mod many
  rw [hm]
  clear hm
  generalize IntKind.u64.wrap many = um
  go_wp2_with fail
  go_loopw [32] (fun iv wr => ∃ j : Nat, j ≤ m ∧ iv = .int .i64 (j : Int) ∧ Hid (NS w wr (fun _ => False) w.heap.size 50 (plS j))) (fun iv _ => m - (RowKit.intOf iv).toNat)
  case atStart => exact ⟨0, by omega, rfl, HS2⟩
  case round =>
    obtain ⟨j, hj, rfl, hs⟩ := hrel
    clear HS2
    by_cases hlt : j < m
    · have pj : (j : Int) < (m : Int) := by omega
      have HPl := Lib.hid (fun V => plain_any ((j : Int) + 1) 0 V)
      unfold letV at HPl
      go_wp2_with fail
      refine (HPl.out _).mono ?_
      rintro e W3 ⟨rfl, hb2⟩
      have hs2 := hs.out.below hb2
      have hok : LetOk (plL ((j : Int) + 1) 0) := plL_ok (by omega) (by omega) (by omega) (by omega)
      have hsn := ns_send hs2 (plI ((j : Int) + 1) 0) (plI_own _ (by omega) (by omega) (by omega) (by omega))
      rw [show (plI ((j : Int) + 1) 0).l = plL ((j : Int) + 1) 0 from rfl, send_ok hok (by rw [plS_len]; omega), ← plS_succ] at hsn
      have HSn := Lib.hid hsn
      unfold letV at HSn
      clear hs hs2 hsn hb2 hok
      go_wp2_with fail
      refine HSn.out.mono ?_
      rintro e W4 ⟨rfl, hp⟩
      have HS3 := Lib.hid hp.toNS
      clear hp HSn
      go_wp2_with fail
      go_roundw
      case rel => exact ⟨j + 1, by omega, by go_num, HS3⟩
      case measure => simp [RowKit.intOf]; omega
    obtain rfl : j = m := by omega
    have pj : ¬ (j : Int) < (j : Int) := by omega
    have HS4 : Hid (NS w wr (fun _ => False) w.heap.size 50 (rest back j 0)) := Lib.hid (by cases back <;> exact hs.out)
    clear hs hlt pj
    have pj : ¬ (j : Int) < (j : Int) := by omega
    go_wp2_with fail
    clear pj
    go_loopw [43] (fun iv wr => ∃ i : Nat, i ≤ j ∧ iv = .int .i64 (i : Int) ∧ Hid (NS w wr (fun _ => False) w.heap.size 50 (rest back j i))) (fun iv _ => j - (RowKit.intOf iv).toNat)
    case atStart => exact ⟨0, by omega, rfl, HS4⟩
    case round =>
      obtain ⟨i, hi, rfl, hs⟩ := hrel
      clear HS4
      by_cases hlt : i < j
      · have pj : (i : Int) < (j : Int) := by omega
        cases back with
        | false =>
          obtain ⟨r1, r2, r3⟩ := rest_front hlt
          have ht := ns_take hs.out r1 (0)
          rw [r2, r3] at ht
          have HT := Lib.hid ht
          unfold letV at HT
          clear ht r1 r2 r3 hs
          go_wp2_with fail
          refine HT.out.mono ?_
          rintro e W2 ⟨x, rfl, hx, -, hp⟩
          have hxt : Hid (x.l.txn = (i : Int) + 1) := Lib.hid (by rw [hx]; rfl)
          have hal := (Below.refl W2.heap.size W2).alloc (Nat.le_refl _) (.cells #[.int .i64 x.l.kind, .int .i64 x.l.src, .int .i64 x.l.dst, .int .i64 x.l.txn, .int .i64 x.l.ts, .int .i64 x.l.code, .string x.l.text, .slice x.A x.l.keys.length x.c, .slice x.B x.l.ws.length x.d] 35)
          have hX : Cel (W2.alloc (.cells #[.int .i64 x.l.kind, .int .i64 x.l.src, .int .i64 x.l.dst, .int .i64 x.l.txn, .int .i64 x.l.ts, .int .i64 x.l.code, .string x.l.text, .slice x.A x.l.keys.length x.c, .slice x.B x.l.ws.length x.d] 35)) W2.heap.size 35 (lcs x) := (blk1 W2 _).2
          have hs3 := hp.toNS.below hal
          clear hp hal HT hx
          go_upto_region 18 with fail
          generalize W2.alloc (.cells #[.int .i64 x.l.kind, .int .i64 x.l.src, .int .i64 x.l.dst, .int .i64 x.l.txn, .int .i64 x.l.ts, .int .i64 x.l.code, .string x.l.text, .slice x.A x.l.keys.length x.c, .slice x.B x.l.ws.length x.d] 35) = W3 at hX hs3 ⊢
          generalize W2.heap.size = q at hX ⊢
          have x3 := hX.cell (i := 3) rfl
          rw [hxt.out] at x3
          have HS5 := Lib.hid hs3
          clear hX hs3 hxt
          go_wp2_with fail
          go_roundw
          case rel => exact ⟨i + 1, by omega, by go_num, HS5⟩
          case measure => simp [RowKit.intOf]; omega
        | true =>
          obtain ⟨r1, r2, r3⟩ := rest_back hlt
          have ht := ns_take hs.out r1 (-1)
          rw [r2, r3] at ht
          have HT := Lib.hid ht
          unfold letV at HT
          clear ht r1 r2 r3 hs
          go_wp2_with fail
          refine HT.out.mono ?_
          rintro e W2 ⟨x, rfl, hx, -, hp⟩
          have hxt : Hid (x.l.txn = (j : Int) - (i : Int)) := Lib.hid (by rw [hx]; rfl)
          have hal := (Below.refl W2.heap.size W2).alloc (Nat.le_refl _) (.cells #[.int .i64 x.l.kind, .int .i64 x.l.src, .int .i64 x.l.dst, .int .i64 x.l.txn, .int .i64 x.l.ts, .int .i64 x.l.code, .string x.l.text, .slice x.A x.l.keys.length x.c, .slice x.B x.l.ws.length x.d] 35)
          have hX : Cel (W2.alloc (.cells #[.int .i64 x.l.kind, .int .i64 x.l.src, .int .i64 x.l.dst, .int .i64 x.l.txn, .int .i64 x.l.ts, .int .i64 x.l.code, .string x.l.text, .slice x.A x.l.keys.length x.c, .slice x.B x.l.ws.length x.d] 35)) W2.heap.size 35 (lcs x) := (blk1 W2 _).2
          have hs3 := hp.toNS.below hal
          clear hp hal HT hx
          go_upto_region 18 with fail
          generalize W2.alloc (.cells #[.int .i64 x.l.kind, .int .i64 x.l.src, .int .i64 x.l.dst, .int .i64 x.l.txn, .int .i64 x.l.ts, .int .i64 x.l.code, .string x.l.text, .slice x.A x.l.keys.length x.c, .slice x.B x.l.ws.length x.d] 35) = W3 at hX hs3 ⊢
          generalize W2.heap.size = q at hX ⊢
          have x3 := hX.cell (i := 3) rfl
          rw [hxt.out] at x3
          have HS5 := Lib.hid hs3
          clear hX hs3 hxt
          go_wp2_with fail
          go_roundw
          case rel => exact ⟨i + 1, by omega, by go_num, HS5⟩
          case measure => simp [RowKit.intOf]; omega
      · obtain rfl : i = j := by omega
        have e0 : rest back i i = [] := by cases back <;> simp [rest, plS]
        rw [e0] at hs
        have pj : ¬ (i : Int) < (i : Int) := by omega
        have HL := Lib.hid (ns_len hs.out)
        have HB := Lib.hid hs.out.bel
        clear hs e0
        go_wp2_with fail
        refine HL.out.mono ?_
        rintro e W6 ⟨rfl, rfl⟩
        go_wp2_with fail
        go_ret
        exact ⟨rfl, HB.out⟩

end Nt
end Go.Proofs.Ytkpcfakfkcghdaa
