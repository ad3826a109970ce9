/- A net of any room under any calls answers as the document's; no condition but the ranges. -/
import Derived.Test.YtkpcfakfkcghdaaNtSt0
import Derived.Test.YtkpcfakfkcghdaaNtSt1
import Derived.Test.YtkpcfakfkcghdaaNtSt2
import Derived.Test.YtkpcfakfkcghdaaNtSt3
import Derived.Test.YtkpcfakfkcghdaaNtSt4
import Derived.Test.YtkpcfakfkcghdaaNtSt5
import Derived.Test.YtkpcfakfkcghdaaNtWorks
import Derived.Deep.RegionWith
namespace Go.Proofs.Ytkpcfakfkcghdaa
namespace Nt
open Go.RowKit Bk Lt
set_option linter.unusedVariables false

attribute [local go_sem ↓] Go.wp_at_zero Go.wp_at_succ
attribute [local go_sem] floatUpon pick

theorem step_any {w0 W : World} {g b : Nat} {room : Int} {l : List Let} (a : AI) (h : TM w0 W (fun _ => False) g b room l l) (ha : ActRng w0 a) :
    Calls Try.prog 11 #[.pointer (some ⟨g, 0, none⟩), .pointer (some ⟨b, 0, none⟩), actV a] W fun e w' => e = .returned (.bool true) ∧ ∃ l', TM w0 w' (fun _ => False) g b room l' l' := by
  have hl := amongV_lt a.k 6 (by omega)
  rcases (show amongV a.k 6 = 0 ∨ amongV a.k 6 = 1 ∨ amongV a.k 6 = 2 ∨ amongV a.k 6 = 3 ∨ amongV a.k 6 = 4 ∨ amongV a.k 6 = 5 by omega) with hk | hk | hk | hk | hk | hk
  · exact step0_any a h ha hk
  · exact step1_any a h ha hk
  · exact step2_any a h ha hk
  · exact step3_any a h ha hk
  · exact step4_any a h ha hk
  · exact step5_any a h ha hk

set_option maxRecDepth 20000 in
set_option maxHeartbeats 8000000 in
theorem plays_no (room : Int) (A : Option Addr) (n c : Nat) (w : World) (hr : room < 1 ∨ 1024 < room) : Calls Try.prog 3 #[.int .i64 room, .slice A n c] w fun e w' => e = .returned (.bool true) ∧ Below w.heap.size w w' := by
  have HN := Lib.hid (fun V => lnew_no room V hr)
  have HM := Lib.hid (fun V => rnew_no room V hr)
  have HWk := Lib.hid (fun V => works_any V)
  clear hr
  go_enter Try.func3, Try.ntmps3
  go_wp2_with fail
  refine (HN.out _).mono ?_
  rintro e W1 ⟨rfl, hw1⟩
  obtain rfl := hw1.symm
  clear HN
  go_wp2_with fail
  refine (HM.out _).mono ?_
  rintro e W2 ⟨rfl, hw2⟩
  obtain rfl := hw2.symm
  clear HM
  go_wp2_with fail
  refine (HWk.out _).mono ?_
  rintro e W3 ⟨rfl, hb⟩
  have HB := Lib.hid hb
  clear HWk hb
  go_wp2_with fail
  go_loopw [9] (fun iv wr => iv = .int .i64 0 ∧ Hid (Below w.heap.size w wr)) (fun _ _ => 0)
  case atStart => exact ⟨rfl, HB⟩
  case round =>
    obtain ⟨rfl, hb⟩ := hrel
    clear HB
    go_wp2_with fail
    go_ret
    exact ⟨rfl, hb.out⟩

set_option maxRecDepth 20000 in
set_option maxHeartbeats 8000000 in
theorem plays_any (room : Int) (v0 : Value) (L0 : List AI) (w : World) (h0 : actsOf w v0 L0) : Calls Try.prog 3 #[.int .i64 room, v0] w fun e w' => e = .returned (.bool true) ∧ Below w.heap.size w w' := by
  obtain ⟨A0, c0, rfl, hat0, hl16, hrg0⟩ := h0
  by_cases hr : 1 ≤ room ∧ room ≤ 1024
  case neg => exact plays_no room A0 _ c0 w (by omega)
  obtain ⟨hr1, hr2⟩ := hr
  have pl0 : (L0.length : Int) ≤ 9223372036854775807 := by unfold reachBytes at hl16; omega
  have HAt0 := Lib.hid hat0
  have HRg0 := Lib.hid hrg0
  have HN := Lib.hid (lnew_any room w hr1 hr2)
  have HM0 := Lib.hid (fun (P : Nat → Prop) (V : World) (hP : ∀ k, P k → k < V.heap.size) => rnew_any room V hr1 hr2 hP)
  have HWk := Lib.hid (fun V => works_any V)
  clear hat0 hrg0 hl16 hr1 hr2
  go_enter Try.func3, Try.ntmps3
  go_wp2_with fail
  refine HN.out.mono ?_
  rintro e W1 ⟨rfl, hq1, hb1⟩
  have HM := Lib.hid (HM0.out (fun k => k = w.heap.size) W1 (fun k hk => hq1.lt k hk))
  have HQ1 := Lib.hid (And.intro hq1 hb1)
  clear HM0 hq1 hb1 HN
  go_wp2_with fail
  refine HM.out.mono ?_
  rintro e W2 ⟨rfl, hq2, hb2⟩
  have hg1 := HQ1.out.1.lt w.heap.size rfl
  have HT2 : Hid (TM w W2 (fun _ => False) w.heap.size W1.heap.size room [] []) := Lib.hid
    ⟨⟨fun k => k = w.heap.size, fun k hk => ⟨by omega, fun h => h, by omega⟩, HQ1.out.1.same hb2.size (fun k hk => hb2.block k (HQ1.out.1.lt k hk)),
      (show RRep W2 (fun k => k = w.heap.size ∨ k = W1.heap.size) W1.heap.size room [] from ⟨none, 0, [], hq2, rfl⟩).on (Q := fun _ => False) (Far.refl _ _).toAway (fun _ h => h.elim) rfl (fun k hk => .inl (by rcases hk with h | h | h; exact .inl h; exact .inr h; exact h.elim)) (.inr (.inl rfl)) (fun k hk => by rcases hk with h | h | h; exact hq2.lt k (.inl h); exact hq2.lt k (.inr h); exact h.elim)⟩,
     HQ1.out.2.trans (hb2.mono HQ1.out.2.size), fun _ h => h.elim, ⟨HQ1.out.2.size, hq2.lt _ (.inr rfl)⟩⟩
  clear hq2 hb2 hg1 HQ1 HM
  generalize hgg : w.heap.size = g at HT2 ⊢
  generalize W1.heap.size = b at HT2 ⊢
  go_wp2_with fail
  refine (HWk.out _).mono ?_
  rintro e W3 ⟨rfl, hb⟩
  have HT3 := Lib.hid (HT2.out.below hb)
  clear hb HT2 HWk
  go_wp2_with fail
  go_loopw [9] (fun iv wr => ∃ (j : Nat), j ≤ 100 ∧ iv = .int .i64 (j : Int) ∧ Hid (∃ l, TM w wr (fun _ => False) g b room l l)) (fun iv _ => 100 - (RowKit.intOf iv).toNat)
  case atStart => exact ⟨0, by omega, rfl, Lib.hid ⟨_, HT3.out⟩⟩
  case round =>
    obtain ⟨j, hj, rfl, hq⟩ := hrel
    obtain ⟨l, ht⟩ := hq.out
    clear HT3 hq
    by_cases hlt : j < L0.length ∧ j < 100
    case neg =>
      have HBf := Lib.hid ht.bel
      clear ht
      by_cases hlt1 : j < L0.length
      · have pj : (j : Int) < (L0.length : Int) := by omega
        have pj6 : ¬ (j : Int) < 100 := by omega
        go_wp2_with fail
        go_ret
        exact ⟨rfl, by rw [← hgg]; exact HBf.out⟩
      · have pj : ¬ (j : Int) < (L0.length : Int) := by omega
        go_wp2_with fail
        go_ret
        exact ⟨rfl, by rw [← hgg]; exact HBf.out⟩
    obtain ⟨hlt, hlt6⟩ := hlt
    have pj : (j : Int) < (L0.length : Int) := by omega
    have pj6 : (j : Int) < 100 := by omega
    obtain ⟨ad, rfl, hab, hc⟩ := HAt0.out (by omega)
    have hc2 := hc j hlt
    have hval := HRg0.out _ (List.getElem_mem hlt)
    generalize L0[j] = a at hc2 hval
    have HXc : Hid (∀ V, Below w.heap.size w V → V.cell? (ad.add (j * 12)) = some (.int .i64 a.k) ∧ V.cell? ⟨(ad.add (j * 12)).block, (ad.add (j * 12)).off + 1, none⟩ = some (.int .i64 a.n) ∧ V.cell? ⟨(ad.add (j * 12)).block, (ad.add (j * 12)).off + 2, none⟩ = some (.int .i64 a.x.l.kind) ∧ V.cell? ⟨(ad.add (j * 12)).block, (ad.add (j * 12)).off + 3, none⟩ = some (.int .i64 a.x.l.src) ∧ V.cell? ⟨(ad.add (j * 12)).block, (ad.add (j * 12)).off + 4, none⟩ = some (.int .i64 a.x.l.dst) ∧ V.cell? ⟨(ad.add (j * 12)).block, (ad.add (j * 12)).off + 5, none⟩ = some (.int .i64 a.x.l.txn) ∧ V.cell? ⟨(ad.add (j * 12)).block, (ad.add (j * 12)).off + 6, none⟩ = some (.int .i64 a.x.l.ts) ∧ V.cell? ⟨(ad.add (j * 12)).block, (ad.add (j * 12)).off + 7, none⟩ = some (.int .i64 a.x.l.code) ∧ V.cell? ⟨(ad.add (j * 12)).block, (ad.add (j * 12)).off + 8, none⟩ = some (.string a.x.l.text) ∧ V.cell? ⟨(ad.add (j * 12)).block, (ad.add (j * 12)).off + 9, none⟩ = some (.slice a.x.A a.x.l.keys.length a.x.c) ∧ V.cell? ⟨(ad.add (j * 12)).block, (ad.add (j * 12)).off + 10, none⟩ = some (.slice a.x.B a.x.l.ws.length a.x.d) ∧ V.cell? ⟨(ad.add (j * 12)).block, (ad.add (j * 12)).off + 11, none⟩ = some (.string a.text)) := Lib.hid (fun V hb => by
      have k := fun q v hq => (cell_kept hb (ad.add (j * 12 + q)) (by rw [st_block]; exact hab)).trans (hc2 q v hq)
      refine ⟨by simpa using k 0 _ rfl, ?_, ?_, ?_, ?_, ?_, ?_, ?_, ?_, ?_, ?_, ?_⟩
      all_goals rw [Lt.add_field _ _ _ (by omega)]
      · exact k 1 _ rfl
      · exact k 2 _ rfl
      · exact k 3 _ rfl
      · exact k 4 _ rfl
      · exact k 5 _ rfl
      · exact k 6 _ rfl
      · exact k 7 _ rfl
      · exact k 8 _ rfl
      · exact k 9 _ rfl
      · exact k 10 _ rfl
      · exact k 11 _ rfl)
    have HSt := Lib.hid (fun V (hV : Below wr.heap.size wr V) => step_any a (ht.below hV) hval)
    unfold actV at HSt
    have HT := Lib.hid ht
    obtain ⟨x0, x1, x2, x3, x4, x5, x6, x7, x8, x9, x10, x11⟩ := HXc.out _ ht.bel
    clear ht hc hc2 hval hab
    go_upto_region 8 with fail
    go_region_with (
      first
        | (refine (HLn.out _ (by first | exact Below.refl _ _ | exact (Below.refl _ _).drew | exact ⟨rfl, rfl, rfl, Nat.le_refl _, fun _ _ => rfl⟩)).mono ?_
           rintro e w5 ⟨rfl, hb5⟩
           have m1 := (cell_kept hb5.out _ (World.block_lt_of_cell? _ _ k1)).trans k1
           have HT5 := Lib.hid (HT4.out.below hb5.out)
           have HB5 := hb5
           clear hb5)
        | (refine (HSt.out _ (by first | exact Below.refl _ _ | exact (Below.refl _ _).drew | exact ⟨rfl, rfl, rfl, Nat.le_refl _, fun _ _ => rfl⟩)).mono ?_
           rintro e w4 ⟨rfl, l4, ht4⟩
           have HLn : Hid (∀ V, Below w4.heap.size w4 V → Calls Try.prog 12 #[.pointer (some ⟨g, 0, none⟩)] V fun e w' => e = .returned (.int .i64 (l4.length : Int)) ∧ Hid (Below w4.heap.size w4 w')) := Lib.hid (fun V hV => (tm_len (ht4.below hV)).mono fun e w' ⟨e1, e2⟩ => ⟨e1, Lib.hid (by rw [e2]; exact hV)⟩)
           obtain ⟨A4, d4, k1⟩ := dm_len ht4
           have HT4 := Lib.hid ht4
           clear ht4))
    all_goals
      clear HXc HT HSt x0 x1 x2 x3 x4 x5 x6 x7 x8 x9 x10 x11
      try clear HT4
      try clear k1
      try clear m1
      try clear HLn
      go_wp2_with fail
      go_roundw
      case rel => exact ⟨j + 1, by omega, by go_num, Lib.hid ⟨_, HT5.out⟩⟩
      case measure => simp [RowKit.intOf]; omega

end Nt
end Go.Proofs.Ytkpcfakfkcghdaa
