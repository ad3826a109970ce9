/- The document's net: Copy, For, Inject; contracts; no condition but the ranges. -/
import Derived.Test.YtkpcfakfkcghdaaNtRef3
import Derived.Test.YtkpcfakfkcghdaaNtFor
import Derived.Test.YtkpcfakfkcghdaaNtRefD
namespace Go.Proofs.Ytkpcfakfkcghdaa
namespace Nt
open Go.RowKit Bk Lt
set_option linter.unusedVariables false

attribute [local go_sem ↓] Go.wp_at_zero Go.wp_at_succ
attribute [local go_sem] floatUpon pick

section
variable {W W' : World} {P P' : Nat → Prop} {b : Nat} {room : Int} {A : Option Addr} {c : Nat} {L : List LI} {l : List Let}

set_option maxRecDepth 20000 in
set_option maxHeartbeats 8000000 in
theorem rcopy_any (h : RAt W P b room A c L) (p : Int) : Calls Try.prog 28 #[.pointer (some ⟨b, 0, none⟩), .int .i64 p] W fun e w' => e = .returned (.int .i64 (copyL room (L.map (·.l)) p).2) ∧ RPost W P b room (copyL room (L.map (·.l)) p).1 w' := by
  obtain ⟨S, hS⟩ : ∃ S, copyL room (L.map (·.l)) p = S := ⟨_, rfl⟩
  rw [hS]
  have HR := Lib.hid h
  have k1 := h.cel.cell (i := 1) rfl
  by_cases h0 : L = []
  · have HSe : Hid (S = (L.map (·.l), 5)) := Lib.hid (by rw [← hS]; unfold copyL; rw [if_pos (by rw [h0]; rfl)])
    subst h0
    clear hS h
    go_enter Try.func28, Try.ntmps28
    go_wp2_with fail
    go_ret
    rw [HSe.out]
    exact ⟨rfl, ⟨_, _, _, HR.out, rfl⟩, Far.refl _ _⟩
  · have hn : 1 ≤ L.length := List.length_pos_iff.2 h0
    have HPl := Lib.hid (fun n => rplace_any (h.below ((below_drewN (Below.refl _ W) n))) p hn)
    have hal := amongV_lt p L.length hn
    obtain ⟨i, hi⟩ : ∃ i, amongV p L.length = i := ⟨_, rfl⟩
    rw [hi] at hal HPl
    obtain ⟨x, hx⟩ : ∃ x, x = L[i] := ⟨_, rfl⟩
    have hxl : (L.map (·.l)).getD (amongV p (L.map (·.l)).length) noLet = x.l := by rw [List.length_map, hi, List.getD_eq_getElem?_getD, List.getElem?_map, List.getElem?_eq_getElem hal, hx]; rfl
    have hok : LetOk x.l := by rw [hx]; exact h.ok _ (List.getElem_mem hal)
    have hne : L.map (·.l) ≠ [] := fun e => h0 (List.map_eq_nil_iff.1 e)
    have HSe : Hid (S = sendL room (L.map (·.l)) x.l) := Lib.hid (by rw [← hS]; unfold copyL sendL; rw [if_neg hne, if_pos hok, hxl])
    have HSn := Lib.hid (fun n => rsend_any (h.below (below_drewN (Below.refl _ W) n)) x (by rw [hx]; exact (h.rv _ (List.getElem_mem hal)).below (below_drewN (Below.refl _ W) n)))
    obtain ⟨ad, rfl, hadb, hadP, hcs⟩ := h.row.at lcs_len (by omega) hal
    have e0 := hcs 0 _ rfl
    have e1 := hcs 1 _ rfl
    have e2 := hcs 2 _ rfl
    have e3 := hcs 3 _ rfl
    have e4 := hcs 4 _ rfl
    have e5 := hcs 5 _ rfl
    have e6 := hcs 6 _ rfl
    have e7 := hcs 7 _ rfl
    have e8 := hcs 8 _ rfl
    rw [← hx] at e0 e1 e2 e3 e4 e5 e6 e7 e8
    rw [Nat.add_zero] at e0
    rw [← add_field _ _ _ (by omega)] at e1 e2 e3 e4 e5 e6 e7 e8
    obtain ⟨n, hN⟩ : ∃ n, L.length = n := ⟨_, rfl⟩
    rw [hN] at k1 hal
    have pn : ¬ (n : Int) = 0 := by omega
    have pi : (i : Int) < (n : Int) := by omega
    unfold letV at HSn
    clear h0 hS hi hn hxl hok hne h hcs hx hN hadb hadP hal
    go_enter Try.func28, Try.ntmps28
    go_upto_region 3 with fail
    go_region_with (first
      | (go_at_call 47
         refine (HPl.out 1).mono ?_
         rintro e w' ⟨rfl, nn, rfl⟩)
      | (go_at_call 25
         first
           | (refine (HSn.out (1 + nn)).mono ?_
              rintro e w' ⟨rfl, hq⟩
              have HQ := Lib.hid hq
              clear hq)
           | (rw [World.drewN_drewN]
              refine (HSn.out (1 + nn)).mono ?_
              rintro e w' ⟨rfl, hq⟩
              have HQ := Lib.hid hq
              clear hq)))
    all_goals
      go_wp2_with fail
      go_ret
      rw [HSe.out]
      exact ⟨rfl, HQ.out.1, (Far.of (below_drewN (Below.refl _ W) (1 + nn))).trans HQ.out.2⟩

set_option maxRecDepth 20000 in
set_option maxHeartbeats 8000000 in
theorem rfor_any (h : RAt W P b room A c L) (dn : Int) : Calls Try.prog 31 #[.pointer (some ⟨b, 0, none⟩), .int .i64 dn] W fun e w' => ∃ v, e = .returned v ∧ w'.ownsRow W.heap.size 3 1 v (forL (L.map (·.l)) dn L.length).length (intV (forL (L.map (·.l)) dn L.length)) ∧ Below W.heap.size W w' := by
  obtain ⟨i1, hi', hz0', hz1', hz2'⟩ := info_parts Pk.Try.infoInt
  have h10 := h.len10
  have HR := Lib.hid h
  have pl : (L.length : Int) ≤ 1024 := by omega
  obtain ⟨n, hN⟩ : ∃ n, L.length = n := ⟨_, rfl⟩
  have HN := Lib.hid hN
  rw [hN] at pl h10 ⊢
  obtain ⟨l, hl⟩ : ∃ l, L.map (·.l) = l := ⟨_, rfl⟩
  have HL := Lib.hid hl
  rw [hl]
  clear h hN hl
  go_enter Try.func31, Try.ntmps31
  go_wp2_with fail
  go_loopw [5, 6] (fun vv iv wr => ∃ j : Nat, j ≤ n ∧ iv = .int .i64 (j : Int) ∧ Hid (wr.ownsRow W.heap.size 3 1 vv (forL l dn j).length (intV (forL l dn j))) ∧ Hid (Below W.heap.size W wr)) (fun _ iv _ => n - (RowKit.intOf iv).toNat)
  case atStart => exact ⟨0, Nat.zero_le _, rfl, Lib.hid ⟨by rw [intV_len]; omega, .inl ⟨rfl, rfl⟩⟩, Lib.hid (Below.refl _ _)⟩
  case round =>
    obtain ⟨j, hj, rfl, hown, hbel⟩ := hrel
    have h1 := HR.out.below hbel.out
    have k1 := h1.cel.cell (i := 1) rfl
    rw [HN.out] at k1
    by_cases hlt : j < n
    case neg =>
      obtain rfl : j = n := by omega
      have pj : ¬ (j : Int) < (j : Int) := by omega
      obtain ⟨A5, c5, rfl, -⟩ := row_form hown.out
      clear h1
      go_wp2_with fail
      go_ret
      exact ⟨_, rfl, hown.out, hbel.out⟩
    have pj : (j : Int) < (n : Int) := by omega
    have hjL : j < L.length := by rw [HN.out]; exact hlt
    obtain ⟨ad, rfl, -, -, hcs⟩ := h1.row.at lcs_len (by omega) hjL
    have hxl : l.getD j noLet = L[j].l := by rw [← HL.out, List.getD_eq_getElem?_getD, List.getElem?_map, List.getElem?_eq_getElem hjL]; rfl
    have e2 := hcs 2 _ rfl
    rw [← add_field _ _ _ (by omega)] at e2
    have hsu := forL_succ l dn j
    rw [hxl] at hsu
    generalize L[j].l.dst = ds at e2 hsu
    have HSu := Lib.hid hsu
    have hfl := forL_len l dn j
    obtain ⟨A5, c5, rfl, -⟩ := row_form hown.out
    clear h1 hcs hxl hsu hjL
    by_cases ht : ds = dn
    case neg =>
      rw [if_neg ht, List.append_nil] at HSu
      go_wp2_with fail
      go_roundw
      case rel => exact ⟨j + 1, by omega, by go_num, by rw [HSu.out]; exact hown, hbel⟩
      case measure => simp [RowKit.intOf]; omega
    rw [if_pos ht] at HSu
    have hb4 := (Below.refl wr.heap.size wr).alloc (Nat.le_refl _) (.cells #[.int .i64 (j : Int)] 3)
    have HO4 := Lib.hid (st_keep hown.out hb4)
    have HB4 := Lib.hid (hbel.out.trans (hb4.mono hbel.out.size))
    clear hb4 hown hbel
    go_wp2_with (at_builtin; refine wpList_append_optN rfl _ _ 43 rfl W.heap.size 3 i1 (.int .i64 0) 1 8 Try.underlying43 hi' hz0' hz1' hz2' rfl (by decide) _ _ _ rfl HO4.out (some ⟨wr.heap.size, 0, none⟩) 1 1 [.int .i64 (j : Int)] rfl rfl (fun e => by cases e) ?d1 ?d2 ?d3 ?d4 HB4.out.size ?_)
    case d1 => intro ad e i u hu; cases e; rw [addr_head]; exact (show Cel (wr.alloc _) wr.heap.size 3 [.int .i64 (j : Int)] from (blk1 wr _).2).cell hu
    case d2 => intro u hu; simp at hu; subst hu; rfl
    case d3 => unfold maxLen; omega
    case d4 => omega
    intro v5 W5 ho5 hg5 _hat5
    clear _hat5
    have HO5 : Hid (W5.ownsRow W.heap.size 3 1 v5 (forL l dn (j + 1)).length (intV (forL l dn (j + 1)))) := Lib.hid (by
      rw [HSu.out, List.length_append, intV_snoc]
      exact ho5)
    have HB5 := Lib.hid (HB4.out.grown hg5 HB4.out.size (fun k hk => (row_lt HO4.out hk).2))
    clear ho5 hg5 HO4 HB4
    go_wp2_with fail
    go_roundw
    case rel => exact ⟨j + 1, by omega, by go_num, HO5, HB5⟩
    case measure => simp [RowKit.intOf]; omega

end
end Nt
end Go.Proofs.Ytkpcfakfkcghdaa
