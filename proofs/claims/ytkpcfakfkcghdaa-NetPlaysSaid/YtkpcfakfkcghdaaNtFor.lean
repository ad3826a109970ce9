/- The landed net: For; contract; no condition but the ranges. -/
import Derived.Test.YtkpcfakfkcghdaaNtInj
namespace Go.Proofs.Ytkpcfakfkcghdaa
namespace Nt
open Go.RowKit Bk Lt
set_option linter.unusedVariables false

attribute [local go_sem ↓] Go.wp_at_zero Go.wp_at_succ
attribute [local go_sem] floatUpon pick

/-- the places of letters to an address, of the first j ones -/
def forL (l : List Let) (dn : Int) (j : Nat) : List Int := ((List.range j).filter fun i => decide ((l.getD i noLet).dst = dn)).map (fun i : Nat => (i : Int))

theorem forL_succ (l : List Let) (dn : Int) (j : Nat) : forL l dn (j + 1) = forL l dn j ++ (if (l.getD j noLet).dst = dn then [(j : Int)] else []) := by
  unfold forL
  rw [List.range_succ, List.filter_append, List.map_append]
  by_cases h : (l.getD j noLet).dst = dn
  · rw [if_pos h, List.filter_cons_of_pos (by simpa using h)]; rfl
  · rw [if_neg h, List.filter_cons_of_neg (by simpa using h)]; rfl

theorem forL_len (l : List Let) (dn : Int) (j : Nat) : (forL l dn j).length ≤ j := by
  unfold forL
  rw [List.length_map]
  exact Nat.le_trans (List.length_filter_le _ _) (by simp)

section
variable {W W' : World} {F : Nat → Prop} {g : Nat} {room : Int} {l : List Let}

set_option maxRecDepth 20000 in
set_option maxHeartbeats 4000000 in
theorem lgets_any (x : LI) (dn : Int) (w : World) : Calls Try.prog 44 #[.int .i64 dn, letV x.l x.A x.B x.c x.d] w fun e w' => e = .returned (.bool (decide (x.l.dst = dn))) ∧ Below w.heap.size w w' := by
  obtain ⟨l0, A, B, c, d⟩ := x
  unfold letV
  have hb1 : Below w.heap.size w (w.alloc (.cells #[.int .i64 l0.kind, .int .i64 l0.src, .int .i64 l0.dst, .int .i64 l0.txn, .int .i64 l0.ts, .int .i64 l0.code, .string l0.text, .slice A l0.keys.length c, .slice B l0.ws.length d] 35)) := (Below.refl _ w).alloc (Nat.le_refl _) _
  have hC1 : Cel (w.alloc (.cells #[.int .i64 l0.kind, .int .i64 l0.src, .int .i64 l0.dst, .int .i64 l0.txn, .int .i64 l0.ts, .int .i64 l0.code, .string l0.text, .slice A l0.keys.length c, .slice B l0.ws.length d] 35)) w.heap.size 35 (cellsL l0 (.slice A l0.keys.length c) (.slice B l0.ws.length d)) := (blk1 w _).2
  go_enter Try.func44, Try.ntmps44
  go_upto_region 1 with fail
  generalize w.alloc (.cells #[.int .i64 l0.kind, .int .i64 l0.src, .int .i64 l0.dst, .int .i64 l0.txn, .int .i64 l0.ts, .int .i64 l0.code, .string l0.text, .slice A l0.keys.length c, .slice B l0.ws.length d] 35) = W1 at hb1 hC1 ⊢
  have p2 := hC1.cell (i := 2) rfl
  have HB := Lib.hid hb1
  clear hb1 hC1
  go_wp2_with fail
  go_ret
  exact ⟨rfl, HB.out⟩

set_option maxRecDepth 20000 in
set_option maxHeartbeats 8000000 in
theorem lplaces_any (h : LRep W F g room l) (dn : Int) : Calls Try.prog 43 #[.pointer (some ⟨g, 0, none⟩), .func (.func 44) #[.int .i64 dn] #[]] W fun e w' => ∃ v, e = .returned v ∧ w'.ownsRow W.heap.size 3 1 v (forL l dn l.length).length (intV (forL l dn l.length)) ∧ Below W.heap.size W w' := by
  obtain ⟨i1, hi', hz0', hz1', hz2'⟩ := info_parts Pk.Try.infoInt
  obtain ⟨v, L, h, hl⟩ := h
  have hll : L.length = l.length := by rw [← hl, List.length_map]
  have h10 := h.len10
  obtain ⟨A, c, hv, -⟩ := h.form
  have k1 := h.cel.cell (i := 1) rfl
  rw [hv, hll] at k1
  have HH := Lib.hid h
  have HV := Lib.hid hv
  have HL := Lib.hid hl
  have HLl := Lib.hid hll
  have pl : (l.length : Int) ≤ 1024 := by omega
  clear h hv hl hll h10
  go_enter Try.func43, Try.ntmps43
  go_wp2_with fail
  go_loopw [5, 13] (fun vv iv wr => ∃ j : Nat, j ≤ l.length ∧ iv = .int .i64 (j : Int) ∧ Hid (wr.ownsRow W.heap.size 3 1 vv (forL l dn j).length (intV (forL l dn j))) ∧ Hid (Below W.heap.size W wr)) (fun _ iv _ => l.length - (RowKit.intOf iv).toNat)
  case atStart => exact ⟨0, Nat.zero_le _, rfl, Lib.hid ⟨by rw [intV_len]; omega, .inl ⟨rfl, rfl⟩⟩, Lib.hid (Below.refl _ _)⟩
  case round =>
    obtain ⟨j, hj, rfl, hown, hbel⟩ := hrel
    by_cases hlt : j < l.length
    case neg =>
      obtain rfl : j = l.length := by omega
      have pj : ¬ (l.length : Int) < (l.length : Int) := by omega
      obtain ⟨A5, c5, rfl, -⟩ := row_form hown.out
      go_wp2_with fail
      go_ret
      exact ⟨_, rfl, hown.out, hbel.out⟩
    have pj : (j : Int) < (l.length : Int) := by omega
    have hjL : j < L.length := by have := HLl.out; omega
    have h1 := HH.out.below hbel.out
    obtain ⟨b, cap, rest, e1, -, hc, -, -, -⟩ := row_blk h1.re (by omega)
    rw [HV.out] at e1
    simp only [Value.slice.injEq] at e1
    obtain ⟨rfl, -, rfl⟩ := e1
    obtain ⟨x, hx⟩ : ∃ x, x = L[j] := ⟨_, rfl⟩
    have hxl : l.getD j noLet = x.l := by rw [List.getD_eq_getElem?_getD, List.getElem?_eq_getElem hlt, Option.getD_some, hx]; simp only [← HL.out]; rw [List.getElem_map]
    have e0 := let_cell hc hjL (j := 0) (by omega) rfl
    have e1 := let_cell hc hjL (j := 1) (by omega) rfl
    have e2 := let_cell hc hjL (j := 2) (by omega) rfl
    have e3 := let_cell hc hjL (j := 3) (by omega) rfl
    have e4 := let_cell hc hjL (j := 4) (by omega) rfl
    have e5 := let_cell hc hjL (j := 5) (by omega) rfl
    have e6 := let_cell hc hjL (j := 6) (by omega) rfl
    have e7 := let_cell hc hjL (j := 7) (by omega) rfl
    have e8 := let_cell hc hjL (j := 8) (by omega) rfl
    rw [← hx] at e0 e1 e2 e3 e4 e5 e6 e7 e8
    rw [Nat.add_zero] at e0
    have hsu := forL_succ l dn j
    rw [hxl] at hsu
    have HSu := Lib.hid hsu
    have hfl := forL_len l dn j
    have HG := Lib.hid (fun V => lgets_any x dn V)
    unfold letV at HG
    clear h1 hc hx hxl hsu
    go_upto_region 5 with fail
    have hal := (Below.refl wr.heap.size wr).alloc (Nat.le_refl _) (.cells #[.int .i64 x.l.kind, .int .i64 x.l.src, .int .i64 x.l.dst, .int .i64 x.l.txn, .int .i64 x.l.ts, .int .i64 x.l.code, .string x.l.text, .slice x.A x.l.keys.length x.c, .slice x.B x.l.ws.length x.d] 35)
    have hX : Cel (wr.alloc (.cells #[.int .i64 x.l.kind, .int .i64 x.l.src, .int .i64 x.l.dst, .int .i64 x.l.txn, .int .i64 x.l.ts, .int .i64 x.l.code, .string x.l.text, .slice x.A x.l.keys.length x.c, .slice x.B x.l.ws.length x.d] 35)) wr.heap.size 35 (lcs x) := (blk1 wr _).2
    have hO2 := st_keep hown.out hal
    have hB2 := hbel.out.trans (hal.mono hbel.out.size)
    generalize wr.alloc (.cells #[.int .i64 x.l.kind, .int .i64 x.l.src, .int .i64 x.l.dst, .int .i64 x.l.txn, .int .i64 x.l.ts, .int .i64 x.l.code, .string x.l.text, .slice x.A x.l.keys.length x.c, .slice x.B x.l.ws.length x.d] 35) = W2 at hX hO2 hB2 ⊢
    generalize wr.heap.size = q at hX ⊢
    have q0 := hX.cell (i := 0) rfl
    have q1 := hX.cell (i := 1) rfl
    have q2 := hX.cell (i := 2) rfl
    have q3 := hX.cell (i := 3) rfl
    have q4 := hX.cell (i := 4) rfl
    have q5 := hX.cell (i := 5) rfl
    have q6 := hX.cell (i := 6) rfl
    have q7 := hX.cell (i := 7) rfl
    have q8 := hX.cell (i := 8) rfl
    have HO2 := Lib.hid hO2
    have HB2 := Lib.hid hB2
    clear hX hO2 hB2 hal e0 e1 e2 e3 e4 e5 e6 e7 e8 hown hbel
    go_wp2_with fail
    refine (HG.out _).mono ?_
    rintro e W3 ⟨rfl, hb3⟩
    have hO3 := st_keep HO2.out hb3
    have HB3 := Lib.hid (HB2.out.trans (hb3.mono HB2.out.size))
    obtain ⟨A5, c5, rfl, -⟩ := row_form hO3
    have HO3 := Lib.hid hO3
    clear hO3 hb3 HO2 HB2 q0 q1 q2 q3 q4 q5 q6 q7 q8 HG
    by_cases ht : x.l.dst = dn
    case neg =>
      have hd : decide (x.l.dst = dn) = false := decide_eq_false ht
      rw [hd]
      rw [if_neg ht, List.append_nil] at HSu
      clear hd ht
      go_wp2_with fail
      go_roundw
      case rel => exact ⟨j + 1, by omega, by go_num, by rw [HSu.out]; exact HO3, HB3⟩
      case measure => simp [RowKit.intOf]; omega
    have hd : decide (x.l.dst = dn) = true := decide_eq_true ht
    rw [hd]
    rw [if_pos ht] at HSu
    clear hd ht
    have hb4 := (Below.refl W3.heap.size W3).alloc (Nat.le_refl _) (.cells #[.int .i64 (j : Int)] 3)
    have HO4 := Lib.hid (st_keep HO3.out hb4)
    have HB4 := Lib.hid (HB3.out.trans (hb4.mono HB3.out.size))
    clear HO3 HB3 hb4
    go_wp2_with (at_builtin; refine wpList_append_optN rfl _ _ 43 rfl W.heap.size 3 i1 (.int .i64 0) 1 8 Try.underlying43 hi' hz0' hz1' hz2' rfl (by decide) _ _ _ rfl HO4.out (some ⟨W3.heap.size, 0, none⟩) 1 1 [.int .i64 (j : Int)] rfl rfl (fun e => by cases e) ?d1 ?d2 ?d3 ?d4 HB4.out.size ?_)
    case d1 => intro ad e i u hu; cases e; rw [addr_head]; exact (show Cel (W3.alloc _) W3.heap.size 3 [.int .i64 (j : Int)] from (blk1 W3 _).2).cell hu
    case d2 => intro u hu; simp at hu; subst hu; rfl
    case d3 => unfold maxLen; omega
    case d4 => omega
    intro v5 W5 ho5 hg5 _hat5
    clear _hat5
    have HO5 : Hid (W5.ownsRow W.heap.size 3 1 v5 (forL l dn (j + 1)).length (intV (forL l dn (j + 1)))) := Lib.hid (by
      rw [HSu.out, List.length_append, intV_snoc]
      exact ho5)
    have HB5 := Lib.hid (HB4.out.grown hg5 HB4.out.size (fun k hk => (row_lt HO4.out hk).2))
    clear ho5 hg5 HO4 HB4
    go_wp2_with fail
    go_roundw
    case rel => exact ⟨j + 1, by omega, by go_num, HO5, HB5⟩
    case measure => simp [RowKit.intOf]; omega

set_option maxRecDepth 20000 in
set_option maxHeartbeats 4000000 in
theorem lfor_any (h : LRep W F g room l) (dn : Int) : Calls Try.prog 22 #[.pointer (some ⟨g, 0, none⟩), .int .i64 dn] W fun e w' => ∃ v, e = .returned v ∧ w'.ownsRow W.heap.size 3 1 v (forL l dn l.length).length (intV (forL l dn l.length)) ∧ Below W.heap.size W w' := by
  have HP := Lib.hid (lplaces_any h dn)
  clear h
  go_enter Try.func22, Try.ntmps22
  go_wp2_with fail
  refine HP.out.mono ?_
  rintro e W2 ⟨v, rfl, ho, hb⟩
  obtain ⟨A5, c5, rfl, -⟩ := row_form ho
  have HQ := Lib.hid (And.intro ho hb)
  clear ho hb HP
  go_wp2_with fail
  go_ret
  exact ⟨_, rfl, HQ.out⟩

end
end Nt
end Go.Proofs.Ytkpcfakfkcghdaa
