/- Letters of unlike transactions that are sent, copied and taken: what comes out; no condition but the ranges. -/
import Derived.Test.YtkpcfakfkcghdaaNtFirst
import Derived.Test.YtkpcfakfkcghdaaNtOpen
namespace Go.Proofs.Ytkpcfakfkcghdaa
namespace Nt
open Go.RowKit Bk Lt
set_option linter.unusedVariables false

attribute [local go_sem ↓] Go.wp_at_zero Go.wp_at_succ
attribute [local go_sem] floatUpon pick

/-- a row of the law's own has grown -/
theorem NS.row {w0 wr w' : World} {M : Nat → Prop} {g : Nat} {room : Int} {l : List Let} {H sz n : Nat} {e : TypeId} {v v' : Value} {xs : List Value} (h : NS w0 wr M g room l) (hM : ∀ k, M k → w0.heap.size ≤ k) (hv : ∀ k, v.ownBlock = some k → M k) (hg : wr.grownBy w' v.ownBlock) (hat : v'.ownBlock = v.ownBlock ∨ v'.ownBlock = some wr.heap.size) (ho : w'.ownsRow H e sz v' n xs) : NS w0 w' (fun k => v'.ownBlock = some k) g room l :=
  h.own hg.size (st_grown hg) (fun k hk hn => hg.block k hk (fun e => hn (hv k e.symm))) hM (fun k hk => hat.elim (fun e => .inl (hv k (by rw [← e]; exact hk))) (fun e => .inr (by rw [e] at hk; obtain rfl := Option.some.inj hk; exact ⟨Nat.le_refl _, (row_lt ho e).1⟩)))

def plT (T : List Int) : List Let := T.map fun t => plL t 1
theorem plT_len (T : List Int) : (plT T).length = T.length := by simp [plT]
theorem plT_snoc (T : List Int) (t : Int) : plT T ++ [plL t 1] = plT (T ++ [t]) := by simp [plT]
theorem plT_at {T : List Int} {i : Nat} (h : i < T.length) : (plT T).getD i noLet = plL T[i] 1 := by
  unfold plT
  rw [List.getD_eq_getElem?_getD, List.getElem?_map, List.getElem?_eq_getElem h]; rfl
theorem plT_erase (T : List Int) (i : Nat) : (plT T).eraseIdx i = plT (T.eraseIdx i) := erase_map _ _ _

/-- what the loop keeps -/
structure TI (w wr : World) (vv : Value) (T : List Int) : Prop where
  ns : NS w wr (fun k => vv.ownBlock = some k) w.heap.size 40 (plT T)
  row : wr.ownsRow w.heap.size 3 1 vv T.length (intV T)
  rg : ∀ t ∈ T, 1 ≤ t ∧ t ≤ 1000

theorem TI.len {w wr : World} {vv : Value} {T : List Int} (h : TI w wr vv T) : T.length ≤ 40 := by
  have := h.ns.len10.2
  rw [plT_len] at this
  omega

theorem nat_cap {n : Nat} (h : n ≤ 40) : n + 1 ≤ maxLen := by unfold maxLen; omega

set_option maxRecDepth 20000 in
set_option maxHeartbeats 40000000 in
theorem truth_any (v0 : Value) (L0 : List AI) (w : World) (h0 : actsOf w v0 L0) : Calls Try.prog 4 #[v0] w fun e w' => e = .returned (.bool true) ∧ Below w.heap.size w w' := by
  obtain ⟨A0, c0, rfl, hat0, hl16, hrg0⟩ := h0
  obtain ⟨i1, hi', hz0', hz1', hz2'⟩ := info_parts Pk.Try.infoInt
  have pl0 : (L0.length : Int) ≤ 9223372036854775807 := by unfold reachBytes at hl16; omega
  have HAt0 := Lib.hid hat0
  have HRg0 := Lib.hid hrg0
  have HN := Lib.hid (ns_new (w0 := w) (wr := w) 40 (Below.refl _ _) (by omega) (by omega))
  have HWk := Lib.hid (fun V => works_any V)
  clear hat0 hrg0 hl16
  go_enter Try.func4, Try.ntmps4
  go_wp2_with fail
  refine HN.out.mono ?_
  rintro e W1 ⟨rfl, hs⟩
  have HS := Lib.hid hs
  clear hs HN
  go_wp2_with fail
  refine (HWk.out _).mono ?_
  rintro e W2 ⟨rfl, hb⟩
  have HT0 : Hid (TI w W2 (.slice none 0 0) []) := Lib.hid ⟨(HS.out.below hb).new (Below.refl _ _) (fun k hk => by cases hk), ⟨rfl, .inl ⟨rfl, rfl⟩⟩, fun t ht => absurd ht (by simp)⟩
  clear hb HS HWk
  go_wp2_with fail
  go_loopw [5, 6] (fun vv iv wr => ∃ (j : Nat) (T : List Int), j ≤ 100 ∧ iv = .int .i64 (j : Int) ∧ Hid (TI w wr vv T)) (fun _ iv _ => 100 - (RowKit.intOf iv).toNat)
  case atStart => exact ⟨0, [], by omega, rfl, HT0⟩
  case round =>
    obtain ⟨j, T, hj, rfl, ht⟩ := hrel
    clear HT0
    obtain ⟨A5, c5, rfl, hnil⟩ := row_form ht.out.row
    by_cases hl1 : j < L0.length
    case neg =>
      have pj : ¬ (j : Int) < (L0.length : Int) := by omega
      have HNs0 : Hid (NS w wr (fun k => (Value.slice A5 T.length c5).ownBlock = some k) w.heap.size 40 (plT (T.drop 0))) := Lib.hid ht.out.ns
      have HR0 := Lib.hid ht.out.row
      have htl := ht.out.len
      clear ht
      go_wp2_with fail
      go_loopw [144] (fun iv wr => ∃ i : Nat, i ≤ T.length ∧ iv = .int .i64 (i : Int) ∧ Hid (NS w wr (fun k => (Value.slice A5 T.length c5).ownBlock = some k) w.heap.size 40 (plT (T.drop i))) ∧ Hid (wr.ownsRow w.heap.size 3 1 (.slice A5 T.length c5) T.length (intV T))) (fun iv _ => T.length - (RowKit.intOf iv).toNat)
      case atStart => exact ⟨0, by omega, rfl, HNs0, HR0⟩
      case round =>
        obtain ⟨i, hi, rfl, hns, hrow⟩ := hrel
        clear HNs0 HR0
        by_cases hlt : i < T.length
        case neg =>
          obtain rfl : i = T.length := by omega
          have pi : ¬ (T.length : Int) < (T.length : Int) := by omega
          rw [List.drop_length] at hns
          have HL := Lib.hid (ns_len hns.out)
          have HB := Lib.hid hns.out.bel
          clear hns hrow
          go_wp2_with fail
          refine HL.out.mono ?_
          rintro e W6 ⟨rfl, rfl⟩
          go_wp2_with fail
          go_ret
          exact ⟨rfl, HB.out⟩
        have pi : (i : Int) < (T.length : Int) := by omega
        obtain ⟨p5, cap5, rest5, e5, -, hcel5, -, -, -⟩ := row_blk hrow.out (by omega)
        simp only [Value.slice.injEq] at e5
        obtain ⟨rfl, -, rfl⟩ := e5
        have o0 := hcel5.cell (i := i) (show (intV T ++ rest5)[i]? = some (.int .i64 T[i]) from by rw [List.getElem?_append_left (by rw [intV_len]; exact hlt), intV_at hlt])
        have hdl : (plT (T.drop i)).length = T.length - i := by rw [plT_len, List.length_drop]
        have htk := ns_take hns.out (by rw [hdl]; omega) 0
        have ha0 : amongV 0 (plT (T.drop i)).length = 0 := by unfold amongV; simp
        have hg0 : (plT (T.drop i)).getD 0 noLet = plL T[i] 1 := by rw [plT_at (by rw [List.length_drop]; omega)]; simp
        have he0 : (plT (T.drop i)).eraseIdx 0 = plT (T.drop (i + 1)) := by rw [plT_erase, List.eraseIdx_zero, List.tail_drop]
        rw [ha0, hg0, he0] at htk
        generalize T[i] = ti at o0 htk
        have HTk := Lib.hid htk
        unfold letV at HTk
        clear htk ha0 hg0 he0 hdl hcel5
        go_wp2_with fail
        refine HTk.out.mono ?_
        rintro e W7 ⟨x, rfl, hx0, hxo, hp⟩
        have hxt : Hid (x.l.txn = ti) := Lib.hid (by rw [hx0]; rfl)
        have hal := (Below.refl W7.heap.size W7).alloc (Nat.le_refl _) (.cells #[.int .i64 x.l.kind, .int .i64 x.l.src, .int .i64 x.l.dst, .int .i64 x.l.txn, .int .i64 x.l.ts, .int .i64 x.l.code, .string x.l.text, .slice x.A x.l.keys.length x.c, .slice x.B x.l.ws.length x.d] 35)
        have hX7 : Cel (W7.alloc (.cells #[.int .i64 x.l.kind, .int .i64 x.l.src, .int .i64 x.l.dst, .int .i64 x.l.txn, .int .i64 x.l.ts, .int .i64 x.l.code, .string x.l.text, .slice x.A x.l.keys.length x.c, .slice x.B x.l.ws.length x.d] 35)) W7.heap.size 35 (lcs x) := (blk1 W7 _).2
        have hns8 := hp.toNS.below hal
        have hr8 := st_keep (hp.row hrow.out (fun k hk => hk)) hal
        clear hp hal HTk hx0 hxo hns hrow o0
        go_upto_region 39 with fail
        generalize W7.alloc (.cells #[.int .i64 x.l.kind, .int .i64 x.l.src, .int .i64 x.l.dst, .int .i64 x.l.txn, .int .i64 x.l.ts, .int .i64 x.l.code, .string x.l.text, .slice x.A x.l.keys.length x.c, .slice x.B x.l.ws.length x.d] 35) = W8 at hX7 hns8 hr8 ⊢
        generalize W7.heap.size = q2 at hX7 ⊢
        have x3 := hX7.cell (i := 3) rfl
        rw [hxt.out] at x3
        have HA := Lib.hid hns8
        have HB := Lib.hid hr8
        clear hX7 hns8 hr8 hxt
        go_wp2_with fail
        go_roundw
        case rel => exact ⟨i + 1, by omega, by go_num, HA, HB⟩
        case measure => simp [RowKit.intOf]; omega
    by_cases hl2 : j < 100
    case neg =>
      have pj1 : (j : Int) < (L0.length : Int) := by omega
      have pj : ¬ (j : Int) < 100 := by omega
      clear hj
      have HNs0 : Hid (NS w wr (fun k => (Value.slice A5 T.length c5).ownBlock = some k) w.heap.size 40 (plT (T.drop 0))) := Lib.hid ht.out.ns
      have HR0 := Lib.hid ht.out.row
      have htl := ht.out.len
      clear ht
      go_wp2_with fail
      go_loopw [144] (fun iv wr => ∃ i : Nat, i ≤ T.length ∧ iv = .int .i64 (i : Int) ∧ Hid (NS w wr (fun k => (Value.slice A5 T.length c5).ownBlock = some k) w.heap.size 40 (plT (T.drop i))) ∧ Hid (wr.ownsRow w.heap.size 3 1 (.slice A5 T.length c5) T.length (intV T))) (fun iv _ => T.length - (RowKit.intOf iv).toNat)
      case atStart => exact ⟨0, by omega, rfl, HNs0, HR0⟩
      case round =>
        obtain ⟨i, hi, rfl, hns, hrow⟩ := hrel
        clear HNs0 HR0
        by_cases hlt : i < T.length
        case neg =>
          obtain rfl : i = T.length := by omega
          have pi : ¬ (T.length : Int) < (T.length : Int) := by omega
          rw [List.drop_length] at hns
          have HL := Lib.hid (ns_len hns.out)
          have HB := Lib.hid hns.out.bel
          clear hns hrow
          go_wp2_with fail
          refine HL.out.mono ?_
          rintro e W6 ⟨rfl, rfl⟩
          go_wp2_with fail
          go_ret
          exact ⟨rfl, HB.out⟩
        have pi : (i : Int) < (T.length : Int) := by omega
        obtain ⟨p5, cap5, rest5, e5, -, hcel5, -, -, -⟩ := row_blk hrow.out (by omega)
        simp only [Value.slice.injEq] at e5
        obtain ⟨rfl, -, rfl⟩ := e5
        have o0 := hcel5.cell (i := i) (show (intV T ++ rest5)[i]? = some (.int .i64 T[i]) from by rw [List.getElem?_append_left (by rw [intV_len]; exact hlt), intV_at hlt])
        have hdl : (plT (T.drop i)).length = T.length - i := by rw [plT_len, List.length_drop]
        have htk := ns_take hns.out (by rw [hdl]; omega) 0
        have ha0 : amongV 0 (plT (T.drop i)).length = 0 := by unfold amongV; simp
        have hg0 : (plT (T.drop i)).getD 0 noLet = plL T[i] 1 := by rw [plT_at (by rw [List.length_drop]; omega)]; simp
        have he0 : (plT (T.drop i)).eraseIdx 0 = plT (T.drop (i + 1)) := by rw [plT_erase, List.eraseIdx_zero, List.tail_drop]
        rw [ha0, hg0, he0] at htk
        generalize T[i] = ti at o0 htk
        have HTk := Lib.hid htk
        unfold letV at HTk
        clear htk ha0 hg0 he0 hdl hcel5
        go_wp2_with fail
        refine HTk.out.mono ?_
        rintro e W7 ⟨x, rfl, hx0, hxo, hp⟩
        have hxt : Hid (x.l.txn = ti) := Lib.hid (by rw [hx0]; rfl)
        have hal := (Below.refl W7.heap.size W7).alloc (Nat.le_refl _) (.cells #[.int .i64 x.l.kind, .int .i64 x.l.src, .int .i64 x.l.dst, .int .i64 x.l.txn, .int .i64 x.l.ts, .int .i64 x.l.code, .string x.l.text, .slice x.A x.l.keys.length x.c, .slice x.B x.l.ws.length x.d] 35)
        have hX7 : Cel (W7.alloc (.cells #[.int .i64 x.l.kind, .int .i64 x.l.src, .int .i64 x.l.dst, .int .i64 x.l.txn, .int .i64 x.l.ts, .int .i64 x.l.code, .string x.l.text, .slice x.A x.l.keys.length x.c, .slice x.B x.l.ws.length x.d] 35)) W7.heap.size 35 (lcs x) := (blk1 W7 _).2
        have hns8 := hp.toNS.below hal
        have hr8 := st_keep (hp.row hrow.out (fun k hk => hk)) hal
        clear hp hal HTk hx0 hxo hns hrow o0
        go_upto_region 39 with fail
        generalize W7.alloc (.cells #[.int .i64 x.l.kind, .int .i64 x.l.src, .int .i64 x.l.dst, .int .i64 x.l.txn, .int .i64 x.l.ts, .int .i64 x.l.code, .string x.l.text, .slice x.A x.l.keys.length x.c, .slice x.B x.l.ws.length x.d] 35) = W8 at hX7 hns8 hr8 ⊢
        generalize W7.heap.size = q2 at hX7 ⊢
        have x3 := hX7.cell (i := 3) rfl
        rw [hxt.out] at x3
        have HA := Lib.hid hns8
        have HB := Lib.hid hr8
        clear hX7 hns8 hr8 hxt
        go_wp2_with fail
        go_roundw
        case rel => exact ⟨i + 1, by omega, by go_num, HA, HB⟩
        case measure => simp [RowKit.intOf]; omega
    have pj1 : (j : Int) < (L0.length : Int) := by omega
    have pj2 : (j : Int) < 100 := by omega
    obtain ⟨ad, rfl, hadb, hcb⟩ := HAt0.out.below ht.out.ns.bel (by omega)
    have hra := HRg0.out _ (List.getElem_mem hl1)
    obtain ⟨a, ha⟩ : ∃ a, a = L0[j] := ⟨_, rfl⟩
    have e0 := hcb j hl1 0 _ rfl
    have e1 := hcb j hl1 1 _ rfl
    have e2 := hcb j hl1 2 _ rfl
    have e3 := hcb j hl1 3 _ rfl
    have e4 := hcb j hl1 4 _ rfl
    have e5 := hcb j hl1 5 _ rfl
    have e6 := hcb j hl1 6 _ rfl
    have e7 := hcb j hl1 7 _ rfl
    have e8 := hcb j hl1 8 _ rfl
    have e9 := hcb j hl1 9 _ rfl
    have e10 := hcb j hl1 10 _ rfl
    have e11 := hcb j hl1 11 _ rfl
    rw [← ha] at e0 e1 e2 e3 e4 e5 e6 e7 e8 e9 e10 e11 hra
    rw [Nat.add_zero] at e0
    rw [← add_field _ _ _ (by omega)] at e1 e2 e3 e4 e5 e6 e7 e8 e9 e10 e11
    have pk := hra.k
    have pn := hra.n
    clear hcb hra ha hadb
    go_upto_region 9 with fail
    have hal := (Below.refl wr.heap.size wr).alloc (Nat.le_refl _) (.cells (acs a).toArray 37)
    have hX : Cel (wr.alloc (.cells (acs a).toArray 37)) wr.heap.size 37 (acs a) := (blk1 wr _).2
    have hs2 := ht.out.ns.new (M' := fun k => (Value.slice A5 T.length c5).ownBlock = some k ∨ k = wr.heap.size) hal (fun k hk => hk.elim .inl (fun e => .inr (by subst e; exact ⟨Nat.le_refl _, hX.lt⟩)))
    have hr2 := st_keep ht.out.row hal
    have hBq : w.heap.size ≤ wr.heap.size := ht.out.ns.bel.size
    have htl := ht.out.len
    have hrT := ht.out.rg
    unfold acs at hal hX hs2 hr2
    clear e0 e1 e2 e3 e4 e5 e6 e7 e8 e9 e10 e11 hal ht
    generalize wr.alloc (.cells (([.int .i64 a.k, .int .i64 a.n, .int .i64 a.x.l.kind, .int .i64 a.x.l.src, .int .i64 a.x.l.dst, .int .i64 a.x.l.txn, .int .i64 a.x.l.ts, .int .i64 a.x.l.code, .string a.x.l.text, .slice a.x.A a.x.l.keys.length a.x.c, .slice a.x.B a.x.l.ws.length a.x.d, .string a.text] : List Value)).toArray 37) = W3 at hX hs2 hr2 ⊢
    generalize wr.heap.size = q at hX hs2 hBq ⊢
    have x0 := hX.cell (i := 0) rfl
    have x1 := hX.cell (i := 1) rfl
    have hMB : ∀ k, ((Value.slice A5 T.length c5).ownBlock = some k ∨ k = q) → w.heap.size ≤ k := fun k hk => hk.elim (fun e => (row_lt hr2 e).2) (fun e => by omega)
    have HMB := Lib.hid hMB
    have HS2 := Lib.hid hs2
    have HR2 := Lib.hid hr2
    have HTl := Lib.hid htl
    have HRT := Lib.hid hrT
    have HX := Lib.hid hX
    have HA4 := Lib.hid (fun V => among_any a.k 4 V (by omega) (by omega))
    have hc4 := amongV_lt a.k 4 (by omega)
    obtain ⟨cc, hcc⟩ : ∃ cc, amongV a.k 4 = cc := ⟨_, rfl⟩
    rw [hcc] at HA4 hc4
    clear hcc hMB hs2 hr2 hrT hX hBq
    have HPl := Lib.hid (fun V => plain_any ((j : Int) + 1) 1 V)
    unfold letV at HPl
    by_cases hT : T.length = 0
    case pos =>
      have hT2 : T = [] := List.eq_nil_of_length_eq_zero hT
      subst hT2
      clear hT
      have e00 : ([] : List Int).length = 0 := rfl
      simp only [e00] at *
      rcases (show cc = 0 ∨ cc = 1 ∨ cc = 2 ∨ cc = 3 by omega) with rfl | rfl | rfl | rfl
      · clear hc4
        have HA : Hid (∀ V : World, Calls Try.prog 13 #[.int .i64 a.k, .int .i64 4] V fun e w' => e = .returned (.int .i64 0) ∧ w' = V) := HA4
        clear HA4
        go_wp2_with fail
        refine (HA.out _).mono ?_
        rintro e W5 ⟨rfl, rfl⟩
        clear HA
        go_wp2_with fail
        refine (HPl.out _).mono ?_
        rintro e W6 ⟨rfl, hb6⟩
        have hs6 := HS2.out.below hb6
        have hr6 := st_keep HR2.out hb6
        have hok : LetOk (plL ((j : Int) + 1) 1) := plL_ok (by omega) (by omega) (by omega) (by omega)
        have hsn := ns_send hs6 (plI ((j : Int) + 1) 1) (plI_own _ (by omega) (by omega) (by omega) (by omega))
        have HR6 := Lib.hid hr6
        clear hb6 hs6 hr6 HR2 HS2 HPl
        rw [show (plI ((j : Int) + 1) 1).l = plL ((j : Int) + 1) 1 from rfl, send_ok hok (by rw [plT_len]; simp), plT_snoc] at hsn
        have HSn := Lib.hid hsn
        unfold letV at HSn
        clear hsn hok
        go_wp2_with fail
        refine HSn.out.mono ?_
        rintro e W7 ⟨rfl, hp⟩
        have hr7 := hp.row HR6.out (fun k hk => .inl hk)
        have hb8 := (Below.refl W7.heap.size W7).alloc (Nat.le_refl _) (.cells #[.int .i64 ((j : Int) + 1)] 3)
        have HO8 := Lib.hid (st_keep hr7 hb8)
        have HBs := Lib.hid (Nat.le_trans hp.bel.size hb8.size)
        have HP := Lib.hid hp
        have HB8 := Lib.hid hb8
        clear hr7 hb8 hp HR6
        try clear HSn
        go_wp2_with (at_builtin; refine wpList_append_optN rfl _ _ 43 rfl w.heap.size 3 i1 (.int .i64 0) 1 8 Try.underlying43 hi' hz0' hz1' hz2' rfl (by decide) _ _ _ rfl HO8.out (some ⟨W7.heap.size, 0, none⟩) 1 1 [.int .i64 ((j : Int) + 1)] rfl rfl (fun e => by cases e) ?d1 ?d2 ?d3 ?d4 HBs.out ?_)
        case d1 => intro ad e i u hu; cases e; rw [addr_head]; exact (show Cel (W7.alloc _) W7.heap.size 3 [.int .i64 ((j : Int) + 1)] from (blk1 W7 _).2).cell hu
        case d2 => intro u hu; simp at hu; subst hu; rfl
        case d3 => unfold maxLen; omega
        case d4 => omega
        intro v8 W8 ho8 hg8 hat8
        have hp := HP.out
        have hb8 := HB8.out
        clear HP HB8 HO8
        obtain ⟨A8, c8, rfl, -⟩ := row_form ho8
        have hns8 := (hp.toNS.below hb8).row HMB.out (fun k hk => .inl hk) hg8 (by rcases hat8 with h | h; exact .inl h; exact .inr (by rw [h]; simp)) ho8
        have hln : (plT ([] ++ [(j : Int) + 1])).length = 0 + 1 := by rw [plT_len, List.length_append]; rfl
        have hti9 : TI w W8 (.slice A8 (0 + 1) c8) ([] ++ [(j : Int) + 1]) := ⟨hns8, by rw [List.length_append]; show W8.ownsRow _ _ _ _ (0 + 1) _; rw [intV_snoc]; exact ho8, fun t ht => by
          rcases List.mem_append.1 ht with ht | ht
          · exact HRT.out t ht
          · obtain rfl := List.mem_singleton.1 ht
            omega⟩
        have HLn0 := ns_len hns8
        rw [hln] at HLn0
        have HLn := Lib.hid HLn0
        have HNs9 := Lib.hid hti9
        clear HLn0 hti9 hns8 hln ho8 hg8 hat8 hp hb8
        go_wp2_with fail
        refine HLn.out.mono ?_
        rintro e W9 ⟨rfl, rfl⟩
        go_wp2_with fail
        go_roundw
        case rel => exact ⟨j + 1, _, by omega, by go_num, HNs9⟩
        case measure => simp [RowKit.intOf]; omega
      · clear hc4
        have HA : Hid (∀ V : World, Calls Try.prog 13 #[.int .i64 a.k, .int .i64 4] V fun e w' => e = .returned (.int .i64 1) ∧ w' = V) := HA4
        clear HA4
        have HTk := Lib.hid (ns_take0 HS2.out a.n)
        unfold letV noLet at HTk
        go_wp2_with fail
        refine (HA.out _).mono ?_
        rintro e W5 ⟨rfl, rfl⟩
        clear HA
        go_wp2_with fail
        refine HTk.out.mono ?_
        rintro e W7 ⟨rfl, hp⟩
        have hb8 := (Below.refl W7.heap.size W7).alloc (Nat.le_refl _) (.cells #[.int .i64 0, .int .i64 0, .int .i64 0, .int .i64 0, .int .i64 0, .int .i64 0, .string ⟨#[]⟩, .slice none 0 0, .slice none 0 0] 35)
        have hns8 := (hp.toNS.new (M' := fun k => (Value.slice A5 0 c5).ownBlock = some k) (Below.refl _ _) (fun k hk => .inl (.inl hk))).below hb8
        have hr8 := st_keep (hp.row HR2.out (fun k hk => .inl hk)) hb8
        clear hp HTk HS2 HR2 hb8
        go_upto_region 27 with fail
        generalize W7.alloc (.cells #[.int .i64 0, .int .i64 0, .int .i64 0, .int .i64 0, .int .i64 0, .int .i64 0, .string ⟨#[]⟩, .slice none 0 0, .slice none 0 0] 35) = W8 at hns8 hr8 ⊢
        have HNs9 : Hid (TI w W8 (.slice A5 0 c5) []) := Lib.hid ⟨hns8, hr8, HRT.out⟩
        clear hns8 hr8
        go_wp2_with fail
        go_roundw
        case rel => exact ⟨j + 1, _, by omega, by go_num, HNs9⟩
        case measure => simp [RowKit.intOf]; omega
      · clear hc4
        have HA : Hid (∀ V : World, Calls Try.prog 13 #[.int .i64 a.k, .int .i64 4] V fun e w' => e = .returned (.int .i64 2) ∧ w' = V) := HA4
        clear HA4
        have HTk := Lib.hid (ns_take0 HS2.out a.n)
        unfold letV noLet at HTk
        go_wp2_with fail
        refine (HA.out _).mono ?_
        rintro e W5 ⟨rfl, rfl⟩
        clear HA
        go_wp2_with fail
        refine HTk.out.mono ?_
        rintro e W7 ⟨rfl, hp⟩
        have hb8 := (Below.refl W7.heap.size W7).alloc (Nat.le_refl _) (.cells #[.int .i64 0, .int .i64 0, .int .i64 0, .int .i64 0, .int .i64 0, .int .i64 0, .string ⟨#[]⟩, .slice none 0 0, .slice none 0 0] 35)
        have hns8 := (hp.toNS.new (M' := fun k => (Value.slice A5 0 c5).ownBlock = some k) (Below.refl _ _) (fun k hk => .inl (.inl hk))).below hb8
        have hr8 := st_keep (hp.row HR2.out (fun k hk => .inl hk)) hb8
        clear hp HTk HS2 HR2 hb8
        go_upto_region 27 with fail
        generalize W7.alloc (.cells #[.int .i64 0, .int .i64 0, .int .i64 0, .int .i64 0, .int .i64 0, .int .i64 0, .string ⟨#[]⟩, .slice none 0 0, .slice none 0 0] 35) = W8 at hns8 hr8 ⊢
        have HNs9 : Hid (TI w W8 (.slice A5 0 c5) []) := Lib.hid ⟨hns8, hr8, HRT.out⟩
        clear hns8 hr8
        go_wp2_with fail
        go_roundw
        case rel => exact ⟨j + 1, _, by omega, by go_num, HNs9⟩
        case measure => simp [RowKit.intOf]; omega
      · clear hc4
        have HA : Hid (∀ V : World, Calls Try.prog 13 #[.int .i64 a.k, .int .i64 4] V fun e w' => e = .returned (.int .i64 3) ∧ w' = V) := HA4
        clear HA4
        have htk := ns_copy HS2.out a.n
        rw [show copyL 40 (plT []) a.n = (plT [], 5) from rfl] at htk
        have HTk := Lib.hid htk
        clear htk
        go_wp2_with fail
        refine (HA.out _).mono ?_
        rintro e W5 ⟨rfl, rfl⟩
        clear HA
        go_wp2_with fail
        refine HTk.out.mono ?_
        rintro e W7 ⟨rfl, hp⟩
        clear HTk
        have hns7 := hp.toNS.new (M' := fun k => (Value.slice A5 0 c5).ownBlock = some k) (Below.refl _ _) (fun k hk => .inl (.inl hk))
        have hr7 := hp.row HR2.out (fun k hk => .inl hk)
        have hti9 : TI w W7 (.slice A5 0 c5) [] := ⟨hns7, hr7, HRT.out⟩
        have HLn0 := ns_len hns7
        rw [show (plT []).length = 0 from plT_len _] at HLn0
        have HLn := Lib.hid HLn0
        have HNs9 := Lib.hid hti9
        clear HLn0 hti9 hns7 hr7 hp
        go_wp2_with fail
        refine HLn.out.mono ?_
        rintro e W9 ⟨rfl, rfl⟩
        go_wp2_with fail
        go_roundw
        case rel => exact ⟨j + 1, _, by omega, by go_num, HNs9⟩
        case measure => simp [RowKit.intOf]; omega
    have hT1 : 1 ≤ T.length := by omega
    clear hT
    obtain ⟨p5, cap5, rest5, e5, -, hcel5, hcap5, hmx5, -⟩ := row_blk HR2.out (by omega)
    simp only [Value.slice.injEq] at e5
    obtain ⟨rfl, -, rfl⟩ := e5
    obtain ⟨i, hi⟩ : ∃ i, amongV a.n T.length = i := ⟨_, rfl⟩
    have hil := amongV_lt a.n T.length hT1
    have HAn := Lib.hid (fun V => among_any a.n T.length V hT1 (by omega))
    have HIdx : Hid (amongV a.n (plT T).length = i) := Lib.hid (by rw [plT_len, hi])
    rw [hi] at hil HAn
    have HCel5 := Lib.hid hcel5
    have p0 : (T.length : Int) > 0 := by omega
    have pil : (i : Int) < (T.length : Int) := by omega
    clear hi hcel5
    rcases (show cc = 0 ∨ cc = 1 ∨ cc = 2 ∨ cc = 3 by omega) with rfl | rfl | rfl | rfl
    · clear hc4
      have HA : Hid (∀ V : World, Calls Try.prog 13 #[.int .i64 a.k, .int .i64 4] V fun e w' => e = .returned (.int .i64 0) ∧ w' = V) := HA4
      clear HA4
      go_wp2_with fail
      refine (HAn.out _).mono ?_
      rintro e W4 ⟨rfl, rfl⟩
      clear HAn
      go_wp2_with fail
      refine (HA.out _).mono ?_
      rintro e W5 ⟨rfl, rfl⟩
      clear HA
      go_wp2_with fail
      refine (HPl.out _).mono ?_
      rintro e W6 ⟨rfl, hb6⟩
      have hs6 := HS2.out.below hb6
      have hr6 := st_keep HR2.out hb6
      have hok : LetOk (plL ((j : Int) + 1) 1) := plL_ok (by omega) (by omega) (by omega) (by omega)
      have hsn := ns_send hs6 (plI ((j : Int) + 1) 1) (plI_own _ (by omega) (by omega) (by omega) (by omega))
      have HR6 := Lib.hid hr6
      clear hb6 hs6 hr6 HR2 HS2 HPl
      by_cases hlt : T.length < 40
      case pos =>
        have plt : (T.length : Int) < 40 := by omega
        rw [show (plI ((j : Int) + 1) 1).l = plL ((j : Int) + 1) 1 from rfl, send_ok hok (by rw [plT_len]; omega), plT_snoc] at hsn
        have HSn := Lib.hid hsn
        unfold letV at HSn
        clear hsn hok
        go_wp2_with fail
        refine HSn.out.mono ?_
        rintro e W7 ⟨rfl, hp⟩
        have hr7 := hp.row HR6.out (fun k hk => .inl hk)
        have hb8 := (Below.refl W7.heap.size W7).alloc (Nat.le_refl _) (.cells #[.int .i64 ((j : Int) + 1)] 3)
        have HO8 := Lib.hid (st_keep hr7 hb8)
        have HBs := Lib.hid (Nat.le_trans hp.bel.size hb8.size)
        have HP := Lib.hid hp
        have HB8 := Lib.hid hb8
        clear hr7 hb8 hp HR6
        try clear HSn
        go_wp2_with (at_builtin; refine wpList_append_optN rfl _ _ 43 rfl w.heap.size 3 i1 (.int .i64 0) 1 8 Try.underlying43 hi' hz0' hz1' hz2' rfl (by decide) _ _ _ rfl HO8.out (some ⟨W7.heap.size, 0, none⟩) 1 1 [.int .i64 ((j : Int) + 1)] rfl rfl (fun e => by cases e) ?d1 ?d2 ?d3 ?d4 HBs.out ?_)
        case d1 => intro ad e i u hu; cases e; rw [addr_head]; exact (show Cel (W7.alloc _) W7.heap.size 3 [.int .i64 ((j : Int) + 1)] from (blk1 W7 _).2).cell hu
        case d2 => intro u hu; simp at hu; subst hu; rfl
        case d3 => unfold maxLen; omega
        case d4 => omega
        intro v8 W8 ho8 hg8 hat8
        have hp := HP.out
        have hb8 := HB8.out
        clear HP HB8 HO8
        obtain ⟨A8, c8, rfl, -⟩ := row_form ho8
        have hns8 := (hp.toNS.below hb8).row HMB.out (fun k hk => .inl hk) hg8 (by rcases hat8 with h | h; exact .inl h; exact .inr (by rw [h]; simp)) ho8
        have hln : (plT (T ++ [(j : Int) + 1])).length = T.length + 1 := by rw [plT_len, List.length_append]; rfl
        have hti9 : TI w W8 (.slice A8 (T.length + 1) c8) (T ++ [(j : Int) + 1]) := ⟨hns8, by rw [List.length_append]; show W8.ownsRow _ _ _ _ (T.length + 1) _; rw [intV_snoc]; exact ho8, fun t ht => by
          rcases List.mem_append.1 ht with ht | ht
          · exact HRT.out t ht
          · obtain rfl := List.mem_singleton.1 ht
            omega⟩
        have HLn0 := ns_len hns8
        rw [hln] at HLn0
        have HLn := Lib.hid HLn0
        have HNs9 := Lib.hid hti9
        clear HLn0 hti9 hns8 hln ho8 hg8 hat8 hp hb8
        go_wp2_with fail
        refine HLn.out.mono ?_
        rintro e W9 ⟨rfl, rfl⟩
        go_wp2_with fail
        go_roundw
        case rel => exact ⟨j + 1, _, by omega, by go_num, HNs9⟩
        case measure => simp [RowKit.intOf]; omega
      have pge : ¬ (T.length : Int) < 40 := by omega
      rw [show (plI ((j : Int) + 1) 1).l = plL ((j : Int) + 1) 1 from rfl, send_full hok (by rw [plT_len]; omega)] at hsn
      have HSn := Lib.hid hsn
      unfold letV at HSn
      clear hsn hok hlt
      go_wp2_with fail
      refine HSn.out.mono ?_
      rintro e W7 ⟨rfl, hp⟩
      clear HSn
      have HR2 := HR6
      clear HR6
      have hns7 := hp.toNS.new (M' := fun k => (Value.slice (some ⟨p5, 0, none⟩) T.length c5).ownBlock = some k) (Below.refl _ _) (fun k hk => .inl (.inl hk))
      have hr7 := hp.row HR2.out (fun k hk => .inl hk)
      have hti9 : TI w W7 (.slice (some ⟨p5, 0, none⟩) T.length c5) T := ⟨hns7, hr7, HRT.out⟩
      have HLn0 := ns_len hns7
      rw [show (plT T).length = T.length from plT_len _] at HLn0
      have HLn := Lib.hid HLn0
      have HNs9 := Lib.hid hti9
      clear HLn0 hti9 hns7 hr7 hp
      go_wp2_with fail
      refine HLn.out.mono ?_
      rintro e W9 ⟨rfl, rfl⟩
      go_wp2_with fail
      go_roundw
      case rel => exact ⟨j + 1, _, by omega, by go_num, HNs9⟩
      case measure => simp [RowKit.intOf]; omega
    · clear hc4
      have HA : Hid (∀ V : World, Calls Try.prog 13 #[.int .i64 a.k, .int .i64 4] V fun e w' => e = .returned (.int .i64 1) ∧ w' = V) := HA4
      clear HA4
      have htk := ns_take HS2.out (by rw [plT_len]; exact hT1) a.n
      rw [HIdx.out, plT_at hil, plT_erase] at htk
      have HTk := Lib.hid htk
      unfold letV at HTk
      clear htk
      go_wp2_with fail
      refine (HAn.out _).mono ?_
      rintro e W4 ⟨rfl, rfl⟩
      clear HAn
      go_wp2_with fail
      refine (HA.out _).mono ?_
      rintro e W5 ⟨rfl, rfl⟩
      clear HA
      go_wp2_with fail
      refine HTk.out.mono ?_
      rintro e W7 ⟨x, rfl, hx0, hxo, hp⟩
      have hx := Lib.hid hx0
      clear hx0
      have hal := (Below.refl W7.heap.size W7).alloc (Nat.le_refl _) (.cells #[.int .i64 x.l.kind, .int .i64 x.l.src, .int .i64 x.l.dst, .int .i64 x.l.txn, .int .i64 x.l.ts, .int .i64 x.l.code, .string x.l.text, .slice x.A x.l.keys.length x.c, .slice x.B x.l.ws.length x.d] 35)
      have hX7 : Cel (W7.alloc (.cells #[.int .i64 x.l.kind, .int .i64 x.l.src, .int .i64 x.l.dst, .int .i64 x.l.txn, .int .i64 x.l.ts, .int .i64 x.l.code, .string x.l.text, .slice x.A x.l.keys.length x.c, .slice x.B x.l.ws.length x.d] 35)) W7.heap.size 35 (lcs x) := (blk1 W7 _).2
      have hns8 := hp.toNS.below hal
      have hr8 := st_keep (hp.row HR2.out (fun k hk => .inl hk)) hal
      have hc8 := ((hp.keep p5 (.inl rfl)).trans HCel5.out)
      have hc8 : Cel W7 p5 3 (intV T ++ rest5) := hc8
      have hc8 := hc8.below hal
      clear hp hal HTk HS2 HR2 HCel5 hxo HPl
      go_upto_region 30 with fail
      generalize W7.alloc (.cells #[.int .i64 x.l.kind, .int .i64 x.l.src, .int .i64 x.l.dst, .int .i64 x.l.txn, .int .i64 x.l.ts, .int .i64 x.l.code, .string x.l.text, .slice x.A x.l.keys.length x.c, .slice x.B x.l.ws.length x.d] 35) = W8 at hX7 hns8 hr8 hc8 ⊢
      generalize W7.heap.size = q2 at hX7 ⊢
      have HPt := Lib.hid (fun V => plain_any (T[i]) 1 V)
      have hn1 : x.l.keys = [] := by rw [hx.out]; rfl
      have hn2 : x.l.ws = [] := by rw [hx.out]; rfl
      have HSm := Lib.hid (fun V => sameLet_any x.A x.B none none x.c x.d 0 0 x.l (plL (T[i]) 1) V (by rw [hn1]; exact nil_strs _ _) (by rw [hn2]; exact nil_wrs _ _) (nil_strs _ _) (nil_wrs _ _) (by rw [hn1]; simp) (by rw [hn2]; simp))
      rw [sameB_true hx.out] at HSm
      have hti : (intV T ++ rest5)[i]? = some (.int .i64 T[i]) := by rw [List.getElem?_append_left (by rw [intV_len]; exact hil), intV_at hil]
      have o0 := hc8.cell (i := i) hti
      generalize T[i] = ti at HPt HSm o0
      unfold letV at HPt HSm
      have hn3 : (plI ti 1).l = plL ti 1 := rfl
      have z0 := hX7.cell (i := 0) rfl
      have z1 := hX7.cell (i := 1) rfl
      have z2 := hX7.cell (i := 2) rfl
      have z3 := hX7.cell (i := 3) rfl
      have z4 := hX7.cell (i := 4) rfl
      have z5 := hX7.cell (i := 5) rfl
      have z6 := hX7.cell (i := 6) rfl
      have z7 := hX7.cell (i := 7) rfl
      have z8 := hX7.cell (i := 8) rfl
      have HX7 := Lib.hid (And.intro hX7 (And.intro hns8 (And.intro hr8 hc8)))
      have HKeep : Hid (∀ V, Below W8.heap.size W8 V → V.cell? ⟨q2, 0, none⟩ = W8.cell? ⟨q2, 0, none⟩ ∧ V.cell? ⟨q2, 1, none⟩ = W8.cell? ⟨q2, 1, none⟩ ∧ V.cell? ⟨q2, 2, none⟩ = W8.cell? ⟨q2, 2, none⟩ ∧ V.cell? ⟨q2, 3, none⟩ = W8.cell? ⟨q2, 3, none⟩ ∧ V.cell? ⟨q2, 4, none⟩ = W8.cell? ⟨q2, 4, none⟩ ∧ V.cell? ⟨q2, 5, none⟩ = W8.cell? ⟨q2, 5, none⟩ ∧ V.cell? ⟨q2, 6, none⟩ = W8.cell? ⟨q2, 6, none⟩ ∧ V.cell? ⟨q2, 7, none⟩ = W8.cell? ⟨q2, 7, none⟩ ∧ V.cell? ⟨q2, 8, none⟩ = W8.cell? ⟨q2, 8, none⟩ ∧ V.cell? ⟨p5, i, none⟩ = W8.cell? ⟨p5, i, none⟩) := Lib.hid (fun V hb => ⟨cell_kept hb _ hX7.lt, cell_kept hb _ hX7.lt, cell_kept hb _ hX7.lt, cell_kept hb _ hX7.lt, cell_kept hb _ hX7.lt, cell_kept hb _ hX7.lt, cell_kept hb _ hX7.lt, cell_kept hb _ hX7.lt, cell_kept hb _ hX7.lt, cell_kept hb _ hc8.lt⟩)
      clear hX7 hns8 hr8 hc8 hn1 hn2 hti hx hn3
      go_region_held3 (fun w' => w'.cell? ⟨q2, 0, none⟩ = some (.int .i64 x.l.kind) ∧ w'.cell? ⟨q2, 1, none⟩ = some (.int .i64 x.l.src) ∧ w'.cell? ⟨q2, 2, none⟩ = some (.int .i64 x.l.dst) ∧ w'.cell? ⟨q2, 3, none⟩ = some (.int .i64 x.l.txn) ∧ w'.cell? ⟨q2, 4, none⟩ = some (.int .i64 x.l.ts) ∧ w'.cell? ⟨q2, 5, none⟩ = some (.int .i64 x.l.code) ∧ w'.cell? ⟨q2, 6, none⟩ = some (.string x.l.text) ∧ w'.cell? ⟨q2, 7, none⟩ = some (.slice x.A x.l.keys.length x.c) ∧ w'.cell? ⟨q2, 8, none⟩ = some (.slice x.B x.l.ws.length x.d) ∧ w'.cell? ⟨p5, i, none⟩ = some (.int .i64 ti))
        (first | (refine ⟨?_, ?_, ?_, ?_, ?_, ?_, ?_, ?_, ?_, ?_⟩ <;> assumption) | go_keep)
        (first
          | (go_at_call 17
             refine (HSm.out _).mono ?_
             rintro e W11 ⟨rfl, hb11⟩
             have HB11 := Lib.hid (HB9.out.trans (hb11.mono HB9.out.size))
             obtain ⟨m0, m1, m2, m3, m4, m5, m6, m7, m8, m9⟩ := HKeep.out _ HB11.out
             rw [z0] at m0; rw [z1] at m1; rw [z2] at m2; rw [z3] at m3; rw [z4] at m4; rw [z5] at m5; rw [z6] at m6; rw [z7] at m7; rw [z8] at m8; rw [o0] at m9
             clear hb11)
          | (go_at_call 15
             refine (HPt.out _).mono ?_
             rintro e W9 ⟨rfl, hb9⟩
             have HB9 := Lib.hid (show Below W8.heap.size W8 W9 from by first | exact (Below.refl _ _).drew.trans hb9 | exact hb9)
             obtain ⟨m0, m1, m2, m3, m4, m5, m6, m7, m8, m9⟩ := HKeep.out _ HB9.out
             rw [z0] at m0; rw [z1] at m1; rw [z2] at m2; rw [z3] at m3; rw [z4] at m4; rw [z5] at m5; rw [z6] at m6; rw [z7] at m7; rw [z8] at m8; rw [o0] at m9
             clear hb9))
      all_goals
        have hns9 := HX7.out.2.1.below HB11.out
        have hr9 := st_keep HX7.out.2.2.1 HB11.out
        have hc9 := HX7.out.2.2.2.below HB11.out
        clear HX7 HKeep HB9 HB11 z0 z1 z2 z3 z4 z5 z6 z7 z8 o0 HPt HSm
        try clear m0 m1 m2 m3 m4 m5 m6 m7 m8 m9
        have HNs := Lib.hid hns9
        have HRw := Lib.hid hr9
        have HCl := Lib.hid hc9
        have HBs := Lib.hid hns9.bel.size
        clear hns9 hr9 hc9
        have pw : IntKind.i64.wrap ((i : Int) + 1) = (i : Int) + 1 := by rw [i64_wrap2 (by omega) (by omega)]
        have f2 := slice_toN 43 3 i1 (by kernel_rfl) (by kernel_rfl) hi' (some ⟨p5, 0, none⟩) T.length c5 i (Nat.le_trans (Nat.le_of_lt hil) hcap5)
        obtain ⟨A6, c6, f3, hd6, hn6, hl6, hc6⟩ := slice_fromN 43 3 i1 (by kernel_rfl) (by kernel_rfl) hi' 1 hz1' (some ⟨p5, 0, none⟩) T.length c5 (i + 1) hil hcap5 (fun e => by cases e)
        rw [show ((i + 1 : Nat) : Int) = (i : Int) + 1 by omega] at f3
        have HD6 := Lib.hid (fun (V : World) (hV : Cel V p5 3 (intV T ++ rest5)) => hd6 V (fun _ => False) (intV T) (by rw [intV_len, Nat.mul_one]) (fun hp => ⟨⟨p5, 0, none⟩, rfl, hV.lt, fun h => h, fun j v hv => by rw [addr_head]; exact hV.cell (by rw [List.getElem?_append_left (List.getElem?_eq_some_iff.1 hv).1]; exact hv)⟩))
        have HN6 := Lib.hid (And.intro hn6 (And.intro hl6 hc6))
        clear hd6 hn6 hl6 hc6
        go_upto_region 32 with fail
        have HWn := Lib.hid (@Below.refl W11.heap.size W11)
        refine wp_region_said 9 [127, 128, 129, 130, 131, 132, 133, 134, 135]
          [.arr 3 #[] 0 0, .is (.slice (some ⟨p5, 0, none⟩) T.length c5), .is (.int .i64 (i : Int)), .is (.slice (some ⟨p5, 0, none⟩) i c5), .own (fun v V => V.ownsRow W11.heap.size 3 1 v i (intV (T.take i))) (fun v V V' h hb => st_keep h hb), .is (.slice (some ⟨p5, 0, none⟩) T.length c5), .is (.int .i64 (i : Int)), .is (.int .i64 ((i : Int) + 1)), .is (.slice A6 (T.length - (i + 1)) c6)]
          (fun V => Below W11.heap.size W11 V) (by kernel_rfl) (by kernel_rfl) (by kernel_rfl) (by kernel_rfl) (by kernel_rfl) (fun V V' h hb => h.trans (hb.mono h.size)) (Below.refl _ _) ?steps ?last
        case steps =>
          simp only [List.take_succ_cons, List.take_zero]
          refine ⟨?_, ?_, ?_, ?_, ?_, ?_, ?_, ?_, ?_, trivial⟩
          all_goals
            intro vs V ρ hρ hcn hf hg hI hH hd R' hR
            have HR := Lib.hid hR
            have HI := Lib.hid hI
            simp [depsOf, Region.binds, sayAt, Say.holds] at hd
            clear hR hI
          case refine_5 =>
            obtain ⟨⟨o, ho1, ho2, hd1, ho⟩, hd2⟩ := hd
            have hVc := HCl.out.below HI.out
            have htk : (intV T).take i = intV (T.take i) := by unfold intV; rw [List.map_take]
            obtain ⟨v', w', hr, h2, h3⟩ := run_append_emptyN (P := Try.prog) V W11.heap.size 43 43 3 i1 (.int .i64 0) 1 8 Try.underlying43 hi' hz0' hz1' hz2' rfl (by decide) o ho ho1 (some ⟨p5, 0, none⟩) i c5 (intV (T.take i)) (by rw [intV_len, List.length_take, Nat.min_eq_left (Nat.le_of_lt hil), Nat.mul_one]) (fun e => by cases e) (fun ad e j u hu => by
              cases e
              rw [addr_head]
              refine hVc.cell ?_
              rw [← htk] at hu
              have hj := (List.getElem?_eq_some_iff.1 hu).1
              rw [List.length_take, intV_len] at hj
              rw [List.getElem?_take_of_lt (by omega)] at hu
              rw [List.getElem?_append_left (by rw [intV_len]; omega)]
              exact hu) (fun u hu => by obtain ⟨z, _, rfl⟩ := List.mem_map.1 hu; rfl) (by have := HTl.out; unfold maxLen; omega) (by have := HTl.out; omega)
            have e0 : ρ (.tmp 127) = .slice (some ⟨o, 0, none⟩) 0 0 := by rw [hρ]; simp [pick, hd1]
            have e9 : ρ (.tmp 130) = .slice (some ⟨p5, 0, none⟩) i c5 := by rw [hρ]; simp [pick, hd2]
            rw [if_pos (by simp [Region.wanted])]
            unfold execOp
            simp only [resolve, invoke, builtin, Sem.run_bind, Sem.run_pure, Result.andThen_ok, List.map_toArray, List.map_cons, List.map_nil, e0, e9, hr, floatUpon]
            exact HR.out _ _ h2 h3 (fun h => by cases h)
          all_goals
            go_simp
            first
              | exact HR.out _ _ (by simp [sayAt, Say.holds]) (Below.refl _ _) (by simp [sayAt, Say.isBlk])
              | exact HR.out _ _ ⟨_, hH, by simp, rfl, heap_alloc_new _ _⟩ ((Below.refl _ _).alloc (Nat.le_refl _) _) (fun h => by cases h)
        case last =>
          intro vs V hI hb hg hd
          have g4 := hg 4 (by omega)
          have g8 := hg 8 (by omega)
          simp only [sayAt, Say.holds, List.getD_cons_succ, List.getD_cons_zero] at g4 g8
          simp only [List.take_succ_cons, List.take_zero, List.drop_succ_cons, List.drop_zero, putAll, Act.put, List.setIfInBounds_toArray, List.set_cons_succ, List.set_cons_zero, Nat.zero_add, Nat.reduceAdd]
          rw [g8]
          have HI := Lib.hid hI
          generalize vs 4 = v4 at g4 ⊢
          have hdr : (intV T).drop (i + 1) = intV (T.drop (i + 1)) := by unfold intV; rw [List.map_drop]
          have h6 := HD6.out V (HCl.out.below hI)
          rw [Nat.mul_one, hdr] at h6
          clear g8 hg hd hI hb f2 f3
          have hlT := HTl.out
          refine wpList_append_optN rfl _ _ 43 rfl W11.heap.size 3 i1 (.int .i64 0) 1 8 Try.underlying43 hi' hz0' hz1' hz2' rfl (by decide) v4 i _ rfl g4 A6 (T.length - (i + 1)) c6 (intV (T.drop (i + 1))) rfl (by rw [intV_len, List.length_drop, Nat.mul_one]) HN6.out.1 (fun ad e => by subst e; exact h6.news) (fun u hu => by obtain ⟨z, _, rfl⟩ := List.mem_map.1 hu; rfl) ?d3 ?d4 HI.out.size ?_
          case d3 => unfold maxLen; omega
          case d4 => omega
          intro v8 W12 ho8 hg8 hat8
          obtain ⟨A8, c8, rfl, -⟩ := row_form ho8
          have hnl : i + (T.length - (i + 1)) = T.length - 1 := by omega
          rw [hnl] at ho8 ⊢
          have her : T.eraseIdx i = T.take i ++ T.drop (i + 1) := List.eraseIdx_eq_take_drop_succ T i
          have hel : (T.eraseIdx i).length = T.length - 1 := List.length_eraseIdx_of_lt hil
          have hbw : Below W11.heap.size W11 W12 := HI.out.grown hg8 HI.out.size (fun k hk => (row_lt g4 hk).2)
          have hns8 : NS w W12 (fun k => (Value.slice A8 (T.length - 1) c8).ownBlock = some k) w.heap.size 40 (plT (T.eraseIdx i)) := HNs.out.new hbw (fun k hk => .inr ⟨(row_lt ho8 hk).2, (row_lt ho8 hk).1⟩)
          have hti9 : TI w W12 (.slice A8 (T.length - 1) c8) (T.eraseIdx i) := ⟨hns8, by rw [hel, her]; unfold intV; rw [List.map_append]; exact row_mono ho8 HBs.out, fun t ht => HRT.out t ((List.eraseIdx_sublist T i).subset ht)⟩
          have HLn0 := ns_len hns8
          rw [plT_len, hel] at HLn0
          have HLn := Lib.hid HLn0
          have HNs9 := Lib.hid hti9
          clear HLn0 hti9 hns8 hel her hnl ho8 hg8 hat8 g4 h6 HNs HRw HCl hbw
          go_wp2_with fail
          refine HLn.out.mono ?_
          rintro e W13 ⟨rfl, rfl⟩
          go_wp2_with fail
          go_roundw
          case rel => exact ⟨j + 1, _, by omega, by go_num, HNs9⟩
          case measure => simp [RowKit.intOf]; omega
    · clear hc4
      have HA : Hid (∀ V : World, Calls Try.prog 13 #[.int .i64 a.k, .int .i64 4] V fun e w' => e = .returned (.int .i64 2) ∧ w' = V) := HA4
      clear HA4
      have htk := ns_take HS2.out (by rw [plT_len]; exact hT1) a.n
      rw [HIdx.out, plT_at hil, plT_erase] at htk
      have HTk := Lib.hid htk
      unfold letV at HTk
      clear htk
      go_wp2_with fail
      refine (HAn.out _).mono ?_
      rintro e W4 ⟨rfl, rfl⟩
      clear HAn
      go_wp2_with fail
      refine (HA.out _).mono ?_
      rintro e W5 ⟨rfl, rfl⟩
      clear HA
      go_wp2_with fail
      refine HTk.out.mono ?_
      rintro e W7 ⟨x, rfl, hx0, hxo, hp⟩
      have hx := Lib.hid hx0
      clear hx0
      have hal := (Below.refl W7.heap.size W7).alloc (Nat.le_refl _) (.cells #[.int .i64 x.l.kind, .int .i64 x.l.src, .int .i64 x.l.dst, .int .i64 x.l.txn, .int .i64 x.l.ts, .int .i64 x.l.code, .string x.l.text, .slice x.A x.l.keys.length x.c, .slice x.B x.l.ws.length x.d] 35)
      have hX7 : Cel (W7.alloc (.cells #[.int .i64 x.l.kind, .int .i64 x.l.src, .int .i64 x.l.dst, .int .i64 x.l.txn, .int .i64 x.l.ts, .int .i64 x.l.code, .string x.l.text, .slice x.A x.l.keys.length x.c, .slice x.B x.l.ws.length x.d] 35)) W7.heap.size 35 (lcs x) := (blk1 W7 _).2
      have hns8 := hp.toNS.below hal
      have hr8 := st_keep (hp.row HR2.out (fun k hk => .inl hk)) hal
      have hc8 := ((hp.keep p5 (.inl rfl)).trans HCel5.out)
      have hc8 : Cel W7 p5 3 (intV T ++ rest5) := hc8
      have hc8 := hc8.below hal
      clear hp hal HTk HS2 HR2 HCel5 hxo HPl
      go_upto_region 30 with fail
      generalize W7.alloc (.cells #[.int .i64 x.l.kind, .int .i64 x.l.src, .int .i64 x.l.dst, .int .i64 x.l.txn, .int .i64 x.l.ts, .int .i64 x.l.code, .string x.l.text, .slice x.A x.l.keys.length x.c, .slice x.B x.l.ws.length x.d] 35) = W8 at hX7 hns8 hr8 hc8 ⊢
      generalize W7.heap.size = q2 at hX7 ⊢
      have HPt := Lib.hid (fun V => plain_any (T[i]) 1 V)
      have hn1 : x.l.keys = [] := by rw [hx.out]; rfl
      have hn2 : x.l.ws = [] := by rw [hx.out]; rfl
      have HSm := Lib.hid (fun V => sameLet_any x.A x.B none none x.c x.d 0 0 x.l (plL (T[i]) 1) V (by rw [hn1]; exact nil_strs _ _) (by rw [hn2]; exact nil_wrs _ _) (nil_strs _ _) (nil_wrs _ _) (by rw [hn1]; simp) (by rw [hn2]; simp))
      rw [sameB_true hx.out] at HSm
      have hti : (intV T ++ rest5)[i]? = some (.int .i64 T[i]) := by rw [List.getElem?_append_left (by rw [intV_len]; exact hil), intV_at hil]
      have o0 := hc8.cell (i := i) hti
      generalize T[i] = ti at HPt HSm o0
      unfold letV at HPt HSm
      have hn3 : (plI ti 1).l = plL ti 1 := rfl
      have z0 := hX7.cell (i := 0) rfl
      have z1 := hX7.cell (i := 1) rfl
      have z2 := hX7.cell (i := 2) rfl
      have z3 := hX7.cell (i := 3) rfl
      have z4 := hX7.cell (i := 4) rfl
      have z5 := hX7.cell (i := 5) rfl
      have z6 := hX7.cell (i := 6) rfl
      have z7 := hX7.cell (i := 7) rfl
      have z8 := hX7.cell (i := 8) rfl
      have HX7 := Lib.hid (And.intro hX7 (And.intro hns8 (And.intro hr8 hc8)))
      have HKeep : Hid (∀ V, Below W8.heap.size W8 V → V.cell? ⟨q2, 0, none⟩ = W8.cell? ⟨q2, 0, none⟩ ∧ V.cell? ⟨q2, 1, none⟩ = W8.cell? ⟨q2, 1, none⟩ ∧ V.cell? ⟨q2, 2, none⟩ = W8.cell? ⟨q2, 2, none⟩ ∧ V.cell? ⟨q2, 3, none⟩ = W8.cell? ⟨q2, 3, none⟩ ∧ V.cell? ⟨q2, 4, none⟩ = W8.cell? ⟨q2, 4, none⟩ ∧ V.cell? ⟨q2, 5, none⟩ = W8.cell? ⟨q2, 5, none⟩ ∧ V.cell? ⟨q2, 6, none⟩ = W8.cell? ⟨q2, 6, none⟩ ∧ V.cell? ⟨q2, 7, none⟩ = W8.cell? ⟨q2, 7, none⟩ ∧ V.cell? ⟨q2, 8, none⟩ = W8.cell? ⟨q2, 8, none⟩ ∧ V.cell? ⟨p5, i, none⟩ = W8.cell? ⟨p5, i, none⟩) := Lib.hid (fun V hb => ⟨cell_kept hb _ hX7.lt, cell_kept hb _ hX7.lt, cell_kept hb _ hX7.lt, cell_kept hb _ hX7.lt, cell_kept hb _ hX7.lt, cell_kept hb _ hX7.lt, cell_kept hb _ hX7.lt, cell_kept hb _ hX7.lt, cell_kept hb _ hX7.lt, cell_kept hb _ hc8.lt⟩)
      clear hX7 hns8 hr8 hc8 hn1 hn2 hti hx hn3
      go_region_held3 (fun w' => w'.cell? ⟨q2, 0, none⟩ = some (.int .i64 x.l.kind) ∧ w'.cell? ⟨q2, 1, none⟩ = some (.int .i64 x.l.src) ∧ w'.cell? ⟨q2, 2, none⟩ = some (.int .i64 x.l.dst) ∧ w'.cell? ⟨q2, 3, none⟩ = some (.int .i64 x.l.txn) ∧ w'.cell? ⟨q2, 4, none⟩ = some (.int .i64 x.l.ts) ∧ w'.cell? ⟨q2, 5, none⟩ = some (.int .i64 x.l.code) ∧ w'.cell? ⟨q2, 6, none⟩ = some (.string x.l.text) ∧ w'.cell? ⟨q2, 7, none⟩ = some (.slice x.A x.l.keys.length x.c) ∧ w'.cell? ⟨q2, 8, none⟩ = some (.slice x.B x.l.ws.length x.d) ∧ w'.cell? ⟨p5, i, none⟩ = some (.int .i64 ti))
        (first | (refine ⟨?_, ?_, ?_, ?_, ?_, ?_, ?_, ?_, ?_, ?_⟩ <;> assumption) | go_keep)
        (first
          | (go_at_call 17
             refine (HSm.out _).mono ?_
             rintro e W11 ⟨rfl, hb11⟩
             have HB11 := Lib.hid (HB9.out.trans (hb11.mono HB9.out.size))
             obtain ⟨m0, m1, m2, m3, m4, m5, m6, m7, m8, m9⟩ := HKeep.out _ HB11.out
             rw [z0] at m0; rw [z1] at m1; rw [z2] at m2; rw [z3] at m3; rw [z4] at m4; rw [z5] at m5; rw [z6] at m6; rw [z7] at m7; rw [z8] at m8; rw [o0] at m9
             clear hb11)
          | (go_at_call 15
             refine (HPt.out _).mono ?_
             rintro e W9 ⟨rfl, hb9⟩
             have HB9 := Lib.hid (show Below W8.heap.size W8 W9 from by first | exact (Below.refl _ _).drew.trans hb9 | exact hb9)
             obtain ⟨m0, m1, m2, m3, m4, m5, m6, m7, m8, m9⟩ := HKeep.out _ HB9.out
             rw [z0] at m0; rw [z1] at m1; rw [z2] at m2; rw [z3] at m3; rw [z4] at m4; rw [z5] at m5; rw [z6] at m6; rw [z7] at m7; rw [z8] at m8; rw [o0] at m9
             clear hb9))
      all_goals
        have hns9 := HX7.out.2.1.below HB11.out
        have hr9 := st_keep HX7.out.2.2.1 HB11.out
        have hc9 := HX7.out.2.2.2.below HB11.out
        clear HX7 HKeep HB9 HB11 z0 z1 z2 z3 z4 z5 z6 z7 z8 o0 HPt HSm
        try clear m0 m1 m2 m3 m4 m5 m6 m7 m8 m9
        have HNs := Lib.hid hns9
        have HRw := Lib.hid hr9
        have HCl := Lib.hid hc9
        have HBs := Lib.hid hns9.bel.size
        clear hns9 hr9 hc9
        have pw : IntKind.i64.wrap ((i : Int) + 1) = (i : Int) + 1 := by rw [i64_wrap2 (by omega) (by omega)]
        have f2 := slice_toN 43 3 i1 (by kernel_rfl) (by kernel_rfl) hi' (some ⟨p5, 0, none⟩) T.length c5 i (Nat.le_trans (Nat.le_of_lt hil) hcap5)
        obtain ⟨A6, c6, f3, hd6, hn6, hl6, hc6⟩ := slice_fromN 43 3 i1 (by kernel_rfl) (by kernel_rfl) hi' 1 hz1' (some ⟨p5, 0, none⟩) T.length c5 (i + 1) hil hcap5 (fun e => by cases e)
        rw [show ((i + 1 : Nat) : Int) = (i : Int) + 1 by omega] at f3
        have HD6 := Lib.hid (fun (V : World) (hV : Cel V p5 3 (intV T ++ rest5)) => hd6 V (fun _ => False) (intV T) (by rw [intV_len, Nat.mul_one]) (fun hp => ⟨⟨p5, 0, none⟩, rfl, hV.lt, fun h => h, fun j v hv => by rw [addr_head]; exact hV.cell (by rw [List.getElem?_append_left (List.getElem?_eq_some_iff.1 hv).1]; exact hv)⟩))
        have HN6 := Lib.hid (And.intro hn6 (And.intro hl6 hc6))
        clear hd6 hn6 hl6 hc6
        go_upto_region 32 with fail
        have HWn := Lib.hid (@Below.refl W11.heap.size W11)
        refine wp_region_said 9 [127, 128, 129, 130, 131, 132, 133, 134, 135]
          [.arr 3 #[] 0 0, .is (.slice (some ⟨p5, 0, none⟩) T.length c5), .is (.int .i64 (i : Int)), .is (.slice (some ⟨p5, 0, none⟩) i c5), .own (fun v V => V.ownsRow W11.heap.size 3 1 v i (intV (T.take i))) (fun v V V' h hb => st_keep h hb), .is (.slice (some ⟨p5, 0, none⟩) T.length c5), .is (.int .i64 (i : Int)), .is (.int .i64 ((i : Int) + 1)), .is (.slice A6 (T.length - (i + 1)) c6)]
          (fun V => Below W11.heap.size W11 V) (by kernel_rfl) (by kernel_rfl) (by kernel_rfl) (by kernel_rfl) (by kernel_rfl) (fun V V' h hb => h.trans (hb.mono h.size)) (Below.refl _ _) ?steps ?last
        case steps =>
          simp only [List.take_succ_cons, List.take_zero]
          refine ⟨?_, ?_, ?_, ?_, ?_, ?_, ?_, ?_, ?_, trivial⟩
          all_goals
            intro vs V ρ hρ hcn hf hg hI hH hd R' hR
            have HR := Lib.hid hR
            have HI := Lib.hid hI
            simp [depsOf, Region.binds, sayAt, Say.holds] at hd
            clear hR hI
          case refine_5 =>
            obtain ⟨⟨o, ho1, ho2, hd1, ho⟩, hd2⟩ := hd
            have hVc := HCl.out.below HI.out
            have htk : (intV T).take i = intV (T.take i) := by unfold intV; rw [List.map_take]
            obtain ⟨v', w', hr, h2, h3⟩ := run_append_emptyN (P := Try.prog) V W11.heap.size 43 43 3 i1 (.int .i64 0) 1 8 Try.underlying43 hi' hz0' hz1' hz2' rfl (by decide) o ho ho1 (some ⟨p5, 0, none⟩) i c5 (intV (T.take i)) (by rw [intV_len, List.length_take, Nat.min_eq_left (Nat.le_of_lt hil), Nat.mul_one]) (fun e => by cases e) (fun ad e j u hu => by
              cases e
              rw [addr_head]
              refine hVc.cell ?_
              rw [← htk] at hu
              have hj := (List.getElem?_eq_some_iff.1 hu).1
              rw [List.length_take, intV_len] at hj
              rw [List.getElem?_take_of_lt (by omega)] at hu
              rw [List.getElem?_append_left (by rw [intV_len]; omega)]
              exact hu) (fun u hu => by obtain ⟨z, _, rfl⟩ := List.mem_map.1 hu; rfl) (by have := HTl.out; unfold maxLen; omega) (by have := HTl.out; omega)
            have e0 : ρ (.tmp 127) = .slice (some ⟨o, 0, none⟩) 0 0 := by rw [hρ]; simp [pick, hd1]
            have e9 : ρ (.tmp 130) = .slice (some ⟨p5, 0, none⟩) i c5 := by rw [hρ]; simp [pick, hd2]
            rw [if_pos (by simp [Region.wanted])]
            unfold execOp
            simp only [resolve, invoke, builtin, Sem.run_bind, Sem.run_pure, Result.andThen_ok, List.map_toArray, List.map_cons, List.map_nil, e0, e9, hr, floatUpon]
            exact HR.out _ _ h2 h3 (fun h => by cases h)
          all_goals
            go_simp
            first
              | exact HR.out _ _ (by simp [sayAt, Say.holds]) (Below.refl _ _) (by simp [sayAt, Say.isBlk])
              | exact HR.out _ _ ⟨_, hH, by simp, rfl, heap_alloc_new _ _⟩ ((Below.refl _ _).alloc (Nat.le_refl _) _) (fun h => by cases h)
        case last =>
          intro vs V hI hb hg hd
          have g4 := hg 4 (by omega)
          have g8 := hg 8 (by omega)
          simp only [sayAt, Say.holds, List.getD_cons_succ, List.getD_cons_zero] at g4 g8
          simp only [List.take_succ_cons, List.take_zero, List.drop_succ_cons, List.drop_zero, putAll, Act.put, List.setIfInBounds_toArray, List.set_cons_succ, List.set_cons_zero, Nat.zero_add, Nat.reduceAdd]
          rw [g8]
          have HI := Lib.hid hI
          generalize vs 4 = v4 at g4 ⊢
          have hdr : (intV T).drop (i + 1) = intV (T.drop (i + 1)) := by unfold intV; rw [List.map_drop]
          have h6 := HD6.out V (HCl.out.below hI)
          rw [Nat.mul_one, hdr] at h6
          clear g8 hg hd hI hb f2 f3
          have hlT := HTl.out
          refine wpList_append_optN rfl _ _ 43 rfl W11.heap.size 3 i1 (.int .i64 0) 1 8 Try.underlying43 hi' hz0' hz1' hz2' rfl (by decide) v4 i _ rfl g4 A6 (T.length - (i + 1)) c6 (intV (T.drop (i + 1))) rfl (by rw [intV_len, List.length_drop, Nat.mul_one]) HN6.out.1 (fun ad e => by subst e; exact h6.news) (fun u hu => by obtain ⟨z, _, rfl⟩ := List.mem_map.1 hu; rfl) ?d3 ?d4 HI.out.size ?_
          case d3 => unfold maxLen; omega
          case d4 => omega
          intro v8 W12 ho8 hg8 hat8
          obtain ⟨A8, c8, rfl, -⟩ := row_form ho8
          have hnl : i + (T.length - (i + 1)) = T.length - 1 := by omega
          rw [hnl] at ho8 ⊢
          have her : T.eraseIdx i = T.take i ++ T.drop (i + 1) := List.eraseIdx_eq_take_drop_succ T i
          have hel : (T.eraseIdx i).length = T.length - 1 := List.length_eraseIdx_of_lt hil
          have hbw : Below W11.heap.size W11 W12 := HI.out.grown hg8 HI.out.size (fun k hk => (row_lt g4 hk).2)
          have hns8 : NS w W12 (fun k => (Value.slice A8 (T.length - 1) c8).ownBlock = some k) w.heap.size 40 (plT (T.eraseIdx i)) := HNs.out.new hbw (fun k hk => .inr ⟨(row_lt ho8 hk).2, (row_lt ho8 hk).1⟩)
          have hti9 : TI w W12 (.slice A8 (T.length - 1) c8) (T.eraseIdx i) := ⟨hns8, by rw [hel, her]; unfold intV; rw [List.map_append]; exact row_mono ho8 HBs.out, fun t ht => HRT.out t ((List.eraseIdx_sublist T i).subset ht)⟩
          have HLn0 := ns_len hns8
          rw [plT_len, hel] at HLn0
          have HLn := Lib.hid HLn0
          have HNs9 := Lib.hid hti9
          clear HLn0 hti9 hns8 hel her hnl ho8 hg8 hat8 g4 h6 HNs HRw HCl hbw
          go_wp2_with fail
          refine HLn.out.mono ?_
          rintro e W13 ⟨rfl, rfl⟩
          go_wp2_with fail
          go_roundw
          case rel => exact ⟨j + 1, _, by omega, by go_num, HNs9⟩
          case measure => simp [RowKit.intOf]; omega
    · clear hc4
      have HA : Hid (∀ V : World, Calls Try.prog 13 #[.int .i64 a.k, .int .i64 4] V fun e w' => e = .returned (.int .i64 3) ∧ w' = V) := HA4
      clear HA4
      have hpl : plT T ≠ [] := fun e => by have := plT_len T; rw [e] at this; simp at this; omega
      have hcp : copyL 40 (plT T) a.n = putL 40 (plT T) (plL T[i] 1) := by unfold copyL; rw [if_neg hpl, HIdx.out, plT_at hil]
      have htk := ns_copy HS2.out a.n
      rw [hcp] at htk
      by_cases hlt : T.length < 40
      case pos =>
        have plt : (T.length : Int) < 40 := by omega
        rw [show putL 40 (plT T) (plL T[i] 1) = (plT (T ++ [T[i]]), 0) from by unfold putL; rw [if_pos (by rw [plT_len]; omega), plT_snoc]] at htk
        have hti := HRT.out _ (List.getElem_mem hil)
        have hcc := HCel5.out
        have hoo : (intV T ++ rest5)[i]? = some (.int .i64 T[i]) := by rw [List.getElem?_append_left (by rw [intV_len]; exact hil), intV_at hil]
        generalize T[i] = ti at htk hti hoo
        have HTk := Lib.hid htk
        have HTi := Lib.hid hti
        have HOo := Lib.hid hoo
        clear htk hti hoo hcc hcp hpl
        go_wp2_with fail
        refine (HAn.out _).mono ?_
        rintro e W4 ⟨rfl, rfl⟩
        clear HAn
        go_wp2_with fail
        refine (HA.out _).mono ?_
        rintro e W5 ⟨rfl, rfl⟩
        clear HA
        go_wp2_with fail
        refine HTk.out.mono ?_
        rintro e W7 ⟨rfl, hp⟩
        have HR6 := HR2
        have hc7 : Cel W7 p5 3 (intV T ++ rest5) := (hp.keep p5 (.inl rfl)).trans HCel5.out
        have o0 := hc7.cell (i := i) HOo.out
        clear HTk HR2
        have hr7 := hp.row HR6.out (fun k hk => .inl hk)
        have hb8 := (Below.refl W7.heap.size W7).alloc (Nat.le_refl _) (.cells #[.int .i64 (ti)] 3)
        have HO8 := Lib.hid (st_keep hr7 hb8)
        have HBs := Lib.hid (Nat.le_trans hp.bel.size hb8.size)
        have HP := Lib.hid hp
        have HB8 := Lib.hid hb8
        clear hr7 hb8 hp HR6
        try clear HSn
        go_wp2_with (at_builtin; refine wpList_append_optN rfl _ _ 43 rfl w.heap.size 3 i1 (.int .i64 0) 1 8 Try.underlying43 hi' hz0' hz1' hz2' rfl (by decide) _ _ _ rfl HO8.out (some ⟨W7.heap.size, 0, none⟩) 1 1 [.int .i64 (ti)] rfl rfl (fun e => by cases e) ?d1 ?d2 ?d3 ?d4 HBs.out ?_)
        case d1 => intro ad e i u hu; cases e; rw [addr_head]; exact (show Cel (W7.alloc _) W7.heap.size 3 [.int .i64 (ti)] from (blk1 W7 _).2).cell hu
        case d2 => intro u hu; simp at hu; subst hu; rfl
        case d3 => unfold maxLen; omega
        case d4 => omega
        intro v8 W8 ho8 hg8 hat8
        have hp := HP.out
        have hb8 := HB8.out
        clear HP HB8 HO8
        obtain ⟨A8, c8, rfl, -⟩ := row_form ho8
        have hns8 := (hp.toNS.below hb8).row HMB.out (fun k hk => .inl hk) hg8 (by rcases hat8 with h | h; exact .inl h; exact .inr (by rw [h]; simp)) ho8
        have hln : (plT (T ++ [ti])).length = T.length + 1 := by rw [plT_len, List.length_append]; rfl
        have hti9 : TI w W8 (.slice A8 (T.length + 1) c8) (T ++ [ti]) := ⟨hns8, by rw [List.length_append]; show W8.ownsRow _ _ _ _ (T.length + 1) _; rw [intV_snoc]; exact ho8, fun t ht => by
          rcases List.mem_append.1 ht with ht | ht
          · exact HRT.out t ht
          · obtain rfl := List.mem_singleton.1 ht
            exact HTi.out⟩
        have HLn0 := ns_len hns8
        rw [hln] at HLn0
        have HLn := Lib.hid HLn0
        have HNs9 := Lib.hid hti9
        clear HLn0 hti9 hns8 hln ho8 hg8 hat8 hp hb8
        go_wp2_with fail
        refine HLn.out.mono ?_
        rintro e W9 ⟨rfl, rfl⟩
        go_wp2_with fail
        go_roundw
        case rel => exact ⟨j + 1, _, by omega, by go_num, HNs9⟩
        case measure => simp [RowKit.intOf]; omega
      have pge : ¬ (T.length : Int) < 40 := by omega
      rw [show putL 40 (plT T) (plL T[i] 1) = (plT T, 150) from by unfold putL; rw [if_neg (by rw [plT_len]; omega)]] at htk
      have HTk := Lib.hid htk
      clear htk hlt hcp hpl
      go_wp2_with fail
      refine (HAn.out _).mono ?_
      rintro e W4 ⟨rfl, rfl⟩
      clear HAn
      go_wp2_with fail
      refine (HA.out _).mono ?_
      rintro e W5 ⟨rfl, rfl⟩
      clear HA
      go_wp2_with fail
      refine HTk.out.mono ?_
      rintro e W7 ⟨rfl, hp⟩
      clear HTk
      have hns7 := hp.toNS.new (M' := fun k => (Value.slice (some ⟨p5, 0, none⟩) T.length c5).ownBlock = some k) (Below.refl _ _) (fun k hk => .inl (.inl hk))
      have hr7 := hp.row HR2.out (fun k hk => .inl hk)
      have hti9 : TI w W7 (.slice (some ⟨p5, 0, none⟩) T.length c5) T := ⟨hns7, hr7, HRT.out⟩
      have HLn0 := ns_len hns7
      rw [show (plT T).length = T.length from plT_len _] at HLn0
      have HLn := Lib.hid HLn0
      have HNs9 := Lib.hid hti9
      clear HLn0 hti9 hns7 hr7 hp
      go_wp2_with fail
      refine HLn.out.mono ?_
      rintro e W9 ⟨rfl, rfl⟩
      go_wp2_with fail
      go_roundw
      case rel => exact ⟨j + 1, _, by omega, by go_num, HNs9⟩
      case measure => simp [RowKit.intOf]; omega

end Nt
end Go.Proofs.Ytkpcfakfkcghdaa
