/- The landed net: what its copy of a letter is, whose rows are new; contract; no condition but the range. -/
import Derived.Test.YtkpcfakfkcghdaaNtRow
import Derived.Test.YtkpcfakfkcghdaaA8
import Derived.Deep.RegionLaw
namespace Go.Proofs.Ytkpcfakfkcghdaa
namespace Nt
open Go.RowKit Bk Lt
set_option linter.unusedVariables false

attribute [local go_sem ↓] Go.wp_at_zero Go.wp_at_succ
attribute [local go_sem] floatUpon pick

abbrev zeroL : List Value := [.int .i64 0, .int .i64 0, .int .i64 0, .int .i64 0, .int .i64 0, .int .i64 0, .string ⟨#[]⟩, .slice none 0 0, .slice none 0 0]
abbrev cellsL (l : Let) (vk vw : Value) : List Value := [.int .i64 l.kind, .int .i64 l.src, .int .i64 l.dst, .int .i64 l.txn, .int .i64 l.ts, .int .i64 l.code, .string l.text, vk, vw]

/-- a letter that is being copied, in block p; the result's block behind it -/
structure CEnv (w W : World) (l : Let) (vk vw : Value) (rk rw : List Value) (nk nw : Nat) : Prop where
  cel : Cel W w.heap.size 35 (cellsL l vk vw)
  res : Cel W (w.heap.size + 1) 35 zeroL
  bel : Below w.heap.size w W
  k : W.ownsRow w.heap.size 9 1 vk nk rk
  w : W.ownsRow w.heap.size 82 3 vw nw rw

section
variable {w W W' : World} {l : Let} {vk vw vk' vw' : Value} {rk rw rk' rw' : List Value} {nk nw nk' nw' : Nat}

theorem CEnv.below (h : CEnv w W l vk vw rk rw nk nw) (hb : Below W.heap.size W W') : CEnv w W' l vk vw rk rw nk nw :=
  ⟨h.cel.below hb, h.res.below hb, h.bel.trans (hb.mono h.bel.size), st_keep h.k hb, st_keep h.w hb⟩

theorem cel_row {g : Nat} {t e : TypeId} {cs : List Value} {H sz n : Nat} {v : Value} {xs : List Value} (h : Cel W g t cs) (hr : W.ownsRow H e sz v n xs) (hne : e ≠ t) (hg : W.grownBy W' v.ownBlock) : Cel W' g t cs :=
  (hg.block g h.lt (fun e => row_cel hr h hne e.symm)).trans h

/-- the keys have grown, and are put into the letter's block -/
theorem CEnv.putK (h : CEnv w W l vk vw rk rw nk nw) (ho : W'.ownsRow w.heap.size 9 1 vk' nk' rk') (hg : W.grownBy W' vk.ownBlock) : CEnv w (W'.setCell ⟨w.heap.size, 7, none⟩ vk') l vk' vw rk' rw nk' nw := by
  have c1 := cel_row h.cel h.k (by decide) hg
  have c2 := cel_row h.res h.k (by decide) hg
  have r2 : W'.ownsRow w.heap.size 82 3 vw nw rw := row_same h.w (fun p hp => hg.block p (row_lt h.w hp).1 (fun e => row_apart h.w h.k (by decide) hp e.symm))
  have hb : Below w.heap.size w W' := h.bel.grown hg h.bel.size (fun k hk => (row_lt h.k hk).2)
  exact ⟨c1.set, c2.far (by omega), hb.setCell (p := ⟨w.heap.size, 7, none⟩) (Nat.le_refl _) vk',
    ownsRow_setCell_other (a := ⟨w.heap.size, 7, none⟩) ho (row_cel ho c1 (by decide)) vk', ownsRow_setCell_other (a := ⟨w.heap.size, 7, none⟩) r2 (row_cel r2 c1 (by decide)) vk'⟩

theorem CEnv.putW (h : CEnv w W l vk vw rk rw nk nw) (ho : W'.ownsRow w.heap.size 82 3 vw' nw' rw') (hg : W.grownBy W' vw.ownBlock) : CEnv w (W'.setCell ⟨w.heap.size, 8, none⟩ vw') l vk vw' rk rw' nk nw' := by
  have c1 := cel_row h.cel h.w (by decide) hg
  have c2 := cel_row h.res h.w (by decide) hg
  have r2 : W'.ownsRow w.heap.size 9 1 vk nk rk := row_same h.k (fun p hp => hg.block p (row_lt h.k hp).1 (fun e => row_apart h.k h.w (by decide) hp e.symm))
  have hb : Below w.heap.size w W' := h.bel.grown hg h.bel.size (fun k hk => (row_lt h.w hk).2)
  exact ⟨c1.set, c2.far (by omega), hb.setCell (p := ⟨w.heap.size, 8, none⟩) (Nat.le_refl _) vw',
    ownsRow_setCell_other (a := ⟨w.heap.size, 8, none⟩) r2 (row_cel r2 c1 (by decide)) vw', ownsRow_setCell_other (a := ⟨w.heap.size, 8, none⟩) ho (row_cel ho c1 (by decide)) vw'⟩
end

theorem strV_take {l : List ByteArray} {j : Nat} (h : j < l.length) : strV (l.take (j + 1)) = strV (l.take j) ++ [.string l[j]] := by
  rw [List.take_succ_eq_append_getElem h]; unfold strV; rw [List.map_append]; rfl

theorem wrV_take {l : List Wr} {j : Nat} (h : j < l.length) : wrV (l.take (j + 1)) = wrV (l.take j) ++ [.string l[j].key, .string l[j].shard, .bool l[j].dead] := by
  rw [List.take_succ_eq_append_getElem h]; unfold wrV; rw [List.flatMap_append, List.flatMap_cons, List.flatMap_nil, List.append_nil]

set_option maxRecDepth 20000 in
set_option maxHeartbeats 8000000 in
theorem copyOf_any (x : LI) (w : World) (h : LetVal w x.A x.B x.c x.d x.l) (hk : x.l.keys.length ≤ 16) (hw : x.l.ws.length ≤ 16) :
    Calls Try.prog 49 #[letV x.l x.A x.B x.c x.d] w fun e w' => ∃ y : LI, e = .returned (letV y.l y.A y.B y.c y.d) ∧ y.l = x.l ∧ LOwn w' w.heap.size y ∧ Below w.heap.size w w' := by
  obtain ⟨l, A, B, c, d⟩ := x
  simp only at h hk hw ⊢
  obtain ⟨i0, hi, hz0, hz1, hz2⟩ := info_parts Try.infoStr
  obtain ⟨i1, hi', hz0', hz1', hz2'⟩ := info_parts Try.infoWrite
  have HV := Lib.hid h
  have pk : (l.keys.length : Int) ≤ 16 := by omega
  have pw : (l.ws.length : Int) ≤ 16 := by omega
  have ht : l.text.size ≤ 281474976710656 := by have := h.rng.text; unfold reachBytes at this; omega
  unfold letV
  clear h
  go_enter Try.func49, Try.ntmps49
  go_upto_region 1 with fail
  have b2 := blk2 w (.cells #[.int .i64 l.kind, .int .i64 l.src, .int .i64 l.dst, .int .i64 l.txn, .int .i64 l.ts, .int .i64 l.code, .string l.text, .slice A l.keys.length c, .slice B l.ws.length d] 35) (.cells #[.int .i64 0, .int .i64 0, .int .i64 0, .int .i64 0, .int .i64 0, .int .i64 0, .string ⟨#[]⟩, .slice none 0 0, .slice none 0 0] 35)
  have hb1 : Below w.heap.size w ((w.alloc (.cells #[.int .i64 l.kind, .int .i64 l.src, .int .i64 l.dst, .int .i64 l.txn, .int .i64 l.ts, .int .i64 l.code, .string l.text, .slice A l.keys.length c, .slice B l.ws.length d] 35)).alloc (.cells #[.int .i64 0, .int .i64 0, .int .i64 0, .int .i64 0, .int .i64 0, .int .i64 0, .string ⟨#[]⟩, .slice none 0 0, .slice none 0 0] 35)) := ((Below.refl _ w).alloc (Nat.le_refl _) _).alloc (by simp) _
  have hC1 : Cel _ w.heap.size 35 (cellsL l (.slice A l.keys.length c) (.slice B l.ws.length d)) := b2.2.1
  have hR1 : Cel _ (w.heap.size + 1) 35 zeroL := b2.2.2
  generalize (w.alloc (.cells #[.int .i64 l.kind, .int .i64 l.src, .int .i64 l.dst, .int .i64 l.txn, .int .i64 l.ts, .int .i64 l.code, .string l.text, .slice A l.keys.length c, .slice B l.ws.length d] 35)).alloc (.cells #[.int .i64 0, .int .i64 0, .int .i64 0, .int .i64 0, .int .i64 0, .int .i64 0, .string ⟨#[]⟩, .slice none 0 0, .slice none 0 0] 35) = W1 at hb1 hC1 hR1 ⊢
  clear b2
  have k7 := hC1.cell (i := 7) rfl
  have k8 := hC1.cell (i := 8) rfl
  have HC1 := Lib.hid hC1
  have HR1 := Lib.hid hR1
  have HB1 := Lib.hid hb1
  clear hC1 hR1 hb1
  go_quiet (fail)
  have hC1 : Cel (W1.drewN nq) w.heap.size 35 _ := HC1.out
  have hR1 : Cel (W1.drewN nq) (w.heap.size + 1) 35 zeroL := HR1.out
  have hB1 : Below w.heap.size w (W1.drewN nq) := below_drewN HB1.out nq
  generalize W1.drewN nq = W1 at hC1 hR1 hB1 ⊢
  have k6 := hC1.cell (i := 6) rfl
  have HC1 := Lib.hid hC1
  have HR1 := Lib.hid hR1
  have HB1 := Lib.hid hB1
  clear k7 k8 hC1 hR1 hB1
  go_wp2_with fail
  refine (clone_any l.text _ ht).mono ?_
  rintro e W2 ⟨rfl, hb2⟩
  have hC2 := HC1.out.below hb2
  have hR2 := HR1.out.below hb2
  have hB2 := HB1.out.trans (hb2.mono HB1.out.size)
  have fz := fun i => hC2.free (i := i)
  have HR2 := Lib.hid hR2
  have HB2 := Lib.hid hB2
  have HC2 := Lib.hid hC2
  have z6 := hC2.cell (i := 6) rfl
  have z7 := hC2.cell (i := 7) rfl
  have z8 := hC2.cell (i := 8) rfl
  clear hb2 hC2 hR2 hB2 HC1 HR1 HB1 k6
  go_upto_region 3 with fail
  have hC3 : Cel (((W2.setCell ⟨w.heap.size, 6, none⟩ (.string l.text)).setCell ⟨w.heap.size, 7, none⟩ (.slice none 0 0)).setCell ⟨w.heap.size, 8, none⟩ (.slice none 0 0)) w.heap.size 35 (cellsL l (.slice none 0 0) (.slice none 0 0)) := ((HC2.out.set (i := 6)).set (i := 7)).set (i := 8)
  have hR3 : Cel (((W2.setCell ⟨w.heap.size, 6, none⟩ (.string l.text)).setCell ⟨w.heap.size, 7, none⟩ (.slice none 0 0)).setCell ⟨w.heap.size, 8, none⟩ (.slice none 0 0)) (w.heap.size + 1) 35 zeroL := ((HR2.out.far (by omega)).far (by omega)).far (by omega)
  have hB3 : Below w.heap.size w (((W2.setCell ⟨w.heap.size, 6, none⟩ (.string l.text)).setCell ⟨w.heap.size, 7, none⟩ (.slice none 0 0)).setCell ⟨w.heap.size, 8, none⟩ (.slice none 0 0)) := ((HB2.out.setCell (Nat.le_refl _) _).setCell (Nat.le_refl _) _).setCell (Nat.le_refl _) _
  have HE3 : Hid (CEnv w (((W2.setCell ⟨w.heap.size, 6, none⟩ (.string l.text)).setCell ⟨w.heap.size, 7, none⟩ (.slice none 0 0)).setCell ⟨w.heap.size, 8, none⟩ (.slice none 0 0)) l (.slice none 0 0) (.slice none 0 0) (strV (l.keys.take 0)) (wrV (l.ws.take 0)) 0 0) := Lib.hid ⟨hC3, hR3, hB3, ⟨rfl, .inl ⟨rfl, rfl⟩⟩, ⟨rfl, .inl ⟨rfl, rfl⟩⟩⟩
  generalize (((W2.setCell ⟨w.heap.size, 6, none⟩ (.string l.text)).setCell ⟨w.heap.size, 7, none⟩ (.slice none 0 0)).setCell ⟨w.heap.size, 8, none⟩ (.slice none 0 0)) = W3 at HE3 ⊢
  clear hC3 hR3 hB3 HC2 HR2 HB2 fz z6 z7 z8
  go_wp2_with fail
  go_loopw [21] (fun iv wr => ∃ (j : Nat) (vk : Value), j ≤ l.keys.length ∧ iv = .int .i64 (j : Int) ∧ Hid (CEnv w wr l vk (.slice none 0 0) (strV (l.keys.take j)) (wrV (l.ws.take 0)) j 0)) (fun iv _ => l.keys.length - (RowKit.intOf iv).toNat)
  case atStart => exact ⟨0, _, Nat.zero_le _, rfl, HE3⟩
  case round =>
    obtain ⟨j, vk, hj, rfl, hE⟩ := hrel
    clear HE3
    by_cases hlt : j < l.keys.length
    case pos =>
      have pj : (j : Int) < (l.keys.length : Int) := by omega
      have hks := HV.out.ks.below hE.out.bel
      obtain ⟨ad, rfl, hadb, hcb⟩ := hks (by omega)
      have x0 := hcb j hlt
      have hK : l.keys[j].size ≤ 281474976710656 := by have := HV.out.rng.kr _ (List.getElem_mem hlt); unfold reachBytes at this; omega
      have hst := strV_take hlt
      have HST := Lib.hid hst
      generalize l.keys[j] = key at x0 hK hst HST
      clear hks hcb hst
      go_upto_region 6 with fail
      clear x0 hadb
      refine wp_region_said 5 [25, 26, 27, 28, 29]
        [.is (.pointer (some ⟨w.heap.size, 7, none⟩)), .is vk, .is (.string key), .is (.string key), .arr 9 #[.string key] 1 1]
        (fun V => CEnv w V l vk (.slice none 0 0) (strV (l.keys.take j)) (wrV (l.ws.take 0)) j 0) (by kernel_rfl) (by kernel_rfl) (by kernel_rfl) (by kernel_rfl) (by kernel_rfl) (fun V V' h hb => h.below hb) hE.out ?steps1 ?last1
      case steps1 =>
        simp only [List.take_succ_cons, List.take_zero]
        refine ⟨?_, ?_, ?_, ?_, ?_, trivial⟩
        all_goals
          intro vs W ρ hρ hc hf hg hI hH hd R' hR
          have q7 := hI.cel.cell (i := 7) rfl
          have HR := Lib.hid hR
          simp [depsOf, Region.binds, sayAt, Say.holds] at hd
          clear hR hI
          go_simp
          first
            | exact HR.out _ _ (by simp [sayAt, Say.holds]) (Below.refl _ _) (by simp [sayAt, Say.isBlk])
            | exact HR.out _ _ ⟨_, hH, by simp, rfl, heap_alloc_new _ _⟩ ((Below.refl _ _).alloc (Nat.le_refl _) _) (fun h => by cases h)
            | (refine (clone_any key _ hK).mono ?_; rintro e w' ⟨rfl, hb⟩; exact ⟨_, rfl, HR.out _ _ (by simp [sayAt, Say.holds]) hb (by simp [sayAt, Say.isBlk])⟩)
      case last1 =>
        intro vs W hI hb hg hd
        have g1 := hg 1 (by omega)
        obtain ⟨o, ho1, ho2, g4, ho⟩ := hg 4 (by omega)
        simp only [sayAt, Say.holds, List.getD_cons_succ, List.getD_cons_zero] at g1
        simp only [List.take_succ_cons, List.take_zero, List.drop_succ_cons, List.drop_zero, putAll, Act.put, List.setIfInBounds_toArray, List.set_cons_succ, List.set_cons_zero, Nat.zero_add, Nat.reduceAdd]
        rw [g1, g4]
        have HI := Lib.hid hI
        clear g1 g4 hg hd hI hb
        refine wpList_append_optN rfl _ _ 32 rfl w.heap.size 9 i0 (.string ⟨#[]⟩) 1 16 Try.underlying32 hi hz0 hz1 hz2 rfl (by decide) _ j _ rfl HI.out.k (some ⟨o, 0, none⟩) 1 1 [.string key] rfl rfl (fun e => by cases e) ?d1 ?d2 ?d3 ?d4 HI.out.bel.size ?_
        case d1 => intro ad' e' i u hu; cases e'; rw [addr_head]; exact blk_cell ho (by rw [List.getElem?_toArray]; exact hu)
        case d2 => intro u hu; simp at hu; subst hu; rfl
        case d3 => unfold maxLen; omega
        case d4 => omega
        intro v6 W6 ho6 hg6 hat6
        obtain ⟨A6, c6, rfl, -⟩ := row_form ho6
        have HF := Lib.hid (HI.out.putK ho6 hg6)
        have c7 := (cel_row HI.out.cel HI.out.k (by decide) hg6).cell (i := 7) rfl
        have f7 := (cel_row HI.out.cel HI.out.k (by decide) hg6).free (i := 7)
        clear ho6 hg6 hat6 HI ho ho1 ho2
        go_wp2_with fail
        go_roundw
        case rel => exact ⟨j + 1, _, by omega, by go_num, Lib.hid (by rw [HST.out]; exact HF.out)⟩
        case measure => simp [RowKit.intOf]; omega
    obtain rfl : j = l.keys.length := by omega
    have pj : ¬ (l.keys.length : Int) < (l.keys.length : Int) := by omega
    have HE4 : Hid (CEnv w wr l vk (.slice none 0 0) (strV l.keys) (wrV (l.ws.take 0)) l.keys.length 0) := Lib.hid (by have := hE.out; rw [List.take_length] at this; exact this)
    clear hE
    go_wp2_with fail
    go_loopw [35] (fun iv wr => ∃ (j : Nat) (vw : Value), j ≤ l.ws.length ∧ iv = .int .i64 (j : Int) ∧ Hid (CEnv w wr l vk vw (strV l.keys) (wrV (l.ws.take j)) l.keys.length j)) (fun iv _ => l.ws.length - (RowKit.intOf iv).toNat)
    case atStart => exact ⟨0, _, Nat.zero_le _, rfl, HE4⟩
    case round =>
      obtain ⟨j, vw, hj, rfl, hE⟩ := hrel
      clear HE4
      by_cases hlt : j < l.ws.length
      case pos =>
        have pj : (j : Int) < (l.ws.length : Int) := by omega
        have hws := HV.out.ws.below hE.out.bel
        obtain ⟨bd, rfl, _, hcb⟩ := hws (by omega)
        obtain ⟨x0, x1, x2⟩ := hcb j hlt
        have hwr := HV.out.rng.wr _ (List.getElem_mem hlt)
        have hst := wrV_take hlt
        have HST := Lib.hid hst
        generalize l.ws[j] = X at x0 x1 x2 hwr hst HST
        obtain ⟨xk, xs, xd⟩ := X
        simp only at x0 x1 x2 hwr HST
        have hK : xk.size ≤ 281474976710656 := by have := hwr.1; unfold reachBytes at this; omega
        have hS : xs.size ≤ 281474976710656 := by have := hwr.2; unfold reachBytes at this; omega
        rw [← add_field _ _ _ (by omega)] at x1 x2
        clear hws hcb hst hwr
        go_upto_region 11 with fail
        have hE2 := hE.out.below ((Below.refl _ wr).alloc (Nat.le_refl _) (.cells #[.string xk, .string xs, .bool xd] 82))
        have hC2 : Cel (wr.alloc (.cells #[.string xk, .string xs, .bool xd] 82)) wr.heap.size 82 [.string xk, .string xs, .bool xd] := (blk1 _ _).2
        generalize wr.alloc (.cells #[.string xk, .string xs, .bool xd] 82) = W2 at hE2 hC2 ⊢
        generalize wr.heap.size = bx at hC2 ⊢
        clear x0 x1 x2 hE
        refine wp_region_said 12 [39, 40, 41, 42, 43, 44, 45, 46, 47, 48, 49, 50]
          [.is (.pointer (some ⟨w.heap.size, 8, none⟩)), .is vw, .is (.pointer (some ⟨bx, 0, none⟩)), .is (.string xk), .is (.string xk), .is (.pointer (some ⟨bx, 1, none⟩)), .is (.string xs), .is (.string xs), .is (.pointer (some ⟨bx, 2, none⟩)), .is (.bool xd), .is (.agg #[.string xk, .string xs, .bool xd]), .arr 82 #[.string xk, .string xs, .bool xd] 1 1]
          (fun V => CEnv w V l vk vw (strV l.keys) (wrV (l.ws.take j)) l.keys.length j ∧ Cel V bx 82 [.string xk, .string xs, .bool xd]) (by kernel_rfl) (by kernel_rfl) (by kernel_rfl) (by kernel_rfl) (by kernel_rfl) (fun V V' h hb => ⟨h.1.below hb, h.2.below hb⟩) ⟨hE2, hC2⟩ ?steps2 ?last2
        case steps2 =>
          simp only [List.take_succ_cons, List.take_zero]
          refine ⟨?_, ?_, ?_, ?_, ?_, ?_, ?_, ?_, ?_, ?_, ?_, ?_, trivial⟩
          all_goals
            intro vs W ρ hρ hc hf hg hI hH hd R' hR
            have q8 := hI.1.cel.cell (i := 8) rfl
            have q0 := hI.2.cell (i := 0) rfl
            have q1 := hI.2.cell (i := 1) rfl
            have q2 := hI.2.cell (i := 2) rfl
            have HR := Lib.hid hR
            simp [depsOf, Region.binds, sayAt, Say.holds] at hd
            clear hR hI
            go_simp
            first
              | exact HR.out _ _ (by simp [sayAt, Say.holds]) (Below.refl _ _) (by simp [sayAt, Say.isBlk])
              | exact HR.out _ _ ⟨_, hH, by simp, rfl, heap_alloc_new _ _⟩ ((Below.refl _ _).alloc (Nat.le_refl _) _) (fun h => by cases h)
              | skip
          case refine_5 => refine (clone_any xk _ hK).mono ?_; rintro e w' ⟨rfl, hb⟩; exact ⟨_, rfl, HR.out _ _ (by simp [sayAt, Say.holds]) hb (by simp [sayAt, Say.isBlk])⟩
          case refine_8 => refine (clone_any xs _ hS).mono ?_; rintro e w' ⟨rfl, hb⟩; exact ⟨_, rfl, HR.out _ _ (by simp [sayAt, Say.holds]) hb (by simp [sayAt, Say.isBlk])⟩
        case last2 =>
          intro vs W hI hb hg hd
          have g1 := hg 1 (by omega)
          obtain ⟨o, ho1, ho2, g4, ho⟩ := hg 11 (by omega)
          simp only [sayAt, Say.holds, List.getD_cons_succ, List.getD_cons_zero] at g1
          simp only [List.take_succ_cons, List.take_zero, List.drop_succ_cons, List.drop_zero, putAll, Act.put, List.setIfInBounds_toArray, List.set_cons_succ, List.set_cons_zero, Nat.zero_add, Nat.reduceAdd]
          rw [g1, g4]
          have HI := Lib.hid hI.1
          clear g1 g4 hg hd hI hb hE2 hC2
          refine wpList_append_optN rfl _ _ 33 rfl w.heap.size 82 i1 (.agg #[.string ⟨#[]⟩, .string ⟨#[]⟩, .bool false]) 3 40 Try.underlying33 hi' hz0' hz1' hz2' rfl (by decide) _ j _ rfl HI.out.w (some ⟨o, 0, none⟩) 1 1 [.string xk, .string xs, .bool xd] rfl rfl (fun e => by cases e) ?d1 ?d2 ?d3 ?d4 HI.out.bel.size ?_
          case d1 => intro ad' e' i u hu; cases e'; rw [addr_head]; exact blk_cell ho (by rw [List.getElem?_toArray]; exact hu)
          case d2 => intro u hu; simp at hu; rcases hu with rfl | rfl | rfl <;> rfl
          case d3 => unfold maxLen; omega
          case d4 => omega
          intro v6 W6 ho6 hg6 hat6
          obtain ⟨A6, c6, rfl, -⟩ := row_form ho6
          have HF := Lib.hid (HI.out.putW ho6 hg6)
          have c7 := (cel_row HI.out.cel HI.out.w (by decide) hg6).cell (i := 8) rfl
          have f7 := (cel_row HI.out.cel HI.out.w (by decide) hg6).free (i := 8)
          clear ho6 hg6 hat6 HI ho ho1 ho2
          go_wp2_with fail
          go_roundw
          case rel => exact ⟨j + 1, _, by omega, by go_num, Lib.hid (by rw [HST.out]; exact HF.out)⟩
          case measure => simp [RowKit.intOf]; omega
      obtain rfl : j = l.ws.length := by omega
      have pj : ¬ (l.ws.length : Int) < (l.ws.length : Int) := by omega
      have hE5 : CEnv w wr l vk vw (strV l.keys) (wrV l.ws) l.keys.length l.ws.length := by have := hE.out; rw [List.take_length] at this; exact this
      obtain ⟨A1, c1, rfl, -⟩ := row_form hE5.k
      obtain ⟨B1, d1, rfl, -⟩ := row_form hE5.w
      have k0 := hE5.cel.cell (i := 0) rfl
      have k1 := hE5.cel.cell (i := 1) rfl
      have k2 := hE5.cel.cell (i := 2) rfl
      have k3 := hE5.cel.cell (i := 3) rfl
      have k4 := hE5.cel.cell (i := 4) rfl
      have k5 := hE5.cel.cell (i := 5) rfl
      have k6 := hE5.cel.cell (i := 6) rfl
      have k7 := hE5.cel.cell (i := 7) rfl
      have k8 := hE5.cel.cell (i := 8) rfl
      have q0 := hE5.res.cell (i := 0) rfl
      have q1 := hE5.res.cell (i := 1) rfl
      have q2 := hE5.res.cell (i := 2) rfl
      have q3 := hE5.res.cell (i := 3) rfl
      have q4 := hE5.res.cell (i := 4) rfl
      have q5 := hE5.res.cell (i := 5) rfl
      have q6 := hE5.res.cell (i := 6) rfl
      have q7 := hE5.res.cell (i := 7) rfl
      have q8 := hE5.res.cell (i := 8) rfl
      have zq := fun i => hE5.res.free (i := i)
      have HE5 := Lib.hid hE5
      clear hE5 hE
      go_wp2_with fail
      have HF := Lib.hid (set9_cel (v0 := .int .i64 l.kind) (v1 := .int .i64 l.src) (v2 := .int .i64 l.dst) (v3 := .int .i64 l.txn) (v4 := .int .i64 l.ts) (v5 := .int .i64 l.code) (v6 := .string l.text) (v7 := .slice A1 l.keys.length c1) (v8 := .slice B1 l.ws.length d1) HE5.out.res)
      have z0 := HF.out.cell (i := 0) rfl
      have z1 := HF.out.cell (i := 1) rfl
      have z2 := HF.out.cell (i := 2) rfl
      have z3 := HF.out.cell (i := 3) rfl
      have z4 := HF.out.cell (i := 4) rfl
      have z5 := HF.out.cell (i := 5) rfl
      have z6 := HF.out.cell (i := 6) rfl
      have z7 := HF.out.cell (i := 7) rfl
      have z8 := HF.out.cell (i := 8) rfl
      have HO7 := Lib.hid (set9_own (v0 := .int .i64 l.kind) (v1 := .int .i64 l.src) (v2 := .int .i64 l.dst) (v3 := .int .i64 l.txn) (v4 := .int .i64 l.ts) (v5 := .int .i64 l.code) (v6 := .string l.text) (v7 := .slice A1 l.keys.length c1) (v8 := .slice B1 l.ws.length d1) HE5.out.k (row_cel HE5.out.k HE5.out.res (by decide)))
      have HP7 := Lib.hid (set9_own (v0 := .int .i64 l.kind) (v1 := .int .i64 l.src) (v2 := .int .i64 l.dst) (v3 := .int .i64 l.txn) (v4 := .int .i64 l.ts) (v5 := .int .i64 l.code) (v6 := .string l.text) (v7 := .slice A1 l.keys.length c1) (v8 := .slice B1 l.ws.length d1) HE5.out.w (row_cel HE5.out.w HE5.out.res (by decide)))
      have HB7 := Lib.hid (set9_below (R := w.heap.size + 1) (v0 := .int .i64 l.kind) (v1 := .int .i64 l.src) (v2 := .int .i64 l.dst) (v3 := .int .i64 l.txn) (v4 := .int .i64 l.ts) (v5 := .int .i64 l.code) (v6 := .string l.text) (v7 := .slice A1 l.keys.length c1) (v8 := .slice B1 l.ws.length d1) HE5.out.bel (Nat.le_succ _))
      unfold set9 at z0 z1 z2 z3 z4 z5 z6 z7 z8
      exact bodyPost_ret (v := letV l A1 B1 c1 d1) (by simp [results, Try.results49, go_sem, letV, z0, z1, z2, z3, z4, z5, z6, z7, z8]) rfl
        ⟨⟨l, A1, B1, c1, d1⟩, rfl, rfl, ⟨HO7.out, HP7.out, HV.out.rng.toLetRng⟩, HB7.out⟩

end Nt
end Go.Proofs.Ytkpcfakfkcghdaa
