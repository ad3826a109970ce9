/- What the landed package's toPack answers: the numbers and texts of a letter; contract; no condition but that the letter may be. -/
import Derived.Test.YtmllaighjhpbmaaLtPairs
namespace Go.Proofs.Ytmllaighjhpbmaa
namespace Lt
open Go.RowKit Bk

attribute [local go_sem ↓] Go.wp_at_zero Go.wp_at_succ
attribute [local go_sem] floatUpon pick

/-- two rows of the call's own, no block shared -/
structure PkRows (w W : World) (X : Nat) (v1 v2 : Value) (ns : List Int) (ts : List ByteArray) : Prop where
  r0 : W.ownsRow X 3 1 v1 ns.length (intV ns)
  r1 : W.ownsRow X 9 1 v2 ts.length (strV ts)
  d : Unlike v1 v2
  bel : Below X w W
  le : X ≤ W.heap.size

theorem PkRows.step {w W W' : World} {X : Nat} {v1 v2 : Value} {ns : List Int} {ts : List ByteArray} (h : PkRows w W X v1 v2 ns ts) (hb : Below W.heap.size W W') : PkRows w W' X v1 v2 ns ts :=
  ⟨st_keep h.r0 hb, st_keep h.r1 hb, h.d, h.bel.trans (hb.mono h.le), Nat.le_trans h.le hb.size⟩

theorem PkRows.grow1 {w W W1 : World} {X n' : Nat} {v1 v2 v' : Value} {ns ns' : List Int} {ts : List ByteArray} (h : PkRows w W X v1 v2 ns ts) (ho : W1.ownsRow X 3 1 v' n' (intV ns')) (hl : n' = ns'.length) (hg : W.grownBy W1 v1.ownBlock) (hat : v'.ownBlock = v1.ownBlock ∨ v'.ownBlock = some W.heap.size) : PkRows w W1 X v' v2 ns' ts := by
  subst hl
  have hb := h.bel.grown hg h.le (fun k hk => (h.r0.lt k hk).1)
  exact ⟨ho, h.r1.kept hg h.d.symm.ne, (h.d.symm.next (fun j hj => (h.r1.lt j hj).2) hat (Nat.le_refl _)).symm, hb, Nat.le_trans h.le hg.size⟩

theorem PkRows.grow2 {w W W1 : World} {X n' : Nat} {v1 v2 v' : Value} {ns : List Int} {ts ts' : List ByteArray} (h : PkRows w W X v1 v2 ns ts) (ho : W1.ownsRow X 9 1 v' n' (strV ts')) (hl : n' = ts'.length) (hg : W.grownBy W1 v2.ownBlock) (hat : v'.ownBlock = v2.ownBlock ∨ v'.ownBlock = some W.heap.size) : PkRows w W1 X v1 v' ns ts' := by
  subst hl
  have hb := h.bel.grown hg h.le (fun k hk => (h.r1.lt k hk).1)
  exact ⟨h.r0.kept hg h.d.ne, ho, h.d.next (fun j hj => (h.r0.lt j hj).2) hat (Nat.le_refl _), hb, Nat.le_trans h.le hg.size⟩

theorem ints_of_slice {w : World} {H c : Nat} {A : Option Addr} {e : TypeId} {O : List Int} (h : w.ownsRow H e 1 (.slice A O.length c) O.length (intV O)) : IntsAt w A O := by
  obtain ⟨A2, c2, e2, hh⟩ := ints_of_own h rfl
  simp only [Value.slice.injEq] at e2
  rw [e2.1]; exact hh

theorem strs_of_slice {w : World} {H c : Nat} {A : Option Addr} {e : TypeId} {O : List ByteArray} (h : w.ownsRow H e 1 (.slice A O.length c) O.length (strV O)) : StrsAt w A O := by
  obtain ⟨A2, c2, e2, hh⟩ := strs_of_own2 h rfl
  simp only [Value.slice.injEq] at e2
  rw [e2.1]; exact hh

set_option maxRecDepth 20000 in
set_option maxHeartbeats 8000000 in
theorem toPack_any (A B : Option Addr) (c d : Nat) (l : Let) (w : World) (ha : StrsAt w A l.keys) (hb : WrsAt w B l.ws) (hA : A = none → c = 0) (hok : LetOk l) :
    Calls Try.prog 27 #[letV l A B c d] w fun e w' => ∃ (A1 B1 : Option Addr) (c1 d1 : Nat), e = .returned (Pk.packV A1 B1 c1 d1 (numsOf l) (textsOf l)) ∧ IntsAt w' A1 (numsOf l) ∧ StrsAt w' B1 (textsOf l) ∧ (numsOf l).length ≤ c1 ∧ (textsOf l).length ≤ d1 ∧ c1 ≤ maxLen ∧ d1 ≤ maxLen ∧ Below w.heap.size w w' := by
  obtain ⟨i0, hi, hz0, hz1, hz2⟩ := info_parts Try.infoStr
  obtain ⟨i1, hi', hz0', hz1', hz2'⟩ := info_parts Pk.Try.infoInt
  have henv := LtEnv.start (c := c) (d := d) ha hb
  have hbd := hok.bounds
  have nk : l.keys.length ≤ 16 := hbd.1
  have nw : l.ws.length ≤ 16 := hbd.2.1
  have pk : (l.keys.length : Int) ≤ 16 := by omega
  have pw : (l.ws.length : Int) ≤ 16 := by omega
  have HAn := Lib.hid hA
  clear ha hb hbd hok hA
  unfold letV
  go_enter Try.func27, Try.ntmps27
  go_upto_region 1 with fail
  have hE1 := henv.step ((Below.refl _ _).alloc (Nat.le_refl _) (.cells #[.slice none 0 0, .slice none 0 0] 48))
  have hR1 : Cel ((w.alloc (.cells #[.int .i64 l.kind, .int .i64 l.src, .int .i64 l.dst, .int .i64 l.txn, .int .i64 l.ts, .int .i64 l.code, .string l.text, .slice A l.keys.length c, .slice B l.ws.length d] 25)).alloc (.cells #[.slice none 0 0, .slice none 0 0] 48)) (w.heap.size + 1) 48 [.slice none 0 0, .slice none 0 0] := (blk2 w _ _).2.2
  generalize (w.alloc (.cells #[.int .i64 l.kind, .int .i64 l.src, .int .i64 l.dst, .int .i64 l.txn, .int .i64 l.ts, .int .i64 l.code, .string l.text, .slice A l.keys.length c, .slice B l.ws.length d] 25)).alloc (.cells #[.slice none 0 0, .slice none 0 0] 48) = W1 at hE1 hR1 ⊢
  have HE := Lib.hid hE1
  have HR := Lib.hid hR1
  have k0 := hE1.cel.cell (i := 0) rfl
  have k1 := hE1.cel.cell (i := 1) rfl
  have k2 := hE1.cel.cell (i := 2) rfl
  have k3 := hE1.cel.cell (i := 3) rfl
  have k4 := hE1.cel.cell (i := 4) rfl
  have k5 := hE1.cel.cell (i := 5) rfl
  have k7 := hE1.cel.cell (i := 7) rfl
  have q6 := fun o : Obj => (hE1.step ((Below.refl _ W1).alloc (Nat.le_refl _) o)).cel.cell (i := 6) rfl
  have q7 := fun o o2 : Obj => ((hE1.step ((Below.refl _ W1).alloc (Nat.le_refl _) o)).step ((Below.refl _ _).alloc (Nat.le_refl _) o2)).cel.cell (i := 7) rfl
  clear henv hE1 hR1
  go_upto_region 2 with fail
  have hs1 : (W1.alloc (.cells #[.int .i64 l.kind, .int .i64 l.src, .int .i64 l.dst, .int .i64 l.txn, .int .i64 l.ts, .int .i64 l.code, .int .i64 (l.keys.length : Int)] 3)).heap.size = W1.heap.size + 1 := (blk1 _ _).1
  obtain ⟨s2, b1, b2⟩ := blk2 W1 (.cells #[.int .i64 l.kind, .int .i64 l.src, .int .i64 l.dst, .int .i64 l.txn, .int .i64 l.ts, .int .i64 l.code, .int .i64 (l.keys.length : Int)] 3) (.cells #[.string l.text] 9)
  have hrw : PkRows W1 ((W1.alloc (.cells #[.int .i64 l.kind, .int .i64 l.src, .int .i64 l.dst, .int .i64 l.txn, .int .i64 l.ts, .int .i64 l.code, .int .i64 (l.keys.length : Int)] 3)).alloc (.cells #[.string l.text] 9)) W1.heap.size (.slice (some ⟨W1.heap.size, 0, none⟩) 7 7) (.slice (some ⟨W1.heap.size + 1, 0, none⟩) 1 1) (numsP l 0) [l.text] := by
    refine ⟨?_, ?_, ?_, ((Below.refl _ W1).alloc (Nat.le_refl _) _).alloc (by simp) _, by omega⟩
    · have : (numsP l 0).length = 7 := by simp [numsP]
      rw [this]
      exact ⟨by rw [intV_len, this], .inr ⟨W1.heap.size, 7, _, rfl, Nat.le_refl _, b1, Nat.le_refl _, by unfold maxLen; omega, rfl, by simp [numsP, intV]⟩⟩
    · exact ⟨rfl, .inr ⟨W1.heap.size + 1, 1, _, rfl, by omega, b2, Nat.le_refl _, by unfold maxLen; omega, rfl, rfl⟩⟩
    · intro j h1 h2; simp [Value.ownBlock] at h1 h2; omega
  have HRw := Lib.hid hrw
  have HA2 := Lib.hid (show A = none → l.keys.length = 0 ∧ c = 0 from fun e => by
      refine ⟨?_, HAn.out e⟩
      rcases Nat.eq_zero_or_pos l.keys.length with h | h
      · exact h
      · obtain ⟨ad, h2, _⟩ := HE.out.ks h; rw [e] at h2; cases h2)
  clear s2 b1 b2 hrw k0 k1 k2 k3 k4 k5 k7
  go_upto_region 3 with (at_builtin; refine wpList_append_opt rfl _ _ 22 rfl W1.heap.size 9 i0 (.string ⟨#[]⟩) 16 Try.underlying22 hi hz0 hz1 hz2 rfl _ 1 _ rfl HRw.out.r1 A l.keys.length c (strV l.keys) rfl (strV_len _) HA2.out ?c1 ?c2 ?c3 ?c4 HRw.out.le ?_)
  case c1 => exact fun ad e => by subst e; exact (HE.out.step HRw.out.bel).ks.news
  case c2 => intro u hu; obtain ⟨s, _, rfl⟩ := List.mem_map.1 hu; rfl
  case c3 => unfold maxLen; omega
  case c4 => omega
  intro v' w3 ho hg hat
  have HR3 := Lib.hid (PkRows.grow2 (ts' := textsP l 0) HRw.out (by
    have e : strV [l.text] ++ strV l.keys = strV (textsP l 0) := by simp [strV, textsP]
    rw [← e]; exact ho) (by simp [textsP]; omega) hg (by rcases hat with h | h; exact .inl h; exact .inr (by rw [h]; simp)))
  clear ho hg hat HRw q6 q7 hs1
  generalize (Value.slice (some ⟨W1.heap.size, 0, none⟩) 7 7) = vn at HR3 ⊢
  have k8 := (HE.out.step HR3.out.bel).cel.cell (i := 8) rfl
  go_wp2_with fail
  go_loopw [3, 4, 33] (fun v1 v2 i wr => ∃ (j : Nat), j ≤ l.ws.length ∧ i = .int .i64 (j : Int) ∧ Hid (PkRows W1 wr W1.heap.size v1 v2 (numsP l j) (textsP l j))) (fun _ _ i _ => l.ws.length - (intOf i).toNat)
  case atStart => exact ⟨0, by omega, rfl, HR3.out⟩
  case round =>
    obtain ⟨j, hj, rfl, hrw⟩ := hrel
    clear HR3 k8
    by_cases hlt : j < l.ws.length
    · have pj : (j : Int) < (l.ws.length : Int) := by omega
      have hle := HE.out.step hrw.out.bel
      obtain ⟨bd, rfl, _, hcb⟩ := hle.ws (by omega)
      obtain ⟨x0, x1, x2⟩ := hcb j hlt
      rw [← add_field _ _ _ (by omega)] at x1 x2
      have hns := numsP_succ hlt
      have hts := textsP_succ hlt
      have hnl := numsP_len l j
      have htl := textsP_len l j
      obtain ⟨X, hX⟩ : ∃ X, X = l.ws[j] := ⟨_, rfl⟩
      rw [← hX] at x0 x1 x2 hns hts
      clear hX hcb hle
      obtain ⟨xk, xs, xd⟩ := X
      simp only at *
      go_upto_region 6 with fail
      have hR2 := hrw.out.step ((Below.refl _ wr).alloc (Nat.le_refl _) (.cells #[.string xk, .string xs, .bool xd] 77))
      have hC2 : Cel (wr.alloc (.cells #[.string xk, .string xs, .bool xd] 77)) wr.heap.size 77 [.string xk, .string xs, .bool xd] := (blk1 _ _).2
      have hOn : ∀ k, u3.ownBlock = some k → k < wr.heap.size := fun k hk => (hrw.out.r0.lt k hk).2
      generalize wr.alloc (.cells #[.string xk, .string xs, .bool xd] 77) = W2 at hR2 hC2 ⊢
      have HR2 := Lib.hid hR2
      have HNs := Lib.hid hns
      have HTs := Lib.hid hts
      have HOn := Lib.hid hOn
      have z0 := hC2.cell (i := 0) rfl
      have z1 := hC2.cell (i := 1) rfl
      have z2 := hC2.cell (i := 2) rfl
      have HC2 := Lib.hid hC2
      clear hR2 hns hts hOn hC2 hrw x0 x1 x2
      generalize wr.heap.size = g5 at *
      cases xd with
      | true =>
        go_upto_region 10 with (at_builtin; refine wpList_append_own_at _ rfl _ _ 46 rfl W1.heap.size 3 i1 (.int .i64 0) 1 8 Try.underlying46 hi' hz0' hz1' hz2' rfl (by decide) _ _ _ rfl (HR2.out.step ((Below.refl _ W2).alloc (Nat.le_refl _) _)).r0 ⟨W2.heap.size, 0, none⟩ 1 1 [.int .i64 1] rfl rfl (cell_one_new _ _ _) ?a2 ?a3 ?a4 (HR2.out.step ((Below.refl _ W2).alloc (Nat.le_refl _) _)).le ?_)
        case a2 => first | rfl | (intro u hu; simp at hu; subst hu; rfl)
        case a3 => unfold maxLen; omega
        case a4 => omega
        intro v' w5 hown' hgrow _ hat
        have hR5 := PkRows.grow1 (ns' := numsP l (j + 1)) (HR2.out.step ((Below.refl _ W2).alloc (Nat.le_refl _) (.cells #[.int .i64 1] 3))) (by rw [HNs.out, intV_snoc]; exact hown') (by rw [HNs.out, List.length_append]; rfl) hgrow (by rcases hat with h | h; exact .inl h; exact .inr (by rw [h]; simp))
        have hC5 : Cel w5 g5 77 [.string xk, .string xs, .bool true] :=
          (hgrow.block g5 (by have := HC2.out.lt; simp; omega) (fun e => absurd (HOn.out _ e.symm) (Nat.lt_irrefl _))).trans (HC2.out.below ((Below.refl _ W2).alloc (Nat.le_refl _) _))
        have HR5 := Lib.hid hR5
        have y0 := hC5.cell (i := 0) rfl
        have y1 := hC5.cell (i := 1) rfl
        clear hown' hgrow hat hR5 hC5 HR2 HC2 z0 z1 z2 HOn
        go_wp2_with (at_builtin; refine wpList_append_own_at _ rfl _ _ 22 rfl W1.heap.size 9 i0 (.string ⟨#[]⟩) 1 16 Try.underlying22 hi hz0 hz1 hz2 rfl (by decide) _ _ _ rfl (HR5.out.step ((Below.refl _ w5).alloc (Nat.le_refl _) _)).r1 ⟨w5.heap.size, 0, none⟩ 2 2 [.string xk, .string xs] rfl rfl (new_row (heap_alloc_new _ _)) ?b2 ?b3 ?b4 (HR5.out.step ((Below.refl _ w5).alloc (Nat.le_refl _) _)).le ?_)
        case b2 => intro u hu; simp at hu; rcases hu with rfl | rfl <;> rfl
        case b3 => unfold maxLen; omega
        case b4 => omega
        intro v2 w6 hown' hgrow _ hat
        have HR6 := Lib.hid (PkRows.grow2 (ts' := textsP l (j + 1)) (HR5.out.step ((Below.refl _ w5).alloc (Nat.le_refl _) (.cells #[.string xk, .string xs] 9))) (by rw [HTs.out, Pk.strV_snoc2, Pk.strV_snoc2, List.append_assoc]; exact hown') (by rw [HTs.out]; simp) hgrow (by rcases hat with h | h; exact .inl h; exact .inr (by rw [h]; simp)))
        clear hown' hgrow hat HR5 y0 y1
        go_wp2_with fail
        go_roundw
        case rel => exact ⟨j + 1, by omega, by go_num, HR6.out⟩
        case measure => simp [intOf]; omega
      | false =>
        go_upto_region 10 with (at_builtin; refine wpList_append_own_at _ rfl _ _ 46 rfl W1.heap.size 3 i1 (.int .i64 0) 1 8 Try.underlying46 hi' hz0' hz1' hz2' rfl (by decide) _ _ _ rfl (HR2.out.step ((Below.refl _ W2).alloc (Nat.le_refl _) _)).r0 ⟨W2.heap.size, 0, none⟩ 1 1 [.int .i64 0] rfl rfl (cell_one_new _ _ _) ?fa2 ?fa3 ?fa4 (HR2.out.step ((Below.refl _ W2).alloc (Nat.le_refl _) _)).le ?_)
        case fa2 => first | rfl | (intro u hu; simp at hu; subst hu; rfl)
        case fa3 => unfold maxLen; omega
        case fa4 => omega
        intro v' w5 hown' hgrow _ hat
        have hR5 := PkRows.grow1 (ns' := numsP l (j + 1)) (HR2.out.step ((Below.refl _ W2).alloc (Nat.le_refl _) (.cells #[.int .i64 0] 3))) (by rw [HNs.out, intV_snoc]; exact hown') (by rw [HNs.out, List.length_append]; rfl) hgrow (by rcases hat with h | h; exact .inl h; exact .inr (by rw [h]; simp))
        have hC5 : Cel w5 g5 77 [.string xk, .string xs, .bool false] :=
          (hgrow.block g5 (by have := HC2.out.lt; simp; omega) (fun e => absurd (HOn.out _ e.symm) (Nat.lt_irrefl _))).trans (HC2.out.below ((Below.refl _ W2).alloc (Nat.le_refl _) _))
        have HR5 := Lib.hid hR5
        have y0 := hC5.cell (i := 0) rfl
        have y1 := hC5.cell (i := 1) rfl
        clear hown' hgrow hat hR5 hC5 HR2 HC2 z0 z1 z2 HOn
        go_wp2_with (at_builtin; refine wpList_append_own_at _ rfl _ _ 22 rfl W1.heap.size 9 i0 (.string ⟨#[]⟩) 1 16 Try.underlying22 hi hz0 hz1 hz2 rfl (by decide) _ _ _ rfl (HR5.out.step ((Below.refl _ w5).alloc (Nat.le_refl _) _)).r1 ⟨w5.heap.size, 0, none⟩ 2 2 [.string xk, .string xs] rfl rfl (new_row (heap_alloc_new _ _)) ?fb2 ?fb3 ?fb4 (HR5.out.step ((Below.refl _ w5).alloc (Nat.le_refl _) _)).le ?_)
        case fb2 => intro u hu; simp at hu; rcases hu with rfl | rfl <;> rfl
        case fb3 => unfold maxLen; omega
        case fb4 => omega
        intro v2 w6 hown' hgrow _ hat
        have HR6 := Lib.hid (PkRows.grow2 (ts' := textsP l (j + 1)) (HR5.out.step ((Below.refl _ w5).alloc (Nat.le_refl _) (.cells #[.string xk, .string xs] 9))) (by rw [HTs.out, Pk.strV_snoc2, Pk.strV_snoc2, List.append_assoc]; exact hown') (by rw [HTs.out]; simp) hgrow (by rcases hat with h | h; exact .inl h; exact .inr (by rw [h]; simp)))
        clear hown' hgrow hat HR5 y0 y1
        go_wp2_with fail
        go_roundw
        case rel => exact ⟨j + 1, by omega, by go_num, HR6.out⟩
        case measure => simp [intOf]; omega
    · obtain rfl : j = l.ws.length := by omega
      have h2 := hrw.out
      rw [numsP_all, textsP_all] at h2
      obtain ⟨A1, c1, rfl, f1, f2⟩ := Pk.own_form h2.r0
      obtain ⟨B1, d1, rfl, f3, f4⟩ := Pk.own_form h2.r1
      have F := Lib.hid (And.intro f1 (And.intro f2 (And.intro f3 f4)))
      have hlt0 : w.heap.size + 1 < W1.heap.size := HR.out.lt
      have hN0 : (Value.slice A1 (numsOf l).length c1).ownBlock ≠ some (w.heap.size + 1) := fun e => by have := (h2.r0.lt _ e).1; omega
      have hN1 : (Value.slice B1 (textsOf l).length d1).ownBlock ≠ some (w.heap.size + 1) := fun e => by have := (h2.r1.lt _ e).1; omega
      have o0 := ownsRow_setCell_other (a := ⟨w.heap.size + 1, 1, none⟩) (ownsRow_setCell_other (a := ⟨w.heap.size + 1, 0, none⟩) h2.r0 hN0 (.slice A1 (numsOf l).length c1)) hN0 (.slice B1 (textsOf l).length d1)
      have o1 := ownsRow_setCell_other (a := ⟨w.heap.size + 1, 1, none⟩) (ownsRow_setCell_other (a := ⟨w.heap.size + 1, 0, none⟩) h2.r1 hN1 (.slice A1 (numsOf l).length c1)) hN1 (.slice B1 (textsOf l).length d1)
      have hRc := HR.out.below h2.bel
      have hF := (hRc.set (i := 0) (v := .slice A1 (numsOf l).length c1)).set (i := 1) (v := .slice B1 (textsOf l).length d1)
      have hBl : Below w.heap.size w ((wr.setCell ⟨w.heap.size + 1, 0, none⟩ (.slice A1 (numsOf l).length c1)).setCell ⟨w.heap.size + 1, 1, none⟩ (.slice B1 (textsOf l).length d1)) :=
        ((HE.out.bel.trans (h2.bel.mono HE.out.bel.size)).setCell (p := ⟨w.heap.size + 1, 0, none⟩) (by show w.heap.size ≤ w.heap.size + 1; omega) (.slice A1 (numsOf l).length c1)).setCell (p := ⟨w.heap.size + 1, 1, none⟩) (by show w.heap.size ≤ w.heap.size + 1; omega) (.slice B1 (textsOf l).length d1)
      have hI1 := ints_of_slice o0
      have hS1 := strs_of_slice o1
      have kq := fun i => hRc.free (i := i)
      have kq0 := hRc.cell (i := 0) rfl
      have kq1 := hRc.cell (i := 1) rfl
      have z0 := hF.cell (i := 0) rfl
      have z1 := hF.cell (i := 1) rfl
      have HBl := Lib.hid hBl
      have HI1 := Lib.hid hI1
      have HS1 := Lib.hid hS1
      clear hrw h2 hN0 hN1 o0 o1 hRc hF hBl hI1 hS1 f1 f2 f3 f4
      go_wp2_with fail
      exact bodyPost_ret (v := Pk.packV A1 B1 c1 d1 (numsOf l) (textsOf l)) (by simp [results, Try.results27, go_sem, Pk.packV, z0, z1]) rfl ⟨A1, B1, c1, d1, rfl, HI1.out, HS1.out, F.out.1, F.out.2.2.1, F.out.2.1, F.out.2.2.2, HBl.out⟩

end Lt
end Go.Proofs.Ytmllaighjhpbmaa
