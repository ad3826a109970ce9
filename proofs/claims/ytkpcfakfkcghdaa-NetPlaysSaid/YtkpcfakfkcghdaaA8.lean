/- Parts of the proof, joined: LtPack, PkLaw, BkBuild, PkDone1, PkDone2, BkClone; their conditions stand with each. -/
import Derived.Shelf.Strings.BuilderK
import Derived.Test.YtkpcfakfkcghdaaRows
import Derived.Lib.Strings
import Derived.Lib.Walk
import Derived.Lib.BufferWrite
import Derived.Lib.UnsafeStr
import Derived.Lib.Hide
import Derived.Laws.MakeOwn
import Derived.WalkKit
import Derived.Test.YtkpcfakfkcghdaaA0
import Derived.Test.YtkpcfakfkcghdaaA4
import Derived.Test.YtkpcfakfkcghdaaA5

/- What the landed package's toPack answers: the numbers and texts of a letter; contract; no condition but that the letter may be. -/
namespace Go.Proofs.Ytkpcfakfkcghdaa
namespace Lt
open Go.RowKit Bk

attribute [local go_sem ↓] Go.wp_at_zero Go.wp_at_succ
attribute [local go_sem] floatUpon pick

/-- two rows of the call's own, no block shared -/
structure PkRows (w W : World) (X : Nat) (v1 v2 : Value) (ns : List Int) (ts : List ByteArray) : Prop where
  r0 : W.ownsRow X 3 1 v1 ns.length (intV ns)
  r1 : W.ownsRow X 9 1 v2 ts.length (strV ts)
  d : Unlike v1 v2
  bel : Below X w W
  le : X ≤ W.heap.size

theorem PkRows.step {w W W' : World} {X : Nat} {v1 v2 : Value} {ns : List Int} {ts : List ByteArray} (h : PkRows w W X v1 v2 ns ts) (hb : Below W.heap.size W W') : PkRows w W' X v1 v2 ns ts :=
  ⟨st_keep h.r0 hb, st_keep h.r1 hb, h.d, h.bel.trans (hb.mono h.le), Nat.le_trans h.le hb.size⟩

theorem PkRows.grow1 {w W W1 : World} {X n' : Nat} {v1 v2 v' : Value} {ns ns' : List Int} {ts : List ByteArray} (h : PkRows w W X v1 v2 ns ts) (ho : W1.ownsRow X 3 1 v' n' (intV ns')) (hl : n' = ns'.length) (hg : W.grownBy W1 v1.ownBlock) (hat : v'.ownBlock = v1.ownBlock ∨ v'.ownBlock = some W.heap.size) : PkRows w W1 X v' v2 ns' ts := by
  subst hl
  have hb := h.bel.grown hg h.le (fun k hk => (h.r0.lt k hk).1)
  exact ⟨ho, h.r1.kept hg h.d.symm.ne, (h.d.symm.next (fun j hj => (h.r1.lt j hj).2) hat (Nat.le_refl _)).symm, hb, Nat.le_trans h.le hg.size⟩

theorem PkRows.grow2 {w W W1 : World} {X n' : Nat} {v1 v2 v' : Value} {ns : List Int} {ts ts' : List ByteArray} (h : PkRows w W X v1 v2 ns ts) (ho : W1.ownsRow X 9 1 v' n' (strV ts')) (hl : n' = ts'.length) (hg : W.grownBy W1 v2.ownBlock) (hat : v'.ownBlock = v2.ownBlock ∨ v'.ownBlock = some W.heap.size) : PkRows w W1 X v1 v' ns ts' := by
  subst hl
  have hb := h.bel.grown hg h.le (fun k hk => (h.r1.lt k hk).1)
  exact ⟨h.r0.kept hg h.d.ne, ho, h.d.next (fun j hj => (h.r0.lt j hj).2) hat (Nat.le_refl _), hb, Nat.le_trans h.le hg.size⟩

theorem ints_of_slice {w : World} {H c : Nat} {A : Option Addr} {e : TypeId} {O : List Int} (h : w.ownsRow H e 1 (.slice A O.length c) O.length (intV O)) : IntsAt w A O := by
  obtain ⟨A2, c2, e2, hh⟩ := ints_of_own h rfl
  simp only [Value.slice.injEq] at e2
  rw [e2.1]; exact hh

theorem strs_of_slice {w : World} {H c : Nat} {A : Option Addr} {e : TypeId} {O : List ByteArray} (h : w.ownsRow H e 1 (.slice A O.length c) O.length (strV O)) : StrsAt w A O := by
  obtain ⟨A2, c2, e2, hh⟩ := strs_of_own2 h rfl
  simp only [Value.slice.injEq] at e2
  rw [e2.1]; exact hh

set_option maxRecDepth 20000 in
set_option maxHeartbeats 8000000 in
theorem toPack_any (A B : Option Addr) (c d : Nat) (l : Let) (w : World) (ha : StrsAt w A l.keys) (hb : WrsAt w B l.ws) (hA : A = none → c = 0) (hok : LetOk l) :
    Calls Try.prog 39 #[letV l A B c d] w fun e w' => ∃ (A1 B1 : Option Addr) (c1 d1 : Nat), e = .returned (Pk.packV A1 B1 c1 d1 (numsOf l) (textsOf l)) ∧ IntsAt w' A1 (numsOf l) ∧ StrsAt w' B1 (textsOf l) ∧ (numsOf l).length ≤ c1 ∧ (textsOf l).length ≤ d1 ∧ c1 ≤ maxLen ∧ d1 ≤ maxLen ∧ Below w.heap.size w w' := by
  obtain ⟨i0, hi, hz0, hz1, hz2⟩ := info_parts Try.infoStr
  obtain ⟨i1, hi', hz0', hz1', hz2'⟩ := info_parts Pk.Try.infoInt
  have henv := LtEnv.start (c := c) (d := d) ha hb
  have hbd := hok.bounds
  have nk : l.keys.length ≤ 16 := hbd.1
  have nw : l.ws.length ≤ 16 := hbd.2.1
  have pk : (l.keys.length : Int) ≤ 16 := by omega
  have pw : (l.ws.length : Int) ≤ 16 := by omega
  have HAn := Lib.hid hA
  clear ha hb hbd hok hA
  unfold letV
  go_enter Try.func39, Try.ntmps39
  go_upto_region 1 with fail
  have hE1 := henv.step ((Below.refl _ _).alloc (Nat.le_refl _) (.cells #[.slice none 0 0, .slice none 0 0] 71))
  have hR1 : Cel ((w.alloc (.cells #[.int .i64 l.kind, .int .i64 l.src, .int .i64 l.dst, .int .i64 l.txn, .int .i64 l.ts, .int .i64 l.code, .string l.text, .slice A l.keys.length c, .slice B l.ws.length d] 35)).alloc (.cells #[.slice none 0 0, .slice none 0 0] 71)) (w.heap.size + 1) 71 [.slice none 0 0, .slice none 0 0] := (blk2 w _ _).2.2
  generalize (w.alloc (.cells #[.int .i64 l.kind, .int .i64 l.src, .int .i64 l.dst, .int .i64 l.txn, .int .i64 l.ts, .int .i64 l.code, .string l.text, .slice A l.keys.length c, .slice B l.ws.length d] 35)).alloc (.cells #[.slice none 0 0, .slice none 0 0] 71) = W1 at hE1 hR1 ⊢
  have HE := Lib.hid hE1
  have HR := Lib.hid hR1
  have k0 := hE1.cel.cell (i := 0) rfl
  have k1 := hE1.cel.cell (i := 1) rfl
  have k2 := hE1.cel.cell (i := 2) rfl
  have k3 := hE1.cel.cell (i := 3) rfl
  have k4 := hE1.cel.cell (i := 4) rfl
  have k5 := hE1.cel.cell (i := 5) rfl
  have k7 := hE1.cel.cell (i := 7) rfl
  have q6 := fun o : Obj => (hE1.step ((Below.refl _ W1).alloc (Nat.le_refl _) o)).cel.cell (i := 6) rfl
  have q7 := fun o o2 : Obj => ((hE1.step ((Below.refl _ W1).alloc (Nat.le_refl _) o)).step ((Below.refl _ _).alloc (Nat.le_refl _) o2)).cel.cell (i := 7) rfl
  clear henv hE1 hR1
  go_upto_region 2 with fail
  have hs1 : (W1.alloc (.cells #[.int .i64 l.kind, .int .i64 l.src, .int .i64 l.dst, .int .i64 l.txn, .int .i64 l.ts, .int .i64 l.code, .int .i64 (l.keys.length : Int)] 3)).heap.size = W1.heap.size + 1 := (blk1 _ _).1
  obtain ⟨s2, b1, b2⟩ := blk2 W1 (.cells #[.int .i64 l.kind, .int .i64 l.src, .int .i64 l.dst, .int .i64 l.txn, .int .i64 l.ts, .int .i64 l.code, .int .i64 (l.keys.length : Int)] 3) (.cells #[.string l.text] 9)
  have hrw : PkRows W1 ((W1.alloc (.cells #[.int .i64 l.kind, .int .i64 l.src, .int .i64 l.dst, .int .i64 l.txn, .int .i64 l.ts, .int .i64 l.code, .int .i64 (l.keys.length : Int)] 3)).alloc (.cells #[.string l.text] 9)) W1.heap.size (.slice (some ⟨W1.heap.size, 0, none⟩) 7 7) (.slice (some ⟨W1.heap.size + 1, 0, none⟩) 1 1) (numsP l 0) [l.text] := by
    refine ⟨?_, ?_, ?_, ((Below.refl _ W1).alloc (Nat.le_refl _) _).alloc (by simp) _, by omega⟩
    · have : (numsP l 0).length = 7 := by simp [numsP]
      rw [this]
      exact ⟨by rw [intV_len, this], .inr ⟨W1.heap.size, 7, _, rfl, Nat.le_refl _, b1, Nat.le_refl _, by unfold maxLen; omega, rfl, by simp [numsP, intV]⟩⟩
    · exact ⟨rfl, .inr ⟨W1.heap.size + 1, 1, _, rfl, by omega, b2, Nat.le_refl _, by unfold maxLen; omega, rfl, rfl⟩⟩
    · intro j h1 h2; simp [Value.ownBlock] at h1 h2; omega
  have HRw := Lib.hid hrw
  have HA2 := Lib.hid (show A = none → l.keys.length = 0 ∧ c = 0 from fun e => by
      refine ⟨?_, HAn.out e⟩
      rcases Nat.eq_zero_or_pos l.keys.length with h | h
      · exact h
      · obtain ⟨ad, h2, _⟩ := HE.out.ks h; rw [e] at h2; cases h2)
  clear s2 b1 b2 hrw k0 k1 k2 k3 k4 k5 k7
  go_upto_region 3 with (at_builtin; refine wpList_append_opt rfl _ _ 32 rfl W1.heap.size 9 i0 (.string ⟨#[]⟩) 16 Try.underlying32 hi hz0 hz1 hz2 rfl _ 1 _ rfl HRw.out.r1 A l.keys.length c (strV l.keys) rfl (strV_len _) HA2.out ?c1 ?c2 ?c3 ?c4 HRw.out.le ?_)
  case c1 => exact fun ad e => by subst e; exact (HE.out.step HRw.out.bel).ks.news
  case c2 => intro u hu; obtain ⟨s, _, rfl⟩ := List.mem_map.1 hu; rfl
  case c3 => unfold maxLen; omega
  case c4 => omega
  intro v' w3 ho hg hat
  have HR3 := Lib.hid (PkRows.grow2 (ts' := textsP l 0) HRw.out (by
    have e : strV [l.text] ++ strV l.keys = strV (textsP l 0) := by simp [strV, textsP]
    rw [← e]; exact ho) (by simp [textsP]; omega) hg (by rcases hat with h | h; exact .inl h; exact .inr (by rw [h]; simp)))
  clear ho hg hat HRw q6 q7 hs1
  generalize (Value.slice (some ⟨W1.heap.size, 0, none⟩) 7 7) = vn at HR3 ⊢
  have k8 := (HE.out.step HR3.out.bel).cel.cell (i := 8) rfl
  go_wp2_with fail
  go_loopw [3, 4, 33] (fun v1 v2 i wr => ∃ (j : Nat), j ≤ l.ws.length ∧ i = .int .i64 (j : Int) ∧ Hid (PkRows W1 wr W1.heap.size v1 v2 (numsP l j) (textsP l j))) (fun _ _ i _ => l.ws.length - (intOf i).toNat)
  case atStart => exact ⟨0, by omega, rfl, HR3.out⟩
  case round =>
    obtain ⟨j, hj, rfl, hrw⟩ := hrel
    clear HR3 k8
    by_cases hlt : j < l.ws.length
    · have pj : (j : Int) < (l.ws.length : Int) := by omega
      have hle := HE.out.step hrw.out.bel
      obtain ⟨bd, rfl, _, hcb⟩ := hle.ws (by omega)
      obtain ⟨x0, x1, x2⟩ := hcb j hlt
      rw [← add_field _ _ _ (by omega)] at x1 x2
      have hns := numsP_succ hlt
      have hts := textsP_succ hlt
      have hnl := numsP_len l j
      have htl := textsP_len l j
      obtain ⟨X, hX⟩ : ∃ X, X = l.ws[j] := ⟨_, rfl⟩
      rw [← hX] at x0 x1 x2 hns hts
      clear hX hcb hle
      obtain ⟨xk, xs, xd⟩ := X
      simp only at *
      go_upto_region 6 with fail
      have hR2 := hrw.out.step ((Below.refl _ wr).alloc (Nat.le_refl _) (.cells #[.string xk, .string xs, .bool xd] 82))
      have hC2 : Cel (wr.alloc (.cells #[.string xk, .string xs, .bool xd] 82)) wr.heap.size 82 [.string xk, .string xs, .bool xd] := (blk1 _ _).2
      have hOn : ∀ k, u3.ownBlock = some k → k < wr.heap.size := fun k hk => (hrw.out.r0.lt k hk).2
      generalize wr.alloc (.cells #[.string xk, .string xs, .bool xd] 82) = W2 at hR2 hC2 ⊢
      have HR2 := Lib.hid hR2
      have HNs := Lib.hid hns
      have HTs := Lib.hid hts
      have HOn := Lib.hid hOn
      have z0 := hC2.cell (i := 0) rfl
      have z1 := hC2.cell (i := 1) rfl
      have z2 := hC2.cell (i := 2) rfl
      have HC2 := Lib.hid hC2
      clear hR2 hns hts hOn hC2 hrw x0 x1 x2
      generalize wr.heap.size = g5 at *
      cases xd with
      | true =>
        go_upto_region 10 with (at_builtin; refine wpList_append_own_at _ rfl _ _ 43 rfl W1.heap.size 3 i1 (.int .i64 0) 1 8 Try.underlying43 hi' hz0' hz1' hz2' rfl (by decide) _ _ _ rfl (HR2.out.step ((Below.refl _ W2).alloc (Nat.le_refl _) _)).r0 ⟨W2.heap.size, 0, none⟩ 1 1 [.int .i64 1] rfl rfl (cell_one_new _ _ _) ?a2 ?a3 ?a4 (HR2.out.step ((Below.refl _ W2).alloc (Nat.le_refl _) _)).le ?_)
        case a2 => first | rfl | (intro u hu; simp at hu; subst hu; rfl)
        case a3 => unfold maxLen; omega
        case a4 => omega
        intro v' w5 hown' hgrow _ hat
        have hR5 := PkRows.grow1 (ns' := numsP l (j + 1)) (HR2.out.step ((Below.refl _ W2).alloc (Nat.le_refl _) (.cells #[.int .i64 1] 3))) (by rw [HNs.out, intV_snoc]; exact hown') (by rw [HNs.out, List.length_append]; rfl) hgrow (by rcases hat with h | h; exact .inl h; exact .inr (by rw [h]; simp))
        have hC5 : Cel w5 g5 82 [.string xk, .string xs, .bool true] :=
          (hgrow.block g5 (by have := HC2.out.lt; simp; omega) (fun e => absurd (HOn.out _ e.symm) (Nat.lt_irrefl _))).trans (HC2.out.below ((Below.refl _ W2).alloc (Nat.le_refl _) _))
        have HR5 := Lib.hid hR5
        have y0 := hC5.cell (i := 0) rfl
        have y1 := hC5.cell (i := 1) rfl
        clear hown' hgrow hat hR5 hC5 HR2 HC2 z0 z1 z2 HOn
        go_wp2_with (at_builtin; refine wpList_append_own_at _ rfl _ _ 32 rfl W1.heap.size 9 i0 (.string ⟨#[]⟩) 1 16 Try.underlying32 hi hz0 hz1 hz2 rfl (by decide) _ _ _ rfl (HR5.out.step ((Below.refl _ w5).alloc (Nat.le_refl _) _)).r1 ⟨w5.heap.size, 0, none⟩ 2 2 [.string xk, .string xs] rfl rfl (new_row (heap_alloc_new _ _)) ?b2 ?b3 ?b4 (HR5.out.step ((Below.refl _ w5).alloc (Nat.le_refl _) _)).le ?_)
        case b2 => intro u hu; simp at hu; rcases hu with rfl | rfl <;> rfl
        case b3 => unfold maxLen; omega
        case b4 => omega
        intro v2 w6 hown' hgrow _ hat
        have HR6 := Lib.hid (PkRows.grow2 (ts' := textsP l (j + 1)) (HR5.out.step ((Below.refl _ w5).alloc (Nat.le_refl _) (.cells #[.string xk, .string xs] 9))) (by rw [HTs.out, Pk.strV_snoc2, Pk.strV_snoc2, List.append_assoc]; exact hown') (by rw [HTs.out]; simp) hgrow (by rcases hat with h | h; exact .inl h; exact .inr (by rw [h]; simp)))
        clear hown' hgrow hat HR5 y0 y1
        go_wp2_with fail
        go_roundw
        case rel => exact ⟨j + 1, by omega, by go_num, HR6.out⟩
        case measure => simp [intOf]; omega
      | false =>
        go_upto_region 10 with (at_builtin; refine wpList_append_own_at _ rfl _ _ 43 rfl W1.heap.size 3 i1 (.int .i64 0) 1 8 Try.underlying43 hi' hz0' hz1' hz2' rfl (by decide) _ _ _ rfl (HR2.out.step ((Below.refl _ W2).alloc (Nat.le_refl _) _)).r0 ⟨W2.heap.size, 0, none⟩ 1 1 [.int .i64 0] rfl rfl (cell_one_new _ _ _) ?fa2 ?fa3 ?fa4 (HR2.out.step ((Below.refl _ W2).alloc (Nat.le_refl _) _)).le ?_)
        case fa2 => first | rfl | (intro u hu; simp at hu; subst hu; rfl)
        case fa3 => unfold maxLen; omega
        case fa4 => omega
        intro v' w5 hown' hgrow _ hat
        have hR5 := PkRows.grow1 (ns' := numsP l (j + 1)) (HR2.out.step ((Below.refl _ W2).alloc (Nat.le_refl _) (.cells #[.int .i64 0] 3))) (by rw [HNs.out, intV_snoc]; exact hown') (by rw [HNs.out, List.length_append]; rfl) hgrow (by rcases hat with h | h; exact .inl h; exact .inr (by rw [h]; simp))
        have hC5 : Cel w5 g5 82 [.string xk, .string xs, .bool false] :=
          (hgrow.block g5 (by have := HC2.out.lt; simp; omega) (fun e => absurd (HOn.out _ e.symm) (Nat.lt_irrefl _))).trans (HC2.out.below ((Below.refl _ W2).alloc (Nat.le_refl _) _))
        have HR5 := Lib.hid hR5
        have y0 := hC5.cell (i := 0) rfl
        have y1 := hC5.cell (i := 1) rfl
        clear hown' hgrow hat hR5 hC5 HR2 HC2 z0 z1 z2 HOn
        go_wp2_with (at_builtin; refine wpList_append_own_at _ rfl _ _ 32 rfl W1.heap.size 9 i0 (.string ⟨#[]⟩) 1 16 Try.underlying32 hi hz0 hz1 hz2 rfl (by decide) _ _ _ rfl (HR5.out.step ((Below.refl _ w5).alloc (Nat.le_refl _) _)).r1 ⟨w5.heap.size, 0, none⟩ 2 2 [.string xk, .string xs] rfl rfl (new_row (heap_alloc_new _ _)) ?fb2 ?fb3 ?fb4 (HR5.out.step ((Below.refl _ w5).alloc (Nat.le_refl _) _)).le ?_)
        case fb2 => intro u hu; simp at hu; rcases hu with rfl | rfl <;> rfl
        case fb3 => unfold maxLen; omega
        case fb4 => omega
        intro v2 w6 hown' hgrow _ hat
        have HR6 := Lib.hid (PkRows.grow2 (ts' := textsP l (j + 1)) (HR5.out.step ((Below.refl _ w5).alloc (Nat.le_refl _) (.cells #[.string xk, .string xs] 9))) (by rw [HTs.out, Pk.strV_snoc2, Pk.strV_snoc2, List.append_assoc]; exact hown') (by rw [HTs.out]; simp) hgrow (by rcases hat with h | h; exact .inl h; exact .inr (by rw [h]; simp)))
        clear hown' hgrow hat HR5 y0 y1
        go_wp2_with fail
        go_roundw
        case rel => exact ⟨j + 1, by omega, by go_num, HR6.out⟩
        case measure => simp [intOf]; omega
    · obtain rfl : j = l.ws.length := by omega
      have h2 := hrw.out
      rw [numsP_all, textsP_all] at h2
      obtain ⟨A1, c1, rfl, f1, f2⟩ := Pk.own_form h2.r0
      obtain ⟨B1, d1, rfl, f3, f4⟩ := Pk.own_form h2.r1
      have F := Lib.hid (And.intro f1 (And.intro f2 (And.intro f3 f4)))
      have hlt0 : w.heap.size + 1 < W1.heap.size := HR.out.lt
      have hN0 : (Value.slice A1 (numsOf l).length c1).ownBlock ≠ some (w.heap.size + 1) := fun e => by have := (h2.r0.lt _ e).1; omega
      have hN1 : (Value.slice B1 (textsOf l).length d1).ownBlock ≠ some (w.heap.size + 1) := fun e => by have := (h2.r1.lt _ e).1; omega
      have o0 := ownsRow_setCell_other (a := ⟨w.heap.size + 1, 1, none⟩) (ownsRow_setCell_other (a := ⟨w.heap.size + 1, 0, none⟩) h2.r0 hN0 (.slice A1 (numsOf l).length c1)) hN0 (.slice B1 (textsOf l).length d1)
      have o1 := ownsRow_setCell_other (a := ⟨w.heap.size + 1, 1, none⟩) (ownsRow_setCell_other (a := ⟨w.heap.size + 1, 0, none⟩) h2.r1 hN1 (.slice A1 (numsOf l).length c1)) hN1 (.slice B1 (textsOf l).length d1)
      have hRc := HR.out.below h2.bel
      have hF := (hRc.set (i := 0) (v := .slice A1 (numsOf l).length c1)).set (i := 1) (v := .slice B1 (textsOf l).length d1)
      have hBl : Below w.heap.size w ((wr.setCell ⟨w.heap.size + 1, 0, none⟩ (.slice A1 (numsOf l).length c1)).setCell ⟨w.heap.size + 1, 1, none⟩ (.slice B1 (textsOf l).length d1)) :=
        ((HE.out.bel.trans (h2.bel.mono HE.out.bel.size)).setCell (p := ⟨w.heap.size + 1, 0, none⟩) (by show w.heap.size ≤ w.heap.size + 1; omega) (.slice A1 (numsOf l).length c1)).setCell (p := ⟨w.heap.size + 1, 1, none⟩) (by show w.heap.size ≤ w.heap.size + 1; omega) (.slice B1 (textsOf l).length d1)
      have hI1 := ints_of_slice o0
      have hS1 := strs_of_slice o1
      have kq := fun i => hRc.free (i := i)
      have kq0 := hRc.cell (i := 0) rfl
      have kq1 := hRc.cell (i := 1) rfl
      have z0 := hF.cell (i := 0) rfl
      have z1 := hF.cell (i := 1) rfl
      have HBl := Lib.hid hBl
      have HI1 := Lib.hid hI1
      have HS1 := Lib.hid hS1
      clear hrw h2 hN0 hN1 o0 o1 hRc hF hBl hI1 hS1 f1 f2 f3 f4
      go_wp2_with fail
      exact bodyPost_ret (v := Pk.packV A1 B1 c1 d1 (numsOf l) (textsOf l)) (by simp [results, Try.results39, go_sem, Pk.packV, z0, z1]) rfl ⟨A1, B1, c1, d1, rfl, HI1.out, HS1.out, F.out.1, F.out.2.2.1, F.out.2.1, F.out.2.2.2, HBl.out⟩

end Lt
end Go.Proofs.Ytkpcfakfkcghdaa

/- What is asked of the landed package pack; the example, whether packs are the same, and the laws Reads and Numbers over it. -/
namespace Go.Proofs.Ytkpcfakfkcghdaa
namespace Pk
open Go.RowKit Bk

attribute [local go_sem ↓] Go.wp_at_zero Go.wp_at_succ
attribute [local go_sem] floatUpon pick

/-- what a pack as an argument is -/
structure ArgOk (c d : Nat) (ns : List Int) (ts : List ByteArray) : Prop where
  n8 : ns.length * 8 ≤ 140737488351232
  t16 : ts.length * 16 ≤ 140737488351232
  nr : ∀ n ∈ ns, -9223372036854775808 ≤ n ∧ n ≤ 9223372036854775807
  tr : ∀ t ∈ ts, t.size ≤ 140737488351232
  nc : ns.length ≤ c
  tc : ts.length ≤ d
  c63 : c ≤ maxLen
  d63 : d ≤ maxLen

theorem ArgOk.range {c d : Nat} {ns : List Int} {ts : List ByteArray} (h : ArgOk c d ns ts) : InRange ns ts :=
  ⟨by have := h.n8; omega, by have := h.t16; omega, h.nr, fun t ht => by have := h.tr t ht; omega⟩

/-- what is asked of pack.Check -/
def CheckAll : Prop := ∀ (A B : Option Addr) (c d : Nat) (ns : List Int) (ts : List ByteArray) (w : World), IntsAt w A ns → StrsAt w B ts → ArgOk c d ns ts →
  Calls Try.prog 51 #[packV A B c d ns ts] w fun e w' => e = .returned (.int .i64 (ckE ns ts : Int)) ∧ Below w.heap.size w w'

/-- what is asked of pack.Encode -/
def EncodeAll : Prop := ∀ (A B : Option Addr) (c d : Nat) (ns : List Int) (ts : List ByteArray) (w : World), IntsAt w A ns → StrsAt w B ts → ArgOk c d ns ts →
  Calls Try.prog 38 #[packV A B c d ns ts] w fun e w' => e = .returned (encV ns ts) ∧ Below w.heap.size w w'

/-- what the landed Decode answers: as the document's, and the lists fit their slices -/
def DecAns2 (s : ByteArray) (w : World) : Ending → World → Prop := fun e w' =>
  ∃ (A B : Option Addr) (c d : Nat), e = .returned (.tuple #[packV A B c d (decR s).1 (decR s).2.1, .int .i64 ((decR s).2.2.1 : Int), .int .i64 ((decR s).2.2.2 : Int)]) ∧ IntsAt w' A (decR s).1 ∧ StrsAt w' B (decR s).2.1 ∧ Below w.heap.size w w' ∧
    (decR s).1.length ≤ c ∧ (decR s).2.1.length ≤ d ∧ c ≤ maxLen ∧ d ≤ maxLen

/-- what is asked of pack.Decode -/
def DecodeAll : Prop := ∀ (s : ByteArray) (w : World), s.size ≤ 1000000000000000 → Calls Try.prog 40 #[.string s] w (DecAns2 s w)

theorem example_bytes : bytesL [1, -1, 300] [⟨#[97, 98]⟩] = [3, 2, 1, 216, 4, 1, 2, 97, 98] := by
  have h1 : plain 3 = [3] := plain_small (by omega)
  have h2 : signed 1 = [2] := plain_small (by show zig 1 < 128; decide)
  have h3 : signed (-1) = [1] := plain_small (by show zig (-1) < 128; decide)
  have h4 : signed 300 = [216, 4] := by
    show plain 600 = _
    rw [plain_big (by omega), plain_small (by omega)]; rfl
  have h5 : plain 1 = [1] := plain_small (by omega)
  have h6 : plain 2 = [2] := plain_small (by omega)
  show plain 3 ++ ((signed 1 ++ (signed (-1) ++ (signed 300 ++ []))) ++ (plain 1 ++ ((plain 2 ++ [97, 98]) ++ []))) = _
  rw [h1, h2, h3, h4, h5, h6]; rfl

theorem example_maybe : MayBe [1, -1, 300] [⟨#[97, 98]⟩] := ⟨by decide, by decide, by decide, by
  intro t ht
  rw [List.mem_singleton] at ht
  subst ht; decide⟩

/-- how long the lists of a decoding are -/
theorem decR_len (s : ByteArray) : (decR s).1.length ≤ 1024 ∧ (decR s).2.1.length ≤ 1024 := by
  unfold decR
  cases h : decL s.data.toList with
  | error e => exact ⟨by simp, by simp⟩
  | ok x =>
    obtain ⟨ns, ts⟩ := x
    have := (decL_ok h).1
    exact ⟨this.1, this.2.1⟩

theorem numV_ok {z : Int} (h : numOk z) : numV z = .tuple #[.string ⟨(signed z).toArray⟩, .int .i64 0] := by unfold numV; rw [if_pos h]

theorem half_ok {a : Int} (h : -9223372036854775808 ≤ a ∧ a ≤ 9223372036854775807) : numOk (a / 2) := by
  unfold numOk; omega

end Pk
end Go.Proofs.Ytkpcfakfkcghdaa

/- The contracts of the library's strings.Builder at this program: WriteByte, WriteString, String, over one table of numbers; a builder as a list of bytes. -/
namespace Go.Proofs.Ytkpcfakfkcghdaa
namespace Bk
open Go.RowKit Go.Shelf

def ren : Go.Shelf.Ren := ⟨fun | 240 => 78 | 276 => 89 | 167 => 77 | 166 => 55 | 169 => 56 | n => n, fun | 0 => 0 | 3 => 3 | 4 => 4 | 5 => 5 | 9 => 9 | 20 => 20 | 37 => 86 | 70 => 85 | 72 => 88 | 75 => 94 | 80 => 97 | 127 => 119 | 164 => 130 | n => n, fun n => n⟩

theorem lays240 : Go.Proofs.Lays.n240 Try.prog ren := {
  mixed := by kernel_rfl
  f240 := Try.func78.trans (congrArg some (by kernel_rfl))
  f276 := Try.func89.trans (congrArg some (by kernel_rfl))
  t0 := Try.underlying0
  a0 := Try.isAgg0
  z0 := Try.sizeOf0
  v0 := Try.zeroValue0
  t4 := Try.underlying4
  a4 := Try.isAgg4
  z4 := Try.sizeOf4
  v4 := Try.zeroValue4
  t9 := Try.underlying9
  a9 := Try.isAgg9
  z9 := Try.sizeOf9
  v9 := Try.zeroValue9
  t20 := Try.underlying20
  a20 := Try.isAgg20
  z20 := Try.sizeOf20
  v20 := Try.zeroValue20
  t70 := Try.underlying85
  a70 := Try.isAgg85
  z70 := Try.sizeOf85
  v70 := Try.zeroValue85
  t72 := Try.underlying88
  a72 := Try.isAgg88
  z72 := Try.sizeOf88
  v72 := Try.zeroValue88
  t164 := Try.underlying130
  a164 := Try.isAgg130
  z164 := Try.sizeOf130
  v164 := Try.zeroValue130 }

theorem lays167 : Go.Proofs.Lays.n167 Try.prog ren := {
  mixed := by kernel_rfl
  f167 := Try.func77.trans (congrArg some (by kernel_rfl))
  f240 := Try.func78.trans (congrArg some (by kernel_rfl))
  f276 := Try.func89.trans (congrArg some (by kernel_rfl))
  t0 := Try.underlying0
  a0 := Try.isAgg0
  z0 := Try.sizeOf0
  v0 := Try.zeroValue0
  t4 := Try.underlying4
  a4 := Try.isAgg4
  z4 := Try.sizeOf4
  v4 := Try.zeroValue4
  t5 := Try.underlying5
  a5 := Try.isAgg5
  z5 := Try.sizeOf5
  v5 := Try.zeroValue5
  t9 := Try.underlying9
  a9 := Try.isAgg9
  z9 := Try.sizeOf9
  v9 := Try.zeroValue9
  t20 := Try.underlying20
  a20 := Try.isAgg20
  z20 := Try.sizeOf20
  v20 := Try.zeroValue20
  t37 := Try.underlying86
  a37 := Try.isAgg86
  z37 := Try.sizeOf86
  v37 := Try.zeroValue86
  t70 := Try.underlying85
  a70 := Try.isAgg85
  z70 := Try.sizeOf85
  v70 := Try.zeroValue85
  t72 := Try.underlying88
  a72 := Try.isAgg88
  z72 := Try.sizeOf88
  v72 := Try.zeroValue88
  t75 := Try.underlying94
  a75 := Try.isAgg94
  z75 := Try.sizeOf94
  v75 := Try.zeroValue94
  t164 := Try.underlying130
  a164 := Try.isAgg130
  z164 := Try.sizeOf130
  v164 := Try.zeroValue130 }

theorem lays166 : Go.Proofs.Lays.n166 Try.prog ren := {
  mixed := by kernel_rfl
  f166 := Try.func55.trans (congrArg some (by kernel_rfl))
  f240 := Try.func78.trans (congrArg some (by kernel_rfl))
  f276 := Try.func89.trans (congrArg some (by kernel_rfl))
  t0 := Try.underlying0
  a0 := Try.isAgg0
  z0 := Try.sizeOf0
  v0 := Try.zeroValue0
  t3 := Try.underlying3
  a3 := Try.isAgg3
  z3 := Try.sizeOf3
  v3 := Try.zeroValue3
  t4 := Try.underlying4
  a4 := Try.isAgg4
  z4 := Try.sizeOf4
  v4 := Try.zeroValue4
  t9 := Try.underlying9
  a9 := Try.isAgg9
  z9 := Try.sizeOf9
  v9 := Try.zeroValue9
  t20 := Try.underlying20
  a20 := Try.isAgg20
  z20 := Try.sizeOf20
  v20 := Try.zeroValue20
  t37 := Try.underlying86
  a37 := Try.isAgg86
  z37 := Try.sizeOf86
  v37 := Try.zeroValue86
  t70 := Try.underlying85
  a70 := Try.isAgg85
  z70 := Try.sizeOf85
  v70 := Try.zeroValue85
  t72 := Try.underlying88
  a72 := Try.isAgg88
  z72 := Try.sizeOf88
  v72 := Try.zeroValue88
  t75 := Try.underlying94
  a75 := Try.isAgg94
  z75 := Try.sizeOf94
  v75 := Try.zeroValue94
  t164 := Try.underlying130
  a164 := Try.isAgg130
  z164 := Try.sizeOf130
  v164 := Try.zeroValue130 }

theorem lays169 : Go.Proofs.Lays.n169 Try.prog ren := {
  mixed := by kernel_rfl
  f169 := Try.func56.trans (congrArg some (by kernel_rfl))
  t0 := Try.underlying0
  a0 := Try.isAgg0
  z0 := Try.sizeOf0
  v0 := Try.zeroValue0
  t3 := Try.underlying3
  a3 := Try.isAgg3
  z3 := Try.sizeOf3
  v3 := Try.zeroValue3
  t9 := Try.underlying9
  a9 := Try.isAgg9
  z9 := Try.sizeOf9
  v9 := Try.zeroValue9
  t37 := Try.underlying86
  a37 := Try.isAgg86
  z37 := Try.sizeOf86
  v37 := Try.zeroValue86
  t70 := Try.underlying85
  a70 := Try.isAgg85
  z70 := Try.sizeOf85
  v70 := Try.zeroValue85
  t72 := Try.underlying88
  a72 := Try.isAgg88
  z72 := Try.sizeOf88
  v72 := Try.zeroValue88
  t127 := Try.underlying119
  a127 := Try.isAgg119
  z127 := Try.sizeOf119
  v127 := Try.zeroValue119 }

theorem bldExtra : Go.Proofs.Builder.Extra Try.prog ren := {
  sizeBuilder := by kernel_rfl
  liesBuilder := by kernel_rfl
  t5 := Try.underlying5
  a5 := Try.isAgg5
  z5 := Try.sizeOf5
  v5 := Try.zeroValue5
  infoByte := by kernel_rfl
  cellsByte := by kernel_rfl
  sizeByte := by kernel_rfl
  neB5 := by decide }

/-- the block b is a builder that holds these bytes -/
def Bld (b : Nat) (l : List UInt8) (w : World) : Prop := Lib.IsBuilderF 88 5 b b (Lib.byteCells l) w

theorem Bld.lt {b : Nat} {l : List UInt8} {w : World} (h : Bld b l w) : b < w.heap.size := by
  rcases h with h | h
  · exact h.lt
  · exact h.lt

theorem Bld.new (w : World) : Bld w.heap.size [] (w.alloc (.cells #[.pointer none, .slice none 0 0] 88)) := Lib.IsBuilderF.of (Lib.fresh_isBuilder _ _ w)

theorem bld_byte {b : Nat} {l : List UInt8} {w : World} (c : Nat) (h : Bld b l w) (hc : c < 256) (hl : l.length + 1 ≤ 140737488355328) :
    Calls Try.prog 77 #[.pointer (some ⟨b, 0, none⟩), .int .u8 (c : Int)] w fun e w' => e = .returned .nilIface ∧ Bld b (l ++ [UInt8.ofNat c]) w' ∧ Below b w w' := by
  refine (Any.Builder_WriteByte_k lays167 bldExtra b b (Lib.byteCells l) (c : Int) w h (by rw [Lib.byteCells_length]; exact hl) (Nat.le_of_lt h.lt)).mono ?_
  rintro e w' ⟨rfl, h1, h2, _⟩
  refine ⟨rfl, .inr ?_, h2⟩
  have e1 : Lib.byteCells l ++ [.int .u8 (c : Int)] = Lib.byteCells (l ++ [UInt8.ofNat c]) := by
    unfold Lib.byteCells
    rw [List.map_append, List.map_cons, UInt8.toNat_ofNat_of_lt' (by show c < 256; exact hc)]; rfl
  rw [← e1]; exact h1

theorem bld_string {b : Nat} {l : List UInt8} {w : World} (s : ByteArray) (h : Bld b l w) (hl : l.length + s.size ≤ 140737488355328) :
    Calls Try.prog 55 #[.pointer (some ⟨b, 0, none⟩), .string s] w fun e w' => e = .returned (.tuple #[.int .i64 (s.size : Int), .nilIface]) ∧ Bld b (l ++ s.data.toList) w' ∧ Below b w w' := by
  refine (Any.Builder_WriteString_k lays166 bldExtra b b (Lib.byteCells l) s w h (by rw [Lib.byteCells_length]; exact hl) (Nat.le_of_lt h.lt)).mono ?_
  rintro e w' ⟨rfl, h1, h2, _⟩
  refine ⟨rfl, .inr ?_, h2⟩
  have e1 : Lib.byteCells l ++ Lib.strCells s = Lib.byteCells (l ++ s.data.toList) := by
    unfold Lib.byteCells Lib.strCells
    rw [List.map_append]
  rw [← e1]; exact h1

theorem bld_text {b : Nat} {l : List UInt8} {w : World} (h : Bld b l w) :
    Calls Try.prog 56 #[.pointer (some ⟨b, 0, none⟩)] w fun e w' => e = .returned (.string ⟨l.toArray⟩) ∧ Bld b l w' ∧ Below b w w' := by
  refine (Any.Builder_String_any_k lays169 bldExtra b b l w h (Nat.le_of_lt h.lt)).mono ?_
  rintro e w' ⟨rfl, h1, h2, _⟩
  exact ⟨rfl, h1, h2⟩

end Bk
end Go.Proofs.Ytkpcfakfkcghdaa

/- What the landed package writes of numbers: write, fold, isNumber, Number; contracts; no condition but the range. -/
namespace Go.Proofs.Ytkpcfakfkcghdaa
namespace Pk
open Go.RowKit Bk

attribute [local go_sem ↓] Go.wp_at_zero Go.wp_at_succ
attribute [local go_sem] floatUpon pick

theorem u64_wrap {x : Int} (h0 : 0 ≤ x) (h1 : x ≤ 18446744073709551615) : IntKind.u64.wrap x = x := by
  simp only [IntKind.wrap, IntKind.bits, IntKind.signed]; simp; omega

set_option maxRecDepth 20000 in
set_option maxHeartbeats 1000000 in
theorem writeInt_any (b n : Nat) (L : List UInt8) (w : World) (h : Bld b L w) (hn : n ≤ 9223372036854775807) (hL : L.length ≤ 1000000000000) :
    Calls Try.prog 52 #[.pointer (some ⟨b, 0, none⟩), .int .i64 (n : Int)] w fun e w' => e = .returned (.tuple #[]) ∧ Bld b (L ++ plain n) w' ∧ Below b w w' := by
  have H := Lib.hid h
  clear h
  go_enter Try.func52, Try.ntmps52
  go_wp2_with fail
  go_loopw [1] (fun c wr => ∃ (m : Nat) (O : List UInt8), m ≤ n ∧ Hid (plain n = O ++ plain m) ∧ c = .int .i64 (m : Int) ∧ Hid (Bld b (L ++ O) wr) ∧ Hid (Below b w wr)) (fun c _ => (intOf c).toNat)
  case atStart => exact ⟨n, [], Nat.le_refl _, rfl, rfl, by rw [List.append_nil]; exact H.out, Below.refl _ _⟩
  case round =>
    obtain ⟨m, O, hmn, hpl, rfl, hB, hbel⟩ := hrel
    have hOl : O.length ≤ 8 := by
      have h1 := plain_len 9 n (by show n < 9223372036854775808; omega) (by omega)
      have h2 := plain_pos m
      rw [hpl.out, List.length_append] at h1
      omega
    have hlen : (L ++ O).length + 1 ≤ 140737488355328 := by rw [List.length_append]; omega
    by_cases hlt : 128 ≤ m
    · have pm : (128 : Int) ≤ (m : Int) := by omega
      have hmod : (m : Int).tmod 128 = ((m % 128 : Nat) : Int) := by rw [Int.tmod_eq_emod_of_nonneg (by omega)]; omega
      have hdiv : (m : Int).tdiv 128 = ((m / 128 : Nat) : Int) := by rw [Int.tdiv_eq_ediv_of_nonneg (by omega)]; omega
      have hp2 : plain n = (O ++ [UInt8.ofNat (m % 128 + 128)]) ++ plain (m / 128) := by rw [hpl.out, plain_big hlt, List.append_assoc]; rfl
      have hx : m % 128 < 128 := by omega
      have hy : m / 128 + 1 ≤ m := by omega
      have hc1 := bld_byte (m % 128 + 128) hB.out (by omega) hlen
      rw [Int.natCast_add] at hc1
      generalize hxe : m % 128 = x at hmod hc1 hx hp2
      generalize hye : m / 128 = y at hdiv hy hp2
      have hxi : (x : Int) < 128 := by omega
      have hcv : IntKind.u8.wrap (x : Int) = (x : Int) := u8_wrap (by omega) (by omega)
      have hcv2 : IntKind.u8.wrap ((x : Int) + 128) = (x : Int) + 128 := u8_wrap (by omega) (by omega)
      have HC := Lib.hid hc1
      have HP := Lib.hid hp2
      clear hc1 hp2 hxe hye hpl hB hlen hOl
      go_wp2_with fail
      refine HC.out.mono ?_
      rintro e w2 ⟨rfl, h2, hb⟩
      have HB2 := Lib.hid h2
      have HL2 := Lib.hid (hbel.out.trans hb)
      clear h2 hb hbel HC
      go_wp2_with fail
      go_roundw
      case rel => exact ⟨y, O ++ [UInt8.ofNat (x + 128)], by omega, HP.out, rfl, by rw [← List.append_assoc]; exact HB2.out, HL2.out⟩
      case measure => simp [intOf]; omega
    · have pm : (m : Int) < 128 := by omega
      have hcv : IntKind.u8.wrap (m : Int) = (m : Int) := u8_wrap (by omega) (by omega)
      have hp2 : plain n = O ++ [UInt8.ofNat m] := by rw [hpl.out, plain_small (by omega)]
      have HC := Lib.hid (bld_byte m hB.out (by omega) hlen)
      have HP := Lib.hid hp2
      clear hp2 hpl hB hlen hOl
      go_wp2_with fail
      refine HC.out.mono ?_
      rintro e w2 ⟨rfl, h2, hb⟩
      have HB2 := Lib.hid h2
      have HL2 := Lib.hid (hbel.out.trans hb)
      clear h2 hb hbel HC
      go_wp2_with fail
      go_end0
      exact ⟨rfl, by rw [HP.out, ← List.append_assoc]; exact HB2.out, HL2.out⟩

set_option maxRecDepth 20000 in
set_option maxHeartbeats 1000000 in
theorem writeFolded_any (b n : Nat) (L : List UInt8) (w : World) (h : Bld b L w) (hn : n < 9223372036854775808) (hL : L.length ≤ 1000000000000) :
    Calls Try.prog 53 #[.pointer (some ⟨b, 0, none⟩), .int .u64 (n : Int)] w fun e w' => e = .returned (.tuple #[]) ∧ Bld b (L ++ plain n) w' ∧ Below b w w' := by
  have H := Lib.hid h
  clear h
  go_enter Try.func53, Try.ntmps53
  go_wp2_with fail
  go_loopw [1] (fun c wr => ∃ (m : Nat) (O : List UInt8), m ≤ n ∧ Hid (plain n = O ++ plain m) ∧ c = .int .u64 (m : Int) ∧ Hid (Bld b (L ++ O) wr) ∧ Hid (Below b w wr)) (fun c _ => (intOf c).toNat)
  case atStart => exact ⟨n, [], Nat.le_refl _, rfl, rfl, by rw [List.append_nil]; exact H.out, Below.refl _ _⟩
  case round =>
    obtain ⟨m, O, hmn, hpl, rfl, hB, hbel⟩ := hrel
    have hOl : O.length ≤ 8 := by
      have h1 := plain_len 9 n (by show n < 9223372036854775808; omega) (by omega)
      have h2 := plain_pos m
      rw [hpl.out, List.length_append] at h1
      omega
    have hlen : (L ++ O).length + 1 ≤ 140737488355328 := by rw [List.length_append]; omega
    by_cases hlt : 128 ≤ m
    · have pm : (128 : Int) ≤ (m : Int) := by omega
      have hmod : (m : Int).tmod 128 = ((m % 128 : Nat) : Int) := by rw [Int.tmod_eq_emod_of_nonneg (by omega)]; omega
      have hdiv : (m : Int).tdiv 128 = ((m / 128 : Nat) : Int) := by rw [Int.tdiv_eq_ediv_of_nonneg (by omega)]; omega
      have hp2 : plain n = (O ++ [UInt8.ofNat (m % 128 + 128)]) ++ plain (m / 128) := by rw [hpl.out, plain_big hlt, List.append_assoc]; rfl
      have hx : m % 128 < 128 := by omega
      have hy : m / 128 + 1 ≤ m := by omega
      have hc1 := bld_byte (m % 128 + 128) hB.out (by omega) hlen
      rw [Int.natCast_add] at hc1
      generalize hxe : m % 128 = x at hmod hc1 hx hp2
      generalize hye : m / 128 = y at hdiv hy hp2
      have hxi : (x : Int) < 128 := by omega
      have hcv : IntKind.u8.wrap (x : Int) = (x : Int) := u8_wrap (by omega) (by omega)
      have hcv2 : IntKind.u8.wrap ((x : Int) + 128) = (x : Int) + 128 := u8_wrap (by omega) (by omega)
      have HC := Lib.hid hc1
      have HP := Lib.hid hp2
      clear hc1 hp2 hxe hye hpl hB hlen hOl
      go_wp2_with fail
      refine HC.out.mono ?_
      rintro e w2 ⟨rfl, h2, hb⟩
      have HB2 := Lib.hid h2
      have HL2 := Lib.hid (hbel.out.trans hb)
      clear h2 hb hbel HC
      go_wp2_with fail
      go_roundw
      case rel => exact ⟨y, O ++ [UInt8.ofNat (x + 128)], by omega, HP.out, rfl, by rw [← List.append_assoc]; exact HB2.out, HL2.out⟩
      case measure => simp [intOf]; omega
    · have pm : (m : Int) < 128 := by omega
      have hcv : IntKind.u8.wrap (m : Int) = (m : Int) := u8_wrap (by omega) (by omega)
      have hp2 : plain n = O ++ [UInt8.ofNat m] := by rw [hpl.out, plain_small (by omega)]
      have HC := Lib.hid (bld_byte m hB.out (by omega) hlen)
      have HP := Lib.hid hp2
      clear hp2 hpl hB hlen hOl
      go_wp2_with fail
      refine HC.out.mono ?_
      rintro e w2 ⟨rfl, h2, hb⟩
      have HB2 := Lib.hid h2
      have HL2 := Lib.hid (hbel.out.trans hb)
      clear h2 hb hbel HC
      go_wp2_with fail
      go_end0
      exact ⟨rfl, by rw [HP.out, ← List.append_assoc]; exact HB2.out, HL2.out⟩

set_option maxRecDepth 20000 in
set_option maxHeartbeats 1000000 in
theorem fold_any (z : Int) (w : World) (hz : numOk z) :
    Calls Try.prog 54 #[.int .i64 z] w fun e w' => e = .returned (.int .u64 ((zig z : Nat) : Int)) ∧ w' = w := by
  obtain ⟨z1, z2⟩ := hz
  by_cases h0 : z < 0
  · have E := Lib.hid (show ((zig z : Nat) : Int) = 2 * -z - 1 by unfold zig; rw [if_pos h0]; omega)
    have c1 : IntKind.u64.wrap (-z) = -z := u64_wrap (by omega) (by omega)
    have c2 : IntKind.u64.wrap (2 * -z) = 2 * -z := u64_wrap (by omega) (by omega)
    have c3 : IntKind.u64.wrap (2 * -z - 1) = 2 * -z - 1 := u64_wrap (by omega) (by omega)
    go_enter Try.func54, Try.ntmps54
    go_wp2_with fail
    go_ret
    exact ⟨by rw [E.out]; rfl, rfl⟩
  · have hp : 0 ≤ z := by omega
    have E := Lib.hid (show ((zig z : Nat) : Int) = 2 * z by unfold zig; rw [if_neg h0]; omega)
    have c1 : IntKind.u64.wrap z = z := u64_wrap (by omega) (by omega)
    have c2 : IntKind.u64.wrap (2 * z) = 2 * z := u64_wrap (by omega) (by omega)
    clear h0
    go_enter Try.func54, Try.ntmps54
    go_wp2_with fail
    go_ret
    exact ⟨by rw [E.out]; rfl, rfl⟩

set_option maxRecDepth 20000 in
set_option maxHeartbeats 1000000 in
theorem isNumber_any (z : Int) (w : World) (_hz : -9223372036854775808 ≤ z ∧ z ≤ 9223372036854775807) :
    Calls Try.prog 76 #[.int .i64 z] w fun e w' => e = .returned (.bool (decide (numOk z))) ∧ w' = w := by
  by_cases h : numOk z
  · have E := Lib.hid (show decide (numOk z) = true by simpa using h)
    obtain ⟨h1, h2⟩ := h
    go_enter Try.func76, Try.ntmps76
    go_wp2_with fail
    go_ret
    exact ⟨by rw [E.out]; rfl, rfl⟩
  · have E := Lib.hid (show decide (numOk z) = false by simpa using h)
    by_cases h1 : -4611686018427387904 ≤ z
    · have h2 : 4611686018427387903 < z := by
        by_cases h2 : z ≤ 4611686018427387903
        · exact absurd ⟨h1, h2⟩ h
        · omega
      have H3 := Lib.hid (show decide (z ≤ 4611686018427387903) = false by rw [decide_eq_false_iff_not]; omega)
      clear h
      go_enter Try.func76, Try.ntmps76
      go_wp2_with fail
      go_ret
      exact ⟨by rw [E.out, ← H3.out]; rfl, rfl⟩
    · have h2 : z < -4611686018427387904 := by omega
      clear h h1
      go_enter Try.func76, Try.ntmps76
      go_wp2_with fail
      go_ret
      exact ⟨by rw [E.out]; rfl, rfl⟩

theorem numV_bad {z : Int} (h : ¬ numOk z) : numV z = .tuple #[.string ⟨#[]⟩, .int .i64 1] := by unfold numV; rw [if_neg h]

end Pk
end Go.Proofs.Ytkpcfakfkcghdaa

/- What the landed package's Check and Encode answer; contracts; no condition but the range. -/
namespace Go.Proofs.Ytkpcfakfkcghdaa
namespace Pk
open Go.RowKit Bk

attribute [local go_sem ↓] Go.wp_at_zero Go.wp_at_succ
attribute [local go_sem] floatUpon pick

set_option maxRecDepth 20000 in
set_option maxHeartbeats 1000000 in
theorem checkAll : CheckAll := by
  intro A B c d ns ts w ha hb hArg
  have hr := hArg.range
  obtain ⟨hn, ht, hnr, htr⟩ := hr
  clear hArg
  unfold packV
  have hbel : Below w.heap.size w (w.alloc (.cells #[.slice A ns.length c, .slice B ts.length d] 71)) := (Below.refl _ w).alloc (Nat.le_refl _) _
  have HBl := Lib.hid hbel
  by_cases hlong : 1024 < ns.length ∨ 1024 < ts.length
  · have E := Lib.hid (ckE_long hlong)
    clear hbel ha hb hnr htr
    by_cases h1 : 1024 < ns.length
    · have p1 : (1024 : Int) < (ns.length : Int) := by omega
      clear hlong
      go_enter Try.func51, Try.ntmps51
      go_wp2_with fail
      go_ret
      exact ⟨by rw [E.out]; rfl, HBl.out⟩
    · have p1 : (ns.length : Int) ≤ 1024 := by omega
      have p2 : (1024 : Int) < (ts.length : Int) := by omega
      clear hlong
      go_enter Try.func51, Try.ntmps51
      go_wp2_with fail
      go_ret
      exact ⟨by rw [E.out]; rfl, HBl.out⟩
  · have p1 : (ns.length : Int) ≤ 1024 := by omega
    have p2 : (ts.length : Int) ≤ 1024 := by omega
    have hblk := (blk1 w (.cells #[.slice A ns.length c, .slice B ts.length d] 71)).2
    have c0 : (w.alloc (.cells #[.slice A ns.length c, .slice B ts.length d] 71)).cell? ⟨w.heap.size, 0, none⟩ = some (.slice A ns.length c) := blk_cell hblk rfl
    have c1 : (w.alloc (.cells #[.slice A ns.length c, .slice B ts.length d] 71)).cell? ⟨w.heap.size, 1, none⟩ = some (.slice B ts.length d) := blk_cell hblk rfl
    have HA := Lib.hid (ha.alloc (.cells #[.slice A ns.length c, .slice B ts.length d] 71))
    have HB := Lib.hid (hb.alloc (.cells #[.slice A ns.length c, .slice B ts.length d] 71))
    have HNR := Lib.hid hnr
    have HTR := Lib.hid htr
    have HL := Lib.hid hlong
    clear hbel hlong hblk ha hb hnr htr
    go_enter Try.func51, Try.ntmps51
    go_upto_region 3 with fail
    generalize w.alloc (.cells #[.slice A ns.length c, .slice B ts.length d] 71) = W1 at *
    go_wp2_with fail
    go_loopw [20] (fun i wr => ∃ j : Nat, j ≤ ns.length ∧ i = .int .i64 (j : Int) ∧ Hid (∀ n ∈ ns.take j, numOk n) ∧ wr = W1) (fun i _ => ns.length - (intOf i).toNat)
    case atStart => exact ⟨0, by omega, rfl, fun n hn => absurd hn (by simp), rfl⟩
    case round =>
      obtain ⟨j, hj, rfl, hall, rfl⟩ := hrel
      by_cases hlt : j < ns.length
      · have pj : (j : Int) < (ns.length : Int) := by omega
        obtain ⟨ad, rfl, hab, hcl⟩ := HA.out (by omega)
        have x1 := hcl j hlt
        have hmem : ns[j] ∈ ns := List.getElem_mem hlt
        have HN := Lib.hid (fun W => isNumber_any ns[j] W (HNR.out _ hmem))
        by_cases hz : numOk ns[j]
        · have hall2 := mem_take_succ hlt hall.out hz
          have HA2 := Lib.hid hall2
          rw [show decide (numOk ns[j]) = true by simpa using hz] at HN
          generalize ns[j] = z at x1 HN
          clear hcl hmem hz hall2 hall
          go_wp2_with fail
          refine (HN.out _).mono ?_
          rintro e w' ⟨rfl, rfl⟩
          go_wp2_with fail
          go_roundw
          case rel => exact ⟨j + 1, by omega, by go_num, HA2.out, trivial⟩
          case measure => simp [intOf]; omega
        · have E := Lib.hid (ckE_num HL.out hmem hz)
          rw [show decide (numOk ns[j]) = false by simpa using hz] at HN
          generalize ns[j] = z at x1 HN
          clear hcl hmem hz hall
          go_wp2_with fail
          refine (HN.out _).mono ?_
          rintro e w' ⟨rfl, rfl⟩
          go_wp2_with fail
          go_ret
          exact ⟨by rw [E.out]; rfl, HBl.out⟩
      · obtain rfl : j = ns.length := by omega
        have hall2 := hall.out
        rw [List.take_length] at hall2
        have HAll := Lib.hid hall2
        clear hall hall2
        go_wp2_with fail
        obtain ⟨wo, rfl⟩ : ∃ wo : World, wo = wr := ⟨_, rfl⟩
        go_loopw [31] (fun i wr => ∃ j : Nat, j ≤ ts.length ∧ i = .int .i64 (j : Int) ∧ Hid (∀ t ∈ ts.take j, t.size ≤ 4096) ∧ wr = wo) (fun i _ => ts.length - (intOf i).toNat)
        case atStart => exact ⟨0, by omega, rfl, fun n hn => absurd hn (by simp), rfl⟩
        case round =>
          obtain ⟨j, hj, rfl, hall, rfl⟩ := hrel
          by_cases hlt : j < ts.length
          · have pj : (j : Int) < (ts.length : Int) := by omega
            obtain ⟨bd, rfl, hbb, hcl⟩ := HB.out (by omega)
            have x1 := hcl j hlt
            have hmem : ts[j] ∈ ts := List.getElem_mem hlt
            by_cases hz : ts[j].size ≤ 4096
            · have hall2 := mem_take_succ hlt hall.out hz
              have HA2 := Lib.hid hall2
              have hz' : (ts[j].size : Int) ≤ 4096 := by omega
              generalize ts[j] = z at x1 hz'
              clear hcl hmem hz hall2 hall
              go_wp2_with fail
              go_roundw
              case rel => exact ⟨j + 1, by omega, by go_num, HA2.out, trivial⟩
              case measure => simp [intOf]; omega
            · have E := Lib.hid (ckE_text HL.out HAll.out hmem (by omega))
              have hz' : (4096 : Int) < (ts[j].size : Int) := by omega
              generalize ts[j] = z at x1 hz'
              clear hcl hmem hz hall
              go_wp2_with fail
              go_ret
              exact ⟨by rw [E.out]; rfl, HBl.out⟩
          · obtain rfl : j = ts.length := by omega
            have hall2 := hall.out
            rw [List.take_length] at hall2
            have E := Lib.hid (ckE_ok HL.out HAll.out hall2)
            clear hall hall2
            go_wp2_with fail
            go_ret
            exact ⟨by rw [E.out]; rfl, HBl.out⟩

set_option maxRecDepth 20000 in
set_option maxHeartbeats 1000000 in
theorem encodeAll : EncodeAll := by
  intro A B c d ns ts w ha hb hArg
  have HC := Lib.hid (fun W (hbl : Below w.heap.size w W) => checkAll A B c d ns ts W (ha.below hbl) (hb.below hbl) hArg)
  have hle := ckE_le ns ts
  have HE := Lib.hid (PkEnv.start (c := c) (d := d) ha hb)
  by_cases hm : ckE ns ts = 0
  · have hmb := ckE_zero.1 hm
    have E := Lib.hid (encV_ok hmb)
    have HM := Lib.hid hmb
    have p1 : (ns.length : Int) ≤ 1024 := by have := hmb.1; omega
    have p2 : (ts.length : Int) ≤ 1024 := by have := hmb.2.1; omega
    rw [hm] at HC
    unfold packV at HC ⊢
    clear ha hb hArg hm hle hmb
    go_enter Try.func38, Try.ntmps38
    go_wp2_with fail
    refine (HC.out _ ((Below.refl _ w).alloc (Nat.le_refl _) _)).mono ?_
    rintro e w1 ⟨rfl, hb⟩
    have HE1 := Lib.hid (HE.out.step hb)
    clear hb HC HE
    go_upto_region 5 with fail
    have hbn := Bld.new w1
    have hbw : Below w1.heap.size w1 (w1.alloc (.cells #[.pointer none, .slice none 0 0] 88)) := (Below.refl _ _).alloc (Nat.le_refl _) _
    have HW1 := Lib.hid (fun W (h : Bld w1.heap.size [] W) => writeInt_any w1.heap.size ns.length [] W h (by omega) (by simp))
    have HB2 := Lib.hid hbn
    have HL2 := Lib.hid hbw
    have HE2 := Lib.hid (HE1.out.step hbw)
    clear hbn hbw
    generalize w1.alloc (.cells #[.pointer none, .slice none 0 0] 88) = W2 at *
    generalize hbb : w1.heap.size = b at *
    have c0 := HE2.out.c0
    go_wp2_with fail
    refine (HW1.out _ HB2.out).mono ?_
    rintro e w3 ⟨rfl, h3, hb⟩
    have HB3 := Lib.hid h3
    have HL3 := Lib.hid (HL2.out.trans hb)
    have HE3 := Lib.hid (HE1.out.step (by rw [hbb]; exact HL2.out.trans hb))
    clear h3 hb HW1 HB2 HL2 HE2 c0
    have c0 := HE3.out.c0
    go_wp2_with fail
    go_loopw [22] (fun i wr => ∃ j : Nat, j ≤ ns.length ∧ i = .int .i64 (j : Int) ∧ Hid (Bld b (plain ns.length ++ numsL (ns.take j)) wr) ∧ Hid (Below b w1 wr)) (fun i _ => ns.length - (intOf i).toNat)
    case atStart => exact ⟨0, by omega, rfl, by rw [List.take_zero]; simp only [numsL, List.flatMap_nil, List.append_nil]; exact HB3.out, HL3.out⟩
    case round =>
      obtain ⟨j, hj, rfl, hB, hL⟩ := hrel
      have hE := Lib.hid (HE1.out.step (by rw [hbb]; exact hL.out))
      clear HE3 HB3 HL3 c0
      by_cases hlt : j < ns.length
      · have pj : (j : Int) < (ns.length : Int) := by omega
        obtain ⟨ad, rfl, hab, hcl⟩ := hE.out.1 (by omega)
        have x1 := hcl j hlt
        have hz := HM.out.2.2.1 _ (List.getElem_mem hlt)
        have HF := Lib.hid (fun W => fold_any ns[j] W hz)
        have HW := Lib.hid (writeFolded_any b (zig ns[j]) (plain ns.length ++ numsL (ns.take j)) _ hB.out (zig_lt hz) (by have := (bytesL_at HM.out j 0).1; omega))
        have hsc : (plain ns.length ++ numsL (ns.take j)) ++ plain (zig ns[j]) = plain ns.length ++ numsL (ns.take (j + 1)) := by
          rw [numsL_succ hlt, List.append_assoc]; rfl
        rw [hsc] at HW
        generalize ns[j] = z at x1 HF HW
        clear hcl hz hsc hB hab
        go_wp2_with fail
        refine (HF.out _).mono ?_
        rintro e w4 ⟨rfl, rfl⟩
        go_wp2_with fail
        refine HW.out.mono ?_
        rintro e w5 ⟨rfl, h5, hb⟩
        have HB5 := Lib.hid h5
        have HL5 := Lib.hid (hL.out.trans hb)
        clear h5 hb hL HW HF
        go_wp2_with fail
        go_roundw
        case rel => exact ⟨j + 1, by omega, by go_num, HB5.out, HL5.out⟩
        case measure => simp [intOf]; omega
      · obtain rfl : j = ns.length := by omega
        rw [List.take_length] at hB
        have c1 := hE.out.c1
        have HW := Lib.hid (writeInt_any b ts.length (plain ns.length ++ numsL ns) _ hB.out (by omega) (by have := (bytesL_at HM.out ns.length 0).1; rw [List.take_length] at this; omega))
        clear hB
        go_wp2_with fail
        refine HW.out.mono ?_
        rintro e w3 ⟨rfl, h3, hb⟩
        have HB3 := Lib.hid h3
        have HL3 := Lib.hid (hL.out.trans hb)
        have HE3 := Lib.hid (HE1.out.step (by rw [hbb]; exact hL.out.trans hb))
        clear h3 hb HW hE hL c1
        have c1 := HE3.out.c1
        go_wp2_with fail
        go_loopw [37] (fun i wr => ∃ j : Nat, j ≤ ts.length ∧ i = .int .i64 (j : Int) ∧ Hid (Bld b (plain ns.length ++ (numsL ns ++ (plain ts.length ++ textsL (ts.take j)))) wr) ∧ Hid (Below b w1 wr)) (fun i _ => ts.length - (intOf i).toNat)
        case atStart =>
          refine ⟨0, by omega, rfl, ?_, HL3.out⟩
          have := HB3.out
          rw [List.append_assoc] at this
          rw [List.take_zero]
          simp only [textsL, List.flatMap_nil, List.append_nil]
          exact this
        case round =>
          obtain ⟨j, hj, rfl, hB, hL⟩ := hrel
          have hE := Lib.hid (HE1.out.step (by rw [hbb]; exact hL.out))
          clear HE3 HB3 HL3 c1
          by_cases hlt : j < ts.length
          · have pj : (j : Int) < (ts.length : Int) := by omega
            obtain ⟨ad, rfl, hab, hcl⟩ := hE.out.2.1 (by omega)
            have x1 := hcl j hlt
            have hz := HM.out.2.2.2 _ (List.getElem_mem hlt)
            have hsc : ((plain ns.length ++ (numsL ns ++ (plain ts.length ++ textsL (ts.take j)))) ++ plain ts[j].size) ++ ts[j].data.toList = plain ns.length ++ (numsL ns ++ (plain ts.length ++ textsL (ts.take (j + 1)))) := by
              rw [textsL_succ hlt]; unfold textL; simp only [List.append_assoc]
            have hlen := (bytesL_at HM.out ns.length j).2
            have hpl := plain_len 9 ts[j].size (by show _ < 9223372036854775808; omega) (by omega)
            have HW := Lib.hid (writeInt_any b ts[j].size (plain ns.length ++ (numsL ns ++ (plain ts.length ++ textsL (ts.take j)))) _ hB.out (by omega) (by omega))
            have HS := Lib.hid (fun W (h : Bld b ((plain ns.length ++ (numsL ns ++ (plain ts.length ++ textsL (ts.take j)))) ++ plain ts[j].size) W) => bld_string ts[j] h (by rw [List.length_append]; omega))
            rw [hsc] at HS
            generalize ts[j] = z at x1 HW HS
            clear hcl hz hsc hB hab hlen hpl
            go_wp2_with fail
            refine HW.out.mono ?_
            rintro e w4 ⟨rfl, h4, hb⟩
            have HSS := Lib.hid (HS.out _ h4)
            have HL4 := Lib.hid (hL.out.trans hb)
            clear h4 hb hL HW HS hE
            go_wp2_with fail
            refine HSS.out.mono ?_
            rintro e w5 ⟨rfl, h5, hb⟩
            have HB5 := Lib.hid h5
            have HL5 := Lib.hid (HL4.out.trans hb)
            clear h5 hb HL4 HSS
            go_wp2_with fail
            go_roundw
            case rel => exact ⟨j + 1, by omega, by go_num, HB5.out, HL5.out⟩
            case measure => simp [intOf]; omega
          · obtain rfl : j = ts.length := by omega
            rw [List.take_length] at hB
            have HT := Lib.hid (bld_text hB.out)
            have HW0 := Lib.hid HE1.out.2.2.2
            clear hB hE
            go_wp2_with fail
            refine HT.out.mono ?_
            rintro e w6 ⟨rfl, -, hb⟩
            have HB6 := Lib.hid (HW0.out.trans ((hL.out.trans hb).mono (by rw [← hbb]; exact HW0.out.size)))
            clear hb hL HT
            go_wp2_with fail
            go_ret2
            exact ⟨by rw [E.out]; rfl, HB6.out⟩
  · have E := Lib.hid (encV_bad hm)
    have hne : (((ckE ns ts : Nat) : Int) != 0) = true := by simp; omega
    generalize ckE ns ts = C at *
    unfold packV at HC ⊢
    clear ha hb hArg hm hle
    go_enter Try.func38, Try.ntmps38
    go_wp2_with fail
    refine (HC.out _ ((Below.refl _ w).alloc (Nat.le_refl _) _)).mono ?_
    rintro e w1 ⟨rfl, hb⟩
    have HB1 := Lib.hid (below_new hb)
    clear hb HC
    go_wp2_with fail
    go_ret2
    exact ⟨by rw [E.out]; rfl, HB1.out⟩

end Pk
end Go.Proofs.Ytkpcfakfkcghdaa

/- What the library's strings.Clone answers: the same bytes; no condition but the range (for layers 5 and on, asks Bk alone). -/
namespace Go.Proofs.Ytkpcfakfkcghdaa
namespace Bk
open Go.RowKit

set_option maxHeartbeats 4000000 in
set_option maxRecDepth 100000 in
theorem clone_in (s : ByteArray) (w : World) (hlim : s.size ≤ 281474976710656) :
    Calls Try.prog 88 #[.string s] w fun e w' => e = .returned (.string s) ∧ Below w.heap.size w w' := by
  by_cases h0 : s.size = 0
  · have hs : s = ⟨#[]⟩ := by
      apply ByteArray.ext
      exact Array.eq_empty_of_size_eq_zero h0
    subst hs
    go_enter Try.func88, Try.ntmps88
    go_wp2
    go_ret
    exact ⟨rfl, Below.refl _ _⟩
  · obtain ⟨i0, hi, hz0, hz1, hz2⟩ := info_parts Bk.Try.infoU8
    have hinfo : (Try.prog.info? 5).map (·.size) = some 1 := by rw [hi]; simp [hz1]
    have hco : Try.prog.cellsOf 5 = 1 := by simp [Program.cellsOf, hi, hz1]
    obtain ⟨M, hM⟩ : ∃ M, M = madeCells (Value.int .u8 0).cells (((s.size : Nat) : Int).toNat * i0.size) := ⟨_, rfl⟩
    have hMs : M.size = s.size := by rw [hM, size_madeCells, hz1]; simp
    have hmk : ∀ W : World, (Instr.makeSlice 86 (.int .i64 (s.size : Int)) (.int .i64 (s.size : Int))).run Try.prog W = .ok (.slice (some ⟨W.heap.size, 0, none⟩) s.size s.size) (W.alloc (.cells M 5)) := fun W => by
      have h := run_make (P := Try.prog) W 86 5 i0 (.int .u8 0) Try.underlying86 hi hz0 .i64 .i64 (s.size : Int) (s.size : Int) (by omega) (by omega) (by rw [hz2]; omega) (by omega)
      rw [← hM] at h
      simpa using h
    clear hM
    have hcp := Lib.run_copy_row_string (P := Try.prog) (w.alloc (.cells M 5)) 86 9 3 5 w.heap.size 0 s.size s.size s M 5 Try.underlying86 hinfo (heap_alloc_new w _) (Nat.le_refl _) (by omega)
    obtain ⟨Y, hY⟩ : ∃ Y, Y = (M.toList.take 0 ++ Lib.byteCells s.data.toList ++ M.toList.drop (0 + s.size)).toArray := ⟨_, rfl⟩
    rw [← hY] at hcp
    have hYl : Y.toList = Lib.byteCells s.data.toList := by
      rw [hY, List.toList_toArray, List.take_zero, List.nil_append, List.drop_of_length_le (by rw [Array.length_toList]; omega), List.append_nil]
    have hYs : Y.size = s.size := by rw [← Array.length_toList, hYl, Lib.byteCells_length, ← Lib.size_eq]
    have hgY : ((w.alloc (.cells M 5)).setRow w.heap.size Y).heap[w.heap.size]? = some (.cells Y 5 (0, 0)) := setRow_heap _ _ M _ 5 (0, 0) (heap_alloc_new w _)
    have hne : s.data.toList ≠ [] := fun e => h0 (by rw [Lib.size_eq, e]; rfl)
    have hUS := Lib.run_unsafeString_row (P := Try.prog) ((w.alloc (.cells M 5)).setRow w.heap.size Y) 119 3 9 5 Try.underlying119 hco w.heap.size Y.size (by unfold World.shape?; rw [hgY]) s.data.toList hne (by rw [← Lib.size_eq]; omega) (by rw [← Lib.size_eq]; omega)
      (fun j x hx => Lib.cells_of_row hgY Y.size j _ (by rw [List.take_of_length_le (by rw [Array.length_toList]; exact Nat.le_refl _), hYl]; simp [Lib.byteCells, hx]))
    rw [← Lib.size_eq] at hUS
    clear hY
    go_enter Try.func88, Try.ntmps88
    go_wp2
    go_ret
    have hb1 : Below w.heap.size w (w.alloc (.cells M 5)) := (Below.refl _ w).alloc (Nat.le_refl _) _
    have hb2 : Below w.heap.size (w.alloc (.cells M 5)) ((w.alloc (.cells M 5)).setRow w.heap.size Y) := ⟨rfl, rfl, rfl, by simp, fun k hk => setRow_other _ _ _ _ (by omega)⟩
    exact ⟨rfl, Lib.below_freeze (hb1.trans hb2) (p := ⟨w.heap.size, 0, none⟩) (Nat.le_refl _) _⟩

set_option maxHeartbeats 1000000 in
theorem clone_any (s : ByteArray) (w : World) (hlim : s.size ≤ 281474976710656) :
    Calls Try.prog 75 #[.string s] w fun e w' => e = .returned (.string s) ∧ Below w.heap.size w w' := by
  go_enter Try.func75, Try.ntmps75
  go_wp2_with fail
  refine (clone_in s _ hlim).mono ?_
  rintro e w' ⟨rfl, hb⟩
  go_wp2_with fail
  go_ret
  exact ⟨rfl, hb⟩

end Bk
end Go.Proofs.Ytkpcfakfkcghdaa
