/- Parts of the proof, joined: BkClone, ChL1, ChL2; their conditions stand with each. -/
import Derived.Test.YtiobhbagjokpcaaGreatRows
import Derived.Lib.Strings
import Derived.Lib.Walk
import Derived.Lib.BufferWrite
import Derived.Lib.UnsafeStr
import Derived.Lib.Hide
import Derived.Laws.MakeOwn
import Derived.WalkKit
import Derived.Test.YtiobhbagjokpcaaGreatM1
import Derived.Test.YtiobhbagjokpcaaGreatM16

/- What the library's strings.Clone answers: the same bytes; no condition but the range (for layers 5 and on, asks Bk alone). -/
namespace Go.Proofs.YtiobhbagjokpcaaGreat
namespace Bk
open Go.RowKit

set_option maxHeartbeats 4000000 in
set_option maxRecDepth 100000 in
theorem clone_in (s : ByteArray) (w : World) (hlim : s.size ≤ 281474976710656) :
    Calls Tryz.prog 59 #[.string s] w fun e w' => e = .returned (.string s) ∧ Below w.heap.size w w' := by
  by_cases h0 : s.size = 0
  · have hs : s = ⟨#[]⟩ := by
      apply ByteArray.ext
      exact Array.eq_empty_of_size_eq_zero h0
    subst hs
    go_enter Tryz.func59, Tryz.ntmps59
    go_wp2
    go_ret
    exact ⟨rfl, Below.refl _ _⟩
  · obtain ⟨i0, hi, hz0, hz1, hz2⟩ := info_parts Bk.Tryz.infoU8
    have hinfo : (Tryz.prog.info? 5).map (·.size) = some 1 := by rw [hi]; simp [hz1]
    have hco : Tryz.prog.cellsOf 5 = 1 := by simp [Program.cellsOf, hi, hz1]
    obtain ⟨M, hM⟩ : ∃ M, M = madeCells (Value.int .u8 0).cells (((s.size : Nat) : Int).toNat * i0.size) := ⟨_, rfl⟩
    have hMs : M.size = s.size := by rw [hM, size_madeCells, hz1]; simp
    have hmk : ∀ W : World, (Instr.makeSlice 122 (.int .i64 (s.size : Int)) (.int .i64 (s.size : Int))).run Tryz.prog W = .ok (.slice (some ⟨W.heap.size, 0, none⟩) s.size s.size) (W.alloc (.cells M 5)) := fun W => by
      have h := run_make (P := Tryz.prog) W 122 5 i0 (.int .u8 0) Tryz.underlying122 hi hz0 .i64 .i64 (s.size : Int) (s.size : Int) (by omega) (by omega) (by rw [hz2]; omega) (by omega)
      rw [← hM] at h
      simpa using h
    clear hM
    have hcp := Lib.run_copy_row_string (P := Tryz.prog) (w.alloc (.cells M 5)) 122 9 3 5 w.heap.size 0 s.size s.size s M 5 Tryz.underlying122 hinfo (heap_alloc_new w _) (Nat.le_refl _) (by omega)
    obtain ⟨Y, hY⟩ : ∃ Y, Y = (M.toList.take 0 ++ Lib.byteCells s.data.toList ++ M.toList.drop (0 + s.size)).toArray := ⟨_, rfl⟩
    rw [← hY] at hcp
    have hYl : Y.toList = Lib.byteCells s.data.toList := by
      rw [hY, List.toList_toArray, List.take_zero, List.nil_append, List.drop_of_length_le (by rw [Array.length_toList]; omega), List.append_nil]
    have hYs : Y.size = s.size := by rw [← Array.length_toList, hYl, Lib.byteCells_length, ← Lib.size_eq]
    have hgY : ((w.alloc (.cells M 5)).setRow w.heap.size Y).heap[w.heap.size]? = some (.cells Y 5 (0, 0)) := setRow_heap _ _ M _ 5 (0, 0) (heap_alloc_new w _)
    have hne : s.data.toList ≠ [] := fun e => h0 (by rw [Lib.size_eq, e]; rfl)
    have hUS := Lib.run_unsafeString_row (P := Tryz.prog) ((w.alloc (.cells M 5)).setRow w.heap.size Y) 123 3 9 5 Tryz.underlying123 hco w.heap.size Y.size (by unfold World.shape?; rw [hgY]) s.data.toList hne (by rw [← Lib.size_eq]; omega) (by rw [← Lib.size_eq]; omega)
      (fun j x hx => Lib.cells_of_row hgY Y.size j _ (by rw [List.take_of_length_le (by rw [Array.length_toList]; exact Nat.le_refl _), hYl]; simp [Lib.byteCells, hx]))
    rw [← Lib.size_eq] at hUS
    clear hY
    go_enter Tryz.func59, Tryz.ntmps59
    go_wp2
    go_ret
    have hb1 : Below w.heap.size w (w.alloc (.cells M 5)) := (Below.refl _ w).alloc (Nat.le_refl _) _
    have hb2 : Below w.heap.size (w.alloc (.cells M 5)) ((w.alloc (.cells M 5)).setRow w.heap.size Y) := ⟨rfl, rfl, rfl, by simp, fun k hk => setRow_other _ _ _ _ (by omega)⟩
    exact ⟨rfl, Lib.below_freeze (hb1.trans hb2) (p := ⟨w.heap.size, 0, none⟩) (Nat.le_refl _) _⟩

set_option maxHeartbeats 1000000 in
theorem clone_any (s : ByteArray) (w : World) (hlim : s.size ≤ 281474976710656) :
    Calls Tryz.prog 25 #[.string s] w fun e w' => e = .returned (.string s) ∧ Below w.heap.size w w' := by
  go_enter Tryz.func25, Tryz.ntmps25
  go_wp2_with fail
  refine (clone_in s _ hlim).mono ?_
  rintro e w' ⟨rfl, hb⟩
  go_wp2_with fail
  go_ret
  exact ⟨rfl, hb⟩

end Bk
end Go.Proofs.YtiobhbagjokpcaaGreat

/- The landed chain: what is wrong with a version, the last time, Check; contracts; no condition but the range. -/
namespace Go.Proofs.YtiobhbagjokpcaaGreat
namespace Ch
open Go.RowKit Bk

attribute [local go_sem ↓] Go.wp_at_zero Go.wp_at_succ
attribute [local go_sem] floatUpon pick

theorem bad_none_go {t : Int} {s : ByteArray} {d : Bool} (h : ¬ t < 1 ∧ ¬ 1125899906842624 < t ∧ ¬ 2052 < s.size ∧ ¬ (d = true ∧ s ≠ ⟨#[]⟩)) : bad none ⟨t, s, d⟩ = 0 := bad_go h (fun q e => by cases e)

set_option maxRecDepth 20000 in
set_option maxHeartbeats 4000000 in
theorem fault_any (x : Vr) (w : World) (hx : x.shard.size ≤ reachBytes) :
    Calls Tryz.prog 112 #[.agg (vcs x).toArray] w fun e w' => e = .returned (.int .i64 (bad none x)) ∧ Below w.heap.size w w' := by
  obtain ⟨xt, xs, xd⟩ := x
  have rb : reachBytes = 140737488351232 := rfl
  simp only at hx
  have hxs : (xs.size : Int) ≤ 140737488351232 := by omega
  clear hx rb
  show Calls _ _ #[.agg #[.int .i64 xt, .string xs, .bool xd]] _ _
  have hR0 : Cel (w.alloc (.cells #[.int .i64 xt, .string xs, .bool xd] 55)) w.heap.size 55 [.int .i64 xt, .string xs, .bool xd] := (blk1 w _).2
  have hB0 : Below w.heap.size w (w.alloc (.cells #[.int .i64 xt, .string xs, .bool xd] 55)) := (Below.refl _ w).alloc (Nat.le_refl _) _
  have q0 := hR0.cell (i := 0) rfl
  have q1 := hR0.cell (i := 1) rfl
  have q2 := hR0.cell (i := 2) rfl
  have HB := Lib.hid hB0
  clear hR0 hB0
  by_cases h1 : xt < 1
  · have E := Lib.hid (show bad none ⟨xt, xs, xd⟩ = 1 from bad_1 (.inl h1))
    go_enter Tryz.func112, Tryz.ntmps112
    go_upto_region 1 with fail
    generalize w.alloc (.cells #[.int .i64 xt, .string xs, .bool xd] 55) = W0 at q0 q1 q2 HB ⊢
    go_wp2_with fail
    go_ret
    exact ⟨by rw [E.out]; rfl, HB.out⟩
  by_cases h1' : 1125899906842624 < xt
  · have E := Lib.hid (show bad none ⟨xt, xs, xd⟩ = 1 from bad_1 (.inr h1'))
    go_enter Tryz.func112, Tryz.ntmps112
    go_upto_region 1 with fail
    generalize w.alloc (.cells #[.int .i64 xt, .string xs, .bool xd] 55) = W0 at q0 q1 q2 HB ⊢
    go_wp2_with fail
    go_ret
    exact ⟨by rw [E.out]; rfl, HB.out⟩
  by_cases h2 : 2052 < xs.size
  · have E := Lib.hid (show bad none ⟨xt, xs, xd⟩ = 2 from bad_2 h1 h1' h2)
    have p2 : (2052 : Int) < (xs.size : Int) := by omega
    clear h2
    go_enter Tryz.func112, Tryz.ntmps112
    go_upto_region 1 with fail
    generalize w.alloc (.cells #[.int .i64 xt, .string xs, .bool xd] 55) = W0 at q0 q1 q2 HB ⊢
    go_wp2_with fail
    go_ret
    exact ⟨by rw [E.out]; rfl, HB.out⟩
  have p2 : ¬ (2052 : Int) < (xs.size : Int) := by omega
  cases xd with
  | false =>
    have E := Lib.hid (bad_none_go (d := false) ⟨h1, h1', h2, by simp⟩)
    clear h2
    go_enter Tryz.func112, Tryz.ntmps112
    go_upto_region 1 with fail
    generalize w.alloc (.cells #[.int .i64 xt, .string xs, .bool false] 55) = W0 at q0 q1 q2 HB ⊢
    go_wp2_with fail
    go_ret
    exact ⟨by rw [E.out]; rfl, HB.out⟩
  | true =>
    by_cases he : xs = ⟨#[]⟩
    · have E := Lib.hid (bad_none_go (d := true) ⟨h1, h1', h2, fun h => h.2 he⟩)
      subst he
      have t0 := text_eq ⟨#[]⟩
      clear h2
      go_enter Tryz.func112, Tryz.ntmps112
      go_upto_region 1 with fail
      generalize w.alloc (.cells #[.int .i64 xt, .string ⟨#[]⟩, .bool true] 55) = W0 at q0 q1 q2 HB ⊢
      go_wp2_with fail
      go_ret
      exact ⟨by rw [E.out]; rfl, HB.out⟩
    · have E := Lib.hid (show bad none ⟨xt, xs, true⟩ = 4 from bad_4 h1 h1' h2 ⟨rfl, he⟩)
      have t0 := text_ne he
      have hne : ¬ xs.toList = [] := fun h => he (by apply ByteArray.ext; exact Array.toList_inj.1 (by simpa [ByteArray.toList_eq] using h))
      have hne2 : xs.toList.isEmpty = false := by simpa using hne
      clear h2
      go_enter Tryz.func112, Tryz.ntmps112
      go_upto_region 1 with fail
      generalize w.alloc (.cells #[.int .i64 xt, .string xs, .bool true] 55) = W0 at q0 q1 q2 HB ⊢
      go_wp2_with fail
      go_ret
      exact ⟨by rw [E.out]; rfl, HB.out⟩

set_option maxRecDepth 20000 in
set_option maxHeartbeats 4000000 in
theorem last_in (A : Option Addr) (c : Nat) (l : List Vr) (n : Nat) (w : World) (h : VrsAt w A l) (hln : l.length = n) (hn : n ≤ 4398046511104) :
    Calls Tryz.prog 102 #[.slice A n c] w fun e w' => e = .returned (.int .i64 (lastT l)) ∧ w' = w := by
  subst hln
  have hlen : (l.length : Int) ≤ 4398046511104 := by omega
  by_cases h0 : 0 < l.length
  · obtain ⟨ad, rfl, hab, hcl⟩ := h (by omega)
    obtain ⟨x0, -, -⟩ := hcl (l.length - 1) (by omega)
    have hlt := lastT_at h0
    rw [← hlt] at x0
    have hc1 : (l.length : Int) - 1 = ((l.length - 1 : Nat) : Int) := by omega
    have hc2 : ((l.length - 1 : Nat) : Int) < (l.length : Int) := by omega
    have h0' : ¬ (l.length : Int) = 0 := by omega
    have hz : ((l.length : Int) == 0) = false := by simpa using h0'
    generalize l.length - 1 = k at x0 hc1 hc2
    generalize lastT l = lt at x0 ⊢
    clear hab hcl hlt h0 h hn
    go_enter Tryz.func102, Tryz.ntmps102
    go_wp2_with fail
    go_ret
    exact ⟨rfl, rfl⟩
  · have h00 : l = [] := List.eq_nil_of_length_eq_zero (by omega)
    subst h00
    clear h h0 hn hlen
    go_enter Tryz.func102, Tryz.ntmps102
    go_wp2_with fail
    go_ret
    exact ⟨rfl, rfl⟩

theorem bad_split (p : Option Int) (x : Vr) : bad p x = if bad none x = 0 then (match p with | none => 0 | some q => if x.ts ≤ q then 110 else 0) else bad none x := by
  unfold bad
  by_cases h1 : x.ts < 1 ∨ 1125899906842624 < x.ts
  · simp [if_pos h1]
  by_cases h2 : 2052 < x.shard.size
  · simp [if_neg h1, if_pos h2]
  by_cases h3 : x.dead = true ∧ x.shard ≠ ⟨#[]⟩
  · simp only [if_neg h1, if_neg h2, if_pos h3]; rfl
  · simp only [if_neg h1, if_neg h2, if_neg h3, if_true]
    cases p <;> rfl

theorem bad_none_pos {x : Vr} (h : bad none x = 0) : 1 ≤ x.ts := (bad_ok.1 h).1.1

theorem lastT_take {l : List Vr} {j : Nat} (h : j ≤ l.length) : (match prevT l j with | none => (0 : Int) | some q => q) = lastT (l.take j) := by
  cases j with
  | zero => rfl
  | succ k =>
    have hk : k < l.length := by omega
    show (match (l[k]?).map (·.ts) with | none => (0 : Int) | some q => q) = _
    rw [List.getElem?_eq_getElem hk]
    unfold lastT
    rw [List.getLast?_eq_getElem?, List.length_take, List.getElem?_take, Nat.min_eq_left (by omega), if_pos (by omega), Nat.add_sub_cancel, List.getElem?_eq_getElem hk]
    rfl

theorem bad_last {l : List Vr} {j : Nat} {x : Vr} (hj : j ≤ l.length) (h : bad none x = 0) : bad (prevT l j) x = if x.ts ≤ lastT (l.take j) then 110 else 0 := by
  rw [bad_split, if_pos h, ← lastT_take hj]
  have := bad_none_pos h
  cases prevT l j with
  | none => simp only; rw [if_neg (by omega)]
  | some q => rfl

set_option maxRecDepth 20000 in
set_option maxHeartbeats 8000000 in
theorem lcheck_any (A : Option Addr) (c : Nat) (l : List Vr) (w : World) (h : VrsAt w A l) (hn : l.length * 32 ≤ 140737488351232) (hr : ∀ x ∈ l, VrRng x) (hc : l.length ≤ c) :
    Calls Tryz.prog 87 #[.slice A l.length c] w fun e w' => e = .returned (.tuple #[.int .i64 (chkP l).1, .int .i64 (chkP l).2]) ∧ Below w.heap.size w w' := by
  have HA := Lib.hid h
  have HR := Lib.hid hr
  have HSl := Lib.hid (fun n (hn : n ≤ l.length) => slice_to A l.length c n (Nat.le_trans hn hc))
  clear h hr hc
  have hlen : (l.length : Int) ≤ 4398046511104 := by omega
  by_cases hl : 1024 < l.length
  · have pl : (1024 : Int) < (l.length : Int) := by omega
    have E := Lib.hid (show chkP l = (-1, 2) by unfold chkP; rw [if_pos hl])
    clear hl
    go_enter Tryz.func87, Tryz.ntmps87
    go_wp2_with fail
    go_ret2
    exact ⟨by rw [E.out]; rfl, Below.refl _ _⟩
  · have pl : ¬ (1024 : Int) < (l.length : Int) := by omega
    have E := Lib.hid (show chkP l = chkL none l 0 by unfold chkP; rw [if_neg hl])
    clear hl
    go_enter Tryz.func87, Tryz.ntmps87
    go_wp2_with fail
    go_loopw [12] (fun iv wr => ∃ j : Nat, j ≤ l.length ∧ iv = .int .i64 (j : Int) ∧ Hid (chkL none l 0 = chkL (prevT l j) (l.drop j) j) ∧ Hid (Below w.heap.size w wr)) (fun iv _ => l.length - (intOf iv).toNat)
    case atStart => exact ⟨0, by omega, rfl, Lib.hid rfl, Lib.hid (Below.refl _ _)⟩
    case round =>
      obtain ⟨j, hj, rfl, hs, hb⟩ := hrel
      by_cases hlt : j < l.length
      · have pj : (j : Int) < (l.length : Int) := by omega
        obtain ⟨ad, rfl, hab, hcl⟩ := (HA.out.below hb.out) (by omega)
        obtain ⟨x0, x1, x2⟩ := hcl j hlt
        have ST := Lib.hid (chk_step hlt)
        have HSj := Lib.hid (HSl.out j hj)
        have hrg := HR.out _ (List.getElem_mem hlt)
        rw [← add_field _ _ _ (by omega)] at x1 x2
        obtain ⟨X, hX⟩ : ∃ X, l[j] = X := ⟨_, rfl⟩
        have HXe := Lib.hid hX
        rw [hX] at x0 x1 x2 hrg
        clear hX hab hcl
        obtain ⟨xt, xs, xd⟩ := X
        simp only at x0 x1 x2 hrg
        have HFa := Lib.hid (fun W => fault_any ⟨xt, xs, xd⟩ W hrg.shard)
        have hB0 : Below wr.heap.size wr (wr.alloc (.cells #[.int .i64 xt, .string xs, .bool xd] 55)) := (Below.refl _ wr).alloc (Nat.le_refl _) _
        have hR0 : Cel (wr.alloc (.cells #[.int .i64 xt, .string xs, .bool xd] 55)) wr.heap.size 55 [.int .i64 xt, .string xs, .bool xd] := (blk1 wr _).2
        clear hrg
        go_upto_region 6 with fail
        have HB1 := Lib.hid (hb.out.trans (hB0.mono hb.out.size))
        have HR1 := Lib.hid hR0
        have q0 := hR0.cell (i := 0) rfl
        have q1 := hR0.cell (i := 1) rfl
        have q2 := hR0.cell (i := 2) rfl
        generalize hG : wr.heap.size = G at *
        generalize wr.alloc (.cells #[.int .i64 xt, .string xs, .bool xd] 55) = W1 at *
        clear hR0 hB0 x0 x1 x2 hb hG
        go_wp2_with fail
        refine (HFa.out _).mono ?_
        rintro e2 w2 ⟨rfl, hb⟩
        have HB2 := Lib.hid (HB1.out.trans (hb.mono HB1.out.size))
        have hR2 := HR1.out.below hb
        have q0 := hR2.cell (i := 0) rfl
        clear hR2 hb HFa HB1 HR1
        obtain ⟨f, hf⟩ : ∃ f, bad none ⟨xt, xs, xd⟩ = f := ⟨_, rfl⟩
        have Hf := Lib.hid hf
        rw [hf]
        clear hf
        by_cases h0 : f = 0
        · subst h0
          have HLi := Lib.hid (fun n => last_in (some ad) c (l.take j) j (w2.drewN n) ((HA.out.below HB2.out).take j) (by rw [List.length_take]; omega) (by omega))
          have hbad := bad_last hj Hf.out
          generalize lastT (l.take j) = lt at HLi hbad
          simp only at hbad
          have sl := HSj.out
          have HBd := Lib.hid hbad
          clear hbad
          by_cases h4 : xt ≤ lt
          · have E2 := Lib.hid (show chkP l = ((j : Int), 110) by
              have hbad : bad (prevT l j) ⟨xt, xs, xd⟩ = 110 := by rw [HBd.out, if_pos h4]
              rw [E.out, hs.out, ST.out, HXe.out, hbad]; rfl)
            clear hs
            go_upto_region 9 with fail
            go_quiet ((go_at_call 102; exact Calls.quiet_of_same (HLi.out _)))
            rename_i nq
            have HB := Lib.hid (HB2.out.trans ((below_drew w2.heap.size w2 nq).mono HB2.out.size))
            generalize w2.drewN nq = W9 at HB ⊢
            go_wp2_with fail
            go_ret2
            exact ⟨by rw [E2.out]; rfl, HB.out⟩
          · have HS2 := Lib.hid (show chkL none l 0 = chkL (prevT l (j + 1)) (l.drop (j + 1)) (j + 1) by
              have hbad : bad (prevT l j) ⟨xt, xs, xd⟩ = 0 := by rw [HBd.out, if_neg h4]
              rw [hs.out, ST.out, HXe.out, hbad]; rfl)
            clear hs
            go_upto_region 9 with fail
            go_quiet ((go_at_call 102; exact Calls.quiet_of_same (HLi.out _)))
            rename_i nq
            have HB := Lib.hid (HB2.out.trans ((below_drew w2.heap.size w2 nq).mono HB2.out.size))
            generalize w2.drewN nq = W9 at HB ⊢
            go_wp2_with fail
            go_roundw
            case rel => exact ⟨j + 1, by omega, by go_num, HS2, HB⟩
            case measure => simp [intOf]; omega
        · have E2 := Lib.hid (show chkP l = ((j : Int), f) by
            have hbad : bad (prevT l j) ⟨xt, xs, xd⟩ = f := by rw [bad_split, Hf.out, if_neg h0]
            rw [E.out, hs.out, ST.out, HXe.out, hbad, if_neg h0])
          have hz : (f == 0) = false := by simpa using h0
          clear hs
          go_wp2_with fail
          go_ret2
          exact ⟨by rw [E2.out]; rfl, HB2.out⟩
      · obtain rfl : j = l.length := by omega
        have E2 := Lib.hid (show chkP l = (0, 0) by rw [E.out, hs.out, List.drop_length]; rfl)
        have HB := hb
        clear hs hb
        go_wp2_with fail
        go_ret2
        exact ⟨by rw [E2.out]; rfl, HB.out⟩

end Ch
end Go.Proofs.YtiobhbagjokpcaaGreat

/- The landed chain: how many are not above a time, by sort.Search; contracts; no condition but the range. -/
namespace Go.Proofs.YtiobhbagjokpcaaGreat
namespace Ch
open Go.RowKit Bk

attribute [local go_sem ↓] Go.wp_at_zero Go.wp_at_succ
attribute [local go_sem] floatUpon pick

set_option maxRecDepth 20000 in
set_option maxHeartbeats 4000000 in
theorem above_in (A : Option Addr) (c : Nat) (l : List Vr) (t : Int) (p1 p2 : Addr) (j : Nat) (w : World) (hA : VrsAt w A l) (h1 : w.cell? p1 = some (.slice A l.length c)) (h2 : w.cell? p2 = some (.int .i64 t)) (hj : j < l.length) (hn : l.length ≤ 1024) :
    Calls Tryz.prog 114 #[.int .i64 (j : Int), .pointer (some p1), .pointer (some p2)] w fun e w' => e = .returned (.bool (decide (t < l[j].ts))) ∧ ∃ n, w' = w.drewN n := by
  have hlen : (l.length : Int) ≤ 1024 := by omega
  have pj : (j : Int) < (l.length : Int) := by omega
  obtain ⟨ad, rfl, hab, hcl⟩ := hA (by omega)
  obtain ⟨x0, -, -⟩ := hcl j hj
  generalize l[j].ts = xt at x0 ⊢
  clear hab hcl hA hn hj
  go_enter Tryz.func114, Tryz.ntmps114
  go_upto_region 1 with fail
  go_quiet (fail)
  rename_i nq
  go_wp2_with fail
  go_ret
  exact ⟨rfl, _, rfl⟩

/-- what a search has behind it and ahead of it -/
structure Mid (l : List Vr) (t : Int) (i j : Nat) : Prop where
  le : i ≤ j
  ln : j ≤ l.length
  low : ∀ k (h : k < l.length), k < i → l[k].ts ≤ t
  high : ∀ k (h : k < l.length), j ≤ k → t < l[k].ts

theorem Mid.place {l : List Vr} {t : Int} {i : Nat} (h : Mid l t i i) : placeN l t = i := place_at h.ln h.low (fun hk => h.high i hk (Nat.le_refl _))

theorem rise_at {l : List Vr} (h : l.Pairwise (fun x y => x.ts < y.ts)) {i j : Nat} (hj : j < l.length) (hij : i ≤ j) : (l[i]'(by omega)).ts ≤ l[j].ts := by
  rcases Nat.eq_or_lt_of_le hij with e | e
  · subst e; exact Int.le_refl _
  · exact Int.le_of_lt (List.pairwise_iff_getElem.1 h i j (by omega) hj e)

theorem Mid.left {l : List Vr} {t : Int} {i j m : Nat} (h : Mid l t i j) (hr : l.Pairwise (fun x y => x.ts < y.ts)) (hm : m < l.length) (hmj : m < j) (ht : ¬ t < l[m].ts) : Mid l t (m + 1) j :=
  ⟨by omega, h.ln, fun k hk hkm => Int.le_trans (rise_at hr hm (by omega)) (by omega), h.high⟩

theorem Mid.right {l : List Vr} {t : Int} {i j m : Nat} (h : Mid l t i j) (hr : l.Pairwise (fun x y => x.ts < y.ts)) (hm : m < l.length) (him : i ≤ m) (ht : t < l[m].ts) : Mid l t i m :=
  ⟨him, by omega, h.low, fun k hk hkm => Int.lt_of_lt_of_le ht (rise_at hr hk hkm)⟩

set_option maxRecDepth 20000 in
set_option maxHeartbeats 4000000 in
theorem search_any (A : Option Addr) (c : Nat) (l : List Vr) (t : Int) (p1 p2 : Addr) (w : World) (hA : VrsAt w A l) (h1 : w.cell? p1 = some (.slice A l.length c)) (h2 : w.cell? p2 = some (.int .i64 t)) (hb1 : p1.block < w.heap.size) (hb2 : p2.block < w.heap.size) (hr : l.Pairwise (fun x y => x.ts < y.ts)) (hn : l.length ≤ 1024) :
    Calls Tryz.prog 113 #[.int .i64 (l.length : Int), .func (.func 114) #[] #[.pointer (some p1), .pointer (some p2)]] w fun e w' => e = .returned (.int .i64 (placeN l t : Int)) ∧ Below w.heap.size w w' := by
  have HC := Lib.hid (fun j (hj : j < l.length) W (hb : Below w.heap.size w W) => above_in A c l t p1 p2 j W (hA.below hb) ((cell_kept hb _ hb1).trans h1) ((cell_kept hb _ hb2).trans h2) hj hn)
  have HR := Lib.hid hr
  have hlen : (l.length : Int) ≤ 1024 := by omega
  clear hA h1 h2 hb1 hb2 hr hn
  go_enter Tryz.func113, Tryz.ntmps113
  go_wp2_with fail
  go_loopw [5, 6] (fun iv jv wr => ∃ i j : Nat, iv = .int .i64 (i : Int) ∧ jv = .int .i64 (j : Int) ∧ Hid (Mid l t i j) ∧ Hid (Below w.heap.size w wr)) (fun iv jv _ => (intOf jv).toNat - (intOf iv).toNat)
  case atStart => exact ⟨0, l.length, rfl, rfl, Lib.hid ⟨by omega, by omega, fun k _ h => absurd h (by omega), fun k hk h => absurd hk (by omega)⟩, Lib.hid (Below.refl _ _)⟩
  case round =>
    obtain ⟨i, j, rfl, rfl, hm, hb⟩ := hrel
    have hij := hm.out.le
    have hjl := hm.out.ln
    have pj : (j : Int) ≤ 1024 := by omega
    by_cases hlt : i < j
    · have pij : (i : Int) < (j : Int) := by omega
      obtain ⟨m, hmm⟩ : ∃ m : Nat, (i + j) / 2 = m := ⟨_, rfl⟩
      have him : i ≤ m := by omega
      have hmj : m < j := by omega
      have HCm := Lib.hid (HC.out m (by omega))
      go_upto_region 4 with fail
      rw [show ((i : Int) + (j : Int)) / 2 = (m : Int) by omega]
      have hml : m < l.length := by omega
      by_cases ht : t < l[m].ts
      · have HM := Lib.hid (hm.out.right HR.out hml him ht)
        have HCm2 : Hid (∀ W, Below w.heap.size w W → Calls Tryz.prog 114 #[.int .i64 (m : Int), .pointer (some p1), .pointer (some p2)] W fun e w' => e = .returned (.bool true) ∧ ∃ n, w' = W.drewN n) := Lib.hid (fun W hb => by have := HCm.out W hb; rwa [decide_eq_true ht] at this)
        have HB := hb
        clear hm hb HCm HC ht hmm him hij hjl pij
        go_wp2_with fail
        refine (HCm2.out _ HB.out).mono ?_
        rintro e2 w2 ⟨rfl, nq, rfl⟩
        have HB2 := Lib.hid (HB.out.trans ((below_drew wr.heap.size wr nq).mono HB.out.size))
        generalize wr.drewN nq = W2 at HB2 ⊢
        clear HCm2
        go_wp2_with fail
        go_roundw
        case rel => exact ⟨i, m, rfl, rfl, HM, HB2⟩
        case measure => simp [intOf]; have := HM.out.le; omega
      · have HM := Lib.hid (hm.out.left HR.out hml hmj ht)
        have HCm2 : Hid (∀ W, Below w.heap.size w W → Calls Tryz.prog 114 #[.int .i64 (m : Int), .pointer (some p1), .pointer (some p2)] W fun e w' => e = .returned (.bool false) ∧ ∃ n, w' = W.drewN n) := Lib.hid (fun W hb => by have := HCm.out W hb; rwa [decide_eq_false ht] at this)
        have HB := hb
        have pm : (m : Int) ≤ 1024 := by omega
        have HMi := Lib.hid him
        have HLt := Lib.hid hlt
        clear hm hb HCm HC ht hmm him hij hjl pij hlt
        go_wp2_with fail
        refine (HCm2.out _ HB.out).mono ?_
        rintro e2 w2 ⟨rfl, nq, rfl⟩
        have HB2 := Lib.hid (HB.out.trans ((below_drew wr.heap.size wr nq).mono HB.out.size))
        generalize wr.drewN nq = W2 at HB2 ⊢
        clear HCm2
        go_wp2_with fail
        go_roundw
        case rel => exact ⟨m + 1, j, by go_num, rfl, HM, HB2⟩
        case measure => simp [intOf]; have := HMi.out; have := HLt.out; omega
    · obtain rfl : i = j := by omega
      have hp := hm.out.place
      have HB := hb
      clear hm hb
      go_wp2_with fail
      go_ret
      exact ⟨by rw [hp]; rfl, HB.out⟩

set_option maxRecDepth 20000 in
set_option maxHeartbeats 4000000 in
theorem notAbove_any (A : Option Addr) (c : Nat) (l : List Vr) (t : Int) (w : World) (hA : VrsAt w A l) (hr : l.Pairwise (fun x y => x.ts < y.ts)) (hn : l.length ≤ 1024) :
    Calls Tryz.prog 88 #[.slice A l.length c, .int .i64 t] w fun e w' => e = .returned (.int .i64 (placeN l t : Int)) ∧ Below w.heap.size w w' := by
  obtain ⟨W1, hW1⟩ : ∃ W1, w.alloc (.cells #[.slice A l.length c] 66) = W1 := ⟨_, rfl⟩
  obtain ⟨W2, hW2⟩ : ∃ W2, W1.alloc (.cells #[.int .i64 t] 3) = W2 := ⟨_, rfl⟩
  have hs1 : W1.heap.size = w.heap.size + 1 := by rw [← hW1]; simp
  have hs2 : W2.heap.size = w.heap.size + 2 := by rw [← hW2]; simp [hs1]
  have hb1 : Below w.heap.size w W1 := by rw [← hW1]; exact (Below.refl _ w).alloc (Nat.le_refl _) _
  have hb2 : Below W1.heap.size W1 W2 := by rw [← hW2]; exact (Below.refl _ W1).alloc (Nat.le_refl _) _
  have hbw : Below w.heap.size w W2 := hb1.trans (hb2.mono hb1.size)
  have c1 : W1.cell? ⟨w.heap.size, 0, none⟩ = some (.slice A l.length c) := by rw [← hW1]; exact blk_cell (blk1 w _).2 rfl
  have c2 : W2.cell? ⟨W1.heap.size, 0, none⟩ = some (.int .i64 t) := by rw [← hW2]; exact blk_cell (blk1 W1 _).2 rfl
  have c1' : W2.cell? ⟨w.heap.size, 0, none⟩ = some (.slice A l.length c) := (cell_kept hb2 _ (by rw [hs1]; exact Nat.lt_succ_self _)).trans c1
  rw [hs1] at c2
  have HS := Lib.hid (search_any A c l t ⟨w.heap.size, 0, none⟩ ⟨w.heap.size + 1, 0, none⟩ W2 (hA.below hbw) c1' c2 (by show w.heap.size < _; omega) (by show w.heap.size + 1 < _; omega) hr hn)
  have HB := Lib.hid hbw
  have hlen : (l.length : Int) ≤ 1024 := by omega
  clear hA hr hn hb1 hb2 hbw c1 c2 hs2
  go_enter Tryz.func88, Tryz.ntmps88
  go_upto_region 1 with fail
  clear hW1 hW2
  go_wp2_with fail
  refine HS.out.mono ?_
  rintro e2 w2 ⟨rfl, hb⟩
  have HB2 := Lib.hid (HB.out.trans (hb.mono HB.out.size))
  clear hb HS HB
  go_wp2_with fail
  go_ret
  exact ⟨rfl, HB2.out⟩

end Ch
end Go.Proofs.YtiobhbagjokpcaaGreat
