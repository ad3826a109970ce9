/- The landed chain: what is wrong with a version, the last time, Check; contracts; no condition but the range. -/
import Derived.Test.YtpdojkfjgfeijaaChRef6
namespace Go.Proofs.Ytpdojkfjgfeijaa
namespace Ch
open Go.RowKit Bk

attribute [local go_sem ↓] Go.wp_at_zero Go.wp_at_succ
attribute [local go_sem] floatUpon pick

theorem bad_none_go {t : Int} {s : ByteArray} {d : Bool} (h : ¬ t < 1 ∧ ¬ 1125899906842624 < t ∧ ¬ 2052 < s.size ∧ ¬ (d = true ∧ s ≠ ⟨#[]⟩)) : bad none ⟨t, s, d⟩ = 0 := bad_go h (fun q e => by cases e)

set_option maxRecDepth 20000 in
set_option maxHeartbeats 4000000 in
theorem fault_any (x : Vr) (w : World) (hx : x.shard.size ≤ reachBytes) :
    Calls Try.prog 24 #[.agg (vcs x).toArray] w fun e w' => e = .returned (.int .i64 (bad none x)) ∧ Below w.heap.size w w' := by
  obtain ⟨xt, xs, xd⟩ := x
  have rb : reachBytes = 140737488351232 := rfl
  simp only at hx
  have hxs : (xs.size : Int) ≤ 140737488351232 := by omega
  clear hx rb
  show Calls _ _ #[.agg #[.int .i64 xt, .string xs, .bool xd]] _ _
  have hR0 : Cel (w.alloc (.cells #[.int .i64 xt, .string xs, .bool xd] 24)) w.heap.size 24 [.int .i64 xt, .string xs, .bool xd] := (blk1 w _).2
  have hB0 : Below w.heap.size w (w.alloc (.cells #[.int .i64 xt, .string xs, .bool xd] 24)) := (Below.refl _ w).alloc (Nat.le_refl _) _
  have q0 := hR0.cell (i := 0) rfl
  have q1 := hR0.cell (i := 1) rfl
  have q2 := hR0.cell (i := 2) rfl
  have HB := Lib.hid hB0
  clear hR0 hB0
  by_cases h1 : xt < 1
  · have E := Lib.hid (show bad none ⟨xt, xs, xd⟩ = 1 from bad_1 (.inl h1))
    go_enter Try.func24, Try.ntmps24
    go_upto_region 1 with fail
    generalize w.alloc (.cells #[.int .i64 xt, .string xs, .bool xd] 24) = W0 at q0 q1 q2 HB ⊢
    go_wp2_with fail
    go_ret
    exact ⟨by rw [E.out]; rfl, HB.out⟩
  by_cases h1' : 1125899906842624 < xt
  · have E := Lib.hid (show bad none ⟨xt, xs, xd⟩ = 1 from bad_1 (.inr h1'))
    go_enter Try.func24, Try.ntmps24
    go_upto_region 1 with fail
    generalize w.alloc (.cells #[.int .i64 xt, .string xs, .bool xd] 24) = W0 at q0 q1 q2 HB ⊢
    go_wp2_with fail
    go_ret
    exact ⟨by rw [E.out]; rfl, HB.out⟩
  by_cases h2 : 2052 < xs.size
  · have E := Lib.hid (show bad none ⟨xt, xs, xd⟩ = 2 from bad_2 h1 h1' h2)
    have p2 : (2052 : Int) < (xs.size : Int) := by omega
    clear h2
    go_enter Try.func24, Try.ntmps24
    go_upto_region 1 with fail
    generalize w.alloc (.cells #[.int .i64 xt, .string xs, .bool xd] 24) = W0 at q0 q1 q2 HB ⊢
    go_wp2_with fail
    go_ret
    exact ⟨by rw [E.out]; rfl, HB.out⟩
  have p2 : ¬ (2052 : Int) < (xs.size : Int) := by omega
  cases xd with
  | false =>
    have E := Lib.hid (bad_none_go (d := false) ⟨h1, h1', h2, by simp⟩)
    clear h2
    go_enter Try.func24, Try.ntmps24
    go_upto_region 1 with fail
    generalize w.alloc (.cells #[.int .i64 xt, .string xs, .bool false] 24) = W0 at q0 q1 q2 HB ⊢
    go_wp2_with fail
    go_ret
    exact ⟨by rw [E.out]; rfl, HB.out⟩
  | true =>
    by_cases he : xs = ⟨#[]⟩
    · have E := Lib.hid (bad_none_go (d := true) ⟨h1, h1', h2, fun h => h.2 he⟩)
      subst he
      have t0 := text_eq ⟨#[]⟩
      clear h2
      go_enter Try.func24, Try.ntmps24
      go_upto_region 1 with fail
      generalize w.alloc (.cells #[.int .i64 xt, .string ⟨#[]⟩, .bool true] 24) = W0 at q0 q1 q2 HB ⊢
      go_wp2_with fail
      go_ret
      exact ⟨by rw [E.out]; rfl, HB.out⟩
    · have E := Lib.hid (show bad none ⟨xt, xs, true⟩ = 4 from bad_4 h1 h1' h2 ⟨rfl, he⟩)
      have t0 := text_ne he
      have hne : ¬ xs.toList = [] := fun h => he (by apply ByteArray.ext; exact Array.toList_inj.1 (by simpa [ByteArray.toList_eq] using h))
      have hne2 : xs.toList.isEmpty = false := by simpa using hne
      clear h2
      go_enter Try.func24, Try.ntmps24
      go_upto_region 1 with fail
      generalize w.alloc (.cells #[.int .i64 xt, .string xs, .bool true] 24) = W0 at q0 q1 q2 HB ⊢
      go_wp2_with fail
      go_ret
      exact ⟨by rw [E.out]; rfl, HB.out⟩

set_option maxRecDepth 20000 in
set_option maxHeartbeats 4000000 in
theorem last_in (A : Option Addr) (c : Nat) (l : List Vr) (n : Nat) (w : World) (h : VrsAt w A l) (hln : l.length = n) (hn : n ≤ 4398046511104) :
    Calls Try.prog 25 #[.slice A n c] w fun e w' => e = .returned (.int .i64 (lastT l)) ∧ w' = w := by
  subst hln
  have hlen : (l.length : Int) ≤ 4398046511104 := by omega
  by_cases h0 : 0 < l.length
  · obtain ⟨ad, rfl, hab, hcl⟩ := h (by omega)
    obtain ⟨x0, -, -⟩ := hcl (l.length - 1) (by omega)
    have hlt := lastT_at h0
    rw [← hlt] at x0
    have hc1 : (l.length : Int) - 1 = ((l.length - 1 : Nat) : Int) := by omega
    have hc2 : ((l.length - 1 : Nat) : Int) < (l.length : Int) := by omega
    have h0' : ¬ (l.length : Int) = 0 := by omega
    have hz : ((l.length : Int) == 0) = false := by simpa using h0'
    generalize l.length - 1 = k at x0 hc1 hc2
    generalize lastT l = lt at x0 ⊢
    clear hab hcl hlt h0 h hn
    go_enter Try.func25, Try.ntmps25
    go_wp2_with fail
    go_ret
    exact ⟨rfl, rfl⟩
  · have h00 : l = [] := List.eq_nil_of_length_eq_zero (by omega)
    subst h00
    clear h h0 hn hlen
    go_enter Try.func25, Try.ntmps25
    go_wp2_with fail
    go_ret
    exact ⟨rfl, rfl⟩

theorem bad_split (p : Option Int) (x : Vr) : bad p x = if bad none x = 0 then (match p with | none => 0 | some q => if x.ts ≤ q then 110 else 0) else bad none x := by
  unfold bad
  by_cases h1 : x.ts < 1 ∨ 1125899906842624 < x.ts
  · simp [if_pos h1]
  by_cases h2 : 2052 < x.shard.size
  · simp [if_neg h1, if_pos h2]
  by_cases h3 : x.dead = true ∧ x.shard ≠ ⟨#[]⟩
  · simp only [if_neg h1, if_neg h2, if_pos h3]; rfl
  · simp only [if_neg h1, if_neg h2, if_neg h3, if_true]
    cases p <;> rfl

theorem bad_none_pos {x : Vr} (h : bad none x = 0) : 1 ≤ x.ts := (bad_ok.1 h).1.1

theorem lastT_take {l : List Vr} {j : Nat} (h : j ≤ l.length) : (match prevT l j with | none => (0 : Int) | some q => q) = lastT (l.take j) := by
  cases j with
  | zero => rfl
  | succ k =>
    have hk : k < l.length := by omega
    show (match (l[k]?).map (·.ts) with | none => (0 : Int) | some q => q) = _
    rw [List.getElem?_eq_getElem hk]
    unfold lastT
    rw [List.getLast?_eq_getElem?, List.length_take, List.getElem?_take, Nat.min_eq_left (by omega), if_pos (by omega), Nat.add_sub_cancel, List.getElem?_eq_getElem hk]
    rfl

theorem bad_last {l : List Vr} {j : Nat} {x : Vr} (hj : j ≤ l.length) (h : bad none x = 0) : bad (prevT l j) x = if x.ts ≤ lastT (l.take j) then 110 else 0 := by
  rw [bad_split, if_pos h, ← lastT_take hj]
  have := bad_none_pos h
  cases prevT l j with
  | none => simp only; rw [if_neg (by omega)]
  | some q => rfl

set_option maxRecDepth 20000 in
set_option maxHeartbeats 8000000 in
theorem lcheck_any (A : Option Addr) (c : Nat) (l : List Vr) (w : World) (h : VrsAt w A l) (hn : l.length * 32 ≤ 140737488351232) (hr : ∀ x ∈ l, VrRng x) (hc : l.length ≤ c) :
    Calls Try.prog 9 #[.slice A l.length c] w fun e w' => e = .returned (.tuple #[.int .i64 (chkP l).1, .int .i64 (chkP l).2]) ∧ Below w.heap.size w w' := by
  have HA := Lib.hid h
  have HR := Lib.hid hr
  have HSl := Lib.hid (fun n (hn : n ≤ l.length) => slice_to A l.length c n (Nat.le_trans hn hc))
  clear h hr hc
  have hlen : (l.length : Int) ≤ 4398046511104 := by omega
  by_cases hl : 1024 < l.length
  · have pl : (1024 : Int) < (l.length : Int) := by omega
    have E := Lib.hid (show chkP l = (-1, 2) by unfold chkP; rw [if_pos hl])
    clear hl
    go_enter Try.func9, Try.ntmps9
    go_wp2_with fail
    go_ret2
    exact ⟨by rw [E.out]; rfl, Below.refl _ _⟩
  · have pl : ¬ (1024 : Int) < (l.length : Int) := by omega
    have E := Lib.hid (show chkP l = chkL none l 0 by unfold chkP; rw [if_neg hl])
    clear hl
    go_enter Try.func9, Try.ntmps9
    go_wp2_with fail
    go_loopw [12] (fun iv wr => ∃ j : Nat, j ≤ l.length ∧ iv = .int .i64 (j : Int) ∧ Hid (chkL none l 0 = chkL (prevT l j) (l.drop j) j) ∧ Hid (Below w.heap.size w wr)) (fun iv _ => l.length - (intOf iv).toNat)
    case atStart => exact ⟨0, by omega, rfl, Lib.hid rfl, Lib.hid (Below.refl _ _)⟩
    case round =>
      obtain ⟨j, hj, rfl, hs, hb⟩ := hrel
      by_cases hlt : j < l.length
      · have pj : (j : Int) < (l.length : Int) := by omega
        obtain ⟨ad, rfl, hab, hcl⟩ := (HA.out.below hb.out) (by omega)
        obtain ⟨x0, x1, x2⟩ := hcl j hlt
        have ST := Lib.hid (chk_step hlt)
        have HSj := Lib.hid (HSl.out j hj)
        have hrg := HR.out _ (List.getElem_mem hlt)
        rw [← add_field _ _ _ (by omega)] at x1 x2
        obtain ⟨X, hX⟩ : ∃ X, l[j] = X := ⟨_, rfl⟩
        have HXe := Lib.hid hX
        rw [hX] at x0 x1 x2 hrg
        clear hX hab hcl
        obtain ⟨xt, xs, xd⟩ := X
        simp only at x0 x1 x2 hrg
        have HFa := Lib.hid (fun W => fault_any ⟨xt, xs, xd⟩ W hrg.shard)
        have hB0 : Below wr.heap.size wr (wr.alloc (.cells #[.int .i64 xt, .string xs, .bool xd] 24)) := (Below.refl _ wr).alloc (Nat.le_refl _) _
        have hR0 : Cel (wr.alloc (.cells #[.int .i64 xt, .string xs, .bool xd] 24)) wr.heap.size 24 [.int .i64 xt, .string xs, .bool xd] := (blk1 wr _).2
        clear hrg
        go_upto_region 6 with fail
        have HB1 := Lib.hid (hb.out.trans (hB0.mono hb.out.size))
        have HR1 := Lib.hid hR0
        have q0 := hR0.cell (i := 0) rfl
        have q1 := hR0.cell (i := 1) rfl
        have q2 := hR0.cell (i := 2) rfl
        generalize hG : wr.heap.size = G at *
        generalize wr.alloc (.cells #[.int .i64 xt, .string xs, .bool xd] 24) = W1 at *
        clear hR0 hB0 x0 x1 x2 hb hG
        go_wp2_with fail
        refine (HFa.out _).mono ?_
        rintro e2 w2 ⟨rfl, hb⟩
        have HB2 := Lib.hid (HB1.out.trans (hb.mono HB1.out.size))
        have hR2 := HR1.out.below hb
        have q0 := hR2.cell (i := 0) rfl
        clear hR2 hb HFa HB1 HR1
        obtain ⟨f, hf⟩ : ∃ f, bad none ⟨xt, xs, xd⟩ = f := ⟨_, rfl⟩
        have Hf := Lib.hid hf
        rw [hf]
        clear hf
        by_cases h0 : f = 0
        · subst h0
          have HLi := Lib.hid (fun n => last_in (some ad) c (l.take j) j (w2.drewN n) ((HA.out.below HB2.out).take j) (by rw [List.length_take]; omega) (by omega))
          have hbad := bad_last hj Hf.out
          generalize lastT (l.take j) = lt at HLi hbad
          simp only at hbad
          have sl := HSj.out
          have HBd := Lib.hid hbad
          clear hbad
          by_cases h4 : xt ≤ lt
          · have E2 := Lib.hid (show chkP l = ((j : Int), 110) by
              have hbad : bad (prevT l j) ⟨xt, xs, xd⟩ = 110 := by rw [HBd.out, if_pos h4]
              rw [E.out, hs.out, ST.out, HXe.out, hbad]; rfl)
            clear hs
            go_upto_region 9 with fail
            go_quiet ((go_at_call 25; exact Calls.quiet_of_same (HLi.out _)))
            rename_i nq
            have HB := Lib.hid (HB2.out.trans ((below_drew w2.heap.size w2 nq).mono HB2.out.size))
            generalize w2.drewN nq = W9 at HB ⊢
            go_wp2_with fail
            go_ret2
            exact ⟨by rw [E2.out]; rfl, HB.out⟩
          · have HS2 := Lib.hid (show chkL none l 0 = chkL (prevT l (j + 1)) (l.drop (j + 1)) (j + 1) by
              have hbad : bad (prevT l j) ⟨xt, xs, xd⟩ = 0 := by rw [HBd.out, if_neg h4]
              rw [hs.out, ST.out, HXe.out, hbad]; rfl)
            clear hs
            go_upto_region 9 with fail
            go_quiet ((go_at_call 25; exact Calls.quiet_of_same (HLi.out _)))
            rename_i nq
            have HB := Lib.hid (HB2.out.trans ((below_drew w2.heap.size w2 nq).mono HB2.out.size))
            generalize w2.drewN nq = W9 at HB ⊢
            go_wp2_with fail
            go_roundw
            case rel => exact ⟨j + 1, by omega, by go_num, HS2, HB⟩
            case measure => simp [intOf]; omega
        · have E2 := Lib.hid (show chkP l = ((j : Int), f) by
            have hbad : bad (prevT l j) ⟨xt, xs, xd⟩ = f := by rw [bad_split, Hf.out, if_neg h0]
            rw [E.out, hs.out, ST.out, HXe.out, hbad, if_neg h0])
          have hz : (f == 0) = false := by simpa using h0
          clear hs
          go_wp2_with fail
          go_ret2
          exact ⟨by rw [E2.out]; rfl, HB2.out⟩
      · obtain rfl : j = l.length := by omega
        have E2 := Lib.hid (show chkP l = (0, 0) by rw [E.out, hs.out, List.drop_length]; rfl)
        have HB := hb
        clear hs hb
        go_wp2_with fail
        go_ret2
        exact ⟨by rw [E2.out]; rfl, HB.out⟩

end Ch
end Go.Proofs.Ytpdojkfjgfeijaa
