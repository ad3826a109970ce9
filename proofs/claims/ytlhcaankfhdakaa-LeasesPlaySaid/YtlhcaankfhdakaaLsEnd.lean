/- The document's leases: End of a number that is there; no condition but the range. -/
import Derived.Test.YtlhcaankfhdakaaLsGrow
namespace Go.Proofs.Ytlhcaankfhdakaa
namespace Ls
open Go.RowKit Bk

attribute [local go_sem ↓] Go.wp_at_zero Go.wp_at_succ
attribute [local go_sem] floatUpon pick

section
variable {W W' : World} {base : Nat} {v : Value} {l : List Le}

theorem grow_put' (W : World) (b o : Nat) (v : Value) : W.grownBy (W.setCell ⟨b, o, none⟩ v) (some b) := grow_put W b o v

/-- a new row is put into the table's block -/
theorem RQ.put {r : Nat} {D D' : Tb} {v' : Value} (h : RQ W base r v D) (hb : Below W.heap.size W W') (hr : DRow W' W.heap.size v' D'.L) (h1 : D'.long = D.long) (h2 : D'.many = D.many) : RP W base r v D' (W'.setCell ⟨r, 2, none⟩ v') := by
  have hf : v'.ownBlock ≠ some r := fun e => by have := (hr.lt e).2; have := h.cel.lt; omega
  have g := grow_put W' r 2 v'
  refine ⟨v', ⟨?_, (hr.mono h.bs).same (fun p hp => g.block p (hr.lt hp).1 (fun e => hf (by rw [hp, e]))), hf, h.rb, Nat.le_trans h.bs (Nat.le_trans hb.size g.size)⟩,
    g.os.trans hb.os, g.tape.trans hb.tape, g.output.trans hb.output, Nat.le_trans hb.size g.size, fun k hk hn _ => (g.block k (Nat.lt_of_lt_of_le hk hb.size) (fun e => hn (Option.some.inj e))).trans (hb.block k hk), fun q hq => .inr (hr.lt hq).2⟩
  rw [h1, h2]
  exact (h.cel.below hb).set (i := 2) (v := v')

set_option maxRecDepth 20000 in
set_option maxHeartbeats 8000000 in
theorem rend_at {r : Nat} {D : Tb} (h : RQ W base r v D) (h10 : D.L.length ≤ 100000) (n : Int) (hl : nu D.L n < D.L.length) : Calls Try.prog 15 #[.pointer (some ⟨r, 0, none⟩), .int .i64 n] W fun e W' => e = .returned (.int .i64 (endB D n).2) ∧ RP W base r v (endB D n).1 W' := by
  obtain ⟨p, cap, rest, hv, hb, hc, h1, h2, h3⟩ := h.row.blk (by omega)
  have HQ := Lib.hid h
  have HV := Lib.hid hv
  have HA := Lib.hid (at_any h h10 n)
  have HL := Lib.hid h10
  have ea : atB D n = (nu D.L n : Int) := if_pos hl
  rw [ea] at HA
  have hk : endB D n = (⟨D.long, D.many, D.L.eraseIdx (nu D.L n)⟩, 0) := if_pos hl
  have HK := Lib.hid hk
  generalize nu D.L n = i at ea hl hk HK HA
  obtain ⟨i0, z0, hi0, hz0, hz1, hz2, hz3⟩ := info_le
  have hm : cap < 9223372036854775808 := by simp only [maxLen] at h2; omega
  have n1 : ∀ j u, ((D.L.take i).flatMap leC)[j]? = some u → ∀ X, Cel X p 60 (D.L.flatMap leC ++ rest) → X.cell? ((⟨p, 0, none⟩ : Addr).add j) = some u := fun j u hu X hX => by
    rw [addr_head]
    refine hX.cell ?_
    have hj : j < i * 3 := by have := (List.getElem?_eq_some_iff.1 hu).1; rw [fl_len, List.length_take] at this; omega
    have e2 : D.L.flatMap leC = (D.L.take i).flatMap leC ++ (D.L.drop i).flatMap leC := by rw [← List.flatMap_append, List.take_append_drop]
    have hn : ((D.L.take i).flatMap leC).length = i * 3 := by rw [fl_len, List.length_take, Nat.min_eq_left (by omega)]
    rw [List.getElem?_append_left (by rw [fl_len]; omega), e2, List.getElem?_append_left (by omega)]
    exact hu
  have n2 : ∀ j u, ((D.L.drop (i + 1)).flatMap leC)[j]? = some u → ∀ X, Cel X p 60 (D.L.flatMap leC ++ rest) → X.cell? ((⟨p, (i + 1) * 3, none⟩ : Addr).add j) = some u := fun j u hu X hX => by
    have e : (⟨p, (i + 1) * 3, none⟩ : Addr).add j = ⟨p, (i + 1) * 3 + j, none⟩ := by unfold Addr.add; split <;> simp_all
    rw [e]
    refine hX.cell ?_
    have hj : j < (D.L.drop (i + 1)).length * 3 := by have := (List.getElem?_eq_some_iff.1 hu).1; rw [fl_len] at this; exact this
    have e2 : D.L.flatMap leC = (D.L.take (i + 1)).flatMap leC ++ (D.L.drop (i + 1)).flatMap leC := by rw [← List.flatMap_append, List.take_append_drop]
    have hn : ((D.L.take (i + 1)).flatMap leC).length = (i + 1) * 3 := by rw [fl_len, List.length_take, Nat.min_eq_left (by omega)]
    rw [List.getElem?_append_left (by rw [fl_len]; rw [List.length_drop] at hj; omega), e2, List.getElem?_append_right (by omega), hn, Nat.add_sub_cancel_left]
    exact hu
  have HN := Lib.hid (And.intro n1 n2)
  have HC := Lib.hid hc
  have HE : Hid (D.L.eraseIdx i = D.L.take i ++ D.L.drop (i + 1)) := Lib.hid (List.eraseIdx_eq_take_drop_succ D.L i)
  have l1 : ((D.L.take i).flatMap leC).length = i * 3 := by rw [fl_len, List.length_take, Nat.min_eq_left (by omega)]
  have l2 : ((D.L.drop (i + 1)).flatMap leC).length = (D.L.length - (i + 1)) * 3 := by rw [fl_len, List.length_drop]
  have HLe := Lib.hid (And.intro l1 l2)
  have p1 : (i : Int) + 1 ≤ (D.L.length : Int) := by omega
  have p2 : (0 : Int) ≤ (i : Int) := by omega
  have p3 : i ≤ cap := by omega
  have p4 : i + 1 ≤ cap := by omega
  have p5 : i + 1 ≤ D.L.length := by omega
  have p6 : (D.L.length : Int) ≤ (cap : Int) := by omega
  have p7 : (0 : Int) ≤ (i : Int) + 1 := by omega
  have p8 : (i : Int) ≤ (cap : Int) := by omega
  have hw : IntKind.i64.wrap ((i : Int) + 1) = (i : Int) + 1 := i64_wrap (by omega) (by omega)
  obtain ⟨s2, hs2⟩ : ∃ s2, s2 = if cap = i + 1 then Value.slice (some ⟨p, 0, none⟩) 0 0 else Value.slice (some ⟨p, (i + 1) * 3, none⟩) (D.L.length - (i + 1)) (cap - (i + 1)) := ⟨_, rfl⟩
  have HS2 := Lib.hid hs2
  clear h hv h10 ea hk hc n1 n2 l1 l2 hs2 hb h1 h3
  go_enter Try.func15, Try.ntmps15
  go_wp2_with fail
  refine HA.out.mono ?_
  rintro e w2 ⟨rfl, e2⟩
  subst e2
  go_upto_region 4 with fail
  refine wp_region_saidK 17 [11, 12, 13, 14, 15, 16, 17, 18, 19, 20, 21, 22, 23, 24, 25, 26, 27]
    [TIs (.pointer (some ⟨r, 0, none⟩)), (fun v V => ∃ q, w2.heap.size ≤ q ∧ v = .slice (some ⟨q, 0, none⟩) 0 0 ∧ V.heap[q]? = some (.cells #[] 60 (0, 0))), TIs (.pointer (some ⟨r, 0, none⟩)), TIs (.pointer (some ⟨r, 0, none⟩)), TIs (.pointer (some ⟨r, 2, none⟩)), TIs (.slice (some ⟨p, 0, none⟩) D.L.length cap), TIs (.int .i64 (i : Int)), TIs (.slice (some ⟨p, 0, none⟩) i cap), (fun v V => V.ownsRow w2.heap.size 60 3 v i ((D.L.take i).flatMap leC)), TIs (.pointer (some ⟨r, 0, none⟩)), TIs (.pointer (some ⟨r, 0, none⟩)), TIs (.pointer (some ⟨r, 2, none⟩)), TIs (.slice (some ⟨p, 0, none⟩) D.L.length cap), TIs (.int .i64 (i : Int)), TIs (.int .i64 ((i : Int) + 1)), TIs s2, (fun v V => V.ownsRow w2.heap.size 60 3 v (i + (D.L.length - (i + 1))) ((D.L.take i).flatMap leC ++ (D.L.drop (i + 1)).flatMap leC))]
    (fun V => Below w2.heap.size w2 V) (GrN w2.heap.size 60 ((D.L.take i).flatMap leC) ((D.L.drop (i + 1)).flatMap leC)) (by kernel_rfl) (by kernel_rfl) (by kernel_rfl) (by kernel_rfl) (by kernel_rfl)
    (satK_of fun S hS v V V' h hk => by
      simp only [List.mem_cons, List.not_mem_nil, or_false] at hS
      rcases hS with rfl | rfl | rfl | rfl | rfl | rfl | rfl | rfl | rfl | rfl | rfl | rfl | rfl | rfl | rfl | rfl | rfl
      all_goals first | exact h | (obtain ⟨q, q1, q2, q3⟩ := h; exact ⟨q, q1, q2, hk.lit q3⟩) | exact hk.row h (.inl rfl) | exact hk.row h (.inr rfl))
    (fun V V' h hk => hk.below h h.size (Nat.le_refl _)) (fun V => .inl (Below.refl _ V).drew) (Below.refl _ _) ?steps ?last
  case steps =>
    simp only [List.take_succ_cons, List.take_zero]
    refine ⟨?_, ?_, ?_, ?_, ?_, ?_, ?_, ?_, ?_, ?_, ?_, ?_, ?_, ?_, ?_, ?_, ?_, trivial⟩
    all_goals
      intro vs V ρ hρ hc hf hg hI hd R' hR
      have q0 := (HQ.out.below hI).cel.cell (i := 2) rfl
      rw [HV.out] at q0
      have HR := Lib.hid hR
      have HI := Lib.hid hI
      simp [depsOf, Region.binds, satK, TIs] at hd
      clear hR hI
    case refine_2 =>
      go_simp
      exact HR.out _ _ ⟨V.heap.size, HI.out.size, rfl, heap_alloc_new V _⟩ (.inl ((Below.refl _ _).alloc (Nat.le_refl _) _))
    case refine_9 =>
      obtain ⟨⟨q, q1, q2, q3⟩, hv⟩ := hd
      obtain ⟨v', w', hr, h2, h3⟩ := run_append_emptyN (P := Try.prog) V w2.heap.size 39 39 60 i0 z0 3 24 Try.underlying39 hi0 hz0 hz2 hz3 hz1 (by decide) q q3 q1 (some ⟨p, 0, none⟩) i cap ((D.L.take i).flatMap leC) HLe.out.1 (fun e => by cases e) (fun ad e j u hu => by cases e; exact HN.out.1 j u hu _ (HC.out.below HI.out)) le_one (by have := HL.out; unfold maxLen; omega) (by have := HL.out; omega)
      have e0 : ρ (.tmp 12) = .slice (some ⟨q, 0, none⟩) 0 0 := by rw [hρ]; simp [pick, q2]
      have e2 : ρ (.tmp 18) = .slice (some ⟨p, 0, none⟩) i cap := by rw [hρ]; simp [pick, hv]
      rw [if_pos (by simp [Region.wanted])]
      unfold execOp
      simp only [resolve, invoke, builtin, Sem.run_bind, Sem.run_pure, Result.andThen_ok, List.map_toArray, List.map_cons, List.map_nil, e0, e2, hr, floatUpon]
      exact HR.out _ _ h2 (.inl h3)
    case refine_16 =>
      have hs := HS2.out
      by_cases hcap : cap = i + 1
      · rw [if_pos hcap] at hs
        have hn : D.L.length = i + 1 := by omega
        rw [hs] at HR
        subst hcap
        rw [hn] at hd
        go_simp
        exact HR.out _ _ (by simp [satK, TIs]) (.inl (Below.refl _ _))
      · rw [if_neg hcap] at hs
        rw [hs] at HR
        go_simp
        exact HR.out _ _ (by simp [satK, TIs]) (.inl (Below.refl _ _))
    case refine_17 =>
      have hs := HS2.out
      have hd1 : V.ownsRow w2.heap.size 60 3 (vs 8) i ((D.L.take i).flatMap leC) := by first | exact hd.1 | exact hd.2 | exact hd.2.1 | exact hd.1.1
      have hd2 : vs 15 = s2 := by first | exact hd.2.1 | exact hd.2 | exact hd.1 | exact hd.2.2
      have hA : ∃ A c, s2 = .slice A (D.L.length - (i + 1)) c ∧ (A = none → D.L.length - (i + 1) = 0 ∧ c = 0) ∧ (∀ ad, A = some ad → ∀ j u, ((D.L.drop (i + 1)).flatMap leC)[j]? = some u → V.cell? (ad.add j) = some u) := by
        by_cases hcap : cap = i + 1
        · rw [if_pos hcap] at hs
          have hn : D.L.length = i + 1 := by omega
          refine ⟨some ⟨p, 0, none⟩, 0, by rw [hs, hn, Nat.sub_self], (fun e => by cases e), fun ad e j u hu => ?_⟩
          rw [List.drop_of_length_le (by omega)] at hu
          simp at hu
        · rw [if_neg hcap] at hs
          exact ⟨_, _, hs, (fun e => by cases e), fun ad e j u hu => by cases e; exact HN.out.2 j u hu _ (HC.out.below HI.out)⟩
      obtain ⟨A, c, hs', hA1, hA2⟩ := hA
      obtain ⟨v', w', hr, h2, h3⟩ := run_growN (P := Try.prog) (W := V) (H := w2.heap.size) (sz := 3) (bytes := 24) (n := i) (m := D.L.length - (i + 1)) (c := c) (A := A) (t := 39) (ty := 39) Try.underlying39 hi0 hz0 hz2 hz3 hz1 (by decide) hd1 HLe.out.2 hA1 hA2 le_one (by have := HL.out; unfold maxLen; omega) (by have := HL.out; omega) HI.out.size
      have e0 : ρ (.tmp 19) = vs 8 := by rw [hρ]; simp [pick]
      have e2 : ρ (.tmp 26) = .slice A (D.L.length - (i + 1)) c := by rw [hρ]; simp [pick, hd2, hs']
      rw [if_pos (by simp [Region.wanted])]
      unfold execOp
      simp only [resolve, invoke, builtin, Sem.run_bind, Sem.run_pure, Result.andThen_ok, List.map_toArray, List.map_cons, List.map_nil, e0, e2, hr, floatUpon]
      exact HR.out _ _ h2 h3
    all_goals
      go_simp
      first
        | exact HR.out _ _ (by simp [satK, TIs]) (.inl (Below.refl _ _))
        | trace_state
  case last =>
    intro vs V hI hg
    have g0 := hg 0 (by omega)
    have g16 := hg 16 (by omega)
    simp only [satK, List.getD_cons_succ, List.getD_cons_zero, TIs] at g0 g16
    simp only [List.take_succ_cons, List.take_zero, List.drop_succ_cons, List.drop_zero, putAll, Act.put, List.setIfInBounds_toArray, List.set_cons_succ, List.set_cons_zero, Nat.zero_add, Nat.reduceAdd]
    rw [g0]
    generalize vs 16 = v16 at g16 ⊢
    have hr : DRow V w2.heap.size v16 (D.L.eraseIdx i) := by
      unfold DRow
      rw [HE.out, List.length_append, List.flatMap_append]
      have e : (D.L.take i).length + (D.L.drop (i + 1)).length = i + (D.L.length - (i + 1)) := by simp; omega
      rw [e]
      exact g16
    obtain ⟨A16, c16, rfl⟩ := hr.form
    have hp := HQ.out.put hI (D' := ⟨D.long, D.many, D.L.eraseIdx i⟩) hr rfl rfl
    have s0 := (HQ.out.below hI).cel.cell (i := 2) rfl
    have sf := (HQ.out.below hI).cel.free (i := 2)
    rw [HV.out] at s0
    have HZ := Lib.hid hp
    clear g0 g16 hg hI hr hp
    go_wp2_with fail
    go_ret
    rw [HK.out]
    exact ⟨rfl, HZ.out⟩

theorem rend_any {r : Nat} {D : Tb} (h : RQ W base r v D) (h10 : D.L.length ≤ 100000) (n : Int) : Calls Try.prog 15 #[.pointer (some ⟨r, 0, none⟩), .int .i64 n] W fun e W' => e = .returned (.int .i64 (endB D n).2) ∧ RP W base r v (endB D n).1 W' := by
  by_cases hl : nu D.L n < D.L.length
  · exact rend_at h h10 n hl
  · exact rend_no h h10 n hl

end

end Ls
end Go.Proofs.Ytlhcaankfhdakaa
