/- A landed log's Append, and its Texts; contracts; no condition but the range. -/
import Derived.Test.YtjehjbkcdpidbaaGreatRlClone
import Derived.Test.YtjehjbkcdpidbaaGreatB5
namespace Go.Proofs.YtjehjbkcdpidbaaGreat
namespace Rd
open Go.RowKit Sc Bk

attribute [local go_sem ↓] Go.wp_at_zero Go.wp_at_succ
attribute [local go_sem] floatUpon pick

section
variable {Rep : RepT} {w : World} {F : Nat → Prop} {p g c a n m mn : Nat} {A B : Value} {l : Lg} {D : Dev}

theorem rows_far {W : World} {e e' : TypeId} {H H' k k' : Nat} {v u : Value} {xs ys : List Value} (h : W.ownsRow H e 1 v k xs) (h' : W.ownsRow H' e' 1 u k' ys) (hn : e ≠ e') : ∀ j, v.ownBlock = some j → u.ownBlock ≠ some j := fun j hj hu => by
  rcases h with ⟨_, ⟨hz, _⟩ | ⟨i, cap, cur, hv, hb, hg, rest⟩⟩
  · rw [hz] at hj; cases hj
  · rcases h' with ⟨_, ⟨hz, _⟩ | ⟨i', cap', cur', hv', hb', hg', rest'⟩⟩
    · rw [hz] at hu; cases hu
    · rw [hv] at hj; cases hj
      rw [hv'] at hu; cases hu
      rw [hg] at hg'
      simp only [Option.some.injEq, Obj.cells.injEq] at hg'
      exact hn hg'.2.1

set_option maxRecDepth 20000 in
theorem ltexts_any (hL : LL w p g A B l) (h16 : l.ts.length * 16 ≤ 140737488351232) (hs : ∀ s ∈ l.ts, s.size ≤ 140737488351232) :
    Calls Tryz.prog 19 #[.pointer (some ⟨p, 0, none⟩)] w fun e w' => ∃ v, e = .returned v ∧ w'.ownsRow w.heap.size 9 1 v l.ts.length (strV l.ts) ∧ Below w.heap.size w w' := by
  have k4 := hL.cel.cell (i := 4) rfl
  obtain ⟨X, cX, rfl, hXs, -, hXn⟩ : ∃ (X : Option Addr) (cX : Nat), A = .slice X l.ts.length cX ∧ StrsAt w X l.ts ∧ (∀ x, X = some x → 0 ≤ x.block) ∧ (X = none → cX = 0) := strs_own_new hL.txt rfl
  have HC := Lib.hid (cloned_any X cX l.ts w hXs hXn h16 hs)
  clear hL hXs hXn hs
  go_enter Tryz.func19, Tryz.ntmps19
  go_wp2_with fail
  refine HC.out.mono ?_
  rintro e w2 ⟨v, rfl, ho, hb⟩
  have HO := Lib.hid (And.intro ho hb)
  clear ho hb HC
  go_wp2_with fail
  go_ret
  exact ⟨v, rfl, HO.out.1, HO.out.2⟩

theorem str_cells (s : ByteArray) : Go.Lib.strCells s = Lib.byteCells s.data.toList := by
  unfold Go.Lib.strCells Lib.byteCells; rfl

theorem fr_grow {F G : Nat → Prop} {w W W' : World} {r : Option Nat} (h : Fr F G w W) (hg : W.grownBy W' r) (hr : ∀ j, r = some j → F j ∨ w.heap.size ≤ j) : Fr F G w W' :=
  ⟨hg.os.trans h.os, hg.tape.trans h.tape, hg.output.trans h.output, Nat.le_trans h.size hg.size, fun i hi hn => (hg.block i (Nat.lt_of_lt_of_le hi h.size) (fun e => (hr i e.symm).elim hn (fun hs => by omega))).trans (h.block i hi hn), h.foot⟩

theorem fr_foot {F G G' : Nat → Prop} {w W : World} (h : Fr F G w W) (hs : ∀ k, G' k → F k ∨ w.heap.size ≤ k) : Fr F G' w W := ⟨h.os, h.tape, h.output, h.size, h.block, hs⟩

set_option maxRecDepth 20000 in
set_option maxHeartbeats 8000000 in
theorem append_any (H : DevQ Rep) (hr : Rep w F g D) (hL : LL w p g A B l) (hd : ∀ k, LFt p A B k → ¬ F k) (hi : LgIn D l) (t : ByteArray) (ht : t.size ≤ reachBytes) :
    Calls Tryz.prog 14 #[.pointer (some ⟨p, 0, none⟩), .string t] w (LPost Rep w F p g A B (D, appendP D l t)) := by
  have hlo := hi.ok
  have hrb : reachBytes = 140737488351232 := rfl
  have HFr := Lib.hid (Su.frame_any t w (by omega))
  have HE : Hid (Rep w F g D ∧ LL w p g A B l) := Lib.hid ⟨hr, hL⟩
  by_cases h4 : 4096 < t.size
  · have hap : appendP D l t = (l, 2) := by unfold appendP; rw [if_pos h4]
    rw [hap]
    rw [frameV_err h4] at HFr
    clear hr hL hap
    generalize hPst : LPost Rep w F p g A B (D, l, 2) = Pst
    have HPst := Lib.hid hPst
    clear hPst
    go_enter Tryz.func14, Tryz.ntmps14
    go_wp2_with fail
    refine HFr.out.mono ?_
    rintro e w2 ⟨rfl, hb⟩
    have HB2 := Lib.hid hb
    clear hb HFr
    go_wp2_with fail
    rw [← HPst.out]
    exact ⟨rfl, F, A, B, H.step HE.out.1 HB2.out, HE.out.2.step HB2.out, hd, fr_refl_below HB2.out⟩
  rw [frameV_ok h4] at HFr
  have hfz : (Su.frameB t).size = t.size + 6 := Su.frameB_size t
  have HRm := Lib.hid (fun W (hb : Below w.heap.size w W) => room_any H (H.step hr hb) (hL.step hb) hlo)
  have hrmM : roomN D l ≤ 65536 := by have := (H.ok hr).max; unfold roomN areaN; omega
  by_cases hrm : roomN D l < t.size + 6
  · have hap : appendP D l t = (l, 100) := by unfold appendP; rw [if_neg h4, if_pos hrm]
    rw [hap]
    have pf : (roomN D l : Int) < ((Su.frameB t).size : Int) := by rw [hfz]; omega
    generalize Su.frameB t = ft at HFr pf
    generalize roomN D l = rm at HRm pf
    clear hr hL hap hfz hrm
    generalize hPst : LPost Rep w F p g A B (D, l, 100) = Pst
    have HPst := Lib.hid hPst
    clear hPst
    go_enter Tryz.func14, Tryz.ntmps14
    go_wp2_with fail
    refine HFr.out.mono ?_
    rintro e w2 ⟨rfl, hb⟩
    have HB2 := Lib.hid hb
    clear hb HFr
    go_wp2_with fail
    refine (HRm.out w2 HB2.out).mono ?_
    rintro e w3 ⟨rfl, hb⟩
    have HB3 := Lib.hid (HB2.out.trans (hb.mono HB2.out.size))
    clear hb HRm
    go_wp2_with fail
    rw [← HPst.out]
    exact ⟨rfl, F, A, B, H.step HE.out.1 HB3.out, HE.out.2.step HB3.out, hd, fr_refl_below HB3.out⟩
  have hap : appendP D l t = (⟨l.cnt, l.ar, l.bs, l.ts ++ [t], l.mn⟩, 0) := by unfold appendP; rw [if_neg h4, if_neg hrm]
  rw [hap]
  have pf : ((Su.frameB t).size : Int) ≤ (roomN D l : Int) := by rw [hfz]; omega
  have hfd : (Su.frameB t).data.toList = Su.frameL t.data.toList := by unfold Su.frameB; simp
  have hws : waitL ⟨l.cnt, l.ar, l.bs, l.ts ++ [t], l.mn⟩ = waitL l ++ (Su.frameB t).data.toList := by rw [wait_snoc hlo.mn, hfd]
  have HWs := Lib.hid hws
  have hmy := hlo.many
  have hwz : (waitL l).length ≤ 65536 := by have := hlo.room; have := (H.ok hr).max; unfold areaN at *; omega
  have hfm : (Su.frameB t).size ≤ 5000 := by omega
  have HCl := Lib.hid (fun W => clone_any t W (by omega))
  obtain ⟨XA, cA, hXA, hcA⟩ := own_form2 hL.txt
  obtain ⟨XB, cB, hXB, hcB⟩ := own_form2 hL.wt
  obtain ⟨i0, hI0, hz0, hz1, hz2⟩ := info_parts Tryz.infoStr
  obtain ⟨i1, hI1, hy0, hy1, hy2⟩ := info_parts Tryz.infoU8
  generalize Su.frameB t = ft at HFr pf HWs hfm
  generalize roomN D l = rm at HRm pf
  clear hr hL hap hfz hrm hws hfd hrmM hcA hcB
  generalize hPst : LPost Rep w F p g A B (D, ⟨l.cnt, l.ar, l.bs, l.ts ++ [t], l.mn⟩, 0) = Pst
  have HPst := Lib.hid hPst
  clear hPst
  go_enter Tryz.func14, Tryz.ntmps14
  go_wp2_with fail
  refine HFr.out.mono ?_
  rintro e w2 ⟨rfl, hb⟩
  have HB2 := Lib.hid hb
  clear hb HFr
  go_wp2_with fail
  refine (HRm.out w2 HB2.out).mono ?_
  rintro e w3 ⟨rfl, hb⟩
  have HB3 := Lib.hid (HB2.out.trans (hb.mono HB2.out.size))
  clear hb HRm
  have HL3 := Lib.hid (HE.out.2.step HB3.out)
  have HR3 := Lib.hid (H.step HE.out.1 HB3.out)
  go_upto_region 6 with fail
  have hpre : (strV l.ts).length = l.ts.length := strV_len _
  have HPre := Lib.hid hpre
  have HXA := Lib.hid hXA
  have HXB := Lib.hid hXB
  generalize hbs : w3.heap.size = bs
  have HBs := Lib.hid hbs
  clear hbs hpre hXA hXB
  refine wp_region_saidK 11 [20, 21, 22, 23, 24, 25, 26, 27, 28, 29, 30]
    [TIs (.pointer (some ⟨p, 0, none⟩)), TIs (.pointer (some ⟨p, 0, none⟩)), TIs (.pointer (some ⟨p, 0, none⟩)), TIs (.pointer (some ⟨p, 4, none⟩)), TIs (.slice XA l.ts.length cA), TIs (.string t), TIs (.string t), TArr 9 A.ownBlock (.string t), TRow 9 0 bs A.ownBlock (l.ts.length + 1) (strV l.ts ++ [.string t]), TIs (.pointer (some ⟨p, 0, none⟩)), TIs (.pointer (some ⟨p, 4, none⟩))]
    (fun W => Rep W F g D ∧ LL W p g A B l ∧ bs ≤ W.heap.size ∧ w3.grownBy W A.ownBlock) (GrK 9 A.ownBlock (strV l.ts) (.string t)) (by kernel_rfl) (by kernel_rfl) (by kernel_rfl) (by kernel_rfl) (by kernel_rfl)
    (satK_of fun S hS v W W' h hk => by
      simp only [List.mem_cons, List.not_mem_nil, or_false] at hS
      rcases hS with rfl | rfl | rfl | rfl | rfl | rfl | rfl | rfl | rfl | rfl | rfl
      · exact h
      · exact h
      · exact h
      · exact h
      · exact h
      · exact h
      · exact h
      · obtain ⟨o, h1, h2, h3⟩ := h
        exact ⟨o, h1, GrK.blk h2 h3 hk, h3⟩
      · exact ⟨GrK.more h.1 hk, h.2⟩
      · exact h
      · exact h)
    (fun W W' h hk => ⟨H.kept h.1 fun j hj => hk.grown.block j (H.lt h.1 j hj) (fun e => hd j (.inr (.inl e.symm)) hj), ⟨GrK.cel h.2.1.cel h.2.1.dA hk, by have := h.2.1.txt; rw [← HPre.out] at this ⊢; exact GrK.first this hk, own_kept h.2.1.wt fun j hj => hk.grown.block j (own_lt h.2.1.wt j hj) (fun e => rows_far h.2.1.wt h.2.1.txt (by decide) j hj e.symm)⟩, Nat.le_trans h.2.2.1 hk.size, h.2.2.2.trans hk.grown⟩) (fun W => .inl (Below.refl _ W).drew) ⟨HR3.out, HL3.out, Nat.le_of_eq HBs.out.symm, ⟨rfl, rfl, rfl, Nat.le_refl _, fun _ _ _ => rfl⟩⟩ ?steps7 ?last7
  case steps7 =>
    simp only [List.take_succ_cons, List.take_zero]
    refine ⟨?_, ?_, ?_, ?_, ?_, ?_, ?_, ?_, ?_, ?_, ?_, trivial⟩
    all_goals
      intro vs W ρ hρ hc hf hg hI hd' R' hR
      have z4 := hI.2.1.cel.cell (i := 4) rfl
      rw [HXA.out] at z4
      have HR := Lib.hid hR
      have HI := Lib.hid hI
      simp [depsOf, Region.binds, satK, TIs] at hd'
      clear hR hI
    case refine_8 =>
      go_simp
      refine HR.out _ _ ⟨W.heap.size, rfl, heap_alloc_new W _, fun e => ?_⟩ (.inl ((Below.refl _ _).alloc (Nat.le_refl _) _))
      have := own_lt HI.out.2.1.txt _ e
      omega
    case refine_9 =>
      obtain ⟨hd1, ⟨o, hd2, hd3, hd4⟩, hd5⟩ := hd'
      have hr0 := HI.out.2.1.txt
      have hpre := HPre.out
      rw [← hpre] at hr0
      obtain ⟨v', w', hrun, h2, h3, h4⟩ := run_grow1 (P := Tryz.prog) (bytes := 16) (t := 37) (ty := 37) Tryz.underlying37 hI0 hz0 hz1 hz2 rfl hr0 rfl hd3 rfl (by rw [hpre]; unfold maxLen; omega) (by rw [hpre]; omega) (Nat.zero_le _)
      have e0 : ρ (.tmp 24) = A := by rw [hρ, HXA.out]; simp [pick, hd1]
      have e2 : ρ (.tmp 27) = .slice (some ⟨o, 0, none⟩) 1 1 := by rw [hρ]; simp [pick, hd2]
      rw [if_pos (by simp [Region.wanted])]
      unfold execOp
      simp only [resolve, invoke, builtin, Sem.run_bind, Sem.run_pure, Result.andThen_ok, List.map_toArray, List.map_cons, List.map_nil, e0, e2, hrun, floatUpon]
      refine HR.out _ _ ⟨by rw [hpre] at h2; exact h2, ?_⟩ h3
      rcases h4 with h | h
      · exact .inl h
      · exact .inr ⟨_, h, HI.out.2.2.1⟩
    all_goals
      go_simp
      first
        | exact HR.out _ _ (by simp [satK, TIs]) (.inl (Below.refl _ _))
        | (refine (HCl.out _).mono ?_; rintro e w' ⟨rfl, hb⟩; exact ⟨_, rfl, HR.out _ _ (by simp [satK, TIs]) (.inl hb)⟩)
        | trace_state
  case last7 =>
    intro vs W hI hg
    have e10 := hg 10 (by omega)
    have e8 := hg 8 (by omega)
    simp only [satK, TIs, List.getD_cons_succ, List.getD_cons_zero] at e10 e8
    simp only [List.take_succ_cons, List.take_zero, List.drop_succ_cons, List.drop_zero, putAll, Act.put, List.setIfInBounds_toArray, List.set_cons_succ, List.set_cons_zero, Nat.zero_add, Nat.reduceAdd]
    obtain ⟨hown', hat⟩ := e8
    rw [e10]
    obtain ⟨hI1, hI2, hI3, hI4⟩ := hI
    obtain ⟨v8, hv8⟩ : ∃ v8, v8 = vs 8 := ⟨_, rfl⟩
    rw [← hv8] at hown' hat ⊢
    have hn8 : v8.ownBlock ≠ some p := own_far hown' hI2.cel (by decide)
    obtain ⟨X8, c8, hX8, -⟩ := own_form2 hown'
    have zq := fun i => Cel.free hI2.cel (i := i)
    have z4 := hI2.cel.cell (i := 4) rfl
    have hst : strV (l.ts ++ [t]) = strV l.ts ++ [.string t] := Su.strV_snoc l.ts t
    rw [← hst] at hown'
    have hlen : (l.ts ++ [t]).length = l.ts.length + 1 := by rw [List.length_append]; rfl
    have hset : ∀ v, Fr (fun k => k = p) (fun k => k = p) W (W.setCell ⟨p, 4, none⟩ v) := fun v => (Fr.refl (fun k => k = p) W).set (p := ⟨p, 4, none⟩) rfl v
    have HC2 : Hid (LC (W.setCell ⟨p, 4, none⟩ v8) p g l.cnt l.ar l.bs.length v8 l.mn B) := Lib.hid (hI2.cel.set (i := 4) (v := v8))
    have HT2 : Hid ((W.setCell ⟨p, 4, none⟩ v8).ownsRow 0 9 1 v8 (l.ts ++ [t]).length (strV (l.ts ++ [t]))) := Lib.hid (by
      rw [hlen]
      exact own_kept hown' fun j hj => (hset v8).block j (own_lt hown' j hj) (fun e => hn8 (e ▸ hj)))
    have HW2 : Hid ((W.setCell ⟨p, 4, none⟩ v8).ownsRow 0 5 1 B (waitL l).length (Lib.byteCells (waitL l))) := Lib.hid (own_kept hI2.wt fun j hj => (hset v8).block j (own_lt hI2.wt j hj) (fun e => hI2.dB (e ▸ hj)))
    have HR2 : Hid (Rep (W.setCell ⟨p, 4, none⟩ v8) F g D) := Lib.hid (H.kept hI1 fun j hj => (hset v8).block j (H.lt hI1 j hj) (fun e => hd p (.inl rfl) (e ▸ hj)))
    have hf1 : Fr (LFt p A B) (LFt p A B) w W := fr_grow (fr_refl_below HB3.out) hI4 (fun j e => .inl (.inr (.inl e)))
    have hf2 : Fr (LFt p A B) (LFt p v8 B) w (W.setCell ⟨p, 4, none⟩ v8) := fr_foot (hf1.set (p := ⟨p, 4, none⟩) (.inl rfl) v8) (fun k hk => by
      rcases hk with e | e | e
      · exact .inl (.inl e)
      · rcases hat with h | ⟨q, h, hq⟩
        · exact .inl (.inr (.inl (h ▸ e)))
        · rw [h] at e
          obtain rfl := Option.some.inj e
          have h1 := HBs.out
          have h2 := HB3.out.size
          exact .inr (by omega)
      · exact .inl (.inr (.inr e)))
    have HF2 := Lib.hid hf2
    clear hset hf1 hf2 hown' hat hI1 hI2 hI3 hI4 hst hlen hn8 hv8 hg e10
    rw [hX8] at HC2 HT2 HR2 HF2 HW2 ⊢
    clear hX8
    go_upto_region 7 with fail
    obtain ⟨u8, hu8⟩ : ∃ u, u = Value.slice X8 (l.ts.length + 1) c8 := ⟨_, rfl⟩
    rw [← hu8] at HC2 HT2 HW2 HR2 HF2 ⊢
    clear hu8 zq z4
    generalize W.setCell ⟨p, 4, none⟩ u8 = W2 at HC2 HT2 HW2 HR2 HF2 ⊢
    have y6 := HC2.out.cell (i := 6) rfl
    rw [HXB.out] at y6
    have hw2 := HW2.out
    rw [HXB.out] at hw2
    have HW3 := Lib.hid hw2
    clear hw2
    have hwl : (waitL l).length + ft.size ≤ 140737488355328 := by omega
    go_wp2_with (at_builtin; refine wpList_append_string_at rfl _ _ 82 9 rfl 0 5 i1 Tryz.underlying82 Tryz.underlying9 hI1 hy0 hy1 hy2 (.slice XB (waitL l).length cB) (waitL l).length (Lib.byteCells (waitL l)) rfl HW3.out ft rfl (by unfold maxLen; omega) hwl (Nat.zero_le _) ?_)
    intro v9 w9 hown9 hgrow9 hat9
    have hB2 := HW2.out
    have hXo : Value.ownBlock (.slice XB (waitL l).length cB) = B.ownBlock := by rw [HXB.out]
    rw [hXo] at hgrow9 hat9
    have hbp : B.ownBlock ≠ some p := own_far hB2 HC2.out (by decide)
    have hC9 : LC w9 p g l.cnt l.ar l.bs.length u8 l.mn B := (hgrow9.block p HC2.out.lt (fun e => hbp e.symm)).trans HC2.out
    have hn9 : v9.ownBlock ≠ some p := own_far hown9 hC9 (by decide)
    obtain ⟨X9, c9, hX9, -⟩ := own_form2 hown9
    have HC9 := Lib.hid hC9
    have zq := fun i => Cel.free hC9 (i := i)
    have z6 := hC9.cell (i := 6) rfl
    rw [HXB.out] at z6
    have HO9 := Lib.hid hown9
    have HG9 := Lib.hid hgrow9
    have HA9 := Lib.hid hat9
    clear hC9 hown9 hgrow9 hat9 hXo y6 HW3 hB2
    rw [hX9] at hn9 HO9 HA9 ⊢
    go_wp2_with fail
    rw [← HPst.out]
    have hset : ∀ v, Fr (fun k => k = p) (fun k => k = p) w9 (w9.setCell ⟨p, 6, none⟩ v) := fun v => (Fr.refl (fun k => k = p) w9).set (p := ⟨p, 6, none⟩) rfl v
    have hT9 : w9.ownsRow 0 9 1 u8 (l.ts ++ [t]).length (strV (l.ts ++ [t])) := own_kept HT2.out fun j hj => HG9.out.block j (own_lt HT2.out j hj) (fun e => rows_far HT2.out HW2.out (by decide) j hj e.symm)
    have hu8p : u8.ownBlock ≠ some p := own_far HT2.out HC2.out (by decide)
    have hR9 : Rep w9 F g D := H.kept HR2.out fun j hj => HG9.out.block j (H.lt HR2.out j hj) (fun e => hd j (.inr (.inr e.symm)) hj)
    have hf3 : Fr (LFt p A B) (LFt p u8 B) w w9 := fr_grow HF2.out HG9.out (fun j e => .inl (.inr (.inr e)))
    have hcells : Lib.byteCells (waitL l) ++ Go.Lib.strCells ft = Lib.byteCells (waitL l ++ ft.data.toList) := by
      rw [str_cells]; unfold Lib.byteCells; rw [List.map_append]
    have hwlen : (waitL l ++ ft.data.toList).length = (waitL l).length + ft.size := by
      rw [List.length_append]
      have : ft.data.toList.length = ft.size := Array.length_toList
      omega
    have hff : Fr (LFt p A B) (LFt p u8 (.slice X9 ((waitL l).length + ft.size) c9)) w (w9.setCell ⟨p, 6, none⟩ (.slice X9 ((waitL l).length + ft.size) c9)) := fr_foot (hf3.set (p := ⟨p, 6, none⟩) (.inl rfl) _) (fun k hk => by
      rcases hk with e | e | e
      · exact .inl (.inl e)
      · exact HF2.out.foot k (.inr (.inl e))
      · rcases HA9.out with h | h
        · exact .inl (.inr (.inr (h ▸ e)))
        · rw [h] at e
          obtain rfl := Option.some.inj e
          exact .inr HF2.out.size)
    have hFlt := H.lt HE.out.1
    refine ⟨rfl, F, u8, .slice X9 ((waitL l).length + ft.size) c9, H.kept hR9 fun j hj => (hset _).block j (H.lt hR9 j hj) (fun e => hd p (.inl rfl) (e ▸ hj)), ⟨HC9.out.set (i := 6) (v := .slice X9 ((waitL l).length + ft.size) c9), own_kept hT9 fun j hj => (hset _).block j (own_lt hT9 j hj) (fun e => hu8p (e ▸ hj)), ?_⟩, ?_, ?_⟩
    · have h9 := HO9.out
      rw [hcells, ← HWs.out] at h9
      have h10 : (waitL l).length + ft.size = (waitL ⟨l.cnt, l.ar, l.bs, l.ts ++ [t], l.mn⟩).length := by rw [HWs.out, hwlen]
      show World.ownsRow _ 0 5 1 _ (waitL ⟨l.cnt, l.ar, l.bs, l.ts ++ [t], l.mn⟩).length (Lib.byteCells (waitL ⟨l.cnt, l.ar, l.bs, l.ts ++ [t], l.mn⟩))
      rw [← h10]
      exact own_kept h9 fun j hj => (hset _).block j (own_lt h9 j hj) (fun e => hn9 (e ▸ hj))
    · exact fun k hk hf => (hff.foot k hk).elim (fun hq => hd k hq hf) (fun hs => by have := hFlt k hf; omega)
    · exact ⟨hff.os, hff.tape, hff.output, hff.size, fun i hi hn => hff.block i hi (fun hq => hn (.inr hq)), fun k hk => hk.elim (fun hf => .inl (.inl hf)) (fun hq => (hff.foot k hq).elim (fun h => .inl (.inr h)) .inr)⟩

end

end Rd
end Go.Proofs.YtjehjbkcdpidbaaGreat
