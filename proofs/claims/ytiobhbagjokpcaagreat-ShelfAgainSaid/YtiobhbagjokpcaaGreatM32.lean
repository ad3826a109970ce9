/- Parts of the proof, joined: ShL14; their conditions stand with each. -/
import Derived.Test.YtiobhbagjokpcaaGreatM31

/- The landed shelf: longer, the chains of what is written; contract; no condition but the range. -/
namespace Go.Proofs.YtiobhbagjokpcaaGreat
namespace Sh
open Go.RowKit Bk Ch Lt Rc Tr

attribute [local go_sem ↓] Go.wp_at_zero Go.wp_at_succ
attribute [local go_sem] floatUpon pick

theorem Tryz.infoVs : (Tryz.prog.info? 66).map (fun i => (i.zero, i.size, i.bytes)) = some (some (.slice none 0 0), 1, 24) := by kernel_rfl

/-- a chain that lies in a row of the call's own -/
def NewK (V : World) (X : Nat) (x : KI) : Prop := V.ownsRow X 55 3 (.slice x.A x.k.l.length x.c) x.k.l.length (vrV x.k.l)

def slv (x : KI) : Value := .slice x.A x.k.l.length x.c

/-- what longer has found by the j-th write -/
structure LgSay (s : Shf) (ts : Int) (ws : List Wr) (j : Nat) (e : Int) (Q : List KI) : Prop where
  len : Q.length = j
  old : ∀ i (h : i < ws.length), i < j → ¬ ts ≤ lastT (chainK s.k ws[i].key)
  at_ : ∀ i (h : i < ws.length) (h2 : i < Q.length), Q[i].k = ⟨ws[i].key, (addP (chainK s.k ws[i].key) (vrW ts ws[i])).1⟩
  err : (e = 0 ∧ ∀ i (h : i < ws.length), i < j → (chainK s.k ws[i].key).length < 1024) ∨ (e = 2 ∧ ∃ i, ∃ h : i < ws.length, i < j ∧ 1024 ≤ (chainK s.k ws[i].key).length)

theorem LgSay.start (s : Shf) (ts : Int) (ws : List Wr) : LgSay s ts ws 0 0 [] := ⟨rfl, fun _ _ h => absurd h (by omega), fun _ _ h => absurd h (by simp), .inl ⟨rfl, fun _ _ h => absurd h (by omega)⟩⟩

theorem LgSay.next {s : Shf} {ts : Int} {ws : List Wr} {j : Nat} {e : Int} {Q : List KI} (h : LgSay s ts ws j e Q) (hj : j < ws.length) (ho : ¬ ts ≤ lastT (chainK s.k ws[j].key)) {x : KI} (hx : x.k = ⟨ws[j].key, (addP (chainK s.k ws[j].key) (vrW ts ws[j])).1⟩) {e' : Int}
    (he : (e' = e ∧ (chainK s.k ws[j].key).length < 1024) ∨ (e' = 2 ∧ 1024 ≤ (chainK s.k ws[j].key).length)) : LgSay s ts ws (j + 1) e' (Q ++ [x]) := by
  refine ⟨by rw [List.length_append, h.len]; rfl, fun i hi hij => ?_, fun i hi hq => ?_, ?_⟩
  · by_cases e1 : i = j
    · subst e1; exact ho
    · exact h.old i hi (by omega)
  · by_cases e1 : i = j
    · subst e1
      rw [List.getElem_append_right (by rw [h.len]; exact Nat.le_refl _)]
      simp only [h.len, Nat.sub_self, List.getElem_cons_zero]
      exact hx
    · have hlt : i < Q.length := by rw [List.length_append, List.length_singleton, h.len] at hq; rw [h.len]; omega
      rw [List.getElem_append_left hlt]
      exact h.at_ i hi hlt
  · rcases he with ⟨rfl, hl⟩ | ⟨rfl, hl⟩
    · rcases h.err with ⟨h0, h1⟩ | ⟨h0, i, hi, hij, h1⟩
      · refine .inl ⟨h0, fun i hi hij => ?_⟩
        by_cases e1 : i = j
        · subst e1; exact hl
        · exact h1 i hi (by omega)
      · exact .inr ⟨h0, i, hi, by omega, h1⟩
    · exact .inr ⟨rfl, j, hj, by omega, hl⟩

section
variable {W : World} {F : Nat → Prop} {g bc bp : Nat} {v : Value} {K : List KI} {P : List RI} {s : Shf}

set_option maxRecDepth 20000 in
set_option maxHeartbeats 8000000 in
theorem llonger_any (h : LAt W F g bc bp v K P s) (hs : ShOk s) {ts : Int} {ws : List Wr} (hm : MayW ts ws) (B : Option Addr) (d : Nat) (hB : WrsAt W B ws) (hl : ws.length ≤ 1024) :
    Calls Tryz.prog 63 #[.pointer (some ⟨g, 0, none⟩), .int .i64 ts, .slice B ws.length d] W fun e w' => ∃ (vv : Value) (n : Int), e = .returned (.tuple #[vv, .int .i64 n]) ∧ Below W.heap.size W w' ∧
      ((n = 110 ∧ ∃ i, ∃ h : i < ws.length, ts ≤ lastT (chainK s.k ws[i].key)) ∨
       ∃ Q, LgSay s ts ws ws.length n Q ∧ w'.ownsRow W.heap.size 66 1 vv ws.length (Q.map slv) ∧ ∀ x ∈ Q, NewK w' W.heap.size x) := by
  obtain ⟨i0, hi, hz0, hz1, hz2⟩ := info_parts Tryz.infoVs
  have HWs := Lib.hid (fun V (hb : Below W.heap.size W V) i (hi : i < ws.length) => wrs_at (hB.below hb) hi)
  have HH := Lib.hid (fun V (hb : Below W.heap.size W V) => h.below hb)
  have HM := Lib.hid hm
  have HOk := Lib.hid (fun key => hs.kok.chain key)
  have hlen : (ws.length : Int) ≤ 1024 := by omega
  have HCh := Lib.hid (fun (x : Wr) (hx : x ∈ ws) => h.chain (key := x.key) (by have := (hm.each x hx).1.2; unfold maxLen; omega))
  clear h hs hm hB hl
  go_enter Tryz.func63, Tryz.ntmps63
  go_wp2_with fail
  go_loopw [6, 7, 14] (fun uv ev iv wr => ∃ (j : Nat) (e : Int) (Q : List KI), j ≤ ws.length ∧ iv = .int .i64 (j : Int) ∧ ev = .int .i64 e ∧ Hid (LgSay s ts ws j e Q) ∧ Hid (wr.ownsRow W.heap.size 66 1 uv j (Q.map slv)) ∧ Hid (∀ x ∈ Q, NewK wr W.heap.size x) ∧ Hid (Below W.heap.size W wr)) (fun _ _ iv _ => ws.length - (RowKit.intOf iv).toNat)
  case atStart => exact ⟨0, 0, [], Nat.zero_le _, rfl, rfl, Lib.hid (LgSay.start s ts ws), Lib.hid (World.ownsRow_nil _ _ _ _), Lib.hid (fun x hx => by cases hx), Lib.hid (Below.refl _ _)⟩
  case round =>
    obtain ⟨j, e, Q, hj, rfl, rfl, hsay, hrow, hnew, hb⟩ := hrel
    by_cases hlt : j < ws.length
    · have pj : (j : Int) < (ws.length : Int) := by omega
      have hmem := List.getElem_mem hlt
      obtain ⟨ad, rfl, y0, y1, y2⟩ := HWs.out _ hb.out j hlt
      obtain ⟨x, hxl, hkv, _, hlk⟩ := HCh.out _ hmem
      have hok := HOk.out ws[j].key
      have hvr := HM.out.vr hmem
      have hadd := add_is hok hvr
      have hAd := fun V (hbv : Below W.heap.size W V) => ladd_any x.A x.c x.k.l (vrW ts ws[j]) V (hkv.row.vrs.below hbv) (by rw [hxl]; exact ok32 hok) (by rw [hxl]; exact okRng hok) ⟨by have := hvr.1; have := hvr.2.1; exact ⟨by omega, by omega⟩, by have := hvr.2.2.1; unfold reachBytes; omega⟩ hkv.nil hkv.le
      rw [hxl] at hAd hlk
      have HLk := Lib.hid (fun V (hbv : Below W.heap.size W V) => hlk V (HH.out V hbv))
      have HNx := Lib.hid (fun (ho : ¬ ts ≤ lastT (chainK s.k ws[j].key)) (x : KI) hx (e' : Int) he => hsay.out.next hlt ho (x := x) hx (e' := e') he)
      have HOld := Lib.hid (show ts ≤ lastT (chainK s.k ws[j].key) → ∃ i, ∃ h : i < ws.length, ts ≤ lastT (chainK s.k ws[i].key) from fun h => ⟨j, hlt, h⟩)
      generalize chainK s.k ws[j].key = L at hAd hadd HNx HOld HLk
      obtain ⟨R, er, hR⟩ : ∃ R er, addP L (vrW ts ws[j]) = (R, er) := ⟨_, _, rfl⟩
      rw [hR] at hAd hadd HNx
      simp only at HNx
      unfold vrW at hAd hadd
      generalize ws[j] = X at y0 y1 y2 hAd HLk HNx hadd
      obtain ⟨k, t, dd⟩ := X
      simp only at y0 y1 y2 hAd HLk HNx hadd
      generalize x.A = xA at hAd HLk
      generalize x.c = xc at hAd HLk
      have HAd : Hid (∀ V, Below W.heap.size W V → Calls Tryz.prog 98 #[.slice xA L.length xc, .agg #[.int .i64 ts, .string t, .bool dd]] V fun e' w' => ∃ u : Value, e' = .returned (.tuple #[u, .int .i64 er]) ∧ w'.ownsRow V.heap.size 55 3 u R.length (vrV R) ∧ Below V.heap.size V w') := Lib.hid hAd
      have hb5 : Below wr.heap.size wr (wr.alloc (.cells #[.string k, .string t, .bool dd] 45)) := (Below.refl _ wr).alloc (Nat.le_refl _) _
      have hV5 : Cel (wr.alloc (.cells #[.string k, .string t, .bool dd] 45)) wr.heap.size 45 [.string k, .string t, .bool dd] := (blk1 wr _).2
      have HB5 := Lib.hid (hb.out.trans (hb5.mono hb.out.size))
      have HV5 := Lib.hid hV5
      have HRw5 := Lib.hid (st_keep hrow.out hb5)
      have HNw5 := Lib.hid (show ∀ x ∈ Q, NewK (wr.alloc (.cells #[.string k, .string t, .bool dd] 45)) W.heap.size x from fun x hx => st_keep (hnew.out x hx) hb5)
      have HAdd := Lib.hid hadd
      clear hb hrow hnew hsay hmem hkv hlk hok hvr hAd hb5 hV5 hR hxl hadd
      go_upto_region 4 with fail
      generalize wr.alloc (.cells #[.string k, .string t, .bool dd] 45) = W5 at HB5 HV5 HRw5 HNw5 ⊢
      generalize wr.heap.size = vb at HV5 ⊢
      clear y0 y1 y2
      refine wp_region_said 19 [19, 20, 21, 22, 23, 24, 25, 26, 27, 28, 29, 30, 31, 32, 18, 33, 34, 10, 11]
        [.is (.pointer (some ⟨g, 0, none⟩)), .is (.pointer (some ⟨g, 0, none⟩)), .is (.pointer (some ⟨g, 0, none⟩)), .is (.map (some bc)), .is (.pointer (some ⟨vb, 0, none⟩)), .is (.string k), .is (.slice xA L.length xc), .is (.int .i64 ts), .is (.pointer (some ⟨vb, 1, none⟩)), .is (.string t), .is (.pointer (some ⟨vb, 2, none⟩)), .is (.bool dd), .is (.agg #[.int .i64 ts, .string t, .bool dd]),
          .own (fun v V => ∃ u, v = .tuple #[u, .int .i64 er] ∧ V.ownsRow W.heap.size 55 3 u R.length (vrV R)) (fun v V V' h hb => by obtain ⟨u, h1, h2⟩ := h; exact ⟨u, h1, st_keep h2 hb⟩),
          .own (fun v V => ∃ u, v = .tuple #[u, .int .i64 er] ∧ V.ownsRow W.heap.size 55 3 u R.length (vrV R)) (fun v V V' h hb => by obtain ⟨u, h1, h2⟩ := h; exact ⟨u, h1, st_keep h2 hb⟩),
          .own (fun v V => V.ownsRow W.heap.size 55 3 v R.length (vrV R)) (fun v V V' h hb => st_keep h hb), .is (.int .i64 er),
          .own (fun v V => V.ownsRow W.heap.size 55 3 v R.length (vrV R)) (fun v V V' h hb => st_keep h hb), .is (.int .i64 er)]
        (fun V => Below W.heap.size W V ∧ Cel V vb 45 [.string k, .string t, .bool dd] ∧ Below W5.heap.size W5 V) (by kernel_rfl) (by kernel_rfl) (by kernel_rfl) (by kernel_rfl) (by kernel_rfl) (fun V V' h hb => ⟨h.1.trans (hb.mono h.1.size), h.2.1.below hb, h.2.2.trans (hb.mono h.2.2.size)⟩) ⟨HB5.out, HV5.out, Below.refl _ _⟩ ?steps ?last
      case steps =>
        simp only [List.take_succ_cons, List.take_zero]
        refine ⟨?_, ?_, ?_, ?_, ?_, ?_, ?_, ?_, ?_, ?_, ?_, ?_, ?_, ?_, ?_, ?_, ?_, ?_, ?_, trivial⟩
        all_goals
          intro vs V ρ hρ hc hf hg hI hH hd R' hR
          have s0 := (HH.out _ hI.1).cel.cell (i := 0) rfl
          have l0 := HLk.out _ hI.1
          have q0 := hI.2.1.cell (i := 0) rfl
          have q1 := hI.2.1.cell (i := 1) rfl
          have q2 := hI.2.1.cell (i := 2) rfl
          have HR := Lib.hid hR
          have HI := Lib.hid hI.1
          simp [depsOf, Region.binds, sayAt, Say.holds] at hd
          clear hR hI
        case refine_14 =>
          go_simp
          refine (HAd.out V HI.out).mono ?_
          rintro e' w' ⟨u, rfl, ho, hb⟩
          exact ⟨_, rfl, HR.out _ _ ⟨_, rfl, Ch.own_base ho HI.out.size⟩ hb (by simp [sayAt, Say.isBlk])⟩
        case refine_15 =>
          go_simp
          exact HR.out _ _ hd (Below.refl _ _) (by simp [sayAt, Say.isBlk])
        case refine_16 =>
          obtain ⟨u, e2, hu⟩ := hd
          go_simp
          exact HR.out _ _ hu (Below.refl _ _) (by simp [sayAt, Say.isBlk])
        case refine_17 =>
          obtain ⟨u, e2, hu⟩ := hd
          go_simp
          exact HR.out _ _ rfl (Below.refl _ _) (by simp [sayAt, Say.isBlk])
        case refine_18 =>
          go_simp
          first | exact HR.out _ _ hd (Below.refl _ _) (by simp [sayAt, Say.isBlk]) | exact HR.out _ _ hd.1 (Below.refl _ _) (by simp [sayAt, Say.isBlk])
        all_goals
          go_simp
          exact HR.out _ _ (by simp [sayAt, Say.holds]) (Below.refl _ _) (by simp [sayAt, Say.isBlk])
      case last =>
        intro vs V hI hb hg hd
        have g17 := hg 17 (by omega)
        have g18 := hg 18 (by omega)
        simp only [sayAt, Say.holds, List.getD_cons_succ, List.getD_cons_zero] at g17 g18
        simp only [List.take_succ_cons, List.take_zero, List.drop_succ_cons, List.drop_zero, putAll, Act.put, List.setIfInBounds_toArray, List.set_cons_succ, List.set_cons_zero, Nat.zero_add, Nat.reduceAdd]
        rw [g18]
        obtain ⟨A', c', e17, _⟩ := own_rowF (F := fun _ => False) g17 (vrV_len R) (fun _ hf => hf.elim)
        rw [e17] at g17 ⊢
        have HNu5 := Lib.hid g17
        have HB6 := Lib.hid hI.1
        have HRw6 := Lib.hid (st_keep HRw5.out hI.2.2)
        have HNw6 := Lib.hid (show ∀ x ∈ Q, NewK V W.heap.size x from fun x hx => st_keep (HNw5.out x hx) hI.2.2)
        have hadd := HAdd.out
        clear g17 g18 hg hd hI hb HB5 HV5 HRw5 HNw5 e17 HAd HLk
        by_cases ho : ts ≤ lastT L
        · rw [if_pos ho] at hadd
          obtain ⟨rfl, rfl⟩ := Prod.mk.inj hadd
          have HO := Lib.hid (HOld.out ho)
          clear hadd HAdd HNx HOld ho
          go_wp2_with fail
          go_ret2
          exact ⟨_, 110, rfl, HB6.out, .inl ⟨rfl, HO.out⟩⟩
        rw [if_neg ho] at hadd
        have hb7 : Below V.heap.size V (V.alloc (.cells #[.slice A' R.length c'] 66)) := (Below.refl _ V).alloc (Nat.le_refl _) _
        have HB7 := HB6
        have HRw7 : Hid ((V.alloc (.cells #[.slice A' R.length c'] 66)).ownsRow W.heap.size 66 1 u6 j (Q.map slv)) := Lib.hid (st_keep HRw6.out hb7)
        have HNw7 : Hid (∀ x ∈ Q, NewK (V.alloc (.cells #[.slice A' R.length c'] 66)) W.heap.size x) := Lib.hid (fun x hx => st_keep (HNw6.out x hx) hb7)
        have HNu7 : Hid (NewK (V.alloc (.cells #[.slice A' R.length c'] 66)) W.heap.size ⟨⟨k, R⟩, A', c'⟩) := Lib.hid (st_keep HNu5.out hb7)
        clear HB6 HRw6 HNw6 HNu5 hb7
        by_cases hf : 1024 ≤ L.length
        · rw [if_pos hf] at hadd
          obtain ⟨e1, e2⟩ := Prod.mk.inj hadd
          subst e2
          have HF := Lib.hid hf
          clear hadd HAdd HOld e1 hf
          go_wp2_with (at_builtin; refine wpList_append_own_at _ rfl _ _ 97 rfl W.heap.size 66 i0 (.slice none 0 0) 1 24 Tryz.underlying97 hi hz0 hz1 hz2 rfl (by decide) _ _ _ rfl HRw7.out ⟨V.heap.size, 0, none⟩ 1 1 [.slice A' R.length c'] rfl rfl (cell_one_new _ _ _) (fun u hu => by rw [List.mem_singleton.1 hu]; rfl) ?d3 ?d4 ?d5 ?_)
          case d3 => unfold maxLen; omega
          case d4 => omega
          case d5 => have := HB7.out.size; simp; omega
          intro v' w5 hown' hgrow _ hat
          have HB8 := Lib.hid ((HB7.out.alloc HB7.out.size (.cells #[.slice A' R.length c'] 66)).grown hgrow (by have := HB7.out.size; simp; omega) (fun k hk => (HRw7.out.lt k hk).1))
          have HO8 : Hid (w5.ownsRow W.heap.size 66 1 v' (j + 1) ((Q ++ [(⟨⟨k, R⟩, A', c'⟩ : KI)]).map slv)) := Lib.hid (by rw [List.map_append]; exact hown')
          have HN8 : Hid (∀ x ∈ Q ++ [(⟨⟨k, R⟩, A', c'⟩ : KI)], NewK w5 W.heap.size x) := Lib.hid (fun x hx => by
            rcases List.mem_append.1 hx with hx | hx
            · exact rgrow2 (HNw7.out x hx) HRw7.out (by decide) hgrow
            · rw [List.mem_singleton.1 hx]
              exact rgrow2 HNu7.out HRw7.out (by decide) hgrow)
          have HS8 := Lib.hid (HNx.out ho ⟨⟨k, R⟩, A', c'⟩ rfl 2 (.inr ⟨rfl, HF.out⟩))
          clear hown' hgrow hat HB7 HRw7 HNw7 HNu7 ho
          go_wp2_with fail
          go_roundw
          case rel => exact ⟨j + 1, 2, Q ++ [⟨⟨k, R⟩, A', c'⟩], by omega, by go_num, rfl, HS8, HO8, HN8, HB8⟩
          case measure => simp [RowKit.intOf]; omega
        · rw [if_neg hf] at hadd
          obtain ⟨e1, e2⟩ := Prod.mk.inj hadd
          subst e2
          have HF := Lib.hid (show L.length < 1024 by omega)
          clear hadd HAdd HOld e1 hf
          go_wp2_with (at_builtin; refine wpList_append_own_at _ rfl _ _ 97 rfl W.heap.size 66 i0 (.slice none 0 0) 1 24 Tryz.underlying97 hi hz0 hz1 hz2 rfl (by decide) _ _ _ rfl HRw7.out ⟨V.heap.size, 0, none⟩ 1 1 [.slice A' R.length c'] rfl rfl (cell_one_new _ _ _) (fun u hu => by rw [List.mem_singleton.1 hu]; rfl) ?d3 ?d4 ?d5 ?_)
          case d3 => unfold maxLen; omega
          case d4 => omega
          case d5 => have := HB7.out.size; simp; omega
          intro v' w5 hown' hgrow _ hat
          have HB8 := Lib.hid ((HB7.out.alloc HB7.out.size (.cells #[.slice A' R.length c'] 66)).grown hgrow (by have := HB7.out.size; simp; omega) (fun k hk => (HRw7.out.lt k hk).1))
          have HO8 : Hid (w5.ownsRow W.heap.size 66 1 v' (j + 1) ((Q ++ [(⟨⟨k, R⟩, A', c'⟩ : KI)]).map slv)) := Lib.hid (by rw [List.map_append]; exact hown')
          have HN8 : Hid (∀ x ∈ Q ++ [(⟨⟨k, R⟩, A', c'⟩ : KI)], NewK w5 W.heap.size x) := Lib.hid (fun x hx => by
            rcases List.mem_append.1 hx with hx | hx
            · exact rgrow2 (HNw7.out x hx) HRw7.out (by decide) hgrow
            · rw [List.mem_singleton.1 hx]
              exact rgrow2 HNu7.out HRw7.out (by decide) hgrow)
          have HS8 := Lib.hid (HNx.out ho ⟨⟨k, R⟩, A', c'⟩ rfl e (.inl ⟨rfl, HF.out⟩))
          clear hown' hgrow hat HB7 HRw7 HNw7 HNu7 ho
          go_wp2_with fail
          go_roundw
          case rel => exact ⟨j + 1, e, Q ++ [⟨⟨k, R⟩, A', c'⟩], by omega, by go_num, rfl, HS8, HO8, HN8, HB8⟩
          case measure => simp [RowKit.intOf]; omega
    · obtain rfl : j = ws.length := by omega
      have HB := hb
      clear hb
      go_wp2_with fail
      go_ret2
      exact ⟨_, e, rfl, HB.out, .inr ⟨Q, hsay.out, hrow.out, hnew.out⟩⟩

end

end Sh
end Go.Proofs.YtiobhbagjokpcaaGreat
