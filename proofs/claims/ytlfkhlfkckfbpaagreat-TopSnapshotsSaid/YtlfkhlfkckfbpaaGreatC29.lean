/- Parts of the proof, joined: ShL14, ShL15, ShL16, ShL17, ShL18, ShL19, ShL20; their conditions stand with each. -/
import Derived.Test.YtlfkhlfkckfbpaaGreatC8
import Derived.Test.YtlfkhlfkckfbpaaGreatC28

set_option maxRecDepth 20000
set_option maxHeartbeats 8000000
namespace Go.Proofs.YtlfkhlfkckfbpaaGreat
namespace Sh
open Go.RowKit Bk Ch Lt Rc Tr
attribute [local go_sem ↓] Go.wp_at_zero Go.wp_at_succ
attribute [local go_sem] floatUpon pick
theorem Tryz.infoVs : (Tryz.prog.info? 35).map (fun i => (i.zero, i.size, i.bytes)) = some (some (.slice none 0 0), 1, 24) := by kernel_rfl
def NewK (V : World) (X : Nat) (x : KI) : Prop := V.ownsRow X 43 3 (.slice x.A x.k.l.length x.c) x.k.l.length (vrV x.k.l)
def slv (x : KI) : Value := .slice x.A x.k.l.length x.c
structure LgSay (s : Shf) (ts : Int) (ws : List Wr) (j : Nat) (e : Int) (Q : List KI) : Prop where
  len : Q.length = j
  old : ∀ i (h : i < ws.length), i < j → ¬ ts ≤ lastT (chainK s.k ws[i].key)
  at_ : ∀ i (h : i < ws.length) (h2 : i < Q.length), Q[i].k = ⟨ws[i].key, (addP (chainK s.k ws[i].key) (vrW ts ws[i])).1⟩
  err : (e = 0 ∧ ∀ i (h : i < ws.length), i < j → (chainK s.k ws[i].key).length < 1024) ∨ (e = 2 ∧ ∃ i, ∃ h : i < ws.length, i < j ∧ 1024 ≤ (chainK s.k ws[i].key).length)
theorem LgSay.start (s : Shf) (ts : Int) (ws : List Wr) : LgSay s ts ws 0 0 [] := ⟨rfl, fun _ _ h => absurd h (by omega), fun _ _ h => absurd h (by simp), .inl ⟨rfl, fun _ _ h => absurd h (by omega)⟩⟩
theorem LgSay.next {s : Shf} {ts : Int} {ws : List Wr} {j : Nat} {e : Int} {Q : List KI} (h : LgSay s ts ws j e Q) (hj : j < ws.length) (ho : ¬ ts ≤ lastT (chainK s.k ws[j].key)) {x : KI} (hx : x.k = ⟨ws[j].key, (addP (chainK s.k ws[j].key) (vrW ts ws[j])).1⟩) {e' : Int}
    (he : (e' = e ∧ (chainK s.k ws[j].key).length < 1024) ∨ (e' = 2 ∧ 1024 ≤ (chainK s.k ws[j].key).length)) : LgSay s ts ws (j + 1) e' (Q ++ [x]) := by
  refine ⟨by rw [List.length_append, h.len]; rfl, fun i hi hij => ?_, fun i hi hq => ?_, ?_⟩
  · by_cases e1 : i = j
    · subst e1; exact ho
    · exact h.old i hi (by omega)
  · by_cases e1 : i = j
    · subst e1
      rw [List.getElem_append_right (by rw [h.len]; exact Nat.le_refl _)]
      simp only [h.len, Nat.sub_self, List.getElem_cons_zero]
      exact hx
    · have hlt : i < Q.length := by rw [List.length_append, List.length_singleton, h.len] at hq; rw [h.len]; omega
      rw [List.getElem_append_left hlt]
      exact h.at_ i hi hlt
  · rcases he with ⟨rfl, hl⟩ | ⟨rfl, hl⟩
    · rcases h.err with ⟨h0, h1⟩ | ⟨h0, i, hi, hij, h1⟩
      · refine .inl ⟨h0, fun i hi hij => ?_⟩
        by_cases e1 : i = j
        · subst e1; exact hl
        · exact h1 i hi (by omega)
      · exact .inr ⟨h0, i, hi, by omega, h1⟩
    · exact .inr ⟨rfl, j, hj, by omega, hl⟩
section
variable {W : World} {F : Nat → Prop} {g bc bp : Nat} {v : Value} {K : List KI} {P : List RI} {s : Shf}
theorem llonger_any (h : LAt W F g bc bp v K P s) (hs : ShOk s) {ts : Int} {ws : List Wr} (hm : MayW ts ws) (B : Option Addr) (d : Nat) (hB : WrsAt W B ws) (hl : ws.length ≤ 1024) :
    Calls Tryz.prog 102 #[.pointer (some ⟨g, 0, none⟩), .int .i64 ts, .slice B ws.length d] W fun e w' => ∃ (vv : Value) (n : Int), e = .returned (.tuple #[vv, .int .i64 n]) ∧ Below W.heap.size W w' ∧
      ((n = 110 ∧ ∃ i, ∃ h : i < ws.length, ts ≤ lastT (chainK s.k ws[i].key)) ∨
       ∃ Q, LgSay s ts ws ws.length n Q ∧ w'.ownsRow W.heap.size 35 1 vv ws.length (Q.map slv) ∧ ∀ x ∈ Q, NewK w' W.heap.size x) := by
  obtain ⟨i0, hi, hz0, hz1, hz2⟩ := info_parts Tryz.infoVs
  have HWs := Lib.hid (fun V (hb : Below W.heap.size W V) i (hi : i < ws.length) => wrs_at (hB.below hb) hi)
  have HH := Lib.hid (fun V (hb : Below W.heap.size W V) => h.below hb)
  have HM := Lib.hid hm
  have HOk := Lib.hid (fun key => hs.kok.chain key)
  have hlen : (ws.length : Int) ≤ 1024 := by omega
  have HCh := Lib.hid (fun (x : Wr) (hx : x ∈ ws) => h.chain (key := x.key) (by have := (hm.each x hx).1.2; unfold maxLen; omega))
  clear h hs hm hB hl
  go_enter Tryz.func102, Tryz.ntmps102
  go_wp2_with fail
  go_loopw [6, 7, 14] (fun uv ev iv wr => ∃ (j : Nat) (e : Int) (Q : List KI), j ≤ ws.length ∧ iv = .int .i64 (j : Int) ∧ ev = .int .i64 e ∧ Hid (LgSay s ts ws j e Q) ∧ Hid (wr.ownsRow W.heap.size 35 1 uv j (Q.map slv)) ∧ Hid (∀ x ∈ Q, NewK wr W.heap.size x) ∧ Hid (Below W.heap.size W wr)) (fun _ _ iv _ => ws.length - (RowKit.intOf iv).toNat)
  case atStart => exact ⟨0, 0, [], Nat.zero_le _, rfl, rfl, Lib.hid (LgSay.start s ts ws), Lib.hid (World.ownsRow_nil _ _ _ _), Lib.hid (fun x hx => by cases hx), Lib.hid (Below.refl _ _)⟩
  case round =>
    obtain ⟨j, e, Q, hj, rfl, rfl, hsay, hrow, hnew, hb⟩ := hrel
    by_cases hlt : j < ws.length
    · have pj : (j : Int) < (ws.length : Int) := by omega
      have hmem := List.getElem_mem hlt
      obtain ⟨ad, rfl, y0, y1, y2⟩ := HWs.out _ hb.out j hlt
      obtain ⟨x, hxl, hkv, _, hlk⟩ := HCh.out _ hmem
      have hok := HOk.out ws[j].key
      have hvr := HM.out.vr hmem
      have hadd := add_is hok hvr
      have hAd := fun V (hbv : Below W.heap.size W V) => ladd_any x.A x.c x.k.l (vrW ts ws[j]) V (hkv.row.vrs.below hbv) (by rw [hxl]; exact ok32 hok) (by rw [hxl]; exact okRng hok) ⟨by have := hvr.1; have := hvr.2.1; exact ⟨by omega, by omega⟩, by have := hvr.2.2.1; unfold reachBytes; omega⟩ hkv.nil hkv.le
      rw [hxl] at hAd hlk
      have HLk := Lib.hid (fun V (hbv : Below W.heap.size W V) => hlk V (HH.out V hbv))
      have HNx := Lib.hid (fun (ho : ¬ ts ≤ lastT (chainK s.k ws[j].key)) (x : KI) hx (e' : Int) he => hsay.out.next hlt ho (x := x) hx (e' := e') he)
      have HOld := Lib.hid (show ts ≤ lastT (chainK s.k ws[j].key) → ∃ i, ∃ h : i < ws.length, ts ≤ lastT (chainK s.k ws[i].key) from fun h => ⟨j, hlt, h⟩)
      generalize chainK s.k ws[j].key = L at hAd hadd HNx HOld HLk
      obtain ⟨R, er, hR⟩ : ∃ R er, addP L (vrW ts ws[j]) = (R, er) := ⟨_, _, rfl⟩
      rw [hR] at hAd hadd HNx
      simp only at HNx
      unfold vrW at hAd hadd
      generalize ws[j] = X at y0 y1 y2 hAd HLk HNx hadd
      obtain ⟨k, t, dd⟩ := X
      simp only at y0 y1 y2 hAd HLk HNx hadd
      generalize x.A = xA at hAd HLk
      generalize x.c = xc at hAd HLk
      have HAd : Hid (∀ V, Below W.heap.size W V → Calls Tryz.prog 10 #[.slice xA L.length xc, .agg #[.int .i64 ts, .string t, .bool dd]] V fun e' w' => ∃ u : Value, e' = .returned (.tuple #[u, .int .i64 er]) ∧ w'.ownsRow V.heap.size 43 3 u R.length (vrV R) ∧ Below V.heap.size V w') := Lib.hid hAd
      have hb5 : Below wr.heap.size wr (wr.alloc (.cells #[.string k, .string t, .bool dd] 139)) := (Below.refl _ wr).alloc (Nat.le_refl _) _
      have hV5 : Cel (wr.alloc (.cells #[.string k, .string t, .bool dd] 139)) wr.heap.size 139 [.string k, .string t, .bool dd] := (blk1 wr _).2
      have HB5 := Lib.hid (hb.out.trans (hb5.mono hb.out.size))
      have HV5 := Lib.hid hV5
      have HRw5 := Lib.hid (st_keep hrow.out hb5)
      have HNw5 := Lib.hid (show ∀ x ∈ Q, NewK (wr.alloc (.cells #[.string k, .string t, .bool dd] 139)) W.heap.size x from fun x hx => st_keep (hnew.out x hx) hb5)
      have HAdd := Lib.hid hadd
      clear hb hrow hnew hsay hmem hkv hlk hok hvr hAd hb5 hV5 hR hxl hadd
      go_upto_region 4 with fail
      generalize wr.alloc (.cells #[.string k, .string t, .bool dd] 139) = W5 at HB5 HV5 HRw5 HNw5 ⊢
      generalize wr.heap.size = vb at HV5 ⊢
      clear y0 y1 y2
      refine wp_region_said 19 [19, 20, 21, 22, 23, 24, 25, 26, 27, 28, 29, 30, 31, 32, 18, 33, 34, 10, 11]
        [.is (.pointer (some ⟨g, 0, none⟩)), .is (.pointer (some ⟨g, 0, none⟩)), .is (.pointer (some ⟨g, 0, none⟩)), .is (.map (some bc)), .is (.pointer (some ⟨vb, 0, none⟩)), .is (.string k), .is (.slice xA L.length xc), .is (.int .i64 ts), .is (.pointer (some ⟨vb, 1, none⟩)), .is (.string t), .is (.pointer (some ⟨vb, 2, none⟩)), .is (.bool dd), .is (.agg #[.int .i64 ts, .string t, .bool dd]),
          .own (fun v V => ∃ u, v = .tuple #[u, .int .i64 er] ∧ V.ownsRow W.heap.size 43 3 u R.length (vrV R)) (fun v V V' h hb => by obtain ⟨u, h1, h2⟩ := h; exact ⟨u, h1, st_keep h2 hb⟩),
          .own (fun v V => ∃ u, v = .tuple #[u, .int .i64 er] ∧ V.ownsRow W.heap.size 43 3 u R.length (vrV R)) (fun v V V' h hb => by obtain ⟨u, h1, h2⟩ := h; exact ⟨u, h1, st_keep h2 hb⟩),
          .own (fun v V => V.ownsRow W.heap.size 43 3 v R.length (vrV R)) (fun v V V' h hb => st_keep h hb), .is (.int .i64 er),
          .own (fun v V => V.ownsRow W.heap.size 43 3 v R.length (vrV R)) (fun v V V' h hb => st_keep h hb), .is (.int .i64 er)]
        (fun V => Below W.heap.size W V ∧ Cel V vb 139 [.string k, .string t, .bool dd] ∧ Below W5.heap.size W5 V) (by kernel_rfl) (by kernel_rfl) (by kernel_rfl) (by kernel_rfl) (by kernel_rfl) (fun V V' h hb => ⟨h.1.trans (hb.mono h.1.size), h.2.1.below hb, h.2.2.trans (hb.mono h.2.2.size)⟩) ⟨HB5.out, HV5.out, Below.refl _ _⟩ ?steps ?last
      case steps =>
        simp only [List.take_succ_cons, List.take_zero]
        refine ⟨?_, ?_, ?_, ?_, ?_, ?_, ?_, ?_, ?_, ?_, ?_, ?_, ?_, ?_, ?_, ?_, ?_, ?_, ?_, trivial⟩
        all_goals
          intro vs V ρ hρ hc hf hg hI hH hd R' hR
          have s0 := (HH.out _ hI.1).cel.cell (i := 0) rfl
          have l0 := HLk.out _ hI.1
          have q0 := hI.2.1.cell (i := 0) rfl
          have q1 := hI.2.1.cell (i := 1) rfl
          have q2 := hI.2.1.cell (i := 2) rfl
          have HR := Lib.hid hR
          have HI := Lib.hid hI.1
          simp [depsOf, Region.binds, sayAt, Say.holds] at hd
          clear hR hI
        case refine_14 =>
          go_simp
          refine (HAd.out V HI.out).mono ?_
          rintro e' w' ⟨u, rfl, ho, hb⟩
          exact ⟨_, rfl, HR.out _ _ ⟨_, rfl, Ch.own_base ho HI.out.size⟩ hb (by simp [sayAt, Say.isBlk])⟩
        case refine_15 =>
          go_simp
          exact HR.out _ _ hd (Below.refl _ _) (by simp [sayAt, Say.isBlk])
        case refine_16 =>
          obtain ⟨u, e2, hu⟩ := hd
          go_simp
          exact HR.out _ _ hu (Below.refl _ _) (by simp [sayAt, Say.isBlk])
        case refine_17 =>
          obtain ⟨u, e2, hu⟩ := hd
          go_simp
          exact HR.out _ _ rfl (Below.refl _ _) (by simp [sayAt, Say.isBlk])
        case refine_18 =>
          go_simp
          first | exact HR.out _ _ hd (Below.refl _ _) (by simp [sayAt, Say.isBlk]) | exact HR.out _ _ hd.1 (Below.refl _ _) (by simp [sayAt, Say.isBlk])
        all_goals
          go_simp
          exact HR.out _ _ (by simp [sayAt, Say.holds]) (Below.refl _ _) (by simp [sayAt, Say.isBlk])
      case last =>
        intro vs V hI hb hg hd
        have g17 := hg 17 (by omega)
        have g18 := hg 18 (by omega)
        simp only [sayAt, Say.holds, List.getD_cons_succ, List.getD_cons_zero] at g17 g18
        simp only [List.take_succ_cons, List.take_zero, List.drop_succ_cons, List.drop_zero, putAll, Act.put, List.setIfInBounds_toArray, List.set_cons_succ, List.set_cons_zero, Nat.zero_add, Nat.reduceAdd]
        rw [g18]
        obtain ⟨A', c', e17, _⟩ := own_rowF (F := fun _ => False) g17 (vrV_len R) (fun _ hf => hf.elim)
        rw [e17] at g17 ⊢
        have HNu5 := Lib.hid g17
        have HB6 := Lib.hid hI.1
        have HRw6 := Lib.hid (st_keep HRw5.out hI.2.2)
        have HNw6 := Lib.hid (show ∀ x ∈ Q, NewK V W.heap.size x from fun x hx => st_keep (HNw5.out x hx) hI.2.2)
        have hadd := HAdd.out
        clear g17 g18 hg hd hI hb HB5 HV5 HRw5 HNw5 e17 HAd HLk
        by_cases ho : ts ≤ lastT L
        · rw [if_pos ho] at hadd
          obtain ⟨rfl, rfl⟩ := Prod.mk.inj hadd
          have HO := Lib.hid (HOld.out ho)
          clear hadd HAdd HNx HOld ho
          go_wp2_with fail
          go_ret2
          exact ⟨_, 110, rfl, HB6.out, .inl ⟨rfl, HO.out⟩⟩
        rw [if_neg ho] at hadd
        have hb7 : Below V.heap.size V (V.alloc (.cells #[.slice A' R.length c'] 35)) := (Below.refl _ V).alloc (Nat.le_refl _) _
        have HB7 := HB6
        have HRw7 : Hid ((V.alloc (.cells #[.slice A' R.length c'] 35)).ownsRow W.heap.size 35 1 u6 j (Q.map slv)) := Lib.hid (st_keep HRw6.out hb7)
        have HNw7 : Hid (∀ x ∈ Q, NewK (V.alloc (.cells #[.slice A' R.length c'] 35)) W.heap.size x) := Lib.hid (fun x hx => st_keep (HNw6.out x hx) hb7)
        have HNu7 : Hid (NewK (V.alloc (.cells #[.slice A' R.length c'] 35)) W.heap.size ⟨⟨k, R⟩, A', c'⟩) := Lib.hid (st_keep HNu5.out hb7)
        clear HB6 HRw6 HNw6 HNu5 hb7
        by_cases hf : 1024 ≤ L.length
        · rw [if_pos hf] at hadd
          obtain ⟨e1, e2⟩ := Prod.mk.inj hadd
          subst e2
          have HF := Lib.hid hf
          clear hadd HAdd HOld e1 hf
          go_wp2_with (at_builtin; refine wpList_append_own_at _ rfl _ _ 125 rfl W.heap.size 35 i0 (.slice none 0 0) 1 24 Tryz.underlying125 hi hz0 hz1 hz2 rfl (by decide) _ _ _ rfl HRw7.out ⟨V.heap.size, 0, none⟩ 1 1 [.slice A' R.length c'] rfl rfl (cell_one_new _ _ _) (fun u hu => by rw [List.mem_singleton.1 hu]; rfl) ?d3 ?d4 ?d5 ?_)
          case d3 => unfold maxLen; omega
          case d4 => omega
          case d5 => have := HB7.out.size; simp; omega
          intro v' w5 hown' hgrow _ hat
          have HB8 := Lib.hid ((HB7.out.alloc HB7.out.size (.cells #[.slice A' R.length c'] 35)).grown hgrow (by have := HB7.out.size; simp; omega) (fun k hk => (HRw7.out.lt k hk).1))
          have HO8 : Hid (w5.ownsRow W.heap.size 35 1 v' (j + 1) ((Q ++ [(⟨⟨k, R⟩, A', c'⟩ : KI)]).map slv)) := Lib.hid (by rw [List.map_append]; exact hown')
          have HN8 : Hid (∀ x ∈ Q ++ [(⟨⟨k, R⟩, A', c'⟩ : KI)], NewK w5 W.heap.size x) := Lib.hid (fun x hx => by
            rcases List.mem_append.1 hx with hx | hx
            · exact rgrow2 (HNw7.out x hx) HRw7.out (by decide) hgrow
            · rw [List.mem_singleton.1 hx]
              exact rgrow2 HNu7.out HRw7.out (by decide) hgrow)
          have HS8 := Lib.hid (HNx.out ho ⟨⟨k, R⟩, A', c'⟩ rfl 2 (.inr ⟨rfl, HF.out⟩))
          clear hown' hgrow hat HB7 HRw7 HNw7 HNu7 ho
          go_wp2_with fail
          go_roundw
          case rel => exact ⟨j + 1, 2, Q ++ [⟨⟨k, R⟩, A', c'⟩], by omega, by go_num, rfl, HS8, HO8, HN8, HB8⟩
          case measure => simp [RowKit.intOf]; omega
        · rw [if_neg hf] at hadd
          obtain ⟨e1, e2⟩ := Prod.mk.inj hadd
          subst e2
          have HF := Lib.hid (show L.length < 1024 by omega)
          clear hadd HAdd HOld e1 hf
          go_wp2_with (at_builtin; refine wpList_append_own_at _ rfl _ _ 125 rfl W.heap.size 35 i0 (.slice none 0 0) 1 24 Tryz.underlying125 hi hz0 hz1 hz2 rfl (by decide) _ _ _ rfl HRw7.out ⟨V.heap.size, 0, none⟩ 1 1 [.slice A' R.length c'] rfl rfl (cell_one_new _ _ _) (fun u hu => by rw [List.mem_singleton.1 hu]; rfl) ?d3 ?d4 ?d5 ?_)
          case d3 => unfold maxLen; omega
          case d4 => omega
          case d5 => have := HB7.out.size; simp; omega
          intro v' w5 hown' hgrow _ hat
          have HB8 := Lib.hid ((HB7.out.alloc HB7.out.size (.cells #[.slice A' R.length c'] 35)).grown hgrow (by have := HB7.out.size; simp; omega) (fun k hk => (HRw7.out.lt k hk).1))
          have HO8 : Hid (w5.ownsRow W.heap.size 35 1 v' (j + 1) ((Q ++ [(⟨⟨k, R⟩, A', c'⟩ : KI)]).map slv)) := Lib.hid (by rw [List.map_append]; exact hown')
          have HN8 : Hid (∀ x ∈ Q ++ [(⟨⟨k, R⟩, A', c'⟩ : KI)], NewK w5 W.heap.size x) := Lib.hid (fun x hx => by
            rcases List.mem_append.1 hx with hx | hx
            · exact rgrow2 (HNw7.out x hx) HRw7.out (by decide) hgrow
            · rw [List.mem_singleton.1 hx]
              exact rgrow2 HNu7.out HRw7.out (by decide) hgrow)
          have HS8 := Lib.hid (HNx.out ho ⟨⟨k, R⟩, A', c'⟩ rfl e (.inl ⟨rfl, HF.out⟩))
          clear hown' hgrow hat HB7 HRw7 HNw7 HNu7 ho
          go_wp2_with fail
          go_roundw
          case rel => exact ⟨j + 1, e, Q ++ [⟨⟨k, R⟩, A', c'⟩], by omega, by go_num, rfl, HS8, HO8, HN8, HB8⟩
          case measure => simp [RowKit.intOf]; omega
    · obtain rfl : j = ws.length := by omega
      have HB := hb
      clear hb
      go_wp2_with fail
      go_ret2
      exact ⟨_, e, rfl, HB.out, .inr ⟨Q, hsay.out, hrow.out, hnew.out⟩⟩
end
theorem put_le:∀ (k:List Kc) (key:ByteArray) (l:List Vr),(putK k key l).length ≤ k.length + 1
 | [],_,_=>by simp [putK]
 | x :: r,key,l=>by
  unfold putK
  have:=put_le r key l
  split
  ·simp only [List.length_cons];omega
  ·split <;> simp
theorem addW_le {ts:Int}:∀ (ws:List Wr) (k:List Kc),(addW ts ws k).length ≤ k.length + ws.length
 | [],k=>Nat.le_refl _
 | x :: r,k=>by
  have h1:=addW_le (ts:=ts) r (addK k x.key ⟨ts,x.shard,x.dead⟩)
  have h2:(addK k x.key ⟨ts,x.shard,x.dead⟩).length ≤ k.length + 1:=put_le _ _ _
  show (addW ts r _).length ≤ _
  rw [List.length_cons]
  omega
theorem newN_succ {k:List Kc} {ws:List Wr} {j:Nat} (hj:j < ws.length):newN k (ws.take (j + 1)) = newN k (ws.take j) + if hasK k ws[j].key then 0 else 1:=by
 unfold newN
 rw [List.take_succ_eq_append_getElem hj,List.filter_append,List.length_append]
 cases h:hasK k ws[j].key with
 | true=>rw [List.filter_cons_of_neg (by simp [h])];simp
 | false=>rw [List.filter_cons_of_pos (by simp [h])];simp
theorem own_turned {V w':World} {H sz n bc:Nat} {v:Value} {e:TypeId} {xs:List Value} {m:List (ByteArray × Value)} (h:V.ownsRow H e sz v n xs) (hm:MapIs strQ V bc m) (hk:∀ k,k ≠ bc → w'.heap[k]? = V.heap[k]?):w'.ownsRow H e sz v n xs:=by
 rcases h with ⟨hl,h0 | ⟨i,cap,cur,hv,hb,hgt,rest⟩⟩
 ·exact ⟨hl,.inl h0⟩
 ·refine ⟨hl,.inr ⟨i,cap,cur,hv,hb,(hk i (fun e=>?_)).trans hgt,rest⟩⟩
  subst e
  obtain ⟨es,cl,h1⟩:=hm.isMap
  rw [h1] at hgt;cases hgt
theorem newK_val {V:World} {X:Nat} {M:Nat → Prop} {x:KI} (h:NewK V X x) (hM:∀ k,M k → k < X):KVal V M x:=by
 obtain ⟨h1,h2,h3,h4⟩:=own_row_at h (vrV_len _) hM
 exact ⟨h1,h4,h2,h3⟩
theorem gr_mono {F:Nat → Prop} {W a b:World} (h:a.heap.size ≤ b.heap.size):∀ k,Gr F W a k → Gr F W b k:=fun _ hk=>hk.elim .inl (fun h2=>.inr ⟨h2.1,Nat.lt_of_lt_of_le h2.2 h⟩)
theorem newK_in {V:World} {X:Nat} {x:KI} (h:NewK V X x):∀ ad,x.A = some ad → X ≤ ad.block ∧ ad.block < V.heap.size:=fun ad e=>h.lt ad.block (by rw [e];rfl)
section
variable {W:World} {F:Nat → Prop} {g bc bp:Nat} {v:Value} {K:List KI} {P:List RI} {s:Shf}
theorem lg_long {ts:Int} {ws:List Wr} {Q:List KI} (hs:ShOk s) (h:LgSay s ts ws ws.length 2 Q):writeP s ts ws = (s,2):=by
 unfold writeP
 rw [if_neg,if_pos]
 ·rw [longW_is hs.kl,Bool.or_eq_true]
  left
  rcases h.err with ⟨h0,_⟩ | ⟨_,i,hi,_,h1⟩
  ·omega
  ·exact List.any_eq_true.2 ⟨_,List.getElem_mem hi,by simpa using h1⟩
 ·intro hc
  obtain ⟨x,hx,hd⟩:=List.any_eq_true.1 hc
  obtain ⟨i,hi,rfl⟩:=List.getElem_of_mem hx
  exact h.old i hi hi (by simpa using hd)
theorem lg_no {ts:Int} {ws:List Wr} {Q:List KI} (h:LgSay s ts ws ws.length 0 Q):(ws.any (fun x=>decide (ts ≤ lastT (chainK s.k x.key))) = false) ∧ ∀ x ∈ ws,(chainK s.k x.key).length < 1024:=by
 constructor
 ·rw [List.any_eq_false]
  intro x hx
  obtain ⟨i,hi,rfl⟩:=List.getElem_of_mem hx
  simpa using h.old i hi hi
 ·intro x hx
  obtain ⟨i,hi,rfl⟩:=List.getElem_of_mem hx
  rcases h.err with ⟨_,h1⟩ | ⟨h0,_⟩
  ·exact h1 i hi hi
  ·omega
theorem lg_at {ts:Int} {ws:List Wr} {Q:List KI} (hs:ShOk s) (hm:MayW ts ws) (h:LgSay s ts ws ws.length 0 Q) {i:Nat} (hi:i < ws.length) (hq:i < Q.length):Q[i].k = ⟨ws[i].key,chainK s.k ws[i].key ++ [vrW ts ws[i]]⟩:=by
 rw [h.at_ i hi hq,add_is (hs.kok.chain _) (hm.vr (List.getElem_mem hi)),if_neg (show ¬ (vrW ts ws[i]).ts ≤ _ from h.old i hi hi),if_neg (by have:=(lg_no h).2 _ (List.getElem_mem hi);omega)]
theorem lwrite_any (h:LAt W F g bc bp v K P s) (hs:ShOk s) {ts:Int} {ws:List Wr} (hm:MayW ts ws) (B:Option Addr) (d:Nat) (hB:WrsAt W B ws) (hBm:0 < ws.length → ∀ ad,B = some ad → ¬ Mu g bc bp v ad.block) (hl:ws.length ≤ 1024) :
  Calls Tryz.prog 72 #[.pointer (some ⟨g,0,none⟩),.int .i64 ts,.slice B ws.length d] W fun e w'=>e = .returned (.int .i64 (writeP s ts ws).2) ∧ (∃ K',LAt w' (Gr F W w') g bc bp v K' P (writeP s ts ws).1) ∧ Far F W w':=by
 have HLg:=Lib.hid (llonger_any h hs hm B d hB hl)
 have HOld:=Lib.hid (show ∀ V,Below W.heap.size W V → ∀ e,writeP s ts ws = (s,e) → (∃ K',LAt V (Gr F W V) g bc bp v K' P (writeP s ts ws).1) ∧ Far F W V from fun V hb e he=>by
  rw [he]
  exact ⟨⟨K,h.gr hb.size (h.below hb)⟩,Far.of hb⟩)
 have H110:=Lib.hid (show (∃ i,∃ h:i < ws.length,ts ≤ lastT (chainK s.k ws[i].key)) → writeP s ts ws = (s,110) from fun ⟨i,hi,ht⟩=>by
  unfold writeP
  rw [if_pos (List.any_eq_true.2 ⟨_,List.getElem_mem hi,by simpa using ht⟩)])
 have HH:=Lib.hid (fun V (hb:Below W.heap.size W V)=>h.below hb)
 have HWs:=Lib.hid (fun V (hb:Below W.heap.size W V)=>hB.below hb)
 have HS:=Lib.hid hs
 have HM:=Lib.hid hm
 have HMu:=Lib.hid h.mu_lt
 have HF:=Lib.hid h.fl
 have HFm:=Lib.hid (h.fm bc (.inr (.inl rfl)))
 have HBm:=Lib.hid hBm
 have hkl:K.length = s.k.length:=h.klen
 have hk10:(K.length:Int) ≤ 1024:=by have:=hs.kl;omega
 have HKl:=Lib.hid hkl
 have hlen:(ws.length:Int) ≤ 1024:=by omega
 have HCl:=Lib.hid (fun s W hs=>Bk.clone_any s W hs)
 clear h hs hm hB hBm hkl
 go_enter Tryz.func72,Tryz.ntmps72
 go_wp2_with fail
 refine HLg.out.mono ?_
 rintro e1 w1 ⟨vv,n,rfl,hb,hcase⟩
 have HB1:=Lib.hid hb
 clear hb HLg
 rcases hcase with ⟨rfl,hold⟩ | ⟨Q,hsay,hrow,hnew⟩
 ·have E:=Lib.hid (H110.out hold)
  clear hold H110
  go_wp2_with fail
  go_ret
  exact ⟨(by rw [E.out];first | done | rfl),HOld.out _ HB1.out _ E.out⟩
 obtain ⟨A1,c1,rfl,hrf,_⟩:=own_rowF (F:=fun _=>False) hrow (by rw [List.length_map,hsay.len,Nat.mul_one]) (fun _ hf=>hf.elim)
 rcases hsay.err with ⟨rfl,_⟩ | ⟨rfl,_⟩
 case inr =>
  have E:=Lib.hid (lg_long HS.out hsay)
  clear hsay hrow hnew hrf H110
  go_wp2_with fail
  go_ret
  exact ⟨(by rw [E.out];first | done | rfl),HOld.out _ HB1.out _ E.out⟩
 have HQl:=Lib.hid hsay.len
 have HNo:=Lib.hid (lg_no hsay)
 have HAt:=Lib.hid (fun i (hi:i < ws.length) (hq:i < Q.length)=>lg_at HS.out HM.out hsay hi hq)
 have HRw:=Lib.hid hrow
 have HNw:=Lib.hid hnew
 have HRf:=Lib.hid hrf
 clear hsay hrow hnew hrf H110
 have h1:=HH.out _ HB1.out
 have s0:=h1.cel.cell (i:=0) rfl
 have hln:=h1.mc.len Tryz.underlying108 3
 rw [List.length_map] at hln
 clear h1
 go_wp2_with fail
 go_loopw [9,31] (fun kv iv wr=>∃ (j nn:Nat),j ≤ ws.length ∧ iv = .int .i64 (j:Int) ∧ kv = .int .i64 ((K.length:Int) + (nn:Int)) ∧ Hid (nn = newN s.k (ws.take j)) ∧ nn ≤ j ∧ Hid (wr = w1)) (fun _ iv _=>ws.length - (RowKit.intOf iv).toNat)
 case atStart=>exact ⟨0,0,Nat.zero_le _,rfl,by simp,Lib.hid (by simp [newN]),Nat.le_refl _,Lib.hid rfl⟩
 case round =>
  obtain ⟨j,nn,hj,rfl,rfl,hnn,hnj,hwr⟩:=hrel
  obtain rfl:w1 = wr:=hwr.out.symm
  clear hwr s0 hln
  by_cases hlt:j < ws.length
  ·have pj:(j:Int) < (ws.length:Int):=by omega
   have hqj:j < Q.length:=by rw [HQl.out];exact hlt
   obtain ⟨ad,rfl,_,_,h3⟩:=HRf.out (by rw [List.length_map];omega)
   have x0:=h3 j (slv Q[j]) (by rw [List.getElem?_map,List.getElem?_eq_getElem hqj];rfl)
   unfold slv at x0
   have hat:=HAt.out j hlt hqj
   have hcl:Q[j].k.l.length = (chainK s.k ws[j].key).length + 1:=by rw [hat];simp
   have hns:=newN_succ (k:=s.k) hlt
   have hcn:=chain_none (k:=s.k) HS.out.kz (key:=ws[j].key)
   have hcm:Q[j].k.l.length ≤ 1024:=by have:=HNo.out.2 _ (List.getElem_mem hlt);omega
   generalize Q[j] = X at x0 hcl hat hcm
   generalize hL:chainK s.k ws[j].key = L at hcl hcn
   cases hh:hasK s.k ws[j].key with
   | true =>
    have hL0:L ≠ []:=fun e=>by have:=hcn.1 e;rw [hh] at this;cases this
    have hL1:L.length ≠ 0:=fun e=>hL0 (List.eq_nil_of_length_eq_zero e)
    rw [hh] at hns
    have HNs:=Lib.hid (show nn = newN s.k (ws.take (j + 1)) by rw [hns,← hnn.out];simp)
    have hm1:¬ (X.k.l.length:Int) = 1:=by omega
    generalize X.k.l.length = xm at x0 hm1
    clear hcl hcn hL hL0 hL1 hh hns hat hcm hnn h3
    go_wp2_with fail
    go_roundw
    case rel=>exact ⟨j + 1,nn,by omega,by go_num,rfl,HNs,by omega,Lib.hid (by trivial)⟩
    case measure=>simp [RowKit.intOf];omega
   | false =>
    have hL0:L = []:=hcn.2 hh
    rw [hh] at hns
    have HNs:=Lib.hid (show nn + 1 = newN s.k (ws.take (j + 1)) by rw [hns,← hnn.out];simp)
    have hm1:X.k.l.length = 1:=by rw [hcl,hL0];rfl
    rw [hm1] at x0
    clear hcl hcn hL hL0 hh hns hat hm1 hcm hnn h3
    go_wp2_with fail
    go_roundw
    case rel=>exact ⟨j + 1,nn + 1,by omega,by go_num,by go_num,HNs,by omega,Lib.hid (by trivial)⟩
    case measure=>simp [RowKit.intOf];omega
  ·obtain rfl:j = ws.length:=by omega
   have HNn:=Lib.hid (show nn = newN s.k ws by rw [hnn.out,List.take_length])
   clear hnn
   by_cases hbig:1024 < K.length + nn
   ·have E:=Lib.hid (show writeP s ts ws = (s,2) by
     unfold writeP
     rw [if_neg (by rw [HNo.out.1];simp),if_pos (by rw [longW_is HS.out.kl,Bool.or_eq_true];right;simp only [decide_eq_true_eq];rw [← HNn.out,← HKl.out];exact hbig)])
    have pb:(1024:Int) < (K.length:Int) + (nn:Int):=by omega
    clear hbig
    go_wp2_with fail
    go_ret
    exact ⟨(by rw [E.out];first | done | rfl),HOld.out _ HB1.out _ E.out⟩
   ·have E:=Lib.hid (show writeP s ts ws = (⟨addW ts ws s.k,s.p,s.e,s.over⟩,0) by
     unfold writeP
     rw [if_neg (by rw [HNo.out.1];simp),if_neg (by
      rw [longW_is HS.out.kl,Bool.or_eq_true]
      rintro (hc | hc)
      ·obtain ⟨x,hx,hd⟩:=List.any_eq_true.1 hc
       have:=HNo.out.2 x hx
       simp at hd;omega
      ·simp only [decide_eq_true_eq] at hc
       rw [← HNn.out,← HKl.out] at hc
       exact hbig hc)])
    have pb:¬ (1024:Int) < (K.length:Int) + (nn:Int):=by omega
    clear hbig HOld
    have HL0:Hid (∃ Kj,LAt w1 (Gr F W w1) g bc bp v Kj P ⟨addW ts (ws.take 0) s.k,s.p,s.e,s.over⟩):=Lib.hid ⟨K,(HH.out _ HB1.out).more (fun _ hk=>.inl hk) (gr_lt HF.out HB1.out.size)⟩
    have HA0:=Lib.hid (show Far F W w1 from Far.of HB1.out)
    have HW0:=Lib.hid (HWs.out _ HB1.out)
    have HX:=Lib.hid (fun j (hj:j < ws.length)=>addW_next HS.out.kok HM.out (fun x hx=>by
     have:=List.any_eq_false.1 HNo.out.1 x hx
     simp at this;omega) HNo.out.2 hj)
    clear HH HWs HRf
    go_wp2_with fail
    go_loopw [45] (fun iv wr=>∃ j:Nat,j ≤ ws.length ∧ iv = .int .i64 (j:Int) ∧ Hid (∃ Kj,LAt wr (Gr F W wr) g bc bp v Kj P ⟨addW ts (ws.take j) s.k,s.p,s.e,s.over⟩) ∧ Hid (Far F W wr) ∧ Hid (wr.ownsRow W.heap.size 35 1 (.slice A1 ws.length c1) ws.length (Q.map slv)) ∧ Hid (∀ x ∈ Q,NewK wr W.heap.size x) ∧ Hid (WrsAt wr B ws)) (fun iv _=>ws.length - (RowKit.intOf iv).toNat)
    case atStart=>exact ⟨0,Nat.zero_le _,rfl,HL0,HA0,HRw,HNw,HW0⟩
    case round =>
     obtain ⟨j,hj,rfl,hL,haw,hrw,hnw,hws⟩:=hrel
     clear HL0 HA0 HRw HNw HW0 HB1
     by_cases hlt:j < ws.length
     ·have pj:(j:Int) < (ws.length:Int):=by omega
      have hqj:j < Q.length:=by rw [HQl.out];exact hlt
      obtain ⟨Kj,hLj⟩:=hL.out
      obtain ⟨bd,rfl,y0,y1,y2⟩:=wrs_at hws.out hlt
      have hq2:=hrw.out
      obtain ⟨A2,c2,e2,hrf,_⟩:=own_rowF (F:=fun _=>False) hq2 (by rw [List.length_map,HQl.out,Nat.mul_one]) (fun _ hf=>hf.elim)
      simp only [Value.slice.injEq] at e2
      obtain ⟨rfl,-,rfl⟩:=e2
      have hrf2:=hrf
      obtain ⟨ad,rfl,_,_,_⟩:=hrf2 (by rw [List.length_map];omega)
      have hks:(ws[j].key).size ≤ maxLen:=by have:=(HM.out.each _ (List.getElem_mem hlt)).1.2;unfold maxLen;omega
      have hkc:(ws[j].key).size ≤ 281474976710656:=by have:=(HM.out.each _ (List.getElem_mem hlt)).1.2;omega
      have hat:=HAt.out j hlt hqj
      obtain ⟨hX1,hX2⟩:=HX.out j hlt
      have hb5:Below wr.heap.size wr (wr.alloc (.cells #[.string ws[j].key,.string ws[j].shard,.bool ws[j].dead] 139)):=(Below.refl _ wr).alloc (Nat.le_refl _) _
      have hV5:Cel (wr.alloc (.cells #[.string ws[j].key,.string ws[j].shard,.bool ws[j].dead] 139)) wr.heap.size 139 [.string ws[j].key,.string ws[j].shard,.bool ws[j].dead]:=(blk1 wr _).2
      have HB5:=Lib.hid hb5
      have HQm:=Lib.hid (show Q[j] ∈ Q from List.getElem_mem hqj)
      have HRf5:=Lib.hid (fun V (hbv:Below wr.heap.size wr V)=>(hrf.below hbv).news j (slv Q[j]) (by rw [List.getElem?_map,List.getElem?_eq_getElem hqj];rfl))
      have HLj:=Lib.hid hLj
      have HV5:=Lib.hid hV5
      have HX1:=Lib.hid hX1
      have HX2:=Lib.hid hX2
      have HAtj:=Lib.hid hat
      have HKs:=Lib.hid hks
      generalize hX:Q[j] = X at HQm HRf5 HAtj
      generalize ws[j] = Y at y0 y1 y2 hb5 hV5 HB5 HV5 HX1 HAtj hkc HKs
      obtain ⟨k,t,dd⟩:=Y
      simp only at y0 y1 y2 hb5 hV5 HB5 HV5 HX1 HAtj hkc HKs
      have HClk:=Lib.hid (fun W=>HCl.out k W hkc)
      clear hL hLj hq2 hrf hks hkc hat hX1 hX2 hb5 hV5 hX
      go_upto_region 16 with fail
      generalize hW5:wr.alloc (.cells #[.string k,.string t,.bool dd] 139) = W5 at HB5 HV5 ⊢
      generalize wr.heap.size = vb at HV5 ⊢
      clear y0 y1 y2 hW5
      refine wp_region_said 11 [50,51,52,53,54,55,56,57,58,59,60]
       [.is (.pointer (some ⟨g,0,none⟩)),.is (.pointer (some ⟨g,0,none⟩)),.is (.pointer (some ⟨g,0,none⟩)),.is (.map (some bc)),.is (.pointer (some ⟨vb,0,none⟩)),.is (.string k),.is (.string k),.is (.slice (some ad) ws.length c1),.is (.int .i64 (j:Int)),.is (.pointer (some (ad.add j))),.is (.slice X.A X.k.l.length X.c)]
       (fun V=>Below wr.heap.size wr V ∧ Cel V vb 139 [.string k,.string t,.bool dd]) (by kernel_rfl) (by kernel_rfl) (by kernel_rfl) (by kernel_rfl) (by kernel_rfl) (fun V V' h hb=>⟨h.1.trans (hb.mono h.1.size),h.2.below hb⟩) ⟨HB5.out,HV5.out⟩ ?steps ?last
      case steps =>
       simp only [List.take_succ_cons,List.take_zero]
       refine ⟨?_,?_,?_,?_,?_,?_,?_,?_,?_,?_,?_,trivial⟩
       all_goals
        intro vs V ρ hρ hc hf hg hI hH hd R' hR
        have s0:=(HLj.out.below hI.1).cel.cell (i:=0) rfl
        have x0:=HRf5.out _ hI.1
        unfold slv at x0
        have q0:=hI.2.cell (i:=0) rfl
        have HR:=Lib.hid hR
        simp [depsOf,Region.binds,sayAt,Say.holds] at hd
        clear hR hI
        go_simp
        first
         | exact HR.out _ _ (by simp [sayAt,Say.holds]) (Below.refl _ _) (by simp [sayAt,Say.isBlk])
         | (refine (HClk.out _).mono ?_;rintro e w' ⟨rfl,hb⟩;exact ⟨_,rfl,HR.out _ _ (by simp [sayAt,Say.holds]) hb (by simp [sayAt,Say.isBlk])⟩)
      case last =>
       intro vs V hI hb hg hd
       have g3:=hg 3 (by omega)
       have g6:=hg 6 (by omega)
       have g10:=hg 10 (by omega)
       simp only [sayAt,Say.holds,List.getD_cons_succ,List.getD_cons_zero] at g3 g6 g10
       simp only [List.take_succ_cons,List.take_zero,List.drop_succ_cons,List.drop_zero,putAll,Act.put,List.setIfInBounds_toArray,List.set_cons_succ,List.set_cons_zero,Nat.zero_add,Nat.reduceAdd]
       rw [g3,g6,g10]
       have hLV:=HLj.out.below hI.1
       have hml:(Kj.map kp).length < maxLen:=by
        rw [List.length_map,hLV.klen]
        have h1:=addW_le (ts:=ts) (ws.take j) s.k
        have h2:(ws.take j).length ≤ ws.length:=List.length_take_le' ..
        have h3:=HS.out.kl
        show (addW ts (ws.take j) s.k).length < _
        unfold maxLen
        omega
       have hbV:=hI.1
       have haV:=haw.out.trans (away_below (F:=F) hbV)
       clear g3 g6 g10 hg hd hI
       refine wpList_update_is strQ rfl _ _ _ 108 35 rfl Tryz.underlying108 bc (Kj.map kp) rfl hLV.mc hml k (strQ_ok HKs.out) (.slice X.A X.k.l.length X.c) rfl rfl ?_
       intro w' hm ht
       have hk:∀ i,i ≠ bc → w'.heap[i]? = V.heap[i]?:=fun i hi=>turned_other ht hi
       have hsz:V.heap.size ≤ w'.heap.size:=by rw [turned_size ht];exact Nat.le_refl _
       have hXk:X.k.name = k:=by rw [HAtj.out]
       have hkpX:(k,Value.slice X.A X.k.l.length X.c) = kp X:=by unfold kp;rw [hXk]
       have hnK:=st_keep (hnw.out X HQm.out) hbV
       have hSo:Sorted (Kj.map (·.k)):=by rw [hLV.ek];exact HX2.out.ks
       have hm2:MapIs strQ w' bc ((putI Kj X).map kp):=by
        rw [hkpX,← hXk] at hm
        exact hm.perm (putI_perm X hSo).symm
       have hL2:LAt w' (Gr F W w') g bc bp v (putI Kj X) P ⟨addW ts (ws.take (j + 1)) s.k,s.p,s.e,s.over⟩:=by
        refine LAt.setK hLV hk hsz hm2 (fun x hx=>?_) (by rw [putI_map,hLV.ek,HX1.out,HAtj.out]) (gr_mono (Nat.le_trans hbV.size hsz)) (fun x hx hp ad e=>?_) (gr_lt HF.out (Nat.le_trans haV.size hsz))
        ·rcases putI_mem hx with rfl | hx
         ·exact newK_val hnK HMu.out
         ·exact hLV.kv x hx
        ·rcases putI_mem hx with rfl | hx
         ·obtain ⟨h1,h2⟩:=newK_in hnK ad e
          exact .inr ⟨h1,Nat.lt_of_lt_of_le h2 hsz⟩
         ·exact gr_mono (Nat.le_trans hbV.size hsz) _ (hLV.fk x hx hp ad e)
       have HL6:=Lib.hid (show ∃ Kj,LAt w' (Gr F W w') g bc bp v Kj P ⟨addW ts (ws.take (j + 1)) s.k,s.p,s.e,s.over⟩ from ⟨_,hL2⟩)
       have HA6:=Lib.hid (show Far F W w' from ⟨⟨Nat.le_trans haV.size hsz,fun i hi hn=>(hk i (fun e=>hn (by rw [e];exact HFm.out))).trans (haV.block i hi hn)⟩,haV.st.trans (st_turned ht)⟩)
       have HR6:=Lib.hid (own_turned (st_keep hrw.out hbV) hLV.mc hk)
       have HN6:=Lib.hid (show ∀ x ∈ Q,NewK w' W.heap.size x from fun x hx=>own_turned (st_keep (hnw.out x hx) hbV) hLV.mc hk)
       have HW6:=Lib.hid (wrs_in (F:=fun i=>i ≠ bc) (hws.out.below hbV) (fun hp ad e h=>HBm.out hp ad e (by rw [h];exact .inr (.inl rfl))) hsz hk)
       clear hL2 hm2 hm ht hk hsz hnK hSo hLV hml hbV haV hb haw hrw hnw hws hkpX hXk
       go_wp2_with fail
       go_roundw
       case rel=>exact ⟨j + 1,by omega,by go_num,HL6,HA6,HR6,HN6,HW6⟩
       case measure=>simp [RowKit.intOf];omega
     ·obtain rfl:j = ws.length:=by omega
      have hL2:=hL.out
      rw [List.take_length] at hL2
      have HL6:=Lib.hid hL2
      have HA6:=haw
      clear hL hL2 haw hrw hnw hws
      go_wp2_with fail
      go_ret
      exact ⟨(by rw [E.out];first | done | rfl),by rw [E.out];exact HL6.out,HA6.out⟩
end
theorem Tryz.infoEndL:(Tryz.prog.info? 135).map (fun i=>(i.zero,i.size,i.bytes)) = some (some (.agg #[.int .i64 0,.int .i64 0]),2,16):=by kernel_rfl
end Sh
end Go.Proofs.YtlfkhlfkckfbpaaGreat
namespace Go.Proofs.YtlfkhlfkckfbpaaGreat
namespace Sh
open Go.RowKit Bk Ch Lt Rc Tr
section
variable {W V w':World} {F F':Nat → Prop} {g bc bp:Nat} {v v':Value} {K:List KI} {P:List RI} {s:Shf}
end
end Sh
end Go.Proofs.YtlfkhlfkckfbpaaGreat
namespace Go.Proofs.YtlfkhlfkckfbpaaGreat
namespace Sh
open Go.RowKit Bk Ch Lt Rc Tr
attribute [local go_sem ↓] Go.wp_at_zero Go.wp_at_succ
attribute [local go_sem] floatUpon pick
section
variable {W:World} {F:Nat → Prop} {g bc bp:Nat} {v:Value} {K:List KI} {P:List RI} {s:Shf}
end
theorem perm_lift {α β:Type} {f:α → β}:∀ {m:List β} {l:List α},(l.map f).Perm m → ∃ l':List α,l'.Perm l ∧ l'.map f = m
 | [],l,h=>by
  have:l = []:=by simpa using h.length_eq
  subst this
  exact ⟨[],List.Perm.refl _,rfl⟩
 | a :: m,l,h=>by
  have ha:a ∈ l.map f:=h.symm.subset (List.mem_cons_self ..)
  obtain ⟨x,hx,rfl⟩:=List.mem_map.1 ha
  obtain ⟨s,t,rfl⟩:=List.append_of_mem hx
  have h2:((s ++ t).map f).Perm m:=by
   have h3:((s ++ x :: t).map f).Perm (f x :: (s ++ t).map f):=(List.perm_middle (l₁:=s) (l₂:=t) (a:=x)).map f
   exact List.Perm.cons_inv (h3.symm.trans h)
  obtain ⟨l',h4,h5⟩:=perm_lift h2
  exact ⟨x :: l',(h4.cons x).trans List.perm_middle.symm,by rw [List.map_cons,h5]⟩
theorem done_perm {K done:List KI} (hn:((K.map kp).map (·.1)).Nodup) (hsub:∀ x ∈ done,x ∈ K) (hp:(done.map kp).Perm (K.map kp)):done.Perm K:=by
 have hn2:(K.map (fun x=>x.k.name)).Nodup:=by rw [List.map_map] at hn;exact hn
 have hp2:(done.map (fun x=>x.k.name)).Perm (K.map (fun x=>x.k.name)):=by
  have:=hp.map (·.1)
  rw [List.map_map,List.map_map] at this
  exact this
 have nd:∀ {L:List KI},(L.map (fun x=>x.k.name)).Nodup → L.Nodup:=fun {L} h=>List.Pairwise.of_map (fun x=>x.k.name) (fun a b hab e=>hab (by rw [e])) h
 refine (List.perm_ext_iff_of_nodup (nd (hp2.nodup_iff.2 hn2)) (nd hn2)).2 fun x=>⟨hsub x,fun hx=>?_⟩
 obtain ⟨y,hy,e⟩:=List.mem_map.1 (hp2.symm.subset (List.mem_map_of_mem hx))
 rw [← one_key hn (hsub y hy) hx e]
 exact hy
theorem done_permP {P done:List RI} (hn:((P.map pp).map (·.1)).Nodup) (hsub:∀ x ∈ done,x ∈ P) (hp:(done.map pp).Perm (P.map pp)):done.Perm P:=by
 have hn2:(P.map (fun x=>x.l.txn)).Nodup:=by rw [List.map_map] at hn;exact hn
 have hp2:(done.map (fun x=>x.l.txn)).Perm (P.map (fun x=>x.l.txn)):=by
  have:=hp.map (·.1)
  rw [List.map_map,List.map_map] at this
  exact this
 have nd:∀ {L:List RI},(L.map (fun x=>x.l.txn)).Nodup → L.Nodup:=fun {L} h=>List.Pairwise.of_map (fun x=>x.l.txn) (fun a b hab e=>hab (by rw [e])) h
 refine (List.perm_ext_iff_of_nodup (nd (hp2.nodup_iff.2 hn2)) (nd hn2)).2 fun x=>⟨hsub x,fun hx=>?_⟩
 obtain ⟨y,hy,e⟩:=List.mem_map.1 (hp2.symm.subset (List.mem_map_of_mem hx))
 rw [← one_txn hn (hsub y hy) hx e]
 exact hy
theorem own_keep {V w':World} {H sz n b:Nat} {v:Value} {e:TypeId} {xs:List Value} (h:V.ownsRow H e sz v n xs) (hb:∀ cs t f,V.heap[b]? ≠ some (.cells cs t f)) (hk:∀ k,k < V.heap.size → k ≠ b → w'.heap[k]? = V.heap[k]?):w'.ownsRow H e sz v n xs:=by
 rcases h with ⟨hl,h0 | ⟨i,cap,cur,hv,hbb,hgt,rest⟩⟩
 ·exact ⟨hl,.inl h0⟩
 ·refine ⟨hl,.inr ⟨i,cap,cur,hv,hbb,(hk i (Array.getElem?_eq_some_iff.1 hgt).1 (fun e=>?_)).trans hgt,rest⟩⟩
  subst e
  exact hb _ _ _ hgt
theorem RangeIs.iter {P:Program} {k:TypeId} {α:Type} {Q:KeyT P k α} {w:World} {b r:Nat} {m todo:List (α × Value)} (h:RangeIs Q w b r m todo):∀ cs t f,w.heap[r]? ≠ some (.cells cs t f):=fun cs t f e=>by
 obtain ⟨D,left,cnt,⟨es,clock,since,seen,c0,_,_,_,_,h2,_⟩,_⟩:=h
 rw [h2] at e;cases e
theorem MapIs.nocells {P:Program} {k:TypeId} {α:Type} {Q:KeyT P k α} {w:World} {b:Nat} {m:List (α × Value)} (h:MapIs Q w b m):∀ cs t f,w.heap[b]? ≠ some (.cells cs t f):=fun cs t f e=>by
 obtain ⟨es,cl,h1⟩:=h.isMap
 rw [h1] at e;cases e
section
variable {W:World} {F:Nat → Prop} {g bc bp:Nat} {v:Value} {K:List KI} {P:List RI} {s:Shf}
end
theorem may_one {r:Rec} (h:RecOk r) (hk:r.kind = 3):MayW r.ts [⟨r.key,r.text,r.dead⟩] ∧ vrOk ⟨r.ts,r.text,r.dead⟩:=by
 obtain ⟨_,_,_,h1,h2,h3,h4⟩:=(kind_3 hk).1 h.2
 have h5:=h.1.2.1
 unfold stampOk at h5
 have h6:¬ (r.dead = true ∧ r.text ≠ ⟨#[]⟩):=fun hc=>by
  rcases h4 with h4 | h4
  ·rw [h4] at hc;cases hc.1
  ·exact hc.2 h4
 exact ⟨⟨by omega,fun x hx=>by rw [List.mem_singleton.1 hx];exact ⟨h2,h3,h6⟩,List.pairwise_singleton ..⟩,by show 1 ≤ r.ts;omega,by show r.ts ≤ _;omega,h3,h6⟩
theorem one_wr (W:World) (k t:ByteArray) (d:Bool):WrsAt (W.alloc (.cells #[.string k,.string t,.bool d] 139)) (some ⟨W.heap.size,0,none⟩) [⟨k,t,d⟩]:=fun _=>by
 refine ⟨_,rfl,by simp,fun i hi=>?_⟩
 obtain rfl:i = 0:=by simp at hi;omega
 have hc:Cel (W.alloc (.cells #[.string k,.string t,.bool d] 139)) W.heap.size 139 [.string k,.string t,.bool d]:=(blk1 W _).2
 exact ⟨hc.cell (i:=0) rfl,hc.cell (i:=1) rfl,hc.cell (i:=2) rfl⟩
theorem LRep.more {W:World} {F F':Nat → Prop} {g:Nat} {s:Shf} (h:LRep W F g s) (hF:∀ k,F k → F' k) (hl:∀ k,F' k → k < W.heap.size):LRep W F' g s:=by
 obtain ⟨bc,bp,v,K,P,h⟩:=h
 exact ⟨bc,bp,v,K,P,h.more hF hl⟩
theorem gr_later {W V w':World} {F:Nat → Prop} (h:W.heap.size ≤ V.heap.size):∀ k,Gr F V w' k → Gr F W w' k:=fun _ hk=>hk.elim .inl (fun h2=>.inr ⟨Nat.le_trans h h2.1,h2.2⟩)
section
variable {W:World} {F:Nat → Prop} {g bc bp:Nat} {v:Value} {K:List KI} {P:List RI} {s:Shf}
end
theorem lnew_any (W:World):Calls Tryz.prog 65 #[] W fun e w'=>∃ g F,e = .returned (.pointer (some ⟨g,0,none⟩)) ∧ LRep w' F g empty ∧ (∀ k,F k → W.heap.size ≤ k) ∧ Below W.heap.size W w':=by
 have hmm:=@run_makeMap Tryz.prog
 go_enter Tryz.func65,Tryz.ntmps65
 go_wp2_with fail
 go_ret
 have n1:(W.alloc (.map #[] 0)).heap.size = W.heap.size + 1:=Array.size_push ..
 have n2:((W.alloc (.map #[] 0)).alloc (.map #[] 0)).heap.size = W.heap.size + 1 + 1:=by exact (Array.size_push ..).trans (by rw [n1])
 have b1:Below W.heap.size W (W.alloc (.map #[] 0)):=(Below.refl _ W).alloc (Nat.le_refl _) _
 have b2:=(Below.refl _ (W.alloc (.map #[] 0))).alloc (Nat.le_refl _) (.map #[] 0)
 have b3:=(Below.refl _ ((W.alloc (.map #[] 0)).alloc (.map #[] 0))).alloc (Nat.le_refl _) (.cells #[.map (some W.heap.size),.map (some (W.heap.size + 1)),.slice none 0 0,.int .i64 0] 112)
 have m1:=mapIs_made strQ W
 have m2:=mapIs_made intQ (W.alloc (.map #[] 0))
 have c1:=(blk1 ((W.alloc (.map #[] 0)).alloc (.map #[] 0)) (.cells #[.map (some W.heap.size),.map (some (W.heap.size + 1)),.slice none 0 0,.int .i64 0] 112)).2
 rw [n1] at m2 b2
 rw [n2] at c1 b3
 refine ⟨_,Mu (W.heap.size + 1 + 1) W.heap.size (W.heap.size + 1) (.slice none 0 0),rfl,⟨_,_,_,[],[],c1,?_,?_,⟨rfl,.inl ?_⟩,fun _=>rfl,by simp,by simp,rfl,rfl,by omega,fun _ h=>h,by simp,by simp,?_⟩,?_,?_⟩
 ·exact (m1.kept (b2.block _ (by omega))).kept (b3.block _ (by omega))
 ·exact m2.kept (b3.block _ (by omega))
 ·exact ⟨rfl,rfl⟩
 ·rintro k (h | h | h | h)
  ·have n3:(((W.alloc (.map #[] 0)).alloc (.map #[] 0)).alloc (.cells #[.map (some W.heap.size),.map (some (W.heap.size + 1)),.slice none 0 0,.int .i64 0] 112)).heap.size = W.heap.size + 1 + 1 + 1:=(Array.size_push ..).trans (by rw [n2])
   omega
  ·have n3:(((W.alloc (.map #[] 0)).alloc (.map #[] 0)).alloc (.cells #[.map (some W.heap.size),.map (some (W.heap.size + 1)),.slice none 0 0,.int .i64 0] 112)).heap.size = W.heap.size + 1 + 1 + 1:=(Array.size_push ..).trans (by rw [n2])
   omega
  ·have n3:(((W.alloc (.map #[] 0)).alloc (.map #[] 0)).alloc (.cells #[.map (some W.heap.size),.map (some (W.heap.size + 1)),.slice none 0 0,.int .i64 0] 112)).heap.size = W.heap.size + 1 + 1 + 1:=(Array.size_push ..).trans (by rw [n2])
   omega
  ·cases h
 ·rintro k (h | h | h | h)
  ·omega
  ·omega
  ·omega
  ·cases h
 ·exact b1.trans ((b2.mono (by omega)).trans (b3.mono (by omega)))
end Sh
end Go.Proofs.YtlfkhlfkckfbpaaGreat
