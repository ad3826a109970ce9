/- Parts of the proof, joined: ShL12, ShMath5, ShL13; their conditions stand with each. -/
import Derived.Test.YtiobhbagjokpcaaGreatM22
import Derived.Test.YtiobhbagjokpcaaGreatM30

/- The landed shelf: locked, prepare; contracts; no condition but the range. -/
namespace Go.Proofs.YtiobhbagjokpcaaGreat
namespace Sh
open Go.RowKit Bk Ch Lt Rc Tr

attribute [local go_sem ↓] Go.wp_at_zero Go.wp_at_succ
attribute [local go_sem] floatUpon pick

def lockB (s : Shf) (r : Rec) : Bool := r.keys.any (fun y => heldB s y false) || r.ws.any (fun y => heldB s y.key true)

section
variable {W : World} {F : Nat → Prop} {g bc bp : Nat} {v : Value} {K : List KI} {P : List RI} {s : Shf}

set_option maxRecDepth 20000 in
set_option maxHeartbeats 8000000 in
theorem llocked_any (h : LAt W F g bc bp v K P s) (hs : ShOk s) (x : RI) (hv : RecVal W x.A x.B x.c x.d x.l) (hk : x.l.keys.length ≤ 1024) (hw : x.l.ws.length ≤ 1024) :
    Calls Tryz.prog 61 #[.pointer (some ⟨g, 0, none⟩), .agg (rcs x).toArray] W fun e w' => e = .returned (.bool (lockB s x.l)) ∧ Below W.heap.size W w' := by
  obtain ⟨r, A, B, c, d⟩ := x
  simp only at hv hk hw ⊢
  obtain ⟨W2, hW2⟩ : ∃ W2, (W.alloc (.cells #[.pointer (some ⟨g, 0, none⟩)] 27)).alloc (.cells (c9 r (.slice A r.keys.length c) (.slice B r.ws.length d)).toArray 37) = W2 := ⟨_, rfl⟩
  obtain ⟨sz2, b1, b2⟩ := blk2 W (.cells #[.pointer (some ⟨g, 0, none⟩)] 27) (.cells (c9 r (.slice A r.keys.length c) (.slice B r.ws.length d)).toArray 37)
  rw [hW2] at sz2 b1 b2
  have hb2 : Below W.heap.size W W2 := by rw [← hW2]; exact ((Below.refl _ W).alloc (Nat.le_refl _) _).alloc (by simp) _
  have hc1 : Cel W2 W.heap.size 27 [.pointer (some ⟨g, 0, none⟩)] := b1
  have hc2 : Cel W2 (W.heap.size + 1) 37 (c9 r (.slice A r.keys.length c) (.slice B r.ws.length d)) := b2
  have h2 := h.below hb2
  have HK := Lib.hid (fun V (hb : Below W2.heap.size W2 V) => lkeys_any (h2.below hb) hs W.heap.size (Nat.lt_of_lt_of_le hc1.lt hb.size) ((hc1.below hb).cell (i := 0) rfl) A c r.keys ((hv.ks.below hb2).below hb) hk)
  have HW := Lib.hid (fun V (hb : Below W2.heap.size W2 V) => lwrs_any (h2.below hb) hs W.heap.size (Nat.lt_of_lt_of_le hc1.lt hb.size) ((hc1.below hb).cell (i := 0) rfl) B d r.ws ((hv.ws.below hb2).below hb) hw)
  have HE := Lib.hid (show lockB s r = (r.keys.any (fun y => heldB s y false) || r.ws.any (fun y => heldB s y.key true)) from rfl)
  generalize r.keys.any (fun y => heldB s y false) = kb at HK HE
  generalize r.ws.any (fun y => heldB s y.key true) = wb at HW HE
  have HB2 := Lib.hid hb2
  have HC2 := Lib.hid hc2
  show Calls _ _ #[_, .agg #[.int .i64 r.kind, .int .i64 r.txn, .int .i64 r.ts, .int .i64 r.coord, .string r.key, .string r.text, .bool r.dead, .slice A r.keys.length c, .slice B r.ws.length d]] _ _
  have q7 := hc2.cell (i := 7) rfl
  clear h hs hv hk hw sz2 b1 b2 hb2 hc1 hc2 h2
  go_enter Tryz.func61, Tryz.ntmps61
  go_upto_region 1 with fail
  clear hW2
  go_wp2_with fail
  refine (HK.out _ (Below.refl _ _)).mono ?_
  rintro e1 w1 ⟨rfl, hb⟩
  have HB3 := Lib.hid hb
  have q8 := (HC2.out.below hb).cell (i := 8) rfl
  clear hb HK q7
  cases kb with
  | true =>
    clear q8
    go_wp2_with fail
    go_ret
    exact ⟨by rw [HE.out]; rfl, HB2.out.trans (HB3.out.mono HB2.out.size)⟩
  | false =>
    go_wp2_with fail
    refine (HW.out _ HB3.out).mono ?_
    rintro e2 w2 ⟨rfl, hb⟩
    have HB4 := Lib.hid (HB3.out.trans (hb.mono HB3.out.size))
    clear hb HW q8
    go_wp2_with fail
    go_ret
    exact ⟨by rw [HE.out]; rfl, HB2.out.trans (HB4.out.mono HB2.out.size)⟩

theorem away_below {w' : World} (hb : Below W.heap.size W w') : Far F W w' := Far.of hb

set_option maxRecDepth 20000 in
set_option maxHeartbeats 8000000 in
theorem lprepare_any (h : LAt W F g bc bp v K P s) (hs : ShOk s) (x : RI) (hv : RecVal W x.A x.B x.c x.d x.l) (hx : RecOk x.l) (hx1 : x.l.kind = 1) :
    Calls Tryz.prog 29 #[.pointer (some ⟨g, 0, none⟩), .agg (rcs x).toArray] W fun e w' => e = .returned (.int .i64 (prepareP s x.l).2) ∧ LRep w' (Gr F W w') g (prepareP s x.l).1 ∧ Far F W w' := by
  have hu := ups_of hx hx1
  obtain ⟨r, A, B, c, d⟩ := x
  simp only at hv hx hx1 hu ⊢
  have ht1 := hv.rng.txn
  obtain ⟨W1, hW1⟩ : ∃ W1, W.alloc (.cells (c9 r (.slice A r.keys.length c) (.slice B r.ws.length d)).toArray 37) = W1 := ⟨_, rfl⟩
  have hb1 : Below W.heap.size W W1 := by rw [← hW1]; exact (Below.refl _ W).alloc (Nat.le_refl _) _
  have hc1 : Cel W1 W.heap.size 37 (c9 r (.slice A r.keys.length c) (.slice B r.ws.length d)) := by rw [← hW1]; exact (blk1 W _).2
  have h1 := h.below hb1
  have HSt := Lib.hid (lstate_any h1 hs r.txn ht1.1 ht1.2)
  have HLo := Lib.hid (fun V (hb : Below W1.heap.size W1 V) => llocked_any (h1.below hb) hs ⟨r, A, B, c, d⟩ ((hv.below hb1).below hb) hu.kl hu.wl)
  have HCo := Lib.hid (fun V (hb : Below W1.heap.size W1 V) => copied_any ⟨r, A, B, c, d⟩ V ((hv.below hb1).below hb) hu.kl hu.wl)
  have HH := Lib.hid (fun V (hb : Below W1.heap.size W1 V) => h1.below hb)
  have HC := Lib.hid (fun V (hb : Below W1.heap.size W1 V) => hc1.below hb)
  have HB1 := Lib.hid hb1
  have HF := Lib.hid h.fl
  have HMu := Lib.hid h.mu_lt
  have hpl : P.length = s.p.length := h.plen
  have hp10 : (P.length : Int) ≤ 1024 := by have := hs.pl; omega
  have HPl := Lib.hid hpl
  have HSx := Lib.hid (show prepareP s r = if (stateP s r.txn).1 ≠ 0 then (s, 6) else if lockB s r = true then (s, 180) else if 1024 ≤ s.p.length then (s, 2) else (⟨s.k, insP s.p r, s.e, s.over⟩, 0) by
    unfold prepareP lockB
    by_cases h1 : (stateP s r.txn).1 ≠ 0
    · rw [if_pos h1, if_pos h1]
    · rw [if_neg h1, if_neg h1]
      cases r.keys.any (fun y => heldB s y false) <;> cases r.ws.any (fun y => heldB s y.key true) <;> simp)
  have HZ := Lib.hid (show (stateP s r.txn).1 = 0 → prepOf s.p r.txn = none from fun hz => (state_zero.1 hz).1)
  have HT := Lib.hid ht1
  have HOld := Lib.hid (show ∀ V, Below W1.heap.size W1 V → ∀ e, prepareP s r = (s, e) → LRep V (Gr F W V) g (prepareP s r).1 ∧ Far F W V from fun V hb e he => by
    have hbb := hb1.trans (hb.mono hb1.size)
    rw [he]
    exact ⟨⟨bc, bp, v, K, P, h.gr hbb.size (h.below hbb)⟩, Far.of hbb⟩)
  show Calls _ _ #[_, .agg #[.int .i64 r.kind, .int .i64 r.txn, .int .i64 r.ts, .int .i64 r.coord, .string r.key, .string r.text, .bool r.dead, .slice A r.keys.length c, .slice B r.ws.length d]] _ _
  have q1 := hc1.cell (i := 1) rfl
  generalize hst : stateP s r.txn = st at HSt HSx HZ
  obtain ⟨st1, st2⟩ := st
  simp only at HSt HSx HZ
  clear h hs hv hx hx1 hu ht1 hb1 hc1 h1 hpl hst
  go_enter Tryz.func29, Tryz.ntmps29
  go_upto_region 1 with fail
  clear hW1
  go_wp2_with fail
  refine HSt.out.mono ?_
  rintro e1 w1 ⟨rfl, hb⟩
  have HB2 := Lib.hid hb
  clear hb HSt q1
  by_cases h0 : st1 = 0
  · subst h0
    have HS2 := Lib.hid (show prepareP s r = if lockB s r = true then (s, 180) else if 1024 ≤ s.p.length then (s, 2) else (⟨s.k, insP s.p r, s.e, s.over⟩, 0) by rw [HSx.out, if_neg (by simp)])
    have hc2 := HC.out _ HB2.out
    have q0 := hc2.cell (i := 0) rfl
    have q1 := hc2.cell (i := 1) rfl
    have q2 := hc2.cell (i := 2) rfl
    have q3 := hc2.cell (i := 3) rfl
    have q4 := hc2.cell (i := 4) rfl
    have q5 := hc2.cell (i := 5) rfl
    have q6 := hc2.cell (i := 6) rfl
    have q7 := hc2.cell (i := 7) rfl
    have q8 := hc2.cell (i := 8) rfl
    have HLo2 : Hid (∀ V, Below W1.heap.size W1 V → Calls Tryz.prog 61 #[.pointer (some ⟨g, 0, none⟩), .agg #[.int .i64 r.kind, .int .i64 r.txn, .int .i64 r.ts, .int .i64 r.coord, .string r.key, .string r.text, .bool r.dead, .slice A r.keys.length c, .slice B r.ws.length d]] V fun e w' => e = .returned (.bool (lockB s r)) ∧ Below V.heap.size V w') := HLo
    clear hc2 HSx HLo
    generalize lockB s r = lb at HLo2 HS2
    go_wp2_with fail
    refine (HLo2.out _ HB2.out).mono ?_
    rintro e2 w2 ⟨rfl, hb⟩
    have HB3 := Lib.hid (HB2.out.trans (hb.mono HB2.out.size))
    clear hb HLo2 q0 q1 q2 q3 q4 q5 q6 q7 q8 HB2
    cases lb with
    | true =>
      have E := Lib.hid (show prepareP s r = (s, 180) by rw [HS2.out, if_pos rfl])
      clear HS2
      go_wp2_with fail
      go_ret
      exact ⟨(by rw [E.out]; first | done | rfl), HOld.out _ HB3.out _ E.out⟩
    | false =>
      have HS3 := Lib.hid (show prepareP s r = if 1024 ≤ s.p.length then (s, 2) else (⟨s.k, insP s.p r, s.e, s.over⟩, 0) by rw [HS2.out, if_neg (by simp)])
      have h3 := HH.out _ HB3.out
      have s1 := h3.cel.cell (i := 1) rfl
      have hln := h3.mp.len Tryz.underlying60 3
      rw [List.length_map] at hln
      clear HS2 h3
      by_cases hful : P.length = 1024
      · have E := Lib.hid (show prepareP s r = (s, 2) by rw [HS3.out, if_pos (by rw [← HPl.out, hful]; exact Nat.le_refl _)])
        rw [hful] at hln
        clear HS3 hful hp10 HPl
        go_wp2_with fail
        go_ret
        exact ⟨(by rw [E.out]; first | done | rfl), HOld.out _ HB3.out _ E.out⟩
      · have E := Lib.hid (show prepareP s r = (⟨s.k, insP s.p r, s.e, s.over⟩, 0) by rw [HS3.out, if_neg (by rw [← HPl.out]; omega)])
        have pl : ¬ (P.length : Int) = 1024 := by omega
        clear HS3 HOld
        go_upto_region 8 with fail
        clear s1 hln
        refine wp_region_said 8 [25, 26, 27, 28, 29, 30, 31, 32]
          [.is (.pointer (some ⟨g, 0, none⟩)), .is (.pointer (some ⟨g, 0, none⟩)), .is (.pointer (some ⟨g, 1, none⟩)), .is (.map (some bp)), .is (.pointer (some ⟨W.heap.size, 1, none⟩)), .is (.int .i64 r.txn), .is (.agg #[.int .i64 r.kind, .int .i64 r.txn, .int .i64 r.ts, .int .i64 r.coord, .string r.key, .string r.text, .bool r.dead, .slice A r.keys.length c, .slice B r.ws.length d]),
           .own (fun u V => ∃ y : RI, u = .agg (rcs y).toArray ∧ y.l = r ∧ RecVal V y.A y.B y.c y.d y.l ∧ NewR W1.heap.size y) (fun _ _ _ h hb => by obtain ⟨y, h1, h2, h3, h4⟩ := h; exact ⟨y, h1, h2, h3.below hb, h4⟩)]
          (fun V => Below W1.heap.size W1 V) (by kernel_rfl) (by kernel_rfl) (by kernel_rfl) (by kernel_rfl) (by kernel_rfl) (fun V V' h hb => h.trans (hb.mono h.size)) HB3.out ?steps ?last
        case steps =>
          simp only [List.take_succ_cons, List.take_zero]
          refine ⟨?_, ?_, ?_, ?_, ?_, ?_, ?_, ?_, trivial⟩
          all_goals
            intro vs V ρ hρ hc hf hg hI hH hd R' hR
            have s1 := (HH.out _ hI).cel.cell (i := 1) rfl
            have hc2 := HC.out _ hI
            have q0 := hc2.cell (i := 0) rfl
            have q1 := hc2.cell (i := 1) rfl
            have q2 := hc2.cell (i := 2) rfl
            have q3 := hc2.cell (i := 3) rfl
            have q4 := hc2.cell (i := 4) rfl
            have q5 := hc2.cell (i := 5) rfl
            have q6 := hc2.cell (i := 6) rfl
            have q7 := hc2.cell (i := 7) rfl
            have q8 := hc2.cell (i := 8) rfl
            have HR := Lib.hid hR
            have HI := Lib.hid hI
            simp [depsOf, Region.binds, sayAt, Say.holds] at hd
            clear hR hI hc2
            go_simp
            first
              | exact HR.out _ _ (by simp [sayAt, Say.holds]) (Below.refl _ _) (by simp [sayAt, Say.isBlk])
              | (refine (HCo.out _ HI.out).mono ?_; rintro e w' ⟨y, rfl, hyl, hyv, hya, hyb, hb⟩; exact ⟨_, rfl, HR.out _ _ ⟨y, rfl, hyl, hyv, ⟨fun hp ad e => Nat.le_trans HI.out.size (hya (by rw [hyl] at hp; exact hp) ad e), fun hp ad e => Nat.le_trans HI.out.size (hyb (by rw [hyl] at hp; exact hp) ad e)⟩⟩ hb (by simp [sayAt, Say.isBlk])⟩)
        case last =>
          intro vs V hI hb hg hd
          have g3 := hg 3 (by omega)
          have g5 := hg 5 (by omega)
          obtain ⟨y, g7, hyl, hyv, hyn⟩ := hg 7 (by omega)
          simp only [sayAt, Say.holds, List.getD_cons_succ, List.getD_cons_zero] at g3 g5
          simp only [List.take_succ_cons, List.take_zero, List.drop_succ_cons, List.drop_zero, putAll, Act.put, List.setIfInBounds_toArray, List.set_cons_succ, List.set_cons_zero, Nat.zero_add, Nat.reduceAdd]
          rw [g3, g5, g7]
          have h8 := HH.out _ hI
          have hpn := HZ.out trivial
          have hno := h8.prep_out hpn
          have hpm : (y.l.txn, Value.agg (rcs y).toArray) = pp y := rfl
          clear g3 g5 g7 hg hd
          refine wpList_update_is intQ rfl _ _ _ 60 37 rfl Tryz.underlying60 bp (P.map pp) rfl h8.mp ?c1 r.txn (intQ_ok HT.out.1 HT.out.2) (.agg (rcs y).toArray) rfl rfl ?_
          case c1 => rw [List.length_map]; unfold maxLen; omega
          intro w' hm ht
          rw [outM_none hno, ← hyl, hpm] at hm
          have hm2 : MapIs intQ w' bp ((insRI P y).map pp) := hm.perm ((insRI_perm P y).map pp).symm
          have hk : ∀ k, k ≠ bp → w'.heap[k]? = V.heap[k]? := fun k hk => turned_other ht hk
          have hsz : V.heap.size ≤ w'.heap.size := by rw [turned_size ht]; exact Nat.le_refl _
          have hbV := HB1.out.trans (hI.mono HB1.out.size)
          have hFr := h8.fm bp (.inr (.inr (.inl rfl)))
          have hL : LAt w' (Gr F W w') g bc bp v K (insRI P y) ⟨s.k, insP s.p r, s.e, s.over⟩ := by
            refine LAt.setP h8 hk hsz hm2 (fun x hx => ?_) (by rw [insRI_map, h8.ep, hyl]) (fun _ hf => .inl hf) (fun x hx => ?_) (gr_lt HF.out (Nat.le_trans hbV.size hsz))
            · rcases List.mem_cons.1 ((insRI_perm P y).mem_iff.1 hx) with rfl | hx
              · exact pval_new hyv hyn (fun k hk => Nat.lt_of_lt_of_le (HMu.out k hk) HB1.out.size)
              · exact h8.pv x hx
            · rcases List.mem_cons.1 ((insRI_perm P y).mem_iff.1 hx) with rfl | hx
              · exact newR_in hyv hyn HB1.out.size hsz
              · exact ⟨fun hp ad e => .inl ((h8.fp x hx).1 hp ad e), fun hp ad e => .inl ((h8.fp x hx).2 hp ad e)⟩
          have HLr := Lib.hid (show LRep w' (Gr F W w') g (prepareP s r).1 from by rw [E.out]; exact ⟨_, _, _, _, _, hL⟩)
          have HAw := Lib.hid (show Far F W w' from ⟨⟨Nat.le_trans hbV.size hsz, fun k hlt hn => (hk k (fun e => hn (by rw [e]; exact hFr))).trans (hbV.block k hlt)⟩, (st_below hbV).trans (st_turned ht)⟩)
          clear hL hFr hbV hsz hk hm2 hm ht hno hpn h8 hyv hyn hb hI hpm
          go_wp2_with fail
          go_ret
          exact ⟨(by rw [E.out]; first | done | rfl), HLr.out, HAw.out⟩
  · have E := Lib.hid (show prepareP s r = (s, 6) by rw [HSx.out, if_pos h0])
    clear HSx HZ
    go_wp2_with fail
    go_ret
    exact ⟨(by rw [E.out]; first | done | rfl), HOld.out _ HB2.out _ E.out⟩

end

end Sh
end Go.Proofs.YtiobhbagjokpcaaGreat

/- Shelves in plain lists: writes at once, and places of chains; no condition. -/
namespace Go.Proofs.YtiobhbagjokpcaaGreat
namespace Sh
open Ch Rc Lt

/-! ### writes at once -/

def vrW (ts : Int) (x : Wr) : Vr := ⟨ts, x.shard, x.dead⟩

/-- writes that may be versions since a time -/
structure MayW (ts : Int) (ws : List Wr) : Prop where
  ts : 1 ≤ ts ∧ ts ≤ 1125899906842624
  each : ∀ x ∈ ws, keyOk x.key ∧ wrOk x
  apart : ws.Pairwise (fun x y => x.key ≠ y.key)

theorem MayW.vr {ts : Int} {ws : List Wr} (h : MayW ts ws) {x : Wr} (hx : x ∈ ws) : vrOk (vrW ts x) := by
  have := (h.each x hx).2
  unfold wrOk at this
  exact ⟨h.ts.1, h.ts.2, this.1, this.2⟩

theorem add_is {l : List Vr} (h : ChOk l) {v : Vr} (hv : vrOk v) : addP l v = if v.ts ≤ lastT l then ([], 110) else if 1024 ≤ l.length then ([], 2) else (l ++ [v], 0) := by
  have h2 : (chkP [v]).2 = 0 := chk_ok.2 ⟨by simp, fun x hx => by rw [List.mem_singleton.1 hx]; exact hv, by simp⟩
  unfold addP
  rw [if_neg (by rw [chk_zero h]; simp), if_neg (by rw [h2]; simp)]
  by_cases h0 : v.ts ≤ lastT l
  · have hl : 0 < l.length := by
      cases l with
      | nil => have := hv.1; simp [lastT] at h0; omega
      | cons _ _ => simp
    rw [if_pos ⟨hl, h0⟩, if_pos h0]
  · rw [if_neg (fun hc => h0 hc.2), if_neg h0]

def writeP (s : Shf) (ts : Int) (ws : List Wr) : Shf × Int :=
  if ws.any (fun x => decide (ts ≤ lastT (chainK s.k x.key))) then (s, 110)
  else if longW s.k ws s.k.length then (s, 2)
  else (⟨addW ts ws s.k, s.p, s.e, s.over⟩, 0)

def newN (k : List Kc) (ws : List Wr) : Nat := (ws.filter (fun x => !hasK k x.key)).length

theorem longW_is {k : List Kc} : ∀ {ws : List Wr} {n : Nat}, n ≤ 1024 → longW k ws n = (ws.any (fun x => decide (1024 ≤ (chainK k x.key).length)) || decide (1024 < n + newN k ws))
  | [], n, h => by
    show false = (false || decide (1024 < n + 0))
    rw [decide_eq_false (by omega)]; rfl
  | x :: r, n, h => by
    have hn : newN k (x :: r) = (if hasK k x.key then 0 else 1) + newN k r := by
      unfold newN
      cases hh : hasK k x.key with
      | true => rw [List.filter_cons_of_neg (by simp [hh])]; simp
      | false => rw [List.filter_cons_of_pos (by simp [hh]), List.length_cons]; simp; omega
    unfold longW
    rw [List.any_cons, hn]
    by_cases h1 : (if hasK k x.key then n else n + 1) ≤ 1024
    · rw [longW_is h1]
      have h2 : ¬ 1024 < (if hasK k x.key then n else n + 1) := by omega
      rw [decide_eq_false h2]
      cases hasK k x.key
      · simp only [Bool.false_eq_true, if_false]
        rw [show n + 1 + newN k r = n + (1 + newN k r) by omega, Bool.or_false, Bool.or_assoc]
      · simp only [if_true]
        rw [Nat.zero_add, Bool.or_false, Bool.or_assoc]
    · have h2 : 1024 < (if hasK k x.key then n else n + 1) := by omega
      have h3 : 1024 < n + ((if hasK k x.key then 0 else 1) + newN k r) := by
        cases hh : hasK k x.key
        · rw [hh] at h2; simp at h2 ⊢; omega
        · rw [hh] at h2; simp at h2; omega
      rw [decide_eq_true h2, decide_eq_true h3]
      simp

theorem chain_none {k : List Kc} (hz : ∀ x ∈ k, x.l ≠ []) {key : ByteArray} : chainK k key = [] ↔ hasK k key = false := by
  unfold chainK hasK
  cases hf : findK k key with
  | none => simp
  | some x => simp [hz x (find_mem hf).1]

theorem ver_write {s : Shf} (hs : ShOk s) {key : ByteArray} {v : Vr} (hv : vrOk v) : verP s key v = writeP s v.ts [⟨key, v.shard, v.dead⟩] := by
  have hc := hs.kok.chain key
  have ha := add_is hc hv
  have hl := hs.kl
  have e1 : ([⟨key, v.shard, v.dead⟩] : List Wr).any (fun x => decide (v.ts ≤ lastT (chainK s.k x.key))) = decide (v.ts ≤ lastT (chainK s.k key)) := by simp
  have e2 : ([⟨key, v.shard, v.dead⟩] : List Wr).any (fun x => decide (1024 ≤ (chainK s.k x.key).length)) = decide (1024 ≤ (chainK s.k key).length) := by simp
  unfold verP writeP
  rw [longW_is hs.kl, e1, e2]
  by_cases h1 : v.ts ≤ lastT (chainK s.k key)
  · rw [if_pos h1] at ha
    rw [ha, if_pos (by simp), decide_eq_true h1, if_pos rfl]
  · rw [if_neg h1] at ha
    rw [decide_eq_false h1]
    by_cases h2 : 1024 ≤ (chainK s.k key).length
    · rw [if_pos h2] at ha
      rw [ha, if_pos (by simp), if_neg (by simp), decide_eq_true h2, if_pos (by simp)]
    · rw [if_neg h2] at ha
      rw [ha, if_neg (by simp), decide_eq_false h2, Bool.false_or, if_neg (c := false = true) (by simp)]
      cases hh : hasK s.k key with
      | true =>
        have e : newN s.k [⟨key, v.shard, v.dead⟩] = 0 := by unfold newN; simp [hh]
        rw [e, if_neg (by simp), if_neg (by simp; omega)]
        rfl
      | false =>
        have e : newN s.k [⟨key, v.shard, v.dead⟩] = 1 := by unfold newN; simp [hh]
        rw [e]
        by_cases h3 : 1024 ≤ s.k.length
        · rw [if_pos ⟨rfl, h3⟩, if_pos (by simp; omega)]
        · rw [if_neg (fun hx => h3 hx.2), if_neg (by simp; omega)]
          rfl

theorem do_write {s : Shf} {txn ts : Int} (h1 : ¬ 1 < (stateP s txn).1) {r : Rec} (hp : prepOf s.p txn = some r) (ht : 0 < ts) : doP s txn ts = if (writeP s ts r.ws).2 ≠ 0 then (s, (writeP s ts r.ws).2) else (endP (writeP s ts r.ws).1 txn ts, 0) := by
  unfold doP writeP
  rw [if_neg h1, hp]
  simp only
  rw [if_pos ht]
  split
  · rfl
  · split <;> rfl

theorem addW_app {ts : Int} (x : Wr) : ∀ (a : List Wr) (k : List Kc), addW ts (a ++ [x]) k = addK (addW ts a k) x.key ⟨ts, x.shard, x.dead⟩
  | [], _ => rfl
  | y :: r, k => by
    show addW ts (r ++ [x]) _ = _
    rw [addW_app x r]
    rfl

/-- what one more write makes -/
theorem addW_next {k : List Kc} (hk : KOk k) {ts : Int} {ws : List Wr} (hm : MayW ts ws) (hl : ∀ x ∈ ws, lastT (chainK k x.key) < ts) (hn : ∀ x ∈ ws, (chainK k x.key).length < 1024) {j : Nat} (hj : j < ws.length) :
    addW ts (ws.take (j + 1)) k = putK (addW ts (ws.take j) k) ws[j].key (chainK k ws[j].key ++ [vrW ts ws[j]]) ∧ KOk (addW ts (ws.take j) k) := by
  have hsub : ∀ x ∈ ws.take j, x ∈ ws := fun x hx => List.mem_of_mem_take hx
  obtain ⟨i1, i2, _⟩ := addW_ok hm.ts (ws.take j) k hk (fun x hx => hm.each x (hsub x hx)) (hm.apart.sublist (List.take_sublist ..)) (fun x hx => hl x (hsub x hx)) (fun x hx => hn x (hsub x hx))
  refine ⟨?_, i1⟩
  rw [List.take_succ_eq_append_getElem hj, addW_app]
  unfold addK
  have hch : chainK (addW ts (ws.take j) k) ws[j].key = chainK k ws[j].key := i2 _ (fun x hx e => by
    obtain ⟨i, hi, rfl⟩ := List.getElem_of_mem hx
    rw [List.length_take] at hi
    rw [List.getElem_take] at e
    exact List.pairwise_iff_getElem.1 hm.apart i j (by omega) hj (by omega) e)
  rw [hch, add_is (hk.chain _) (v := ⟨ts, ws[j].shard, ws[j].dead⟩) (hm.vr (List.getElem_mem hj))]
  have h1 := hl _ (List.getElem_mem hj)
  have h2 := hn _ (List.getElem_mem hj)
  rw [if_neg (by show ¬ ts ≤ _; omega), if_neg (by omega)]
  rfl

end Sh
end Go.Proofs.YtiobhbagjokpcaaGreat

/- The landed shelf: where chains lie, one put in another's place; no condition. -/
namespace Go.Proofs.YtiobhbagjokpcaaGreat
namespace Sh
open Go.RowKit Bk Ch Lt Rc Tr

def putI : List KI → KI → List KI
  | [], x => [x]
  | y :: r, x => if ltK y.k.name x.k.name then y :: putI r x else if y.k.name = x.k.name then x :: r else x :: y :: r

theorem putI_map : ∀ (K : List KI) (x : KI), (putI K x).map (·.k) = putK (K.map (·.k)) x.k.name x.k.l
  | [], x => rfl
  | y :: r, x => by
    unfold putI
    rw [List.map_cons]
    unfold putK
    by_cases h1 : ltK y.k.name x.k.name = true
    · rw [if_pos h1, if_pos h1, List.map_cons, putI_map r x]
    · rw [if_neg h1, if_neg h1]
      by_cases h2 : y.k.name = x.k.name
      · rw [if_pos h2, if_pos h2]; rfl
      · rw [if_neg h2, if_neg h2]; rfl

theorem putI_mem : ∀ {K : List KI} {x y : KI}, y ∈ putI K x → y = x ∨ y ∈ K
  | [], x, y, h => .inl (List.mem_singleton.1 h)
  | z :: r, x, y, h => by
    unfold putI at h
    by_cases h1 : ltK z.k.name x.k.name = true
    · rw [if_pos h1] at h
      rcases List.mem_cons.1 h with rfl | h
      · exact .inr (List.mem_cons_self ..)
      · exact (putI_mem h).imp id (List.mem_cons_of_mem _)
    · rw [if_neg h1] at h
      by_cases h2 : z.k.name = x.k.name
      · rw [if_pos h2] at h
        rcases List.mem_cons.1 h with rfl | h
        · exact .inl rfl
        · exact .inr (List.mem_cons_of_mem _ h)
      · rw [if_neg h2] at h
        rcases List.mem_cons.1 h with rfl | h
        · exact .inl rfl
        · exact .inr h

theorem putI_perm : ∀ {K : List KI} (x : KI), Sorted (K.map (·.k)) → ((putI K x).map kp).Perm (kp x :: outM (K.map kp) x.k.name)
  | [], x, _ => List.Perm.refl _
  | y :: r, x, h => by
    obtain ⟨h1, h2⟩ := List.pairwise_cons.1 h
    have hfar : ∀ z ∈ r, ltK y.k.name z.k.name = true := fun z hz => h1 z.k (List.mem_map_of_mem hz)
    unfold putI
    by_cases hl : ltK y.k.name x.k.name = true
    · rw [if_pos hl]
      have e : outM ((y :: r).map kp) x.k.name = kp y :: outM (r.map kp) x.k.name := by
        unfold outM
        rw [List.map_cons, List.filter_cons_of_pos (by show decide (y.k.name ≠ x.k.name) = true; exact decide_eq_true (lt_ne hl))]
      rw [e, List.map_cons]
      exact ((putI_perm x h2).cons _).trans (List.Perm.swap _ _ _)
    · rw [if_neg hl]
      by_cases h3 : y.k.name = x.k.name
      · rw [if_pos h3]
        have e : outM ((y :: r).map kp) x.k.name = r.map kp := by
          unfold outM
          rw [List.map_cons, List.filter_cons_of_neg (by show ¬ decide (y.k.name ≠ x.k.name) = true; simp [h3]), List.filter_eq_self]
          intro p hp
          obtain ⟨z, hz, rfl⟩ := List.mem_map.1 hp
          have := lt_ne (hfar z hz)
          simp only [decide_eq_true_eq]
          exact fun e => this (h3.trans e.symm)
        rw [e, List.map_cons]
      · rw [if_neg h3]
        have hk : ltK x.k.name y.k.name = true := by
          rcases lt_total x.k.name y.k.name with h | h | h
          · exact h
          · exact absurd h.symm h3
          · exact absurd h hl
        have e : outM ((y :: r).map kp) x.k.name = (y :: r).map kp := by
          unfold outM
          rw [List.filter_eq_self]
          intro p hp
          obtain ⟨z, hz, rfl⟩ := List.mem_map.1 hp
          simp only [decide_eq_true_eq]
          rcases List.mem_cons.1 hz with rfl | hz
          · exact fun e => lt_ne hk e.symm
          · exact fun e => lt_ne (lt_trans hk (hfar z hz)) e.symm
        rw [e]
        exact List.Perm.refl _

end Sh
end Go.Proofs.YtiobhbagjokpcaaGreat
