/- Parts of the proof, joined: ShRef11, RcCheck0, RcCheck1; their conditions stand with each. -/
import Derived.Test.YtbkanoblcojdfaaGreatM3
import Derived.Test.YtbkanoblcojdfaaGreatM16

namespace Go.Proofs.YtbkanoblcojdfaaGreat
namespace Sh
open Go.RowKit Bk Ch Lt Rc Tr
attribute [local go_sem ↓] Go.wp_at_zero Go.wp_at_succ
attribute [local go_sem] floatUpon pick
theorem addW_snoc (ts : Int) : ∀ (l : List Wr) (x : Wr) (k : List Kc), addW ts (l ++ [x]) k = addK (addW ts l k) x.key ⟨ts, x.shard, x.dead⟩
  | [], _, _ => rfl
  | _ :: r, x, _ => addW_snoc ts r x _
theorem longW_take {k : List Kc} : ∀ {ws : List Wr} {n : Nat} (i : Nat), longW k ws n = false → longW k (ws.take i) n = false
  | _, _, 0, _ => rfl
  | [], _, _ + 1, _ => rfl
  | x :: r, n, i + 1, h => by
    rw [List.take_succ_cons]
    unfold longW at h ⊢
    rw [Bool.or_eq_false_iff] at h ⊢
    exact ⟨h.1, longW_take i h.2⟩
theorem longW_drop {k : List Kc} {ws : List Wr} {n i : Nat} (hi : i < ws.length) : longW k (ws.drop i) n = ((decide (1024 ≤ (chainK k ws[i].key).length) || decide (1024 < if hasK k ws[i].key then n else n + 1)) || longW k (ws.drop (i + 1)) (if hasK k ws[i].key then n else n + 1)) := by
  rw [List.drop_eq_getElem_cons hi]
  rfl
theorem addW_pre {ts : Int} (hts : 1 ≤ ts ∧ ts ≤ 1125899906842624) {ws : List Wr} {k : List Kc} (hk : KOk k) (hl : k.length ≤ 1024) (w1 : ∀ x ∈ ws, keyOk x.key ∧ wrOk x) (w2 : ws.Pairwise (fun x y => x.key ≠ y.key)) (h3 : ∀ x ∈ ws, lastT (chainK k x.key) < ts) (h4 : longW k ws k.length = false) (i : Nat) : KOk (addW ts (ws.take i) k) ∧ (addW ts (ws.take i) k).length ≤ 1024 :=
  have hm : ∀ x ∈ ws.take i, x ∈ ws := fun _ hx => List.mem_of_mem_take hx
  ⟨(addW_ok hts _ k hk (fun x hx => w1 x (hm x hx)) (w2.sublist (List.take_sublist ..)) (fun x hx => h3 x (hm x hx)) (longW_chain (longW_take i h4))).1,
    addW_len hts _ k hk (fun x hx => w1 x (hm x hx)) (w2.sublist (List.take_sublist ..)) (fun x hx => h3 x (hm x hx)) hl (longW_take i h4)⟩
theorem do_end {s : Shf} {txn ts : Int} (h1 : ¬ 1 < (stateP s txn).1) (h2 : ¬ ((stateP s txn).1 = 1 ∧ 0 < ts)) : doP s txn ts = (endP s txn ts, 0) := by
  unfold doP
  rw [if_neg h1]
  cases hp : prepOf s.p txn with
  | none => rfl
  | some r =>
    have h3 : (stateP s txn).1 = 1 := by unfold stateP; rw [hp]
    simp only
    rw [if_neg (fun h => h2 ⟨h3, h⟩)]
theorem do_some {s : Shf} {txn ts : Int} {r : Rec} (hp : prepOf s.p txn = some r) (h2 : 0 < ts) : doP s txn ts = if r.ws.any (fun x => decide (ts ≤ lastT (chainK s.k x.key))) = true then (s, 110) else if longW s.k r.ws s.k.length = true then (s, 2) else (endP ⟨addW ts r.ws s.k, s.p, s.e, s.over⟩ txn ts, 0) := by
  have h3 : stateP s txn = (1, 0) := by unfold stateP; rw [hp]
  unfold doP
  rw [h3, if_neg (by simp), hp]
  simp only
  rw [if_pos h2]
theorem state_one {s : Shf} {txn : Int} (h : ∀ r ∈ s.p, r.txn ≠ txn) : (stateP s txn).1 ≠ 1 := by
  have hp : prepOf s.p txn = none := by
    unfold prepOf
    rw [List.find?_eq_none]
    intro r hr
    simpa using h r hr
  unfold stateP
  rw [hp]
  simp only
  cases endOf s.e txn with
  | none => simp
  | some x => simp only; split <;> simp
theorem shok_k {s : Shf} (h : ShOk s) {k : List Kc} (hk : KOk k) (hl : k.length ≤ 1024) : ShOk ⟨k, s.p, s.e, s.over⟩ :=
  ⟨hk.ks, hk.kn, hk.kc, hk.kz, hl, h.pr, h.po, h.pl, h.pa, h.el, h.ed, h.eo, h.ep, h.ov⟩
section
variable {W : World} {F : Nat → Prop} {g : Nat} {A B C : Option Addr} {a b c : Nat} {K : List KI} {P : List RI} {s : Shf}
set_option maxRecDepth 20000 in
set_option maxHeartbeats 16000000 in
theorem rdo_any (h : RAt W F g A B C a b c K P s) (hs : ShOk s) (hF : ∀ k, F k → k < W.heap.size) (txn ts : Int) (hts : ts ≤ 1125899906842624) :
    Calls Tryz.prog 46 #[.pointer (some ⟨g, 0, none⟩), .int .i64 txn, .int .i64 ts] W fun e w' => e = .returned (.int .i64 (doP s txn ts).2) ∧ RRep w' F g (doP s txn ts).1 ∧ One g W w' := by
  have HSt := Lib.hid (rstate_any h hs.pl hs.el txn)
  have HH := Lib.hid (fun V (hb : Below W.heap.size W V) => h.below hb)
  have HPr := Lib.hid (fun V (hb : Below W.heap.size W V) => rprep_any (h.below hb) hs.pl txn)
  have HLa := Lib.hid (fun V (hb : Below W.heap.size W V) key => rshlast_any (h.below hb) hs.kok hs.kl key)
  have HAt := Lib.hid (fun V (hb : Below W.heap.size W V) key => rat_any (h.below hb) hs.ks hs.kl key)
  have HCh := Lib.hid (fun V (hb : Below W.heap.size W V) key => rchain_any (h.below hb) hs.ks hs.kl key)
  have HS := Lib.hid hs
  have HPl := Lib.hid h.plen
  have HKl := Lib.hid h.klen
  have HRep := Lib.hid h.ep
  have HOld := Lib.hid (show ∀ V, Below W.heap.size W V → ∀ e, doP s txn ts = (s, e) → RRep V F g (doP s txn ts).1 ∧ One g W V from fun V hb e he => ⟨⟨_, _, _, _, _, _, _, _, by rw [he]; exact h.below hb⟩, One.of hb⟩)
  have HEn := Lib.hid (fun V A' a' K' k' (hR : RAt V F g A' B C a' b c K' P ⟨k', s.p, s.e, s.over⟩) (hk : KOk k') (hl : k'.length ≤ 1024) (hV : W.heap.size ≤ V.heap.size) => rend_any hR (shok_k hs hk hl) (fun k hk => Nat.lt_of_lt_of_le (hF k hk) hV) txn ts)
  have HFl := Lib.hid hF
  obtain ⟨st, hst⟩ : ∃ st, stateP s txn = st := ⟨_, rfl⟩
  obtain ⟨st1, st2⟩ := st
  rw [hst] at HSt
  have H6 := Lib.hid (fun (a1 : 1 < st1) (a2 : st2 = ts) => show doP s txn ts = (s, 6) by unfold doP; rw [hst, if_pos a1, if_pos a2])
  have H120 := Lib.hid (fun (a1 : 1 < st1) (a2 : ¬ st2 = ts) => show doP s txn ts = (s, 120) by unfold doP; rw [hst, if_pos a1, if_neg a2])
  have HNo := Lib.hid (fun (a1 : ¬ 1 < st1) (a2 : ¬ (st1 = 1 ∧ 0 < ts)) => show doP s txn ts = (endP s txn ts, 0) from do_end (by rw [hst]; exact a1) (by rw [hst]; exact a2))
  have HOne := Lib.hid (fun (a1 : st1 = 1) (hno : ∀ r ∈ s.p, r.txn ≠ txn) => show False from state_one hno (by rw [hst]; exact a1))
  have HEn0 := Lib.hid (fun V (hb : Below W.heap.size W V) => HEn.out V A a K s.k (h.below hb) hs.kok hs.kl hb.size)
  have HPv := Lib.hid h.pv
  have HBd := Lib.hid h.bl.1
  simp only at HSt
  clear h hs hF hst
  go_enter Tryz.func46, Tryz.ntmps46
  go_wp2_with fail
  refine HSt.out.mono ?_
  rintro e1 w1 ⟨rfl, hb⟩
  have HB1 := Lib.hid hb
  clear hb HSt
  by_cases h1 : 1 < st1
  · have pg : st1 > 1 := h1
    by_cases h2 : st2 = ts
    · have E := Lib.hid (H6.out h1 h2)
      have pz : (st2 == ts) = true := by simpa using h2
      clear H6 H120 HNo HOne h2 h1
      go_wp2_with fail
      go_ret
      exact ⟨by rw [E.out]; rfl, HOld.out _ HB1.out _ E.out⟩
    · have E := Lib.hid (H120.out h1 h2)
      have pz : (st2 == ts) = false := by simpa using h2
      clear H6 H120 HNo HOne h2 h1
      go_wp2_with fail
      go_ret
      exact ⟨by rw [E.out]; rfl, HOld.out _ HB1.out _ E.out⟩
  have pg : ¬ st1 > 1 := h1
  by_cases h2 : st1 = 1 ∧ 0 < ts
  case neg =>
    have E := Lib.hid (HNo.out (by omega) h2)
    clear H6 H120 HNo HOne
    by_cases h3 : st1 = 1
    · subst h3
      have pt : ¬ ts > 0 := fun h => h2 ⟨rfl, h⟩
      clear h2 h1
      go_wp2_with fail
      refine (HEn0.out _ HB1.out).mono ?_
      rintro e2 w2 ⟨rfl, ⟨B', C', b', c', P', hR⟩, ho⟩
      have HR := Lib.hid hR
      have HO := Lib.hid ((One.of HB1.out).trans ho)
      clear hR ho
      go_wp2_with fail
      go_ret
      exact ⟨by rw [E.out]; rfl, ⟨_, _, _, _, _, _, _, _, by rw [E.out]; exact HR.out⟩, HO.out⟩
    · have pt : (st1 == 1) = false := by simpa using h3
      clear h2 h1 h3
      go_wp2_with fail
      refine (HEn0.out _ HB1.out).mono ?_
      rintro e2 w2 ⟨rfl, ⟨B', C', b', c', P', hR⟩, ho⟩
      have HR := Lib.hid hR
      have HO := Lib.hid ((One.of HB1.out).trans ho)
      clear hR ho
      go_wp2_with fail
      go_ret
      exact ⟨by rw [E.out]; rfl, ⟨_, _, _, _, _, _, _, _, by rw [E.out]; exact HR.out⟩, HO.out⟩
  obtain ⟨rfl, h3⟩ := h2
  have pt : ts > 0 := h3
  clear H6 H120 HNo h1 pg HEn0
  go_upto_region 7 with fail
  refine wp_region_said 7 [37, 38, 39, 40, 41, 42, 43]
    [.is (.pointer (some ⟨g, 0, none⟩)), .is (.pointer (some ⟨g, 0, none⟩)), .is (.pointer (some ⟨g, 1, none⟩)), .is (.slice B P.length b), .is (.pointer (some ⟨g, 0, none⟩)), .is (.int .i64 txn), .own (fun v _ => ∃ n, v = .int .i64 n ∧ PrepAt s.p txn n) (fun v V V' h hb => h)]
    (fun V => Below w1.heap.size w1 V) (by kernel_rfl) (by kernel_rfl) (by kernel_rfl) (by kernel_rfl) (by kernel_rfl) (fun V V' h hb => h.trans (hb.mono h.size)) (Below.refl _ _) ?steps ?last
  case steps =>
    simp only [List.take_succ_cons, List.take_zero]
    refine ⟨?_, ?_, ?_, ?_, ?_, ?_, ?_, trivial⟩
    all_goals
      intro vs V ρ hρ hc hf hg hI hH hd R' hR
      have HI := Lib.hid (HB1.out.trans (Below.mono hI HB1.out.size))
      have s1 := (HH.out V HI.out).cel.cell (i := 1) rfl
      have HR := Lib.hid hR
      simp [depsOf, Region.binds, sayAt, Say.holds] at hd
      clear hR hI
    case refine_7 =>
      go_simp
      refine (HPr.out V HI.out).mono ?_
      rintro e' w' ⟨n, rfl, hv, hb⟩
      exact ⟨_, rfl, HR.out _ _ ⟨n, rfl, hv⟩ hb (by simp [sayAt, Say.isBlk])⟩
    all_goals
      go_simp
      exact HR.out _ _ (by simp [sayAt, Say.holds]) (Below.refl _ _) (by simp [sayAt, Say.isBlk])
  case last =>
    intro vs w2 hI hb hg hd
    have g3 := hg 3 (by omega)
    have g6 := hg 6 (by omega)
    simp only [sayAt, Say.holds, List.getD_cons_succ, List.getD_cons_zero] at g3 g6
    obtain ⟨n, g6, hpa⟩ := g6
    simp only [List.take_succ_cons, List.take_zero, List.drop_succ_cons, List.drop_zero, putAll, Act.put, List.setIfInBounds_toArray, List.set_cons_succ, List.set_cons_zero, Nat.zero_add, Nat.reduceAdd]
    rw [g3, g6]
    have HB2 := Lib.hid (HB1.out.trans (Below.mono hI HB1.out.size))
    clear g3 g6 hg hd hI hb HPr HB1
    rcases hpa with ⟨rfl, hno⟩ | ⟨j, hj, rfl, hj1, hj2⟩
    · exact (HOne.out trivial hno).elim
    have hjP : j < P.length := by have := HPl.out; omega
    have hpe := p_at HRep.out hjP hj
    have HD := Lib.hid (do_some (prep_first hj hj1 hj2).1 h3)
    have HRo := Lib.hid (HS.out.po _ (List.getElem_mem hj))
    rw [hpe] at HD HRo
    obtain ⟨ad, eB, -, hcl⟩ := (HH.out _ HB2.out).one hjP
    have y8 := hcl 8 (.slice P[j].B P[j].l.ws.length P[j].d) rfl
    rw [← Ch.add_field _ _ _ (by omega)] at y8
    have HX := Lib.hid (HPv.out _ (List.getElem_mem hjP))
    have pj : (j : Int) < (P.length : Int) := by omega
    subst eB
    clear hcl hj1 hj2 hpe HOne
    generalize P[j] = x at y8 HX HD HRo
    obtain ⟨r, A1, B1, c1, d1⟩ := x
    simp only at HD HRo y8
    obtain ⟨hw1, hw2⟩ := prep_writes HRo.out.1 HRo.out.2
    have hw40 := HX.out.val.rng.w40
    have rb : reachBytes = 140737488351232 := rfl
    have HWs := Lib.hid (fun V (k : Away (G F g) W V) => wrs_away HX.out.val.ws HX.out.wa k)
    simp only at hw40 HWs
    have hnw : (r.ws.length : Int) ≤ 9223372036854775807 := by omega
    have HW1 := Lib.hid hw1
    have HW2 := Lib.hid hw2
    generalize r.ws = ws at y8 HD HWs HW1 HW2 hnw
    clear hw1 hw2 hw40 rb HX HRo hj hjP HPl HRep HPv
    have s0 := (HH.out _ HB2.out).cel.cell (i := 0) rfl
    have s1 := (HH.out _ HB2.out).cel.cell (i := 1) rfl
    go_wp2_with fail
    go_loopw [11] (fun iv wr => ∃ i : Nat, i ≤ ws.length ∧ iv = .int .i64 (i : Int) ∧ Hid (∀ k (h : k < ws.length), k < i → lastT (chainK s.k ws[k].key) < ts) ∧ Hid (Below w2.heap.size w2 wr)) (fun iv _ => ws.length - (intOf iv).toNat)
    case atStart => exact ⟨0, Nat.zero_le _, rfl, Lib.hid (fun k _ h => absurd h (by omega)), Lib.hid (Below.refl _ _)⟩
    case round =>
      obtain ⟨i, hi, rfl, hall, hb⟩ := hrel
      have HB := Lib.hid (HB2.out.trans (hb.out.mono HB2.out.size))
      by_cases hlt : i < ws.length
      · have pi : (i : Int) < (ws.length : Int) := by omega
        obtain ⟨aw, hA1, _, hcl⟩ := HWs.out _ (Away.of HB.out) (show 0 < ws.length by omega)
        subst hA1
        obtain ⟨y0, -, -⟩ := hcl i hlt
        have HLk := Lib.hid (HLa.out wr HB.out ws[i].key)
        have HY := Lib.hid (fun (hh : ts ≤ lastT (chainK s.k ws[i].key)) => show doP s txn ts = (s, 110) by rw [HD.out, if_pos (List.any_eq_true.2 ⟨_, List.getElem_mem hlt, by simpa using hh⟩)])
        have HN := Lib.hid (show lastT (chainK s.k ws[i].key) < ts → ∀ k (h : k < ws.length), k < i + 1 → lastT (chainK s.k ws[k].key) < ts from fun hn k h hk => by
          by_cases e : k = i
          · subst e; exact hn
          · exact hall.out k h (by omega))
        clear hcl hall
        generalize ws[i].key = ky at y0 HLk HY HN
        generalize lastT (chainK s.k ky) = la at HLk HY HN
        go_wp2_with fail
        refine HLk.out.mono ?_
        rintro e3 w3 ⟨rfl, hb3⟩
        have HB3 := Lib.hid (hb.out.trans (hb3.mono hb.out.size))
        have HB30 := Lib.hid (HB.out.trans (hb3.mono HB.out.size))
        clear hb HB hb3 HLk
        by_cases hh : ts ≤ la
        · have E := Lib.hid (HY.out hh)
          clear HY HN
          go_wp2_with fail
          go_ret
          exact ⟨by rw [E.out]; rfl, HOld.out _ HB30.out _ E.out⟩
        · have HN2 := Lib.hid (HN.out (by omega))
          clear HY HN
          go_wp2_with fail
          go_roundw
          case rel => exact ⟨i + 1, by omega, by go_num, HN2, HB3⟩
          case measure => simp [intOf]; omega
      · obtain rfl : i = ws.length := by omega
        have HL := Lib.hid (show ∀ x ∈ ws, lastT (chainK s.k x.key) < ts from all_get (fun k h => hall.out k h h))
        have HD2 := Lib.hid (show doP s txn ts = if longW s.k ws s.k.length = true then (s, 2) else (endP ⟨addW ts ws s.k, s.p, s.e, s.over⟩ txn ts, 0) by
          rw [HD.out, if_neg]
          rw [List.any_eq_true]
          rintro ⟨x, hx, h⟩
          have := HL.out x hx
          simp at h
          omega)
        obtain ⟨w3, hw3⟩ : ∃ w3, w3 = wr := ⟨_, rfl⟩
        subst hw3
        have HB3 := HB
        clear HD hall hb HB hlt hi HLa s0 s1
        have hK10 : K.length ≤ 1024 := by have := HKl.out; have := HS.out.kl; omega
        have HLo0 := Lib.hid (show longW s.k ws s.k.length = longW s.k (ws.drop 0) K.length by rw [HKl.out]; rfl)
        go_wp2_with fail
        go_loopw [10, 12] (fun kv iv wr => ∃ (i n : Nat), i ≤ ws.length ∧ n ≤ 1024 ∧ iv = .int .i64 (i : Int) ∧ kv = .int .i64 (n : Int) ∧ Hid (longW s.k ws s.k.length = longW s.k (ws.drop i) n) ∧ Hid (Below w3.heap.size w3 wr)) (fun _ iv _ => ws.length - (intOf iv).toNat)
        case atStart => exact ⟨0, K.length, Nat.zero_le _, hK10, rfl, rfl, HLo0, Lib.hid (Below.refl _ _)⟩
        case round =>
          obtain ⟨i, n, hi, hn, rfl, rfl, hlo, hb⟩ := hrel
          have HB := Lib.hid (HB3.out.trans (hb.out.mono HB3.out.size))
          by_cases hlt : i < ws.length
          · have pi : (i : Int) < (ws.length : Int) := by omega
            obtain ⟨aw, hA1, hwb, hcl⟩ := HWs.out _ (Away.of HB.out) (show 0 < ws.length by omega)
            subst hA1
            obtain ⟨y0, -, -⟩ := hcl i hlt
            have HAk := Lib.hid (HAt.out wr HB.out ws[i].key)
            have HCk := Lib.hid (fun V (hb : Below W.heap.size W V) => HCh.out V hb ws[i].key)
            have HLo := Lib.hid (hlo.out.trans (longW_drop (k := s.k) (n := n) hlt))
            clear hcl hlo
            generalize ws[i].key = ky at y0 HAk HCk HLo
            generalize hasK s.k ky = bb at HAk HLo
            generalize (aheadN s.k ky : Int) = ai at HAk
            generalize chainK s.k ky = L at HCk HLo
            go_wp2_with fail
            refine HAk.out.mono ?_
            rintro e4 w4 ⟨rfl, hb4⟩
            have y00 : w4.cell? (aw.add (i * 3)) = some (.string ky) := (cell_kept hb4 _ (by rw [st_block]; exact hwb)).trans y0
            have HB34 := Lib.hid (hb.out.trans (hb4.mono hb.out.size))
            have HB4 := Lib.hid (HB.out.trans (hb4.mono HB.out.size))
            clear hb HB hb4 HAk y0 hwb
            cases bb with
            | true =>
              go_wp2_with fail
              refine (HCk.out _ HB4.out).mono ?_
              rintro e5 w5 ⟨v, rfl, ⟨A5, c5, rfl, hv⟩, hb5⟩
              have HB35 := Lib.hid (HB34.out.trans (hb5.mono HB34.out.size))
              have HB5 := Lib.hid (HB4.out.trans (hb5.mono HB4.out.size))
              clear hv hb5 HCk HB34 HB4 y00
              by_cases hch : 1024 ≤ L.length
              · have pch : (1024 : Int) ≤ (L.length : Int) := by omega
                have E := Lib.hid (show doP s txn ts = (s, 2) by rw [HD2.out, if_pos (by rw [HLo.out]; simp [hch])])
                clear HLo
                go_wp2_with fail
                go_ret
                exact ⟨by rw [E.out]; rfl, HOld.out _ HB5.out _ E.out⟩
              have pch : ¬ (1024 : Int) ≤ (L.length : Int) := by omega
              have pk : ¬ (n : Int) > 1024 := by omega
              have HN2 := Lib.hid (show longW s.k ws s.k.length = longW s.k (ws.drop (i + 1)) n by rw [HLo.out]; simp; omega)
              clear HLo
              go_wp2_with fail
              go_roundw
              case rel => exact ⟨i + 1, n, by omega, hn, by go_num, rfl, HN2, HB35⟩
              case measure => simp [intOf]; omega
            | false =>
              go_wp2_with fail
              refine (HCk.out _ HB4.out).mono ?_
              rintro e5 w5 ⟨v, rfl, ⟨A5, c5, rfl, hv⟩, hb5⟩
              have HB35 := Lib.hid (HB34.out.trans (hb5.mono HB34.out.size))
              have HB5 := Lib.hid (HB4.out.trans (hb5.mono HB4.out.size))
              clear hv hb5 HCk HB34 HB4 y00
              by_cases hch : 1024 ≤ L.length
              · have pch : (1024 : Int) ≤ (L.length : Int) := by omega
                have E := Lib.hid (show doP s txn ts = (s, 2) by rw [HD2.out, if_pos (by rw [HLo.out]; simp [hch])])
                clear HLo
                go_wp2_with fail
                go_ret
                exact ⟨by rw [E.out]; rfl, HOld.out _ HB5.out _ E.out⟩
              have pch : ¬ (1024 : Int) ≤ (L.length : Int) := by omega
              by_cases hk : 1024 < n + 1
              · have pk : (n : Int) + 1 > 1024 := by omega
                have E := Lib.hid (show doP s txn ts = (s, 2) by rw [HD2.out, if_pos (by rw [HLo.out]; simp [hk])])
                clear HLo
                go_wp2_with fail
                go_ret
                exact ⟨by rw [E.out]; rfl, HOld.out _ HB5.out _ E.out⟩
              · have pk : ¬ (n : Int) + 1 > 1024 := by omega
                have HN2 := Lib.hid (show longW s.k ws s.k.length = longW s.k (ws.drop (i + 1)) (n + 1) by rw [HLo.out]; simp; omega)
                clear HLo
                go_wp2_with fail
                go_roundw
                case rel => exact ⟨i + 1, n + 1, by omega, by omega, by go_num, by go_num, HN2, HB35⟩
                case measure => simp [intOf]; omega
          · obtain rfl : i = ws.length := by omega
            have HLong := Lib.hid (show longW s.k ws s.k.length = false by rw [hlo.out, List.drop_length]; rfl)
            have E := Lib.hid (show doP s txn ts = (endP ⟨addW ts ws s.k, s.p, s.e, s.over⟩ txn ts, 0) by rw [HD2.out, if_neg (by rw [HLong.out]; simp)])
            obtain ⟨w4, hw4⟩ : ∃ w4, w4 = wr := ⟨_, rfl⟩
            subst hw4
            have HB4 := HB
            have HPre := Lib.hid (addW_pre ⟨by omega, hts⟩ HS.out.kok HS.out.kl HW1.out HW2.out HL.out HLong.out)
            clear HD2 hlo hb HB hlt hi HB3 hK10 HLo0 HAt HCh
            go_wp2_with fail
            go_loopw [15] (fun iv wr => ∃ i : Nat, i ≤ ws.length ∧ iv = .int .i64 (i : Int) ∧ Hid (∃ A' a' K', RAt wr F g A' (some ad) C a' b c K' P ⟨addW ts (ws.take i) s.k, s.p, s.e, s.over⟩) ∧ Hid (One g W wr)) (fun iv _ => ws.length - (intOf iv).toNat)
            case atStart => exact ⟨0, Nat.zero_le _, rfl, Lib.hid ⟨_, _, _, HH.out _ HB4.out⟩, Lib.hid (One.of HB4.out)⟩
            case round =>
              obtain ⟨i, hi, rfl, hra, ho⟩ := hrel
              by_cases hlt : i < ws.length
              · have pi : (i : Int) < (ws.length : Int) := by omega
                obtain ⟨aw, hA1, hwb, hcl⟩ := HWs.out _ ho.out.away (show 0 < ws.length by omega)
                subst hA1
                obtain ⟨y0, y1, y2⟩ := hcl i hlt
                obtain ⟨A', a', K', hR⟩ := hra.out
                have hpre := HPre.out i
                have hvr : VrRng ⟨ts, ws[i].shard, ws[i].dead⟩ := by
                  have h1 := (HW1.out _ (List.getElem_mem hlt)).2
                  unfold wrOk at h1
                  have rb : reachBytes = 140737488351232 := rfl
                  exact ⟨⟨by simp only; omega, by simp only; omega⟩, by simp only; omega⟩
                have HAd := Lib.hid (fun V (hb : Below wr.heap.size wr V) => radd2_any (hR.below hb) hpre.1 hpre.2 (fun k hk => Nat.lt_of_lt_of_le (HFl.out k hk) (Nat.le_trans ho.out.size hb.size)) ws[i].key ⟨ts, ws[i].shard, ws[i].dead⟩ hvr)
                have HTk := Lib.hid (show addW ts (ws.take (i + 1)) s.k = addK (addW ts (ws.take i) s.k) ws[i].key ⟨ts, ws[i].shard, ws[i].dead⟩ by rw [List.take_succ_eq_append_getElem hlt, addW_snoc])
                have HO := Lib.hid (fun V (hb : Below wr.heap.size wr V) => ho.out.then hb)
                have HC0 := Lib.hid (show ∀ V, Below wr.heap.size wr V → V.cell? (aw.add (i * 3)) = some (.string ws[i].key) ∧ V.cell? ⟨(aw.add (i * 3)).block, (aw.add (i * 3)).off + 1, none⟩ = some (.string ws[i].shard) ∧ V.cell? ⟨(aw.add (i * 3)).block, (aw.add (i * 3)).off + 2, none⟩ = some (.bool ws[i].dead) from fun V hb => by
                  rw [Ch.add_field _ _ _ (by omega), Ch.add_field _ _ _ (by omega)]
                  exact ⟨(cell_kept hb _ (by rw [st_block]; exact hwb)).trans y0, (cell_kept hb _ (by rw [st_block]; exact hwb)).trans y1, (cell_kept hb _ (by rw [st_block]; exact hwb)).trans y2⟩)
                clear hcl hra ho hR hpre hvr y0 y1 y2 hwb
                generalize ws[i].key = ky at HAd HTk HC0
                generalize ws[i].shard = sh at HAd HTk HC0
                generalize ws[i].dead = dd at HAd HTk HC0
                go_upto_region 25 with fail
                refine wp_region_said 18 [106, 107, 108, 109, 110, 111, 112, 113, 114, 115, 116, 117, 118, 119, 120, 121, 122, 123]
                  [.is (.pointer (some ⟨g, 0, none⟩)), .is (.slice (some aw) ws.length d1), .is (.int .i64 (i : Int)), .is (.pointer (some (aw.add (i * 3)))), .is (.pointer (some (aw.add (i * 3)))), .is (.string ky),
                    .is (.int .i64 ts), .is (.slice (some aw) ws.length d1), .is (.int .i64 (i : Int)), .is (.pointer (some (aw.add (i * 3)))), .is (.pointer (some ⟨(aw.add (i * 3)).block, (aw.add (i * 3)).off + 1, none⟩)), .is (.string sh),
                    .is (.slice (some aw) ws.length d1), .is (.int .i64 (i : Int)), .is (.pointer (some (aw.add (i * 3)))), .is (.pointer (some ⟨(aw.add (i * 3)).block, (aw.add (i * 3)).off + 2, none⟩)), .is (.bool dd), .is (.agg #[.int .i64 ts, .string sh, .bool dd])]
                  (fun V => Below wr.heap.size wr V) (by kernel_rfl) (by kernel_rfl) (by kernel_rfl) (by kernel_rfl) (by kernel_rfl) (fun V V' h hb => h.trans (hb.mono h.size)) (Below.refl _ _) ?steps ?last
                case steps =>
                  simp only [List.take_succ_cons, List.take_zero]
                  refine ⟨?_, ?_, ?_, ?_, ?_, ?_, ?_, ?_, ?_, ?_, ?_, ?_, ?_, ?_, ?_, ?_, ?_, ?_, trivial⟩
                  all_goals
                    intro vs V ρ hρ hc hf hg hI hH hd R' hR
                    obtain ⟨y0, y1, y2⟩ := HC0.out V hI
                    have HR := Lib.hid hR
                    simp [depsOf, Region.binds, sayAt, Say.holds] at hd
                    clear hR hI
                    go_simp
                    exact HR.out _ _ (by simp [sayAt, Say.holds]) (Below.refl _ _) (by simp [sayAt, Say.isBlk])
                case last =>
                  intro vs w5 hI hb hg hd
                  have g0 := hg 0 (by omega)
                  have g5 := hg 5 (by omega)
                  have g17 := hg 17 (by omega)
                  simp only [sayAt, Say.holds, List.getD_cons_succ, List.getD_cons_zero] at g0 g5 g17
                  simp only [List.take_succ_cons, List.take_zero, List.drop_succ_cons, List.drop_zero, putAll, Act.put, List.setIfInBounds_toArray, List.set_cons_succ, List.set_cons_zero, Nat.zero_add, Nat.reduceAdd]
                  rw [g0, g5, g17]
                  have HI := Lib.hid hI
                  clear g0 g5 g17 hg hd hI hb HC0
                  go_wp2_with fail
                  refine (show Calls _ _ #[_, _, .agg #[.int .i64 ts, .string sh, .bool dd]] _ _ from HAd.out _ HI.out).mono ?_
                  rintro e6 w6 ⟨rfl, ⟨A6, a6, K6, hR6⟩, ho6⟩
                  have HR6 := Lib.hid (show ∃ A' a' K', RAt w6 F g A' (some ad) C a' b c K' P ⟨addW ts (ws.take (i + 1)) s.k, s.p, s.e, s.over⟩ from ⟨A6, a6, K6, by rw [HTk.out]; exact hR6⟩)
                  have HO6 := Lib.hid ((HO.out _ HI.out).trans ho6)
                  clear hR6 ho6 HTk HO HAd
                  go_wp2_with fail
                  go_roundw
                  case rel => exact ⟨i + 1, by omega, by go_num, HR6, HO6⟩
                  case measure => simp [intOf]; omega
              · obtain rfl : i = ws.length := by omega
                obtain ⟨A', a', K', hR⟩ := hra.out
                rw [List.take_length] at hR
                have hpre := HPre.out ws.length
                rw [List.take_length] at hpre
                have HE9 := Lib.hid (HEn.out wr A' a' K' _ hR hpre.1 hpre.2 ho.out.size)
                have HO9 := ho
                clear hra ho hR hpre
                go_wp2_with fail
                refine HE9.out.mono ?_
                rintro e9 w9 ⟨rfl, ⟨B', C', b', c', P', hR⟩, ho⟩
                have HR := Lib.hid hR
                have HO := Lib.hid (HO9.out.trans ho)
                clear hR ho
                go_wp2_with fail
                go_ret
                exact ⟨by rw [E.out]; rfl, ⟨_, _, _, _, _, _, _, _, by rw [E.out]; exact HR.out⟩, HO.out⟩
end
end Sh
end Go.Proofs.YtbkanoblcojdfaaGreat

namespace Go.Proofs.YtbkanoblcojdfaaGreat
namespace Rc
open Go.RowKit Bk Lt
attribute [local go_sem ↓] Go.wp_at_zero Go.wp_at_succ
attribute [local go_sem] floatUpon pick
set_option maxRecDepth 20000 in
set_option maxHeartbeats 8000000 in
theorem check_bad (A B : Option Addr) (c d : Nat) (r : Rec) (w : World) (ha : StrsAt w A r.keys) (hb : WrsAt w B r.ws) (hr : RecRng r) (hbad : ¬ headOk r) :
    Calls Tryz.prog 44 #[recV r A B c d] w fun e w' => e = .returned (.int .i64 (ckN r : Int)) ∧ Below w.heap.size w w' := by
  have henv := RcEnv.start (c := c) (d := d) ha hb
  have rb : reachBytes ≤ 140737488351232 := by unfold reachBytes; omega
  have HTa := Lib.hid (fun W => txn_any r.txn W hr.txn)
  have HPa := Lib.hid (fun W => stamp_any r.ts W hr.ts)
  have nk : r.keys.length ≤ 9223372036854775807 := by have := hr.k16; omega
  have nw : r.ws.length * 16 + 16 ≤ 140737488355328 := by have := hr.w40; omega
  have HRi := Lib.hid (fun W (h : StrsAt W A r.keys) => rising_any A c r.keys W h nk (fun s hs => by have := hr.kr s hs; omega))
  have HWr := Lib.hid (fun W (h : WrsAt W B r.ws) => writes_any B d r.ws W h nw (fun x hx => by have := hr.wr x hx; omega))
  have HKy := Lib.hid (fun W => key_any r.key W (by have := hr.key; omega))
  have pk : (r.keys.length : Int) ≤ 9223372036854775807 := by omega
  have pw : (r.ws.length : Int) ≤ 9223372036854775807 := by omega
  have ptx : (r.text.size : Int) ≤ 140737488351232 := by have := hr.text; omega
  clear ha hb hr rb nk nw
  unfold recV
  go_enter Tryz.func44, Tryz.ntmps44
  go_upto_region 1 with fail
  generalize w.alloc (.cells #[.int .i64 r.kind, .int .i64 r.txn, .int .i64 r.ts, .int .i64 r.coord, .string r.key, .string r.text, .bool r.dead, .slice A r.keys.length c, .slice B r.ws.length d] 37) = W1 at henv ⊢
  have HE := Lib.hid henv
  have k0 := henv.cel.cell (i := 0) rfl
  have k1 := henv.cel.cell (i := 1) rfl
  have k2 := henv.cel.cell (i := 2) rfl
  have k3 := henv.cel.cell (i := 3) rfl
  have k4 := henv.cel.cell (i := 4) rfl
  have k5 := henv.cel.cell (i := 5) rfl
  have k6 := henv.cel.cell (i := 6) rfl
  have k7 := henv.cel.cell (i := 7) rfl
  have k8 := henv.cel.cell (i := 8) rfl
  clear henv
  have E := Lib.hid (ckN_head hbad)
  have HB1 := Lib.hid HE.out.bel
  by_cases h0 : r.txn = 0
  · have HT0 : r.txn = 0 ∨ txnOk r.txn := .inl h0
    have q0 : (r.txn != 0) = false := by simp [h0]
    by_cases h3 : stampOk r.ts
    · rw [show decide (stampOk r.ts) = true from decide_eq_true h3] at HPa
      by_cases h4 : r.coord < 0
      · clear h3 hbad h0 HT0
        go_wp2_with fail
        refine (HPa.out _).mono ?_
        rintro e w' ⟨rfl, rfl⟩
        go_wp2_with fail
        go_ret
        exact ⟨by rw [E.out]; rfl, HB1.out⟩
      · have p4 : 0 ≤ r.coord := by omega
        have p5 : 16 ≤ r.coord := by
          rcases Int.lt_or_le r.coord 16 with h5 | h5
          · exact absurd ⟨HT0, h3, p4, h5⟩ hbad
          · exact h5
        clear h3 h4 hbad h0 HT0
        go_wp2_with fail
        refine (HPa.out _).mono ?_
        rintro e w' ⟨rfl, rfl⟩
        go_wp2_with fail
        go_ret
        exact ⟨by rw [E.out]; rfl, HB1.out⟩
    · rw [show decide (stampOk r.ts) = false from decide_eq_false h3] at HPa
      clear h3 hbad h0 HT0
      go_wp2_with fail
      refine (HPa.out _).mono ?_
      rintro e w' ⟨rfl, rfl⟩
      go_wp2_with fail
      go_ret
      exact ⟨by rw [E.out]; rfl, HB1.out⟩
  · have q0 : (r.txn != 0) = true := by simp [h0]
    by_cases h1 : txnOk r.txn
    · have HT0 : r.txn = 0 ∨ txnOk r.txn := .inr h1
      rw [show decide (txnOk r.txn) = true from decide_eq_true h1] at HTa
      by_cases h3 : stampOk r.ts
      · rw [show decide (stampOk r.ts) = true from decide_eq_true h3] at HPa
        by_cases h4 : r.coord < 0
        · clear h3 hbad h0 h1 HT0
          go_wp2_with fail
          refine (HTa.out _).mono ?_
          rintro e w' ⟨rfl, rfl⟩
          go_wp2_with fail
          refine (HPa.out _).mono ?_
          rintro e w' ⟨rfl, rfl⟩
          go_wp2_with fail
          go_ret
          exact ⟨by rw [E.out]; rfl, HB1.out⟩
        · have p4 : 0 ≤ r.coord := by omega
          have p5 : 16 ≤ r.coord := by
            rcases Int.lt_or_le r.coord 16 with h5 | h5
            · exact absurd ⟨HT0, h3, p4, h5⟩ hbad
            · exact h5
          clear h3 h4 hbad h0 h1 HT0
          go_wp2_with fail
          refine (HTa.out _).mono ?_
          rintro e w' ⟨rfl, rfl⟩
          go_wp2_with fail
          refine (HPa.out _).mono ?_
          rintro e w' ⟨rfl, rfl⟩
          go_wp2_with fail
          go_ret
          exact ⟨by rw [E.out]; rfl, HB1.out⟩
      · rw [show decide (stampOk r.ts) = false from decide_eq_false h3] at HPa
        clear h3 hbad h0 h1 HT0
        go_wp2_with fail
        refine (HTa.out _).mono ?_
        rintro e w' ⟨rfl, rfl⟩
        go_wp2_with fail
        refine (HPa.out _).mono ?_
        rintro e w' ⟨rfl, rfl⟩
        go_wp2_with fail
        go_ret
        exact ⟨by rw [E.out]; rfl, HB1.out⟩
    · rw [show decide (txnOk r.txn) = false from decide_eq_false h1] at HTa
      clear h0 h1 hbad
      go_wp2_with fail
      refine (HTa.out _).mono ?_
      rintro e w' ⟨rfl, rfl⟩
      go_wp2_with fail
      go_ret
      exact ⟨by rw [E.out]; rfl, HB1.out⟩
end Rc
end Go.Proofs.YtbkanoblcojdfaaGreat

namespace Go.Proofs.YtbkanoblcojdfaaGreat
namespace Rc
open Go.RowKit Bk Lt
attribute [local go_sem ↓] Go.wp_at_zero Go.wp_at_succ
attribute [local go_sem] floatUpon pick
set_option maxRecDepth 20000 in
set_option maxHeartbeats 8000000 in
theorem check_g1 (A B : Option Addr) (c d : Nat) (r : Rec) (w : World) (ha : StrsAt w A r.keys) (hb : WrsAt w B r.ws) (hr : RecRng r) (hhead : headOk r) (HKd : Hid (r.kind = 1 ∨ r.kind = 2)) :
    Calls Tryz.prog 44 #[recV r A B c d] w fun e w' => e = .returned (.int .i64 (ckN r : Int)) ∧ Below w.heap.size w w' := by
  have henv := RcEnv.start (c := c) (d := d) ha hb
  have rb : reachBytes ≤ 140737488351232 := by unfold reachBytes; omega
  have HTa := Lib.hid (fun W => txn_any r.txn W hr.txn)
  have HPa := Lib.hid (fun W => stamp_any r.ts W hr.ts)
  have nk : r.keys.length ≤ 9223372036854775807 := by have := hr.k16; omega
  have nw : r.ws.length * 16 + 16 ≤ 140737488355328 := by have := hr.w40; omega
  have HRi := Lib.hid (fun W (h : StrsAt W A r.keys) => rising_any A c r.keys W h nk (fun s hs => by have := hr.kr s hs; omega))
  have HWr := Lib.hid (fun W (h : WrsAt W B r.ws) => writes_any B d r.ws W h nw (fun x hx => by have := hr.wr x hx; omega))
  have HKy := Lib.hid (fun W => key_any r.key W (by have := hr.key; omega))
  have pk : (r.keys.length : Int) ≤ 9223372036854775807 := by omega
  have pw : (r.ws.length : Int) ≤ 9223372036854775807 := by omega
  have ptx : (r.text.size : Int) ≤ 140737488351232 := by have := hr.text; omega
  clear ha hb hr rb nk nw
  unfold recV
  go_enter Tryz.func44, Tryz.ntmps44
  go_upto_region 1 with fail
  generalize w.alloc (.cells #[.int .i64 r.kind, .int .i64 r.txn, .int .i64 r.ts, .int .i64 r.coord, .string r.key, .string r.text, .bool r.dead, .slice A r.keys.length c, .slice B r.ws.length d] 37) = W1 at henv ⊢
  have HE := Lib.hid henv
  have k0 := henv.cel.cell (i := 0) rfl
  have k1 := henv.cel.cell (i := 1) rfl
  have k2 := henv.cel.cell (i := 2) rfl
  have k3 := henv.cel.cell (i := 3) rfl
  have k4 := henv.cel.cell (i := 4) rfl
  have k5 := henv.cel.cell (i := 5) rfl
  have k6 := henv.cel.cell (i := 6) rfl
  have k7 := henv.cel.cell (i := 7) rfl
  have k8 := henv.cel.cell (i := 8) rfl
  clear henv
  have HHead := Lib.hid hhead
  rw [show decide (stampOk r.ts) = true from decide_eq_true hhead.2.1] at HPa
  have p4 : 0 ≤ r.coord := hhead.2.2.1
  have p5 : r.coord < 16 := hhead.2.2.2
  go_cut [31] (fun s wx => s = .bool false ∧ wx = W1)
  case first =>
    by_cases h0 : r.txn = 0
    · have HT0 : r.txn = 0 ∨ txnOk r.txn := .inl h0
      have q0 : (r.txn != 0) = false := by simp [h0]
      clear h0 HT0
      go_wp2_with fail
      refine (HPa.out _).mono ?_
      rintro e w' ⟨rfl, rfl⟩
      go_wp2_with fail
      go_meet
      exact ⟨by first | rfl | (simp; omega), rfl⟩
    · have q0 : (r.txn != 0) = true := by simp [h0]
      have h1 : txnOk r.txn := by rcases hhead.1 with h | h; exact absurd h h0; exact h
      rw [show decide (txnOk r.txn) = true from decide_eq_true h1] at HTa
      clear h0 h1
      go_wp2_with fail
      refine (HTa.out _).mono ?_
      rintro e w' ⟨rfl, rfl⟩
      go_wp2_with fail
      refine (HPa.out _).mono ?_
      rintro e w' ⟨rfl, rfl⟩
      go_wp2_with fail
      go_meet
      exact ⟨by first | rfl | (simp; omega), rfl⟩
  case rest =>
    obtain ⟨rfl, rfl⟩ := hcut
    have HB1 := Lib.hid HE.out.bel
    go_upto_region 3 with fail
    obtain ⟨lb, hlb⟩ := bool_of (p := ListsOk r)
    have HL := Lib.hid hlb
    clear hlb
    go_cut [3] (fun s wx => s = .bool lb ∧ wx = wc)
    case first =>
      by_cases g1 : r.keys = []
      · have q1 : ((r.keys.length : Int) == 0) = true := by rw [g1]; rfl
        by_cases g2 : r.ws = []
        · have q2 : ((r.ws.length : Int) == 0) = true := by rw [g2]; rfl
          have N := Lib.hid (HL.out.2 ⟨g1, g2⟩)
          clear g1 g2
          go_wp2_with fail
          go_meet
          exact ⟨by first | (rw [N.out]; done) | (rw [N.out]; rfl) | (rw [N.out]; simp; omega), rfl⟩
        · have h3 : ¬ r.ws.length = 0 := fun h => g2 (List.length_eq_zero_iff.1 h)
          have q2 : ((r.ws.length : Int) == 0) = false := by simp; exact g2
          have N := Lib.hid (show lb = false by
            cases lb
            · rfl
            · exact absurd (HL.out.1 rfl).2 g2)
          clear g1 g2 h3
          go_wp2_with fail
          go_meet
          exact ⟨by first | (rw [N.out]; done) | (rw [N.out]; rfl) | (rw [N.out]; simp; omega), rfl⟩
      · have q1 : ((r.keys.length : Int) == 0) = false := by simp; exact g1
        have N := Lib.hid (show lb = false by
          cases lb
          · rfl
          · exact absurd (HL.out.1 rfl).1 g1)
        clear g1
        go_wp2_with fail
        go_meet
        exact ⟨by first | (rw [N.out]; done) | (rw [N.out]; rfl) | (rw [N.out]; simp; omega), rfl⟩
    case rest =>
      obtain ⟨rfl, rfl⟩ := hcut
      go_upto_region 4 with fail
      obtain ⟨tb, htb⟩ := bool_of (p := TextOk r)
      have HTx := Lib.hid htb
      clear htb
      obtain ⟨wo, rfl⟩ : ∃ wo : World, wo = wc := ⟨_, rfl⟩
      go_cut [4] (fun s wx => s = .bool tb ∧ wx = wo)
      case first =>
        by_cases g1 : r.key = ⟨#[]⟩
        · have te := text_eq ⟨#[]⟩
          rw [g1] at k4
          by_cases g2 : r.text = ⟨#[]⟩
          · rw [g2] at k5
            rcases Bool.eq_false_or_eq_true r.dead with g3 | g3
            · have hd := g3
              have N := Lib.hid (show tb = false by
                cases tb
                · rfl
                · exact absurd (HTx.out.1 rfl).2.2 (by rw [hd]; simp))
              rw [g3] at k6
              clear g1 g2 g3 hd
              go_wp2_with fail
              go_meet
              exact ⟨by first | (rw [N.out]; done) | (rw [N.out]; rfl) | (rw [N.out]; simp; omega), rfl⟩
            · have hd := g3
              have N := Lib.hid (HTx.out.2 ⟨g1, g2, hd⟩)
              rw [g3] at k6
              clear g1 g2 g3 hd
              go_wp2_with fail
              go_meet
              exact ⟨by first | (rw [N.out]; done) | (rw [N.out]; rfl) | (rw [N.out]; simp; omega), rfl⟩
          · have hz := g2
            have t0 := text_ne g2
            have t1 := empty_list g2
            have t2 : r.text.toList.isEmpty = false := by rw [List.isEmpty_eq_false_iff]; exact t1
            have N := Lib.hid (show tb = false by
              cases tb
              · rfl
              · exact absurd (HTx.out.1 rfl).2.1 g2)
            clear g1 g2 hz
            go_wp2_with fail
            go_meet
            exact ⟨by first | (rw [N.out]; done) | (rw [N.out]; rfl) | (rw [N.out]; simp; omega), rfl⟩
        · have hz := g1
          have t0 := text_ne g1
          have t1 := empty_list g1
          have t2 : r.key.toList.isEmpty = false := by rw [List.isEmpty_eq_false_iff]; exact t1
          have N := Lib.hid (show tb = false by
            cases tb
            · rfl
            · exact absurd (HTx.out.1 rfl).1 g1)
          clear g1 hz
          go_wp2_with fail
          go_meet
          exact ⟨by first | (rw [N.out]; done) | (rw [N.out]; rfl) | (rw [N.out]; simp; omega), rfl⟩
      case rest =>
        obtain ⟨rfl, rfl⟩ := hcut
        go_upto_region 5 with fail
        obtain ⟨b, hb⟩ := bool_of (p := BareOk r)
        have HBa := Lib.hid hb
        clear hb
        obtain ⟨wo2, rfl⟩ : ∃ wo2 : World, wo2 = wc := ⟨_, rfl⟩
        go_cut [5] (fun s wx => s = .bool b ∧ wx = wo2)
        case first =>
          cases lb with
          | true =>
            cases tb with
            | true =>
              by_cases g1 : r.coord = 0
              · have q1 : (r.coord == 0) = true := by simp [g1]
                have N := Lib.hid (HBa.out.2 ⟨HL.out.1 rfl, HTx.out.1 rfl, g1⟩)
                clear g1
                go_wp2_with fail
                go_meet
                exact ⟨by first | (rw [N.out]; done) | (rw [N.out]; rfl) | (rw [N.out]; simp; omega), rfl⟩
              · have q1 : (r.coord == 0) = false := by simp [g1]
                have N := Lib.hid (show b = false by
                  cases b
                  · rfl
                  · exact absurd (HBa.out.1 rfl).2.2 g1)
                clear g1
                go_wp2_with fail
                go_meet
                exact ⟨by first | (rw [N.out]; done) | (rw [N.out]; rfl) | (rw [N.out]; simp; omega), rfl⟩
            | false =>
              have N := Lib.hid (show b = false by
                cases b
                · rfl
                · exact absurd (HBa.out.1 rfl).2.1 (fun h => by have := HTx.out.2 h; cases this))
              go_wp2_with fail
              go_meet
              exact ⟨by first | (rw [N.out]; done) | (rw [N.out]; rfl) | (rw [N.out]; simp; omega), rfl⟩
          | false =>
            have N := Lib.hid (show b = false by
              cases b
              · rfl
              · exact absurd (HBa.out.1 rfl).1 (fun h => by have := HL.out.2 h; cases this))
            go_wp2_with fail
            go_meet
            exact ⟨by first | (rw [N.out]; done) | (rw [N.out]; rfl) | (rw [N.out]; simp; omega), rfl⟩
        case rest =>
          obtain ⟨rfl, rfl⟩ := hcut
          have HBb := Lib.hid HE.out.bel
          have hk := HKd.out
          by_cases hkd : r.kind = 1
          · have HK := Lib.hid (kind_1 hkd)
            have e1 : (r.kind == 1) = true := by rw [beq_iff_eq]; exact hkd
            have e2 : (r.kind == 2) = false := by rw [beq_eq_false_iff_ne]; omega
            have e3 : (r.kind == 3) = false := by rw [beq_eq_false_iff_ne]; omega
            have e4 : (r.kind == 4) = false := by rw [beq_eq_false_iff_ne]; omega
            have e5 : (r.kind == 5) = false := by rw [beq_eq_false_iff_ne]; omega
            have e6 : (r.kind == 6) = false := by rw [beq_eq_false_iff_ne]; omega
            have e7 : (r.kind == 7) = false := by rw [beq_eq_false_iff_ne]; omega
            clear hkd hk
            cases tb with
            | false =>
              have E := Lib.hid (ckN_bad (fun h => absurd (HTx.out.2 (HK.out.1 h).1) (by simp)))
              go_wp2_with fail
              go_ret
              exact ⟨by rw [E.out]; rfl, HB1.out⟩
            | true =>
              have htx := HTx.out.1 rfl
              by_cases g1 : r.txn = 0
              · have q1 : (r.txn == 0) = true := by simp [g1]
                have q1' : (r.txn != 0) = false := by simp [g1]
                have E := Lib.hid (ckN_bad (fun h => (HK.out.1 h).2.1 g1))
                clear g1
                go_wp2_with fail
                go_ret
                exact ⟨by rw [E.out]; rfl, HB1.out⟩
              · have q1 : (r.txn == 0) = false := by simp [g1]
                have q1' : (r.txn != 0) = true := by simp [g1]
                by_cases g2 : r.keys.length ≤ 16
                · have q2 : (r.keys.length : Int) ≤ 16 := by omega
                  have HR := Lib.hid (HRi.out _ HE.out.ks)
                  by_cases g3 : Rises r.keys
                  · rw [risesB_true g3] at HR
                    by_cases g4 : WritesOk r.ws
                    · rw [writesB_true g4] at HWr
                      have E := Lib.hid (ckN_ok HHead.out (HK.out.2 ⟨htx, g1, g2, g3, g4⟩))
                      clear g1 g2 g3 g4 htx
                      go_wp2_with fail
                      refine HR.out.mono ?_
                      rintro e w2 ⟨rfl, hb2⟩
                      have HE2 := Lib.hid (HE.out.step hb2)
                      have HW2 := Lib.hid (HWr.out _ HE2.out.ws)
                      have k8' := HE2.out.cel.cell (i := 8) rfl
                      clear hb2
                      go_wp2_with fail
                      refine HW2.out.mono ?_
                      rintro e w3 ⟨rfl, hb3⟩
                      have HBz := Lib.hid (HE2.out.step hb3).bel
                      clear hb3 k8'
                      go_wp2_with fail
                      go_ret
                      exact ⟨by rw [E.out]; rfl, HBz.out⟩
                    · rw [writesB_false g4] at HWr
                      have E := Lib.hid (ckN_bad (fun h => g4 (HK.out.1 h).2.2.2.2))
                      clear g1 g2 g3 g4 htx
                      go_wp2_with fail
                      refine HR.out.mono ?_
                      rintro e w2 ⟨rfl, hb2⟩
                      have HE2 := Lib.hid (HE.out.step hb2)
                      have HW2 := Lib.hid (HWr.out _ HE2.out.ws)
                      have k8' := HE2.out.cel.cell (i := 8) rfl
                      clear hb2
                      go_wp2_with fail
                      refine HW2.out.mono ?_
                      rintro e w3 ⟨rfl, hb3⟩
                      have HBz := Lib.hid (HE2.out.step hb3).bel
                      clear hb3 k8'
                      go_wp2_with fail
                      go_ret
                      exact ⟨by rw [E.out]; rfl, HBz.out⟩
                  · rw [risesB_false g3] at HR
                    have E := Lib.hid (ckN_bad (fun h => g3 (HK.out.1 h).2.2.2.1))
                    clear g1 g2 g3 htx
                    go_wp2_with fail
                    refine HR.out.mono ?_
                    rintro e w2 ⟨rfl, hb2⟩
                    have HBz := Lib.hid (HE.out.step hb2).bel
                    clear hb2
                    go_wp2_with fail
                    go_ret
                    exact ⟨by rw [E.out]; rfl, HBz.out⟩
                · have q2 : 16 < (r.keys.length : Int) := by omega
                  have E := Lib.hid (ckN_bad (fun h => g2 (HK.out.1 h).2.2.1))
                  clear g1 g2 htx
                  go_wp2_with fail
                  go_ret
                  exact ⟨by rw [E.out]; rfl, HB1.out⟩
          by_cases hkd : r.kind = 2
          · have HK := Lib.hid (kind_2 hkd)
            have e1 : (r.kind == 1) = false := by rw [beq_eq_false_iff_ne]; omega
            have e2 : (r.kind == 2) = true := by rw [beq_iff_eq]; exact hkd
            have e3 : (r.kind == 3) = false := by rw [beq_eq_false_iff_ne]; omega
            have e4 : (r.kind == 4) = false := by rw [beq_eq_false_iff_ne]; omega
            have e5 : (r.kind == 5) = false := by rw [beq_eq_false_iff_ne]; omega
            have e6 : (r.kind == 6) = false := by rw [beq_eq_false_iff_ne]; omega
            have e7 : (r.kind == 7) = false := by rw [beq_eq_false_iff_ne]; omega
            clear hkd hk
            cases b with
            | false =>
              have E := Lib.hid (ckN_bad (fun h => absurd (HBa.out.2 (HK.out.1 h).1) (by simp)))
              go_wp2_with fail
              go_ret
              exact ⟨by rw [E.out]; rfl, HB1.out⟩
            | true =>
              have hba := HBa.out.1 rfl
              by_cases g1 : r.txn = 0
              · have q1 : (r.txn == 0) = true := by simp [g1]
                have q1' : (r.txn != 0) = false := by simp [g1]
                have E := Lib.hid (ckN_bad (fun h => (HK.out.1 h).2 g1))
                clear g1
                go_wp2_with fail
                go_ret
                exact ⟨by rw [E.out]; rfl, HB1.out⟩
              · have q1 : (r.txn == 0) = false := by simp [g1]
                have q1' : (r.txn != 0) = true := by simp [g1]
                have E := Lib.hid (ckN_ok HHead.out (HK.out.2 ⟨hba, g1⟩))
                clear g1
                go_wp2_with fail
                go_ret
                exact ⟨by rw [E.out]; rfl, HB1.out⟩
          exfalso
          omega
end Rc
end Go.Proofs.YtbkanoblcojdfaaGreat
