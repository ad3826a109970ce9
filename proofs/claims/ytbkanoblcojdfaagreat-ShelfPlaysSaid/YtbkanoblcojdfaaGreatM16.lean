/- Parts of the proof, joined: ShRef10; their conditions stand with each. -/
import Derived.Test.YtbkanoblcojdfaaGreatM15

namespace Go.Proofs.YtbkanoblcojdfaaGreat
namespace Sh
open Go.RowKit Bk Ch Lt Rc Tr
attribute [local go_sem ↓] Go.wp_at_zero Go.wp_at_succ
attribute [local go_sem] floatUpon pick
theorem ins_at {p : List Rec} {r : Rec} : ∀ {n : Nat}, n ≤ p.length → (∀ i (h : i < p.length), i < n → p[i].txn < r.txn) → (∀ h : n < p.length, ¬ p[n].txn < r.txn) → insP p r = p.take n ++ r :: p.drop n := by
  induction p with
  | nil => intro n hn _ _; simp at hn; subst hn; rfl
  | cons x t ih =>
    intro n hn h1 h2
    unfold insP at ih ⊢
    cases n with
    | zero =>
      have := h2 (by simp)
      simp only [List.getElem_cons_zero] at this
      rw [List.takeWhile_cons_of_neg (by simpa using this), List.dropWhile_cons_of_neg (by simpa using this)]
      rfl
    | succ j =>
      have hx := h1 0 (by simp) (by omega)
      simp only [List.getElem_cons_zero] at hx
      rw [List.takeWhile_cons_of_pos (by simpa using hx), List.dropWhile_cons_of_pos (by simpa using hx), List.take_succ_cons, List.drop_succ_cons, List.cons_append, List.cons_append, ih (n := j) (by simpa using hn) (fun i h hi => by have := h1 (i + 1) (by simpa using h) (by omega); simpa using this) (fun h => by have := h2 (by simpa using h); simpa using this)]
theorem p_at {P : List RI} {p : List Rec} (h : P.map (·.l) = p) {j : Nat} (h1 : j < P.length) (h2 : j < p.length) : p[j] = P[j].l := by
  subst h; simp
section
variable {W : World} {F : Nat → Prop} {g : Nat} {A B C : Option Addr} {a b c : Nat} {K : List KI} {P : List RI} {s : Shf}
set_option maxRecDepth 20000 in
set_option maxHeartbeats 16000000 in
theorem rprepare_any (h : RAt W F g A B C a b c K P s) (hs : ShOk s) (hF : ∀ k, F k → k < W.heap.size) (x : RI) (hx : PVal W (G F g) x) :
    Calls Tryz.prog 45 #[.pointer (some ⟨g, 0, none⟩), .agg (rcs x).toArray] W fun e w' => e = .returned (.int .i64 (prepareP s x.l).2) ∧ (∃ B' b' P', RAt w' F g A B' C a b' c K P' (prepareP s x.l).1) ∧ One g W w' := by
  obtain ⟨i9, z9, hi9, hz9, hzs9, hs9, hb9⟩ := info_rec
  have HSt := Lib.hid (fun V (hb : Below W.heap.size W V) => rstate_any (h.below hb) hs.pl hs.el x.l.txn)
  have HHe := Lib.hid (fun V key wb (hb : Below W.heap.size W V) => rheld_any (h.below hb) hs.pl key wb)
  have HH := Lib.hid (fun V (hb : Below W.heap.size W V) => h.below hb)
  have HX := Lib.hid (fun V (hb : Below W.heap.size W V) => hx.away (Away.of hb))
  have hHl := h.cel.lt
  have HG := Lib.hid (show ∀ k, G F g k → k < W.heap.size from fun k hk => hk.elim (hF k) (fun e => by rw [e]; exact hHl))
  have HPl := Lib.hid h.plen
  have HPk := Lib.hid hs.pl
  have HRep := Lib.hid h.ep
  have HBl := Lib.hid h.bl
  have HBn := Lib.hid h.bn
  have HE := Lib.hid (show prepareP s x.l = if (stateP s x.l.txn).1 ≠ 0 then (s, 6) else if x.l.keys.any (fun y => heldB s y false) = true then (s, 180) else if x.l.ws.any (fun y => heldB s y.key true) = true then (s, 180) else if 1024 ≤ s.p.length then (s, 2) else (⟨s.k, insP s.p x.l, s.e, s.over⟩, 0) from rfl)
  have HOld := Lib.hid (show ∀ V, Below W.heap.size W V → ∀ e, prepareP s x.l = (s, e) → (∃ B' b' P', RAt V F g A B' C a b' c K P' (prepareP s x.l).1) ∧ One g W V from fun V hb e he => ⟨⟨_, _, _, by rw [he]; exact h.below hb⟩, One.of hb⟩)
  obtain ⟨st, hst⟩ : ∃ st, stateP s x.l.txn = st := ⟨_, rfl⟩
  obtain ⟨st1, st2⟩ := st
  rw [hst] at HSt HE
  simp only at HSt HE
  have hrk := hx.val.rng.k16
  have hrw := hx.val.rng.w40
  have rb : reachBytes = 140737488351232 := rfl
  have hnk : (x.l.keys.length : Int) ≤ 9223372036854775807 := by omega
  have hnw : (x.l.ws.length : Int) ≤ 9223372036854775807 := by omega
  obtain ⟨r, A1, B1, c1, d1⟩ := x
  simp only at HSt HE HOld hnk hnw
  clear h hs hF hx hst hrk hrw rb
  show Calls _ _ #[_, .agg #[.int .i64 r.kind, .int .i64 r.txn, .int .i64 r.ts, .int .i64 r.coord, .string r.key, .string r.text, .bool r.dead, .slice A1 r.keys.length c1, .slice B1 r.ws.length d1]] _ _
  go_enter Tryz.func45, Tryz.ntmps45
  go_upto_region 1 with fail
  have hR0 : Cel (W.alloc (.cells #[.int .i64 r.kind, .int .i64 r.txn, .int .i64 r.ts, .int .i64 r.coord, .string r.key, .string r.text, .bool r.dead, .slice A1 r.keys.length c1, .slice B1 r.ws.length d1] 37)) W.heap.size 37 [.int .i64 r.kind, .int .i64 r.txn, .int .i64 r.ts, .int .i64 r.coord, .string r.key, .string r.text, .bool r.dead, .slice A1 r.keys.length c1, .slice B1 r.ws.length d1] := (blk1 W _).2
  have hB0 : Below W.heap.size W (W.alloc (.cells #[.int .i64 r.kind, .int .i64 r.txn, .int .i64 r.ts, .int .i64 r.coord, .string r.key, .string r.text, .bool r.dead, .slice A1 r.keys.length c1, .slice B1 r.ws.length d1] 37)) := (Below.refl _ W).alloc (Nat.le_refl _) _
  generalize hW0 : W.alloc (.cells #[.int .i64 r.kind, .int .i64 r.txn, .int .i64 r.ts, .int .i64 r.coord, .string r.key, .string r.text, .bool r.dead, .slice A1 r.keys.length c1, .slice B1 r.ws.length d1] 37) = W0 at hR0 hB0 ⊢
  clear hW0
  have q1 := hR0.cell (i := 1) rfl
  have HR0 := Lib.hid hR0
  have HB0 := Lib.hid hB0
  clear hR0 hB0
  go_wp2_with fail
  refine (HSt.out _ HB0.out).mono ?_
  rintro e1 w1 ⟨rfl, hb⟩
  have HB1 := Lib.hid (HB0.out.trans (hb.mono HB0.out.size))
  have hR1 := HR0.out.below hb
  have HR1 := Lib.hid hR1
  have k7 := hR1.cell (i := 7) rfl
  have k8 := hR1.cell (i := 8) rfl
  clear hb HSt HR0 HB0 q1 hR1
  by_cases hz : st1 = 0
  case neg =>
    have E := Lib.hid (show prepareP s r = (s, 6) by rw [HE.out, if_pos hz])
    have pz : (st1 == 0) = false := by simpa using hz
    clear HE hz
    go_wp2_with fail
    go_ret
    exact ⟨by rw [E.out]; rfl, HOld.out _ HB1.out _ E.out⟩
  subst hz
  have HE2 := Lib.hid (show prepareP s r = if r.keys.any (fun y => heldB s y false) = true then (s, 180) else if r.ws.any (fun y => heldB s y.key true) = true then (s, 180) else if 1024 ≤ s.p.length then (s, 2) else (⟨s.k, insP s.p r, s.e, s.over⟩, 0) by rw [HE.out, if_neg (by simp)])
  clear HE
  go_wp2_with fail
  go_loopw [7] (fun iv wr => ∃ j : Nat, j ≤ r.keys.length ∧ iv = .int .i64 (j : Int) ∧ Hid (∀ i (h : i < r.keys.length), i < j → heldB s r.keys[i] false = false) ∧ Hid (wr = w1)) (fun iv _ => r.keys.length - (intOf iv).toNat)
  case atStart => exact ⟨0, Nat.zero_le _, rfl, Lib.hid (fun i _ h => absurd h (by omega)), Lib.hid rfl⟩
  case round =>
    obtain ⟨j, hj, rfl, hall, hw⟩ := hrel
    obtain rfl : w1 = wr := hw.out.symm
    clear hw
    by_cases hlt : j < r.keys.length
    · have pj : (j : Int) < (r.keys.length : Int) := by omega
      obtain ⟨ad, hA1, _, hcl⟩ := (HX.out _ HB1.out).val.ks (show 0 < r.keys.length by omega)
      simp only at hA1
      subst hA1
      have y0 := hcl j hlt
      have HHj := Lib.hid (HHe.out w1 r.keys[j] false HB1.out)
      have HY := Lib.hid (fun (hh : heldB s r.keys[j] false = true) => show prepareP s r = (s, 180) by rw [HE2.out, if_pos (any_at hlt hh)])
      have HN := Lib.hid (show heldB s r.keys[j] false = false → ∀ i (h : i < r.keys.length), i < j + 1 → heldB s r.keys[i] false = false from fun hn i h hi => by
        by_cases e : i = j
        · subst e; exact hn
        · exact hall.out i h (by omega))
      clear hcl hall
      simp only at y0
      generalize r.keys[j] = ky at y0 HHj HY HN
      generalize heldB s ky false = hh at HHj HY HN
      go_wp2_with fail
      refine HHj.out.mono ?_
      rintro e2 w2 ⟨rfl, hw⟩
      obtain rfl : w1 = w2 := hw.symm
      clear hw HHj
      cases hh with
      | true =>
        have E := Lib.hid (HY.out rfl)
        clear HY HN
        go_wp2_with fail
        go_ret
        exact ⟨by rw [E.out]; rfl, HOld.out _ HB1.out _ E.out⟩
      | false =>
        have HN2 := Lib.hid (HN.out rfl)
        clear HY HN
        go_wp2_with fail
        go_roundw
        case rel => exact ⟨j + 1, by omega, by go_num, HN2, Lib.hid (by trivial)⟩
        case measure => simp [intOf]; omega
    · obtain rfl : j = r.keys.length := by omega
      have HE3 := Lib.hid (show prepareP s r = if r.ws.any (fun y => heldB s y.key true) = true then (s, 180) else if 1024 ≤ s.p.length then (s, 2) else (⟨s.k, insP s.p r, s.e, s.over⟩, 0) by rw [HE2.out, if_neg (by rw [any_none fun i h => hall.out i h h]; simp)])
      clear hall HE2
      go_wp2_with fail
      go_loopw [8] (fun iv wr => ∃ j : Nat, j ≤ r.ws.length ∧ iv = .int .i64 (j : Int) ∧ Hid (∀ i (h : i < r.ws.length), i < j → heldB s r.ws[i].key true = false) ∧ Hid (wr = w1)) (fun iv _ => r.ws.length - (intOf iv).toNat)
      case atStart => exact ⟨0, Nat.zero_le _, rfl, Lib.hid (fun i _ h => absurd h (by omega)), Lib.hid rfl⟩
      case round =>
        obtain ⟨j, hj, rfl, hall, hw⟩ := hrel
        obtain rfl : w1 = wr := hw.out.symm
        clear hw
        by_cases hlt : j < r.ws.length
        · have pj : (j : Int) < (r.ws.length : Int) := by omega
          obtain ⟨ad, hA1, _, hcl⟩ := (HX.out _ HB1.out).val.ws (show 0 < r.ws.length by omega)
          simp only at hA1
          subst hA1
          obtain ⟨y0, -, -⟩ := hcl j hlt
          have HHj := Lib.hid (HHe.out w1 r.ws[j].key true HB1.out)
          have HY := Lib.hid (fun (hh : heldB s r.ws[j].key true = true) => show prepareP s r = (s, 180) by rw [HE3.out, if_pos (any_at (f := fun y : Wr => heldB s y.key true) hlt hh)])
          have HN := Lib.hid (show heldB s r.ws[j].key true = false → ∀ i (h : i < r.ws.length), i < j + 1 → heldB s r.ws[i].key true = false from fun hn i h hi => by
            by_cases e : i = j
            · subst e; exact hn
            · exact hall.out i h (by omega))
          clear hcl hall
          simp only at y0
          generalize r.ws[j].key = ky at y0 HHj HY HN
          generalize heldB s ky true = hh at HHj HY HN
          go_wp2_with fail
          refine HHj.out.mono ?_
          rintro e2 w2 ⟨rfl, hw⟩
          obtain rfl : w1 = w2 := hw.symm
          clear hw HHj
          cases hh with
          | true =>
            have E := Lib.hid (HY.out rfl)
            clear HY HN
            go_wp2_with fail
            go_ret
            exact ⟨by rw [E.out]; rfl, HOld.out _ HB1.out _ E.out⟩
          | false =>
            have HN2 := Lib.hid (HN.out rfl)
            clear HY HN
            go_wp2_with fail
            go_roundw
            case rel => exact ⟨j + 1, by omega, by go_num, HN2, Lib.hid (by trivial)⟩
            case measure => simp [intOf]; omega
        · obtain rfl : j = r.ws.length := by omega
          have HE4 := Lib.hid (show prepareP s r = if 1024 ≤ s.p.length then (s, 2) else (⟨s.k, insP s.p r, s.e, s.over⟩, 0) by rw [HE3.out, if_neg (by rw [any_none (f := fun y : Wr => heldB s y.key true) fun i h => hall.out i h h]; simp)])
          clear hall HE3 HHe
          have s1 := (HH.out _ HB1.out).cel.cell (i := 1) rfl
          have hpl := HPl.out
          have hpk := HPk.out
          by_cases hfull : 1024 ≤ s.p.length
          · have E := Lib.hid (show prepareP s r = (s, 2) by rw [HE4.out, if_pos hfull])
            have pf : (1024 : Int) ≤ (P.length : Int) := by omega
            clear HE4 hfull hpl hpk
            go_wp2_with fail
            go_ret
            exact ⟨by rw [E.out]; rfl, HOld.out _ HB1.out _ E.out⟩
          have E := Lib.hid (show prepareP s r = (⟨s.k, insP s.p r, s.e, s.over⟩, 0) by rw [HE4.out, if_neg hfull])
          have pf : ¬ (1024 : Int) ≤ (P.length : Int) := by omega
          have HPf := Lib.hid (show P.length < 1024 by omega)
          clear HE4 hfull hpl hpk HOld
          go_wp2_with fail
          go_loopw [9] (fun iv wr => ∃ j : Nat, j ≤ P.length ∧ iv = .int .i64 (j : Int) ∧ Hid (∀ i (h : i < s.p.length), i < j → s.p[i].txn < r.txn) ∧ Hid (Below w1.heap.size w1 wr)) (fun iv _ => P.length - (intOf iv).toNat)
          case atStart => exact ⟨0, Nat.zero_le _, rfl, Lib.hid (fun i _ h => absurd h (by omega)), Lib.hid (Below.refl _ _)⟩
          case round =>
            obtain ⟨j, hj, rfl, hall, hb⟩ := hrel
            have HB := Lib.hid (HB1.out.trans (hb.out.mono HB1.out.size))
            have s1 := (HH.out _ HB.out).cel.cell (i := 1) rfl
            have hri := HR1.out.below hb.out
            have q1 := hri.cell (i := 1) rfl
            clear hri
            by_cases hlt : j < P.length
            · have pj : (j : Int) < (P.length : Int) := by omega
              obtain ⟨ad, eB, -, hcl⟩ := (HH.out _ HB.out).one hlt
              have y1 := hcl 1 (.int .i64 P[j].l.txn) rfl
              rw [← Ch.add_field _ _ _ (by omega)] at y1
              have hjp : ∀ h : j < s.p.length, s.p[j].txn = P[j].l.txn := fun h => by rw [p_at HRep.out hlt h]
              generalize P[j].l.txn = tj at y1 hjp
              subst eB
              clear hcl
              by_cases hlx : tj < r.txn
              · have HN := Lib.hid (show ∀ i (h : i < s.p.length), i < j + 1 → s.p[i].txn < r.txn from fun i h hi => by
                  by_cases e : i = j
                  · subst e; rw [hjp h]; exact hlx
                  · exact hall.out i h (by omega))
                clear hall hjp
                go_upto_region 17 with fail
                go_quiet (fail)
                rename_i nq
                have HB' := Lib.hid (hb.out.trans (below_drew w1.heap.size wr nq))
                generalize wr.drewN nq = w2 at HB' ⊢
                clear hb HB s1 y1 q1
                go_wp2_with fail
                go_roundw
                case rel => exact ⟨j + 1, by omega, by go_num, HN, HB'⟩
                case measure => simp [intOf]; omega
              · have HS := Lib.hid (show insP s.p r = s.p.take j ++ r :: s.p.drop j from ins_at (by have := HPl.out; omega) (fun i h hi => hall.out i h hi) (fun h => by rw [hjp h]; exact hlx))
                clear hall hjp
                go_upto_region 17 with fail
                go_quiet (fail)
                rename_i nq
                have hb2 := hb.out.trans (below_drew w1.heap.size wr nq)
                have hr2 := HR1.out.below hb2
                have hB2 := HB1.out.trans (hb2.mono HB1.out.size)
                generalize wr.drewN nq = w2 at hb2 hr2 hB2 ⊢
                have q0 := hr2.cell (i := 0) rfl
                have q1 := hr2.cell (i := 1) rfl
                have q2 := hr2.cell (i := 2) rfl
                have q3 := hr2.cell (i := 3) rfl
                have q4 := hr2.cell (i := 4) rfl
                have q5 := hr2.cell (i := 5) rfl
                have q6 := hr2.cell (i := 6) rfl
                have q7 := hr2.cell (i := 7) rfl
                have q8 := hr2.cell (i := 8) rfl
                have HB2 := Lib.hid hB2
                have HR2 := Lib.hid hr2
                clear hb2 hb HB HR1 hB2 hr2 q0 q1 q2 q3 q4 q5 q6 q7 q8
                have s1 := (HH.out _ HB2.out).cel.cell (i := 1) rfl
                have sl := slice_toN 22 37 i9 (by kernel_rfl) (by kernel_rfl) hi9 (some ad) P.length b j (Nat.le_trans hj HBl.out.1)
                have HLt := Lib.hid (show ((P.take j).flatMap rcs).length = j * 9 by rw [flatN_len rcs_len, List.length_take, Nat.min_eq_left hj])
                have HRt := Lib.hid (show RowF w2 (G F g) (some ad) ((P.take j).flatMap rcs) by
                  have := (HH.out _ HB2.out).rp.take (j * 9)
                  rwa [flatN_take rcs_len] at this)
                have hji : (j : Int) ≤ (P.length : Int) := by omega
                have hPi := HPf.out
                have HBn2 := Lib.hid (show (some ad) = none → j = 0 ∧ b = 0 from fun e => by have := HBn.out e; omega)
                go_wp2_with (at_builtin; refine wpList_append_optN rfl _ _ 22 rfl w2.heap.size 37 i9 z9 9 120 Tryz.underlying22 hi9 hz9 hs9 hb9 hzs9 (by decide) _ 0 [] rfl (World.ownsRow_nil _ _ _ _) (some ad) j b ((P.take j).flatMap rcs) rfl HLt.out HBn2.out (fun ad' e => by cases e; exact HRt.out.news) (recs_one _) ?ac3 ?ac4 (Nat.le_refl _) ?_)
                case ac3 => unfold maxLen; omega
                case ac4 => omega
                intro v4 w4 ho4 hg4 hat4
                have hb4 : Below w2.heap.size w2 w4 := (Below.refl _ w2).grown hg4 (Nat.le_refl _) (fun k hk => by cases hk)
                try simp only [Nat.zero_add, List.nil_append] at ho4
                have hr4 := HR2.out.below (hb4.mono (by have := HR2.out.lt; omega))
                have q0 := hr4.cell (i := 0) rfl
                have q1 := hr4.cell (i := 1) rfl
                have q2 := hr4.cell (i := 2) rfl
                have q3 := hr4.cell (i := 3) rfl
                have q4 := hr4.cell (i := 4) rfl
                have q5 := hr4.cell (i := 5) rfl
                have q6 := hr4.cell (i := 6) rfl
                have q7 := hr4.cell (i := 7) rfl
                have q8 := hr4.cell (i := 8) rfl
                have HB4 := Lib.hid hb4
                have HO4 := Lib.hid ho4
                clear ho4 hg4 hat4 hb4 hr4 s1 sl HRt HLt HR2
                go_wp2_with (at_builtin; refine wpList_append_own_at _ rfl _ _ 22 rfl w2.heap.size 37 i9 z9 9 120 Tryz.underlying22 hi9 hz9 hs9 hb9 hzs9 (by decide) _ j _ rfl (HO4.out.alloc _) ⟨w4.heap.size, 0, none⟩ 1 1 (rcs ⟨r, A1, B1, c1, d1⟩) rfl rfl ?ad1 ?ad2 ?ad3 ?ad4 ?ad5 ?_)
                case ad1 => exact fun j u hu => by rw [addr_head]; exact blk_cell (blk1 w4 _).2 (by rw [List.getElem?_toArray]; exact hu)
                case ad2 => exact fun u hu => recs_one [⟨r, A1, B1, c1, d1⟩] u (by simpa using hu)
                case ad3 => unfold maxLen; omega
                case ad4 => omega
                case ad5 => have := HB4.out.size; simp; omega
                intro v5 w5 ho5 hg5 _ hat5
                have hb5 : Below w2.heap.size w2 w5 := (HB4.out.alloc HB4.out.size _).grown hg5 (by have := HB4.out.size; simp; omega) (fun k hk => (HO4.out.lt k hk).1)
                have hP5 : (P.take j ++ [(⟨r, A1, B1, c1, d1⟩ : RI)]).flatMap rcs = (P.take j).flatMap rcs ++ rcs ⟨r, A1, B1, c1, d1⟩ := by rw [List.flatMap_append]; simp
                rw [← hP5] at ho5
                have HB5 := Lib.hid hb5
                have HO5 := Lib.hid ho5
                clear ho5 hg5 hat5 hb5 hP5 HB4 HO4 q0 q1 q2 q3 q4 q5 q6 q7 q8
                have hB5 := HB2.out.trans (HB5.out.mono HB2.out.size)
                obtain ⟨B6, b6, hs6, hd6, hn6, hl6, hc6⟩ := slice_fromN 22 37 i9 (by kernel_rfl) (by kernel_rfl) hi9 9 hs9 (some ad) P.length b j hj HBl.out.1 HBn.out
                have HL6 := Lib.hid (show ((P.drop j).flatMap rcs).length = (P.length - j) * 9 by rw [flatN_len rcs_len, List.length_drop])
                have HR6 := Lib.hid (show RowF w5 (G F g) B6 ((P.drop j).flatMap rcs) by
                  have := hd6 w5 (G F g) (P.flatMap rcs) (flatN_len rcs_len P) (HH.out _ hB5).rp
                  rwa [flatN_drop rcs_len] at this)
                have HN6 := Lib.hid hn6
                have s1 := (HH.out _ hB5).cel.cell (i := 1) rfl
                have HB50 := Lib.hid hB5
                clear hd6 hn6 hB5
                go_wp2_with (at_builtin; refine wpList_append_optN rfl _ _ 22 rfl w2.heap.size 37 i9 z9 9 120 Tryz.underlying22 hi9 hz9 hs9 hb9 hzs9 (by decide) _ (j + 1) _ rfl HO5.out B6 (P.length - j) b6 ((P.drop j).flatMap rcs) rfl HL6.out HN6.out (fun ad' e => by cases e; exact HR6.out.news) (recs_one _) ?ae3 ?ae4 ?ae5 ?_)
                case ae3 => unfold maxLen; omega
                case ae4 => omega
                case ae5 => exact HB5.out.size
                intro v7 w7 ho7 hg7 hat7
                have HB07 := HB5.out.grown hg7 HB5.out.size (fun k hk => (HO5.out.lt k hk).1)
                have HB7 := HB2.out.trans (HB07.mono HB2.out.size)
                have ho7 : w7.ownsRow w2.heap.size 37 9 v7 (j + 1 + (P.length - j)) ((P.take j ++ [(⟨r, A1, B1, c1, d1⟩ : RI)] ++ P.drop j).flatMap rcs) := by simpa [List.flatMap_append] using ho7
                have hlen7 : (P.take j ++ [(⟨r, A1, B1, c1, d1⟩ : RI)] ++ P.drop j).length = j + 1 + (P.length - j) := by
                  rw [List.length_append, List.length_append, List.length_take, List.length_drop, Nat.min_eq_left hj]; rfl
                obtain ⟨A8, c8, rfl, hr8, hlc8, hcm8, hn8⟩ := own_rowF (F := G F g) ho7 (by rw [flatN_len rcs_len, hlen7]) (fun k hk => Nat.lt_of_lt_of_le (HG.out k hk) HB2.out.size)
                rw [← hlen7] at hlc8 hn8
                have hR7 := HH.out _ HB7
                have hx7 := HX.out _ HB7
                have hpv : ∀ y ∈ P.take j ++ [(⟨r, A1, B1, c1, d1⟩ : RI)] ++ P.drop j, PVal w7 (G F g) y := fun y hy => by
                  rcases List.mem_append.1 hy with hy | hy
                  · rcases List.mem_append.1 hy with hy | hy
                    · exact hR7.pv y (List.mem_of_mem_take hy)
                    · rw [List.mem_singleton.1 hy]; exact hx7
                  · exact hR7.pv y (List.mem_of_mem_drop hy)
                have hfin := hR7.setP hr8 hn8 ⟨hlc8, hcm8⟩ hpv
                have hep : (P.take j ++ [(⟨r, A1, B1, c1, d1⟩ : RI)] ++ P.drop j).map (·.l) = insP s.p r := by
                  rw [HS.out, ← HRep.out]
                  simp [List.map_take, List.map_drop]
                rw [hep, hlen7] at hfin
                have hE : prepareP s r = (⟨s.k, insP s.p r, s.e, s.over⟩, 0) := E.out
                have HFin := Lib.hid hfin
                have HOne := Lib.hid ((One.of (g := g) HB7).set (i := 1) (.slice A8 (j + 1 + (P.length - j)) c8))
                have sf := fun i => hR7.cel.free (i := i)
                have s17 := hR7.cel.cell (i := 1) rfl
                have HE9 := Lib.hid hE
                clear HB07 HB7 ho7 hlen7 hr8 hlc8 hcm8 hn8 hR7 hx7 hpv hfin hep hg7 hat7 s1 hs6 hE
                go_wp2_with fail
                go_ret
                exact ⟨by rw [HE9.out]; rfl, ⟨_, _, _, by rw [HE9.out]; exact HFin.out⟩, HOne.out⟩
            · have pj : ¬ (j : Int) < (P.length : Int) := by omega
              have HS := Lib.hid (show insP s.p r = s.p.take j ++ r :: s.p.drop j from ins_at (by have := HPl.out; omega) (fun i h hi => hall.out i h hi) (fun h => absurd h (by have := HPl.out; omega)))
              clear hall
              go_upto_region 17 with fail
              go_quiet (fail)
              rename_i nq
              have hb2 := hb.out.trans (below_drew w1.heap.size wr nq)
              have hr2 := HR1.out.below hb2
              have hB2 := HB1.out.trans (hb2.mono HB1.out.size)
              generalize wr.drewN nq = w2 at hb2 hr2 hB2 ⊢
              have q0 := hr2.cell (i := 0) rfl
              have q1 := hr2.cell (i := 1) rfl
              have q2 := hr2.cell (i := 2) rfl
              have q3 := hr2.cell (i := 3) rfl
              have q4 := hr2.cell (i := 4) rfl
              have q5 := hr2.cell (i := 5) rfl
              have q6 := hr2.cell (i := 6) rfl
              have q7 := hr2.cell (i := 7) rfl
              have q8 := hr2.cell (i := 8) rfl
              have HB2 := Lib.hid hB2
              have HR2 := Lib.hid hr2
              clear hb2 hb HB HR1 hB2 hr2 q0 q1 q2 q3 q4 q5 q6 q7 q8
              have s1 := (HH.out _ HB2.out).cel.cell (i := 1) rfl
              have sl := slice_toN 22 37 i9 (by kernel_rfl) (by kernel_rfl) hi9 B P.length b j (Nat.le_trans hj HBl.out.1)
              have HLt := Lib.hid (show ((P.take j).flatMap rcs).length = j * 9 by rw [flatN_len rcs_len, List.length_take, Nat.min_eq_left hj])
              have HRt := Lib.hid (show RowF w2 (G F g) B ((P.take j).flatMap rcs) by
                have := (HH.out _ HB2.out).rp.take (j * 9)
                rwa [flatN_take rcs_len] at this)
              have hji : (j : Int) ≤ (P.length : Int) := by omega
              have hPi := HPf.out
              have HBn2 := Lib.hid (show B = none → j = 0 ∧ b = 0 from fun e => by have := HBn.out e; omega)
              go_wp2_with (at_builtin; refine wpList_append_optN rfl _ _ 22 rfl w2.heap.size 37 i9 z9 9 120 Tryz.underlying22 hi9 hz9 hs9 hb9 hzs9 (by decide) _ 0 [] rfl (World.ownsRow_nil _ _ _ _) B j b ((P.take j).flatMap rcs) rfl HLt.out HBn2.out (fun ad' e => by cases e; exact HRt.out.news) (recs_one _) ?bc3 ?bc4 (Nat.le_refl _) ?_)
              case bc3 => unfold maxLen; omega
              case bc4 => omega
              intro v4 w4 ho4 hg4 hat4
              have hb4 : Below w2.heap.size w2 w4 := (Below.refl _ w2).grown hg4 (Nat.le_refl _) (fun k hk => by cases hk)
              try simp only [Nat.zero_add, List.nil_append] at ho4
              have hr4 := HR2.out.below (hb4.mono (by have := HR2.out.lt; omega))
              have q0 := hr4.cell (i := 0) rfl
              have q1 := hr4.cell (i := 1) rfl
              have q2 := hr4.cell (i := 2) rfl
              have q3 := hr4.cell (i := 3) rfl
              have q4 := hr4.cell (i := 4) rfl
              have q5 := hr4.cell (i := 5) rfl
              have q6 := hr4.cell (i := 6) rfl
              have q7 := hr4.cell (i := 7) rfl
              have q8 := hr4.cell (i := 8) rfl
              have HB4 := Lib.hid hb4
              have HO4 := Lib.hid ho4
              clear ho4 hg4 hat4 hb4 hr4 s1 sl HRt HLt HR2
              go_wp2_with (at_builtin; refine wpList_append_own_at _ rfl _ _ 22 rfl w2.heap.size 37 i9 z9 9 120 Tryz.underlying22 hi9 hz9 hs9 hb9 hzs9 (by decide) _ j _ rfl (HO4.out.alloc _) ⟨w4.heap.size, 0, none⟩ 1 1 (rcs ⟨r, A1, B1, c1, d1⟩) rfl rfl ?bd1 ?bd2 ?bd3 ?bd4 ?bd5 ?_)
              case bd1 => exact fun j u hu => by rw [addr_head]; exact blk_cell (blk1 w4 _).2 (by rw [List.getElem?_toArray]; exact hu)
              case bd2 => exact fun u hu => recs_one [⟨r, A1, B1, c1, d1⟩] u (by simpa using hu)
              case bd3 => unfold maxLen; omega
              case bd4 => omega
              case bd5 => have := HB4.out.size; simp; omega
              intro v5 w5 ho5 hg5 _ hat5
              have hb5 : Below w2.heap.size w2 w5 := (HB4.out.alloc HB4.out.size _).grown hg5 (by have := HB4.out.size; simp; omega) (fun k hk => (HO4.out.lt k hk).1)
              have hP5 : (P.take j ++ [(⟨r, A1, B1, c1, d1⟩ : RI)]).flatMap rcs = (P.take j).flatMap rcs ++ rcs ⟨r, A1, B1, c1, d1⟩ := by rw [List.flatMap_append]; simp
              rw [← hP5] at ho5
              have HB5 := Lib.hid hb5
              have HO5 := Lib.hid ho5
              clear ho5 hg5 hat5 hb5 hP5 HB4 HO4 q0 q1 q2 q3 q4 q5 q6 q7 q8
              have hB5 := HB2.out.trans (HB5.out.mono HB2.out.size)
              obtain ⟨B6, b6, hs6, hd6, hn6, hl6, hc6⟩ := slice_fromN 22 37 i9 (by kernel_rfl) (by kernel_rfl) hi9 9 hs9 B P.length b j hj HBl.out.1 HBn.out
              have HL6 := Lib.hid (show ((P.drop j).flatMap rcs).length = (P.length - j) * 9 by rw [flatN_len rcs_len, List.length_drop])
              have HR6 := Lib.hid (show RowF w5 (G F g) B6 ((P.drop j).flatMap rcs) by
                have := hd6 w5 (G F g) (P.flatMap rcs) (flatN_len rcs_len P) (HH.out _ hB5).rp
                rwa [flatN_drop rcs_len] at this)
              have HN6 := Lib.hid hn6
              have s1 := (HH.out _ hB5).cel.cell (i := 1) rfl
              have HB50 := Lib.hid hB5
              clear hd6 hn6 hB5
              go_wp2_with (at_builtin; refine wpList_append_optN rfl _ _ 22 rfl w2.heap.size 37 i9 z9 9 120 Tryz.underlying22 hi9 hz9 hs9 hb9 hzs9 (by decide) _ (j + 1) _ rfl HO5.out B6 (P.length - j) b6 ((P.drop j).flatMap rcs) rfl HL6.out HN6.out (fun ad' e => by cases e; exact HR6.out.news) (recs_one _) ?be3 ?be4 ?be5 ?_)
              case be3 => unfold maxLen; omega
              case be4 => omega
              case be5 => exact HB5.out.size
              intro v7 w7 ho7 hg7 hat7
              have HB07 := HB5.out.grown hg7 HB5.out.size (fun k hk => (HO5.out.lt k hk).1)
              have HB7 := HB2.out.trans (HB07.mono HB2.out.size)
              have ho7 : w7.ownsRow w2.heap.size 37 9 v7 (j + 1 + (P.length - j)) ((P.take j ++ [(⟨r, A1, B1, c1, d1⟩ : RI)] ++ P.drop j).flatMap rcs) := by simpa [List.flatMap_append] using ho7
              have hlen7 : (P.take j ++ [(⟨r, A1, B1, c1, d1⟩ : RI)] ++ P.drop j).length = j + 1 + (P.length - j) := by
                rw [List.length_append, List.length_append, List.length_take, List.length_drop, Nat.min_eq_left hj]; rfl
              obtain ⟨A8, c8, rfl, hr8, hlc8, hcm8, hn8⟩ := own_rowF (F := G F g) ho7 (by rw [flatN_len rcs_len, hlen7]) (fun k hk => Nat.lt_of_lt_of_le (HG.out k hk) HB2.out.size)
              rw [← hlen7] at hlc8 hn8
              have hR7 := HH.out _ HB7
              have hx7 := HX.out _ HB7
              have hpv : ∀ y ∈ P.take j ++ [(⟨r, A1, B1, c1, d1⟩ : RI)] ++ P.drop j, PVal w7 (G F g) y := fun y hy => by
                rcases List.mem_append.1 hy with hy | hy
                · rcases List.mem_append.1 hy with hy | hy
                  · exact hR7.pv y (List.mem_of_mem_take hy)
                  · rw [List.mem_singleton.1 hy]; exact hx7
                · exact hR7.pv y (List.mem_of_mem_drop hy)
              have hfin := hR7.setP hr8 hn8 ⟨hlc8, hcm8⟩ hpv
              have hep : (P.take j ++ [(⟨r, A1, B1, c1, d1⟩ : RI)] ++ P.drop j).map (·.l) = insP s.p r := by
                rw [HS.out, ← HRep.out]
                simp [List.map_take, List.map_drop]
              rw [hep, hlen7] at hfin
              have hE : prepareP s r = (⟨s.k, insP s.p r, s.e, s.over⟩, 0) := E.out
              have HFin := Lib.hid hfin
              have HOne := Lib.hid ((One.of (g := g) HB7).set (i := 1) (.slice A8 (j + 1 + (P.length - j)) c8))
              have sf := fun i => hR7.cel.free (i := i)
              have s17 := hR7.cel.cell (i := 1) rfl
              have HE9 := Lib.hid hE
              clear HB07 HB7 ho7 hlen7 hr8 hlc8 hcm8 hn8 hR7 hx7 hpv hfin hep hg7 hat7 s1 hs6 hE
              go_wp2_with fail
              go_ret
              exact ⟨by rw [HE9.out]; rfl, ⟨_, _, _, by rw [HE9.out]; exact HFin.out⟩, HOne.out⟩
end
end Sh
end Go.Proofs.YtbkanoblcojdfaaGreat
