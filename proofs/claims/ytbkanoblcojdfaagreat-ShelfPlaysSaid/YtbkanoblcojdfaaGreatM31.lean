/- Parts of the proof, joined: ShPl2; their conditions stand with each. -/
import Derived.Test.YtbkanoblcojdfaaGreatM30

namespace Go.Proofs.YtbkanoblcojdfaaGreat
namespace Sh
open Go.RowKit Bk Ch Lt Rc Tr
attribute [local go_sem ↓] Go.wp_at_zero Go.wp_at_succ
attribute [local go_sem] floatUpon pick
theorem bne_self_i (n : Int) : (n != n) = false := by simp
theorem bne_self_b (b : Bool) : (b != b) = false := by simp
set_option maxRecDepth 20000 in
set_option maxHeartbeats 16000000 in
theorem same_any (w : World) (F P : Nat → Prop) (g h : Nat) (s : Shf) (hL : LRep w F g s) (hR : RRep w P h s) (hs : ShOk s) (A B C : Option Addr) (a b c : Nat) (ks : List ByteArray) (ts ms : List Int) (hka : StrsAt w A ks) (hta : IntsAt w B ts) (hma : IntsAt w C ms)
    (hks : ∀ k ∈ ks, k.size ≤ maxLen) (htr : ∀ t ∈ ts, -9223372036854775808 ≤ t ∧ t ≤ 9223372036854775807) (pkl : (ks.length : Int) ≤ 9223372036854775807) (ptl : (ts.length : Int) ≤ 9223372036854775807) (pml : (ms.length : Int) ≤ 9223372036854775807) :
    Calls Tryz.prog 16 #[.pointer (some ⟨g, 0, none⟩), .pointer (some ⟨h, 0, none⟩), .slice A ks.length a, .slice B ts.length b, .slice C ms.length c] w fun e w' => e = .returned (.bool true) ∧ Below w.heap.size w w' := by
  have HL := Lib.hid (fun V (hb : Below w.heap.size w V) => hL.below hb)
  have HR := Lib.hid (fun V (hb : Below w.heap.size w V) => hR.below hb)
  have HKa := Lib.hid (fun V (hb : Below w.heap.size w V) => hka.below hb)
  have HTa := Lib.hid (fun V (hb : Below w.heap.size w V) => hta.below hb)
  have HMa := Lib.hid (fun V (hb : Below w.heap.size w V) => hma.below hb)
  have HKs := Lib.hid hks
  have HTr := Lib.hid htr
  have HS := Lib.hid hs
  clear hL hR hka hta hma hks htr hs
  go_enter Tryz.func16, Tryz.ntmps16
  go_wp2_with fail
  refine ((HL.out _ (Below.refl _ _)).recs_c HS.out).mono ?_
  rintro e1 w1 ⟨A1, c1, X, rfl, hX, hO, hb1⟩
  have HO := Lib.hid hO
  have HX := Lib.hid hX
  have HB1 := Lib.hid hb1
  have hxl : X.length ≤ 4398046511104 := by have := recs_len HS.out; rw [← hX, List.length_map] at this; exact this
  have pxl : (X.length : Int) ≤ 9223372036854775807 := by omega
  clear hX hO hb1 hxl
  go_wp2_with fail
  refine ((HR.out _ (Below.refl _ _)).recs_c HS.out HB1.out).mono ?_
  rintro e2 w2 ⟨A2, c2, Y, rfl, hY, hRow, hYn, hYb, hb2⟩
  have hlen : Y.length = X.length := by have := congrArg List.length (hY.trans HX.out.symm); simpa using this
  have HB2 := Lib.hid (HB1.out.trans (hb2.mono HB1.out.size))
  have HSx := Lib.hid ((SmX.start HO.out).below hb2)
  have HY := Lib.hid (And.intro hRow (And.intro (fun ad e => Nat.le_trans (Nat.le_refl _) (hYn ad e)) (fun y hy b hb => hYb y hy b hb)))
  have HE := Lib.hid (fun (i : Nat) (h1 : i < X.length) (h2 : i < Y.length) => show X[i].l = Y[i].l by
    have h3 : (X.map (·.l))[i]? = (Y.map (·.l))[i]? := by rw [HX.out, hY]
    rw [List.getElem?_map, List.getElem?_map, List.getElem?_eq_getElem h1, List.getElem?_eq_getElem h2] at h3
    simpa using h3)
  have HLen := Lib.hid hlen
  have HOld := Lib.hid (fun y (hy : y ∈ Y) b (hb : Rb y b) => show b < w.heap.size from hYb y hy b hb)
  rw [hlen]
  clear hY hRow hYn hYb hb2 hlen
  go_upto_region 3 with fail
  have q0 := bne_self_i s.over
  have q1 := bne_self_i (X.length : Int)
  generalize hov : s.over = ov at q0
  have HOv := Lib.hid hov
  clear hov
  refine wp_region_said 22 [33, 34, 35, 36, 37, 38, 39, 40, 41, 42, 43, 44, 45, 46, 47, 48, 49, 50, 51, 52, 53, 54]
    [.is (.slice A1 X.length c1), .is (.int .i64 (X.length : Int)), .is (.slice A2 X.length c2), .is (.int .i64 (X.length : Int)), .is (.bool false), .is (.bool false), .is (.pointer (some ⟨g, 0, none⟩)), .is (.int .i64 ov), .is (.pointer (some ⟨h, 0, none⟩)), .is (.pointer (some ⟨h, 0, none⟩)), .is (.pointer (some ⟨h, 3, none⟩)), .is (.int .i64 ov), .is (.bool false), .is (.bool false), .is (.bool false),
     .is (.pointer (some ⟨g, 0, none⟩)), .own (fun u V => ∃ (A : Option Addr) (c : Nat), u = .slice A s.p.length c ∧ IntsAt V A (s.p.map (·.txn))) (fun _ _ _ h hb => by obtain ⟨A, c, h1, h2⟩ := h; exact ⟨A, c, h1, h2.below hb⟩),
     .is (.pointer (some ⟨h, 0, none⟩)), .own (fun u V => ∃ (A : Option Addr) (c : Nat), u = .slice A s.p.length c ∧ IntsAt V A (s.p.map (·.txn))) (fun _ _ _ h hb => by obtain ⟨A, c, h1, h2⟩ := h; exact ⟨A, c, h1, h2.below hb⟩),
     .is (.bool true), .is (.bool false), .is (.bool false)]
    (fun V => Below w2.heap.size w2 V) (by kernel_rfl) (by kernel_rfl) (by kernel_rfl) (by kernel_rfl) (by kernel_rfl) (fun V V' h hb => h.trans (hb.mono h.size)) (Below.refl _ _) ?steps3 ?last3
  case steps3 =>
    simp only [List.take_succ_cons, List.take_zero]
    refine ⟨?_, ?_, ?_, ?_, ?_, ?_, ?_, ?_, ?_, ?_, ?_, ?_, ?_, ?_, ?_, ?_, ?_, ?_, ?_, ?_, ?_, ?_, trivial⟩
    all_goals
      intro vs V ρ hρ hc hf hg hI hH hd R' hR
      have hbV := HB2.out.trans (Below.mono hI HB2.out.size)
      have x0 := (HR.out V hbV).over_c
      rw [HOv.out] at x0
      have HRR := Lib.hid hR
      have HI := Lib.hid hI
      have HBV := Lib.hid hbV
      simp [depsOf, Region.binds, sayAt, Say.holds] at hd
      clear hR hI hbV
      simp only [Region.wanted, hd, boolOf]
    case refine_8 =>
      go_simp
      refine (HL.out V HBV.out).swept_c.mono ?_
      rintro e w' ⟨rfl, rfl⟩
      exact ⟨_, rfl, HRR.out _ _ (by simp [sayAt, Say.holds, HOv.out]) (Below.refl _ _) (by simp [sayAt, Say.isBlk])⟩
    case refine_17 =>
      go_simp
      refine ((HL.out V HBV.out).open_c HS.out).mono ?_
      rintro e w' ⟨A5, c5, rfl, hi, hb⟩
      exact ⟨_, rfl, HRR.out _ _ ⟨A5, c5, rfl, hi⟩ hb (by simp [sayAt, Say.isBlk])⟩
    case refine_19 =>
      go_simp
      refine ((HR.out V HBV.out).open_c HS.out).mono ?_
      rintro e w' ⟨A5, c5, rfl, hi, hb⟩
      exact ⟨_, rfl, HRR.out _ _ ⟨A5, c5, rfl, hi⟩ hb (by simp [sayAt, Say.isBlk])⟩
    case refine_20 =>
      obtain ⟨⟨Aa, ⟨ca, ea⟩, ha⟩, ⟨Ab, ⟨cb, eb⟩, hb2⟩, h3⟩ := hd
      have hsi := sameInts_any Aa Ab ca cb (s.p.map (·.txn)) (s.p.map (·.txn)) V ha hb2 (by have := HS.out.pl; rw [List.length_map]; omega)
      rw [List.length_map, show decide (s.p.map (·.txn) = s.p.map (·.txn)) = true from decide_eq_true rfl] at hsi
      go_simp
      refine hsi.mono ?_
      rintro e w' ⟨rfl, nq, rfl⟩
      exact ⟨_, rfl, HRR.out _ _ (by simp [sayAt, Say.holds]) (below_drew _ _ nq) (by simp [sayAt, Say.isBlk])⟩
    all_goals
      go_simp
      first
        | exact HRR.out _ _ (by simp [sayAt, Say.holds]) (Below.refl _ _) (by simp [sayAt, Say.isBlk])
        | trace_state
  case last3 =>
    intro vs V hI hbb hg hd
    have g21 := hg 21 (by omega)
    simp only [sayAt, Say.holds, List.getD_cons_succ, List.getD_cons_zero] at g21
    simp only [List.take_succ_cons, List.take_zero, List.drop_succ_cons, List.drop_zero, putAll, Act.put, List.setIfInBounds_toArray, List.set_cons_succ, List.set_cons_zero, Nat.zero_add, Nat.reduceAdd]
    rw [g21]
    have g0 := hg 0 (by omega)
    have HB3 := Lib.hid (HB2.out.trans (Below.mono hI HB2.out.size))
    have HS3 := Lib.hid (HSx.out.below hI)
    have HRw := Lib.hid (HY.out.1.below hI)
    clear hI hbb hg hd g21 HSx g0
    go_wp2_with fail
    go_loopw [13] (fun iv wr => ∃ i : Nat, i ≤ X.length ∧ iv = .int .i64 (i : Int) ∧ Hid (SmX w1 wr A1 X i) ∧ Hid (RowOf wr A2 Y) ∧ Hid (Below w.heap.size w wr)) (fun iv _ => X.length - (RowKit.intOf iv).toNat)
    case atStart => exact ⟨0, by omega, rfl, HS3, HRw, HB3⟩
    case round =>
      clear HS3 HRw HB3
      obtain ⟨i, hi, rfl, hsx, hrw, hb⟩ := hrel
      by_cases hlt : i < X.length
      · have pi : (i : Int) < (X.length : Int) := by omega
        have hlt2 : i < Y.length := by rw [HLen.out]; exact hlt
        obtain ⟨ad, rfl, -, -⟩ := hsx.out.at' (by omega)
        obtain ⟨bd, rfl, -, -⟩ := hrw.out.at' (by omega)
        have hex := HE.out i hlt hlt2
        have HCx := Lib.hid (fun V (hV : Below wr.heap.size wr V) (q : Nat) (u : Value) (hq : (rcs X[i])[q]? = some u) => show V.cell? (ad.add (i * 9 + q)) = some u from by
          obtain ⟨ad', e', -, h3⟩ := (hsx.out.below hV).at' (by omega)
          obtain rfl := Option.some.inj e'
          exact h3 i hlt q u hq)
        have HCy := Lib.hid (fun V (hV : Below wr.heap.size wr V) (q : Nat) (u : Value) (hq : (rcs Y[i])[q]? = some u) => show V.cell? (bd.add (i * 9 + q)) = some u from by
          obtain ⟨ad', e', -, h3⟩ := (hrw.out.below hV).at' (by omega)
          obtain rfl := Option.some.inj e'
          exact h3 i hlt2 q u hq)
        have HVx := Lib.hid (fun V (hV : Below wr.heap.size wr V) => (hsx.out.below hV).val i hlt (Nat.le_refl _))
        have HVy := Lib.hid (fun V (hV : Below wr.heap.size wr V) => (hrw.out.below hV).val _ (List.getElem_mem hlt2))
        have HFx := Lib.hid (fun V (hV : Below wr.heap.size wr V) => (hsx.out.below hV).fr i hlt (Nat.le_refl _))
        have HSp := Lib.hid (fun V V' (hV : Below wr.heap.size wr V) (hsp : Spl X[i].A X[i].l.keys.length V V') => SmX.spoil HO.out (hsx.out.below hV) hlt hsp)
        have HNw := Lib.hid (fun (hp : 0 < X[i].l.keys.length) ad (e : X[i].A = some ad) => show w.heap.size ≤ ad.block from (HO.out.new _ (List.getElem_mem hlt)).ks hp ad e)
        have HYs := Lib.hid (fun V V' (hV : Below wr.heap.size wr V) (hsp : Spl X[i].A X[i].l.keys.length V V') => show RowOf V' (some bd) Y from by
          have h1 := hrw.out.below hV
          have kb : ∀ k, (k < w.heap.size ∨ w1.heap.size ≤ k) → V'.heap[k]? = V.heap[k]? := fun k hk => hsp.block k fun hp ad e he => by
            have h2 := HNw.out hp ad e
            have h3 := rb_lt (HO.out.pv _ (List.getElem_mem hlt)) (.inl ⟨hp, ad, e, rfl⟩)
            omega
          refine ⟨fun hp => ?_, fun y hy => ?_⟩
          · obtain ⟨ad, e, hl, hc⟩ := h1.at' hp
            refine ⟨ad, e, by rw [hsp.size]; exact hl, fun i hi j u hu => Eq.trans ?_ (hc i hi j u hu)⟩
            unfold World.cell?
            rw [st_block, kb _ (.inr (HY.out.2.1 ad e))]
          · have hv := h1.val y hy
            exact ⟨strs_in (F := fun k => Rb y k) hv.ks (fun hp ad e => .inl ⟨hp, ad, e, rfl⟩) (by rw [hsp.size]; exact Nat.le_refl _) (fun k hk => kb k (Nat.lt_or_ge k w1.heap.size |>.elim (fun h5 => by
              rcases Nat.lt_or_ge k w.heap.size with h6 | h6
              · exact .inl h6
              · exact .inl (HOld.out y hy k hk)) .inr)), wrs_in (F := fun k => Rb y k) hv.ws (fun hp ad e => .inr ⟨hp, ad, e, rfl⟩) (by rw [hsp.size]; exact Nat.le_refl _) (fun k hk => kb k (.inl (HOld.out y hy k hk))), hv.rng, hv.kn, hv.wn⟩)
        generalize X[i] = x at hex HCx HVx HFx HSp HNw HYs
        generalize Y[i] = y at hex HCy HVy
        obtain ⟨xr, xA, xB, xc, xd⟩ := x
        obtain ⟨yr, yA, yB, yc, yd⟩ := y
        simp only at hex HSp HNw HYs
        subst hex
        have HSm : Hid (∀ V, Below wr.heap.size wr V → Calls Tryz.prog 14 #[.agg #[.int .i64 xr.kind, .int .i64 xr.txn, .int .i64 xr.ts, .int .i64 xr.coord, .string xr.key, .string xr.text, .bool xr.dead, .slice xA xr.keys.length xc, .slice xB xr.ws.length xd], .agg #[.int .i64 xr.kind, .int .i64 xr.txn, .int .i64 xr.ts, .int .i64 xr.coord, .string xr.key, .string xr.text, .bool xr.dead, .slice yA xr.keys.length yc, .slice yB xr.ws.length yd]] V fun e w' => e = .returned (.bool true) ∧ Below V.heap.size V w') := Lib.hid (fun V hV => by
          have h1 := HVx.out V hV
          have h2 := HVy.out V hV
          have h3 := sameRec_any xA xB yA yB xc xd yc yd xr xr V h1.ks h1.ws h2.ks h2.ws (by have h : xr.keys.length * 16 ≤ reachBytes := h1.rng.k16; unfold reachBytes at h; omega) (by have h : xr.ws.length * 40 ≤ reachBytes := h1.rng.w40; unfold reachBytes at h; omega)
          rw [Rc.sameB_self] at h3
          exact h3)
        have hkl : xr.keys.length * 16 ≤ reachBytes := (HVx.out _ (Below.refl _ _)).rng.k16
        have HKl := Lib.hid (show xr.keys.length ≤ 9223372036854775807 by unfold reachBytes at hkl; omega)
        clear HVx HVy hkl hrw
        go_upto_region 8 with fail
        refine wp_region_said 10 [61, 62, 63, 64, 65, 66, 67, 68, 69, 70]
          [.is (.slice (some ad) X.length c1), .is (.int .i64 (i : Int)), .is (.pointer (some (ad.add (i * 9)))), .is (.agg #[.int .i64 xr.kind, .int .i64 xr.txn, .int .i64 xr.ts, .int .i64 xr.coord, .string xr.key, .string xr.text, .bool xr.dead, .slice xA xr.keys.length xc, .slice xB xr.ws.length xd]), .is (.slice (some bd) X.length c2), .is (.int .i64 (i : Int)), .is (.pointer (some (bd.add (i * 9)))), .is (.agg #[.int .i64 xr.kind, .int .i64 xr.txn, .int .i64 xr.ts, .int .i64 xr.coord, .string xr.key, .string xr.text, .bool xr.dead, .slice yA xr.keys.length yc, .slice yB xr.ws.length yd]), .is (.bool true), .is (.bool false)]
          (fun V => Below wr.heap.size wr V) (by kernel_rfl) (by kernel_rfl) (by kernel_rfl) (by kernel_rfl) (by kernel_rfl) (fun V V' h hb => h.trans (hb.mono h.size)) (Below.refl _ _) ?steps8 ?last8
        case steps8 =>
          simp only [List.take_succ_cons, List.take_zero]
          refine ⟨?_, ?_, ?_, ?_, ?_, ?_, ?_, ?_, ?_, ?_, trivial⟩
          all_goals
            intro vs V ρ hρ hc hf hg hI hH hd R' hR
            have x0 := HCx.out V hI 0 _ rfl
            have x1 := HCx.out V hI 1 _ rfl
            have x2 := HCx.out V hI 2 _ rfl
            have x3 := HCx.out V hI 3 _ rfl
            have x4 := HCx.out V hI 4 _ rfl
            have x5 := HCx.out V hI 5 _ rfl
            have x6 := HCx.out V hI 6 _ rfl
            have x7 := HCx.out V hI 7 _ rfl
            have x8 := HCx.out V hI 8 _ rfl
            have y0 := HCy.out V hI 0 _ rfl
            have y1 := HCy.out V hI 1 _ rfl
            have y2 := HCy.out V hI 2 _ rfl
            have y3 := HCy.out V hI 3 _ rfl
            have y4 := HCy.out V hI 4 _ rfl
            have y5 := HCy.out V hI 5 _ rfl
            have y6 := HCy.out V hI 6 _ rfl
            have y7 := HCy.out V hI 7 _ rfl
            have y8 := HCy.out V hI 8 _ rfl
            rw [← Lt.add_field _ _ _ (by omega)] at x1 x2 x3 x4 x5 x6 x7 x8 y1 y2 y3 y4 y5 y6 y7 y8
            rw [Nat.add_zero] at x0 y0
            have HRR := Lib.hid hR
            have HI := Lib.hid hI
            simp [depsOf, Region.binds, sayAt, Say.holds] at hd
            clear hR hI
            go_simp
            first
              | exact HRR.out _ _ (by simp [sayAt, Say.holds]) (Below.refl _ _) (by simp [sayAt, Say.isBlk])
              | (refine (HSm.out V HI.out).mono ?_; rintro e w' ⟨rfl, hb⟩; exact ⟨_, rfl, HRR.out _ _ (by simp [sayAt, Say.holds]) hb (by simp [sayAt, Say.isBlk])⟩)
              | (refine (HSm.out V HI.out).mono ?_; rintro e w' ⟨rfl, hb⟩; exact HRR.out _ _ (by simp [sayAt, Say.holds]) hb (by simp [sayAt, Say.isBlk]))
              | trace_state
        case last8 =>
          intro vs V hI hbb hg hd
          have g9 := hg 9 (by omega)
          simp only [sayAt, Say.holds, List.getD_cons_succ, List.getD_cons_zero] at g9
          simp only [List.take_succ_cons, List.take_zero, List.drop_succ_cons, List.drop_zero, putAll, Act.put, List.setIfInBounds_toArray, List.set_cons_succ, List.set_cons_zero, Nat.zero_add, Nat.reduceAdd]
          rw [g9]
          have HBV := Lib.hid (hb.out.trans (Below.mono hI hb.out.size))
          have HIv := Lib.hid hI
          have x7 := HCx.out V hI 7 _ rfl
          rw [← Lt.add_field _ _ _ (by omega)] at x7
          have HSpl := Lib.hid (spoilT_any xA xc xr.keys.length V HKl.out (HFx.out V hI))
          clear hI hbb hg hd g9 hb hsx HSm HFx HCx HCy
          go_wp2_with fail
          refine HSpl.out.mono ?_
          rintro e w6 ⟨rfl, hsp⟩
          have HS6 := Lib.hid (HSp.out _ _ HIv.out hsp)
          have HR6 := Lib.hid (HYs.out _ _ HIv.out hsp)
          have HB6 := Lib.hid (spl_below HBV.out hsp (fun hp ad e => HNw.out hp ad e))
          clear hsp HSpl HIv HBV x7 HSp HYs HNw
          go_wp2_with fail
          go_roundw
          case rel => exact ⟨i + 1, by omega, by go_num, HS6, HR6, HB6⟩
          case measure => simp [RowKit.intOf]; omega
      · obtain rfl : i = X.length := by omega
        have HB7 := Lib.hid hb.out
        clear hsx hrw hb HO HX HY HE HLen HOld
        go_wp2_with fail
        go_loopw [14] (fun iv wr => ∃ i : Nat, i ≤ ts.length ∧ i ≤ 8 ∧ iv = .int .i64 (i : Int) ∧ Hid (Below w.heap.size w wr)) (fun iv _ => ts.length - (RowKit.intOf iv).toNat)
        case atStart => exact ⟨0, by omega, by omega, rfl, HB7⟩
        case round =>
          clear HB7
          obtain ⟨i, hi, hi8, rfl, hb⟩ := hrel
          by_cases hlt : i < ts.length ∧ i < 8
          · obtain ⟨hlt, hlt8⟩ := hlt
            have pi : (i : Int) < (ts.length : Int) := by omega
            have pi8 : (i : Int) < 8 := by omega
            obtain ⟨td, rfl, -, hct⟩ := HTa.out _ hb.out (by omega)
            have htd := hct i hlt
            have HCt := Lib.hid (fun V (hV : Below wr.heap.size wr V) => (cell_kept hV _ (cell_lt2 htd)).trans htd)
            have htr := HTr.out _ (List.getElem_mem hlt)
            generalize ts[i] = txn at htd HCt htr
            have HT := Lib.hid htr
            obtain ⟨st, tm, hst⟩ : ∃ st tm, stateP s txn = (st, tm) := ⟨_, _, rfl⟩
            obtain ⟨r, bb, hpr⟩ : ∃ r bb, prepR s txn = (r, bb) := ⟨_, _, rfl⟩
            have h1 := fun V (hV : Below w.heap.size w V) => (HL.out V hV).state_c HS.out txn HT.out
            have h2 := fun V (hV : Below w.heap.size w V) => (HR.out V hV).state_c HS.out txn
            have h3 := fun V (hV : Below w.heap.size w V) => (HL.out V hV).prep_c HS.out txn HT.out
            have h4 := fun V (hV : Below w.heap.size w V) => (HR.out V hV).prep_c HS.out txn
            rw [hst] at h1 h2
            rw [hpr] at h3 h4
            simp only at h1 h2 h3 h4
            have H1 := Lib.hid h1
            have H2 := Lib.hid h2
            have H3 := Lib.hid h3
            have H4 := Lib.hid h4
            have n1 := bne_self_i st
            have n2 := bne_self_i tm
            have n3 := bne_self_b bb
            clear h1 h2 h3 h4 hct htr hst hpr
            go_wp2_with fail
            refine (H1.out _ hb.out).mono ?_
            rintro e3 w3 ⟨rfl, hb3⟩
            have HB3 := Lib.hid (hb.out.trans (hb3.mono hb.out.size))
            have HI3 := Lib.hid hb3
            have htd := HCt.out _ hb3
            clear hb3 H1
            go_wp2_with fail
            refine (H2.out _ HB3.out).mono ?_
            rintro e4 w4 ⟨rfl, hb4⟩
            have HB4 := Lib.hid (HB3.out.trans (hb4.mono HB3.out.size))
            have HI4 := Lib.hid (HI3.out.trans (hb4.mono HI3.out.size))
            have htd := HCt.out _ HI4.out
            clear hb4 H2 HB3 HI3
            go_wp2_with fail
            refine (H3.out _ HB4.out).mono ?_
            rintro e5 w5 ⟨u5, rfl, ⟨⟨y, A5, B5, c5, d5⟩, rfl, hyl, hyv, hyf, hya, -⟩, hb5⟩
            simp only at hyl hyv hyf hya
            subst hyl
            have hal : Below w5.heap.size w5 (w5.alloc (.cells #[.int .i64 y.kind, .int .i64 y.txn, .int .i64 y.ts, .int .i64 y.coord, .string y.key, .string y.text, .bool y.dead, .slice A5 y.keys.length c5, .slice B5 y.ws.length d5] 37)) := (Below.refl _ w5).alloc (Nat.le_refl _) _
            have hr5 : Cel (w5.alloc (.cells #[.int .i64 y.kind, .int .i64 y.txn, .int .i64 y.ts, .int .i64 y.coord, .string y.key, .string y.text, .bool y.dead, .slice A5 y.keys.length c5, .slice B5 y.ws.length d5] 37)) w5.heap.size 37 [.int .i64 y.kind, .int .i64 y.txn, .int .i64 y.ts, .int .i64 y.coord, .string y.key, .string y.text, .bool y.dead, .slice A5 y.keys.length c5, .slice B5 y.ws.length d5] := (blk1 w5 _).2
            have HV5 := Lib.hid (hyv.below hal)
            have HF5 := Lib.hid (FrK.below hyf hal)
            have HN5 := Lib.hid (fun (hp : 0 < y.keys.length) ad (e : A5 = some ad) => Nat.le_trans HB4.out.size (hya hp ad e))
            have HB5 := Lib.hid ((HB4.out.trans (hb5.mono HB4.out.size)).trans (hal.mono (Nat.le_trans HB4.out.size hb5.size)))
            have HI5 := Lib.hid ((HI4.out.trans (hb5.mono HI4.out.size)).trans (hal.mono (Nat.le_trans HI4.out.size hb5.size)))
            clear hyv hyf hya hb5 H3 HB4 HI4 hal
            simp only [rcs]
            go_upto_region 17 with fail
            generalize hW5 : w5.alloc (.cells #[.int .i64 y.kind, .int .i64 y.txn, .int .i64 y.ts, .int .i64 y.coord, .string y.key, .string y.text, .bool y.dead, .slice A5 y.keys.length c5, .slice B5 y.ws.length d5] 37) = W5 at hr5 HV5 HF5 HB5 HI5 ⊢
            clear hW5
            have HC5 := Lib.hid hr5
            generalize w5.heap.size = v5 at hr5 HC5 ⊢
            have htd := HCt.out _ HI5.out
            clear hr5
            go_wp2_with fail
            refine (H4.out _ HB5.out).mono ?_
            rintro e6 w6 ⟨u6, rfl, ⟨⟨z, A6, B6, c6, d6⟩, hzl, rfl, hzv⟩, hb6⟩
            simp only at hzl
            subst hzl
            have hal : Below w6.heap.size w6 (w6.alloc (.cells #[.int .i64 z.kind, .int .i64 z.txn, .int .i64 z.ts, .int .i64 z.coord, .string z.key, .string z.text, .bool z.dead, .slice A6 z.keys.length c6, .slice B6 z.ws.length d6] 37)) := (Below.refl _ w6).alloc (Nat.le_refl _) _
            have hr6 : Cel (w6.alloc (.cells #[.int .i64 z.kind, .int .i64 z.txn, .int .i64 z.ts, .int .i64 z.coord, .string z.key, .string z.text, .bool z.dead, .slice A6 z.keys.length c6, .slice B6 z.ws.length d6] 37)) w6.heap.size 37 [.int .i64 z.kind, .int .i64 z.txn, .int .i64 z.ts, .int .i64 z.coord, .string z.key, .string z.text, .bool z.dead, .slice A6 z.keys.length c6, .slice B6 z.ws.length d6] := (blk1 w6 _).2
            have HV6 := Lib.hid (hzv.val.below hal)
            have hb56 := hb6.trans (hal.mono hb6.size)
            have HV5b := Lib.hid (HV5.out.below hb56)
            have HF5b := Lib.hid (FrK.below HF5.out hb56)
            have HC5b := Lib.hid (HC5.out.below hb56)
            have HB6 := Lib.hid (HB5.out.trans (hb56.mono HB5.out.size))
            clear hzv hb6 H4 HB5 HI5 hal HV5 HF5 HC5 hb56
            simp only [rcs]
            go_upto_region 18 with fail
            generalize hW6 : w6.alloc (.cells #[.int .i64 z.kind, .int .i64 z.txn, .int .i64 z.ts, .int .i64 z.coord, .string z.key, .string z.text, .bool z.dead, .slice A6 z.keys.length c6, .slice B6 z.ws.length d6] 37) = W6 at hr6 HV6 HV5b HF5b HC5b HB6 ⊢
            clear hW6
            have HC6 := Lib.hid hr6
            generalize w6.heap.size = v6 at hr6 HC6 ⊢
            have hsm := sameRec_any A5 B5 A6 B6 c5 d5 c6 d6 z z W6 HV5b.out.ks HV5b.out.ws HV6.out.ks HV6.out.ws (by have h : z.keys.length * 16 ≤ reachBytes := HV6.out.rng.k16; unfold reachBytes at h; omega) (by have h : z.ws.length * 40 ≤ reachBytes := HV6.out.rng.w40; unfold reachBytes at h; omega)
            rw [Rc.sameB_self] at hsm
            unfold recV at hsm
            have HSm := Lib.hid hsm
            have HKl := Lib.hid (show z.keys.length ≤ 9223372036854775807 by have h : z.keys.length * 16 ≤ reachBytes := HV6.out.rng.k16; unfold reachBytes at h; omega)
            have x0 := HC5b.out.cell (i := 0) rfl
            have x1 := HC5b.out.cell (i := 1) rfl
            have x2 := HC5b.out.cell (i := 2) rfl
            have x3 := HC5b.out.cell (i := 3) rfl
            have x4 := HC5b.out.cell (i := 4) rfl
            have x5 := HC5b.out.cell (i := 5) rfl
            have x6 := HC5b.out.cell (i := 6) rfl
            have x7 := HC5b.out.cell (i := 7) rfl
            have x8 := HC5b.out.cell (i := 8) rfl
            have y0 := hr6.cell (i := 0) rfl
            have y1 := hr6.cell (i := 1) rfl
            have y2 := hr6.cell (i := 2) rfl
            have y3 := hr6.cell (i := 3) rfl
            have y4 := hr6.cell (i := 4) rfl
            have y5 := hr6.cell (i := 5) rfl
            have y6 := hr6.cell (i := 6) rfl
            have y7 := hr6.cell (i := 7) rfl
            have y8 := hr6.cell (i := 8) rfl
            clear hr6 hsm htd
            go_wp2_with fail
            refine HSm.out.mono ?_
            rintro e7 w7 ⟨rfl, hb7⟩
            have HSpl := Lib.hid (spoilT_any A5 c5 z.keys.length w7 HKl.out (FrK.below HF5b.out hb7))
            have x7 := (HC5b.out.below hb7).cell (i := 7) rfl
            have HB7 := Lib.hid (HB6.out.trans (hb7.mono HB6.out.size))
            clear hb7 x0 x1 x2 x3 x4 x5 x6 x8 y0 y1 y2 y3 y4 y5 y6 y7 y8 HSm HV6 HV5b HC5b HF5b HC6 HB6
            go_wp2_with fail
            refine HSpl.out.mono ?_
            rintro e8 w8 ⟨rfl, hsp⟩
            have HB8 := Lib.hid (spl_below HB7.out hsp (fun hp ad e => HN5.out hp ad e))
            clear hsp HSpl x7 HB7
            go_wp2_with fail
            go_roundw
            case rel => exact ⟨i + 1, by omega, by omega, by go_num, HB8⟩
            case measure => simp [RowKit.intOf]; omega
          · by_cases hi1 : i < ts.length
            · have pi : (i : Int) < (ts.length : Int) := by omega
              have pi8 : ¬ (i : Int) < 8 := by omega
              go_wp2_with fail
              go_loopw [23] (fun iv wr => ∃ i : Nat, i ≤ ks.length ∧ i ≤ 8 ∧ iv = .int .i64 (i : Int) ∧ Hid (Below w.heap.size w wr)) (fun iv _ => ks.length - (RowKit.intOf iv).toNat)
              case atStart => exact ⟨0, by omega, by omega, rfl, hb⟩
              case round =>
                clear hb
                obtain ⟨i, hi, hi8, rfl, hb⟩ := hrel
                by_cases hlt : i < ks.length ∧ i < 8
                · obtain ⟨hlt, hlt8⟩ := hlt
                  have pi : (i : Int) < (ks.length : Int) := by omega
                  have pi8 : (i : Int) < 8 := by omega
                  obtain ⟨kd, rfl, -, hck⟩ := HKa.out _ hb.out (by omega)
                  have hkd := hck i hlt
                  have HCk := Lib.hid (fun V (hV : Below wr.heap.size wr V) => (cell_kept hV _ (cell_lt2 hkd)).trans hkd)
                  have hkx := HKs.out _ (List.getElem_mem hlt)
                  generalize ks[i] = key at hkd HCk hkx
                  have HKx := Lib.hid hkx
                  have h1 := fun V (hV : Below w.heap.size w V) => (HL.out V hV).last_c HS.out key HKx.out
                  have h2 := fun V (hV : Below w.heap.size w V) => (HR.out V hV).last_c HS.out key
                  have h3 := fun V (hV : Below w.heap.size w V) => (HL.out V hV).held_c HS.out key false
                  have h4 := fun V (hV : Below w.heap.size w V) => (HR.out V hV).held_c HS.out key false
                  have h5 := fun V (hV : Below w.heap.size w V) => (HL.out V hV).held_c HS.out key true
                  have h6 := fun V (hV : Below w.heap.size w V) => (HR.out V hV).held_c HS.out key true
                  generalize lastT (chainK s.k key) = ls at h1 h2
                  generalize heldB s key false = hf at h3 h4
                  generalize heldB s key true = ht at h5 h6
                  have H1 := Lib.hid h1
                  have H2 := Lib.hid h2
                  have H3 := Lib.hid h3
                  have H4 := Lib.hid h4
                  have H5 := Lib.hid h5
                  have H6 := Lib.hid h6
                  have n1 := bne_self_i ls
                  have n2 := bne_self_b hf
                  have n3 := bne_self_b ht
                  clear h1 h2 h3 h4 h5 h6 hck hkx
                  go_upto_region 24 with fail
                  clear hkd
                  refine wp_region_said 43 [155, 156, 157, 158, 159, 160, 161, 162, 163, 164, 165, 166, 167, 168, 169, 170, 171, 172, 173, 174, 175, 176, 177, 178, 179, 180, 181, 182, 183, 184, 185, 186, 187, 188, 189, 190, 191, 192, 193, 194, 195, 196, 197]
                    [.is (.pointer (some ⟨g, 0, none⟩)), .is (.slice (some kd) ks.length a), .is (.int .i64 (i : Int)), .is (.pointer (some (kd.add i))), .is (.string key), .is (.int .i64 ls), .is (.pointer (some ⟨h, 0, none⟩)), .is (.slice (some kd) ks.length a), .is (.int .i64 (i : Int)), .is (.pointer (some (kd.add i))), .is (.string key), .is (.int .i64 ls), .is (.bool false), .is (.bool false),
                     .is (.pointer (some ⟨g, 0, none⟩)), .is (.slice (some kd) ks.length a), .is (.int .i64 (i : Int)), .is (.pointer (some (kd.add i))), .is (.string key), .is (.bool hf), .is (.pointer (some ⟨h, 0, none⟩)), .is (.slice (some kd) ks.length a), .is (.int .i64 (i : Int)), .is (.pointer (some (kd.add i))), .is (.string key), .is (.bool hf), .is (.bool false), .is (.bool false), .is (.bool false),
                     .is (.pointer (some ⟨g, 0, none⟩)), .is (.slice (some kd) ks.length a), .is (.int .i64 (i : Int)), .is (.pointer (some (kd.add i))), .is (.string key), .is (.bool ht), .is (.pointer (some ⟨h, 0, none⟩)), .is (.slice (some kd) ks.length a), .is (.int .i64 (i : Int)), .is (.pointer (some (kd.add i))), .is (.string key), .is (.bool ht), .is (.bool false), .is (.bool false)]
                    (fun V => Below wr.heap.size wr V) (by kernel_rfl) (by kernel_rfl) (by kernel_rfl) (by kernel_rfl) (by kernel_rfl) (fun V V' h hb => h.trans (hb.mono h.size)) (Below.refl _ _) ?steps24a ?last24a
                  case steps24a =>
                    simp only [List.take_succ_cons, List.take_zero]
                    refine ⟨?_, ?_, ?_, ?_, ?_, ?_, ?_, ?_, ?_, ?_, ?_, ?_, ?_, ?_, ?_, ?_, ?_, ?_, ?_, ?_, ?_, ?_, ?_, ?_, ?_, ?_, ?_, ?_, ?_, ?_, ?_, ?_, ?_, ?_, ?_, ?_, ?_, ?_, ?_, ?_, ?_, ?_, ?_, trivial⟩
                    all_goals
                      intro vs V ρ hρ hc hf2 hg hI hH hd R' hR
                      have x0 := HCk.out V hI
                      have HBV := Lib.hid (hb.out.trans (Below.mono hI hb.out.size))
                      have HRR := Lib.hid hR
                      simp [depsOf, Region.binds, sayAt, Say.holds] at hd
                      clear hR hI
                      try simp only [Region.wanted, hd, boolOf]
                    case refine_6 =>
                      go_simp
                      refine (H1.out V HBV.out).mono ?_
                      rintro e w' ⟨rfl, hb⟩
                      exact ⟨_, rfl, HRR.out _ _ (by simp [sayAt, Say.holds]) hb (by simp [sayAt, Say.isBlk])⟩
                    case refine_12 =>
                      go_simp
                      refine (H2.out V HBV.out).mono ?_
                      rintro e w' ⟨rfl, hb⟩
                      exact ⟨_, rfl, HRR.out _ _ (by simp [sayAt, Say.holds]) hb (by simp [sayAt, Say.isBlk])⟩
                    case refine_20 =>
                      go_simp
                      refine (H3.out V HBV.out).mono ?_
                      rintro e w' ⟨rfl, hb⟩
                      exact ⟨_, rfl, HRR.out _ _ (by simp [sayAt, Say.holds]) hb (by simp [sayAt, Say.isBlk])⟩
                    case refine_26 =>
                      go_simp
                      refine (H4.out V HBV.out).mono ?_
                      rintro e w' ⟨rfl, hb⟩
                      exact ⟨_, rfl, HRR.out _ _ (by simp [sayAt, Say.holds]) hb (by simp [sayAt, Say.isBlk])⟩
                    case refine_35 =>
                      go_simp
                      refine (H5.out V HBV.out).mono ?_
                      rintro e w' ⟨rfl, hb⟩
                      exact ⟨_, rfl, HRR.out _ _ (by simp [sayAt, Say.holds]) hb (by simp [sayAt, Say.isBlk])⟩
                    case refine_41 =>
                      go_simp
                      refine (H6.out V HBV.out).mono ?_
                      rintro e w' ⟨rfl, hb⟩
                      exact ⟨_, rfl, HRR.out _ _ (by simp [sayAt, Say.holds]) hb (by simp [sayAt, Say.isBlk])⟩
                    all_goals
                      go_simp
                      exact HRR.out _ _ (by simp [sayAt, Say.holds]) (Below.refl _ _) (by simp [sayAt, Say.isBlk])
                  case last24a =>
                    intro vs V hI hbb hg hd
                    have g42 := hg 42 (by omega)
                    simp only [sayAt, Say.holds, List.getD_cons_succ, List.getD_cons_zero] at g42
                    simp only [List.take_succ_cons, List.take_zero, List.drop_succ_cons, List.drop_zero, putAll, Act.put, List.setIfInBounds_toArray, List.set_cons_succ, List.set_cons_zero, Nat.zero_add, Nat.reduceAdd]
                    rw [g42]
                    have HBV := Lib.hid (hb.out.trans (Below.mono hI hb.out.size))
                    clear hI hbb hg hd g42 hb H1 H2 H3 H4 H5 H6 n1 n2 n3 HCk
                    go_wp2_with fail
                    go_loopw [24] (fun kv wr => ∃ k : Nat, k ≤ ms.length ∧ k ≤ 6 ∧ kv = .int .i64 (k : Int) ∧ Hid (Below w.heap.size w wr)) (fun kv _ => ms.length - (RowKit.intOf kv).toNat)
                    case atStart => exact ⟨0, by omega, by omega, rfl, HBV⟩
                    case round =>
                      clear HBV
                      obtain ⟨k, hk, hk6, rfl, hb⟩ := hrel
                      by_cases hklt : k < ms.length ∧ k < 6
                      · obtain ⟨hklt, hklt6⟩ := hklt
                        have pk : (k : Int) < (ms.length : Int) := by omega
                        have pk6 : (k : Int) < 6 := by omega
                        obtain ⟨kd2, ek2, -, hck⟩ := HKa.out _ hb.out (by omega)
                        obtain rfl := Option.some.inj ek2
                        obtain ⟨md, rfl, -, hcm⟩ := HMa.out _ hb.out (by omega)
                        have hkd := hck i hlt
                        have hmd := hcm k hklt
                        have HCk := Lib.hid (fun V (hV : Below wr.heap.size wr V) => (cell_kept hV _ (cell_lt2 hkd)).trans hkd)
                        have HCm := Lib.hid (fun V (hV : Below wr.heap.size wr V) => (cell_kept hV _ (cell_lt2 hmd)).trans hmd)
                        have hkx := HKs.out _ (List.getElem_mem hlt)
                        clear ek2 hck hcm hkd hmd
                        generalize ks[i] = key at HCk hkx
                        generalize ms[k] = tm at HCm
                        have h1 := fun V (hV : Below w.heap.size w V) => (HL.out V hV).read_c HS.out key tm hkx
                        have h2 := fun V (hV : Below w.heap.size w V) => (HR.out V hV).read_c HS.out key tm
                        obtain ⟨code, vr, hrd⟩ : ∃ code vr, readP s key tm = (code, vr) := ⟨_, _, rfl⟩
                        rw [hrd] at h1 h2
                        obtain ⟨vt, vs, vd⟩ := vr
                        have H1 : Hid (∀ V, Below w.heap.size w V → Calls Tryz.prog 32 #[.pointer (some ⟨g, 0, none⟩), .string key, .int .i64 tm] V fun e w' => e = .returned (.tuple #[.int .i64 code, .agg #[.int .i64 vt, .string vs, .bool vd]]) ∧ Below V.heap.size V w') := Lib.hid h1
                        have H2 : Hid (∀ V, Below w.heap.size w V → Calls Tryz.prog 65 #[.pointer (some ⟨h, 0, none⟩), .string key, .int .i64 tm] V fun e w' => e = .returned (.tuple #[.int .i64 code, .agg #[.int .i64 vt, .string vs, .bool vd]]) ∧ Below V.heap.size V w') := Lib.hid h2
                        clear h1 h2 hrd hkx
                        go_upto_region 29 with fail
                        refine wp_region_said 15 [209, 210, 211, 212, 213, 214, 215, 216, 217, 218, 208, 219, 220, 26, 25]
                          [.is (.pointer (some ⟨g, 0, none⟩)), .is (.slice (some kd) ks.length a), .is (.int .i64 (i : Int)), .is (.pointer (some (kd.add i))), .is (.string key), .is (.slice (some md) ms.length c), .is (.int .i64 (k : Int)), .is (.pointer (some (md.add k))), .is (.int .i64 tm),
                           .is (.tuple #[.int .i64 code, .agg #[.int .i64 vt, .string vs, .bool vd]]), .is (.tuple #[.int .i64 code, .agg #[.int .i64 vt, .string vs, .bool vd]]), .is (.int .i64 code), .is (.agg #[.int .i64 vt, .string vs, .bool vd]), .blk 77 #[.int .i64 0, .string ⟨#[]⟩, .bool false], .is (.int .i64 code)]
                          (fun V => Below wr.heap.size wr V) (by kernel_rfl) (by kernel_rfl) (by kernel_rfl) (by kernel_rfl) (by kernel_rfl) (fun V V' h hb => h.trans (hb.mono h.size)) (Below.refl _ _) ?steps29a ?last29a
                        case steps29a =>
                          simp only [List.take_succ_cons, List.take_zero]
                          refine ⟨?_, ?_, ?_, ?_, ?_, ?_, ?_, ?_, ?_, ?_, ?_, ?_, ?_, ?_, ?_, trivial⟩
                          all_goals
                            intro vss V ρ hρ hc hf2 hg hI hH hd R' hR
                            have x0 := HCk.out V hI
                            have x1 := HCm.out V hI
                            have HBV := Lib.hid (hb.out.trans (Below.mono hI hb.out.size))
                            have HRR := Lib.hid hR
                            simp [depsOf, Region.binds, sayAt, Say.holds] at hd
                            clear hR hI
                            go_simp
                            first
                              | exact HRR.out _ _ (by simp [sayAt, Say.holds]) (Below.refl _ _) (by simp [sayAt, Say.isBlk])
                              | exact HRR.out _ _ ⟨_, hH, by simp, rfl, heap_alloc_new _ _⟩ ((Below.refl _ _).alloc (Nat.le_refl _) _) (by simp [sayAt, Say.isBlk])
                              | (refine (H1.out V HBV.out).mono ?_; rintro e w' ⟨rfl, hb⟩; exact ⟨_, rfl, HRR.out _ _ (by simp [sayAt, Say.holds]) hb (by simp [sayAt, Say.isBlk])⟩)
                              | trace_state
                        case last29a =>
                          intro vss V hI hbb hg hd
                          have g11 := hg 12 (by omega)
                          have g14 := hg 14 (by omega)
                          obtain ⟨p1, hp1, hp2, g13, hp⟩ := hg 13 (by omega)
                          simp only [sayAt, Say.holds, List.getD_cons_succ, List.getD_cons_zero] at g11 g14
                          simp only [List.take_succ_cons, List.take_zero, List.drop_succ_cons, List.drop_zero, putAll, Act.put, List.setIfInBounds_toArray, List.set_cons_succ, List.set_cons_zero, Nat.zero_add, Nat.reduceAdd]
                          rw [g11, g13, g14]
                          have hp0 : Cel V p1 77 [.int .i64 0, .string ⟨#[]⟩, .bool false] := hp
                          have f0 := hp0.free (i := 0)
                          have f1 := hp0.free (i := 1)
                          have f2 := hp0.free (i := 2)
                          have z0 := hp0.cell (i := 0) rfl
                          have z1 := hp0.cell (i := 1) rfl
                          have z2 := hp0.cell (i := 2) rfl
                          have HP := Lib.hid hp0
                          have HP1 := Lib.hid hp1
                          have HI := Lib.hid hI
                          clear g11 g13 g14 hg hd hbb hI hp hp0 hp1
                          go_upto_region 30 with fail
                          have hc20 : Cel (((V.setCell ⟨p1, 0, none⟩ (.int .i64 vt)).setCell ⟨p1, 1, none⟩ (.string vs)).setCell ⟨p1, 2, none⟩ (.bool vd)) p1 77 [.int .i64 vt, .string vs, .bool vd] := set3_cel HP.out
                          have hb20 : Below wr.heap.size wr (((V.setCell ⟨p1, 0, none⟩ (.int .i64 vt)).setCell ⟨p1, 1, none⟩ (.string vs)).setCell ⟨p1, 2, none⟩ (.bool vd)) := set3_below HI.out HP1.out
                          generalize (((V.setCell ⟨p1, 0, none⟩ (.int .i64 vt)).setCell ⟨p1, 1, none⟩ (.string vs)).setCell ⟨p1, 2, none⟩ (.bool vd)) = W20 at hc20 hb20 ⊢
                          have HC20 := Lib.hid hc20
                          have HB20 := Lib.hid hb20
                          have HBw := Lib.hid (hb.out.trans (hb20.mono hb.out.size))
                          clear hc20 hb20 f0 f1 f2 z0 z1 z2 HP HP1 HI H1
                          refine wp_region_said 15 [222, 223, 224, 225, 226, 227, 228, 229, 230, 231, 221, 232, 233, 28, 27]
                            [.is (.pointer (some ⟨h, 0, none⟩)), .is (.slice (some kd) ks.length a), .is (.int .i64 (i : Int)), .is (.pointer (some (kd.add i))), .is (.string key), .is (.slice (some md) ms.length c), .is (.int .i64 (k : Int)), .is (.pointer (some (md.add k))), .is (.int .i64 tm),
                             .is (.tuple #[.int .i64 code, .agg #[.int .i64 vt, .string vs, .bool vd]]), .is (.tuple #[.int .i64 code, .agg #[.int .i64 vt, .string vs, .bool vd]]), .is (.int .i64 code), .is (.agg #[.int .i64 vt, .string vs, .bool vd]), .blk 77 #[.int .i64 0, .string ⟨#[]⟩, .bool false], .is (.int .i64 code)]
                            (fun V => Below W20.heap.size W20 V) (by kernel_rfl) (by kernel_rfl) (by kernel_rfl) (by kernel_rfl) (by kernel_rfl) (fun V V' h hb => h.trans (hb.mono h.size)) (Below.refl _ _) ?steps30a ?last30a
                          case steps30a =>
                            simp only [List.take_succ_cons, List.take_zero]
                            refine ⟨?_, ?_, ?_, ?_, ?_, ?_, ?_, ?_, ?_, ?_, ?_, ?_, ?_, ?_, ?_, trivial⟩
                            all_goals
                              intro vss V ρ hρ hc hf2 hg hI hH hd R' hR
                              have hI2 := HB20.out.trans (Below.mono hI HB20.out.size)
                              have x0 := HCk.out V hI2
                              have x1 := HCm.out V hI2
                              have HBV := Lib.hid (HBw.out.trans (Below.mono hI HBw.out.size))
                              have HRR := Lib.hid hR
                              simp [depsOf, Region.binds, sayAt, Say.holds] at hd
                              clear hR hI hI2
                              go_simp
                              first
                                | exact HRR.out _ _ (by simp [sayAt, Say.holds]) (Below.refl _ _) (by simp [sayAt, Say.isBlk])
                                | exact HRR.out _ _ ⟨_, hH, by simp, rfl, heap_alloc_new _ _⟩ ((Below.refl _ _).alloc (Nat.le_refl _) _) (by simp [sayAt, Say.isBlk])
                                | (refine (H2.out V HBV.out).mono ?_; rintro e w' ⟨rfl, hb⟩; exact ⟨_, rfl, HRR.out _ _ (by simp [sayAt, Say.holds]) hb (by simp [sayAt, Say.isBlk])⟩)
                                | trace_state
                          case last30a =>
                            intro vss V2 hI hbb hg hd
                            have g11 := hg 12 (by omega)
                            have g14 := hg 14 (by omega)
                            obtain ⟨p2, hp1, hp2, g13, hp⟩ := hg 13 (by omega)
                            simp only [sayAt, Say.holds, List.getD_cons_succ, List.getD_cons_zero] at g11 g14
                            simp only [List.take_succ_cons, List.take_zero, List.drop_succ_cons, List.drop_zero, putAll, Act.put, List.setIfInBounds_toArray, List.set_cons_succ, List.set_cons_zero, Nat.zero_add, Nat.reduceAdd]
                            rw [g11, g13, g14]
                            have hp0 : Cel V2 p2 77 [.int .i64 0, .string ⟨#[]⟩, .bool false] := hp
                            have f0 := hp0.free (i := 0)
                            have f1 := hp0.free (i := 1)
                            have f2 := hp0.free (i := 2)
                            have z0 := hp0.cell (i := 0) rfl
                            have z1 := hp0.cell (i := 1) rfl
                            have z2 := hp0.cell (i := 2) rfl
                            have HP := Lib.hid hp0
                            have HP1 := Lib.hid hp1
                            have HI := Lib.hid hI
                            clear g11 g13 g14 hg hd hbb hI hp hp0 hp1
                            go_upto_region 31 with fail
                            have hc21 : Cel (((V2.setCell ⟨p2, 0, none⟩ (.int .i64 vt)).setCell ⟨p2, 1, none⟩ (.string vs)).setCell ⟨p2, 2, none⟩ (.bool vd)) p2 77 [.int .i64 vt, .string vs, .bool vd] := set3_cel HP.out
                            have hb21 : Below W20.heap.size W20 (((V2.setCell ⟨p2, 0, none⟩ (.int .i64 vt)).setCell ⟨p2, 1, none⟩ (.string vs)).setCell ⟨p2, 2, none⟩ (.bool vd)) := set3_below HI.out HP1.out
                            generalize (((V2.setCell ⟨p2, 0, none⟩ (.int .i64 vt)).setCell ⟨p2, 1, none⟩ (.string vs)).setCell ⟨p2, 2, none⟩ (.bool vd)) = W21 at hc21 hb21 ⊢
                            have hc1 := HC20.out.below hb21
                            have HB21 := Lib.hid (HBw.out.trans (hb21.mono HBw.out.size))
                            clear f0 f1 f2 z0 z1 z2 HP HP1 HI hb21 HC20 HB20 H2 HBw
                            have v0 := hc1.cell (i := 0) rfl
                            have v1 := hc1.cell (i := 1) rfl
                            have v2 := hc1.cell (i := 2) rfl
                            have r0 := hc21.cell (i := 0) rfl
                            have r1 := hc21.cell (i := 1) rfl
                            have r2 := hc21.cell (i := 2) rfl
                            have te := text_eq vs
                            have bc := bne_self_i code
                            clear hc1 hc21
                            go_wp2_with fail
                            go_roundw
                            case rel => exact ⟨k + 1, by omega, by omega, by go_num, HB21⟩
                            case measure => simp [RowKit.intOf]; omega
                      · by_cases hk1 : k < ms.length
                        · have pk : (k : Int) < (ms.length : Int) := by omega
                          have pk6 : ¬ (k : Int) < 6 := by omega
                          go_wp2_with fail
                          go_roundw
                          case rel => exact ⟨i + 1, by omega, by omega, by go_num, hb⟩
                          case measure => simp [RowKit.intOf]; omega
                        · have pk : ¬ (k : Int) < (ms.length : Int) := by omega
                          go_wp2_with fail
                          go_roundw
                          case rel => exact ⟨i + 1, by omega, by omega, by go_num, hb⟩
                          case measure => simp [RowKit.intOf]; omega
                · by_cases hi1 : i < ks.length
                  · have pi : (i : Int) < (ks.length : Int) := by omega
                    have pi8 : ¬ (i : Int) < 8 := by omega
                    go_wp2_with fail
                    go_ret
                    exact ⟨rfl, hb.out⟩
                  · have pi : ¬ (i : Int) < (ks.length : Int) := by omega
                    go_wp2_with fail
                    go_ret
                    exact ⟨rfl, hb.out⟩
            · have pi : ¬ (i : Int) < (ts.length : Int) := by omega
              go_wp2_with fail
              go_loopw [23] (fun iv wr => ∃ i : Nat, i ≤ ks.length ∧ i ≤ 8 ∧ iv = .int .i64 (i : Int) ∧ Hid (Below w.heap.size w wr)) (fun iv _ => ks.length - (RowKit.intOf iv).toNat)
              case atStart => exact ⟨0, by omega, by omega, rfl, hb⟩
              case round =>
                clear hb
                obtain ⟨i, hi, hi8, rfl, hb⟩ := hrel
                by_cases hlt : i < ks.length ∧ i < 8
                · obtain ⟨hlt, hlt8⟩ := hlt
                  have pi : (i : Int) < (ks.length : Int) := by omega
                  have pi8 : (i : Int) < 8 := by omega
                  obtain ⟨kd, rfl, -, hck⟩ := HKa.out _ hb.out (by omega)
                  have hkd := hck i hlt
                  have HCk := Lib.hid (fun V (hV : Below wr.heap.size wr V) => (cell_kept hV _ (cell_lt2 hkd)).trans hkd)
                  have hkx := HKs.out _ (List.getElem_mem hlt)
                  generalize ks[i] = key at hkd HCk hkx
                  have HKx := Lib.hid hkx
                  have h1 := fun V (hV : Below w.heap.size w V) => (HL.out V hV).last_c HS.out key HKx.out
                  have h2 := fun V (hV : Below w.heap.size w V) => (HR.out V hV).last_c HS.out key
                  have h3 := fun V (hV : Below w.heap.size w V) => (HL.out V hV).held_c HS.out key false
                  have h4 := fun V (hV : Below w.heap.size w V) => (HR.out V hV).held_c HS.out key false
                  have h5 := fun V (hV : Below w.heap.size w V) => (HL.out V hV).held_c HS.out key true
                  have h6 := fun V (hV : Below w.heap.size w V) => (HR.out V hV).held_c HS.out key true
                  generalize lastT (chainK s.k key) = ls at h1 h2
                  generalize heldB s key false = hf at h3 h4
                  generalize heldB s key true = ht at h5 h6
                  have H1 := Lib.hid h1
                  have H2 := Lib.hid h2
                  have H3 := Lib.hid h3
                  have H4 := Lib.hid h4
                  have H5 := Lib.hid h5
                  have H6 := Lib.hid h6
                  have n1 := bne_self_i ls
                  have n2 := bne_self_b hf
                  have n3 := bne_self_b ht
                  clear h1 h2 h3 h4 h5 h6 hck hkx
                  go_upto_region 24 with fail
                  clear hkd
                  refine wp_region_said 43 [155, 156, 157, 158, 159, 160, 161, 162, 163, 164, 165, 166, 167, 168, 169, 170, 171, 172, 173, 174, 175, 176, 177, 178, 179, 180, 181, 182, 183, 184, 185, 186, 187, 188, 189, 190, 191, 192, 193, 194, 195, 196, 197]
                    [.is (.pointer (some ⟨g, 0, none⟩)), .is (.slice (some kd) ks.length a), .is (.int .i64 (i : Int)), .is (.pointer (some (kd.add i))), .is (.string key), .is (.int .i64 ls), .is (.pointer (some ⟨h, 0, none⟩)), .is (.slice (some kd) ks.length a), .is (.int .i64 (i : Int)), .is (.pointer (some (kd.add i))), .is (.string key), .is (.int .i64 ls), .is (.bool false), .is (.bool false),
                     .is (.pointer (some ⟨g, 0, none⟩)), .is (.slice (some kd) ks.length a), .is (.int .i64 (i : Int)), .is (.pointer (some (kd.add i))), .is (.string key), .is (.bool hf), .is (.pointer (some ⟨h, 0, none⟩)), .is (.slice (some kd) ks.length a), .is (.int .i64 (i : Int)), .is (.pointer (some (kd.add i))), .is (.string key), .is (.bool hf), .is (.bool false), .is (.bool false), .is (.bool false),
                     .is (.pointer (some ⟨g, 0, none⟩)), .is (.slice (some kd) ks.length a), .is (.int .i64 (i : Int)), .is (.pointer (some (kd.add i))), .is (.string key), .is (.bool ht), .is (.pointer (some ⟨h, 0, none⟩)), .is (.slice (some kd) ks.length a), .is (.int .i64 (i : Int)), .is (.pointer (some (kd.add i))), .is (.string key), .is (.bool ht), .is (.bool false), .is (.bool false)]
                    (fun V => Below wr.heap.size wr V) (by kernel_rfl) (by kernel_rfl) (by kernel_rfl) (by kernel_rfl) (by kernel_rfl) (fun V V' h hb => h.trans (hb.mono h.size)) (Below.refl _ _) ?steps24b ?last24b
                  case steps24b =>
                    simp only [List.take_succ_cons, List.take_zero]
                    refine ⟨?_, ?_, ?_, ?_, ?_, ?_, ?_, ?_, ?_, ?_, ?_, ?_, ?_, ?_, ?_, ?_, ?_, ?_, ?_, ?_, ?_, ?_, ?_, ?_, ?_, ?_, ?_, ?_, ?_, ?_, ?_, ?_, ?_, ?_, ?_, ?_, ?_, ?_, ?_, ?_, ?_, ?_, ?_, trivial⟩
                    all_goals
                      intro vs V ρ hρ hc hf2 hg hI hH hd R' hR
                      have x0 := HCk.out V hI
                      have HBV := Lib.hid (hb.out.trans (Below.mono hI hb.out.size))
                      have HRR := Lib.hid hR
                      simp [depsOf, Region.binds, sayAt, Say.holds] at hd
                      clear hR hI
                      try simp only [Region.wanted, hd, boolOf]
                    case refine_6 =>
                      go_simp
                      refine (H1.out V HBV.out).mono ?_
                      rintro e w' ⟨rfl, hb⟩
                      exact ⟨_, rfl, HRR.out _ _ (by simp [sayAt, Say.holds]) hb (by simp [sayAt, Say.isBlk])⟩
                    case refine_12 =>
                      go_simp
                      refine (H2.out V HBV.out).mono ?_
                      rintro e w' ⟨rfl, hb⟩
                      exact ⟨_, rfl, HRR.out _ _ (by simp [sayAt, Say.holds]) hb (by simp [sayAt, Say.isBlk])⟩
                    case refine_20 =>
                      go_simp
                      refine (H3.out V HBV.out).mono ?_
                      rintro e w' ⟨rfl, hb⟩
                      exact ⟨_, rfl, HRR.out _ _ (by simp [sayAt, Say.holds]) hb (by simp [sayAt, Say.isBlk])⟩
                    case refine_26 =>
                      go_simp
                      refine (H4.out V HBV.out).mono ?_
                      rintro e w' ⟨rfl, hb⟩
                      exact ⟨_, rfl, HRR.out _ _ (by simp [sayAt, Say.holds]) hb (by simp [sayAt, Say.isBlk])⟩
                    case refine_35 =>
                      go_simp
                      refine (H5.out V HBV.out).mono ?_
                      rintro e w' ⟨rfl, hb⟩
                      exact ⟨_, rfl, HRR.out _ _ (by simp [sayAt, Say.holds]) hb (by simp [sayAt, Say.isBlk])⟩
                    case refine_41 =>
                      go_simp
                      refine (H6.out V HBV.out).mono ?_
                      rintro e w' ⟨rfl, hb⟩
                      exact ⟨_, rfl, HRR.out _ _ (by simp [sayAt, Say.holds]) hb (by simp [sayAt, Say.isBlk])⟩
                    all_goals
                      go_simp
                      exact HRR.out _ _ (by simp [sayAt, Say.holds]) (Below.refl _ _) (by simp [sayAt, Say.isBlk])
                  case last24b =>
                    intro vs V hI hbb hg hd
                    have g42 := hg 42 (by omega)
                    simp only [sayAt, Say.holds, List.getD_cons_succ, List.getD_cons_zero] at g42
                    simp only [List.take_succ_cons, List.take_zero, List.drop_succ_cons, List.drop_zero, putAll, Act.put, List.setIfInBounds_toArray, List.set_cons_succ, List.set_cons_zero, Nat.zero_add, Nat.reduceAdd]
                    rw [g42]
                    have HBV := Lib.hid (hb.out.trans (Below.mono hI hb.out.size))
                    clear hI hbb hg hd g42 hb H1 H2 H3 H4 H5 H6 n1 n2 n3 HCk
                    go_wp2_with fail
                    go_loopw [24] (fun kv wr => ∃ k : Nat, k ≤ ms.length ∧ k ≤ 6 ∧ kv = .int .i64 (k : Int) ∧ Hid (Below w.heap.size w wr)) (fun kv _ => ms.length - (RowKit.intOf kv).toNat)
                    case atStart => exact ⟨0, by omega, by omega, rfl, HBV⟩
                    case round =>
                      clear HBV
                      obtain ⟨k, hk, hk6, rfl, hb⟩ := hrel
                      by_cases hklt : k < ms.length ∧ k < 6
                      · obtain ⟨hklt, hklt6⟩ := hklt
                        have pk : (k : Int) < (ms.length : Int) := by omega
                        have pk6 : (k : Int) < 6 := by omega
                        obtain ⟨kd2, ek2, -, hck⟩ := HKa.out _ hb.out (by omega)
                        obtain rfl := Option.some.inj ek2
                        obtain ⟨md, rfl, -, hcm⟩ := HMa.out _ hb.out (by omega)
                        have hkd := hck i hlt
                        have hmd := hcm k hklt
                        have HCk := Lib.hid (fun V (hV : Below wr.heap.size wr V) => (cell_kept hV _ (cell_lt2 hkd)).trans hkd)
                        have HCm := Lib.hid (fun V (hV : Below wr.heap.size wr V) => (cell_kept hV _ (cell_lt2 hmd)).trans hmd)
                        have hkx := HKs.out _ (List.getElem_mem hlt)
                        clear ek2 hck hcm hkd hmd
                        generalize ks[i] = key at HCk hkx
                        generalize ms[k] = tm at HCm
                        have h1 := fun V (hV : Below w.heap.size w V) => (HL.out V hV).read_c HS.out key tm hkx
                        have h2 := fun V (hV : Below w.heap.size w V) => (HR.out V hV).read_c HS.out key tm
                        obtain ⟨code, vr, hrd⟩ : ∃ code vr, readP s key tm = (code, vr) := ⟨_, _, rfl⟩
                        rw [hrd] at h1 h2
                        obtain ⟨vt, vs, vd⟩ := vr
                        have H1 : Hid (∀ V, Below w.heap.size w V → Calls Tryz.prog 32 #[.pointer (some ⟨g, 0, none⟩), .string key, .int .i64 tm] V fun e w' => e = .returned (.tuple #[.int .i64 code, .agg #[.int .i64 vt, .string vs, .bool vd]]) ∧ Below V.heap.size V w') := Lib.hid h1
                        have H2 : Hid (∀ V, Below w.heap.size w V → Calls Tryz.prog 65 #[.pointer (some ⟨h, 0, none⟩), .string key, .int .i64 tm] V fun e w' => e = .returned (.tuple #[.int .i64 code, .agg #[.int .i64 vt, .string vs, .bool vd]]) ∧ Below V.heap.size V w') := Lib.hid h2
                        clear h1 h2 hrd hkx
                        go_upto_region 29 with fail
                        refine wp_region_said 15 [209, 210, 211, 212, 213, 214, 215, 216, 217, 218, 208, 219, 220, 26, 25]
                          [.is (.pointer (some ⟨g, 0, none⟩)), .is (.slice (some kd) ks.length a), .is (.int .i64 (i : Int)), .is (.pointer (some (kd.add i))), .is (.string key), .is (.slice (some md) ms.length c), .is (.int .i64 (k : Int)), .is (.pointer (some (md.add k))), .is (.int .i64 tm),
                           .is (.tuple #[.int .i64 code, .agg #[.int .i64 vt, .string vs, .bool vd]]), .is (.tuple #[.int .i64 code, .agg #[.int .i64 vt, .string vs, .bool vd]]), .is (.int .i64 code), .is (.agg #[.int .i64 vt, .string vs, .bool vd]), .blk 77 #[.int .i64 0, .string ⟨#[]⟩, .bool false], .is (.int .i64 code)]
                          (fun V => Below wr.heap.size wr V) (by kernel_rfl) (by kernel_rfl) (by kernel_rfl) (by kernel_rfl) (by kernel_rfl) (fun V V' h hb => h.trans (hb.mono h.size)) (Below.refl _ _) ?steps29b ?last29b
                        case steps29b =>
                          simp only [List.take_succ_cons, List.take_zero]
                          refine ⟨?_, ?_, ?_, ?_, ?_, ?_, ?_, ?_, ?_, ?_, ?_, ?_, ?_, ?_, ?_, trivial⟩
                          all_goals
                            intro vss V ρ hρ hc hf2 hg hI hH hd R' hR
                            have x0 := HCk.out V hI
                            have x1 := HCm.out V hI
                            have HBV := Lib.hid (hb.out.trans (Below.mono hI hb.out.size))
                            have HRR := Lib.hid hR
                            simp [depsOf, Region.binds, sayAt, Say.holds] at hd
                            clear hR hI
                            go_simp
                            first
                              | exact HRR.out _ _ (by simp [sayAt, Say.holds]) (Below.refl _ _) (by simp [sayAt, Say.isBlk])
                              | exact HRR.out _ _ ⟨_, hH, by simp, rfl, heap_alloc_new _ _⟩ ((Below.refl _ _).alloc (Nat.le_refl _) _) (by simp [sayAt, Say.isBlk])
                              | (refine (H1.out V HBV.out).mono ?_; rintro e w' ⟨rfl, hb⟩; exact ⟨_, rfl, HRR.out _ _ (by simp [sayAt, Say.holds]) hb (by simp [sayAt, Say.isBlk])⟩)
                              | trace_state
                        case last29b =>
                          intro vss V hI hbb hg hd
                          have g11 := hg 12 (by omega)
                          have g14 := hg 14 (by omega)
                          obtain ⟨p1, hp1, hp2, g13, hp⟩ := hg 13 (by omega)
                          simp only [sayAt, Say.holds, List.getD_cons_succ, List.getD_cons_zero] at g11 g14
                          simp only [List.take_succ_cons, List.take_zero, List.drop_succ_cons, List.drop_zero, putAll, Act.put, List.setIfInBounds_toArray, List.set_cons_succ, List.set_cons_zero, Nat.zero_add, Nat.reduceAdd]
                          rw [g11, g13, g14]
                          have hp0 : Cel V p1 77 [.int .i64 0, .string ⟨#[]⟩, .bool false] := hp
                          have f0 := hp0.free (i := 0)
                          have f1 := hp0.free (i := 1)
                          have f2 := hp0.free (i := 2)
                          have z0 := hp0.cell (i := 0) rfl
                          have z1 := hp0.cell (i := 1) rfl
                          have z2 := hp0.cell (i := 2) rfl
                          have HP := Lib.hid hp0
                          have HP1 := Lib.hid hp1
                          have HI := Lib.hid hI
                          clear g11 g13 g14 hg hd hbb hI hp hp0 hp1
                          go_upto_region 30 with fail
                          have hc20 : Cel (((V.setCell ⟨p1, 0, none⟩ (.int .i64 vt)).setCell ⟨p1, 1, none⟩ (.string vs)).setCell ⟨p1, 2, none⟩ (.bool vd)) p1 77 [.int .i64 vt, .string vs, .bool vd] := set3_cel HP.out
                          have hb20 : Below wr.heap.size wr (((V.setCell ⟨p1, 0, none⟩ (.int .i64 vt)).setCell ⟨p1, 1, none⟩ (.string vs)).setCell ⟨p1, 2, none⟩ (.bool vd)) := set3_below HI.out HP1.out
                          generalize (((V.setCell ⟨p1, 0, none⟩ (.int .i64 vt)).setCell ⟨p1, 1, none⟩ (.string vs)).setCell ⟨p1, 2, none⟩ (.bool vd)) = W20 at hc20 hb20 ⊢
                          have HC20 := Lib.hid hc20
                          have HB20 := Lib.hid hb20
                          have HBw := Lib.hid (hb.out.trans (hb20.mono hb.out.size))
                          clear hc20 hb20 f0 f1 f2 z0 z1 z2 HP HP1 HI H1
                          refine wp_region_said 15 [222, 223, 224, 225, 226, 227, 228, 229, 230, 231, 221, 232, 233, 28, 27]
                            [.is (.pointer (some ⟨h, 0, none⟩)), .is (.slice (some kd) ks.length a), .is (.int .i64 (i : Int)), .is (.pointer (some (kd.add i))), .is (.string key), .is (.slice (some md) ms.length c), .is (.int .i64 (k : Int)), .is (.pointer (some (md.add k))), .is (.int .i64 tm),
                             .is (.tuple #[.int .i64 code, .agg #[.int .i64 vt, .string vs, .bool vd]]), .is (.tuple #[.int .i64 code, .agg #[.int .i64 vt, .string vs, .bool vd]]), .is (.int .i64 code), .is (.agg #[.int .i64 vt, .string vs, .bool vd]), .blk 77 #[.int .i64 0, .string ⟨#[]⟩, .bool false], .is (.int .i64 code)]
                            (fun V => Below W20.heap.size W20 V) (by kernel_rfl) (by kernel_rfl) (by kernel_rfl) (by kernel_rfl) (by kernel_rfl) (fun V V' h hb => h.trans (hb.mono h.size)) (Below.refl _ _) ?steps30b ?last30b
                          case steps30b =>
                            simp only [List.take_succ_cons, List.take_zero]
                            refine ⟨?_, ?_, ?_, ?_, ?_, ?_, ?_, ?_, ?_, ?_, ?_, ?_, ?_, ?_, ?_, trivial⟩
                            all_goals
                              intro vss V ρ hρ hc hf2 hg hI hH hd R' hR
                              have hI2 := HB20.out.trans (Below.mono hI HB20.out.size)
                              have x0 := HCk.out V hI2
                              have x1 := HCm.out V hI2
                              have HBV := Lib.hid (HBw.out.trans (Below.mono hI HBw.out.size))
                              have HRR := Lib.hid hR
                              simp [depsOf, Region.binds, sayAt, Say.holds] at hd
                              clear hR hI hI2
                              go_simp
                              first
                                | exact HRR.out _ _ (by simp [sayAt, Say.holds]) (Below.refl _ _) (by simp [sayAt, Say.isBlk])
                                | exact HRR.out _ _ ⟨_, hH, by simp, rfl, heap_alloc_new _ _⟩ ((Below.refl _ _).alloc (Nat.le_refl _) _) (by simp [sayAt, Say.isBlk])
                                | (refine (H2.out V HBV.out).mono ?_; rintro e w' ⟨rfl, hb⟩; exact ⟨_, rfl, HRR.out _ _ (by simp [sayAt, Say.holds]) hb (by simp [sayAt, Say.isBlk])⟩)
                                | trace_state
                          case last30b =>
                            intro vss V2 hI hbb hg hd
                            have g11 := hg 12 (by omega)
                            have g14 := hg 14 (by omega)
                            obtain ⟨p2, hp1, hp2, g13, hp⟩ := hg 13 (by omega)
                            simp only [sayAt, Say.holds, List.getD_cons_succ, List.getD_cons_zero] at g11 g14
                            simp only [List.take_succ_cons, List.take_zero, List.drop_succ_cons, List.drop_zero, putAll, Act.put, List.setIfInBounds_toArray, List.set_cons_succ, List.set_cons_zero, Nat.zero_add, Nat.reduceAdd]
                            rw [g11, g13, g14]
                            have hp0 : Cel V2 p2 77 [.int .i64 0, .string ⟨#[]⟩, .bool false] := hp
                            have f0 := hp0.free (i := 0)
                            have f1 := hp0.free (i := 1)
                            have f2 := hp0.free (i := 2)
                            have z0 := hp0.cell (i := 0) rfl
                            have z1 := hp0.cell (i := 1) rfl
                            have z2 := hp0.cell (i := 2) rfl
                            have HP := Lib.hid hp0
                            have HP1 := Lib.hid hp1
                            have HI := Lib.hid hI
                            clear g11 g13 g14 hg hd hbb hI hp hp0 hp1
                            go_upto_region 31 with fail
                            have hc21 : Cel (((V2.setCell ⟨p2, 0, none⟩ (.int .i64 vt)).setCell ⟨p2, 1, none⟩ (.string vs)).setCell ⟨p2, 2, none⟩ (.bool vd)) p2 77 [.int .i64 vt, .string vs, .bool vd] := set3_cel HP.out
                            have hb21 : Below W20.heap.size W20 (((V2.setCell ⟨p2, 0, none⟩ (.int .i64 vt)).setCell ⟨p2, 1, none⟩ (.string vs)).setCell ⟨p2, 2, none⟩ (.bool vd)) := set3_below HI.out HP1.out
                            generalize (((V2.setCell ⟨p2, 0, none⟩ (.int .i64 vt)).setCell ⟨p2, 1, none⟩ (.string vs)).setCell ⟨p2, 2, none⟩ (.bool vd)) = W21 at hc21 hb21 ⊢
                            have hc1 := HC20.out.below hb21
                            have HB21 := Lib.hid (HBw.out.trans (hb21.mono HBw.out.size))
                            clear f0 f1 f2 z0 z1 z2 HP HP1 HI hb21 HC20 HB20 H2 HBw
                            have v0 := hc1.cell (i := 0) rfl
                            have v1 := hc1.cell (i := 1) rfl
                            have v2 := hc1.cell (i := 2) rfl
                            have r0 := hc21.cell (i := 0) rfl
                            have r1 := hc21.cell (i := 1) rfl
                            have r2 := hc21.cell (i := 2) rfl
                            have te := text_eq vs
                            have bc := bne_self_i code
                            clear hc1 hc21
                            go_wp2_with fail
                            go_roundw
                            case rel => exact ⟨k + 1, by omega, by omega, by go_num, HB21⟩
                            case measure => simp [RowKit.intOf]; omega
                      · by_cases hk1 : k < ms.length
                        · have pk : (k : Int) < (ms.length : Int) := by omega
                          have pk6 : ¬ (k : Int) < 6 := by omega
                          go_wp2_with fail
                          go_roundw
                          case rel => exact ⟨i + 1, by omega, by omega, by go_num, hb⟩
                          case measure => simp [RowKit.intOf]; omega
                        · have pk : ¬ (k : Int) < (ms.length : Int) := by omega
                          go_wp2_with fail
                          go_roundw
                          case rel => exact ⟨i + 1, by omega, by omega, by go_num, hb⟩
                          case measure => simp [RowKit.intOf]; omega
                · by_cases hi1 : i < ks.length
                  · have pi : (i : Int) < (ks.length : Int) := by omega
                    have pi8 : ¬ (i : Int) < 8 := by omega
                    go_wp2_with fail
                    go_ret
                    exact ⟨rfl, hb.out⟩
                  · have pi : ¬ (i : Int) < (ks.length : Int) := by omega
                    go_wp2_with fail
                    go_ret
                    exact ⟨rfl, hb.out⟩
end Sh
end Go.Proofs.YtbkanoblcojdfaaGreat
