/- What is read stays: the walk of the law over shelves; no condition but the range. -/
import Derived.Test.YtiobhbagjokpcaaM38
namespace Go.Proofs.Ytiobhbagjokpcaa
namespace Sh
open Go.RowKit Bk Ch Lt Rc Tr

attribute [local go_sem ↓] Go.wp_at_zero Go.wp_at_succ
attribute [local go_sem] floatUpon pick

theorem recs_below {w W : World} {v : Value} {L : List RI} (h : RecsOf w v L) (hb : Below w.heap.size w W) : RecsOf W v L := by
  obtain ⟨A, c, rfl, hat, h16, hok⟩ := h
  refine ⟨A, c, rfl, fun hp => ?_, h16, fun x hx => (hok x hx).below hb⟩
  obtain ⟨ad, e, hl, hc⟩ := hat hp
  exact ⟨ad, e, Nat.lt_of_lt_of_le hl hb.size, fun i hi j u hu => (cell_kept hb _ (by rw [st_block]; exact hl)).trans (hc i hi j u hu)⟩

set_option maxRecDepth 20000 in
set_option maxHeartbeats 8000000 in
theorem stays_any (W : World) (v u : Value) (L M : List RI) (key : ByteArray) (t : Int) (hv : RecsOf W v L) (hu : RecsOf W u M) (hk : key.size ≤ reachBytes) (ht : -9223372036854775808 ≤ t ∧ t ≤ 9223372036854775807) :
    Calls Try.prog 4 #[v, .agg #[.string key, .int .i64 t], u] W fun e w' => e = .returned (.bool true) ∧ Below W.heap.size W w' := by
  have HMd := Lib.hid (fun V (hb : Below W.heap.size W V) => made_any V v L (recs_below hv hb))
  have HWk := Lib.hid (fun V => works_any V)
  have HU := Lib.hid hu
  have rb : reachBytes = 140737488351232 := rfl
  have HK := Lib.hid (show key.size ≤ maxLen from by unfold maxLen; omega)
  clear hv hu hk rb
  go_enter Try.func4, Try.ntmps4
  go_upto_region 1 with fail
  have hc1 : Cel (W.alloc (.cells #[.string key, .int .i64 t] 44)) W.heap.size 44 [.string key, .int .i64 t] := (blk1 W _).2
  have hb1 : Below W.heap.size W (W.alloc (.cells #[.string key, .int .i64 t] 44)) := (Below.refl _ W).alloc (Nat.le_refl _) _
  generalize W.alloc (.cells #[.string key, .int .i64 t] 44) = W1 at hc1 hb1 ⊢
  have q0 := hc1.cell (i := 0) rfl
  have q1 := hc1.cell (i := 1) rfl
  go_quiet (fail)
  rename_i nq
  have HB1 := Lib.hid (hb1.trans ((below_drew W1.heap.size W1 nq).mono hb1.size))
  generalize W1.drewN nq = W2 at HB1 ⊢
  clear hb1 hc1 q0 q1
  go_wp2_with fail
  refine (HMd.out _ HB1.out).mono ?_
  rintro e3 w3 ⟨g, F, s, rfl, hl⟩
  have HL3 := Lib.hid (hl.since HB1.out)
  clear hl HMd HB1
  go_wp2_with fail
  refine (HWk.out _).mono ?_
  rintro e4 w4 ⟨rfl, hb⟩
  have HL4 := Lib.hid (HL3.out.below hb)
  clear hb HL3 HWk
  obtain ⟨code, vr, hrd⟩ : ∃ code vr, readP s key t = (code, vr) := ⟨_, _, rfl⟩
  have hR := HL4.out.read key t HK.out
  rw [hrd] at hR
  have HRd := Lib.hid hrd
  have HR := Lib.hid hR
  obtain ⟨vt, vs, vd⟩ := vr
  simp only at HR
  clear hR hrd
  go_wp2_with fail
  refine (show Calls _ _ #[_, _, _] _ (fun e w' => e = .returned (.tuple #[.int .i64 code, .agg #[.int .i64 vt, .string vs, .bool vd]]) ∧ Live W w' g F s ∧ Below w4.heap.size w4 w') from HR.out).mono ?_
  rintro e5 w5 ⟨rfl, hl, -⟩
  have hc5 : Cel (w5.alloc (.cells #[.int .i64 vt, .string vs, .bool vd] 38)) w5.heap.size 38 [.int .i64 vt, .string vs, .bool vd] := (blk1 w5 _).2
  have hn5 : ¬ F w5.heap.size := fun hf => by have := hl.lt _ hf; omega
  have HL5 := Lib.hid (hl.below ((Below.refl _ w5).alloc (Nat.le_refl _) (.cells #[.int .i64 vt, .string vs, .bool vd] 38)))
  clear hl HL4 HR
  have HSt := Lib.hid (still_start HRd.out)
  go_upto_region 6 with fail
  generalize w5.alloc (.cells #[.int .i64 vt, .string vs, .bool vd] 38) = W5 at hc5 HL5 ⊢
  have HC5 := Lib.hid hc5
  have HN5 := Lib.hid hn5
  generalize w5.heap.size = n5 at HC5 HN5 ⊢
  clear hc5 hn5 HRd
  by_cases c3 : code = 3
  · subst c3
    go_wp2_with fail
    go_ret
    exact ⟨rfl, HL5.out.bel⟩
  by_cases c4 : code = 4
  · subst c4
    go_wp2_with fail
    go_ret
    exact ⟨rfl, HL5.out.bel⟩
  have b3 : (code == 3) = false := by simpa using c3
  have b4 : (code == 4) = false := by simpa using c4
  by_cases t0 : t < 0
  · go_wp2_with fail
    go_ret
    exact ⟨rfl, HL5.out.bel⟩
  by_cases t1 : 1125899906842624 < t
  · go_wp2_with fail
    go_ret
    exact ⟨rfl, HL5.out.bel⟩
  have HS5 := Lib.hid (HSt.out c3 c4)
  clear c3 c4 HSt
  go_wp2_with fail
  obtain ⟨A, c, rfl, hat, hl16, hok⟩ := HU.out
  have rb : reachBytes = 140737488351232 := rfl
  have hlen : (M.length : Int) ≤ 9223372036854775807 := by omega
  have HAt := Lib.hid hat
  have HOk := Lib.hid hok
  clear hat hok hl16 rb HU
  go_loopw [12] (fun iv wr => ∃ (j : Nat) (F : Nat → Prop) (s : Shf), j ≤ M.length ∧ j ≤ 60 ∧ iv = .int .i64 (j : Int) ∧ Hid (Live W wr g F s) ∧ Hid (s.over ≤ t ∧ Still code ⟨vt, vs, vd⟩ (atV (chainK s.k key) t)) ∧ Hid (Cel wr n5 38 [.int .i64 vt, .string vs, .bool vd]) ∧ Hid (¬ F n5)) (fun iv _ => M.length - (RowKit.intOf iv).toNat)
  case atStart => exact ⟨0, F, s, by omega, by omega, rfl, HL5, HS5, HC5, HN5⟩
  case round =>
    obtain ⟨j, F, s, hj, hj2, rfl, hL, hS, hC, hN⟩ := hrel
    clear HL5 HS5 HC5 HN5
    by_cases hlt : j < M.length ∧ j < 60
    · obtain ⟨hlt, hlt2⟩ := hlt
      have pj : (j : Int) < (M.length : Int) := by omega
      have pj2 : (j : Int) < 60 := by omega
      obtain ⟨ad, rfl, hab, hc⟩ := HAt.out (by omega)
      have hc2 := hc j hlt
      have hval := HOk.out _ (List.getElem_mem hlt)
      generalize M[j] = X at hc2 hval
      have HX : Hid (∀ V, Below W.heap.size W V → ∀ (q : Nat) (v : Value), (rcs X)[q]? = some v → V.cell? (ad.add (j * 9 + q)) = some v) := Lib.hid (fun V hb q v hq => by
        rw [cell_kept hb _ (by rw [st_block]; exact hab)]
        exact hc2 q v hq)
      have HVl := Lib.hid (fun V (hb : Below W.heap.size W V) => hval.below hb)
      have x0 := HX.out _ hL.out.bel 0 _ rfl
      have x1 := HX.out _ hL.out.bel 1 _ rfl
      have x2 := HX.out _ hL.out.bel 2 _ rfl
      have x3 := HX.out _ hL.out.bel 3 _ rfl
      have x4 := HX.out _ hL.out.bel 4 _ rfl
      have x5 := HX.out _ hL.out.bel 5 _ rfl
      have x6 := HX.out _ hL.out.bel 6 _ rfl
      have x7 := HX.out _ hL.out.bel 7 _ rfl
      have x8 := HX.out _ hL.out.bel 8 _ rfl
      rw [← Lt.add_field _ _ _ (by omega)] at x1 x2 x3 x4 x5 x6 x7 x8
      rw [Nat.add_zero] at x0
      clear hc hc2 hval hab
      go_upto_region 12 with fail
      have hr1 : Cel (wr.alloc (.cells #[.int .i64 X.l.kind, .int .i64 X.l.txn, .int .i64 X.l.ts, .int .i64 X.l.coord, .string X.l.key, .string X.l.text, .bool X.l.dead, .slice X.A X.l.keys.length X.c, .slice X.B X.l.ws.length X.d] 32)) wr.heap.size 32 [.int .i64 X.l.kind, .int .i64 X.l.txn, .int .i64 X.l.ts, .int .i64 X.l.coord, .string X.l.key, .string X.l.text, .bool X.l.dead, .slice X.A X.l.keys.length X.c, .slice X.B X.l.ws.length X.d] := (blk1 wr _).2
      have hb1 : Below wr.heap.size wr (wr.alloc (.cells #[.int .i64 X.l.kind, .int .i64 X.l.txn, .int .i64 X.l.ts, .int .i64 X.l.coord, .string X.l.key, .string X.l.text, .bool X.l.dead, .slice X.A X.l.keys.length X.c, .slice X.B X.l.ws.length X.d] 32)) := (Below.refl _ wr).alloc (Nat.le_refl _) _
      generalize wr.alloc (.cells #[.int .i64 X.l.kind, .int .i64 X.l.txn, .int .i64 X.l.ts, .int .i64 X.l.coord, .string X.l.key, .string X.l.text, .bool X.l.dead, .slice X.A X.l.keys.length X.c, .slice X.B X.l.ws.length X.d] 32) = W7 at hr1 hb1 ⊢
      have HL7 := Lib.hid (hL.out.below hb1)
      have HC7 := Lib.hid (hC.out.below hb1)
      have q0 := hr1.cell (i := 0) rfl
      have q1 := hr1.cell (i := 1) rfl
      have q2 := hr1.cell (i := 2) rfl
      have q3 := hr1.cell (i := 3) rfl
      have q4 := hr1.cell (i := 4) rfl
      have q5 := hr1.cell (i := 5) rfl
      have q6 := hr1.cell (i := 6) rfl
      have q7 := hr1.cell (i := 7) rfl
      have q8 := hr1.cell (i := 8) rfl
      clear x0 x1 x2 x3 x4 x5 x6 x7 x8 hr1 hb1 hL hC HX pj pj2
      go_cut [93] from 60 to 94 (fun s93 wx => ∃ b : Bool, s93 = .bool b ∧ Hid (b = false → ¬ Skip t X.l) ∧ wx = W7)
      case first =>
        have hsk : Hid (Skip t X.l ↔ (X.l.kind ≠ 1 ∧ X.l.kind ≠ 4 ∧ X.l.ts ≠ 0 ∧ X.l.ts ≤ t) ∨ (X.l.kind = 4 ∧ t < X.l.ts)) := Lib.hid Iff.rfl
        by_cases k1 : X.l.kind = 1
        · have b1 : (X.l.kind == 4) = false := by simp; omega
          go_wp2_with fail
          go_meet
          case rel => exact ⟨_, rfl, Lib.hid (fun _ h => by have := hsk.out.1 h; omega), rfl⟩
        have b1 : (X.l.kind == 1) = false := by simpa using k1
        by_cases k4 : X.l.kind = 4
        · by_cases hl : t < X.l.ts
          · go_wp2_with fail
            go_meet
            case rel => exact ⟨true, rfl, Lib.hid (fun h => by cases h), rfl⟩
          · go_wp2_with fail
            go_meet
            case rel => exact ⟨_, rfl, Lib.hid (fun _ h => by have := hsk.out.1 h; omega), rfl⟩
        have b4 : (X.l.kind == 4) = false := by simpa using k4
        by_cases z : X.l.ts = 0
        · go_wp2_with fail
          go_meet
          case rel => exact ⟨_, rfl, Lib.hid (fun _ h => by have := hsk.out.1 h; omega), rfl⟩
        have bz : (X.l.ts == 0) = false := by simpa using z
        by_cases hl : X.l.ts ≤ t
        · go_wp2_with fail
          go_meet
          case rel => exact ⟨true, rfl, Lib.hid (fun h => by cases h), rfl⟩
        · go_wp2_with fail
          go_meet
          case rel => exact ⟨_, rfl, Lib.hid (fun _ h => by have := hsk.out.1 h; omega), rfl⟩
      case rest =>
        obtain ⟨b, rfl, hns, rfl⟩ := hcut
        cases b with
        | true =>
          clear hns
          go_wp2_with fail
          go_roundw
          case rel => exact ⟨j + 1, F, s, by omega, by omega, by go_num, HL7, hS, HC7, hN⟩
          case measure => simp [RowKit.intOf]; omega
        | false =>
          have HAp := Lib.hid (HL7.out.apply X (HVl.out _ HL7.out.bel))
          unfold rcs at HAp
          have hst := still_step HL7.out.ok hS.out.1 hS.out.2 (hns.out rfl)
          have HS8 := Lib.hid hst
          have HE8 := Lib.hid (still_end hst.1 hst.2)
          clear hst hns hS
          go_wp2_with fail
          refine HAp.out.mono ?_
          rintro e8 w8 ⟨rfl, hl, hf⟩
          have hc8 : Cel w8 n5 38 [.int .i64 vt, .string vs, .bool vd] := (hf.block n5 HC7.out.lt hN.out).trans HC7.out
          have hn8 : ¬ Gr F wc w8 n5 := fun h => h.elim hN.out (fun h2 => by have := HC7.out.lt; omega)
          have HL8 := Lib.hid hl
          have HC8 := Lib.hid hc8
          have HN8 := Lib.hid hn8
          have hR := hl.read key t HK.out
          obtain ⟨rc, rv, hrr⟩ : ∃ rc rv, readP (applyP s X.l).1 key t = (rc, rv) := ⟨_, _, rfl⟩
          rw [hrr] at hR HE8
          obtain ⟨rt, rs, rd⟩ := rv
          simp only at hR HE8
          have HR := Lib.hid hR
          generalize (applyP s X.l).1 = s8 at *
          clear hl hf hc8 hn8 HAp HL7 HC7 hN hR hrr HVl
          go_wp2_with fail
          refine (show Calls _ _ #[_, _, _] _ (fun e w' => e = .returned (.tuple #[.int .i64 rc, .agg #[.int .i64 rt, .string rs, .bool rd]]) ∧ Live W w' g (Gr F wc w8) s8 ∧ Below w8.heap.size w8 w') from HR.out).mono ?_
          rintro e9 w9 ⟨rfl, hl, hb⟩
          have hr9 : Cel (w9.alloc (.cells #[.int .i64 rt, .string rs, .bool rd] 38)) w9.heap.size 38 [.int .i64 rt, .string rs, .bool rd] := (blk1 w9 _).2
          have hb9 := (Below.refl _ w9).alloc (Nat.le_refl _) (.cells #[.int .i64 rt, .string rs, .bool rd] 38)
          have hc9 := (HC8.out.below hb).below hb9
          have HL9 := Lib.hid (hl.below hb9)
          clear hl hb hb9 HL8 HC8 HR
          have HC9 := Lib.hid hc9
          have HR9 := Lib.hid hr9
          have HN9 := HN8
          clear hc9 hr9
          rcases HE8.out with h3 | he | ⟨h2, h0⟩
          · subst h3
            clear HE8 HR9
            go_wp2_with fail
            go_roundw
            case rel => exact ⟨j + 1, _, s8, by omega, by omega, by go_num, HL9, HS8, HC9, HN9⟩
            case measure => simp [RowKit.intOf]; omega
          · simp only [Prod.mk.injEq, Vr.mk.injEq] at he
            obtain ⟨rfl, rfl, rfl, rfl⟩ := he
            have v0 := HC9.out.cell (i := 0) rfl
            have v1 := HC9.out.cell (i := 1) rfl
            have v2 := HC9.out.cell (i := 2) rfl
            have r0 := HR9.out.cell (i := 0) rfl
            have r1 := HR9.out.cell (i := 1) rfl
            have r2 := HR9.out.cell (i := 2) rfl
            have te := text_eq rs
            clear HE8
            by_cases hc2 : rc = 2
            · subst hc2
              go_wp2_with fail
              go_roundw
              case rel => exact ⟨j + 1, _, s8, by omega, by omega, by go_num, HL9, HS8, HC9, HN9⟩
              case measure => simp [RowKit.intOf]; omega
            · have hcc : (rc == 2) = false := by simpa using hc2
              go_wp2_with fail
              go_roundw
              case rel => exact ⟨j + 1, _, s8, by omega, by omega, by go_num, HL9, HS8, HC9, HN9⟩
              case measure => simp [RowKit.intOf]; omega
          · subst h2 h0
            clear HE8 HR9
            go_wp2_with fail
            go_roundw
            case rel => exact ⟨j + 1, _, s8, by omega, by omega, by go_num, HL9, HS8, HC9, HN9⟩
            case measure => simp [RowKit.intOf]; omega
    · have hB := Lib.hid hL.out.bel
      by_cases hlt1 : j < M.length
      · have pj : (j : Int) < (M.length : Int) := by omega
        have pj2 : ¬ (j : Int) < 60 := by omega
        go_wp2_with fail
        go_ret
        exact ⟨rfl, hB.out⟩
      · have pj : ¬ (j : Int) < (M.length : Int) := by omega
        go_wp2_with fail
        go_ret
        exact ⟨rfl, hB.out⟩

end Sh
end Go.Proofs.Ytiobhbagjokpcaa
