/- Each task is taken once, the most urgent first: the walk; no condition. -/
import Derived.Test.YtpjoiepdcilcnaaDuAllM
import Derived.OwnWalk
namespace Go.Proofs.Ytpjoiepdcilcnaa
namespace Du
open Go.RowKit Bk

theorem Try.infoBool : (Try.prog.info? 4).map (fun i => (i.zero, i.size, i.bytes)) = some (some (.bool false), 1, 1) := by kernel_rfl

theorem info_bool : ∃ i, Try.prog.info? 4 = some i ∧ i.zero = some (.bool false) ∧ i.size = 1 ∧ i.bytes = 1 := by
  have h := Try.infoBool
  cases hi : Try.prog.info? 4 with
  | none => rw [hi] at h; cases h
  | some i =>
    rw [hi] at h
    simp only [Option.map_some, Option.some.injEq, Prod.mk.injEq] at h
    exact ⟨i, rfl, h⟩

/-- a task of the argument in the memory -/
theorem ta_cells {w : World} {A : Option Addr} {L : List Ta} (HA : tasAt w A L) {ad : Addr} (hA : A = some ad) {m : Nat} (hm : m < L.length) {W : World} (hW : Below w.heap.size w W) :
    W.cell? (ad.add (m * 2)) = some (.int .i64 (L.getD m default).a) ∧ W.cell? ⟨(ad.add (m * 2)).block, (ad.add (m * 2)).off + 1, none⟩ = some (.int .i64 (L.getD m default).u) := by
  obtain ⟨ad', e1, _, hc⟩ := (HA.below hW) (by omega)
  rw [hA] at e1
  obtain rfl := Option.some.inj e1
  obtain ⟨x0, x1⟩ := hc m hm
  rw [add_field _ _ _ (by omega)]
  have e2 : L.getD m default = L[m] := by rw [List.getD_eq_getElem?_getD, List.getElem?_eq_getElem hm]; rfl
  rw [e2]
  exact ⟨x0, x1⟩

theorem ta_a (L : List Ta) {n m : Nat} (hm : m < n) : (g (taL L n) m).a = ((amongV (L.getD m default).a 1000 : Nat) : Int) ∧ (g (taL L n) m).u = (L.getD m default).u := by rw [ta_at L n m hm]; exact ⟨rfl, rfl⟩

theorem QS.besideB {w0 W W' : World} {S : Nat → Prop} {b p : Nat} {D : Ds} (h : QS w0 W S b D) (hb : Below W.heap.size W W') (hp : p = W.heap.size) (hl : p < W'.heap.size) : QS w0 W' (fun k => S k ∨ k = p) b D := by
  obtain ⟨⟨F, h1, h2⟩, h3⟩ := h
  refine ⟨⟨F, h1.below hb, fun k hk => ?_⟩, h3.trans (hb.mono h3.size)⟩
  rcases hk with hk | rfl
  · exact ⟨Nat.lt_of_lt_of_le (h2 k hk).1 hb.size, (h2 k hk).2⟩
  · exact ⟨hl, fun hf => by have := (h1.lt _ hf).1; omega⟩

theorem QS.put {w0 W : World} {S : Nat → Prop} {b r m : Nat} {D : Ds} {v : Value} (h : QS w0 W S b D) (hS : S r) (hr : w0.heap.size ≤ r) : QS w0 (W.setCell ⟨r, m, none⟩ v) S b D := by
  obtain ⟨⟨F, h1, h2⟩, h3⟩ := h
  have g := grow_put W r m v
  exact ⟨⟨F, h1.kept g.size (fun k hk => g.block k (h1.lt k hk).1 (fun e => (h2 r hS).2 (by rw [← Option.some.inj e]; exact hk))), fun k hk => ⟨Nat.lt_of_lt_of_le (h2 k hk).1 g.size, (h2 k hk).2⟩⟩, h3.setCell (p := ⟨r, m, none⟩) hr v⟩

set_option maxRecDepth 20000 in
set_option maxHeartbeats 4000000 in
theorem all_any (v : Value) (L : List Ta) (v1 : Value) (s : List Int) (w : World) (hv : tasOf w v L) (hv1 : IntsOf w v1 s) : Calls Try.prog 4 #[v, v1] w fun e w' => e = .returned (.bool true) ∧ Below w.heap.size w w' := by
  obtain ⟨A, c, rfl, hA, hL16, _⟩ := hv
  obtain ⟨B, c2, rfl, hB, hs8, _⟩ := hv1
  have hL63 : (L.length : Int) ≤ 9223372036854775807 := by unfold reachBytes at hL16; omega
  have hs63 : (s.length : Int) ≤ 9223372036854775806 := by unfold reachBytes at hs8; omega
  have HAt := Lib.hid hA
  have HBt := Lib.hid hB
  obtain ⟨n, hn⟩ : ∃ n, n = min L.length 60 := ⟨_, rfl⟩
  have hmin : (if (60 : Int) < (L.length : Int) then 60 else (L.length : Int)) = (n : Int) := by
    split <;> omega
  have hn60 : n ≤ 60 := by omega
  have HnL : Hid (n ≤ L.length) := Lib.hid (by omega)
  clear hA hB hL16 hs8 hn
  go_enter Try.func4, Try.ntmps4
  go_wp2_with fail
  refine (snew (Below.refl w.heap.size w)).mono ?_
  rintro e w1 ⟨b, rfl, h1⟩
  have H1 := Lib.hid h1
  have HW := Lib.hid (works_any w1)
  clear h1
  go_wp2_with fail
  refine HW.out.mono ?_
  rintro e w2 ⟨rfl, hb⟩
  have H2 := Lib.hid (H1.out.below hb)
  clear hb HW H1
  go_upto_region 5 with fail
  clear hmin
  go_wp2_with fail
  go_loopw [31, 7] (fun i mo wr => ∃ (j : Nat) (most : Int), j ≤ n ∧ i = .int .i64 (j : Int) ∧ mo = .int .i64 most ∧ (0 ≤ most ∧ most ≤ 1000) ∧ Hid (∀ m, m < j → (g (taL L n) m).a ≤ most) ∧ Hid (QS w wr (fun _ => False) b ⟨taL L j, 0, (j : Int)⟩)) (fun i _ _ => n - (intOf i).toNat)
  case atStart => exact ⟨0, 0, by omega, rfl, rfl, by omega, fun m h => absurd h (by omega), H2.out⟩
  case round =>
    obtain ⟨j, most, hj, rfl, rfl, hmo, htop, hq⟩ := hrel
    by_cases hlt : j < n
    · obtain ⟨ad, rfl, _, _⟩ := HAt.out (by have := HnL.out; omega)
      obtain ⟨c0, c1⟩ := ta_cells HAt.out rfl (m := j) (by have := HnL.out; omega) hq.out.bel
      have p0 : (j : Int) < (L.length : Int) := by have := HnL.out; omega
      have p1 : (j : Int) < (n : Int) := by omega
      have HAj := Lib.hid (fun W => among_any (L.getD j default).a 1000 W (by omega) (by omega))
      have HP := Lib.hid (sput hq.out ((amongV (L.getD j default).a 1000 : Nat) : Int) (L.getD j default).u j (by show (j : Int) ≤ _; omega))
      rw [ta_put L j (by omega)] at HP
      have HT := Lib.hid (ta_a L hlt)
      obtain ⟨X, hX⟩ : ∃ X, L.getD j default = X := ⟨_, rfl⟩
      rw [hX] at c0 c1 HAj HP HT
      have ham := amongV_lt X.a 1000 (by omega)
      obtain ⟨am, he⟩ : ∃ am, amongV X.a 1000 = am := ⟨_, rfl⟩
      rw [he] at HAj HP HT ham
      clear hX he
      go_wp2_with fail
      refine (HAj.out _).mono ?_
      rintro e w3 ⟨rfl, rfl⟩
      go_wp2_with fail
      all_goals
        refine HP.out.mono ?_
        rintro e w4 ⟨rfl, h4, _⟩
        have H4 := Lib.hid h4
        clear h4 HP c0 c1
        go_wp2_with fail
        go_roundw
        case rel => exact ⟨j + 1, _, by omega, by go_num, rfl, by omega, (fun m hm => by
          rw [(ta_a L (n := n) (by omega)).1]
          by_cases e : m = j
          · subst e
            have := HT.out.1
            rw [(ta_a L hlt).1] at this
            omega
          · have := htop.out m (by omega)
            rw [(ta_a L (n := n) (by omega)).1] at this
            omega), H4.out⟩
        case measure => simp [intOf]; omega
    · obtain rfl : j = n := by omega
      obtain ⟨i0, hi, hz0, hz1, hz2⟩ := info_bool
      have HI0 := Lib.hid (AllI.start (L := L) (n := j) htop.out hmo.1 hmo.2 (j : Int))
      have HTop := Lib.hid htop.out
      clear htop
      go_wp2_with (at_make; refine wpList_make_full _ rfl (.tmp 58) (.tmp 58) 46 rfl wr.heap.size 4 i0 (.bool false) 1 Try.underlying46 hi hz0 hz1 .i64 .i64 _ _ j rfl rfl rfl rfl (by rw [hz2]; omega) (by unfold maxLen; omega) (by simp) ?_; intro w3 hown hgrow)
      have hb3 : Below wr.heap.size wr w3 := (Below.refl _ _).grown hgrow (Nat.le_refl _) (fun q hq => by cases hq)
      have hc3 : Cel w3 wr.heap.size 4 ((List.replicate j false).map Value.bool) := by
        have h0 := owns_blk0 hown
        have e : (madeCells (Value.bool false).cells (j * 1)).toList = (List.replicate j false).map Value.bool := by
          exact (preV_zero (List.replicate j (.bool false)) (.bool false) j (by simp) rfl).trans (by simp [preV])
        rw [e] at h0
        exact h0
      have hq3 := hq.out.besideB hb3 rfl hc3.lt
      have hrb : w.heap.size ≤ wr.heap.size := hq.out.bel.size
      generalize wr.heap.size = r at hc3 hq3 hrb ⊢
      have Hr := Lib.hid hrb
      clear hrb
      have HC3 := Lib.hid (And.intro hc3 hq3)
      clear hown hgrow hb3 hc3 hq3 hi hz0 hz1 hz2
      obtain ⟨M, hM⟩ : ∃ M, M = min s.length 40 := ⟨_, rfl⟩
      go_loopw [13, 14] (fun l i wr => ∃ (k : Nat) (D : Ds) (T : List Bool), l = .int .i64 (D.L.length : Int) ∧ i = .int .i64 (k : Int) ∧ k ≤ M + 1 ∧ Hid (k = M + 1 → D.L = []) ∧ Hid (AllI L j most D T) ∧ Hid (Cel wr r 4 (T.map Value.bool)) ∧ Hid (QS w wr (fun k => False ∨ k = r) b D)) (fun _ i _ => M + 1 - (intOf i).toNat)
      case atStart => exact ⟨0, _, _, by rw [ta_len], rfl, by omega, fun h => by omega, HI0.out, HC3.out.1, HC3.out.2⟩
      case round =>
        obtain ⟨k, D, T, rfl, rfl, hk, hend, hai, hc, hq⟩ := hrel
        have hlen := hai.out.len
        by_cases hkM : k ≤ M
        · have p1 : (k : Int) ≤ (s.length : Int) := by omega
          have p2 : (k : Int) ≤ 40 := by omega
          have htk := hai.out.tick
          have hbig := hai.out.big
          go_upto_region 21 with fail
          obtain ⟨bk, hbk⟩ : ∃ bk, bk = decide (k < M) := ⟨_, rfl⟩
          have HBk := Lib.hid hbk
          go_cut [79] (fun t wx => t = .bool bk ∧ wx = wr)
          case first =>
            by_cases hlt : k < M
            · have p3 : (k : Int) < (s.length : Int) := by omega
              have p4 : (k : Int) < 40 := by omega
              rw [decide_eq_true hlt] at hbk
              subst hbk
              go_wp2_with fail
              go_meet
              exact ⟨rfl, rfl⟩
            · rw [decide_eq_false hlt] at hbk
              subst hbk
              by_cases hs : (k : Int) < (s.length : Int)
              · have p4 : ¬ (k : Int) < 40 := by omega
                go_wp2_with fail
                go_meet
                exact ⟨rfl, rfl⟩
              · go_wp2_with fail
                go_meet
                exact ⟨rfl, rfl⟩
          case rest =>
            obtain ⟨rfl, rfl⟩ := hcut
            clear hbk
            go_upto_if 79 with fail
            go_cut [15] (fun t wx => (∃ tt : Int, t = .int .i64 tt ∧ (D.tick ≤ tt ∧ tt ≤ most) ∧ (k = M → tt = most)) ∧ Hid (Cel wx r 4 (T.map Value.bool)) ∧ Hid (QS w wx (fun k => False ∨ k = r) b D))
            case first =>
              cases bk with
              | true =>
                have hlt : k < M := of_decide_eq_true HBk.out.symm
                have p3 : (k : Int) < (s.length : Int) := by omega
                have p4 : (k : Int) < 40 := by omega
                obtain ⟨bd, rfl, _, hcb⟩ := (HBt.out.below hq.out.bel) (by omega)
                have kb := hcb k (by omega)
                have hnow : ∀ q, Calls Try.prog 21 #[.pointer (some ⟨b, 0, none⟩)] (wc.drewN q) fun e W' => e = .returned (.int .i64 D.tick) ∧ W' = wc.drewN q := fun q => snow (hq.out.below (W' := wc.drewN q) ⟨rfl, rfl, rfl, Nat.le_refl _, fun _ _ => rfl⟩)
                generalize s[k] = y at kb
                have hay := amongV_lt y 200 (by omega)
                have HAy := Lib.hid (fun W => among_any y 200 W (by omega) (by omega))
                generalize amongV y 200 = ay at hay HAy
                have HNo := Lib.hid hnow
                clear hnow hcb
                go_upto_region 22 with fail
                go_quiet ((first | (go_at_call 21; exact Calls.quiet_of_same (HNo.out _)) | (go_at_call 9; exact Calls.quiet_of_same (HAy.out _))))
                go_wp2_with fail
                all_goals
                  go_meet
                  exact ⟨⟨_, rfl, by omega, fun h => by omega⟩, hc.out, hq.out.below ⟨rfl, rfl, rfl, Nat.le_refl _, fun _ _ => rfl⟩⟩
              | false =>
                go_wp2_with fail
                go_meet
                exact ⟨⟨_, rfl, by omega, fun _ => rfl⟩, hc.out, hq.out⟩
            case rest =>
              obtain ⟨⟨tt, rfl, htt, htM⟩, hcc, hqc⟩ := hcut
              obtain ⟨hg1, hai1⟩ := hai.out.go htt.1 htt.2
              have hG := sgo hqc.out tt
              rw [hg1] at hG
              have HG := Lib.hid hG
              have HA1 := Lib.hid hai1
              clear hG hg1 hai1
              go_wp2_with fail
              refine HG.out.mono ?_
              rintro e w5 ⟨rfl, h5, hs5⟩
              have H5 := Lib.hid (And.intro h5 (show Cel w5 r 4 (T.map Value.bool) from (hs5 r (.inr rfl)).trans hcc.out))
              clear h5 hs5 HG
              go_wp2_with fail
              go_loopw [13, 16, 96] (fun l la i wr => ∃ (q : Nat) (D' : Ds) (T' : List Bool) (lv : Int), l = .int .i64 (D'.L.length : Int) ∧ la = .int .i64 lv ∧ i = .int .i64 (q : Int) ∧ D'.L.length + q ≤ j ∧ D'.tick = tt ∧ (lv = -1 ∨ ∃ m : Nat, m < j ∧ lv = (m : Int) ∧ Hid (∀ y ∈ D'.L, y.a ≤ tt → ltR y (g (taL L j) m) = false)) ∧ Hid (AllI L j most D' T') ∧ Hid (Cel wr r 4 (T'.map Value.bool)) ∧ Hid (QS w wr (fun k => False ∨ k = r) b D')) (fun _ _ i _ => j + 1 - (intOf i).toNat)
              case atStart => exact ⟨0, ⟨D.L, tt, D.many⟩, T, -1, rfl, rfl, rfl, by show D.L.length + 0 ≤ j; omega, rfl, .inl rfl, HA1.out, H5.out.2, H5.out.1⟩
              case round =>
                obtain ⟨q, D', T', lv, rfl, rfl, rfl, hql, htk', hlv, hai', hc', hq'⟩ := hrel
                have p5 : (q : Int) < (j : Int) + 1 := by omega
                have hT := stake hq'.out
                rcases hai'.out.take with ⟨e1, hnd⟩ | ⟨m, D2, hm, e1, hTm, hin, hdue, hai2, hl2, ht2, hle2⟩
                · rw [e1] at hT
                  have HT := Lib.hid hT
                  have HN := Lib.hid hnd
                  clear hT e1 hnd
                  go_wp2_with fail
                  refine HT.out.mono ?_
                  rintro e w6 ⟨rfl, h6, hs6⟩
                  have hc6 : Cel w6 r 4 (T'.map Value.bool) := (hs6 r (.inr rfl)).trans hc'.out
                  have H6 := Lib.hid (And.intro h6 hc6)
                  clear h6 hs6 hc6 HT
                  go_wp2_with fail
                  go_loopw [179] (fun i wr => ∃ q2 : Nat, q2 ≤ j ∧ i = .int .i64 (q2 : Int) ∧ wr = w6) (fun i _ => j - (intOf i).toNat)
                  case atStart => exact ⟨0, by omega, rfl, rfl⟩
                  case round =>
                    obtain ⟨q2, hq2, rfl, rfl⟩ := hrel
                    by_cases hlt : q2 < j
                    · have p6 : (q2 : Int) < (j : Int) := by omega
                      have htl := hai'.out.tlen
                      obtain ⟨bt, hbt⟩ : ∃ bt, T'[q2]? = some bt := ⟨_, List.getElem?_eq_getElem (by omega)⟩
                      have ct : wr.cell? ⟨r, q2, none⟩ = some (.bool bt) := H6.out.2.cell (by rw [List.getElem?_map, hbt]; rfl)
                      cases bt with
                      | true =>
                        clear hbt htl
                        go_wp2_with fail
                        go_roundw
                        case rel => exact ⟨q2 + 1, by omega, by go_num, by first | rfl | trivial⟩
                        case measure => simp [intOf]; omega
                      | false =>
                        have hx := HN.out _ ((hai'.out.tk q2 hlt).1 hbt)
                        rw [(ta_a L hlt).1, htk'] at hx
                        obtain ⟨ad, rfl, _, _⟩ := HAt.out (by have := HnL.out; omega)
                        have c0 := (ta_cells HAt.out rfl (m := q2) (by have := HnL.out; omega) H6.out.1.bel).1
                        have p7 : (q2 : Int) < (L.length : Int) := by have := HnL.out; omega
                        have HAq := Lib.hid (fun W => among_any (L.getD q2 default).a 1000 W (by omega) (by omega))
                        generalize (L.getD q2 default).a = xa at c0 HAq hx
                        generalize amongV xa 1000 = am at HAq hx
                        have p8 : ¬ ((am : Int) ≤ tt) := by omega
                        clear hbt htl hx
                        go_wp2_with fail
                        refine (HAq.out _).mono ?_
                        rintro e w7 ⟨rfl, rfl⟩
                        go_wp2_with fail
                        go_roundw
                        case rel => exact ⟨q2 + 1, by omega, by go_num, by first | rfl | trivial⟩
                        case measure => simp [intOf]; omega
                    · obtain rfl : q2 = j := by omega
                      go_wp2_with fail
                      go_roundw
                      case rel => exact ⟨k + 1, D', T', rfl, by go_num, by omega, (fun h => hai'.out.over HN.out (htk'.trans (htM (by omega)))), hai'.out, H6.out.2, H6.out.1⟩
                      case measure => simp [intOf]; omega
                · rw [e1] at hT
                  have HT := Lib.hid hT
                  have HZ := Lib.hid (And.intro hai2 (And.intro hle2 hin))
                  have htl := hai'.out.tlen
                  obtain ⟨ad, hAd, _, _⟩ := HAt.out (by have := HnL.out; omega)
                  rw [(ta_a L hm).1, htk'] at hdue
                  clear hT e1 hai2 hle2 hin
                  have p9 : (m : Int) < (j : Int) := by omega
                  have p10 : (m : Int) < (L.length : Int) := by have := HnL.out; omega
                  have HAm := Lib.hid (fun W => among_any (L.getD m default).a 1000 W (by omega) (by omega))
                  have HCm := Lib.hid (fun W (hW : Below w.heap.size w W) => ta_cells HAt.out hAd (m := m) (by have := HnL.out; omega) hW)
                  have HTM := Lib.hid hTm
                  subst hAd
                  go_wp2_with fail
                  refine HT.out.mono ?_
                  rintro e w6 ⟨rfl, h6, hs6⟩
                  have hc6 : Cel w6 r 4 (T'.map Value.bool) := (hs6 r (.inr rfl)).trans hc'.out
                  have ct : w6.cell? ⟨r, m, none⟩ = some (.bool false) := hc6.cell (by rw [List.getElem?_map, hTm]; rfl)
                  have cf : w6.frozen? ⟨r, m, none⟩ = false := hc6.free (i := m)
                  obtain ⟨c0, c1⟩ := HCm.out w6 h6.bel
                  have h7 : QS w (w6.setCell ⟨r, m, none⟩ (.bool true)) (fun k => False ∨ k = r) b D2 := h6.put (.inr rfl) Hr.out
                  have hc7 : Cel (w6.setCell ⟨r, m, none⟩ (.bool true)) r 4 ((T'.set m true).map Value.bool) := by rw [List.map_set]; exact hc6.set
                  obtain ⟨d0, d1⟩ := HCm.out _ h7.bel
                  have H7 := Lib.hid (And.intro h7 hc7)
                  clear h6 hs6 hc6 HT hTm h7 hc7
                  obtain ⟨xm, hxm⟩ : ∃ xm, L.getD m default = xm := ⟨_, rfl⟩
                  rw [hxm] at c0 c1 d0 d1 HAm hdue
                  have HXm := Lib.hid hxm
                  obtain ⟨am, ham⟩ : ∃ am, amongV xm.a 1000 = am := ⟨_, rfl⟩
                  rw [ham] at HAm hdue
                  have HAmv := Lib.hid ham
                  have p11 : ¬ (tt < (am : Int)) := by omega
                  clear hxm ham hdue htl
                  go_wp2_with fail
                  refine (HAm.out _).mono ?_
                  rintro e w7 ⟨rfl, rfl⟩
                  go_upto_region 34 with fail
                  clear c0 c1 ct cf
                  generalize w7.setCell ⟨r, m, none⟩ (.bool true) = w8 at d0 d1 H7 ⊢
                  go_cut [175] (fun t wx => t = .bool false ∧ Hid (Cel wx r 4 ((T'.set m true).map Value.bool)) ∧ Hid (QS w wx (fun k => False ∨ k = r) b D2))
                  case first =>
                    rcases hlv with rfl | ⟨m2, hm2, rfl, hl2'⟩
                    · go_quiet (fail)
                      go_wp2_with fail
                      go_meet
                      exact ⟨rfl, H7.out.2, H7.out.1.below ⟨rfl, rfl, rfl, Nat.le_refl _, fun _ _ => rfl⟩⟩
                    · obtain ⟨f0, f1⟩ := ta_cells HAt.out rfl (m := m2) (by have := HnL.out; omega) H7.out.1.bel
                      have hx := ltR_no (hl2'.out _ HZ.out.2.2 (by rw [(ta_a L hm).1, HXm.out, HAmv.out]; omega))
                      rw [(ta_a L hm).1, (ta_a L hm).2, (ta_a L hm2).1, (ta_a L hm2).2, HXm.out, HAmv.out] at hx
                      have HGn := Lib.hid (fun (z : Int) W => among_any z 1000 W (by omega) (by omega))
                      have p12 : (m2 : Int) < (L.length : Int) := by have := HnL.out; omega
                      have p13 : (0 : Int) ≤ (m2 : Int) := by omega
                      generalize L.getD m2 default = xm2 at f0 f1 hx
                      have q0 : decide (xm2.u < xm.u) = false := decide_eq_false hx.1
                      obtain ⟨ya, yu⟩ := xm2
                      simp only at f0 f1 hx q0
                      by_cases hu : xm.u = yu
                      · have HQ2 : Hid (¬ amongV xm.a 1000 < amongV ya 1000) := Lib.hid (by have := hx.2 hu; have := HAmv.out; omega)
                        rw [hu] at d1
                        clear hx q0 hu
                        go_quiet ((go_at_call 9; exact Calls.quiet_of_same (HGn.out _ _)))
                        go_wp2_with fail
                        go_meet
                        exact ⟨by rw [decide_eq_false HQ2.out], H7.out.2, H7.out.1.below ⟨rfl, rfl, rfl, Nat.le_refl _, fun _ _ => rfl⟩⟩
                      · have q1 : (xm.u == yu) = false := by rw [beq_eq_false_iff_ne]; exact hu
                        clear hx hu
                        go_quiet (fail)
                        go_wp2_with fail
                        go_meet
                        exact ⟨rfl, H7.out.2, H7.out.1.below ⟨rfl, rfl, rfl, Nat.le_refl _, fun _ _ => rfl⟩⟩
                  case rest =>
                    obtain ⟨rfl, hc8, hq8⟩ := hcut
                    go_wp2_with fail
                    go_roundw
                    case rel => exact ⟨q + 1, D2, T'.set m true, (m : Int), by go_num, rfl, by go_num, by omega, ht2.trans htk', .inr ⟨m, hm, rfl, fun y hy hd => (HZ.out.2.1 y hy).2 (by omega)⟩, HZ.out.1, hc8.out, hq8.out⟩
                    case measure => simp [intOf]; omega
        · obtain rfl : k = M + 1 := by omega
          have hD := hend.out rfl
          have HL := Lib.hid (slen hq.out)
          have p1 : ¬ (((M + 1 : Nat) : Int) ≤ (s.length : Int) ∧ ((M + 1 : Nat) : Int) ≤ 40) := by omega
          rw [hD] at HL
          rw [hD]
          simp only [List.length_nil] at HL ⊢
          go_wp2_with fail
          all_goals
            first
              | (exfalso; omega)
              | (refine HL.out.mono ?_
                 rintro e w6 ⟨rfl, hb6⟩
                 have HB6 := Lib.hid (hq.out.below hb6)
                 clear hb6 HL
                 go_wp2_with fail
                 go_ret
                 exact ⟨rfl, HB6.out.bel⟩)

end Du
end Go.Proofs.Ytpjoiepdcilcnaa
