/- A queue under any calls answers, call by call, as the document has it: the walk; no condition. -/
import Derived.Test.YtpjoiepdcilcnaaDuPl
import Derived.Test.YtpjoiepdcilcnaaFloat
namespace Go.Proofs.Ytpjoiepdcilcnaa
namespace Du
open Go.RowKit Bk

attribute [local go_sem ↓] Go.wp_at_zero Go.wp_at_succ
attribute [local go_sem] floatUpon pick

/-- an act of the argument in the memory -/
theorem ac_cells {w : World} {A : Option Addr} {L : List Ac} (HA : actsAt w A L) {ad : Addr} (hA : A = some ad) {m : Nat} (hm : m < L.length) {W : World} (hW : Below w.heap.size w W) :
    W.cell? (ad.add (m * 5)) = some (.int .i64 (L.getD m default).k) ∧ W.cell? ⟨(ad.add (m * 5)).block, (ad.add (m * 5)).off + 1, none⟩ = some (.int .i64 (L.getD m default).a) ∧ W.cell? ⟨(ad.add (m * 5)).block, (ad.add (m * 5)).off + 2, none⟩ = some (.int .i64 (L.getD m default).u) ∧ W.cell? ⟨(ad.add (m * 5)).block, (ad.add (m * 5)).off + 3, none⟩ = some (.int .i64 (L.getD m default).i) ∧ W.cell? ⟨(ad.add (m * 5)).block, (ad.add (m * 5)).off + 4, none⟩ = some (.bool (L.getD m default).far) := by
  obtain ⟨ad', e1, _, hc⟩ := (HA.below hW) (by omega)
  rw [hA] at e1
  obtain rfl := Option.some.inj e1
  obtain ⟨x0, x1, x2, x3, x4⟩ := hc m hm
  rw [add_field _ _ _ (by omega), add_field _ _ _ (by omega), add_field _ _ _ (by omega), add_field _ _ _ (by omega)]
  have e2 : L.getD m default = L[m] := by rw [List.getD_eq_getElem?_getD, List.getElem?_eq_getElem hm]; rfl
  rw [e2]
  exact ⟨x0, x1, x2, x3, x4⟩

theorem take_many (D : Ds) : (takeD D).1.many = D.many := by
  unfold takeD
  split <;> rfl
theorem drop_many (D : Ds) (n : Int) : (dropD D n).1.many = D.many := by
  unfold dropD
  split <;> rfl
theorem go_many (D : Ds) (t : Int) : (goD D t).1.many = D.many := by
  unfold goD
  split <;> rfl
theorem put_many (D : Ds) (a u i : Int) : (putD D a u i).1.many ≤ D.many + 1 := by
  unfold putD
  split
  · show D.many ≤ D.many + 1; omega
  · split
    · show D.many ≤ D.many + 1; omega
    · show D.many + 1 ≤ D.many + 1; omega

theorem tnow {w0 W : World} {S : Nat → Prop} {b r : Nat} {D E : Ds} (h : T2 w0 W S b r D E) : Calls Try.prog 21 #[.pointer (some ⟨b, 0, none⟩)] W fun e W' => e = .returned (.int .i64 D.tick) ∧ W' = W := by
  obtain ⟨⟨F, v, h1, h2⟩, h6⟩ := h
  exact qnow_any h1
theorem tlen {w0 W : World} {S : Nat → Prop} {b r : Nat} {D E : Ds} (h : T2 w0 W S b r D E) : Calls Try.prog 22 #[.pointer (some ⟨b, 0, none⟩)] W fun e W' => e = .returned (.int .i64 (D.L.length : Int)) ∧ Below W.heap.size W W' := by
  obtain ⟨⟨F, v, h1, h2⟩, h6⟩ := h
  exact qlen_any h1

set_option maxRecDepth 20000 in
set_option maxHeartbeats 8000000 in
theorem plays_any (v : Value) (L : List Ac) (w : World) (hv : actsOf w v L) : Calls Try.prog 3 #[v] w fun e w' => e = .returned (.bool true) ∧ Below w.heap.size w w' := by
  obtain ⟨A, c, rfl, hA, hL16, _⟩ := hv
  have hL63 : (L.length : Int) ≤ 9223372036854775806 := by unfold reachBytes at hL16; omega
  have HAt := Lib.hid hA
  clear hA hL16
  go_enter Try.func3, Try.ntmps3
  go_wp2_with fail
  refine (snew (Below.refl w.heap.size w)).mono ?_
  rintro e w1 ⟨b, rfl, h1⟩
  have hr : Cel (w1.alloc (.cells #[.slice none 0 0, .int .i64 0, .int .i64 0] 28)) w1.heap.size 28 [.slice none 0 0, .int .i64 0, .int .i64 0] := (blk1 w1 _).2
  have hal := (Below.refl w1.heap.size w1).alloc (Nat.le_refl _) (.cells #[.slice none 0 0, .int .i64 0, .int .i64 0] 28)
  have h2 : T2 w (w1.alloc (.cells #[.slice none 0 0, .int .i64 0, .int .i64 0] 28)) (fun _ => False) b w1.heap.size newD newD := by
    obtain ⟨⟨F, f1, _⟩, f3⟩ := h1
    exact ⟨⟨F, .slice none 0 0, f1.below hal, ⟨hr, ⟨rfl, .inl ⟨rfl, rfl⟩⟩, by simp [Value.ownBlock], f3.size, Nat.le_trans f3.size (by simp)⟩, fun hf => by have := (f1.lt _ hf).1; omega, fun p hp => by simp [Value.ownBlock] at hp, fun k hk => hk.elim⟩, f3.trans (hal.mono f3.size)⟩
  have H2 := Lib.hid h2
  have HW := Lib.hid (works_any (w1.alloc (.cells #[.slice none 0 0, .int .i64 0, .int .i64 0] 28)))
  clear h1 hr hal h2
  go_wp2_with fail
  refine HW.out.mono ?_
  rintro e w3 ⟨rfl, hb⟩
  have H3 := Lib.hid (H2.out.below hb)
  generalize w1.heap.size = r at H3 ⊢
  clear hb HW H2
  go_wp2_with fail
  go_loopw [5] (fun i wr => ∃ (j : Nat) (D : Ds), j ≤ 200 ∧ j ≤ L.length ∧ i = .int .i64 (j : Int) ∧ D.many ≤ (j : Int) ∧ Hid (T2 w wr (fun _ => False) b r D D)) (fun i _ => 200 - (intOf i).toNat)
  case atStart => exact ⟨0, newD, by omega, by omega, rfl, by decide, H3.out⟩
  case round =>
    obtain ⟨j, D, hj, hjL, rfl, hmy, ht⟩ := hrel
    by_cases hlt : j < L.length ∧ j < 200
    · obtain ⟨ad, rfl, _, _⟩ := HAt.out (by omega)
      obtain ⟨c0, c1, c2, c3, c4⟩ := ac_cells HAt.out rfl (m := j) (by omega) ht.out.bel
      have p0 : (j : Int) < (L.length : Int) := by omega
      have p1 : (j : Int) < 200 := by omega
      generalize L.getD j default = X at c0 c1 c2 c3 c4
      have hln := ht.out.len
      go_upto_region 9 with fail
      have hx : Cel (wr.alloc (.cells #[.int .i64 X.k, .int .i64 X.a, .int .i64 X.u, .int .i64 X.i, .bool X.far] 31)) wr.heap.size 31 [.int .i64 X.k, .int .i64 X.a, .int .i64 X.u, .int .i64 X.i, .bool X.far] := (blk1 wr _).2
      have h4 := ht.out.beside (o := .cells #[.int .i64 X.k, .int .i64 X.a, .int .i64 X.u, .int .i64 X.i, .bool X.far] 31) rfl
      generalize wr.alloc (.cells #[.int .i64 X.k, .int .i64 X.a, .int .i64 X.u, .int .i64 X.i, .bool X.far] 31) = w4 at hx h4 ⊢
      generalize wr.heap.size = xb at hx h4 ⊢
      have H4 := Lib.hid (And.intro h4 hx)
      have x0 := hx.cell (i := 0) rfl
      have HAk := Lib.hid (fun W => among_any X.k 4 W (by omega) (by omega))
      have hk4 := amongV_lt X.k 4 (by omega)
      generalize amongV X.k 4 = kd at HAk hk4
      clear c0 c1 c2 c3 c4 h4 hx
      go_wp2_with fail
      refine (HAk.out _).mono ?_
      rintro e w5 ⟨rfl, rfl⟩
      rcases (show kd = 0 ∨ kd = 1 ∨ kd = 2 ∨ kd = 3 by omega) with rfl | rfl | rfl | rfl
      · -- Put
        have hmT := put_many D (atV X D.tick) X.u X.i
        have hmT2 : (putD D (atV X D.tick) X.u X.i).1.many ≤ (j : Int) + 1 := by omega
        have hmD : D.many ≤ 4611686018427387904 := by omega
        have HMT := Lib.hid hmT2
        clear hmT hmT2
        have HA4 := Lib.hid (fun (V : World) => at_any X D.tick hln.2.2 V)
        generalize atV X D.tick = tt at HA4 HMT
        go_upto_region 14 with fail
        go_cut [7, 8] (fun n e wx => n = .int .i64 (putD D tt X.u X.i).2.1 ∧ e = .int .i64 (putD D tt X.u X.i).2.2 ∧ Hid (T2 w wx (fun k => False ∨ k = xb) b r (putD D tt X.u X.i).1 D) ∧ Hid (Cel wx xb 31 [.int .i64 X.k, .int .i64 X.a, .int .i64 X.u, .int .i64 X.i, .bool X.far]))
        case first =>
          have c0 := H4.out.2.cell (i := 0) rfl
          have c1 := H4.out.2.cell (i := 1) rfl
          have c2 := H4.out.2.cell (i := 2) rfl
          have c3 := H4.out.2.cell (i := 3) rfl
          have c4 := H4.out.2.cell (i := 4) rfl
          have tk := H4.out.1.tick
          go_region_held3 (fun w' => w'.cell? ⟨xb, 0, none⟩ = some (.int .i64 X.k) ∧ w'.cell? ⟨xb, 1, none⟩ = some (.int .i64 X.a) ∧ w'.cell? ⟨xb, 2, none⟩ = some (.int .i64 X.u) ∧ w'.cell? ⟨xb, 3, none⟩ = some (.int .i64 X.i) ∧ w'.cell? ⟨xb, 4, none⟩ = some (.bool X.far) ∧ w'.cell? ⟨r, 1, none⟩ = some (.int .i64 D.tick))
            (first | (refine ⟨?_, ?_, ?_, ?_, ?_, ?_⟩ <;> assumption) | go_keep)
            (first
            | (go_at_call 10
               refine HP.out.mono ?_
               rintro e w6 ⟨rfl, h6, hk⟩
               have K6 := (hk xb (Or.inr rfl)).trans HB5.out
               have e0 := (show Cel w6 xb _ _ from K6).cell (i := 0) rfl
               have e1 := (show Cel w6 xb _ _ from K6).cell (i := 1) rfl
               have e2 := (show Cel w6 xb _ _ from K6).cell (i := 2) rfl
               have e3 := (show Cel w6 xb _ _ from K6).cell (i := 3) rfl
               have e4 := (show Cel w6 xb _ _ from K6).cell (i := 4) rfl
               have et := h6.tick
               have H6 := Lib.hid (And.intro h6 K6)
               clear h6 hk K6)
            | (go_at_call 11
               refine (HA4.out _).mono ?_
               rintro e w8 ⟨rfl, hb5⟩
               have hb5' : Below w5.heap.size w5 w8 := (by first | exact hb5 | exact (Below.refl _ _).drew.trans hb5)
               have K5 := (hb5'.block xb H4.out.2.lt).trans H4.out.2
               have HB5 := Lib.hid K5
               have HP := Lib.hid (tput (H4.out.1.below (W' := w8) hb5') tt X.u X.i hmD)
               have d0 := (show Cel w8 xb _ _ from K5).cell (i := 0) rfl
               have d1 := (show Cel w8 xb _ _ from K5).cell (i := 1) rfl
               have d2 := (show Cel w8 xb _ _ from K5).cell (i := 2) rfl
               have d3 := (show Cel w8 xb _ _ from K5).cell (i := 3) rfl
               have d4 := (show Cel w8 xb _ _ from K5).cell (i := 4) rfl
               have dt := (H4.out.1.below (W' := w8) hb5').tick
               clear hb5 hb5' K5))
          all_goals
            go_wp2_with fail
            go_meet
            exact ⟨rfl, rfl, H6.out.1, H6.out.2⟩
        case rest =>
          obtain ⟨rfl, rfl, hT6, hC6⟩ := hcut
          have H6 := Lib.hid (And.intro hT6.out hC6.out)
          clear hT6 hC6
          go_upto_region 15 with fail
          go_cut [9, 10] (fun n e wx => n = .int .i64 (putD D tt X.u X.i).2.1 ∧ e = .int .i64 (putD D tt X.u X.i).2.2 ∧ Hid (T2 w wx (fun k => False ∨ k = xb) b r (putD D tt X.u X.i).1 (putD D tt X.u X.i).1))
          case first =>
            have c0 := H6.out.2.cell (i := 0) rfl
            have c1 := H6.out.2.cell (i := 1) rfl
            have c2 := H6.out.2.cell (i := 2) rfl
            have c3 := H6.out.2.cell (i := 3) rfl
            have c4 := H6.out.2.cell (i := 4) rfl
            have tk := H6.out.1.tick
            go_region_held3 (fun w' => w'.cell? ⟨xb, 0, none⟩ = some (.int .i64 X.k) ∧ w'.cell? ⟨xb, 1, none⟩ = some (.int .i64 X.a) ∧ w'.cell? ⟨xb, 2, none⟩ = some (.int .i64 X.u) ∧ w'.cell? ⟨xb, 3, none⟩ = some (.int .i64 X.i) ∧ w'.cell? ⟨xb, 4, none⟩ = some (.bool X.far) ∧ w'.cell? ⟨r, 1, none⟩ = some (.int .i64 D.tick))
              (first | (refine ⟨?_, ?_, ?_, ?_, ?_, ?_⟩ <;> assumption) | go_keep)
              (first
              | (go_at_call 12
                 refine HP.out.mono ?_
                 rintro e w9 ⟨rfl, h7, hk⟩
                 have K6 := (hk xb (Or.inr rfl)).trans HB5.out
                 have e0 := (show Cel w9 xb _ _ from K6).cell (i := 0) rfl
                 have e1 := (show Cel w9 xb _ _ from K6).cell (i := 1) rfl
                 have e2 := (show Cel w9 xb _ _ from K6).cell (i := 2) rfl
                 have e3 := (show Cel w9 xb _ _ from K6).cell (i := 3) rfl
                 have e4 := (show Cel w9 xb _ _ from K6).cell (i := 4) rfl
                 have et := h7.tick
                 rw [show (putD D tt X.u X.i).1.tick = D.tick from by unfold putD; split <;> (try split) <;> rfl] at et
                 have H7 := Lib.hid h7
                 clear h7 hk K6)
              | (go_at_call 11
                 refine (HA4.out _).mono ?_
                 rintro e w8 ⟨rfl, hb5⟩
                 have hb5' : Below wc.heap.size wc w8 := (by first | exact hb5 | exact (Below.refl _ _).drew.trans hb5)
                 have K5 := (hb5'.block xb H6.out.2.lt).trans H6.out.2
                 have HB5 := Lib.hid K5
                 have HP := Lib.hid (uput (H6.out.1.below (W' := w8) hb5') tt X.u X.i hln.2.1 hmD hln.1)
                 have d0 := (show Cel w8 xb _ _ from K5).cell (i := 0) rfl
                 have d1 := (show Cel w8 xb _ _ from K5).cell (i := 1) rfl
                 have d2 := (show Cel w8 xb _ _ from K5).cell (i := 2) rfl
                 have d3 := (show Cel w8 xb _ _ from K5).cell (i := 3) rfl
                 have d4 := (show Cel w8 xb _ _ from K5).cell (i := 4) rfl
                 have dt := (H6.out.1.below (W' := w8) hb5').tick
                 clear hb5 hb5' K5))
            all_goals
              go_wp2_with fail
              go_meet
              exact ⟨rfl, rfl, H7.out⟩
          case rest =>
            obtain ⟨rfl, rfl, H7⟩ := hcut
            go_wp2_with fail
            have hln9 := H7.out.len
            have HN9 := Lib.hid (tnext H7.out)
            go_wp2_with fail
            refine HN9.out.mono ?_
            rintro e w9 ⟨rfl, hb9⟩
            have H9 := Lib.hid (H7.out.below hb9)
            have HM9 := Lib.hid (unext H9.out hln9.1)
            clear hb9 HN9
            go_wp2_with fail
            refine HM9.out.mono ?_
            rintro e w10 ⟨rfl, rfl⟩
            clear HM9
            generalize (nextD (putD D tt X.u X.i).1).1 = N1
            generalize (nextD (putD D tt X.u X.i).1).2 = N2
            obtain ⟨A9, c9, hl9⟩ := H9.out.list
            have HW9 := Lib.hid hl9
            clear hl9
            go_upto_region 28 with fail
            refine wp_region_said 27 [140, 141, 142, 143, 144, 145, 146, 147, 148, 149, 150, 151, 152, 153, 154, 155, 156, 157, 158, 159, 160, 161, 162, 163, 164, 165, 166]
              [.is (.int .i64 (N1)), .is (.int .i64 (N1)), .is (.bool false), .is (.bool false), .is (.bool N2), .is (.bool N2), .is (.bool false), .is (.bool false), .is (.bool false), .is (.pointer (some ⟨b, 0, none⟩)), .is (.int .i64 ((putD D tt X.u X.i).1.tick)), .is (.pointer (some ⟨r, 0, none⟩)), .is (.pointer (some ⟨r, 0, none⟩)), .is (.pointer (some ⟨r, 1, none⟩)), .is (.int .i64 ((putD D tt X.u X.i).1.tick)), .is (.bool false), .is (.bool false), .is (.bool false), .is (.pointer (some ⟨b, 0, none⟩)), .is (.int .i64 ((putD D tt X.u X.i).1.L.length)), .is (.pointer (some ⟨r, 0, none⟩)), .is (.pointer (some ⟨r, 0, none⟩)), .is (.pointer (some ⟨r, 0, none⟩)), .is (.slice A9 (putD D tt X.u X.i).1.L.length c9), .is (.int .i64 ((putD D tt X.u X.i).1.L.length)), .is (.bool false), .is (.bool false)]
              (fun V => Below w10.heap.size w10 V) (by kernel_rfl) (by kernel_rfl) (by kernel_rfl) (by kernel_rfl) (by kernel_rfl) (fun W W' h hb => h.trans (hb.mono h.size)) (Below.refl _ _) ?steps ?last
            case steps =>
              simp only [List.take_succ_cons, List.take_zero]
              refine ⟨?_, ?_, ?_, ?_, ?_, ?_, ?_, ?_, ?_, ?_, ?_, ?_, ?_, ?_, ?_, ?_, ?_, ?_, ?_, ?_, ?_, ?_, ?_, ?_, ?_, ?_, ?_, trivial⟩
              all_goals
                intro vs V ρ hρ hc hf hg hI hH hd R' hR
                have k1 := (H9.out.below hI).tick
                have k0 := (cell_kept hI ⟨r, 0, none⟩ (World.block_lt_of_cell? w10 _ HW9.out)).trans HW9.out
                have HNw := Lib.hid (tnow (H9.out.below hI))
                have HLn := Lib.hid (tlen (H9.out.below hI))
                have HR := Lib.hid hR
                simp [depsOf, Region.binds, sayAt, Say.holds] at hd
                clear hR hI
                try simp only [Region.wanted, hd, boolOf]
                go_simp
                first
                  | exact HR.out _ _ (by simp [sayAt, Say.holds]) (Below.refl _ _) (by simp [sayAt, Say.isBlk])
                  | (go_at_call 21
                     refine HNw.out.mono ?_
                     rintro e W' ⟨rfl, rfl⟩
                     exact ⟨_, rfl, HR.out _ _ (by simp [sayAt, Say.holds]) (Below.refl _ _) (by simp [sayAt, Say.isBlk])⟩)
                  | (refine HNw.out.mono ?_
                     rintro e W' ⟨rfl, rfl⟩
                     exact ⟨_, rfl, HR.out _ _ (by simp [sayAt, Say.holds]) (Below.refl _ _) (by simp [sayAt, Say.isBlk])⟩)
                  | (refine HLn.out.mono ?_
                     rintro e W' ⟨rfl, hb⟩
                     exact ⟨_, rfl, HR.out _ _ (by simp [sayAt, Say.holds]) hb (by simp [sayAt, Say.isBlk])⟩)
                  | trace_state
            case last =>
              intro vs V hI hb hg hd
              have g26 := hg 26 (by omega)
              simp only [sayAt, Say.holds, List.getD_cons_succ, List.getD_cons_zero] at g26
              simp only [List.take_succ_cons, List.take_zero, List.drop_succ_cons, List.drop_zero, putAll, Act.put, List.setIfInBounds_toArray, List.set_cons_succ, List.set_cons_zero, Nat.zero_add, Nat.reduceAdd]
              rw [g26]
              have HI := Lib.hid (H9.out.below hI)
              clear hg hd hI hb g26
              go_wp2_with fail
              go_roundw
              case rel => exact ⟨j + 1, (putD D tt X.u X.i).1, by omega, by omega, by go_num, HMT.out, HI.out.aside (fun _ h => h.elim)⟩
              case measure => simp [intOf]; omega
      · -- Take
        have hmT := take_many D
        have HT := Lib.hid (ttake H4.out.1)
        go_wp2_with fail
        refine HT.out.mono ?_
        rintro e w6 ⟨rfl, h6, _⟩
        have HU := Lib.hid (utake h6 (by omega))
        clear h6 HT
        go_wp2_with fail
        refine HU.out.mono ?_
        rintro e w7 ⟨rfl, h7, _⟩
        have H7 := Lib.hid h7
        clear h7 HU
        have hln9 := H7.out.len
        have HN9 := Lib.hid (tnext H7.out)
        go_wp2_with fail
        refine HN9.out.mono ?_
        rintro e w9 ⟨rfl, hb9⟩
        have H9 := Lib.hid (H7.out.below hb9)
        have HM9 := Lib.hid (unext H9.out hln9.1)
        clear hb9 HN9
        go_wp2_with fail
        refine HM9.out.mono ?_
        rintro e w10 ⟨rfl, rfl⟩
        clear HM9
        generalize (nextD (takeD D).1).1 = N1
        generalize (nextD (takeD D).1).2 = N2
        obtain ⟨A9, c9, hl9⟩ := H9.out.list
        have HW9 := Lib.hid hl9
        clear hl9
        go_upto_region 28 with fail
        refine wp_region_said 27 [140, 141, 142, 143, 144, 145, 146, 147, 148, 149, 150, 151, 152, 153, 154, 155, 156, 157, 158, 159, 160, 161, 162, 163, 164, 165, 166]
          [.is (.int .i64 (N1)), .is (.int .i64 (N1)), .is (.bool false), .is (.bool false), .is (.bool N2), .is (.bool N2), .is (.bool false), .is (.bool false), .is (.bool false), .is (.pointer (some ⟨b, 0, none⟩)), .is (.int .i64 ((takeD D).1.tick)), .is (.pointer (some ⟨r, 0, none⟩)), .is (.pointer (some ⟨r, 0, none⟩)), .is (.pointer (some ⟨r, 1, none⟩)), .is (.int .i64 ((takeD D).1.tick)), .is (.bool false), .is (.bool false), .is (.bool false), .is (.pointer (some ⟨b, 0, none⟩)), .is (.int .i64 ((takeD D).1.L.length)), .is (.pointer (some ⟨r, 0, none⟩)), .is (.pointer (some ⟨r, 0, none⟩)), .is (.pointer (some ⟨r, 0, none⟩)), .is (.slice A9 (takeD D).1.L.length c9), .is (.int .i64 ((takeD D).1.L.length)), .is (.bool false), .is (.bool false)]
          (fun V => Below w10.heap.size w10 V) (by kernel_rfl) (by kernel_rfl) (by kernel_rfl) (by kernel_rfl) (by kernel_rfl) (fun W W' h hb => h.trans (hb.mono h.size)) (Below.refl _ _) ?steps ?last
        case steps =>
          simp only [List.take_succ_cons, List.take_zero]
          refine ⟨?_, ?_, ?_, ?_, ?_, ?_, ?_, ?_, ?_, ?_, ?_, ?_, ?_, ?_, ?_, ?_, ?_, ?_, ?_, ?_, ?_, ?_, ?_, ?_, ?_, ?_, ?_, trivial⟩
          all_goals
            intro vs V ρ hρ hc hf hg hI hH hd R' hR
            have k1 := (H9.out.below hI).tick
            have k0 := (cell_kept hI ⟨r, 0, none⟩ (World.block_lt_of_cell? w10 _ HW9.out)).trans HW9.out
            have HNw := Lib.hid (tnow (H9.out.below hI))
            have HLn := Lib.hid (tlen (H9.out.below hI))
            have HR := Lib.hid hR
            simp [depsOf, Region.binds, sayAt, Say.holds] at hd
            clear hR hI
            try simp only [Region.wanted, hd, boolOf]
            go_simp
            first
              | exact HR.out _ _ (by simp [sayAt, Say.holds]) (Below.refl _ _) (by simp [sayAt, Say.isBlk])
              | (go_at_call 21
                 refine HNw.out.mono ?_
                 rintro e W' ⟨rfl, rfl⟩
                 exact ⟨_, rfl, HR.out _ _ (by simp [sayAt, Say.holds]) (Below.refl _ _) (by simp [sayAt, Say.isBlk])⟩)
              | (refine HNw.out.mono ?_
                 rintro e W' ⟨rfl, rfl⟩
                 exact ⟨_, rfl, HR.out _ _ (by simp [sayAt, Say.holds]) (Below.refl _ _) (by simp [sayAt, Say.isBlk])⟩)
              | (refine HLn.out.mono ?_
                 rintro e W' ⟨rfl, hb⟩
                 exact ⟨_, rfl, HR.out _ _ (by simp [sayAt, Say.holds]) hb (by simp [sayAt, Say.isBlk])⟩)
              | trace_state
        case last =>
          intro vs V hI hb hg hd
          have g26 := hg 26 (by omega)
          simp only [sayAt, Say.holds, List.getD_cons_succ, List.getD_cons_zero] at g26
          simp only [List.take_succ_cons, List.take_zero, List.drop_succ_cons, List.drop_zero, putAll, Act.put, List.setIfInBounds_toArray, List.set_cons_succ, List.set_cons_zero, Nat.zero_add, Nat.reduceAdd]
          rw [g26]
          have HI := Lib.hid (H9.out.below hI)
          clear hg hd hI hb g26
          go_wp2_with fail
          go_roundw
          case rel => exact ⟨j + 1, (takeD D).1, by omega, by omega, by go_num, by rw [hmT]; omega, HI.out.aside (fun _ h => h.elim)⟩
          case measure => simp [intOf]; omega
      · -- Drop
        have hmT := drop_many D X.i
        have xi := H4.out.2.cell (i := 3) rfl
        have HD := Lib.hid (fun n => tdrop (H4.out.1.below (W' := w5.drewN n) ⟨rfl, rfl, rfl, Nat.le_refl _, fun _ _ => rfl⟩) X.i)
        go_upto_region 24 with fail
        go_region_with (first
          | (refine (HD.out 1).mono ?_
             rintro e w6 ⟨rfl, h6, hk⟩
             have K6 := (hk xb (Or.inr rfl)).trans H4.out.2
             have xi6 := (show Cel w6 xb _ _ from K6).cell (i := 3) rfl
             have HU := Lib.hid (udrop h6 X.i (by omega))
             clear h6 hk K6)
          | (refine HU.out.mono ?_
             rintro e w7 ⟨rfl, h7, _⟩
             have H7 := Lib.hid h7
             clear h7))
        all_goals
          have hln9 := H7.out.len
          have HN9 := Lib.hid (tnext H7.out)
          go_wp2_with fail
          refine HN9.out.mono ?_
          rintro e w9 ⟨rfl, hb9⟩
          have H9 := Lib.hid (H7.out.below hb9)
          have HM9 := Lib.hid (unext H9.out hln9.1)
          clear hb9 HN9
          go_wp2_with fail
          refine HM9.out.mono ?_
          rintro e w10 ⟨rfl, rfl⟩
          clear HM9
          generalize (nextD (dropD D X.i).1).1 = N1
          generalize (nextD (dropD D X.i).1).2 = N2
          obtain ⟨A9, c9, hl9⟩ := H9.out.list
          have HW9 := Lib.hid hl9
          clear hl9
          go_upto_region 28 with fail
          refine wp_region_said 27 [140, 141, 142, 143, 144, 145, 146, 147, 148, 149, 150, 151, 152, 153, 154, 155, 156, 157, 158, 159, 160, 161, 162, 163, 164, 165, 166]
            [.is (.int .i64 (N1)), .is (.int .i64 (N1)), .is (.bool false), .is (.bool false), .is (.bool N2), .is (.bool N2), .is (.bool false), .is (.bool false), .is (.bool false), .is (.pointer (some ⟨b, 0, none⟩)), .is (.int .i64 ((dropD D X.i).1.tick)), .is (.pointer (some ⟨r, 0, none⟩)), .is (.pointer (some ⟨r, 0, none⟩)), .is (.pointer (some ⟨r, 1, none⟩)), .is (.int .i64 ((dropD D X.i).1.tick)), .is (.bool false), .is (.bool false), .is (.bool false), .is (.pointer (some ⟨b, 0, none⟩)), .is (.int .i64 ((dropD D X.i).1.L.length)), .is (.pointer (some ⟨r, 0, none⟩)), .is (.pointer (some ⟨r, 0, none⟩)), .is (.pointer (some ⟨r, 0, none⟩)), .is (.slice A9 (dropD D X.i).1.L.length c9), .is (.int .i64 ((dropD D X.i).1.L.length)), .is (.bool false), .is (.bool false)]
            (fun V => Below w10.heap.size w10 V) (by kernel_rfl) (by kernel_rfl) (by kernel_rfl) (by kernel_rfl) (by kernel_rfl) (fun W W' h hb => h.trans (hb.mono h.size)) (Below.refl _ _) ?steps ?last
          case steps =>
            simp only [List.take_succ_cons, List.take_zero]
            refine ⟨?_, ?_, ?_, ?_, ?_, ?_, ?_, ?_, ?_, ?_, ?_, ?_, ?_, ?_, ?_, ?_, ?_, ?_, ?_, ?_, ?_, ?_, ?_, ?_, ?_, ?_, ?_, trivial⟩
            all_goals
              intro vs V ρ hρ hc hf hg hI hH hd R' hR
              have k1 := (H9.out.below hI).tick
              have k0 := (cell_kept hI ⟨r, 0, none⟩ (World.block_lt_of_cell? w10 _ HW9.out)).trans HW9.out
              have HNw := Lib.hid (tnow (H9.out.below hI))
              have HLn := Lib.hid (tlen (H9.out.below hI))
              have HR := Lib.hid hR
              simp [depsOf, Region.binds, sayAt, Say.holds] at hd
              clear hR hI
              try simp only [Region.wanted, hd, boolOf]
              go_simp
              first
                | exact HR.out _ _ (by simp [sayAt, Say.holds]) (Below.refl _ _) (by simp [sayAt, Say.isBlk])
                | (go_at_call 21
                   refine HNw.out.mono ?_
                   rintro e W' ⟨rfl, rfl⟩
                   exact ⟨_, rfl, HR.out _ _ (by simp [sayAt, Say.holds]) (Below.refl _ _) (by simp [sayAt, Say.isBlk])⟩)
                | (refine HNw.out.mono ?_
                   rintro e W' ⟨rfl, rfl⟩
                   exact ⟨_, rfl, HR.out _ _ (by simp [sayAt, Say.holds]) (Below.refl _ _) (by simp [sayAt, Say.isBlk])⟩)
                | (refine HLn.out.mono ?_
                   rintro e W' ⟨rfl, hb⟩
                   exact ⟨_, rfl, HR.out _ _ (by simp [sayAt, Say.holds]) hb (by simp [sayAt, Say.isBlk])⟩)
                | trace_state
          case last =>
            intro vs V hI hb hg hd
            have g26 := hg 26 (by omega)
            simp only [sayAt, Say.holds, List.getD_cons_succ, List.getD_cons_zero] at g26
            simp only [List.take_succ_cons, List.take_zero, List.drop_succ_cons, List.drop_zero, putAll, Act.put, List.setIfInBounds_toArray, List.set_cons_succ, List.set_cons_zero, Nat.zero_add, Nat.reduceAdd]
            rw [g26]
            have HI := Lib.hid (H9.out.below hI)
            clear hg hd hI hb g26
            go_wp2_with fail
            go_roundw
            case rel => exact ⟨j + 1, (dropD D X.i).1, by omega, by omega, by go_num, by rw [hmT]; omega, HI.out.aside (fun _ h => h.elim)⟩
            case measure => simp [intOf]; omega
      · -- Go
        have HA4 := Lib.hid (fun n => at_any X D.tick hln.2.2 (w5.drewN n))
        have c0 := H4.out.2.cell (i := 0) rfl
        have c1 := H4.out.2.cell (i := 1) rfl
        have c2 := H4.out.2.cell (i := 2) rfl
        have c3 := H4.out.2.cell (i := 3) rfl
        have c4 := H4.out.2.cell (i := 4) rfl
        have tk := H4.out.1.tick
        go_upto_region 10 with fail
        go_region_with (
            refine (HA4.out 1).mono ?_
            rintro e w8 ⟨rfl, hb5⟩
            have H5 := Lib.hid (H4.out.1.below (W' := w8) ((show Below w5.heap.size w5 (w5.drewN 1) from ⟨rfl, rfl, rfl, Nat.le_refl _, fun _ _ => rfl⟩).trans hb5))
            clear hb5)
        all_goals
          clear c0 c1 c2 c3 c4 tk
          generalize atV X D.tick = tt
          have hmT := go_many D tt
          have HG := Lib.hid (tgo H5.out tt)
          go_wp2_with fail
          refine HG.out.mono ?_
          rintro e w6 ⟨rfl, h6, _⟩
          have HU := Lib.hid (ugo h6 tt)
          clear h6 HG
          go_wp2_with fail
          refine HU.out.mono ?_
          rintro e w7 ⟨rfl, h7, _⟩
          have H7 := Lib.hid h7
          clear h7 HU
          have hln9 := H7.out.len
          have HN9 := Lib.hid (tnext H7.out)
          go_wp2_with fail
          refine HN9.out.mono ?_
          rintro e w9 ⟨rfl, hb9⟩
          have H9 := Lib.hid (H7.out.below hb9)
          have HM9 := Lib.hid (unext H9.out hln9.1)
          clear hb9 HN9
          go_wp2_with fail
          refine HM9.out.mono ?_
          rintro e w10 ⟨rfl, rfl⟩
          clear HM9
          generalize (nextD (goD D tt).1).1 = N1
          generalize (nextD (goD D tt).1).2 = N2
          obtain ⟨A9, c9, hl9⟩ := H9.out.list
          have HW9 := Lib.hid hl9
          clear hl9
          go_upto_region 28 with fail
          refine wp_region_said 27 [140, 141, 142, 143, 144, 145, 146, 147, 148, 149, 150, 151, 152, 153, 154, 155, 156, 157, 158, 159, 160, 161, 162, 163, 164, 165, 166]
            [.is (.int .i64 (N1)), .is (.int .i64 (N1)), .is (.bool false), .is (.bool false), .is (.bool N2), .is (.bool N2), .is (.bool false), .is (.bool false), .is (.bool false), .is (.pointer (some ⟨b, 0, none⟩)), .is (.int .i64 ((goD D tt).1.tick)), .is (.pointer (some ⟨r, 0, none⟩)), .is (.pointer (some ⟨r, 0, none⟩)), .is (.pointer (some ⟨r, 1, none⟩)), .is (.int .i64 ((goD D tt).1.tick)), .is (.bool false), .is (.bool false), .is (.bool false), .is (.pointer (some ⟨b, 0, none⟩)), .is (.int .i64 ((goD D tt).1.L.length)), .is (.pointer (some ⟨r, 0, none⟩)), .is (.pointer (some ⟨r, 0, none⟩)), .is (.pointer (some ⟨r, 0, none⟩)), .is (.slice A9 (goD D tt).1.L.length c9), .is (.int .i64 ((goD D tt).1.L.length)), .is (.bool false), .is (.bool false)]
            (fun V => Below w10.heap.size w10 V) (by kernel_rfl) (by kernel_rfl) (by kernel_rfl) (by kernel_rfl) (by kernel_rfl) (fun W W' h hb => h.trans (hb.mono h.size)) (Below.refl _ _) ?steps ?last
          case steps =>
            simp only [List.take_succ_cons, List.take_zero]
            refine ⟨?_, ?_, ?_, ?_, ?_, ?_, ?_, ?_, ?_, ?_, ?_, ?_, ?_, ?_, ?_, ?_, ?_, ?_, ?_, ?_, ?_, ?_, ?_, ?_, ?_, ?_, ?_, trivial⟩
            all_goals
              intro vs V ρ hρ hc hf hg hI hH hd R' hR
              have k1 := (H9.out.below hI).tick
              have k0 := (cell_kept hI ⟨r, 0, none⟩ (World.block_lt_of_cell? w10 _ HW9.out)).trans HW9.out
              have HNw := Lib.hid (tnow (H9.out.below hI))
              have HLn := Lib.hid (tlen (H9.out.below hI))
              have HR := Lib.hid hR
              simp [depsOf, Region.binds, sayAt, Say.holds] at hd
              clear hR hI
              try simp only [Region.wanted, hd, boolOf]
              go_simp
              first
                | exact HR.out _ _ (by simp [sayAt, Say.holds]) (Below.refl _ _) (by simp [sayAt, Say.isBlk])
                | (go_at_call 21
                   refine HNw.out.mono ?_
                   rintro e W' ⟨rfl, rfl⟩
                   exact ⟨_, rfl, HR.out _ _ (by simp [sayAt, Say.holds]) (Below.refl _ _) (by simp [sayAt, Say.isBlk])⟩)
                | (refine HNw.out.mono ?_
                   rintro e W' ⟨rfl, rfl⟩
                   exact ⟨_, rfl, HR.out _ _ (by simp [sayAt, Say.holds]) (Below.refl _ _) (by simp [sayAt, Say.isBlk])⟩)
                | (refine HLn.out.mono ?_
                   rintro e W' ⟨rfl, hb⟩
                   exact ⟨_, rfl, HR.out _ _ (by simp [sayAt, Say.holds]) hb (by simp [sayAt, Say.isBlk])⟩)
                | trace_state
          case last =>
            intro vs V hI hb hg hd
            have g26 := hg 26 (by omega)
            simp only [sayAt, Say.holds, List.getD_cons_succ, List.getD_cons_zero] at g26
            simp only [List.take_succ_cons, List.take_zero, List.drop_succ_cons, List.drop_zero, putAll, Act.put, List.setIfInBounds_toArray, List.set_cons_succ, List.set_cons_zero, Nat.zero_add, Nat.reduceAdd]
            rw [g26]
            have HI := Lib.hid (H9.out.below hI)
            clear hg hd hI hb g26
            go_wp2_with fail
            go_roundw
            case rel => exact ⟨j + 1, (goD D tt).1, by omega, by omega, by go_num, by rw [hmT]; omega, HI.out.aside (fun _ h => h.elim)⟩
            case measure => simp [intOf]; omega
    · by_cases h1 : j < L.length
      · have p0 : (j : Int) < (L.length : Int) := by omega
        have p1 : (200 : Int) ≤ (j : Int) := by omega
        go_wp2_with fail
        go_ret
        exact ⟨rfl, ht.out.bel⟩
      · have p0 : (L.length : Int) ≤ (j : Int) := by omega
        go_wp2_with fail
        go_ret
        exact ⟨rfl, ht.out.bel⟩

end Du
end Go.Proofs.Ytpjoiepdcilcnaa
