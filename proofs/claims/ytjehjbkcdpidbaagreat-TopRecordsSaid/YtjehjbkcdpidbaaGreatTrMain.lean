/- Records last: the whole law; over what is asked of the log and of record; no condition but the range. -/
import Derived.Test.YtjehjbkcdpidbaaGreatTrWalk
namespace Go.Proofs.YtjehjbkcdpidbaaGreat
namespace Tr
open Go.RowKit Bk Lt Rc Su Sc Rd

attribute [local go_sem ↓] Go.wp_at_zero Go.wp_at_succ
attribute [local go_sem] floatUpon pick

variable {Rep : RepT} {LRep : LRepT}

set_option maxRecDepth 20000 in
set_option maxHeartbeats 8000000 in
theorem records_walk (HB : DevBase Rep) (HL : LogAll Rep LRep) (HE : EncodeAll) (HD : DecodeAll) (v : Value) (L : List RI) (v1 : Value) (ps : List Int) (w : World) (hv : RecsOf w v L) (hv1 : Sc.IntsOf w v1 ps) :
    Calls Tryz.prog 4 #[v, v1] w fun e w' => e = .returned (.bool true) ∧ Below w.heap.size w w' := by
  obtain ⟨A, c, rfl, hat, hl16, hok⟩ := hv
  obtain ⟨A1, c1, rfl, hat1, hl8, hr1⟩ := hv1
  have rb : reachBytes = 140737488351232 := rfl
  have HDv := devF_of HB
  have hlen : (L.length : Int) ≤ 9223372036854775807 := by omega
  have HAt := Lib.hid hat
  have HOk := Lib.hid hok
  have HPs := Lib.hid (And.intro hat1 (And.intro hl8 hr1))
  have HE1 := Lib.hid (fun (x : RI) W (h : RecVal W x.A x.B x.c x.d x.l) => HE x.A x.B x.c x.d x.l W h)
  have HD1 := Lib.hid (fun s W (h : s.size ≤ 1000000000000000) => HD s W h)
  have HFr := Lib.hid (fun t W (h : t.size ≤ 140737488351232) => frame_any t W h)
  have HAl := Lib.hid (fun t W (h : t.size ≤ 50000000000000) => all_own t W h)
  have HSt := Lib.hid (fun W => Tm.starts_any HB HL W)
  obtain ⟨i0, z0, hI0, hz0, hz1, hz2, hz3⟩ := info_rec
  obtain ⟨i1, hI1, hy0, hy1, hy2⟩ := info_parts Tryz.infoStr
  obtain ⟨D1, ho1, i1d, c1d, k1d, n1d, in1⟩ := fresh_open (n := 100) (by omega) (by omega)
  have HO1 := Lib.hid ho1
  have HT0 : Hid (TrLog D1 ⟨1, 0, [], [], 0⟩ []) := Lib.hid ⟨i1d, c1d, k1d, n1d, in1, rfl, rfl, Nat.le_refl _⟩
  have h8 : (ps.length : Int) ≤ 9223372036854775807 := by omega
  clear hat hok hl16 rb HE HD hat1 hl8 hr1 ho1 i1d c1d k1d n1d in1
  go_enter Tryz.func4, Tryz.ntmps4
  go_wp2_with fail
  refine (HSt.out _).mono ?_
  rintro e w0 ⟨rfl, hb0⟩
  have HB0 := Lib.hid hb0
  clear hb0 HSt
  go_wp2_with fail
  refine (HB.new 100 w0 ⟨by omega, by omega⟩).mono ?_
  rintro e w1 (⟨_, _, F1, g, rfl, hr1, hF1, hb1⟩ | ⟨hno, _, _⟩)
  case inr => exact absurd ⟨by omega, by omega⟩ hno
  have O1 : Hid (OneS Rep LRep w w1 F1 g (new0 100) none) := Lib.hid ⟨hr1, fun k hk => Nat.le_trans HB0.out.size (hF1 k hk), HB0.out.trans (hb1.mono HB0.out.size)⟩
  clear hr1 hF1 hb1
  go_wp2_with fail
  refine (O1.out.s.opn HL.log).mono ?_
  rintro e w2 ⟨o', rfl, ho', F2, hs2, hf2⟩
  rw [HO1.out] at ho' hs2 ⊢
  obtain ⟨p, rfl⟩ := op_some ho'
  have O2 := Lib.hid (O1.out.act hs2 hf2)
  clear ho' hs2 hf2 O1
  unfold ptrV
  go_wp2_with fail
  go_loopw [8, 9, 10, 11] (fun kv tv sv iv wr => ∃ (j : Nat) (K : List RI) (s : ByteArray) (F : Nat → Prop) (D : Dev) (l : Lg), j ≤ L.length ∧ j ≤ 12 ∧ K.length ≤ j ∧ sv = .string s ∧ iv = .int .i64 (j : Int) ∧ Hid (s = ⟨(frK K).toArray⟩) ∧ Hid (TrEnv Rep LRep w wr F g D (some (p, l)) K tv kv) ∧ Hid (TrLog D l K) ∧ Hid (∀ x ∈ K, Good w x)) (fun _ _ _ iv _ => L.length - (intOf iv).toNat)
  case atStart => exact ⟨0, [], ⟨#[]⟩, F2, D1, _, by omega, by omega, by simp, rfl, rfl, Lib.hid rfl, Lib.hid ⟨O2.out, World.ownsRow_nil _ _ _ _, World.ownsRow_nil _ _ _ _, fun j h => by (cases h), fun j h => by (cases h)⟩, HT0, Lib.hid (fun x hx => by (cases hx))⟩
  case round =>
    obtain ⟨j, K, s, F, D, l, hj, hj2, hK, rfl, rfl, hs, hE, hT, hgood⟩ := hrel
    clear O2 HT0 HO1
    by_cases hlt : j < L.length ∧ j < 12
    · obtain ⟨hlt, hlt2⟩ := hlt
      have pj : (j : Int) < (L.length : Int) := by omega
      have pj2 : (j : Int) < 12 := by omega
      obtain ⟨ad, rfl, hab, hc⟩ := HAt.out (by omega)
      have hc2 := hc j hlt
      have hval := HOk.out _ (List.getElem_mem hlt)
      generalize L[j] = X at hc2 hval
      have HX : Hid (∀ W, Below w.heap.size w W → ∀ (q : Nat) (v : Value), (rcs X)[q]? = some v → W.cell? (ad.add (j * 9 + q)) = some v) := Lib.hid (fun W hb q v hq => by
        rw [cell_kept hb _ (by rw [st_block]; exact hab)]
        exact hc2 q v hq)
      have x0 := HX.out _ hE.out.o.bel 0 _ rfl
      have x1 := HX.out _ hE.out.o.bel 1 _ rfl
      have x2 := HX.out _ hE.out.o.bel 2 _ rfl
      have x3 := HX.out _ hE.out.o.bel 3 _ rfl
      have x4 := HX.out _ hE.out.o.bel 4 _ rfl
      have x5 := HX.out _ hE.out.o.bel 5 _ rfl
      have x6 := HX.out _ hE.out.o.bel 6 _ rfl
      have x7 := HX.out _ hE.out.o.bel 7 _ rfl
      have x8 := HX.out _ hE.out.o.bel 8 _ rfl
      rw [← add_field _ _ _ (by omega)] at x1 x2 x3 x4 x5 x6 x7 x8
      rw [Nat.add_zero] at x0
      have HEn := Lib.hid (HE1.out X wr (hval.below hE.out.o.bel))
      have HVl := Lib.hid hval
      clear hc hc2 hval hab
      by_cases hm : RecOk X.l
      case neg =>
        rw [encV_bad hm] at HEn
        clear hm
        unfold recV at HEn
        go_wp2_with fail
        refine HEn.out.mono ?_
        rintro e w2 ⟨rfl, hb⟩
        have HE2 := Lib.hid (hE.out.step HDv HL.log hb)
        clear hb x0 x1 x2 x3 x4 x5 x6 x7 x8 HEn
        go_wp2_with fail
        go_roundw
        case rel => exact ⟨j + 1, K, s, F, D, l, by omega, by omega, by omega, rfl, by go_num, hs, HE2, hT, hgood⟩
        case measure => simp [intOf]; omega
      rw [encV_ok hm] at HEn
      have htb : (⟨(recL X.l).toArray⟩ : ByteArray) = rxB X := rfl
      have hsz : (rxB X).size = (rxL X).length := text_size _
      have hrx := rx_size hm
      rw [htb] at HEn
      unfold recV at HEn
      clear htb
      have HRch := Lib.hid (show (rxB X).size ≤ reachBytes from by rw [hsz]; unfold reachBytes; omega)
      obtain ⟨sb, hsb⟩ : ∃ sb, sb = rxB X := ⟨_, rfl⟩
      rw [← hsb] at HEn HRch hsz
      have HSb := Lib.hid (And.intro hsb (And.intro hsz (And.intro hrx hm)))
      clear hsb hsz hrx hm
      go_wp2_with fail
      refine HEn.out.mono ?_
      rintro e w2 ⟨rfl, hb⟩
      have HE2 := Lib.hid (hE.out.step HDv HL.log hb)
      clear hb x0 x1 x2 x3 x4 x5 x6 x7 x8 HEn
      go_wp2_with fail
      refine (HE2.out.o.s.app HL.log hT.out.lg hT.out.idle.2 sb HRch.out).mono ?_
      rintro e w3 ⟨rfl, F3, hs3, hf3⟩
      by_cases h4 : 4096 < sb.size
      · have hap : appendP D l sb = (l, 2) := by unfold appendP; rw [if_pos h4]
        rw [hap] at hs3 ⊢
        have HE3 := Lib.hid (HE2.out.act hs3 hf3)
        clear hs3 hf3 HE2 hap h4
        go_wp2_with fail
        go_roundw
        case rel => exact ⟨j + 1, K, s, F3, D, l, by omega, by omega, by omega, rfl, by go_num, hs, HE3, hT, hgood⟩
        case measure => simp [intOf]; omega
      by_cases hrm : roomN D l < sb.size + 6
      · have hap : appendP D l sb = (l, 100) := by unfold appendP; rw [if_neg h4, if_pos hrm]
        rw [hap] at hs3 ⊢
        have HE3 := Lib.hid (HE2.out.act hs3 hf3)
        clear hs3 hf3 HE2 hap h4 hrm
        go_wp2_with fail
        go_roundw
        case rel => exact ⟨j + 1, K, s, F3, D, l, by omega, by omega, by omega, rfl, by go_num, hs, HE3, hT, hgood⟩
        case measure => simp [intOf]; omega
      obtain ⟨hsb, hsz, hrx, hm⟩ := HSb.out
      have hap : appendP D l sb = (⟨l.cnt, l.ar, l.bs, l.ts ++ [sb], l.mn⟩, 0) := by unfold appendP; rw [if_neg h4, if_neg hrm]
      have in2 := app_in hT.out.ok hT.out.lg sb
      rw [hap] at hs3 in2 ⊢
      have HE3 := Lib.hid (HE2.out.act hs3 hf3)
      obtain ⟨D3, hs4, i3, c3, k3, n3, in3⟩ := sync_idle hT.out.idle hT.out.ok in2 (by show l.cnt < _; have := hT.out.cnt; omega) (by show l.mn ≠ (l.ts ++ [sb]).length; rw [List.length_append]; have := hT.out.mn; simp; omega)
      have HIn2 := Lib.hid (And.intro in2 hT.out.idle.2)
      have hKs : (K ++ [X]).map rxB = K.map rxB ++ [sb] := by rw [List.map_append, hsb]; rfl
      have hKl : (K ++ [X]).length = K.length + 1 := by rw [List.length_append]; rfl
      have HT3 : Hid (TrLog D3 ⟨l.cnt + 1, l.ar, l.bs ++ waitL ⟨l.cnt, l.ar, l.bs, l.ts ++ [sb], l.mn⟩, l.ts ++ [sb], (l.ts ++ [sb]).length⟩ (K ++ [X])) := Lib.hid ⟨i3, c3, k3, n3.trans hT.out.len, in3, by show l.ts ++ [sb] = _; rw [hKs, hT.out.ts], rfl, by show l.cnt + 1 ≤ _; rw [hKl]; have := hT.out.cnt; omega⟩
      have HS4 := Lib.hid hs4
      have HKs := Lib.hid (And.intro hKs hKl)
      have hgd : ∀ x ∈ K ++ [X], Good w x := fun x hx => by
        rcases List.mem_append.1 hx with h | h
        · exact hgood.out x h
        · obtain rfl := List.mem_singleton.1 h
          exact ⟨hm, by omega, HVl.out⟩
      have HGd := Lib.hid hgd
      have HF2 := Lib.hid (fun W => HFr.out sb W (by omega))
      rw [frame_fits (by omega)] at HF2
      have hfb : frameB sb = ⟨(frameL (rxL X)).toArray⟩ := by rw [hsb]; exact frame_B _
      rw [hfb] at HF2
      have hkl := frK_len (fun x hx => (hgood.out x hx).len)
      have hfl := frameL_len (rxL X)
      have hadd := fun W => list_sumA (frK K) (frameL (rxL X)) (by omega) W
      rw [← frK_snoc, ← hs.out] at hadd
      obtain ⟨s2, hs2⟩ : ∃ s2 : ByteArray, s2 = ⟨(frK (K ++ [X])).toArray⟩ := ⟨_, rfl⟩
      rw [← hs2] at hadd
      have HS2 := Lib.hid hs2
      generalize (⟨(frameL (rxL X)).toArray⟩ : ByteArray) = fb at *
      clear hs3 hf3 HE2 hap h4 hrm in2 hs4 i3 c3 k3 n3 in3 hKs hKl hgd hfb hkl hfl hs2 hm hsz hrx hsb HSb
      go_wp2_with fail
      refine (HE3.out.o.s.syn HL.log HIn2.out.1 HIn2.out.2).mono ?_
      rintro e w4 ⟨rfl, F4, hs4, hf4⟩
      rw [HS4.out] at hs4 ⊢
      have HE4 := Lib.hid (HE3.out.act hs4 hf4)
      clear hs4 hf4 HE3
      go_wp2_with fail
      refine (HF2.out _).mono ?_
      rintro e w5 ⟨rfl, hb⟩
      have HE5 := Lib.hid (HE4.out.step HDv HL.log hb)
      clear hb HE4 HF2
      have hTl : (strV (K.map rxB)).length = K.length := by rw [strV_len]; simp
      have HTl := Lib.hid hTl
      clear hTl
      go_wp2_with (at_builtin; refine wpList_append_own_at _ rfl _ _ 37 rfl w.heap.size 9 i1 (.string ⟨#[]⟩) 1 16 Tryz.underlying37 hI1 hy0 hy1 hy2 rfl (by decide) _ K.length (strV (K.map rxB)) rfl (HE5.out.tr.alloc _) ⟨w5.heap.size, 0, none⟩ 1 1 [.string sb] rfl rfl (cell_one_new _ _ _) (fun q hq => by simp at hq; subst hq; rfl) ?c3 ?c4 ?c5 ?_)
      case c3 => unfold maxLen; omega
      case c4 => omega
      case c5 => have := HE5.out.o.bel.size; simp; omega
      intro v8 w8 hown8 hgrow8 _ hat8
      have hal := (Below.refl _ w5).alloc (Nat.le_refl w5.heap.size) (.cells #[.string sb] 9)
      have HO8 := Lib.hid (one_grow HDv HL.log (HE5.out.o.step HDv HL.log hal) hgrow8 (fun k hk => ⟨HE5.out.tn k hk, (HE5.out.tr.lt k hk).1⟩))
      have HK8 := Lib.hid (rgrow (HE5.out.kr.alloc (.cells #[.string sb] 9)) (HE5.out.tr.alloc (.cells #[.string sb] 9)) (by decide) hgrow8)
      have HN8 : Hid (∀ q, v8.ownBlock = some q → ¬ F4 q) := Lib.hid (fun q hq hf => by
        rcases hat8 with e | e
        · exact HE5.out.tn q (e.symm.trans hq) hf
        · have h1 := (HE5.out.o.step HDv HL.log hal).s.lt HDv HL.log q hf
          rw [hq] at e
          simp at h1 e
          omega)
      have HM8 : Hid (∀ q, u8.ownBlock = some q → ¬ F4 q) := Lib.hid HE5.out.kn
      rw [← strV_snoc, ← HKs.out.1, ← HKs.out.2] at hown8
      have HR8 := Lib.hid hown8
      have y0 := HX.out _ HO8.out.bel 0 _ rfl
      have y1 := HX.out _ HO8.out.bel 1 _ rfl
      have y2 := HX.out _ HO8.out.bel 2 _ rfl
      have y3 := HX.out _ HO8.out.bel 3 _ rfl
      have y4 := HX.out _ HO8.out.bel 4 _ rfl
      have y5 := HX.out _ HO8.out.bel 5 _ rfl
      have y6 := HX.out _ HO8.out.bel 6 _ rfl
      have y7 := HX.out _ HO8.out.bel 7 _ rfl
      have y8 := HX.out _ HO8.out.bel 8 _ rfl
      rw [← add_field _ _ _ (by omega)] at y1 y2 y3 y4 y5 y6 y7 y8
      rw [Nat.add_zero] at y0
      clear hown8 hgrow8 hat8 hal HE5
      have hl9 : (rcs X).length = 1 * 9 := rfl
      go_wp2_with (at_builtin; refine wpList_append_own_at _ rfl _ _ 42 rfl w.heap.size 49 i0 z0 9 120 Tryz.underlying42 hI0 hz0 hz2 hz3 hz1 (by decide) _ K.length (K.flatMap rcs) rfl (HK8.out.alloc _) ⟨w8.heap.size, 0, none⟩ 1 1 (rcs X) rfl hl9 (new_cells _ X _) (one_cells X) ?c3 ?c4 ?c5 ?_)
      case c3 => unfold maxLen; omega
      case c4 => omega
      case c5 => have := HO8.out.bel.size; simp; omega
      intro v9 w9 hown9 hgrow9 _ hat9
      have hal := (Below.refl _ w8).alloc (Nat.le_refl w8.heap.size) (.cells (rcs X).toArray 49)
      have HO9 := Lib.hid (one_grow HDv HL.log (HO8.out.step HDv HL.log hal) hgrow9 (fun k hk => ⟨HM8.out k hk, (HK8.out.lt k hk).1⟩))
      have HR9 := Lib.hid (rgrow (HR8.out.alloc (.cells (rcs X).toArray 49)) (HK8.out.alloc (.cells (rcs X).toArray 49)) (by decide) hgrow9)
      have HN9 : Hid (∀ q, v9.ownBlock = some q → ¬ F4 q) := Lib.hid (fun q hq hf => by
        rcases hat9 with e | e
        · exact HM8.out q (e.symm.trans hq) hf
        · have h1 := (HO8.out.step HDv HL.log hal).s.lt HDv HL.log q hf
          rw [hq] at e
          simp at h1 e
          omega)
      rw [← flat_snoc, ← HKs.out.2] at hown9
      have HE9 := Lib.hid (TrEnv.mk HO9.out HR9.out hown9 HN8.out HN9.out)
      clear hown9 hgrow9 hat9 hal HO8 HK8 HR8 HO9 HR9 y0 y1 y2 y3 y4 y5 y6 y7 y8
      go_wp2_with fail
      go_roundw
      case rel => exact ⟨j + 1, K ++ [X], s2, F4, D3, _, by omega, by omega, by rw [HKs.out.2]; omega, rfl, by go_num, HS2, HE9, HT3, HGd⟩
      case measure => simp [intOf]; omega
    · have hx : (¬ (j : Int) < (L.length : Int)) ∨ ((j : Int) < (L.length : Int) ∧ ¬ (j : Int) < 12) := by omega
      obtain ⟨T, hT0⟩ : ∃ T, T = K.map rxB := ⟨_, rfl⟩
      have hTn : T.length = K.length := by rw [hT0, List.length_map]
      obtain ⟨cnt, ar, bs, ts, mn⟩ := l
      obtain ⟨hidle, hclean, hdok, hdlen, hlg, hts, hmn, hcnt⟩ := hT.out
      simp only at hts hmn hcnt
      rw [← hT0] at hts
      subst hts
      subst hmn
      have ho5 := reopen_crash hdok hlg hclean (by show cnt ≤ _; omega) ps
      simp only [List.take_length] at ho5
      have hop := open_in (crD_ok hdok ps) (l := ⟨cnt, ar, bs, ts, ts.length⟩) (by rw [ho5])
      rw [ho5] at hop
      have HIn := Lib.hid (And.intro hop.1 hop.2.2.1)
      have HO5 := Lib.hid ho5
      have hkl := frK_len (fun x hx => (hgood.out x hx).len)
      have hTl : ∀ t ∈ K.map rxL, t.length ≤ 4096 := fun t ht => by
        obtain ⟨x, hx, rfl⟩ := List.mem_map.1 ht
        exact (hgood.out x hx).len
      have hsz : s.size = (frK K).length := by rw [hs.out]; exact text_size _
      have hmm : (K.map rxL).map (fun t => (⟨t.toArray⟩ : ByteArray)) = ts := by rw [hT0, List.map_map]; rfl
      have hAR : allR s = (ts, s.size, 0) := by rw [← hmm, hsz, hs.out]; exact Tm.all_frames hTl
      have HA2 := Lib.hid (fun W => HAl.out s W (by rw [hsz]; omega))
      rw [hAR] at HA2
      simp only at HA2
      rw [hTn] at HA2
      have hTS : ∀ q (h : q < K.length), (strV ts)[q]? = some (.string ⟨(rxL K[q]).toArray⟩) := fun q h => by
        rw [strV_at (by omega)]
        subst hT0
        simp
        rfl
      have HTS := Lib.hid hTS
      have HTn := Lib.hid hTn
      have hpA : ∀ x, A1 = some x → 0 < ps.length → x.block < w.heap.size := fun x hx h0 => by
        obtain ⟨ad, h1, h2, _⟩ := HPs.out.1 h0
        rw [hx] at h1
        simp only [Option.some.injEq] at h1
        rw [h1]; exact h2
      have HTr : Hid (wr.ownsRow w.heap.size 9 1 u9 K.length (strV ts)) := Lib.hid (by rw [hT0]; exact hE.out.tr)
      clear hAR hkl hsz hTl hTS hTn hmm hop ho5 hidle hclean hdok hdlen hlg hcnt HAt HOk HE1 HFr HAl hT
      rcases hx with pj | ⟨pj, pj2⟩
      all_goals
        go_wp2_with fail
        refine (hE.out.o.s.crash HDv A1 c1 ps (HPs.out.1.below hE.out.o.bel) (fun hp x hx hf => by have := hpA x hx hp; have := hE.out.o.bF _ hf; omega) HPs.out.2.1 HPs.out.2.2).mono ?_
        rintro e w3 ⟨rfl, F3, hs3, hf3⟩
        have HE3 := Lib.hid (hE.out.act hs3 hf3)
        have HT3 := Lib.hid (rkept HTr.out hf3 hE.out.tn)
        clear hs3 hf3 HTr hpA
        go_wp2_with fail
        refine (HE3.out.o.s.opn HL.log).mono ?_
        rintro e w4 ⟨o', rfl, ho', F4, hs4, hf4⟩
        rw [HO5.out] at ho' hs4 ⊢
        obtain ⟨q0, rfl⟩ := op_some ho'
        have HE4 := Lib.hid (HE3.out.act hs4 hf4)
        have HT4 := Lib.hid (rkept HT3.out.1 hf4 HT3.out.2)
        clear ho' hs4 hf4 HE3 HT3 hE
        unfold ptrV
        go_wp2_with fail
        refine (HE4.out.o.s.texts HL HIn.out.1 HIn.out.2).mono ?_
        rintro e w5 ⟨v5, F5, rfl, hrow5, hno5, hs5, hf5⟩
        have HE5 := Lib.hid (HE4.out.act hs5 hf5)
        have hT5 := (rkept HT4.out.1 hf5 HT4.out.2).1
        simp only at hrow5
        rw [HTn.out] at hrow5
        obtain ⟨A5, c5, rfl, hst5⟩ := strs_of_own2 hrow5 HTn.out.symm
        obtain ⟨At, ct, rfl, hstt⟩ := strs_of_own2 hT5 HTn.out.symm
        have HSt := Lib.hid (And.intro hst5 hstt)
        clear hrow5 hno5 hs5 hf5 HE4 HT4 hst5 hstt hT5
        have hsame := fun (X Y : Option Addr) (cX cY : Nat) (W : World) (h : StrsAt W X ts) (h2 : StrsAt W Y ts) => same_any X Y cX cY ts ts W h h2 (by rw [HTn.out]; omega)
        rw [HTn.out] at hsame
        simp only [decide_true] at hsame
        have HSame := Lib.hid hsame
        clear hsame
        go_wp2_with fail
        refine (HSame.out A5 At c5 ct w5 HSt.out.1 HSt.out.2).mono ?_
        rintro e w6 ⟨rfl, n, rfl⟩
        have hd6 := below_drew w5.heap.size w5 n
        have HE6 := Lib.hid (HE5.out.step HDv HL.log hd6)
        have HS6 := Lib.hid (HSt.out.2.below hd6)
        clear HSt HE5 hd6
        generalize w5.drewN n = w6 at HE6 HS6 ⊢
        go_wp2_with fail
        refine (HA2.out _).mono ?_
        rintro e w7 ⟨v7, rfl, hown7, hb7⟩
        have HE7 := Lib.hid (HE6.out.step HDv HL.log hb7)
        have HS7 := Lib.hid (HS6.out.below hb7)
        obtain ⟨A7, c7, rfl, hst7⟩ := strs_of_own2 hown7 HTn.out.symm
        have HSt7 := Lib.hid hst7
        clear hown7 hb7 hst7 HS6 HE6 HA2
        go_wp2_with fail
        refine (HSame.out A7 At c7 ct w7 HSt7.out HS7.out).mono ?_
        rintro e w8 ⟨rfl, n2, rfl⟩
        have HE8 := Lib.hid (HE7.out.step HDv HL.log (below_drew w7.heap.size w7 n2))
        clear HSt7 HS7 HE7 HSame
        generalize w7.drewN n2 = w8 at HE8 ⊢
        go_wp2_with fail
        refine (HE8.out.o.s.texts HL HIn.out.1 HIn.out.2).mono ?_
        rintro e w9 ⟨v9, F9, rfl, hrow9, hno9, hs9, hf9⟩
        have HE9 := Lib.hid (HE8.out.act hs9 hf9)
        simp only at hrow9
        rw [HTn.out] at hrow9
        obtain ⟨X2, c2, rfl, -⟩ := own_form9 hrow9
        have HT9 := Lib.hid hrow9
        have hk9 := HE9.out.kr
        obtain ⟨Y, cY, rfl, hkc⟩ := own_form9 hk9
        have HK9 := Lib.hid hk9
        have HB9 := Lib.hid HE9.out.o.bel
        clear hrow9 hno9 hs9 hf9 HE8 HE9 hk9 hkc
        go_wp2_with fail
        go_loopw [146] (fun i wr => ∃ q : Nat, q ≤ K.length ∧ i = .int .i64 (q : Int) ∧ Hid (Below w9.heap.size w9 wr)) (fun i _ => K.length - (intOf i).toNat)
        case atStart => exact ⟨0, by omega, rfl, Below.refl _ _⟩
        case round =>
          obtain ⟨q, hq, rfl, hb2⟩ := hrel
          by_cases hqlt : q < K.length
          · have pq : (q : Int) < (K.length : Int) := by omega
            have hT := st_keep HT9.out hb2.out
            obtain ⟨g2, cap2, hv2, hX1, hX2⟩ := World.ownsRow.form hT (by omega)
            simp only [Value.slice.injEq] at hv2
            obtain ⟨rfl, -, rfl⟩ := hv2
            have hcell := (hT.cellAt q (by omega)).trans (HTS.out q hqlt)
            have hgd := hgood.out _ (List.getElem_mem hqlt)
            have hfl9 := fun r (hr : r < 9) => flat_at hqlt hr
            generalize K[q] = X at hcell hgd hfl9
            have hD := fun W => HD1.out ⟨(rxL X).toArray⟩ W (Rc.recL_size hgd.ok)
            unfold Rc.DecPost at hD
            have hdx : Rc.decX ⟨(rxL X).toArray⟩ = (X.l, 0) := Rc.decX_bytes hgd.ok
            rw [hdx] at hD
            unfold recV at hD
            simp only at hD
            have HD2 := Lib.hid hD
            have HGd := Lib.hid hgd
            have HF9 := Lib.hid hfl9
            clear hD hdx hgd hfl9 hX1 hX2 hT
            generalize (⟨(rxL X).toArray⟩ : ByteArray) = sb at *
            go_wp2_with fail
            refine (HD2.out _).mono ?_
            rintro e w4 ⟨A4, B4, c4, d4, rfl, hval, hb⟩
            have hal : Below w4.heap.size w4 (w4.alloc (.cells #[.int .i64 X.l.kind, .int .i64 X.l.txn, .int .i64 X.l.ts, .int .i64 X.l.coord, .string X.l.key, .string X.l.text, .bool X.l.dead, .slice A4 X.l.keys.length c4, .slice B4 X.l.ws.length d4] 49)) := (Below.refl _ w4).alloc (Nat.le_refl _) _
            have HC5 : Hid (Cel (w4.alloc (.cells #[.int .i64 X.l.kind, .int .i64 X.l.txn, .int .i64 X.l.ts, .int .i64 X.l.coord, .string X.l.key, .string X.l.text, .bool X.l.dead, .slice A4 X.l.keys.length c4, .slice B4 X.l.ws.length d4] 49)) w4.heap.size 49 [.int .i64 X.l.kind, .int .i64 X.l.txn, .int .i64 X.l.ts, .int .i64 X.l.coord, .string X.l.key, .string X.l.text, .bool X.l.dead, .slice A4 X.l.keys.length c4, .slice B4 X.l.ws.length d4]) := Lib.hid (blk1 w4 _).2
            have HV5 := Lib.hid (hval.below hal)
            have hb4 := hb2.out.trans (hb.mono hb2.out.size)
            have HB5 := Lib.hid (hb4.trans (hal.mono hb4.size))
            clear hb hal hval HD2 hb4 hcell
            go_upto_region 40 with fail
            generalize w4.alloc (.cells #[.int .i64 X.l.kind, .int .i64 X.l.txn, .int .i64 X.l.ts, .int .i64 X.l.coord, .string X.l.key, .string X.l.text, .bool X.l.dead, .slice A4 X.l.keys.length c4, .slice B4 X.l.ws.length d4] 49) = w5 at HC5 HV5 HB5 ⊢
            generalize w4.heap.size = g5 at HC5 ⊢
            have hK5 := st_keep HK9.out HB5.out
            obtain ⟨g3, cap3, hv3, hX1, hX2⟩ := World.ownsRow.form hK5 (by omega)
            simp only [Value.slice.injEq] at hv3
            obtain ⟨rfl, -, rfl⟩ := hv3
            have HKc := Lib.hid (fun r (hr : r < 9) u (hu : (rcs X)[r]? = some u) => show w5.cell? ⟨g3, q * 9 + r, none⟩ = some u from by
              have := hK5.cells (g := g3) rfl (q * 9 + r) u (by rw [HF9.out r hr]; exact hu)
              rwa [addr_head] at this)
            have hg3 : g3 < w5.heap.size := (hK5.lt g3 rfl).2
            have HG3 := Lib.hid hg3
            clear hK5 hX1 hX2 hg3
            have HSame := Lib.hid (fun W (h : Below w5.heap.size w5 W) => Rc.sameV A4 B4 X.A X.B c4 d4 X.c X.d X.l W (HV5.out.below h) (HGd.out.val.ks.below (HB9.out.trans ((HB5.out.trans (h.mono HB5.out.size)).mono HB9.out.size))) (HGd.out.val.ws.below (HB9.out.trans ((HB5.out.trans (h.mono HB5.out.size)).mono HB9.out.size))))
            unfold recV at HSame
            refine wp_region_said 11 [156, 157, 158, 159, 160, 161, 162, 163, 164, 165, 166]
              [.is (.int .i64 0), .is (.bool false), .is (.bool false), .is (.agg #[.int .i64 X.l.kind, .int .i64 X.l.txn, .int .i64 X.l.ts, .int .i64 X.l.coord, .string X.l.key, .string X.l.text, .bool X.l.dead, .slice A4 X.l.keys.length c4, .slice B4 X.l.ws.length d4]), .is (.slice (some ⟨g3, 0, none⟩) K.length cY), .is (.int .i64 (q : Int)), .is (.pointer (some ⟨g3, q * 9, none⟩)), .is (.agg #[.int .i64 X.l.kind, .int .i64 X.l.txn, .int .i64 X.l.ts, .int .i64 X.l.coord, .string X.l.key, .string X.l.text, .bool X.l.dead, .slice X.A X.l.keys.length X.c, .slice X.B X.l.ws.length X.d]), .is (.bool true), .is (.bool false), .is (.bool false)]
              (fun W => Below w5.heap.size w5 W) (by kernel_rfl) (by kernel_rfl) (by kernel_rfl) (by kernel_rfl) (by kernel_rfl) (fun _ _ h hb => h.trans (hb.mono h.size)) (Below.refl _ _) ?steps ?last
            case steps =>
              simp only [List.take_succ_cons, List.take_zero]
              refine ⟨?_, ?_, ?_, ?_, ?_, ?_, ?_, ?_, ?_, ?_, ?_, trivial⟩
              all_goals
                intro vs W ρ hρ hc hf hg hI hH hd R' hR
                have hC := HC5.out.below hI
                have k0 := hC.cell (i := 0) rfl
                have k1 := hC.cell (i := 1) rfl
                have k2 := hC.cell (i := 2) rfl
                have k3 := hC.cell (i := 3) rfl
                have k4 := hC.cell (i := 4) rfl
                have k5 := hC.cell (i := 5) rfl
                have k6 := hC.cell (i := 6) rfl
                have k7 := hC.cell (i := 7) rfl
                have k8 := hC.cell (i := 8) rfl
                have HCk := Lib.hid (fun r (hr : r < 9) u (hu : (rcs X)[r]? = some u) => show W.cell? ⟨g3, q * 9 + r, none⟩ = some u from (cell_kept hI ⟨g3, q * 9 + r, none⟩ HG3.out).trans (HKc.out r hr u hu))
                have y0 := HCk.out 0 (by omega) _ rfl
                have y1 := HCk.out 1 (by omega) _ rfl
                have y2 := HCk.out 2 (by omega) _ rfl
                have y3 := HCk.out 3 (by omega) _ rfl
                have y4 := HCk.out 4 (by omega) _ rfl
                have y5 := HCk.out 5 (by omega) _ rfl
                have y6 := HCk.out 6 (by omega) _ rfl
                have y7 := HCk.out 7 (by omega) _ rfl
                have y8 := HCk.out 8 (by omega) _ rfl
                rw [Nat.add_zero] at y0
                have HI := Lib.hid hI
                have HR := Lib.hid hR
                simp [depsOf, Region.binds, sayAt, Say.holds] at hd
                clear hR hI hC
                simp only [Region.wanted, hd, boolOf]
                go_simp
                first
                  | exact HR.out _ _ (by simp [sayAt, Say.holds]) (Below.refl _ _) (by simp [sayAt, Say.isBlk])
                  | (refine (HSame.out _ HI.out).mono ?_; rintro e w' ⟨rfl, hb⟩; exact ⟨_, rfl, HR.out _ _ (by simp [sayAt, Say.holds]) hb (by simp [sayAt, Say.isBlk])⟩)
                  | trace_state
            case last =>
              intro vs W hI hb hg hd
              have e10 := hg 10 (by omega)
              simp only [sayAt, Say.holds, List.getD_cons_succ, List.getD_cons_zero] at e10
              simp only [List.take_succ_cons, List.take_zero, List.drop_succ_cons, List.drop_zero, putAll, Act.put, List.setIfInBounds_toArray, List.set_cons_succ, List.set_cons_zero, Nat.zero_add, Nat.reduceAdd]
              rw [e10]
              have HB6 := Lib.hid (HB5.out.trans (hI.mono HB5.out.size))
              clear e10 hg hd hb hI HSame HKc HC5 HV5
              go_wp2_with fail
              go_roundw
              case rel => exact ⟨q + 1, by omega, by go_num, HB6.out⟩
              case measure => simp [intOf]; omega
          · obtain rfl : q = K.length := by omega
            go_wp2_with fail
            go_ret
            exact ⟨rfl, HB9.out.trans (hb2.out.mono HB9.out.size)⟩

end Tr
end Go.Proofs.YtjehjbkcdpidbaaGreat
