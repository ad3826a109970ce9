/- Made anew it is the same: the walk of the law over shelves; no condition but the range. -/
import Derived.Test.YtiobhbagjokpcaaGreatShRefuses
namespace Go.Proofs.YtiobhbagjokpcaaGreat
namespace Sh
open Go.RowKit Bk Ch Lt Rc Tr

attribute [local go_sem ↓] Go.wp_at_zero Go.wp_at_succ
attribute [local go_sem] floatUpon pick

/-- another shelf was turned -/
theorem Live.beside {W w w' : World} {g : Nat} {F F2 : Nat → Prop} {s : Shf} (h : Live W w g F s) (hf : Far F2 w w') (hd : ∀ k, F k → ¬ F2 k) (hn : ∀ k, F2 k → W.heap.size ≤ k) : Live W w' g F s := by
  refine ⟨?_, h.ok, h.new, h.bel.trans ⟨hf.st.os, hf.st.tape, hf.st.output, hf.size, fun k hk => hf.block k (Nat.lt_of_lt_of_le hk h.bel.size) (fun h2 => by have := hn k h2; omega)⟩⟩
  obtain ⟨bc, bp, v, K, P, hl⟩ := h.rep
  exact ⟨bc, bp, v, K, P, hl.kept hf.size (fun k hk => hf.block k (hl.fl k hk) (hd k hk))⟩

theorem OutL.far2 {W w1 w w' : World} {v : Value} {X : List RI} {F : Nat → Prop} (h1 : OutL W w1 v X) (h : OutL W w v X) (hf : Far F w w') (hF : ∀ k, F k → k < W.heap.size ∨ w1.heap.size ≤ k) : OutL W w' v X := by
  have hno : ∀ x ∈ X, ∀ a, Rb x a → ¬ F a := fun x hx a ha h2 => by
    have := rb_lt (h1.pv x hx) ha
    have := rb_ge (h.new x hx) ha
    rcases hF _ h2 with h3 | h3 <;> omega
  exact ⟨row_far h.row (fun k hk => hf.block k (h.row.lt k hk).2 (fun h2 => by
      have := (h1.row.lt k hk)
      rcases hF _ h2 with h3 | h3 <;> omega)),
   fun x hx => ⟨⟨strs_away (h.pv x hx).val.ks (fun hp ad e h2 => hno x hx _ (.inl ⟨hp, ad, e, rfl⟩) h2) hf.toAway, wrs_away (h.pv x hx).val.ws (fun hp ad e h2 => hno x hx _ (.inr ⟨hp, ad, e, rfl⟩) h2) hf.toAway, (h.pv x hx).val.rng, (h.pv x hx).val.kn, (h.pv x hx).val.wn⟩, (h.pv x hx).ka, (h.pv x hx).wa⟩, h.new, h.ord⟩

theorem cell_lt2 {w : World} {a : Addr} {v : Value} (h : w.cell? a = some v) : a.block < w.heap.size := by
  unfold World.cell? at h
  by_cases hl : a.block < w.heap.size
  · exact hl
  · rw [Array.getElem?_eq_none (by omega)] at h
    cases h

/-- each record on the way is applied -/
theorem go_step : ∀ (l : List Rec) (e s : Shf), goP l e = (s, true) → ∀ (j : Nat) (r : Rec), l[j]? = some r → (applyP (goP (l.take j) e).1 r).2 = 0 ∧ (goP (l.take (j + 1)) e).1 = (applyP (goP (l.take j) e).1 r).1
  | [], _, _, _, _, _, h => by simp at h
  | x :: t, e, s, hg, 0, r, h => by
    obtain rfl : x = r := by simpa using h
    rw [goP_cons] at hg
    have h2 := (Prod.mk.inj hg).2
    rw [Bool.and_eq_true, decide_eq_true_eq] at h2
    exact ⟨h2.1, rfl⟩
  | x :: t, e, s, hg, j + 1, r, h => by
    rw [goP_cons] at hg
    obtain ⟨h1, h2⟩ := Prod.mk.inj hg
    rw [Bool.and_eq_true] at h2
    have ih := go_step t (applyP e x).1 s (Prod.ext h1 h2.2) j r (by simpa using h)
    rw [List.take_succ_cons, List.take_succ_cons, goP_cons, goP_cons]
    exact ih

theorem Live.opens2 {W w : World} {g : Nat} {F : Nat → Prop} {s : Shf} (h : Live W w g F s) :
    Calls Tryz.prog 20 #[.pointer (some ⟨g, 0, none⟩)] w fun e w' => ∃ (A : Option Addr) (c : Nat), e = .returned (.slice A s.p.length c) ∧ IntsAt w' A (s.p.map (·.txn)) ∧ Below w.heap.size w w' := by
  obtain ⟨bc, bp, v, K, P, hl⟩ := h.rep
  refine (lopen_any hl h.ok).mono ?_
  rintro e w' ⟨u, rfl, ho, hb⟩
  obtain ⟨A, c, rfl, hat⟩ := ints_of_own ho (by rw [List.length_map])
  exact ⟨A, c, rfl, hat, hb⟩

section
variable {W : World} {F : Nat → Prop} {g bc bp : Nat} {v : Value} {K : List KI} {P : List RI} {s : Shf}

theorem lswept2_any (h : LAt W F g bc bp v K P s) :
    Calls Tryz.prog 21 #[.pointer (some ⟨g, 0, none⟩)] W fun e w' => e = .returned (.int .i64 s.over) ∧ w' = W := by
  have s3 := h.cel.cell (i := 3) rfl
  clear h
  go_enter Tryz.func21, Tryz.ntmps21
  go_wp2_with fail
  go_ret
  exact ⟨rfl, rfl⟩

end

theorem Live.swept {W w : World} {g : Nat} {F : Nat → Prop} {s : Shf} (h : Live W w g F s) :
    Calls Tryz.prog 21 #[.pointer (some ⟨g, 0, none⟩)] w fun e w' => e = .returned (.int .i64 s.over) ∧ w' = w := by
  obtain ⟨bc, bp, v, K, P, hl⟩ := h.rep
  exact lswept2_any hl

/-- keys, transactions, times, as an argument -/
structure AskArg (w : World) (v : Value) (ks : List ByteArray) (ts ms : List Int) : Prop where
  at' : ∃ (A B C : Option Addr) (a b c : Nat), v = .agg #[.slice A ks.length a, .slice B ts.length b, .slice C ms.length c] ∧ StrsAt w A ks ∧ IntsAt w B ts ∧ IntsAt w C ms
  kb : ∀ k ∈ ks, k.size ≤ reachBytes
  kl : ks.length ≤ reachBytes
  tl : ts.length ≤ reachBytes
  ml : ms.length ≤ reachBytes

set_option maxRecDepth 20000 in
set_option maxHeartbeats 8000000 in
theorem again_any (W : World) (v u : Value) (L : List RI) (ks : List ByteArray) (ts ms : List Int) (hv : RecsOf W v L) (hu : AskArg W u ks ts ms) :
    Calls Tryz.prog 4 #[v, u] W fun e w' => e = .returned (.bool true) ∧ Below W.heap.size W w' := by
  obtain ⟨⟨A, B, C, a, b, c, rfl, hka, -, hma⟩, hks, hkl, -, hml⟩ := hu
  have rb : reachBytes = 140737488351232 := rfl
  rw [rb] at hkl hml
  have HMd := Lib.hid (fun V (hb : Below W.heap.size W V) => made_any V v L (recs_below2 hv hb))
  have HWk := Lib.hid (fun V => works_any V)
  have HKa := Lib.hid (fun V (hb : Below W.heap.size W V) => hka.below hb)
  have HMa := Lib.hid (fun V (hb : Below W.heap.size W V) => hma.below hb)
  have HKs := Lib.hid (show ∀ k ∈ ks, k.size ≤ maxLen from fun k hk => by have := hks k hk; unfold maxLen; omega)
  have pkl : (ks.length : Int) ≤ 9223372036854775807 := by omega
  have pml : (ms.length : Int) ≤ 9223372036854775807 := by omega
  clear hv hka hma hks rb hkl hml
  go_enter Tryz.func4, Tryz.ntmps4
  go_upto_region 1 with fail
  have hc1 : Cel (W.alloc (.cells #[.slice A ks.length a, .slice B ts.length b, .slice C ms.length c] 26)) W.heap.size 26 [.slice A ks.length a, .slice B ts.length b, .slice C ms.length c] := (blk1 W _).2
  have hb1 : Below W.heap.size W (W.alloc (.cells #[.slice A ks.length a, .slice B ts.length b, .slice C ms.length c] 26)) := (Below.refl _ W).alloc (Nat.le_refl _) _
  generalize W.alloc (.cells #[.slice A ks.length a, .slice B ts.length b, .slice C ms.length c] 26) = W1 at hc1 hb1 ⊢
  have HC := Lib.hid (fun V (hb : Below W1.heap.size W1 V) => hc1.below hb)
  have HB1 := Lib.hid hb1
  clear hc1 hb1
  go_wp2_with fail
  refine (HMd.out _ HB1.out).mono ?_
  rintro e2 w2 ⟨g, F, s, rfl, hl⟩
  have HL2 := Lib.hid hl
  clear hl HMd
  go_wp2_with fail
  refine (lnew_any _).mono ?_
  rintro e3 w3 ⟨g2, F2, rfl, hr, hF, hb⟩
  have HL3 := Lib.hid (HL2.out.below hb)
  have HM3 : Hid (Live W1 w3 g2 F2 empty) := Lib.hid ⟨hr, ok_empty, fun k hk => Nat.le_trans HL2.out.bel.size (hF k hk), HL2.out.bel.trans (hb.mono HL2.out.bel.size)⟩
  have HD3 := Lib.hid (show ∀ k, F k → ¬ F2 k from fun k h1 h2 => by have := HL2.out.lt k h1; have := hF k h2; omega)
  clear hr hF hb HL2
  go_wp2_with fail
  refine (HWk.out _).mono ?_
  rintro e4 w4 ⟨rfl, hb⟩
  have HL4 := Lib.hid (HL3.out.below hb)
  have HM4 := Lib.hid (HM3.out.below hb)
  clear hb HL3 HM3 HWk
  go_wp2_with fail
  refine HL4.out.records.mono ?_
  rintro e5 w5 ⟨A1, c1, X1, rfl, hX1, ho1, hl, hb⟩
  have HX1 := Lib.hid hX1
  have HO1 := Lib.hid ho1
  have HL5 := Lib.hid hl
  have HM5 := Lib.hid (HM4.out.below hb)
  have HF5 := Lib.hid (show ∀ k, F2 k → k < w4.heap.size ∨ w5.heap.size ≤ k from fun k hk => .inl (HM4.out.lt k hk))
  have HGo := Lib.hid (go_step _ _ _ (go_again HL4.out.ok))
  have hxl : X1.length ≤ 4398046511104 := by have := recs_len HL4.out.ok; rw [← hX1, List.length_map] at this; exact this
  have HOk := Lib.hid HL4.out.ok
  have HEnd := Lib.hid (show (goP (recordsP s) empty).1 = s by rw [go_again HL4.out.ok])
  have HSz := Lib.hid (Nat.le_refl w5.heap.size)
  clear hX1 ho1 hl hb HL4 HM4
  go_wp2_with fail
  go_loopw [33] (fun iv wr => ∃ (j : Nat) (F2 : Nat → Prop), j ≤ X1.length ∧ iv = .int .i64 (j : Int) ∧ Hid (Live W1 wr g F s) ∧ Hid (Live W1 wr g2 F2 (goP ((recordsP s).take j) empty).1) ∧ Hid (OutL w4 wr (.slice A1 X1.length c1) X1) ∧ Hid (∀ k, F2 k → k < w4.heap.size ∨ w5.heap.size ≤ k) ∧ Hid (∀ k, F k → ¬ F2 k) ∧ Hid (w5.heap.size ≤ wr.heap.size)) (fun iv _ => X1.length - (RowKit.intOf iv).toNat)
  case atStart => exact ⟨0, F2, by omega, rfl, HL5, HM5, HO1, HF5, HD3, HSz⟩
  case round =>
    clear HL5 HM5 HF5 HD3 HSz
    obtain ⟨j, F2, hj, rfl, hL, hM, hO, hF, hD, hS⟩ := hrel
    by_cases hlt : j < X1.length
    · have pj : (j : Int) < (X1.length : Int) := by omega
      obtain ⟨ad, rfl, hab, hc⟩ := hO.out.rowOf.at' (by omega)
      have hc2 := hc j hlt
      have hval := hO.out.rowOf.val _ (List.getElem_mem hlt)
      have hrj : (recordsP s)[j]? = some (X1[j]).l := by rw [← HX1.out, List.getElem?_map, List.getElem?_eq_getElem hlt]; rfl
      generalize X1[j] = x at hc2 hval hrj
      have x0 := hc2 0 _ rfl
      have x1 := hc2 1 _ rfl
      have x2 := hc2 2 _ rfl
      have x3 := hc2 3 _ rfl
      have x4 := hc2 4 _ rfl
      have x5 := hc2 5 _ rfl
      have x6 := hc2 6 _ rfl
      have x7 := hc2 7 _ rfl
      have x8 := hc2 8 _ rfl
      rw [← Lt.add_field _ _ _ (by omega)] at x1 x2 x3 x4 x5 x6 x7 x8
      rw [Nat.add_zero] at x0
      have hgo := HGo.out j _ hrj
      have HG := Lib.hid hgo
      have HVl := Lib.hid hval
      clear hc hc2 hval hab hrj hgo
      go_upto_region 8 with fail
      have hr1 : Cel (wr.alloc (.cells #[.int .i64 x.l.kind, .int .i64 x.l.txn, .int .i64 x.l.ts, .int .i64 x.l.coord, .string x.l.key, .string x.l.text, .bool x.l.dead, .slice x.A x.l.keys.length x.c, .slice x.B x.l.ws.length x.d] 37)) wr.heap.size 37 [.int .i64 x.l.kind, .int .i64 x.l.txn, .int .i64 x.l.ts, .int .i64 x.l.coord, .string x.l.key, .string x.l.text, .bool x.l.dead, .slice x.A x.l.keys.length x.c, .slice x.B x.l.ws.length x.d] := (blk1 wr _).2
      have hb1 : Below wr.heap.size wr (wr.alloc (.cells #[.int .i64 x.l.kind, .int .i64 x.l.txn, .int .i64 x.l.ts, .int .i64 x.l.coord, .string x.l.key, .string x.l.text, .bool x.l.dead, .slice x.A x.l.keys.length x.c, .slice x.B x.l.ws.length x.d] 37)) := (Below.refl _ wr).alloc (Nat.le_refl _) _
      generalize wr.alloc (.cells #[.int .i64 x.l.kind, .int .i64 x.l.txn, .int .i64 x.l.ts, .int .i64 x.l.coord, .string x.l.key, .string x.l.text, .bool x.l.dead, .slice x.A x.l.keys.length x.c, .slice x.B x.l.ws.length x.d] 37) = W7 at hr1 hb1 ⊢
      have HL7 := Lib.hid (hL.out.below hb1)
      have HM7 := Lib.hid (hM.out.below hb1)
      have HO7 := Lib.hid (hO.out.below hb1)
      have HS7 := Lib.hid (Nat.le_trans hS.out hb1.size)
      have hap := HM7.out.apply x (HVl.out.below hb1)
      unfold rcs at hap
      have HAp := Lib.hid hap
      have q0 := hr1.cell (i := 0) rfl
      have q1 := hr1.cell (i := 1) rfl
      have q2 := hr1.cell (i := 2) rfl
      have q3 := hr1.cell (i := 3) rfl
      have q4 := hr1.cell (i := 4) rfl
      have q5 := hr1.cell (i := 5) rfl
      have q6 := hr1.cell (i := 6) rfl
      have q7 := hr1.cell (i := 7) rfl
      have q8 := hr1.cell (i := 8) rfl
      clear hr1 hb1 hap hL hM hO hS HVl x0 x1 x2 x3 x4 x5 x6 x7 x8
      go_wp2_with fail
      refine HAp.out.mono ?_
      rintro e8 w8 ⟨rfl, hl, hf⟩
      have HL8 := Lib.hid (HL7.out.beside hf hD.out HM7.out.new)
      have HO8 := Lib.hid (OutL.far2 HO1.out HO7.out hf hF.out)
      have HM8 := Lib.hid (show Live W1 w8 g2 (Gr F2 W7 w8) (goP ((recordsP s).take (j + 1)) empty).1 by rw [HG.out.2]; exact hl)
      have HF8 := Lib.hid (show ∀ k, Gr F2 W7 w8 k → k < w4.heap.size ∨ w5.heap.size ≤ k from fun k hk => hk.elim (hF.out k) (fun h => .inr (Nat.le_trans HS7.out h.1)))
      have HD8 := Lib.hid (show ∀ k, F k → ¬ Gr F2 W7 w8 k from fun k hk h => h.elim (hD.out k hk) (fun h2 => by have := HL7.out.lt k hk; omega))
      have HS8 := Lib.hid (Nat.le_trans HS7.out hf.size)
      rw [HG.out.1]
      clear hl hf HL7 HM7 HO7 HS7 HAp hF hD HG q0 q1 q2 q3 q4 q5 q6 q7 q8
      go_wp2_with fail
      go_roundw
      case rel => exact ⟨j + 1, _, by omega, by go_num, HL8, HM8, HO8, HF8, HD8, HS8⟩
      case measure => simp [RowKit.intOf]; omega
    · obtain rfl : j = X1.length := by omega
      have hrl : (recordsP s).length = X1.length := by rw [← HX1.out, List.length_map]
      have HM9 : Hid (Live W1 wr g2 F2 s) := Lib.hid (by
        have h1 := hM.out
        rw [← hrl, List.take_length, HEnd.out] at h1
        exact h1)
      clear hM hrl HEnd HGo
      go_wp2_with fail
      refine HM9.out.records.mono ?_
      rintro e10 w10 ⟨A2, c2, X2, rfl, hX2, ho2, hm, hb⟩
      have HSm := Lib.hid (same_rows HOk.out ho2 (hO.out.below hb) hX2 HX1.out)
      have HL10 := Lib.hid (hL.out.below hb)
      have HM10 := Lib.hid hm
      clear hX2 ho2 hm hb hL hO HM9 hF hD hS HX1 HO1
      go_wp2_with fail
      refine HSm.out.mono ?_
      rintro e11 w11 ⟨rfl, hb⟩
      have HL11 := Lib.hid (HL10.out.below hb)
      have HM11 := Lib.hid (HM10.out.below hb)
      clear hb HL10 HM10 HSm
      go_wp2_with fail
      refine HM11.out.opens2.mono ?_
      rintro e12 w12 ⟨A3, c3, rfl, hi3, hb⟩
      have HL12 := Lib.hid (HL11.out.below hb)
      have HM12 := Lib.hid (HM11.out.below hb)
      have HI3 := Lib.hid hi3
      clear hb HL11 HM11 hi3
      go_wp2_with fail
      refine HL12.out.opens2.mono ?_
      rintro e13 w13 ⟨A4, c4, rfl, hi4, hb⟩
      have HL13 := Lib.hid (HL12.out.below hb)
      have HM13 := Lib.hid (HM12.out.below hb)
      have hsi := sameInts_any A3 A4 c3 c4 (s.p.map (·.txn)) (s.p.map (·.txn)) w13 (HI3.out.below hb) hi4 (by have := HOk.out.pl; rw [List.length_map]; omega)
      rw [List.length_map, show decide (s.p.map (·.txn) = s.p.map (·.txn)) = true from decide_eq_true rfl] at hsi
      have HSi := Lib.hid hsi
      clear hb HL12 HM12 hi4 hsi HI3
      go_wp2_with fail
      refine HSi.out.mono ?_
      rintro e14 w14 ⟨rfl, nq, rfl⟩
      have HL14 := Lib.hid (HL13.out.below (below_drew _ _ nq))
      have HM14 := Lib.hid (HM13.out.below (below_drew _ _ nq))
      generalize w13.drewN nq = w14 at HL14 HM14 ⊢
      clear HL13 HM13 HSi
      go_wp2_with fail
      refine HM14.out.swept.mono ?_
      rintro e15 w15 ⟨rfl, rfl⟩
      go_wp2_with fail
      refine HL14.out.swept.mono ?_
      rintro e16 w16 ⟨rfl, rfl⟩
      have bs : (s.over == s.over) = true := by simp
      go_wp2_with fail
      go_loopw [10] (fun iv wr => ∃ i : Nat, i ≤ ks.length ∧ i ≤ 8 ∧ iv = .int .i64 (i : Int) ∧ Hid (Live W1 wr g F s) ∧ Hid (Live W1 wr g2 F2 s)) (fun iv _ => ks.length - (RowKit.intOf iv).toNat)
      case atStart => exact ⟨0, by omega, by omega, rfl, HL14, HM14⟩
      case round =>
        clear HL14 HM14
        obtain ⟨i, hi, hi8, rfl, hL, hM⟩ := hrel
        have q0 := (HC.out _ hL.out.bel).cell (i := 0) rfl
        have q2 := (HC.out _ hL.out.bel).cell (i := 2) rfl
        by_cases hlt : i < ks.length ∧ i < 8
        · obtain ⟨hlt, hlt8⟩ := hlt
          have pi : (i : Int) < (ks.length : Int) := by omega
          have pi8 : (i : Int) < 8 := by omega
          have hL2 := hL
          have hM2 := hM
          go_wp2_with fail
          go_loopw [11] (fun kv wr => ∃ k : Nat, k ≤ ms.length ∧ k ≤ 8 ∧ kv = .int .i64 (k : Int) ∧ Hid (Live W1 wr g F s) ∧ Hid (Live W1 wr g2 F2 s)) (fun kv _ => ms.length - (RowKit.intOf kv).toNat)
          case atStart => exact ⟨0, by omega, by omega, rfl, hL2, hM2⟩
          case round =>
            clear hL hM hL2 hM2 q0 q2
            obtain ⟨k, hk, hk8, rfl, hL, hM⟩ := hrel
            have q0 := (HC.out _ hL.out.bel).cell (i := 0) rfl
            have q2 := (HC.out _ hL.out.bel).cell (i := 2) rfl
            by_cases hklt : k < ms.length ∧ k < 8
            · obtain ⟨hklt, hklt8⟩ := hklt
              have pk : (k : Int) < (ms.length : Int) := by omega
              have pk8 : (k : Int) < 8 := by omega
              obtain ⟨kd, rfl, -, hcK⟩ := HKa.out _ (HB1.out.trans (hL.out.bel.mono HB1.out.size)) (by omega)
              obtain ⟨md, rfl, -, hcM⟩ := HMa.out _ (HB1.out.trans (hL.out.bel.mono HB1.out.size)) (by omega)
              have HCk := Lib.hid (fun V (hV : Below wr.heap.size wr V) => (cell_kept hV _ (cell_lt2 (hcK i hlt))).trans (hcK i hlt))
              have HCm := Lib.hid (fun V (hV : Below wr.heap.size wr V) => (cell_kept hV _ (cell_lt2 (hcM k hklt))).trans (hcM k hklt))
              have HKx := Lib.hid (HKs.out _ (List.getElem_mem hlt))
              clear hcK hcM
              generalize ks[i] = key at HCk HKx
              generalize ms[k] = tm at HCm
              have hR1 := fun V (hV : Below wr.heap.size wr V) => (hL.out.below hV).read key tm HKx.out
              have hR2 := fun V (h : Live W1 V g2 F2 s) => h.read key tm HKx.out
              obtain ⟨code, vr, hrd⟩ : ∃ code vr, readP s key tm = (code, vr) := ⟨_, _, rfl⟩
              rw [hrd] at hR1 hR2
              obtain ⟨vt, vs, vd⟩ := vr
              simp only at hR1 hR2
              have HR1 : Hid (∀ V, Below wr.heap.size wr V → Calls Tryz.prog 22 #[.pointer (some ⟨g, 0, none⟩), .string key, .int .i64 tm] V fun e w' => e = .returned (.tuple #[.int .i64 code, .agg #[.int .i64 vt, .string vs, .bool vd]]) ∧ Below V.heap.size V w') := Lib.hid (fun V hV => (hR1 V hV).mono fun e w' h => ⟨h.1, h.2.2⟩)
              have HR2 : Hid (∀ V, Live W1 V g2 F2 s → Calls Tryz.prog 22 #[.pointer (some ⟨g2, 0, none⟩), .string key, .int .i64 tm] V fun e w' => e = .returned (.tuple #[.int .i64 code, .agg #[.int .i64 vt, .string vs, .bool vd]]) ∧ Below V.heap.size V w') := Lib.hid (fun V hV => (hR2 V hV).mono fun e w' h => ⟨h.1, h.2.2⟩)
              have HQ := Lib.hid (fun V (hV : Below wr.heap.size wr V) => HC.out V (hL.out.bel.trans (hV.mono hL.out.bel.size)))
              clear hR1 hR2 hrd
              go_upto_region 19 with fail
              clear q0 q2
              refine wp_region_said 17 [85, 86, 87, 88, 89, 90, 91, 92, 93, 94, 95, 96, 84, 97, 98, 13, 12]
                [.is (.pointer (some ⟨g, 0, none⟩)), .is (.pointer (some ⟨W.heap.size, 0, none⟩)), .is (.slice (some kd) ks.length a), .is (.int .i64 (i : Int)), .is (.pointer (some (kd.add i))), .is (.string key), .is (.pointer (some ⟨W.heap.size, 2, none⟩)), .is (.slice (some md) ms.length c), .is (.int .i64 (k : Int)), .is (.pointer (some (md.add k))), .is (.int .i64 tm),
                 .is (.tuple #[.int .i64 code, .agg #[.int .i64 vt, .string vs, .bool vd]]), .is (.tuple #[.int .i64 code, .agg #[.int .i64 vt, .string vs, .bool vd]]), .is (.int .i64 code), .is (.agg #[.int .i64 vt, .string vs, .bool vd]), .blk 55 #[.int .i64 0, .string ⟨#[]⟩, .bool false], .is (.int .i64 code)]
                (fun V => Below wr.heap.size wr V) (by kernel_rfl) (by kernel_rfl) (by kernel_rfl) (by kernel_rfl) (by kernel_rfl) (fun V V' h hb => h.trans (hb.mono h.size)) (Below.refl _ _) ?steps19 ?last19
              case steps19 =>
                simp only [List.take_succ_cons, List.take_zero]
                refine ⟨?_, ?_, ?_, ?_, ?_, ?_, ?_, ?_, ?_, ?_, ?_, ?_, ?_, ?_, ?_, ?_, ?_, trivial⟩
                all_goals
                  intro vs V ρ hρ hc hf hg hI hH hd R' hR
                  have q0 := (HQ.out V hI).cell (i := 0) rfl
                  have q2 := (HQ.out V hI).cell (i := 2) rfl
                  have x0 := HCk.out V hI
                  have x1 := HCm.out V hI
                  have HR := Lib.hid hR
                  have HI := Lib.hid hI
                  simp [depsOf, Region.binds, sayAt, Say.holds] at hd
                  clear hR hI
                  go_simp
                  first
                    | exact HR.out _ _ (by simp [sayAt, Say.holds]) (Below.refl _ _) (by simp [sayAt, Say.isBlk])
                    | exact HR.out _ _ ⟨_, hH, by simp, rfl, heap_alloc_new _ _⟩ ((Below.refl _ _).alloc (Nat.le_refl _) _) (by simp [sayAt, Say.isBlk])
                    | (refine (HR1.out V HI.out).mono ?_; rintro e w' ⟨rfl, hb⟩; exact ⟨_, rfl, HR.out _ _ (by simp [sayAt, Say.holds]) hb (by simp [sayAt, Say.isBlk])⟩)
                    | (refine (HR1.out V HI.out).mono ?_; rintro e w' ⟨rfl, hb⟩; exact HR.out _ _ (by simp [sayAt, Say.holds]) hb (by simp [sayAt, Say.isBlk]))
                    | trace_state
              case last19 =>
                intro vs2 V hI hbb hg hd
                have g14 := hg 14 (by omega)
                have g16 := hg 16 (by omega)
                obtain ⟨p1, hp1, hp2, g15, hp⟩ := hg 15 (by omega)
                simp only [sayAt, Say.holds, List.getD_cons_succ, List.getD_cons_zero] at g14 g16
                simp only [List.take_succ_cons, List.take_zero, List.drop_succ_cons, List.drop_zero, putAll, Act.put, List.setIfInBounds_toArray, List.set_cons_succ, List.set_cons_zero, Nat.zero_add, Nat.reduceAdd]
                rw [g14, g15, g16]
                have hp0 : Cel V p1 55 [.int .i64 0, .string ⟨#[]⟩, .bool false] := hp
                have f0 := hp0.free (i := 0)
                have f1 := hp0.free (i := 1)
                have f2 := hp0.free (i := 2)
                have z0 := hp0.cell (i := 0) rfl
                have z1 := hp0.cell (i := 1) rfl
                have z2 := hp0.cell (i := 2) rfl
                have HP := Lib.hid hp0
                have HP1 := Lib.hid hp1
                have HI := Lib.hid hI
                clear g14 g15 g16 hg hd hbb hI hp hp0 hp1
                go_upto_region 20 with fail
                have hc20 : Cel (((V.setCell ⟨p1, 0, none⟩ (.int .i64 vt)).setCell ⟨p1, 1, none⟩ (.string vs)).setCell ⟨p1, 2, none⟩ (.bool vd)) p1 55 [.int .i64 vt, .string vs, .bool vd] := set3_cel HP.out
                have hb20 : Below wr.heap.size wr (((V.setCell ⟨p1, 0, none⟩ (.int .i64 vt)).setCell ⟨p1, 1, none⟩ (.string vs)).setCell ⟨p1, 2, none⟩ (.bool vd)) := set3_below HI.out HP1.out
                generalize (((V.setCell ⟨p1, 0, none⟩ (.int .i64 vt)).setCell ⟨p1, 1, none⟩ (.string vs)).setCell ⟨p1, 2, none⟩ (.bool vd)) = W20 at hc20 hb20 ⊢
                have HC20 := Lib.hid hc20
                have HL20 := Lib.hid (hL.out.below hb20)
                have HM20 := Lib.hid (hM.out.below hb20)
                have HB20 := Lib.hid hb20
                clear hc20 hb20 f0 f1 f2 z0 z1 z2 HP HP1 HI hL hM HR1
                refine wp_region_said 17 [100, 101, 102, 103, 104, 105, 106, 107, 108, 109, 110, 111, 99, 112, 113, 15, 14]
                  [.is (.pointer (some ⟨g2, 0, none⟩)), .is (.pointer (some ⟨W.heap.size, 0, none⟩)), .is (.slice (some kd) ks.length a), .is (.int .i64 (i : Int)), .is (.pointer (some (kd.add i))), .is (.string key), .is (.pointer (some ⟨W.heap.size, 2, none⟩)), .is (.slice (some md) ms.length c), .is (.int .i64 (k : Int)), .is (.pointer (some (md.add k))), .is (.int .i64 tm),
                   .is (.tuple #[.int .i64 code, .agg #[.int .i64 vt, .string vs, .bool vd]]), .is (.tuple #[.int .i64 code, .agg #[.int .i64 vt, .string vs, .bool vd]]), .is (.int .i64 code), .is (.agg #[.int .i64 vt, .string vs, .bool vd]), .blk 55 #[.int .i64 0, .string ⟨#[]⟩, .bool false], .is (.int .i64 code)]
                  (fun V => Below W20.heap.size W20 V) (by kernel_rfl) (by kernel_rfl) (by kernel_rfl) (by kernel_rfl) (by kernel_rfl) (fun V V' h hb => h.trans (hb.mono h.size)) (Below.refl _ _) ?steps20 ?last20
                case steps20 =>
                  simp only [List.take_succ_cons, List.take_zero]
                  refine ⟨?_, ?_, ?_, ?_, ?_, ?_, ?_, ?_, ?_, ?_, ?_, ?_, ?_, ?_, ?_, ?_, ?_, trivial⟩
                  all_goals
                    intro vs V ρ hρ hc hf hg hI hH hd R' hR
                    have hI2 := HB20.out.trans (Below.mono hI HB20.out.size)
                    have q0 := (HQ.out V hI2).cell (i := 0) rfl
                    have q2 := (HQ.out V hI2).cell (i := 2) rfl
                    have x0 := HCk.out V hI2
                    have x1 := HCm.out V hI2
                    have HR := Lib.hid hR
                    have HI := Lib.hid hI
                    simp [depsOf, Region.binds, sayAt, Say.holds] at hd
                    clear hR hI hI2
                    go_simp
                    first
                      | exact HR.out _ _ (by simp [sayAt, Say.holds]) (Below.refl _ _) (by simp [sayAt, Say.isBlk])
                      | exact HR.out _ _ ⟨_, hH, by simp, rfl, heap_alloc_new _ _⟩ ((Below.refl _ _).alloc (Nat.le_refl _) _) (by simp [sayAt, Say.isBlk])
                      | (refine (HR2.out V (HM20.out.below HI.out)).mono ?_; rintro e w' ⟨rfl, hb⟩; exact ⟨_, rfl, HR.out _ _ (by simp [sayAt, Say.holds]) hb (by simp [sayAt, Say.isBlk])⟩)
                      | (refine (HR2.out V (HM20.out.below HI.out)).mono ?_; rintro e w' ⟨rfl, hb⟩; exact HR.out _ _ (by simp [sayAt, Say.holds]) hb (by simp [sayAt, Say.isBlk]))
                      | trace_state
                case last20 =>
                  intro vs3 V2 hI hbb hg hd
                  have g14 := hg 14 (by omega)
                  have g16 := hg 16 (by omega)
                  obtain ⟨p2, hp1, hp2, g15, hp⟩ := hg 15 (by omega)
                  simp only [sayAt, Say.holds, List.getD_cons_succ, List.getD_cons_zero] at g14 g16
                  simp only [List.take_succ_cons, List.take_zero, List.drop_succ_cons, List.drop_zero, putAll, Act.put, List.setIfInBounds_toArray, List.set_cons_succ, List.set_cons_zero, Nat.zero_add, Nat.reduceAdd]
                  rw [g14, g15, g16]
                  have hp0 : Cel V2 p2 55 [.int .i64 0, .string ⟨#[]⟩, .bool false] := hp
                  have f0 := hp0.free (i := 0)
                  have f1 := hp0.free (i := 1)
                  have f2 := hp0.free (i := 2)
                  have z0 := hp0.cell (i := 0) rfl
                  have z1 := hp0.cell (i := 1) rfl
                  have z2 := hp0.cell (i := 2) rfl
                  have HP := Lib.hid hp0
                  have HP1 := Lib.hid hp1
                  have HI := Lib.hid hI
                  clear g14 g15 g16 hg hd hbb hI hp hp0 hp1
                  go_upto_region 21 with fail
                  have hc21 : Cel (((V2.setCell ⟨p2, 0, none⟩ (.int .i64 vt)).setCell ⟨p2, 1, none⟩ (.string vs)).setCell ⟨p2, 2, none⟩ (.bool vd)) p2 55 [.int .i64 vt, .string vs, .bool vd] := set3_cel HP.out
                  have hb21 : Below W20.heap.size W20 (((V2.setCell ⟨p2, 0, none⟩ (.int .i64 vt)).setCell ⟨p2, 1, none⟩ (.string vs)).setCell ⟨p2, 2, none⟩ (.bool vd)) := set3_below HI.out HP1.out
                  generalize (((V2.setCell ⟨p2, 0, none⟩ (.int .i64 vt)).setCell ⟨p2, 1, none⟩ (.string vs)).setCell ⟨p2, 2, none⟩ (.bool vd)) = W21 at hc21 hb21 ⊢
                  have hc1 := HC20.out.below hb21
                  have HL21 := Lib.hid (HL20.out.below hb21)
                  have HM21 := Lib.hid (HM20.out.below hb21)
                  clear f0 f1 f2 z0 z1 z2 HP HP1 HI hb21 HC20 HL20 HM20 HB20
                  have v0 := hc1.cell (i := 0) rfl
                  have v1 := hc1.cell (i := 1) rfl
                  have v2 := hc1.cell (i := 2) rfl
                  have r0 := hc21.cell (i := 0) rfl
                  have r1 := hc21.cell (i := 1) rfl
                  have r2 := hc21.cell (i := 2) rfl
                  have te := text_eq vs
                  have bc : (code == code) = true := by simp
                  clear hc1 hc21
                  go_wp2_with fail
                  go_roundw
                  case rel => exact ⟨k + 1, by omega, by omega, by go_num, HL21, HM21⟩
                  case measure => simp [RowKit.intOf]; omega
            · by_cases hk1 : k < ms.length
              · have pk : (k : Int) < (ms.length : Int) := by omega
                have pk8 : ¬ (k : Int) < 8 := by omega
                go_wp2_with fail
                go_roundw
                case rel => exact ⟨i + 1, by omega, by omega, by go_num, hL, hM⟩
                case measure => simp [RowKit.intOf]; omega
              · have pk : ¬ (k : Int) < (ms.length : Int) := by omega
                go_wp2_with fail
                go_roundw
                case rel => exact ⟨i + 1, by omega, by omega, by go_num, hL, hM⟩
                case measure => simp [RowKit.intOf]; omega
        · have HB9 := Lib.hid (HB1.out.trans (hL.out.bel.mono HB1.out.size))
          by_cases hi1 : i < ks.length
          · have pi : (i : Int) < (ks.length : Int) := by omega
            have pi8 : ¬ (i : Int) < 8 := by omega
            go_wp2_with fail
            go_ret
            exact ⟨rfl, HB9.out⟩
          · have pi : ¬ (i : Int) < (ks.length : Int) := by omega
            go_wp2_with fail
            go_ret
            exact ⟨rfl, HB9.out⟩

end Sh
end Go.Proofs.YtiobhbagjokpcaaGreat
