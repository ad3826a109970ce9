/- Parts of the proof, joined: ShRef12, ShRef13, ShRef14; their conditions stand with each. -/
import Derived.Test.YtbkanoblcojdfaaGreatM17
import Derived.Test.YtbkanoblcojdfaaGreatM18

namespace Go.Proofs.YtbkanoblcojdfaaGreat
namespace Sh
open Go.RowKit Bk Ch Lt Rc Tr
attribute [local go_sem ↓] Go.wp_at_zero Go.wp_at_succ
attribute [local go_sem] floatUpon pick
theorem ver_may (s : Shf) (key : ByteArray) (v : Vr) : verP s key v = if mayP s key v ≠ 0 then (s, mayP s key v) else (⟨addK s.k key v, s.p, s.e, s.over⟩, 0) := by
  unfold verP mayP
  generalize (addP (chainK s.k key) v).2 = e
  by_cases h2 : hasK s.k key = false ∧ 1024 ≤ s.k.length
  · simp only [if_pos h2]
    by_cases h1 : e = 0
    · subst h1; simp
    · simp [h1]
  · simp only [if_neg h2]
    by_cases h1 : e = 0
    · subst h1; simp
    · simp [h1]
section
variable {W : World} {F : Nat → Prop} {g : Nat} {A B C : Option Addr} {a b c : Nat} {K : List KI} {P : List RI} {s : Shf}
set_option maxRecDepth 20000 in
set_option maxHeartbeats 16000000 in
theorem rapply_any (h : RAt W F g A B C a b c K P s) (hs : ShOk s) (hF : ∀ k, F k → k < W.heap.size) (x : RI) (hx : PVal W (G F g) x) :
    Calls Tryz.prog 13 #[.pointer (some ⟨g, 0, none⟩), .agg (rcs x).toArray] W fun e w' => e = .returned (.int .i64 (applyP s x.l).2) ∧ RRep w' F g (applyP s x.l).1 ∧ One g W w' := by
  have HCk := Lib.hid (fun V (hb : Below W.heap.size W V) => check_any x.A x.B x.c x.d x.l V (hx.val.ks.below hb) (hx.val.ws.below hb) hx.val.rng.toRecRng)
  have HPr := Lib.hid (fun V (hb : Below W.heap.size W V) => rprepare_any (h.below hb) hs (fun k hk => Nat.lt_of_lt_of_le (hF k hk) hb.size) x (hx.away (Away.of hb)))
  have HDo := Lib.hid (fun V (hb : Below W.heap.size W V) (hr : RecOk x.l) => rdo_any (h.below hb) hs (fun k hk => Nat.lt_of_lt_of_le (hF k hk) hb.size) x.l.txn x.l.ts (by have := hr.1.2.1; unfold stampOk at this; omega))
  have HSw := Lib.hid (fun V (hb : Below W.heap.size W V) => rsweeps_any (h.below hb) hs.kok hs.kl (fun k hk => Nat.lt_of_lt_of_le (hF k hk) hb.size) x.l.ts)
  have hvr : VrRng ⟨x.l.ts, x.l.text, x.l.dead⟩ := ⟨hx.val.rng.ts, hx.val.rng.text⟩
  have HMa := Lib.hid (fun V (hb : Below W.heap.size W V) => rmay_any (h.below hb) hs.kok hs.kl x.l.key ⟨x.l.ts, x.l.text, x.l.dead⟩ hvr)
  have HAd := Lib.hid (fun V (hb : Below W.heap.size W V) => radd2_any (h.below hb) hs.kok hs.kl (fun k hk => Nat.lt_of_lt_of_le (hF k hk) hb.size) x.l.key ⟨x.l.ts, x.l.text, x.l.dead⟩ hvr)
  have HOld := Lib.hid (show ∀ V, Below W.heap.size W V → ∀ e, applyP s x.l = (s, e) → RRep V F g (applyP s x.l).1 ∧ One g W V from fun V hb e he => ⟨⟨_, _, _, _, _, _, _, _, by rw [he]; exact h.below hb⟩, One.of hb⟩)
  have H0 := Lib.hid (fun (hr : ¬ RecOk x.l) => show applyP s x.l = (s, 80) by unfold applyP; rw [if_pos hr])
  have H1 := Lib.hid (fun (hr : RecOk x.l) (hk : x.l.kind = 1) => show applyP s x.l = prepareP s x.l by unfold applyP; rw [if_neg (by simpa using hr), if_pos hk])
  have H2 := Lib.hid (fun (hr : RecOk x.l) (hk : x.l.kind = 2) => show applyP s x.l = doP s x.l.txn x.l.ts by unfold applyP; rw [if_neg (by simpa using hr), if_neg (by omega), if_pos hk])
  have H3 := Lib.hid (fun (hr : RecOk x.l) (hk : x.l.kind = 3) => show applyP s x.l = if mayP s x.l.key ⟨x.l.ts, x.l.text, x.l.dead⟩ ≠ 0 then (s, mayP s x.l.key ⟨x.l.ts, x.l.text, x.l.dead⟩) else (⟨addK s.k x.l.key ⟨x.l.ts, x.l.text, x.l.dead⟩, s.p, s.e, s.over⟩, 0) by rw [← ver_may]; unfold applyP; rw [if_neg (by simpa using hr), if_neg (by omega), if_neg (by omega), if_pos hk])
  have H4 := Lib.hid (fun (hr : RecOk x.l) (hk : x.l.kind = 4) => show applyP s x.l = sweepS s x.l.ts by unfold applyP; rw [if_neg (by simpa using hr), if_neg (by omega), if_neg (by omega), if_neg (by omega), if_pos hk])
  have H5 := Lib.hid (fun (hr : RecOk x.l) (h1 : x.l.kind ≠ 1) (h2 : x.l.kind ≠ 2) (h3 : x.l.kind ≠ 3) (h4 : x.l.kind ≠ 4) => show applyP s x.l = (s, 80) by unfold applyP; rw [if_neg (by simpa using hr), if_neg h1, if_neg h2, if_neg h3, if_neg h4])
  obtain ⟨r, A1, B1, c1, d1⟩ := x
  simp only at HOld H0 H1 H2 H3 H4 H5 HDo HSw HMa HAd
  clear h hs hF hx hvr
  show Calls _ _ #[_, .agg #[.int .i64 r.kind, .int .i64 r.txn, .int .i64 r.ts, .int .i64 r.coord, .string r.key, .string r.text, .bool r.dead, .slice A1 r.keys.length c1, .slice B1 r.ws.length d1]] _ _
  go_enter Tryz.func13, Tryz.ntmps13
  go_upto_region 1 with fail
  have hR0 : Cel (W.alloc (.cells #[.int .i64 r.kind, .int .i64 r.txn, .int .i64 r.ts, .int .i64 r.coord, .string r.key, .string r.text, .bool r.dead, .slice A1 r.keys.length c1, .slice B1 r.ws.length d1] 37)) W.heap.size 37 [.int .i64 r.kind, .int .i64 r.txn, .int .i64 r.ts, .int .i64 r.coord, .string r.key, .string r.text, .bool r.dead, .slice A1 r.keys.length c1, .slice B1 r.ws.length d1] := (blk1 W _).2
  have hB0 : Below W.heap.size W (W.alloc (.cells #[.int .i64 r.kind, .int .i64 r.txn, .int .i64 r.ts, .int .i64 r.coord, .string r.key, .string r.text, .bool r.dead, .slice A1 r.keys.length c1, .slice B1 r.ws.length d1] 37)) := (Below.refl _ W).alloc (Nat.le_refl _) _
  generalize hW0 : W.alloc (.cells #[.int .i64 r.kind, .int .i64 r.txn, .int .i64 r.ts, .int .i64 r.coord, .string r.key, .string r.text, .bool r.dead, .slice A1 r.keys.length c1, .slice B1 r.ws.length d1] 37) = W0 at hR0 hB0 ⊢
  clear hW0
  have q0 := hR0.cell (i := 0) rfl
  have q1 := hR0.cell (i := 1) rfl
  have q2 := hR0.cell (i := 2) rfl
  have q3 := hR0.cell (i := 3) rfl
  have q4 := hR0.cell (i := 4) rfl
  have q5 := hR0.cell (i := 5) rfl
  have q6 := hR0.cell (i := 6) rfl
  have q7 := hR0.cell (i := 7) rfl
  have q8 := hR0.cell (i := 8) rfl
  have HR0 := Lib.hid hR0
  have HB0 := Lib.hid hB0
  clear hR0 hB0
  go_wp2_with fail
  refine (show Calls _ _ #[.agg #[.int .i64 r.kind, .int .i64 r.txn, .int .i64 r.ts, .int .i64 r.coord, .string r.key, .string r.text, .bool r.dead, .slice A1 r.keys.length c1, .slice B1 r.ws.length d1]] _ _ from HCk.out _ HB0.out).mono ?_
  rintro e1 w1 ⟨rfl, hb⟩
  have hr1 := HR0.out.below (hb.mono (by have := HR0.out.lt; omega))
  have HB1 := Lib.hid (HB0.out.trans (hb.mono HB0.out.size))
  clear q0 q1 q2 q3 q4 q5 q6 q7 q8 hb HB0 HR0 HCk
  by_cases hok : RecOk r
  case neg =>
    have E := Lib.hid (H0.out hok)
    have ck : ((Rc.ckN r : Nat) : Int) = 80 := by rw [Rc.ckN_not hok]; rfl
    rw [ck]
    clear H0 H1 H2 H3 H4 H5 hok ck hr1
    go_wp2_with fail
    go_ret
    exact ⟨by rw [E.out]; rfl, HOld.out _ HB1.out _ E.out⟩
  have ck : ((Rc.ckN r : Nat) : Int) = 0 := by rw [Rc.ckN_of hok]; rfl
  rw [ck]
  have HOk := Lib.hid hok
  have q0 := hr1.cell (i := 0) rfl
  have q1 := hr1.cell (i := 1) rfl
  have q2 := hr1.cell (i := 2) rfl
  have q3 := hr1.cell (i := 3) rfl
  have q4 := hr1.cell (i := 4) rfl
  have q5 := hr1.cell (i := 5) rfl
  have q6 := hr1.cell (i := 6) rfl
  have q7 := hr1.cell (i := 7) rfl
  have q8 := hr1.cell (i := 8) rfl
  have HR1 := Lib.hid hr1
  clear H0 hok ck hr1
  obtain ⟨kd, hkd⟩ : ∃ kd, r.kind = kd := ⟨_, rfl⟩
  rw [hkd] at q0
  by_cases k1 : kd = 1
  · have E := Lib.hid (H1.out HOk.out (by omega))
    have pz : (kd == 1) = true := by simpa using k1
    have HPr2 := Lib.hid (show Calls Tryz.prog 45 #[.pointer (some ⟨g, 0, none⟩), .agg #[.int .i64 kd, .int .i64 r.txn, .int .i64 r.ts, .int .i64 r.coord, .string r.key, .string r.text, .bool r.dead, .slice A1 r.keys.length c1, .slice B1 r.ws.length d1]] w1 _ from by rw [← hkd]; exact HPr.out _ HB1.out)
    clear H1 H2 H3 H4 H5 hkd k1
    go_wp2_with fail
    refine HPr2.out.mono ?_
    rintro e2 w2 ⟨rfl, ⟨B', b', P', hR⟩, ho⟩
    have HR := Lib.hid hR
    have HO := Lib.hid ((One.of (g := g) HB1.out).trans ho)
    clear hR ho
    go_wp2_with fail
    go_ret
    exact ⟨by rw [E.out]; rfl, ⟨_, _, _, _, _, _, _, _, by rw [E.out]; exact HR.out⟩, HO.out⟩
  have p1 : (kd == 1) = false := by simpa using k1
  by_cases k2 : kd = 2
  · have E := Lib.hid (H2.out HOk.out (by omega))
    have pz : (kd == 2) = true := by simpa using k2
    clear H1 H2 H3 H4 H5 hkd k1 k2
    go_wp2_with fail
    refine (HDo.out _ HB1.out HOk.out).mono ?_
    rintro e2 w2 ⟨rfl, hR, ho⟩
    have HR := Lib.hid hR
    have HO := Lib.hid ((One.of (g := g) HB1.out).trans ho)
    clear hR ho
    go_wp2_with fail
    go_ret
    exact ⟨by rw [E.out]; rfl, by rw [E.out]; exact HR.out, HO.out⟩
  have p2 : (kd == 2) = false := by simpa using k2
  by_cases k3 : kd = 3
  · have E := Lib.hid (H3.out HOk.out (by omega))
    have pz : (kd == 3) = true := by simpa using k3
    clear H1 H2 H3 H4 H5 hkd k1 k2 k3
    have hr1 := HR1.out
    go_upto_region 10 with fail
    have hv2 : Cel (w1.alloc (.cells #[.int .i64 r.ts, .string r.text, .bool r.dead] 77)) w1.heap.size 77 [.int .i64 r.ts, .string r.text, .bool r.dead] := (blk1 w1 _).2
    have hb2 : Below w1.heap.size w1 (w1.alloc (.cells #[.int .i64 r.ts, .string r.text, .bool r.dead] 77)) := (Below.refl _ w1).alloc (Nat.le_refl _) _
    generalize w1.alloc (.cells #[.int .i64 r.ts, .string r.text, .bool r.dead] 77) = w2 at hv2 hb2 ⊢
    have hr2 := hr1.below (hb2.mono (by have := hr1.lt; omega))
    have HB2 := Lib.hid (HB1.out.trans (hb2.mono HB1.out.size))
    have HV2 := Lib.hid hv2
    have HR2 := Lib.hid hr2
    clear hr1 q0 q1 q2 q3 q4 q5 q6 q7 q8
    have q4 := hr2.cell (i := 4) rfl
    have v0 := hv2.cell (i := 0) rfl
    have v1 := hv2.cell (i := 1) rfl
    have v2 := hv2.cell (i := 2) rfl
    clear hr2 hv2 hb2
    go_wp2_with fail
    refine (show Calls _ _ #[_, _, .agg #[.int .i64 r.ts, .string r.text, .bool r.dead]] _ _ from HMa.out _ HB2.out).mono ?_
    rintro e3 w3 ⟨rfl, hb⟩
    have hr3 := HR2.out.below (hb.mono (by have := HR2.out.lt; omega))
    have hv3 := HV2.out.below hb
    have HB3 := Lib.hid (HB2.out.trans (hb.mono HB2.out.size))
    clear q4 v0 v1 v2 hb HMa HR2 HV2 HB2
    have q4 := hr3.cell (i := 4) rfl
    have v0 := hv3.cell (i := 0) rfl
    have v1 := hv3.cell (i := 1) rfl
    have v2 := hv3.cell (i := 2) rfl
    clear hr3 hv3
    generalize mayP s r.key ⟨r.ts, r.text, r.dead⟩ = m at E
    by_cases hm : m = 0
    · have E2 := Lib.hid (show applyP s r = (⟨addK s.k r.key ⟨r.ts, r.text, r.dead⟩, s.p, s.e, s.over⟩, 0) by rw [E.out, if_neg (by simpa using hm)])
      subst hm
      clear E
      go_wp2_with fail
      refine (show Calls _ _ #[_, _, .agg #[.int .i64 r.ts, .string r.text, .bool r.dead]] _ _ from HAd.out _ HB3.out).mono ?_
      rintro e4 w4 ⟨rfl, ⟨A', a', K', hR⟩, ho⟩
      have HR := Lib.hid hR
      have HO := Lib.hid ((One.of (g := g) HB3.out).trans ho)
      clear hR ho
      go_wp2_with fail
      go_ret
      exact ⟨by rw [E2.out]; rfl, ⟨_, _, _, _, _, _, _, _, by rw [E2.out]; exact HR.out⟩, HO.out⟩
    · have E2 := Lib.hid (show applyP s r = (s, m) by rw [E.out, if_pos hm])
      have pm : (m == 0) = false := by simpa using hm
      clear E hm
      go_wp2_with fail
      go_ret
      exact ⟨by rw [E2.out]; rfl, HOld.out _ HB3.out _ E2.out⟩
  have p3 : (kd == 3) = false := by simpa using k3
  by_cases k4 : kd = 4
  · have E := Lib.hid (H4.out HOk.out (by omega))
    have pz : (kd == 4) = true := by simpa using k4
    clear H1 H2 H3 H4 H5 hkd k1 k2 k3 k4
    go_wp2_with fail
    refine (HSw.out _ HB1.out).mono ?_
    rintro e2 w2 ⟨rfl, ⟨A', a', K', hR⟩, ho⟩
    have HR := Lib.hid hR
    have HO := Lib.hid ((One.of (g := g) HB1.out).trans ho)
    clear hR ho
    go_wp2_with fail
    go_ret
    exact ⟨by rw [E.out]; rfl, ⟨_, _, _, _, _, _, _, _, by rw [E.out]; exact HR.out⟩, HO.out⟩
  have p4 : (kd == 4) = false := by simpa using k4
  have E := Lib.hid (H5.out HOk.out (by omega) (by omega) (by omega) (by omega))
  clear H1 H2 H3 H4 H5 hkd k1 k2 k3 k4
  go_wp2_with fail
  go_ret
  exact ⟨by rw [E.out]; rfl, HOld.out _ HB1.out _ E.out⟩
end
end Sh
end Go.Proofs.YtbkanoblcojdfaaGreat

namespace Go.Proofs.YtbkanoblcojdfaaGreat
namespace Sh
open Go.RowKit Bk Ch Lt Rc Tr
attribute [local go_sem ↓] Go.wp_at_zero Go.wp_at_succ
attribute [local go_sem] floatUpon pick
section
variable {W : World} {F : Nat → Prop} {g : Nat} {A B C : Option Addr} {a b c : Nat} {K : List KI} {P : List RI} {s : Shf}
theorem RAt.two {g' : Nat} (h : RAt W F g A B C a b c K P s) (hF : ∀ k, F k → k < W.heap.size) {W' : World} (hb : Below W.heap.size W W') (hg : W.heap.size ≤ g') (hc : Cel W' g' 33 [.slice A K.length a, .slice B P.length b, .slice C s.e.length c, .int .i64 s.over]) :
    RAt W' (G F g) g' A B C a b c K P s ∧ RAt W' (G F g') g A B C a b c K P s :=
  have hW := h.below hb
  have hlt := h.cel.lt
  have t1 : ∀ k, G (G F g) g' k → G F g k ∨ W.heap.size ≤ k := fun k hk => hk.elim .inl (fun e => .inr (by rw [e]; exact hg))
  have t2 : ∀ k, G (G F g') g k → G F g k ∨ W.heap.size ≤ k := fun k hk => hk.elim (fun h1 => h1.elim (fun f => .inl (.inl f)) (fun e => .inr (by rw [e]; exact hg))) (fun e => .inl (.inr e))
  have aw : Away (G F g) W W' := Away.of hb
  ⟨⟨hc, (h.rk.turn t1).away (Away.of hb), (h.rp.turn t1).away (Away.of hb), (h.re.turn t1).away (Away.of hb), fun x hx => ((h.kv x hx).turn t1).away (Away.of hb), fun x hx => ((h.pv x hx).turn t1).away (Away.of hb), h.ek, h.ep, h.an, h.bn, h.cn, h.al, h.bl, h.cl, fun hf => hf.elim (fun f => by have := hF _ f; omega) (fun e => by omega)⟩,
   ⟨hW.cel, (h.rk.turn t2).away (Away.of hb), (h.rp.turn t2).away (Away.of hb), (h.re.turn t2).away (Away.of hb), fun x hx => ((h.kv x hx).turn t2).away (Away.of hb), fun x hx => ((h.pv x hx).turn t2).away (Away.of hb), h.ek, h.ep, h.an, h.bn, h.cn, h.al, h.bl, h.cl, fun hf => hf.elim h.ng (fun e => by omega)⟩⟩
set_option maxRecDepth 20000 in
set_option maxHeartbeats 8000000 in
theorem rfork_any (h : RAt W F g A B C a b c K P s) (hF : ∀ k, F k → k < W.heap.size) :
    Calls Tryz.prog 12 #[.pointer (some ⟨g, 0, none⟩)] W fun e w' => ∃ g', e = .returned (.pointer (some ⟨g', 0, none⟩)) ∧ W.heap.size ≤ g' ∧ RAt w' (G F g) g' A B C a b c K P s ∧ RAt w' (G F g') g A B C a b c K P s ∧ Below W.heap.size W w' := by
  have HT := Lib.hid (fun g' W' => h.two hF (g' := g') (W' := W'))
  have HH := Lib.hid (fun V (hb : Below W.heap.size W V) => h.below hb)
  clear h hF
  go_enter Tryz.func12, Tryz.ntmps12
  go_upto_region 1 with fail
  refine wp_region_said 17 [3, 4, 5, 6, 7, 8, 9, 10, 11, 12, 13, 14, 15, 16, 17, 18, 19]
    [.is (.pointer (some ⟨g, 0, none⟩)), .is (.pointer (some ⟨g, 0, none⟩)), .is (.pointer (some ⟨g, 0, none⟩)), .is (.slice A K.length a), .is (.pointer (some ⟨g, 0, none⟩)), .is (.pointer (some ⟨g, 0, none⟩)), .is (.pointer (some ⟨g, 1, none⟩)), .is (.slice B P.length b), .is (.pointer (some ⟨g, 0, none⟩)), .is (.pointer (some ⟨g, 0, none⟩)), .is (.pointer (some ⟨g, 2, none⟩)), .is (.slice C s.e.length c), .is (.pointer (some ⟨g, 0, none⟩)), .is (.pointer (some ⟨g, 0, none⟩)), .is (.pointer (some ⟨g, 3, none⟩)), .is (.int .i64 s.over), .is (.agg #[.slice A K.length a, .slice B P.length b, .slice C s.e.length c, .int .i64 s.over])]
    (fun V => Below W.heap.size W V) (by kernel_rfl) (by kernel_rfl) (by kernel_rfl) (by kernel_rfl) (by kernel_rfl) (fun V V' h hb => h.trans (hb.mono h.size)) (Below.refl _ _) ?steps ?last
  case steps =>
    simp only [List.take_succ_cons, List.take_zero]
    refine ⟨?_, ?_, ?_, ?_, ?_, ?_, ?_, ?_, ?_, ?_, ?_, ?_, ?_, ?_, ?_, ?_, ?_, trivial⟩
    all_goals
      intro vs V ρ hρ hc hf hg hI hH hd R' hR
      have hV := (HH.out _ hI).cel
      have s0 := hV.cell (i := 0) rfl
      have s1 := hV.cell (i := 1) rfl
      have s2 := hV.cell (i := 2) rfl
      have s3 := hV.cell (i := 3) rfl
      have HR := Lib.hid hR
      simp [depsOf, Region.binds, sayAt, Say.holds] at hd
      clear hR hI hV
      go_simp
      exact HR.out _ _ (by simp [sayAt, Say.holds]) (Below.refl _ _) (by simp [sayAt, Say.isBlk])
  case last =>
    intro vs w2 hI hb hg hd
    have g16 := hg 16 (by omega)
    simp only [sayAt, Say.holds, List.getD_cons_succ, List.getD_cons_zero] at g16
    simp only [List.take_succ_cons, List.take_zero, List.drop_succ_cons, List.drop_zero, putAll, Act.put, List.setIfInBounds_toArray, List.set_cons_succ, List.set_cons_zero, Nat.zero_add, Nat.reduceAdd]
    rw [g16]
    have HB := Lib.hid hI
    clear g16 hg hd hI hb
    go_wp2_with fail
    go_ret
    have hb := HB.out.alloc HB.out.size (.cells #[.slice A K.length a, .slice B P.length b, .slice C s.e.length c, .int .i64 s.over] 33)
    obtain ⟨h1, h2⟩ := HT.out w2.heap.size _ hb HB.out.size (blk1 w2 _).2
    exact ⟨w2.heap.size, rfl, HB.out.size, h1, h2, hb⟩
end
end Sh
end Go.Proofs.YtbkanoblcojdfaaGreat

namespace Go.Proofs.YtbkanoblcojdfaaGreat
namespace Sh
open Go.RowKit Bk Ch Lt Rc Tr
attribute [local go_sem ↓] Go.wp_at_zero Go.wp_at_succ
attribute [local go_sem] floatUpon pick
def bare (r : Rec) : RI := ⟨r, none, none, 0, 0⟩
theorem bare_snoc (X : List Rec) (r : Rec) : ((X ++ [r]).map bare).flatMap rcs = (X.map bare).flatMap rcs ++ rcs (bare r) := by simp [List.map_append, List.flatMap_append]
def OutP (W : World) (H : Nat) (v : Value) (X : List Rec) : Prop := W.ownsRow H 37 9 v X.length ((X.map bare).flatMap rcs)
def versP (x : Kc) : List Rec := x.l.map (verR x.name)
section
variable {W : World} {F : Nat → Prop} {g : Nat} {A B C : Option Addr} {a b c : Nat} {K : List KI} {P : List RI} {s : Shf}
set_option maxRecDepth 20000 in
set_option maxHeartbeats 16000000 in
theorem rrecs_any (h : RAt W F g A B C a b c K P s) (hs : ShOk s) :
    Calls Tryz.prog 53 #[.pointer (some ⟨g, 0, none⟩)] W fun e w' => ∃ (v : Value) (X : List Rec), e = .returned v ∧ recordsP s = X ++ s.p ∧ w'.ownsRow W.heap.size 37 9 v (X ++ s.p).length ((X.map bare).flatMap rcs ++ P.flatMap rcs) ∧ Below W.heap.size W w' := by
  obtain ⟨i9, z9, hi9, hz9, hzs9, hs9, hb9⟩ := info_rec
  have HH := Lib.hid (fun V (hb : Below W.heap.size W V) => h.below hb)
  have HKl := Lib.hid h.klen
  have HS := Lib.hid hs
  have HPl := Lib.hid h.plen
  have HRk := Lib.hid (show s.k.flatMap versP = K.flatMap (fun x => versP x.k) by rw [← h.ek, List.flatMap_map])
  have HKc := Lib.hid (show ∀ x ∈ K, x.k.l.length ≤ 1024 from fun x hx => (hs.kc _ (by rw [← h.ek]; exact List.mem_map_of_mem hx)).len)
  have hK10 : K.length ≤ 1024 := by have := h.klen; have := hs.kl; omega
  have hE10 : s.e.length ≤ 1024 := hs.el
  have hP10 : P.length ≤ 1024 := by have := h.plen; have := hs.pl; omega
  have s3 := h.cel.cell (i := 3) rfl
  have HBn := Lib.hid h.bn
  clear h hs
  go_enter Tryz.func53, Tryz.ntmps53
  by_cases hov : 0 < s.over
  · have po : s.over > 0 := hov
    go_wp2_with (at_builtin; refine wpList_append_own_at _ rfl _ _ 22 rfl W.heap.size 37 i9 z9 9 120 Tryz.underlying22 hi9 hz9 hs9 hb9 hzs9 (by decide) _ 0 [] rfl (World.ownsRow_nil _ _ _ _) ⟨W.heap.size, 0, none⟩ 1 1 (rcs (bare (sweepR s.over))) rfl rfl ?d1 ?d2 ?d3 ?d4 ?d5 ?_)
    case d1 => exact fun j u hu => by rw [addr_head]; exact blk_cell (blk1 W _).2 (by rw [List.getElem?_toArray]; exact hu)
    case d2 => exact fun u hu => recs_one [bare (sweepR s.over)] u (by simpa using hu)
    case d3 => unfold maxLen; omega
    case d4 => omega
    case d5 => simp
    intro v0 w0 ho0 hg0 _ hat0
    have HB := Lib.hid (((Below.refl _ W).alloc (Nat.le_refl _) (.cells (rcs (bare (sweepR s.over))).toArray 37)).grown hg0 (by simp) (fun k hk => by cases hk))
    obtain ⟨X0, hX0⟩ : ∃ X0, X0 = [sweepR s.over] := ⟨_, rfl⟩
    have HE0 := Lib.hid (show recordsP s = X0 ++ K.flatMap (fun x => versP x.k) ++ s.e.map doR ++ s.p by rw [← HRk.out]; unfold recordsP; rw [if_pos hov, hX0]; rfl)
    have hl0 : X0.length ≤ 1 := by rw [hX0]; simp
    have HO := Lib.hid (show OutP w0 W.heap.size v0 X0 by rw [hX0]; unfold OutP; simpa using ho0)
    clear ho0 hg0 hat0 hov po s3 hX0
    go_wp2_with fail
    go_loopw [3, 4] (fun ov iv wr => ∃ (i : Nat) (X : List Rec), i ≤ K.length ∧ iv = .int .i64 (i : Int) ∧ Hid (X = X0 ++ (K.take i).flatMap (fun x => versP x.k)) ∧ Hid (X.length ≤ 1 + i * 1024) ∧ Hid (OutP wr W.heap.size ov X) ∧ Hid (Below W.heap.size W wr)) (fun _ iv _ => K.length - (intOf iv).toNat)
    case atStart => exact ⟨0, X0, Nat.zero_le _, rfl, Lib.hid (by simp), Lib.hid (by omega), HO, HB⟩
    case round =>
      obtain ⟨i, X, hi, rfl, hX, hXl, hO, hb⟩ := hrel
      have s0 := (HH.out _ hb.out).cel.cell (i := 0) rfl
      clear HO HB
      by_cases hlt : i < K.length
      · have pi : (i : Int) < (K.length : Int) := by omega
        have HKey := Lib.hid (fun V (hb : Below W.heap.size W V) => (HH.out V hb).key hlt)
        have HVr := Lib.hid (fun V (hb : Below W.heap.size W V) => ((HH.out V hb).kv _ (List.getElem_mem hlt)).vrs)
        have hle := HKc.out _ (List.getElem_mem hlt)
        have HTk := Lib.hid (show (K.take (i + 1)).flatMap (fun x => versP x.k) = (K.take i).flatMap (fun x => versP x.k) ++ K[i].k.l.map (verR K[i].k.name) by rw [List.take_succ_eq_append_getElem hlt, List.flatMap_append]; simp [versP])
        obtain ⟨ad, eA, -, -⟩ := HKey.out _ hb.out
        subst eA
        generalize K[i] = x at HKey HVr hle HTk
        obtain ⟨⟨nm, l⟩, A5, c5⟩ := x
        simp only at HKey HVr hle HTk
        go_wp2_with fail
        go_loopw [3, 5] (fun ov kv wr => ∃ (k : Nat) (Y : List Rec), k ≤ l.length ∧ kv = .int .i64 (k : Int) ∧ Hid (Y = X ++ (l.take k).map (verR nm)) ∧ Hid (Y.length ≤ 1 + i * 1024 + k) ∧ Hid (OutP wr W.heap.size ov Y) ∧ Hid (Below W.heap.size W wr)) (fun _ kv _ => l.length - (intOf kv).toNat)
        case atStart => exact ⟨0, X, Nat.zero_le _, rfl, Lib.hid (by simp), Lib.hid (by have := hXl.out; omega), hO, hb⟩
        case round =>
          obtain ⟨k, Y, hk, rfl, hY, hYl, hO, hb⟩ := hrel
          have s0 := (HH.out _ hb.out).cel.cell (i := 0) rfl
          obtain ⟨ad', e', k0, k1⟩ := HKey.out _ hb.out
          obtain rfl := Option.some.inj e'
          clear e'
          by_cases hkl : k < l.length
          · have pk : (k : Int) < (l.length : Int) := by omega
            obtain ⟨av, eV, -, hcl⟩ := HVr.out _ hb.out (show 0 < l.length by omega)
            subst eV
            obtain ⟨y0, y1, y2⟩ := hcl k hkl
            rw [← Ch.add_field _ _ _ (by omega)] at y1 y2
            have HTl := Lib.hid (show (l.take (k + 1)).map (verR nm) = (l.take k).map (verR nm) ++ [verR nm l[k]] by rw [List.take_succ_eq_append_getElem hkl, List.map_append]; rfl)
            clear hcl
            generalize l[k] = y at y0 y1 y2 HTl
            obtain ⟨yt, ys, yd⟩ := y
            simp only at y0 y1 y2
            go_upto_region 11 with fail
            have hv2 : Cel (wr.alloc (.cells #[.int .i64 yt, .string ys, .bool yd] 77)) wr.heap.size 77 [.int .i64 yt, .string ys, .bool yd] := (blk1 wr _).2
            have hb2 : Below wr.heap.size wr (wr.alloc (.cells #[.int .i64 yt, .string ys, .bool yd] 77)) := (Below.refl _ wr).alloc (Nat.le_refl _) _
            generalize wr.alloc (.cells #[.int .i64 yt, .string ys, .bool yd] 77) = w2 at hv2 hb2 ⊢
            have HB2 := Lib.hid (hb.out.trans (hb2.mono hb.out.size))
            have HO2 := Lib.hid (st_keep hO.out hb2)
            have HV2 := Lib.hid hv2
            clear hb2 hv2 hO hb s0 k0 k1 y0 y1 y2
            refine wp_region_said 17 [54, 55, 56, 57, 58, 59, 60, 61, 62, 63, 64, 65, 66, 67, 68, 69, 70]
              [.is u3, .is (.pointer (some ⟨wr.heap.size, 0, none⟩)), .is (.int .i64 yt), .is (.pointer (some ⟨g, 0, none⟩)), .is (.pointer (some ⟨g, 0, none⟩)), .is (.pointer (some ⟨g, 0, none⟩)), .is (.slice (some ad) K.length a), .is (.int .i64 (i : Int)), .is (.pointer (some (ad.add (i * 2)))), .is (.pointer (some (ad.add (i * 2)))), .is (.string nm),
                .is (.pointer (some ⟨wr.heap.size, 1, none⟩)), .is (.string ys), .is (.pointer (some ⟨wr.heap.size, 2, none⟩)), .is (.bool yd), .is (.agg #[.int .i64 3, .int .i64 0, .int .i64 yt, .int .i64 0, .string nm, .string ys, .bool yd, .slice none 0 0, .slice none 0 0]), .arr 37 #[.int .i64 3, .int .i64 0, .int .i64 yt, .int .i64 0, .string nm, .string ys, .bool yd, .slice none 0 0, .slice none 0 0] 1 1]
              (fun V => Below w2.heap.size w2 V) (by kernel_rfl) (by kernel_rfl) (by kernel_rfl) (by kernel_rfl) (by kernel_rfl) (fun V V' h hb => h.trans (hb.mono h.size)) (Below.refl _ _) ?steps11a ?last11a
            case steps11a =>
              simp only [List.take_succ_cons, List.take_zero]
              refine ⟨?_, ?_, ?_, ?_, ?_, ?_, ?_, ?_, ?_, ?_, ?_, ?_, ?_, ?_, ?_, ?_, ?_, trivial⟩
              all_goals
                intro vs V ρ hρ hc hf hg hI hH hd R' hR
                have hbV := HB2.out.trans (Below.mono hI HB2.out.size)
                have s0 := (HH.out _ hbV).cel.cell (i := 0) rfl
                obtain ⟨ad', e', k0, -⟩ := HKey.out _ hbV
                obtain rfl := Option.some.inj e'
                have hv := HV2.out.below (hI.mono (by have := HV2.out.lt; omega))
                have v0 := hv.cell (i := 0) rfl
                have v1 := hv.cell (i := 1) rfl
                have v2 := hv.cell (i := 2) rfl
                have HR := Lib.hid hR
                simp [depsOf, Region.binds, sayAt, Say.holds] at hd
                clear hR hI hbV hv e'
                go_simp
                first
                  | exact HR.out _ _ (by simp [sayAt, Say.holds]) (Below.refl _ _) (by simp [sayAt, Say.isBlk])
                  | exact HR.out _ _ ⟨_, hH, by simp, rfl, heap_alloc_new _ _⟩ ((Below.refl _ _).alloc (Nat.le_refl _) _) (fun h => by cases h)
                  | trace_state
            case last11a =>
              intro vs w3 hI hb hg hd
              have g0 := hg 0 (by omega)
              obtain ⟨o, ho1, ho2, g16, ho⟩ := hg 16 (by omega)
              simp only [sayAt, Say.holds, List.getD_cons_zero] at g0
              simp only [List.take_succ_cons, List.take_zero, List.drop_succ_cons, List.drop_zero, putAll, Act.put, List.setIfInBounds_toArray, List.set_cons_succ, List.set_cons_zero, Nat.zero_add, Nat.reduceAdd]
              rw [g0, g16]
              have HI := Lib.hid hI
              have HO3 := Lib.hid (st_keep HO2.out hI)
              have HB3 := Lib.hid (HB2.out.trans (Below.mono hI HB2.out.size))
              have hYb : Y.length ≤ 2000000 := by have := hYl.out; omega
              clear g0 g16 hg hd hI hb
              refine wpList_append_own_at _ rfl _ _ 22 rfl W.heap.size 37 i9 z9 9 120 Tryz.underlying22 hi9 hz9 hs9 hb9 hzs9 (by decide) _ Y.length _ rfl HO3.out ⟨o, 0, none⟩ 1 1 (rcs (bare (verR nm ⟨yt, ys, yd⟩))) rfl rfl ?f1a ?f2a ?f3a ?f4a ?f5a ?_
              case f1a => intro j u hu; rw [addr_head]; exact blk_cell ho (by rw [List.getElem?_toArray]; exact hu)
              case f2a => exact fun u hu => recs_one [bare (verR nm ⟨yt, ys, yd⟩)] u (by simpa using hu)
              case f3a => unfold maxLen; omega
              case f4a => omega
              case f5a => exact HB3.out.size
              intro v' w5 hown' hgrow _ hat
              have HB5 := Lib.hid (HB3.out.grown hgrow HB3.out.size (fun k hk => (HO3.out.lt k hk).1))
              have HO5 := Lib.hid (show OutP w5 W.heap.size v' (Y ++ [verR nm ⟨yt, ys, yd⟩]) by
                unfold OutP
                rw [bare_snoc, List.length_append, List.length_singleton]
                exact hown')
              have HN := Lib.hid (show Y ++ [verR nm ⟨yt, ys, yd⟩] = X ++ (l.take (k + 1)).map (verR nm) by rw [HTl.out, hY.out, List.append_assoc])
              have HNl := Lib.hid (show (Y ++ [verR nm ⟨yt, ys, yd⟩]).length ≤ 1 + i * 1024 + (k + 1) by have := hYl.out; rw [List.length_append, List.length_singleton]; omega)
              clear hown' hgrow hat HI ho ho1 ho2 HO3 HB3 HO2 HB2 HV2 hY hYl HTl hYb
              go_wp2_with fail
              go_roundw
              case rel => exact ⟨k + 1, _, by omega, by go_num, HN, HNl, HO5, HB5⟩
              case measure => simp [intOf]; omega
          · obtain rfl : k = l.length := by omega
            have HN := Lib.hid (show Y = X0 ++ (K.take (i + 1)).flatMap (fun x => versP x.k) by rw [HTk.out, hY.out, hX.out, List.take_length, List.append_assoc])
            have HNl := Lib.hid (show Y.length ≤ 1 + (i + 1) * 1024 by have := hYl.out; omega)
            clear hX hXl hY hYl HTk
            go_wp2_with fail
            go_roundw
            case rel => exact ⟨i + 1, Y, by omega, by go_num, HN, HNl, hO, hb⟩
            case measure => simp [intOf]; omega
      · obtain rfl : i = K.length := by omega
        rw [List.take_length] at hX
        have hXb : X.length ≤ 1100000 := by have := hXl.out; omega
        obtain ⟨w4, hw4⟩ : ∃ w4, w4 = wr := ⟨_, rfl⟩
        subst hw4
        have HO4 := hO
        have HB4 := hb
        have HX4 := hX
        have HCc := Lib.hid (fun V (hb : Below W.heap.size W V) i (hi : i < s.e.length) => (HH.out V hb).end hi)
        clear hX hXl hO hb hlt hi HKc
        go_wp2_with fail
        go_loopw [3, 7] (fun ov iv wr => ∃ (i : Nat) (Y : List Rec), i ≤ s.e.length ∧ iv = .int .i64 (i : Int) ∧ Hid (Y = X ++ (s.e.take i).map doR) ∧ Hid (Y.length ≤ 1100000 + i) ∧ Hid (OutP wr W.heap.size ov Y) ∧ Hid (Below W.heap.size W wr)) (fun _ iv _ => s.e.length - (intOf iv).toNat)
        case atStart => exact ⟨0, X, Nat.zero_le _, rfl, Lib.hid (by simp), Lib.hid (by omega), HO4, HB4⟩
        case round =>
          obtain ⟨i, Y, hi, rfl, hY, hYl, hO, hb⟩ := hrel
          have s2 := (HH.out _ hb.out).cel.cell (i := 2) rfl
          clear HO4 HB4
          by_cases hlt : i < s.e.length
          · have pi : (i : Int) < (s.e.length : Int) := by omega
            have HEd := Lib.hid (fun V (hb : Below W.heap.size W V) => HCc.out V hb i hlt)
            have HTl := Lib.hid (show (s.e.take (i + 1)).map doR = (s.e.take i).map doR ++ [doR s.e[i]] by rw [List.take_succ_eq_append_getElem hlt, List.map_append]; rfl)
            obtain ⟨ad, eC, -, -⟩ := HEd.out _ hb.out
            subst eC
            generalize s.e[i] = y at HEd HTl
            obtain ⟨y1, y2⟩ := y
            simp only at HEd HTl
            go_upto_region 15 with fail
            have HB2 := hb
            have HO2 := hO
            clear hb hO s2
            refine wp_region_said 19 [81, 82, 83, 84, 85, 86, 87, 88, 89, 90, 91, 92, 93, 94, 95, 96, 97, 98, 99]
              [.is u3, .is (.pointer (some ⟨g, 0, none⟩)), .is (.pointer (some ⟨g, 0, none⟩)), .is (.pointer (some ⟨g, 2, none⟩)), .is (.slice (some ad) s.e.length c), .is (.int .i64 (i : Int)), .is (.pointer (some (ad.add (i * 2)))), .is (.pointer (some (ad.add (i * 2)))), .is (.int .i64 y1), .is (.pointer (some ⟨g, 0, none⟩)), .is (.pointer (some ⟨g, 0, none⟩)), .is (.pointer (some ⟨g, 2, none⟩)), .is (.slice (some ad) s.e.length c), .is (.int .i64 (i : Int)), .is (.pointer (some (ad.add (i * 2)))), .is (.pointer (some ⟨(ad.add (i * 2)).block, (ad.add (i * 2)).off + 1, none⟩)), .is (.int .i64 y2), .is (.agg #[.int .i64 2, .int .i64 y1, .int .i64 y2, .int .i64 0, .string ⟨#[]⟩, .string ⟨#[]⟩, .bool false, .slice none 0 0, .slice none 0 0]), .arr 37 #[.int .i64 2, .int .i64 y1, .int .i64 y2, .int .i64 0, .string ⟨#[]⟩, .string ⟨#[]⟩, .bool false, .slice none 0 0, .slice none 0 0] 1 1]
              (fun V => Below wr.heap.size wr V) (by kernel_rfl) (by kernel_rfl) (by kernel_rfl) (by kernel_rfl) (by kernel_rfl) (fun V V' h hb => h.trans (hb.mono h.size)) (Below.refl _ _) ?steps15a ?last15a
            case steps15a =>
              simp only [List.take_succ_cons, List.take_zero]
              refine ⟨?_, ?_, ?_, ?_, ?_, ?_, ?_, ?_, ?_, ?_, ?_, ?_, ?_, ?_, ?_, ?_, ?_, ?_, ?_, trivial⟩
              all_goals
                intro vs V ρ hρ hc hf hg hI hH hd R' hR
                have hbV := HB2.out.trans (Below.mono hI HB2.out.size)
                have s2 := (HH.out _ hbV).cel.cell (i := 2) rfl
                obtain ⟨ad', e', k0, k1⟩ := HEd.out _ hbV
                obtain rfl := Option.some.inj e'
                have HR := Lib.hid hR
                simp [depsOf, Region.binds, sayAt, Say.holds] at hd
                clear hR hI hbV e'
                go_simp
                first
                  | exact HR.out _ _ (by simp [sayAt, Say.holds]) (Below.refl _ _) (by simp [sayAt, Say.isBlk])
                  | exact HR.out _ _ ⟨_, hH, by simp, rfl, heap_alloc_new _ _⟩ ((Below.refl _ _).alloc (Nat.le_refl _) _) (fun h => by cases h)
                  | trace_state
            case last15a =>
              intro vs w3 hI hb hg hd
              have g0 := hg 0 (by omega)
              obtain ⟨o, ho1, ho2, g16, ho⟩ := hg 18 (by omega)
              simp only [sayAt, Say.holds, List.getD_cons_zero] at g0
              simp only [List.take_succ_cons, List.take_zero, List.drop_succ_cons, List.drop_zero, putAll, Act.put, List.setIfInBounds_toArray, List.set_cons_succ, List.set_cons_zero, Nat.zero_add, Nat.reduceAdd]
              rw [g0, g16]
              have HO3 := Lib.hid (st_keep HO2.out hI)
              have HB3 := Lib.hid (HB2.out.trans (Below.mono hI HB2.out.size))
              have hYb : Y.length ≤ 2000000 := by have := hYl.out; omega
              clear g0 g16 hg hd hI hb
              refine wpList_append_own_at _ rfl _ _ 22 rfl W.heap.size 37 i9 z9 9 120 Tryz.underlying22 hi9 hz9 hs9 hb9 hzs9 (by decide) _ Y.length _ rfl HO3.out ⟨o, 0, none⟩ 1 1 (rcs (bare (doR (y1, y2)))) rfl rfl ?h1a ?h2a ?h3a ?h4a ?h5a ?_
              case h1a => intro j u hu; rw [addr_head]; exact blk_cell ho (by rw [List.getElem?_toArray]; exact hu)
              case h2a => exact fun u hu => recs_one [bare (doR (y1, y2))] u (by simpa using hu)
              case h3a => unfold maxLen; omega
              case h4a => omega
              case h5a => exact HB3.out.size
              intro v' w5 hown' hgrow _ hat
              have HB5 := Lib.hid (HB3.out.grown hgrow HB3.out.size (fun k hk => (HO3.out.lt k hk).1))
              have HO5 := Lib.hid (show OutP w5 W.heap.size v' (Y ++ [doR (y1, y2)]) by
                unfold OutP
                rw [bare_snoc, List.length_append, List.length_singleton]
                exact hown')
              have HN := Lib.hid (show Y ++ [doR (y1, y2)] = X ++ (s.e.take (i + 1)).map doR by rw [HTl.out, hY.out, List.append_assoc])
              have HNl := Lib.hid (show (Y ++ [doR (y1, y2)]).length ≤ 1100000 + (i + 1) by have := hYl.out; rw [List.length_append, List.length_singleton]; omega)
              clear hown' hgrow hat ho ho1 ho2 HO3 HB3 HO2 HB2 hY hYl HTl hYb
              go_wp2_with fail
              go_roundw
              case rel => exact ⟨i + 1, _, by omega, by go_num, HN, HNl, HO5, HB5⟩
              case measure => simp [intOf]; omega
          · obtain rfl : i = s.e.length := by omega
            have s1 := (HH.out _ hb.out).cel.cell (i := 1) rfl
            have HRp := Lib.hid (HH.out _ hb.out).rp
            have HLp := Lib.hid (flatN_len rcs_len P)
            have hYb : Y.length ≤ 2000000 := by have := hYl.out; omega
            have HRec := Lib.hid (show recordsP s = Y ++ s.p by rw [HE0.out, hY.out, HX4.out, List.take_length, List.append_assoc])
            have HB9 := hb
            have HO9 := hO
            clear hY hb hO
            go_wp2_with (at_builtin; refine wpList_append_optN rfl _ _ 22 rfl W.heap.size 37 i9 z9 9 120 Tryz.underlying22 hi9 hz9 hs9 hb9 hzs9 (by decide) _ Y.length _ rfl HO9.out B P.length b (P.flatMap rcs) rfl HLp.out HBn.out (fun ad' e => by cases e; exact HRp.out.news) (recs_one _) ?k3a ?k4a ?k5a ?_)
            case k3a => unfold maxLen; omega
            case k4a => omega
            case k5a => exact HB9.out.size
            intro v7 w7 ho7 hg7 hat7
            have HB7 := HB9.out.grown hg7 HB9.out.size (fun k hk => (HO9.out.lt k hk).1)
            have hl : (Y ++ s.p).length = Y.length + P.length := by rw [List.length_append, HPl.out]
            rw [← hl] at ho7
            have HO7 := Lib.hid ho7
            have HB77 := Lib.hid HB7
            clear ho7 hg7 hat7 HB7
            go_wp2_with fail
            go_ret
            exact ⟨_, Y, rfl, HRec.out, HO7.out, HB77.out⟩
  · have po : ¬ s.over > 0 := hov
    obtain ⟨X0, hX0⟩ : ∃ X0 : List Rec, X0 = [] := ⟨_, rfl⟩
    have HB := Lib.hid (Below.refl W.heap.size W)
    have HE0 := Lib.hid (show recordsP s = X0 ++ K.flatMap (fun x => versP x.k) ++ s.e.map doR ++ s.p by rw [← HRk.out]; unfold recordsP; rw [if_neg hov, hX0]; rfl)
    have hl0 : X0.length ≤ 1 := by rw [hX0]; simp
    have HO := Lib.hid (show OutP W W.heap.size (.slice none 0 0) X0 by rw [hX0]; exact World.ownsRow_nil _ _ _ _)
    clear hov hX0
    go_wp2_with fail
    go_loopw [3, 4] (fun ov iv wr => ∃ (i : Nat) (X : List Rec), i ≤ K.length ∧ iv = .int .i64 (i : Int) ∧ Hid (X = X0 ++ (K.take i).flatMap (fun x => versP x.k)) ∧ Hid (X.length ≤ 1 + i * 1024) ∧ Hid (OutP wr W.heap.size ov X) ∧ Hid (Below W.heap.size W wr)) (fun _ iv _ => K.length - (intOf iv).toNat)
    case atStart => exact ⟨0, X0, Nat.zero_le _, rfl, Lib.hid (by simp), Lib.hid (by omega), HO, HB⟩
    case round =>
      obtain ⟨i, X, hi, rfl, hX, hXl, hO, hb⟩ := hrel
      have s0 := (HH.out _ hb.out).cel.cell (i := 0) rfl
      clear HO HB
      by_cases hlt : i < K.length
      · have pi : (i : Int) < (K.length : Int) := by omega
        have HKey := Lib.hid (fun V (hb : Below W.heap.size W V) => (HH.out V hb).key hlt)
        have HVr := Lib.hid (fun V (hb : Below W.heap.size W V) => ((HH.out V hb).kv _ (List.getElem_mem hlt)).vrs)
        have hle := HKc.out _ (List.getElem_mem hlt)
        have HTk := Lib.hid (show (K.take (i + 1)).flatMap (fun x => versP x.k) = (K.take i).flatMap (fun x => versP x.k) ++ K[i].k.l.map (verR K[i].k.name) by rw [List.take_succ_eq_append_getElem hlt, List.flatMap_append]; simp [versP])
        obtain ⟨ad, eA, -, -⟩ := HKey.out _ hb.out
        subst eA
        generalize K[i] = x at HKey HVr hle HTk
        obtain ⟨⟨nm, l⟩, A5, c5⟩ := x
        simp only at HKey HVr hle HTk
        go_wp2_with fail
        go_loopw [3, 5] (fun ov kv wr => ∃ (k : Nat) (Y : List Rec), k ≤ l.length ∧ kv = .int .i64 (k : Int) ∧ Hid (Y = X ++ (l.take k).map (verR nm)) ∧ Hid (Y.length ≤ 1 + i * 1024 + k) ∧ Hid (OutP wr W.heap.size ov Y) ∧ Hid (Below W.heap.size W wr)) (fun _ kv _ => l.length - (intOf kv).toNat)
        case atStart => exact ⟨0, X, Nat.zero_le _, rfl, Lib.hid (by simp), Lib.hid (by have := hXl.out; omega), hO, hb⟩
        case round =>
          obtain ⟨k, Y, hk, rfl, hY, hYl, hO, hb⟩ := hrel
          have s0 := (HH.out _ hb.out).cel.cell (i := 0) rfl
          obtain ⟨ad', e', k0, k1⟩ := HKey.out _ hb.out
          obtain rfl := Option.some.inj e'
          clear e'
          by_cases hkl : k < l.length
          · have pk : (k : Int) < (l.length : Int) := by omega
            obtain ⟨av, eV, -, hcl⟩ := HVr.out _ hb.out (show 0 < l.length by omega)
            subst eV
            obtain ⟨y0, y1, y2⟩ := hcl k hkl
            rw [← Ch.add_field _ _ _ (by omega)] at y1 y2
            have HTl := Lib.hid (show (l.take (k + 1)).map (verR nm) = (l.take k).map (verR nm) ++ [verR nm l[k]] by rw [List.take_succ_eq_append_getElem hkl, List.map_append]; rfl)
            clear hcl
            generalize l[k] = y at y0 y1 y2 HTl
            obtain ⟨yt, ys, yd⟩ := y
            simp only at y0 y1 y2
            go_upto_region 11 with fail
            have hv2 : Cel (wr.alloc (.cells #[.int .i64 yt, .string ys, .bool yd] 77)) wr.heap.size 77 [.int .i64 yt, .string ys, .bool yd] := (blk1 wr _).2
            have hb2 : Below wr.heap.size wr (wr.alloc (.cells #[.int .i64 yt, .string ys, .bool yd] 77)) := (Below.refl _ wr).alloc (Nat.le_refl _) _
            generalize wr.alloc (.cells #[.int .i64 yt, .string ys, .bool yd] 77) = w2 at hv2 hb2 ⊢
            have HB2 := Lib.hid (hb.out.trans (hb2.mono hb.out.size))
            have HO2 := Lib.hid (st_keep hO.out hb2)
            have HV2 := Lib.hid hv2
            clear hb2 hv2 hO hb s0 k0 k1 y0 y1 y2
            refine wp_region_said 17 [54, 55, 56, 57, 58, 59, 60, 61, 62, 63, 64, 65, 66, 67, 68, 69, 70]
              [.is u3, .is (.pointer (some ⟨wr.heap.size, 0, none⟩)), .is (.int .i64 yt), .is (.pointer (some ⟨g, 0, none⟩)), .is (.pointer (some ⟨g, 0, none⟩)), .is (.pointer (some ⟨g, 0, none⟩)), .is (.slice (some ad) K.length a), .is (.int .i64 (i : Int)), .is (.pointer (some (ad.add (i * 2)))), .is (.pointer (some (ad.add (i * 2)))), .is (.string nm),
                .is (.pointer (some ⟨wr.heap.size, 1, none⟩)), .is (.string ys), .is (.pointer (some ⟨wr.heap.size, 2, none⟩)), .is (.bool yd), .is (.agg #[.int .i64 3, .int .i64 0, .int .i64 yt, .int .i64 0, .string nm, .string ys, .bool yd, .slice none 0 0, .slice none 0 0]), .arr 37 #[.int .i64 3, .int .i64 0, .int .i64 yt, .int .i64 0, .string nm, .string ys, .bool yd, .slice none 0 0, .slice none 0 0] 1 1]
              (fun V => Below w2.heap.size w2 V) (by kernel_rfl) (by kernel_rfl) (by kernel_rfl) (by kernel_rfl) (by kernel_rfl) (fun V V' h hb => h.trans (hb.mono h.size)) (Below.refl _ _) ?steps11b ?last11b
            case steps11b =>
              simp only [List.take_succ_cons, List.take_zero]
              refine ⟨?_, ?_, ?_, ?_, ?_, ?_, ?_, ?_, ?_, ?_, ?_, ?_, ?_, ?_, ?_, ?_, ?_, trivial⟩
              all_goals
                intro vs V ρ hρ hc hf hg hI hH hd R' hR
                have hbV := HB2.out.trans (Below.mono hI HB2.out.size)
                have s0 := (HH.out _ hbV).cel.cell (i := 0) rfl
                obtain ⟨ad', e', k0, -⟩ := HKey.out _ hbV
                obtain rfl := Option.some.inj e'
                have hv := HV2.out.below (hI.mono (by have := HV2.out.lt; omega))
                have v0 := hv.cell (i := 0) rfl
                have v1 := hv.cell (i := 1) rfl
                have v2 := hv.cell (i := 2) rfl
                have HR := Lib.hid hR
                simp [depsOf, Region.binds, sayAt, Say.holds] at hd
                clear hR hI hbV hv e'
                go_simp
                first
                  | exact HR.out _ _ (by simp [sayAt, Say.holds]) (Below.refl _ _) (by simp [sayAt, Say.isBlk])
                  | exact HR.out _ _ ⟨_, hH, by simp, rfl, heap_alloc_new _ _⟩ ((Below.refl _ _).alloc (Nat.le_refl _) _) (fun h => by cases h)
                  | trace_state
            case last11b =>
              intro vs w3 hI hb hg hd
              have g0 := hg 0 (by omega)
              obtain ⟨o, ho1, ho2, g16, ho⟩ := hg 16 (by omega)
              simp only [sayAt, Say.holds, List.getD_cons_zero] at g0
              simp only [List.take_succ_cons, List.take_zero, List.drop_succ_cons, List.drop_zero, putAll, Act.put, List.setIfInBounds_toArray, List.set_cons_succ, List.set_cons_zero, Nat.zero_add, Nat.reduceAdd]
              rw [g0, g16]
              have HI := Lib.hid hI
              have HO3 := Lib.hid (st_keep HO2.out hI)
              have HB3 := Lib.hid (HB2.out.trans (Below.mono hI HB2.out.size))
              have hYb : Y.length ≤ 2000000 := by have := hYl.out; omega
              clear g0 g16 hg hd hI hb
              refine wpList_append_own_at _ rfl _ _ 22 rfl W.heap.size 37 i9 z9 9 120 Tryz.underlying22 hi9 hz9 hs9 hb9 hzs9 (by decide) _ Y.length _ rfl HO3.out ⟨o, 0, none⟩ 1 1 (rcs (bare (verR nm ⟨yt, ys, yd⟩))) rfl rfl ?f1b ?f2b ?f3b ?f4b ?f5b ?_
              case f1b => intro j u hu; rw [addr_head]; exact blk_cell ho (by rw [List.getElem?_toArray]; exact hu)
              case f2b => exact fun u hu => recs_one [bare (verR nm ⟨yt, ys, yd⟩)] u (by simpa using hu)
              case f3b => unfold maxLen; omega
              case f4b => omega
              case f5b => exact HB3.out.size
              intro v' w5 hown' hgrow _ hat
              have HB5 := Lib.hid (HB3.out.grown hgrow HB3.out.size (fun k hk => (HO3.out.lt k hk).1))
              have HO5 := Lib.hid (show OutP w5 W.heap.size v' (Y ++ [verR nm ⟨yt, ys, yd⟩]) by
                unfold OutP
                rw [bare_snoc, List.length_append, List.length_singleton]
                exact hown')
              have HN := Lib.hid (show Y ++ [verR nm ⟨yt, ys, yd⟩] = X ++ (l.take (k + 1)).map (verR nm) by rw [HTl.out, hY.out, List.append_assoc])
              have HNl := Lib.hid (show (Y ++ [verR nm ⟨yt, ys, yd⟩]).length ≤ 1 + i * 1024 + (k + 1) by have := hYl.out; rw [List.length_append, List.length_singleton]; omega)
              clear hown' hgrow hat HI ho ho1 ho2 HO3 HB3 HO2 HB2 HV2 hY hYl HTl hYb
              go_wp2_with fail
              go_roundw
              case rel => exact ⟨k + 1, _, by omega, by go_num, HN, HNl, HO5, HB5⟩
              case measure => simp [intOf]; omega
          · obtain rfl : k = l.length := by omega
            have HN := Lib.hid (show Y = X0 ++ (K.take (i + 1)).flatMap (fun x => versP x.k) by rw [HTk.out, hY.out, hX.out, List.take_length, List.append_assoc])
            have HNl := Lib.hid (show Y.length ≤ 1 + (i + 1) * 1024 by have := hYl.out; omega)
            clear hX hXl hY hYl HTk
            go_wp2_with fail
            go_roundw
            case rel => exact ⟨i + 1, Y, by omega, by go_num, HN, HNl, hO, hb⟩
            case measure => simp [intOf]; omega
      · obtain rfl : i = K.length := by omega
        rw [List.take_length] at hX
        have hXb : X.length ≤ 1100000 := by have := hXl.out; omega
        obtain ⟨w4, hw4⟩ : ∃ w4, w4 = wr := ⟨_, rfl⟩
        subst hw4
        have HO4 := hO
        have HB4 := hb
        have HX4 := hX
        have HCc := Lib.hid (fun V (hb : Below W.heap.size W V) i (hi : i < s.e.length) => (HH.out V hb).end hi)
        clear hX hXl hO hb hlt hi HKc
        go_wp2_with fail
        go_loopw [3, 7] (fun ov iv wr => ∃ (i : Nat) (Y : List Rec), i ≤ s.e.length ∧ iv = .int .i64 (i : Int) ∧ Hid (Y = X ++ (s.e.take i).map doR) ∧ Hid (Y.length ≤ 1100000 + i) ∧ Hid (OutP wr W.heap.size ov Y) ∧ Hid (Below W.heap.size W wr)) (fun _ iv _ => s.e.length - (intOf iv).toNat)
        case atStart => exact ⟨0, X, Nat.zero_le _, rfl, Lib.hid (by simp), Lib.hid (by omega), HO4, HB4⟩
        case round =>
          obtain ⟨i, Y, hi, rfl, hY, hYl, hO, hb⟩ := hrel
          have s2 := (HH.out _ hb.out).cel.cell (i := 2) rfl
          clear HO4 HB4
          by_cases hlt : i < s.e.length
          · have pi : (i : Int) < (s.e.length : Int) := by omega
            have HEd := Lib.hid (fun V (hb : Below W.heap.size W V) => HCc.out V hb i hlt)
            have HTl := Lib.hid (show (s.e.take (i + 1)).map doR = (s.e.take i).map doR ++ [doR s.e[i]] by rw [List.take_succ_eq_append_getElem hlt, List.map_append]; rfl)
            obtain ⟨ad, eC, -, -⟩ := HEd.out _ hb.out
            subst eC
            generalize s.e[i] = y at HEd HTl
            obtain ⟨y1, y2⟩ := y
            simp only at HEd HTl
            go_upto_region 15 with fail
            have HB2 := hb
            have HO2 := hO
            clear hb hO s2
            refine wp_region_said 19 [81, 82, 83, 84, 85, 86, 87, 88, 89, 90, 91, 92, 93, 94, 95, 96, 97, 98, 99]
              [.is u3, .is (.pointer (some ⟨g, 0, none⟩)), .is (.pointer (some ⟨g, 0, none⟩)), .is (.pointer (some ⟨g, 2, none⟩)), .is (.slice (some ad) s.e.length c), .is (.int .i64 (i : Int)), .is (.pointer (some (ad.add (i * 2)))), .is (.pointer (some (ad.add (i * 2)))), .is (.int .i64 y1), .is (.pointer (some ⟨g, 0, none⟩)), .is (.pointer (some ⟨g, 0, none⟩)), .is (.pointer (some ⟨g, 2, none⟩)), .is (.slice (some ad) s.e.length c), .is (.int .i64 (i : Int)), .is (.pointer (some (ad.add (i * 2)))), .is (.pointer (some ⟨(ad.add (i * 2)).block, (ad.add (i * 2)).off + 1, none⟩)), .is (.int .i64 y2), .is (.agg #[.int .i64 2, .int .i64 y1, .int .i64 y2, .int .i64 0, .string ⟨#[]⟩, .string ⟨#[]⟩, .bool false, .slice none 0 0, .slice none 0 0]), .arr 37 #[.int .i64 2, .int .i64 y1, .int .i64 y2, .int .i64 0, .string ⟨#[]⟩, .string ⟨#[]⟩, .bool false, .slice none 0 0, .slice none 0 0] 1 1]
              (fun V => Below wr.heap.size wr V) (by kernel_rfl) (by kernel_rfl) (by kernel_rfl) (by kernel_rfl) (by kernel_rfl) (fun V V' h hb => h.trans (hb.mono h.size)) (Below.refl _ _) ?steps15b ?last15b
            case steps15b =>
              simp only [List.take_succ_cons, List.take_zero]
              refine ⟨?_, ?_, ?_, ?_, ?_, ?_, ?_, ?_, ?_, ?_, ?_, ?_, ?_, ?_, ?_, ?_, ?_, ?_, ?_, trivial⟩
              all_goals
                intro vs V ρ hρ hc hf hg hI hH hd R' hR
                have hbV := HB2.out.trans (Below.mono hI HB2.out.size)
                have s2 := (HH.out _ hbV).cel.cell (i := 2) rfl
                obtain ⟨ad', e', k0, k1⟩ := HEd.out _ hbV
                obtain rfl := Option.some.inj e'
                have HR := Lib.hid hR
                simp [depsOf, Region.binds, sayAt, Say.holds] at hd
                clear hR hI hbV e'
                go_simp
                first
                  | exact HR.out _ _ (by simp [sayAt, Say.holds]) (Below.refl _ _) (by simp [sayAt, Say.isBlk])
                  | exact HR.out _ _ ⟨_, hH, by simp, rfl, heap_alloc_new _ _⟩ ((Below.refl _ _).alloc (Nat.le_refl _) _) (fun h => by cases h)
                  | trace_state
            case last15b =>
              intro vs w3 hI hb hg hd
              have g0 := hg 0 (by omega)
              obtain ⟨o, ho1, ho2, g16, ho⟩ := hg 18 (by omega)
              simp only [sayAt, Say.holds, List.getD_cons_zero] at g0
              simp only [List.take_succ_cons, List.take_zero, List.drop_succ_cons, List.drop_zero, putAll, Act.put, List.setIfInBounds_toArray, List.set_cons_succ, List.set_cons_zero, Nat.zero_add, Nat.reduceAdd]
              rw [g0, g16]
              have HO3 := Lib.hid (st_keep HO2.out hI)
              have HB3 := Lib.hid (HB2.out.trans (Below.mono hI HB2.out.size))
              have hYb : Y.length ≤ 2000000 := by have := hYl.out; omega
              clear g0 g16 hg hd hI hb
              refine wpList_append_own_at _ rfl _ _ 22 rfl W.heap.size 37 i9 z9 9 120 Tryz.underlying22 hi9 hz9 hs9 hb9 hzs9 (by decide) _ Y.length _ rfl HO3.out ⟨o, 0, none⟩ 1 1 (rcs (bare (doR (y1, y2)))) rfl rfl ?h1b ?h2b ?h3b ?h4b ?h5b ?_
              case h1b => intro j u hu; rw [addr_head]; exact blk_cell ho (by rw [List.getElem?_toArray]; exact hu)
              case h2b => exact fun u hu => recs_one [bare (doR (y1, y2))] u (by simpa using hu)
              case h3b => unfold maxLen; omega
              case h4b => omega
              case h5b => exact HB3.out.size
              intro v' w5 hown' hgrow _ hat
              have HB5 := Lib.hid (HB3.out.grown hgrow HB3.out.size (fun k hk => (HO3.out.lt k hk).1))
              have HO5 := Lib.hid (show OutP w5 W.heap.size v' (Y ++ [doR (y1, y2)]) by
                unfold OutP
                rw [bare_snoc, List.length_append, List.length_singleton]
                exact hown')
              have HN := Lib.hid (show Y ++ [doR (y1, y2)] = X ++ (s.e.take (i + 1)).map doR by rw [HTl.out, hY.out, List.append_assoc])
              have HNl := Lib.hid (show (Y ++ [doR (y1, y2)]).length ≤ 1100000 + (i + 1) by have := hYl.out; rw [List.length_append, List.length_singleton]; omega)
              clear hown' hgrow hat ho ho1 ho2 HO3 HB3 HO2 HB2 hY hYl HTl hYb
              go_wp2_with fail
              go_roundw
              case rel => exact ⟨i + 1, _, by omega, by go_num, HN, HNl, HO5, HB5⟩
              case measure => simp [intOf]; omega
          · obtain rfl : i = s.e.length := by omega
            have s1 := (HH.out _ hb.out).cel.cell (i := 1) rfl
            have HRp := Lib.hid (HH.out _ hb.out).rp
            have HLp := Lib.hid (flatN_len rcs_len P)
            have hYb : Y.length ≤ 2000000 := by have := hYl.out; omega
            have HRec := Lib.hid (show recordsP s = Y ++ s.p by rw [HE0.out, hY.out, HX4.out, List.take_length, List.append_assoc])
            have HB9 := hb
            have HO9 := hO
            clear hY hb hO
            go_wp2_with (at_builtin; refine wpList_append_optN rfl _ _ 22 rfl W.heap.size 37 i9 z9 9 120 Tryz.underlying22 hi9 hz9 hs9 hb9 hzs9 (by decide) _ Y.length _ rfl HO9.out B P.length b (P.flatMap rcs) rfl HLp.out HBn.out (fun ad' e => by cases e; exact HRp.out.news) (recs_one _) ?k3b ?k4b ?k5b ?_)
            case k3b => unfold maxLen; omega
            case k4b => omega
            case k5b => exact HB9.out.size
            intro v7 w7 ho7 hg7 hat7
            have HB7 := HB9.out.grown hg7 HB9.out.size (fun k hk => (HO9.out.lt k hk).1)
            have hl : (Y ++ s.p).length = Y.length + P.length := by rw [List.length_append, HPl.out]
            rw [← hl] at ho7
            have HO7 := Lib.hid ho7
            have HB77 := Lib.hid HB7
            clear ho7 hg7 hat7 HB7
            go_wp2_with fail
            go_ret
            exact ⟨_, Y, rfl, HRec.out, HO7.out, HB77.out⟩
end
end Sh
end Go.Proofs.YtbkanoblcojdfaaGreat
