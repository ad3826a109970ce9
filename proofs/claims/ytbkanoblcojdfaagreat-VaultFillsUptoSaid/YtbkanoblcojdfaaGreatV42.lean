/- Parts of the proof, joined: ShL26, ShL8G, ShPl1, VtMade; their conditions stand with each. -/
import Derived.Deep.RegionHeld3
import Derived.Test.YtbkanoblcojdfaaGreatV22
import Derived.Test.YtbkanoblcojdfaaGreatV34
import Derived.Test.YtbkanoblcojdfaaGreatV39
import Derived.Test.YtbkanoblcojdfaaGreatV41

set_option maxRecDepth 20000
set_option maxHeartbeats 8000000
namespace Go.Proofs.YtbkanoblcojdfaaGreat
namespace Sh
open Go.RowKit Bk Ch Lt Rc Tr
attribute [local go_sem ↓] Go.wp_at_zero Go.wp_at_succ
attribute [local go_sem] floatUpon pick
section
variable {W : World} {F : Nat → Prop} {g bc bp : Nat} {v : Value} {K : List KI} {P : List RI} {s : Shf}
set_option maxHeartbeats 16000000 in
theorem lfork_any (h : LAt W F g bc bp v K P s) (hs : ShOk s) :
    Calls Tryz.prog 9 #[.pointer (some ⟨g, 0, none⟩)] W fun e w' => ∃ (g' : Nat) (F' : Nat → Prop), e = .returned (.pointer (some ⟨g', 0, none⟩)) ∧ LRep w' F' g' s ∧ (∀ k, F' k → W.heap.size ≤ k) ∧ Below W.heap.size W w' := by
  have HH := Lib.hid (fun V (hb : Below W.heap.size W V) => h.below hb)
  have HNdK := Lib.hid h.mc.nodup
  have HNdP := Lib.hid h.mp.nodup
  have HEk := Lib.hid h.ek
  have HEp := Lib.hid h.ep
  have HEn := Lib.hid h.en
  have HKok := Lib.hid (show ∀ x ∈ K, ChOk x.k.l ∧ x.k.name.size ≤ 2052 from fun x hx => by
    have hm : x.k ∈ s.k := by rw [← h.ek]; exact List.mem_map_of_mem hx
    exact ⟨hs.kc _ hm, by have := (hs.kn _ hm).2; omega⟩)
  have HKv := Lib.hid h.kv
  have HKl := Lib.hid (show K.length ≤ 1024 by rw [h.klen]; exact hs.kl)
  have HPl := Lib.hid (show P.length ≤ 1024 by rw [h.plen]; exact hs.pl)
  have HPo := Lib.hid (show ∀ x ∈ P, x.l.keys.length ≤ 1024 ∧ x.l.ws.length ≤ 1024 ∧ -9223372036854775808 ≤ x.l.txn ∧ x.l.txn ≤ 9223372036854775807 from fun x hx => by
    have hr := hs.po x.l (by rw [← h.ep]; exact List.mem_map_of_mem hx)
    have hu := ups_of hr.1 hr.2
    have ht := hr.1.rng.txn
    exact ⟨hu.kl, hu.wl, ht.1, ht.2⟩)
  have HEl := Lib.hid hs.el
  have hbc := h.mc.lt
  have hbp := h.mp.lt
  have HBc := Lib.hid (And.intro hbc hbp)
  have HNew := Lib.hid (lnew_any W)
  have HCl := Lib.hid (fun (t : ByteArray) V (ht : t.size ≤ 2052) => Bk.clone_any t V (by omega))
  have HCo := Lib.hid (fun (X : KI) V (hv : KVal V (Mu g bc bp v) X) (hk : ChOk X.k.l) => copiesL_any X.A X.c X.k.l V hv.row.vrs hv.nil (ok32 hk) (fun x hx => by have := (hk.each x hx).2.2.1; omega))
  clear h hs hbc hbp
  go_enter Tryz.func9, Tryz.ntmps9
  go_wp2_with fail
  refine HNew.out.mono ?_
  rintro e1 w1 ⟨g1, F1, rfl, ⟨b0, b1, v1, K1, P1, h1⟩, hF, hb⟩
  obtain rfl : K1 = [] := List.map_eq_nil_iff.1 h1.ek
  obtain rfl : P1 = [] := List.map_eq_nil_iff.1 h1.ep
  obtain rfl : v1 = .slice none 0 0 := h1.en rfl
  have n0 : W.heap.size ≤ b0 := hF _ (h1.fm _ (.inr (.inl rfl)))
  have n1 : W.heap.size ≤ b1 := hF _ (h1.fm _ (.inr (.inr (.inl rfl))))
  have ng : W.heap.size ≤ g1 := hF _ (h1.fm _ (.inl rfl))
  have m0 := h1.mc.lt
  have m1 := h1.mp.lt
  have mg := h1.cel.lt
  have HNum := Lib.hid (And.intro n0 (And.intro n1 (And.intro ng (And.intro m0 (And.intro m1 (And.intro mg h1.bd))))))
  have HB1 := Lib.hid hb
  have H1 := Lib.hid (And.intro h1.mc (And.intro h1.mp h1.cel))
  have s0 := (HH.out _ hb).cel.cell (i := 0) rfl
  have hmc := (HH.out _ hb).mc
  clear h1 hF hb HNew n0 n1 ng m0 m1 mg
  go_wp2_with (at_range; refine wpList_range_is strQ rfl _ 85 92 rfl Tryz.underlying85 bc _ rfl hmc ?_; intro w0 hrg0 hb0 hs0)
  go_frame
  obtain ⟨r1, hr1⟩ : ∃ r1, w1.heap.size = r1 := ⟨_, rfl⟩
  rw [hr1] at hrg0 hs0 ⊢
  have HR1 := Lib.hid hr1
  have HS0 : Hid (FkB W w0 b0 (r1 + 1) g1 b1 [] ∧ RangeIs strQ w0 bc r1 (K.map kp) (K.map kp)) := Lib.hid ⟨⟨H1.out.1.below hb0, by simp, HB1.out.trans (hb0.mono HB1.out.size), by omega, H1.out.2.2.below hb0, H1.out.2.1.below hb0⟩, hrg0⟩
  clear hrg0 hb0 hs0 hmc s0 H1 HB1 hr1
  have q3 : ∀ V, FkB W V b0 (r1 + 1) g1 b1 [] → True := fun _ _ => trivial
  clear q3
  go_loopw [14] (fun _ wr => ∃ (todo : List (ByteArray × Value)) (done Kd : List KI), Hid (FkB W wr b0 (r1 + 1) g1 b1 Kd) ∧ Hid (RangeIs strQ wr bc r1 (K.map kp) todo) ∧ Hid (∀ x ∈ done, x ∈ K) ∧ Hid ((done.map kp ++ todo).Perm (K.map kp)) ∧ Hid (Kd.map (·.k) = done.map (·.k))) (fun _ wr => wr.rangeLeft bc r1)
  case atStart => exact ⟨_, [], [], Lib.hid HS0.out.1, Lib.hid HS0.out.2, Lib.hid (by simp), Lib.hid (by simp), Lib.hid rfl⟩
  case round =>
    obtain ⟨todo, done, Kd, hsy, hrg, hsub, hall, heq⟩ := hrel
    have hrg1 := hrg.out
    clear HS0
    go_wp2_with (at_next; refine wpList_next_k rfl _ rfl bc r1 K todo rfl hrg1 ?_ ?_)
    · intro h0
      subst h0
      have hdp : done.Perm K := done_perm HNdK.out hsub.out (by have := hall.out; rwa [List.append_nil] at this)
      have HKk := Lib.hid (show (Kd.map (·.k)).Perm s.k by rw [heq.out, ← HEk.out]; exact hdp.map _)
      have s1 := (HH.out _ hsy.out.bel).cel.cell (i := 1) rfl
      have hmp := (HH.out _ hsy.out.bel).mp
      clear hdp hrg1 hrg hsub hall heq
      go_wp2_with (at_range; refine wpList_range_is intQ rfl _ 86 37 rfl Tryz.underlying86 bp _ rfl hmp ?_; intro w2 hrg2 hb2 hs2)
      go_frame
      obtain ⟨r2, hr2⟩ : ∃ r2, wr.heap.size = r2 := ⟨_, rfl⟩
      rw [hr2] at hrg2 hs2 ⊢
      have HR2 := Lib.hid (show r1 + 1 ≤ r2 by rw [← hr2]; exact hsy.out.lx)
      have h2 := hsy.out.below hb2
      have HS2 : Hid (FkP W w2 b0 (r1 + 1) (r2 + 1) g1 b1 Kd [] ∧ RangeIs intQ w2 bp r2 (P.map pp) (P.map pp)) := Lib.hid ⟨⟨h2.mp, h2.nw, h2.m2, by simp, h2.bel, h2.lx, h2.cel⟩, hrg2⟩
      have HZ2 := Lib.hid (show r2 + 1 ≤ w2.heap.size by omega)
      clear h2 hrg2 hb2 hs2 hmp s1 hr2 hsy
      go_loopw [32] (fun _ wr => ∃ (todo : List (Int × Value)) (done Pd : List RI), Hid (FkP W wr b0 (r1 + 1) (r2 + 1) g1 b1 Kd Pd) ∧ Hid (RangeIs intQ wr bp r2 (P.map pp) todo) ∧ Hid (∀ x ∈ done, x ∈ P) ∧ Hid ((done.map pp ++ todo).Perm (P.map pp)) ∧ Hid (Pd.map (·.l) = done.map (·.l)) ∧ Hid (r2 + 1 ≤ wr.heap.size)) (fun _ wr => wr.rangeLeft bp r2)
      case atStart => exact ⟨_, [], [], Lib.hid HS2.out.1, Lib.hid HS2.out.2, Lib.hid (by simp), Lib.hid (by simp), Lib.hid rfl, HZ2⟩
      case round =>
        obtain ⟨todo, done, Pd, hsy, hrg, hsub, hall, heq, hz⟩ := hrel
        have hrg1 := hrg.out
        clear HS2 HZ2
        go_wp2_with (at_next; refine wpList_next_p rfl _ rfl bp r2 P todo rfl hrg1 ?_ ?_)
        · intro h0
          subst h0
          have hdp : done.Perm P := done_permP HNdP.out hsub.out (by have := hall.out; rwa [List.append_nil] at this)
          have HPp := Lib.hid (show (Pd.map (·.l)).Perm s.p by rw [heq.out, ← HEp.out]; exact hdp.map _)
          have hL := HH.out _ hsy.out.bel
          have s2 := hL.cel.cell (i := 2) rfl
          have s3 := hL.cel.cell (i := 3) rfl
          have HCe := Lib.hid (fun V (hb : Below W.heap.size W V) => cloneE_any v s.e V (HH.out _ hb).re HEn.out HEl.out)
          have HS3 := Lib.hid (fun V (hb : Below W.heap.size W V) => And.intro ((HH.out _ hb).cel.cell (i := 2) rfl) ((HH.out _ hb).cel.cell (i := 3) rfl))
          obtain ⟨ov, hov⟩ : ∃ ov, s.over = ov := ⟨_, rfl⟩
          rw [hov] at HS3 s3
          have HOv := Lib.hid hov
          clear hdp hL hrg1 hrg hsub hall heq hov
          have HCd : Hid (∀ V, Below wr.heap.size wr V → Calls Tryz.prog 38 #[v] V fun e w' => ∃ v', e = .returned v' ∧ w'.ownsRow V.heap.size 97 2 v' s.e.length (s.e.flatMap ecs) ∧ (s.e = [] → v' = .slice none 0 0) ∧ Below V.heap.size V w') := Lib.hid (fun V hb => HCe.out V (hsy.out.bel.trans (hb.mono hsy.out.bel.size)))
          have hgl := (HH.out W (Below.refl _ W)).cel.lt
          have hg1 : ¬ g1 = g := fun e => by have := HNum.out; omega
          have hg2 : ¬ g = g1 := fun e => hg1 e.symm
          clear hgl
          go_upto_region 10 with fail
          go_region_held3 (fun w' => w'.cell? ⟨g, 2, none⟩ = some v ∧ w'.cell? ⟨g, 3, none⟩ = some (.int .i64 ov)) (first | (refine ⟨?_, ?_⟩ <;> assumption) | go_keep)
           ((go_at_call 38
             refine (HCd.out _ (by first | exact Below.refl _ _ | exact (Below.refl _ _).drew)).mono ?_
             rintro e6 w6 ⟨v', rfl, hr6, hen6, hb6⟩
             obtain ⟨A6, c6, rfl, -, -, -, -⟩ := own_rowF (F := fun _ => False) hr6 (flatN_len (sz := 2) ecs_len _) (fun _ hf => hf.elim)
             have h6 := hsy.out.below (by first | exact hb6 | exact (Below.refl _ _).drew.trans hb6)
             have s2 := (HS3.out _ h6.bel).1
             have s3 := (HS3.out _ h6.bel).2
             have z2 := h6.cel.cell (i := 2) rfl
             have z3 := h6.cel.cell (i := 3) rfl
             have zf := fun i => h6.cel.free (i := i)
             have HR6 := Lib.hid hr6
             have HE6 := Lib.hid hen6
             have HB6 := Lib.hid hb6
             clear hr6 hen6 hb6))
          have hbw : Below wr.heap.size wr w6 := (Below.refl _ wr).drew.trans HB6.out
          have HFin := Lib.hid (fork_fin (v' := .slice A6 s.e.length c6) hsy.out (by have := HNum.out; omega) HNum.out.1 HNum.out.2.1 HNum.out.2.2.1 (by have := HNum.out; have := HR1.out; omega) (by have := HNum.out; have := HR1.out; omega) (by have := HNum.out; have := HR1.out; omega) (by have := HR2.out; omega) HKk.out HPp.out HR6.out HE6.out hbw ov HOv.out)
          have HBl := Lib.hid (((hsy.out.bel.trans (hbw.mono hsy.out.bel.size)).setCell (p := ⟨g1, 2, none⟩) HNum.out.2.2.1 (.slice A6 s.e.length c6)).setCell (p := ⟨g1, 3, none⟩) HNum.out.2.2.1 (.int .i64 ov))
          clear hbw
          go_wp2_with fail
          go_ret
          exact ⟨g1, _, rfl, HFin.out, fun k hk => hk.elim (fun hf => hf.elim) (fun h1 => h1.1), HBl.out⟩
        · intro X todo' w3 hX hp hrg2 hlt hgr hsz hen
          have hrs : ∀ cs t f, wr.heap[r2]? ≠ some (.cells cs t f) := hrg.out.iter
          have hk3 : ∀ k, k ≠ r2 → w3.heap[k]? = wr.heap[k]? := fun k hk => by
            by_cases hlt : k < wr.heap.size
            · exact hgr.block k hlt (fun e => hk (Option.some.inj e))
            · rw [Array.getElem?_eq_none (by omega), Array.getElem?_eq_none (by omega)]
          have h3 := hsy.out.turn (by omega) (st_grown hgr) hk3 hrs (by have := HNum.out; have := HR2.out; have := HR1.out; omega) (by have := HNum.out; have := HR2.out; have := HR1.out; omega) (by have := HNum.out; have := HR2.out; have := HR1.out; omega) (Nat.lt_succ_self _)
          have hall2 := (List.Perm.append_left (done.map pp) hp).symm.trans hall.out
          have hnot : X.l.txn ∉ (Pd.map pp).map (·.1) := fun hc => by
            rw [List.map_map] at hc
            have e1 : Pd.map ((fun x => x.1) ∘ pp) = done.map ((fun x => x.1) ∘ pp) := by
              have := congrArg (List.map (fun r : Rec => r.txn)) heq.out
              rw [List.map_map, List.map_map] at this
              exact this
            rw [e1] at hc
            have h1 := (hall2.map (·.1)).nodup_iff.2 HNdP.out
            rw [List.map_append, List.map_map, List.nodup_append] at h1
            exact h1.2.2 _ hc _ (by rw [List.map_cons]; exact List.mem_cons_self ..) rfl
          have HAll : Hid (((X :: done).map pp ++ todo').Perm (P.map pp)) := Lib.hid (List.perm_middle.symm.trans hall2)
          have HSub : Hid (∀ x ∈ X :: done, x ∈ P) := Lib.hid (fun x hx => by
            rcases List.mem_cons.1 hx with rfl | hx
            · exact hX
            · exact hsub.out x hx)
          have H3 := Lib.hid h3
          have HRg := Lib.hid hrg2
          have HLt := Lib.hid hlt
          have HNot := Lib.hid hnot
          have HEq := Lib.hid heq.out
          have HZ3 := Lib.hid (show r2 + 1 ≤ w3.heap.size by rw [hsz]; exact hz.out)
          have hpo := HPo.out X hX
          have HTx := Lib.hid (And.intro hpo.2.2.1 hpo.2.2.2)
          have HXv := Lib.hid (fun V (hb : Below W.heap.size W V) => ((HH.out V hb).pv X hX).val)
          have HCp := Lib.hid (fun V (hb : Below W.heap.size W V) => copied_any X V (HXv.out V hb) hpo.1 hpo.2.1)
          have HPdl : Hid (Pd.length < 2048) := Lib.hid (by
            have h1 := congrArg List.length heq.out
            rw [List.length_map, List.length_map] at h1
            have h2 := hall.out.length_eq
            rw [List.length_append, List.length_map, List.length_map] at h2
            have := HPl.out
            omega)
          clear hrs hk3 h3 hall2 hnot hX hp hrg2 hlt hgr hsz hpo hsy hrg hsub hall heq hz hrg1
          obtain ⟨x, A, B, c, d⟩ := X
          simp only at hen HTx HAll HSub HNot
          unfold rcs at HCp
          simp only at HCp
          have hC0 : Cel (w3.alloc (.cells #[.int .i64 x.kind, .int .i64 x.txn, .int .i64 x.ts, .int .i64 x.coord, .string x.key, .string x.text, .bool x.dead, .slice A x.keys.length c, .slice B x.ws.length d] 37)) w3.heap.size 37 [.int .i64 x.kind, .int .i64 x.txn, .int .i64 x.ts, .int .i64 x.coord, .string x.key, .string x.text, .bool x.dead, .slice A x.keys.length c, .slice B x.ws.length d] := (blk1 w3 _).2
          have hB0 : Below w3.heap.size w3 (w3.alloc (.cells #[.int .i64 x.kind, .int .i64 x.txn, .int .i64 x.ts, .int .i64 x.coord, .string x.key, .string x.text, .bool x.dead, .slice A x.keys.length c, .slice B x.ws.length d] 37)) := (Below.refl _ w3).alloc (Nat.le_refl _) _
          go_upto_region 9 with fail
          generalize hW4 : w3.alloc (.cells #[.int .i64 x.kind, .int .i64 x.txn, .int .i64 x.ts, .int .i64 x.coord, .string x.key, .string x.text, .bool x.dead, .slice A x.keys.length c, .slice B x.ws.length d] 37) = W4 at hC0 hB0 ⊢
          clear hW4
          have H4 := Lib.hid (H3.out.below hB0)
          have HRg4 := Lib.hid (HRg.out.below hB0)
          have HLt4 : Hid (W4.rangeLeft bp r2 < wr.rangeLeft bp r2) := Lib.hid (by rw [rangeLeft_kept (hB0.block bp HRg.out.map.lt) (hB0.block _ HRg.out.lt)]; exact HLt.out)
          have HZ4 := Lib.hid (Nat.le_trans HZ3.out hB0.size)
          have HC4 := Lib.hid hC0
          generalize w3.heap.size = vb at hC0 HC4 ⊢
          clear hC0 hB0 H3 HRg HLt HZ3
          refine wp_region_said 7 [37, 38, 39, 40, 41, 42, 43]
            [.is (.pointer (some ⟨g1, 0, none⟩)), .is (.pointer (some ⟨g1, 0, none⟩)), .is (.pointer (some ⟨g1, 1, none⟩)), .is (.map (some b1)), .is (.int .i64 x.txn), .is (.agg #[.int .i64 x.kind, .int .i64 x.txn, .int .i64 x.ts, .int .i64 x.coord, .string x.key, .string x.text, .bool x.dead, .slice A x.keys.length c, .slice B x.ws.length d]),
             .own (fun u V => ∃ y : RI, u = .agg (rcs y).toArray ∧ y.l = x ∧ RecVal V y.A y.B y.c y.d y.l ∧ NewR (r2 + 1) y) (fun _ _ _ h hb => by obtain ⟨y, h1, h2, h3, h4⟩ := h; exact ⟨y, h1, h2, h3.below hb, h4⟩)]
            (fun V => Below W4.heap.size W4 V) (by kernel_rfl) (by kernel_rfl) (by kernel_rfl) (by kernel_rfl) (by kernel_rfl) (fun V V' h hb => h.trans (hb.mono h.size)) (Below.refl _ _) ?steps9 ?last9
          case steps9 =>
            simp only [List.take_succ_cons, List.take_zero]
            refine ⟨?_, ?_, ?_, ?_, ?_, ?_, ?_, trivial⟩
            all_goals
              intro vs V ρ hρ hc hf hg hI hH hd R' hR
              have s1 := (H4.out.below hI).cel.cell (i := 1) rfl
              have hc2 := HC4.out.below hI
              have q0 := hc2.cell (i := 0) rfl
              have q1 := hc2.cell (i := 1) rfl
              have q2 := hc2.cell (i := 2) rfl
              have q3 := hc2.cell (i := 3) rfl
              have q4 := hc2.cell (i := 4) rfl
              have q5 := hc2.cell (i := 5) rfl
              have q6 := hc2.cell (i := 6) rfl
              have q7 := hc2.cell (i := 7) rfl
              have q8 := hc2.cell (i := 8) rfl
              have HR := Lib.hid hR
              have HI := Lib.hid hI
              simp [depsOf, Region.binds, sayAt, Say.holds] at hd
              clear hR hI hc2
              go_simp
              first
                | exact HR.out _ _ (by simp [sayAt, Say.holds]) (Below.refl _ _) (by simp [sayAt, Say.isBlk])
                | (refine (HCp.out _ ((H4.out.below HI.out).bel)).mono ?_; rintro e w' ⟨y, rfl, hyl, hyv, -, hya, hyb, hb⟩; exact ⟨_, rfl, HR.out _ _ ⟨y, rfl, hyl, hyv, ⟨fun hp ad e => Nat.le_trans (Nat.le_trans HZ4.out HI.out.size) (hya (by rw [hyl] at hp; exact hp) ad e), fun hp ad e => Nat.le_trans (Nat.le_trans HZ4.out HI.out.size) (hyb (by rw [hyl] at hp; exact hp) ad e)⟩⟩ hb (by simp [sayAt, Say.isBlk])⟩)
          case last9 =>
            intro vs V hI hb hg hd
            have g3 := hg 3 (by omega)
            have g4 := hg 4 (by omega)
            obtain ⟨y, g6, hyl, hyv, hyn⟩ := hg 6 (by omega)
            simp only [sayAt, Say.holds, List.getD_cons_succ, List.getD_cons_zero] at g3 g4
            simp only [List.take_succ_cons, List.take_zero, List.drop_succ_cons, List.drop_zero, putAll, Act.put, List.setIfInBounds_toArray, List.set_cons_succ, List.set_cons_zero, Nat.zero_add, Nat.reduceAdd]
            rw [g3, g4, g6]
            have H5 := Lib.hid (H4.out.below hI)
            have HRg5 := Lib.hid (HRg4.out.below hI)
            have HLt5 : Hid (V.rangeLeft bp r2 < wr.rangeLeft bp r2) := Lib.hid (by rw [rangeLeft_kept (hI.block bp HRg4.out.map.lt) (hI.block _ HRg4.out.lt)]; exact HLt4.out)
            have HZ5 := Lib.hid (Nat.le_trans HZ4.out hI.size)
            have hpm : (x.txn, Value.agg (rcs y).toArray) = pp y := by rw [← hyl]; rfl
            have HY := Lib.hid (And.intro hyl (And.intro hyv hyn))
            clear g3 g4 g6 hg hd hI hb
            refine wpList_update_is intQ rfl _ _ _ 86 37 rfl Tryz.underlying86 b1 (Pd.map pp) rfl H5.out.mp ?c1 x.txn (intQ_ok HTx.out.1 HTx.out.2) (.agg (rcs y).toArray) rfl rfl ?_
            case c1 => rw [List.length_map]; have := HPdl.out; unfold maxLen; omega
            intro w' hm ht
            rw [outM_none HNot.out, hpm] at hm
            have nb : b1 < r1 + 1 := by have := HNum.out; have := HR1.out; omega
            have H6 := Lib.hid (H5.out.put (y := y) hm HY.out.2.1 HY.out.2.2 ht HNum.out.2.1 HNum.out.2.2.2.2.2.2 (by have := HR2.out; omega))
            have hk : ∀ k, k ≠ b1 → w'.heap[k]? = V.heap[k]? := fun k hk => turned_other ht hk
            have hbpn : bp ≠ b1 := by have := HBc.out; have := HNum.out; omega
            have hrn : r2 ≠ b1 := by have := HR2.out; omega
            have HRg6 := Lib.hid (HRg5.out.kept (hk bp hbpn) (hk r2 hrn))
            have HLt6 : Hid (w'.rangeLeft bp r2 < wr.rangeLeft bp r2) := Lib.hid (by rw [rangeLeft_kept (hk bp hbpn) (hk r2 hrn)]; exact HLt5.out)
            have HZ6 := Lib.hid (show r2 + 1 ≤ w'.heap.size by rw [turned_size ht]; exact HZ5.out)
            have HE6 := Lib.hid (show (y :: Pd).map (·.l) = (⟨x, A, B, c, d⟩ :: done : List RI).map (·.l) by rw [List.map_cons, List.map_cons, HEq.out, hyl])
            clear hm ht hk hbpn hrn nb H5 HRg5 HLt5 HZ5 HY hyl hyv hyn hpm
            go_wp2_with fail
            go_roundw
            case rel => exact ⟨_, _, _, H6, HRg6, HSub, HAll, HE6⟩
            case measure => exact HLt6.out
    · intro X todo' w3 hX hp hrg2 hlt hgr hsz hen
      have hrs : ∀ cs t f, wr.heap[r1]? ≠ some (.cells cs t f) := hrg.out.iter
      have h3 := hsy.out.turn (by omega) (st_grown hgr) (fun k hk hn => hgr.block k hk (fun e => hn (Option.some.inj e))) hrs (by have := HNum.out; have := HR1.out; omega) (by have := HNum.out; have := HR1.out; omega) (by have := HNum.out; have := HR1.out; omega)
      have hall2 := (List.Perm.append_left (done.map kp) hp).symm.trans hall.out
      have hnot : X.k.name ∉ (Kd.map kp).map (·.1) := fun hc => by
        rw [List.map_map] at hc
        have e1 : Kd.map ((fun x => x.1) ∘ kp) = done.map ((fun x => x.1) ∘ kp) := by
          have := congrArg (List.map (fun r : Kc => r.name)) heq.out
          rw [List.map_map, List.map_map] at this
          exact this
        rw [e1] at hc
        have h1 := (hall2.map (·.1)).nodup_iff.2 HNdK.out
        rw [List.map_append, List.map_map, List.nodup_append] at h1
        exact h1.2.2 _ hc _ (by rw [List.map_cons]; exact List.mem_cons_self ..) rfl
      have HAll : Hid (((X :: done).map kp ++ todo').Perm (K.map kp)) := Lib.hid (List.perm_middle.symm.trans hall2)
      have HSub : Hid (∀ x ∈ X :: done, x ∈ K) := Lib.hid (fun x hx => by
        rcases List.mem_cons.1 hx with rfl | hx
        · exact hX
        · exact hsub.out x hx)
      have H3 := Lib.hid h3
      have HRg := Lib.hid hrg2
      have HLt := Lib.hid hlt
      have HNot := Lib.hid hnot
      have HEq := Lib.hid heq.out
      obtain ⟨hok, hnm⟩ := HKok.out X hX
      have HNm := Lib.hid (show X.k.name.size ≤ maxLen by unfold maxLen; omega)
      have HClN := Lib.hid (fun V => HCl.out X.k.name V hnm)
      have HCoX := Lib.hid (fun V (hb : Below W.heap.size W V) => HCo.out X V ((HH.out V hb).kv X hX) hok)
      have HKdl : Hid (Kd.length < 2048) := Lib.hid (by
        have h1 := congrArg List.length heq.out
        rw [List.length_map, List.length_map] at h1
        have h2 := hall.out.length_eq
        rw [List.length_append, List.length_map, List.length_map] at h2
        have := HKl.out
        omega)
      clear hrs h3 hall2 hnot hX hp hrg2 hlt hgr hsz hok hnm hsy hrg hsub hall heq hrg1
      obtain ⟨⟨nm, l⟩, A, c⟩ := X
      simp only at hen HAll HSub HNot HNm HClN HCoX
      go_upto_region 5 with fail
      refine wp_region_said 8 [19, 20, 21, 22, 23, 24, 25, 26]
        [.is (.pointer (some ⟨g1, 0, none⟩)), .is (.pointer (some ⟨g1, 0, none⟩)), .is (.pointer (some ⟨g1, 0, none⟩)), .is (.map (some b0)), .is (.string nm), .is (.string nm), .is (.slice A l.length c),
         .own (fun u V => ∃ (A2 : Option Addr) (c2 : Nat), u = .slice A2 l.length c2 ∧ NewK V (r1 + 1) ⟨⟨nm, l⟩, A2, c2⟩) (fun _ _ _ h hb => by obtain ⟨A2, c2, h1, h2⟩ := h; exact ⟨A2, c2, h1, st_keep h2 hb⟩)]
        (fun V => Below w3.heap.size w3 V) (by kernel_rfl) (by kernel_rfl) (by kernel_rfl) (by kernel_rfl) (by kernel_rfl) (fun V V' h hb => h.trans (hb.mono h.size)) (Below.refl _ _) ?steps5 ?last5
      case steps5 =>
        simp only [List.take_succ_cons, List.take_zero]
        refine ⟨?_, ?_, ?_, ?_, ?_, ?_, ?_, ?_, trivial⟩
        all_goals
          intro vs V ρ hρ hc hf hg hI hH hd R' hR
          have s0 := (H3.out.below hI).cel.cell (i := 0) rfl
          have HR := Lib.hid hR
          have HI := Lib.hid hI
          simp [depsOf, Region.binds, sayAt, Say.holds] at hd
          clear hR hI
          go_simp
          first
            | exact HR.out _ _ (by simp [sayAt, Say.holds]) (Below.refl _ _) (by simp [sayAt, Say.isBlk])
            | (go_at_call 36; refine (HClN.out _).mono ?_; rintro e w' ⟨rfl, hb⟩; exact ⟨_, rfl, HR.out _ _ (by simp [sayAt, Say.holds]) hb (by simp [sayAt, Say.isBlk])⟩)
            | (refine (HClN.out _).mono ?_; rintro e w' ⟨rfl, hb⟩; exact ⟨_, rfl, HR.out _ _ (by simp [sayAt, Say.holds]) hb (by simp [sayAt, Say.isBlk])⟩)
            | (refine (HCoX.out _ ((H3.out.below HI.out).bel)).mono ?_; rintro e w' ⟨A2, c2, rfl, ho, hb⟩; exact ⟨_, rfl, HR.out _ _ ⟨A2, c2, rfl, own_base ho (Nat.le_trans H3.out.lx HI.out.size)⟩ hb (by simp [sayAt, Say.isBlk])⟩)
      case last5 =>
        intro vs V hI hb hg hd
        have g3 := hg 3 (by omega)
        have g5 := hg 5 (by omega)
        obtain ⟨A2, c2, g7, hnk⟩ := hg 7 (by omega)
        simp only [sayAt, Say.holds, List.getD_cons_succ, List.getD_cons_zero] at g3 g5
        simp only [List.take_succ_cons, List.take_zero, List.drop_succ_cons, List.drop_zero, putAll, Act.put, List.setIfInBounds_toArray, List.set_cons_succ, List.set_cons_zero, Nat.zero_add, Nat.reduceAdd]
        rw [g3, g5, g7]
        have H5 := Lib.hid (H3.out.below hI)
        have HRg5 := Lib.hid (HRg.out.below hI)
        have HLt5 : Hid (V.rangeLeft bc r1 < wr.rangeLeft bc r1) := Lib.hid (by rw [rangeLeft_kept (hI.block bc HRg.out.map.lt) (hI.block _ HRg.out.lt)]; exact HLt.out)
        have HNk := Lib.hid hnk
        clear g3 g5 g7 hg hd hI hb hnk
        refine wpList_update_is strQ rfl _ _ _ 85 92 rfl Tryz.underlying85 b0 (Kd.map kp) rfl H5.out.mp ?c1 nm (strQ_ok HNm.out) (.slice A2 l.length c2) rfl rfl ?_
        case c1 => rw [List.length_map]; have := HKdl.out; unfold maxLen; omega
        intro w' hm ht
        rw [outM_none HNot.out] at hm
        have H6 := Lib.hid (H5.out.put (y := ⟨⟨nm, l⟩, A2, c2⟩) hm HNk.out ht HNum.out.1 (fun e => HNum.out.2.2.2.2.2.2 e.symm))
        have hk : ∀ k, k ≠ b0 → w'.heap[k]? = V.heap[k]? := fun k hk => turned_other ht hk
        have hbcn : bc ≠ b0 := by have := HBc.out; have := HNum.out; omega
        have hrn : r1 ≠ b0 := by have := HNum.out; have := HR1.out; omega
        have HRg6 := Lib.hid (HRg5.out.kept (hk bc hbcn) (hk r1 hrn))
        have HLt6 : Hid (w'.rangeLeft bc r1 < wr.rangeLeft bc r1) := Lib.hid (by rw [rangeLeft_kept (hk bc hbcn) (hk r1 hrn)]; exact HLt5.out)
        have HE6 := Lib.hid (show ((⟨⟨nm, l⟩, A2, c2⟩ : KI) :: Kd).map (·.k) = (⟨⟨nm, l⟩, A, c⟩ :: done : List KI).map (·.k) by rw [List.map_cons, List.map_cons, HEq.out])
        clear hm ht hk hbcn hrn H5 HRg5 HLt5 HNk
        go_wp2_with fail
        go_roundw
        case rel => exact ⟨_, _, _, H6, HRg6, HSub, HAll, HE6⟩
        case measure => exact HLt6.out
end
section
variable {W:World} {F:Nat → Prop} {g bc bp:Nat} {v:Value} {K:List KI} {P:List RI} {s:Shf}
end
section
variable {w w':World} {F:Nat → Prop} {g:Nat} {s:Shf}
theorem LRep.state_c (h:LRep w F g s) (hs:ShOk s) (txn:Int) (h1:-9223372036854775808 ≤ txn ∧ txn ≤ 9223372036854775807) :
  Calls Tryz.prog 34 #[.pointer (some ⟨g,0,none⟩),.int .i64 txn] w fun e w'=>e = .returned (.tuple #[.int .i64 (stateP s txn).1,.int .i64 (stateP s txn).2]) ∧ Below w.heap.size w w':=by
 obtain ⟨bc,bp,v,K,P,h⟩:=h;exact lstate_any h hs txn h1.1 h1.2
theorem LRep.recs_c (h:LRep w F g s) (hs:ShOk s) :
  Calls Tryz.prog 52 #[.pointer (some ⟨g,0,none⟩)] w fun e w'=>∃ (A:Option Addr) (c:Nat) (X:List RI),e = .returned (.slice A X.length c) ∧ X.map (·.l) = recordsP s ∧ OutL w w' (.slice A X.length c) X ∧ Below w.heap.size w w':=by
 obtain ⟨bc,bp,v,K,P,h⟩:=h
 refine (lrecs_any h hs).mono ?_
 rintro e w' ⟨u,X,rfl,hX,ho,hb⟩
 obtain ⟨A,c,rfl,-⟩:=ho.rows
 exact ⟨A,c,X,rfl,hX,ho,hb⟩
theorem LRep.fork_c (h:LRep w F g s) (hs:ShOk s) :
  Calls Tryz.prog 9 #[.pointer (some ⟨g,0,none⟩)] w fun e w'=>∃ (g':Nat) (F':Nat → Prop),e = .returned (.pointer (some ⟨g',0,none⟩)) ∧ LRep w' F' g' s ∧ (∀ k,F' k → w.heap.size ≤ k) ∧ Below w.heap.size w w':=by
 obtain ⟨bc,bp,v,K,P,h⟩:=h;exact lfork_any h hs
theorem LRep.apply_c (h:LRep w F g s) (hs:ShOk s) (x:RI) (hv:RecVal w x.A x.B x.c x.d x.l) :
  Calls Tryz.prog 11 #[.pointer (some ⟨g,0,none⟩),.agg (rcs x).toArray] w fun e w'=>e = .returned (.int .i64 (applyP s x.l).2) ∧ LRep w' (Gr F w w') g (applyP s x.l).1 ∧ Far F w w':=by
 obtain ⟨bc,bp,v,K,P,h⟩:=h;exact lapply_any h hs x hv
where
 recs_all_ok {s:Shf} (hs:ShOk s):∀ r ∈ recordsP s,RecOk r:=fun r hr=>by
  obtain ⟨j,hj⟩:=List.getElem?_of_mem hr
  have:=(go_step _ _ _ (go_again hs) j r hj).1
  by_cases h:RecOk r
  ·exact h
  ·exfalso
   unfold applyP at this
   rw [if_pos h] at this
   have h2:(80:Int) = 0:=this
   omega
 plain_of {s:Shf} (hs:ShOk s) {X:List Rec} (hX:recordsP s = X ++ s.p) {r:Rec} (hr:r ∈ X):r.keys = [] ∧ r.ws = []:=by
  unfold recordsP at hX
  have e:X = (if 0 < s.over then [sweepR s.over] else []) ++ (s.k.flatMap fun x=>x.l.map (verR x.name)) ++ s.e.map doR:=by
   have h1:=hX
   rw [List.append_left_inj] at h1
   exact h1.symm
  rw [e] at hr
  rcases List.mem_append.1 hr with hr | hr
  ·rcases List.mem_append.1 hr with hr | hr
   ·split at hr
    ·rw [List.mem_singleton.1 hr];exact ⟨rfl,rfl⟩
    ·cases hr
   ·obtain ⟨x,_,hx⟩:=List.mem_flatMap.1 hr
    obtain ⟨v,_,rfl⟩:=List.mem_map.1 hx
    exact ⟨rfl,rfl⟩
  ·obtain ⟨x,_,rfl⟩:=List.mem_map.1 hr
   exact ⟨rfl,rfl⟩
end
end Sh
end Go.Proofs.YtbkanoblcojdfaaGreat
namespace Go.Proofs.YtbkanoblcojdfaaGreat
namespace Vt
open Go.RowKit Bk Ch Lt Rc Tr
attribute [local go_sem ↓] Go.wp_at_zero Go.wp_at_succ
attribute [local go_sem] floatUpon pick
theorem goE_snoc {l:List Rec} {s n:Sh.Shf} (r:Rec) (h:goE l s = (n,0)):goE (l ++ [r]) s = if (Sh.applyP n r).2 = 0 then ((Sh.applyP n r).1,0) else (n,(Sh.applyP n r).2):=by
 rw [goE_app,h]
 rfl
theorem goE_stop {a b:List Rec} {s n:Sh.Shf} {e:Int} (h:goE a s = (n,e)) (he:e ≠ 0):goE (a ++ b) s = (n,e):=by
 rw [goE_app,h,if_neg he]
def MadePost (l:List Rec) (w:World) (e:Ending) (w':World):Prop :=
 ((goE l Sh.empty).2 = 0 ∧ ∃ (g:Nat) (F:Nat → Prop),e = .returned (.tuple #[.pointer (some ⟨g,0,none⟩),.int .i64 0]) ∧ Sh.LRep w' F g (goE l Sh.empty).1 ∧ (∀ k,F k → w.heap.size ≤ k) ∧ Below w.heap.size w w') ∨
 ((goE l Sh.empty).2 ≠ 0 ∧ e = .returned (.tuple #[.pointer none,.int .i64 (goE l Sh.empty).2]) ∧ Below w.heap.size w w')
theorem made_any (A:Option Addr) (c:Nat) (X:List RI) (w:World) (hX:Row w A X) (hxl:(X.length:Int) ≤ 9223372036854775807) :
  Calls Tryz.prog 76 #[.slice A X.length c] w (MadePost (X.map (·.l)) w):=by
 have HX:=Lib.hid (fun V (hb:Below w.heap.size w V) j (hj:j < X.length)=>hX.one hb hj)
 have HTk:=Lib.hid (fun j (hj:j < X.length)=>show (X.map (·.l)).take (j + 1) = (X.map (·.l)).take j ++ [X[j].l] by
  rw [List.take_succ_eq_append_getElem (by rw [List.length_map];exact hj),List.getElem_map])
 have HAll:=Lib.hid (show (X.map (·.l)).take X.length = X.map (·.l) from List.take_of_length_le (by rw [List.length_map];exact Nat.le_refl _))
 have HRest:=Lib.hid (fun j=>show X.map (·.l) = (X.map (·.l)).take j ++ (X.map (·.l)).drop j from (List.take_append_drop j _).symm)
 have HNew:=Lib.hid (Sh.lnew_any w)
 clear hX
 go_enter Tryz.func76,Tryz.ntmps76
 go_wp2_with fail
 refine HNew.out.mono ?_
 rintro e1 w1 ⟨g,F,rfl,hr,hF,hb⟩
 have HLv:Hid (Sh.Live w w1 g F Sh.empty):=Lib.hid ⟨hr,Sh.ok_empty,hF,hb⟩
 clear hr hF hb HNew
 go_wp2_with fail
 go_loopw [11] (fun iv wr=>∃ (j:Nat) (F:Nat → Prop) (s:Sh.Shf),j ≤ X.length ∧ iv = .int .i64 (j:Int) ∧ Hid (Sh.Live w wr g F s) ∧ Hid (goE ((X.map (·.l)).take j) Sh.empty = (s,0))) (fun iv _=>X.length - (RowKit.intOf iv).toNat)
 case atStart=>exact ⟨0,F,Sh.empty,by omega,rfl,HLv,Lib.hid rfl⟩
 case round =>
  obtain ⟨j,F,s,hj,rfl,hL,hG⟩:=hrel
  clear HLv
  by_cases hlt:j < X.length
  ·have pj:(j:Int) < (X.length:Int):=by omega
   obtain ⟨ad,rfl,hc2,hval⟩:=HX.out _ hL.out.bel j hlt
   have HTj:=Lib.hid (HTk.out j hlt)
   generalize X[j] = x at hc2 hval HTj
   obtain ⟨r,A1,B1,c1,d1⟩:=x
   simp only at hval HTj
   have x0:=hc2 0 _ rfl
   have x1:=hc2 1 _ rfl
   have x2:=hc2 2 _ rfl
   have x3:=hc2 3 _ rfl
   have x4:=hc2 4 _ rfl
   have x5:=hc2 5 _ rfl
   have x6:=hc2 6 _ rfl
   have x7:=hc2 7 _ rfl
   have x8:=hc2 8 _ rfl
   rw [← Lt.add_field _ _ _ (by omega)] at x1 x2 x3 x4 x5 x6 x7 x8
   rw [Nat.add_zero] at x0
   have hr1:Cel (wr.alloc (.cells #[.int .i64 r.kind,.int .i64 r.txn,.int .i64 r.ts,.int .i64 r.coord,.string r.key,.string r.text,.bool r.dead,.slice A1 r.keys.length c1,.slice B1 r.ws.length d1] 37)) wr.heap.size 37 [.int .i64 r.kind,.int .i64 r.txn,.int .i64 r.ts,.int .i64 r.coord,.string r.key,.string r.text,.bool r.dead,.slice A1 r.keys.length c1,.slice B1 r.ws.length d1]:=(blk1 wr _).2
   have hb1:Below wr.heap.size wr (wr.alloc (.cells #[.int .i64 r.kind,.int .i64 r.txn,.int .i64 r.ts,.int .i64 r.coord,.string r.key,.string r.text,.bool r.dead,.slice A1 r.keys.length c1,.slice B1 r.ws.length d1] 37)):=(Below.refl _ wr).alloc (Nat.le_refl _) _
   go_upto_region 5 with fail
   generalize wr.alloc (.cells #[.int .i64 r.kind,.int .i64 r.txn,.int .i64 r.ts,.int .i64 r.coord,.string r.key,.string r.text,.bool r.dead,.slice A1 r.keys.length c1,.slice B1 r.ws.length d1] 37) = W1 at hr1 hb1 ⊢
   have HL1:=Lib.hid (hL.out.below hb1)
   have hap:=HL1.out.rep.apply_c HL1.out.ok ⟨r,A1,B1,c1,d1⟩ (hval.below hb1)
   unfold rcs at hap
   simp only at hap
   have HAp:=Lib.hid hap
   have q0:=hr1.cell (i:=0) rfl
   have q1:=hr1.cell (i:=1) rfl
   have q2:=hr1.cell (i:=2) rfl
   have q3:=hr1.cell (i:=3) rfl
   have q4:=hr1.cell (i:=4) rfl
   have q5:=hr1.cell (i:=5) rfl
   have q6:=hr1.cell (i:=6) rfl
   have q7:=hr1.cell (i:=7) rfl
   have q8:=hr1.cell (i:=8) rfl
   clear hc2 hval hr1 hb1 hap x0 x1 x2 x3 x4 x5 x6 x7 x8 hL
   go_wp2_with fail
   refine HAp.out.mono ?_
   rintro e2 w2 ⟨rfl,hl,hf⟩
   have HL2:=Lib.hid (HL1.out.step hl (Sh.apply_ok HL1.out.ok _) hf)
   have HG2:=Lib.hid (show goE ((X.map (·.l)).take (j + 1)) Sh.empty = if (Sh.applyP s r).2 = 0 then ((Sh.applyP s r).1,0) else (s,(Sh.applyP s r).2) by rw [HTj.out];exact goE_snoc r hG.out)
   clear hl hf HAp q0 q1 q2 q3 q4 q5 q6 q7 q8 hG HL1
   obtain ⟨n,er,her⟩:∃ n er,Sh.applyP s r = (n,er):=⟨_,_,rfl⟩
   rw [her] at HL2 HG2 ⊢
   simp only at HL2 HG2 ⊢
   by_cases h0:er = 0
   ·subst h0
    have HG3:=Lib.hid (show goE ((X.map (·.l)).take (j + 1)) Sh.empty = (n,0) by rw [HG2.out,if_pos rfl])
    clear HG2 her
    go_wp2_with fail
    go_roundw
    case rel=>exact ⟨j + 1,_,_,by omega,by go_num,HL2,HG3⟩
    case measure=>simp [RowKit.intOf];omega
   ·have z:(er != 0) = true:=by simpa using h0
    have HG3:=Lib.hid (show goE (X.map (·.l)) Sh.empty = (s,er) by
     rw [HRest.out (j + 1)]
     exact goE_stop (by rw [HG2.out,if_neg h0]) h0)
    have HN0:=Lib.hid h0
    clear HG2 her h0
    go_wp2_with fail
    go_ret2
    exact .inr ⟨by rw [HG3.out];exact HN0.out,(by rw [HG3.out];first | done | rfl),HL2.out.bel⟩
  ·obtain rfl:j = X.length:=by omega
   have hg:=hG.out
   rw [HAll.out] at hg
   have HG3:=Lib.hid hg
   clear hg hG
   go_wp2_with fail
   go_ret2
   exact .inl ⟨(by rw [HG3.out];first | done | rfl),g,F,rfl,by rw [HG3.out];exact hL.out.rep,hL.out.new,hL.out.bel⟩
end Vt
end Go.Proofs.YtbkanoblcojdfaaGreat
