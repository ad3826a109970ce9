/- Parts of the proof, joined: CkPl2, CkPl3, CkPl4, CkNil, CkIdle, CkWorks; their conditions stand with each. -/
import Derived.Deep.RegionHeld3
import Derived.Test.YtmidncclndongaaGreatC13
import Derived.Test.YtmidncclndongaaGreatC27
import Derived.Test.YtmidncclndongaaGreatC31

set_option maxRecDepth 20000
set_option maxHeartbeats 8000000
namespace Go.Proofs.YtmidncclndongaaGreat
namespace Ck
open Go.RowKit Bk Sc Rd Rc Lt
attribute [local go_sem ↓] Go.wp_at_zero Go.wp_at_succ
attribute [local go_sem] floatUpon pick
def acV (X : AI) : Value := .agg #[.int .i64 X.kind, .int .i64 X.n, .bool X.far, .string X.text, .slice X.psA X.ps.length X.psc]
section
variable {w0 w W : World} {T U : Nat → Prop} {a g h n : Nat} {blk : Int} {D E : Dev} {vl vk : Value} {s q : St} {st : Option Cl}
theorem act_cel (W : World) (X : AI) : Cel (W.alloc (.cells #[.int .i64 X.kind, .int .i64 X.n, .bool X.far, .string X.text, .slice X.psA X.ps.length X.psc] 54)) W.heap.size 54 [.int .i64 X.kind, .int .i64 X.n, .bool X.far, .string X.text, .slice X.psA X.ps.length X.psc] := (blk1 W _).2
structure Xb (W : World) (T U : Nat → Prop) (ab : Nat) (X : AI) : Prop where
  c : Cel W ab 54 [.int .i64 X.kind, .int .i64 X.n, .bool X.far, .string X.text, .slice X.psA X.ps.length X.psc]
  nt : ¬ T ab
  nu : ¬ U ab
theorem Xb.below {W' : World} {ab : Nat} {X : AI} (x : Xb W T U ab X) (hb : Below W.heap.size W W') : Xb W' T U ab X := ⟨x.c.below hb, x.nt, x.nu⟩
theorem Xb.actL {W' : World} {T' : Nat → Prop} {ab : Nat} {X : AI} (x : Xb W T U ab X) (hf : Fr T T' W W') : Xb W' T' U ab X :=
  ⟨(hf.block ab x.c.lt x.nt).trans x.c, fun hk => (hf.foot ab hk).elim x.nt (fun hs => by have := x.c.lt; omega), x.nu⟩
theorem Xb.actR {W' : World} {U' : Nat → Prop} {ab : Nat} {X : AI} (x : Xb W T U ab X) (hf : Fr U U' W W') : Xb W' T U' ab X :=
  ⟨(hf.block ab x.c.lt x.nu).trans x.c, x.nt, fun hk => (hf.foot ab hk).elim x.nu (fun hs => by have := x.c.lt; omega)⟩
theorem outfuse_any (p : C2 w0 w a g h blk (ptrS s) (ptrS q) T U D D s q) (ht : Tw s q st) (hc : Cin blk D n st) (X : AI) (hx : AIOk w0 X) (hk : amongV X.kind 5 = 2) :
    Calls Tryz.prog 47 #[.pointer (some ⟨a, 0, none⟩), acV X] w (StepPost w0 a g h blk (n + 1)) := by
  have HAm := Lib.hid (fun V => among_any X.kind 5 V (by omega) (by omega))
  rw [hk] at HAm
  have hb := (Below.refl w.heap.size w).alloc (Nat.le_refl _) (.cells #[.int .i64 X.kind, .int .i64 X.n, .bool X.far, .string X.text, .slice X.psA X.ps.length X.psc] 54)
  have HP := Lib.hid (p.below hb)
  have hxb := act_cel w X
  have ha : a < w.heap.size := p.cel.lt
  have HLF := Lib.hid (fun V (t : C2 w0 V a g h blk (ptrS s) (ptrS q) T U D D s q) => t.fzL X.n hx.rn)
  have HT := Lib.hid (And.intro ht (cin_fuse (m := X.n) hc))
  have hnt : ¬ T w.heap.size := fun hf => Nat.lt_irrefl _ (p.lt _ hf)
  have hnu : ¬ U w.heap.size := fun hf => Nat.lt_irrefl _ (p.ut _ hf)
  unfold acV
  clear p hb ht hc hk
  go_enter Tryz.func47, Tryz.ntmps47
  go_upto_region 1 with fail
  generalize w.alloc (.cells #[.int .i64 X.kind, .int .i64 X.n, .bool X.far, .string X.text, .slice X.psA X.ps.length X.psc] 54) = W1 at HP hxb ⊢
  generalize w.heap.size = ab at hxb ha hnt hnu ⊢
  have HX : Hid (Xb W1 T U ab X) := Lib.hid ⟨hxb, hnt, hnu⟩
  have x0 := hxb.cell (i := 0) rfl
  have x1 := hxb.cell (i := 1) rfl
  have k1 := HP.out.cel.cell (i := 1) rfl
  have k2 := HP.out.cel.cell (i := 2) rfl
  clear hxb hnt hnu
  go_wp2_with fail
  refine (HAm.out _).mono ?_
  rintro e W2 ⟨rfl, rfl⟩
  have q0 := beq_self_eq_true (fuD D X.n).2
  go_upto_region 2 with fail
  go_region_with (first
    | (refine (HLF.out _ (HP.out.below (Below.refl _ _).drew)).mono ?_
       rintro e W4 ⟨rfl, T4, hp4, hf4⟩
       have HP4 := Lib.hid hp4
       have HX4 := Lib.hid ((HX.out.below (Below.refl _ _).drew).actL hf4)
       have y1 := HX4.out.c.cell (i := 1) rfl
       have y2 := hp4.cel.cell (i := 2) rfl
       clear hp4 hf4)
    | (refine (HP4.out.fzR X.n hx.rn).mono ?_
       rintro e W5 ⟨rfl, U5, hp5, -⟩
       have HP5 := Lib.hid hp5
       clear hp5))
  all_goals
    go_wp2_with fail
    go_ret
    exact ⟨rfl, _, _, _, _, _, st, HP5.out, HT.out.1, HT.out.2⟩
theorem outcrash_any (p : C2 w0 w a g h blk (ptrS s) (ptrS q) T U D D s q) (X : AI) (hx : AIOk w0 X) (hk : amongV X.kind 5 = 3) :
    Calls Tryz.prog 47 #[.pointer (some ⟨a, 0, none⟩), acV X] w (StepPost w0 a g h blk n) := by
  have HAm := Lib.hid (fun V => among_any X.kind 5 V (by omega) (by omega))
  rw [hk] at HAm
  have hb := (Below.refl w.heap.size w).alloc (Nat.le_refl _) (.cells #[.int .i64 X.kind, .int .i64 X.n, .bool X.far, .string X.text, .slice X.psA X.ps.length X.psc] 54)
  have HP := Lib.hid (p.below hb)
  have hxb := act_cel w X
  have HLC := Lib.hid (fun V (t : C2 w0 V a g h blk (ptrS s) (ptrS q) T U D D s q) => t.crL X.psA X.psc X.ps hx.aps hx.lps hx.rps)
  have HOk := Lib.hid (crD_ok (p.l.ok (devF_of devBase)) X.ps)
  have hnt : ¬ T w.heap.size := fun hf => Nat.lt_irrefl _ (p.lt _ hf)
  have hnu : ¬ U w.heap.size := fun hf => Nat.lt_irrefl _ (p.ut _ hf)
  have HHx := Lib.hid hx
  unfold acV
  clear p hb hk hx
  go_enter Tryz.func47, Tryz.ntmps47
  go_upto_region 1 with fail
  generalize w.alloc (.cells #[.int .i64 X.kind, .int .i64 X.n, .bool X.far, .string X.text, .slice X.psA X.ps.length X.psc] 54) = W1 at HP hxb ⊢
  generalize w.heap.size = ab at hxb hnt hnu ⊢
  have HX : Hid (Xb W1 T U ab X) := Lib.hid ⟨hxb, hnt, hnu⟩
  have x0 := hxb.cell (i := 0) rfl
  have x4 := hxb.cell (i := 4) rfl
  have k1 := HP.out.cel.cell (i := 1) rfl
  clear hxb hnt hnu
  go_wp2_with fail
  refine (HAm.out _).mono ?_
  rintro e W2 ⟨rfl, rfl⟩
  go_upto_region 3 with fail
  go_region_held3 (fun w' => w'.cell? ⟨a, 1, none⟩ = some (.pointer (some ⟨g, 0, none⟩)) ∧ w'.cell? ⟨ab, 4, none⟩ = some (.slice X.psA X.ps.length X.psc))
    (first | (refine ⟨?_, ?_⟩ <;> assumption) | go_keep)
    (first
    | (go_at_call 26
       refine (HLC.out _ (by first | exact HP.out | exact HP.out.below (Below.refl _ _).drew)).mono ?_
       rintro e W4 ⟨rfl, T4, hp4, hf4⟩
       have HP4 := Lib.hid hp4
       have HX4 := Lib.hid (by first | exact HX.out.actL hf4 | exact (HX.out.below (Below.refl _ _).drew).actL hf4)
       have y4 := HX4.out.c.cell (i := 4) rfl
       have y2 := hp4.cel.cell (i := 2) rfl
       have y1 := hp4.cel.cell (i := 1) rfl
       clear hp4 hf4 x0 x4 k1 HP HX HLC))
  all_goals
    have HRC := Lib.hid (fun V (t : C2 w0 V a g h blk (ptrS s) (ptrS q) T4 U (crD D X.ps) D .no q) => t.crR X.psA X.psc X.ps HHx.out.aps HHx.out.lps HHx.out.rps)
    go_upto_region 4 with fail
    go_region_held3 (fun w' => w'.cell? ⟨a, 2, none⟩ = some (.pointer (some ⟨h, 0, none⟩)) ∧ w'.cell? ⟨ab, 4, none⟩ = some (.slice X.psA X.ps.length X.psc))
      (first | (refine ⟨?_, ?_⟩ <;> assumption) | go_keep)
      (first
      | (go_at_call 83
         refine (HRC.out _ (by first | exact HP4.out | exact HP4.out.below (Below.refl _ _).drew)).mono ?_
         rintro e W5 ⟨rfl, U5, hp5, hf5⟩
         have HP5 := Lib.hid hp5
         have HX5 := Lib.hid (by first | exact HX4.out.actR hf5 | exact (HX4.out.below (Below.refl _ _).drew).actR hf5)
         have z0 := HX5.out.c.cell (i := 0) rfl
         have j1 := hp5.cel.cell (i := 1) rfl
         have j2 := hp5.cel.cell (i := 2) rfl
         have z4 := HX5.out.c.cell (i := 4) rfl
         clear hp5 hf5 y4 y2 HP4 HX4 HRC))
    all_goals
      generalize crD D X.ps = D2 at HP5 HOk ⊢
      go_wp2_with fail
      refine (HAm.out _).mono ?_
      rintro e W6 ⟨rfl, rfl⟩
      go_wp2_with fail
      refine (bothopen_any HP5.out).mono ?_
      rintro e W7 ⟨rfl, T7, U7, s7, q7, hp7, ht7⟩
      have H7 := Lib.hid (And.intro hp7 (And.intro ht7 (cin_open (blk := blk) HOk.out n)))
      clear hp7 ht7
      go_wp2_with fail
      go_ret
      exact ⟨rfl, T7, U7, _, s7, q7, _, H7.out.1, H7.out.2.1, H7.out.2.2⟩
end
theorem rd_sync_ok {D : Dev} (h : DevOk D) (l : Lg) : DevOk (syncP D l).1 := by
  unfold syncP
  split
  · exact h
  split
  · exact Rd.sync_idle.settle_ok h _ _ _ _
  · exact Rd.sync_idle.settle_ok h _ _ _ _
section
variable {w0 w W : World} {T U : Nat → Prop} {a g h n : Nat} {blk : Int} {D E : Dev} {s q : St} {st : Option Cl}
theorem outtext_any (p : C2 w0 w a g h blk (ptrS s) (ptrS q) T U D D s q) (X : AI) (hx : AIOk w0 X) (hk : amongV X.kind 5 = 4) :
    Calls Tryz.prog 47 #[.pointer (some ⟨a, 0, none⟩), acV X] w (StepPost w0 a g h blk n) := by
  have HAm := Lib.hid (fun V => among_any X.kind 5 V (by omega) (by omega))
  rw [hk] at HAm
  have hb := (Below.refl w.heap.size w).alloc (Nat.le_refl _) (.cells #[.int .i64 X.kind, .int .i64 X.n, .bool X.far, .string X.text, .slice X.psA X.ps.length X.psc] 54)
  have HP := Lib.hid (p.below hb)
  have hxb := act_cel w X
  have HLC := Lib.hid (fun V (t : C2 w0 V a g h blk (ptrS s) (ptrS q) T U D D s q) => t.crL X.psA X.psc X.ps hx.aps hx.lps hx.rps)
  have HOk := Lib.hid (crD_ok (p.l.ok (devF_of devBase)) X.ps)
  have hnt : ¬ T w.heap.size := fun hf => Nat.lt_irrefl _ (p.lt _ hf)
  have hnu : ¬ U w.heap.size := fun hf => Nat.lt_irrefl _ (p.ut _ hf)
  have HHx := Lib.hid hx
  unfold acV
  clear p hb hk hx
  go_enter Tryz.func47, Tryz.ntmps47
  go_upto_region 1 with fail
  generalize w.alloc (.cells #[.int .i64 X.kind, .int .i64 X.n, .bool X.far, .string X.text, .slice X.psA X.ps.length X.psc] 54) = W1 at HP hxb ⊢
  generalize w.heap.size = ab at hxb hnt hnu ⊢
  have HX : Hid (Xb W1 T U ab X) := Lib.hid ⟨hxb, hnt, hnu⟩
  have x0 := hxb.cell (i := 0) rfl
  have x4 := hxb.cell (i := 4) rfl
  have k1 := HP.out.cel.cell (i := 1) rfl
  clear hxb hnt hnu
  go_wp2_with fail
  refine (HAm.out _).mono ?_
  rintro e W2 ⟨rfl, rfl⟩
  go_upto_region 3 with fail
  go_region_held3 (fun w' => w'.cell? ⟨a, 1, none⟩ = some (.pointer (some ⟨g, 0, none⟩)) ∧ w'.cell? ⟨ab, 4, none⟩ = some (.slice X.psA X.ps.length X.psc))
    (first | (refine ⟨?_, ?_⟩ <;> assumption) | go_keep)
    (first
    | (go_at_call 26
       refine (HLC.out _ (by first | exact HP.out | exact HP.out.below (Below.refl _ _).drew)).mono ?_
       rintro e W4 ⟨rfl, T4, hp4, hf4⟩
       have HP4 := Lib.hid hp4
       have HX4 := Lib.hid (by first | exact HX.out.actL hf4 | exact (HX.out.below (Below.refl _ _).drew).actL hf4)
       have y4 := HX4.out.c.cell (i := 4) rfl
       have y2 := hp4.cel.cell (i := 2) rfl
       have y1 := hp4.cel.cell (i := 1) rfl
       clear hp4 hf4 x0 x4 k1 HP HX HLC))
  all_goals
    have HRC := Lib.hid (fun V (t : C2 w0 V a g h blk (ptrS s) (ptrS q) T4 U (crD D X.ps) D .no q) => t.crR X.psA X.psc X.ps HHx.out.aps HHx.out.lps HHx.out.rps)
    go_upto_region 4 with fail
    go_region_held3 (fun w' => w'.cell? ⟨a, 2, none⟩ = some (.pointer (some ⟨h, 0, none⟩)) ∧ w'.cell? ⟨ab, 4, none⟩ = some (.slice X.psA X.ps.length X.psc))
      (first | (refine ⟨?_, ?_⟩ <;> assumption) | go_keep)
      (first
      | (go_at_call 83
         refine (HRC.out _ (by first | exact HP4.out | exact HP4.out.below (Below.refl _ _).drew)).mono ?_
         rintro e W5 ⟨rfl, U5, hp5, hf5⟩
         have HP5 := Lib.hid hp5
         have HX5 := Lib.hid (by first | exact HX4.out.actR hf5 | exact (HX4.out.below (Below.refl _ _).drew).actR hf5)
         have z0 := HX5.out.c.cell (i := 0) rfl
         have j1 := hp5.cel.cell (i := 1) rfl
         have j2 := hp5.cel.cell (i := 2) rfl
         have z4 := HX5.out.c.cell (i := 4) rfl
         clear hp5 hf5 y4 y2 HP4 HX4 HRC))
    all_goals
      generalize crD D X.ps = D2 at HP5 HOk ⊢
      go_wp2_with fail
      refine (HAm.out _).mono ?_
      rintro e W6 ⟨rfl, rfl⟩
      go_wp2_with fail
      refine HP5.out.olL.mono ?_
      rintro e W7 ⟨s7, rfl, hm7, T7, hp7, hf7⟩
      have HP7 := Lib.hid hp7
      have HX7 := Lib.hid (HX5.out.actL hf7)
      have i2 := hp7.cel.cell (i := 2) rfl
      have HM7 := Lib.hid hm7
      clear hp7 hf7 hm7 j1 j2 z0 z4 HP5 HX5
      go_wp2_with fail
      refine HP7.out.olR.mono ?_
      rintro e W8 ⟨q8, rfl, hm8, U8, hp8, hf8⟩
      have HP8 := Lib.hid hp8
      have HX8 := Lib.hid (HX7.out.actR hf8)
      have HM8 := Lib.hid hm8
      clear hp8 hf8 hm8 i2 HP7 HX7
      have HOD := Lib.hid (open_dev HOk.out)
      have b0 := bne_self_eq_false' (openP D2).2.2
      have HIn := Lib.hid (fun l (hl : (openP D2).2.1 = some l) => open_in HOk.out hl)
      cases hv : (openP D2).2.1 with
      | none =>
        have e1 := HM7.out
        have e2 := HM8.out
        rw [hv] at e1 e2
        simp only at e1 e2
        subst e1
        subst e2
        clear HM7 HM8 hv HIn
        generalize openP D2 = R2 at HP8 HOD b0 ⊢
        obtain ⟨D3, ol, er⟩ := R2
        simp only at HP8 HOD b0 ⊢
        simp only [ptrS]
        go_upto_region 10 with fail
        go_quiet (fail)
        have HP8' := Lib.hid (HP8.out.drew nq)
        generalize W8.drewN nq = W8' at HP8' ⊢
        go_wp2_with fail
        refine (bothopen_any HP8'.out).mono ?_
        rintro e W9 ⟨rfl, T9, U9, s9, q9, hp9, ht9⟩
        have H9 := Lib.hid (And.intro hp9 (And.intro ht9 (cin_open (blk := blk) HOD.out n)))
        clear hp9 ht9
        go_wp2_with fail
        go_ret
        exact ⟨rfl, T9, U9, _, s9, q9, _, H9.out.1, H9.out.2.1, H9.out.2.2⟩
      | some l =>
        have e1 := HM7.out
        have e2 := HM8.out
        have hin := HIn.out l hv
        rw [hv] at e1 e2
        simp only at e1 e2
        obtain ⟨c7, rfl⟩ := e1
        obtain ⟨c8, rfl⟩ := e2
        have HI := Lib.hid hin
        clear HM7 HM8 hv HIn hin
        generalize openP D2 = R2 at HP8 HOD b0 HI ⊢
        obtain ⟨D3, ol, er⟩ := R2
        simp only at HP8 HOD b0 HI ⊢
        simp only [ptrS]
        have x3 := HX8.out.c.cell (i := 3) rfl
        have HIa := Lib.hid (app_in HOD.out HI.out.1 X.text)
        have HA1 := Lib.hid (fun V (t : C2 w0 V a g h blk (ptrS s) (ptrS q) T7 U8 D3 D3 (.lg c7 l) (.lg c8 l)) => t.apL HI.out.1 HI.out.2.2.1 X.text HHx.out.rtext)
        have b1 := bne_self_eq_false' (appendP D3 l X.text).2
        have b2 := bne_self_eq_false' (syncP D3 (appendP D3 l X.text).1).2.2
        have HOS := Lib.hid (rd_sync_ok HOD.out (appendP D3 l X.text).1)
        go_upto_region 10 with fail
        go_region_held3 (fun w' => w'.cell? ⟨ab, 3, none⟩ = some (.string X.text)) (first | assumption | go_keep) (first
          | (go_at_call 84
             refine (HA1.out _ (by first | exact HP8.out | exact HP8.out.below (Below.refl _ _).drew)).mono ?_
             rintro e Wa ⟨rfl, Ta, hpa, hfa⟩
             have HPa := Lib.hid hpa
             have HXa := Lib.hid (by first | exact HX8.out.actL hfa | exact (HX8.out.below (Below.refl _ _).drew).actL hfa)
             have x3a := HXa.out.c.cell (i := 3) rfl
             clear hpa hfa)
          | (go_at_call 85
             refine (HPa.out.apR HI.out.1 HI.out.2.2.1 X.text HHx.out.rtext).mono ?_
             rintro e Wb ⟨rfl, Ub, hpb, hfb⟩
             have HPb := Lib.hid hpb
             have HXb := Lib.hid (HXa.out.actR hfb)
             have x3b := HXb.out.c.cell (i := 3) rfl
             clear hpb hfb)
          | (go_at_call 86
             refine (HPb.out.syL HIa.out HI.out.2.2.1).mono ?_
             rintro e Wc ⟨rfl, Tc', hpc, hfc⟩
             have HPc := Lib.hid hpc
             have HXc := Lib.hid (HXb.out.actL hfc)
             have x3c := HXc.out.c.cell (i := 3) rfl
             clear hpc hfc)
          | (go_at_call 87
             refine (HPc.out.syR HIa.out HI.out.2.2.1).mono ?_
             rintro e Wd ⟨rfl, Ud, hpd, hfd⟩
             have HPd := Lib.hid hpd
             have x3d := (HXc.out.actR hfd).c.cell (i := 3) rfl
             clear hpd hfd))
        all_goals
          go_wp2_with fail
          refine (bothopen_any HPd.out).mono ?_
          rintro e W9 ⟨rfl, T9, U9, s9, q9, hp9, ht9⟩
          have H9 := Lib.hid (And.intro hp9 (And.intro ht9 (cin_open (blk := blk) HOS.out n)))
          clear hp9 ht9
          go_wp2_with fail
          go_ret
          exact ⟨rfl, T9, U9, _, s9, q9, _, H9.out.1, H9.out.2.1, H9.out.2.2⟩
end
section
variable {w0 w W : World} {T U : Nat → Prop} {a g h n : Nat} {blk : Int} {D E : Dev} {vl vk : Value} {s q : St} {st : Option Cl}
theorem C2.down (p : C2 w0 W a g h blk vl vk T U D E s q) : W.cell? ⟨h, 3, none⟩ = some (.bool E.down) := by
  obtain ⟨F, o, -, hs⟩ := p.r.dev
  obtain ⟨Fd, _, ao, an, co, cn, so, sn, _, h1, _⟩ := hs.dev
  exact h1.cel.cell (i := 3) rfl
theorem outer_any (p : C2 w0 w a g h blk (ptrS s) (ptrS q) T U D D s q) (ht : Tw s q st) (hc : Cin blk D n st) (X : AI) (hx : AIOk w0 X) (hk : ¬ amongV X.kind 5 ≤ 1) :
    Calls Tryz.prog 47 #[.pointer (some ⟨a, 0, none⟩), acV X] w (StepPost w0 a g h blk (n + 1)) := by
  have hl := amongV_lt X.kind 5 (by omega)
  have : amongV X.kind 5 = 2 ∨ amongV X.kind 5 = 3 ∨ amongV X.kind 5 = 4 := by omega
  rcases this with e | e | e
  · exact outfuse_any p ht hc X hx e
  · exact outcrash_any p X hx e
  · exact outtext_any p X hx e
theorem step_out (p : C2 w0 w a g h blk (ptrS s) (ptrS q) T U D D s q) (ht : Tw s q st) (hc : Cin blk D n st) (X : AI) (hx : AIOk w0 X) (hk : ¬ amongV X.kind 5 ≤ 1) :
    Calls Tryz.prog 17 #[.pointer (some ⟨a, 0, none⟩), acV X] w (StepPost w0 a g h blk (n + 1)) := by
  have HAm := Lib.hid (fun V => among_any X.kind 5 V (by omega) (by omega))
  have HHx := Lib.hid hx
  have hb := (Below.refl w.heap.size w).alloc (Nat.le_refl _) (.cells #[.int .i64 X.kind, .int .i64 X.n, .bool X.far, .string X.text, .slice X.psA X.ps.length X.psc] 54)
  have HP := Lib.hid (p.below hb)
  have hxb := act_cel w X
  have hnt : ¬ T w.heap.size := fun hf => Nat.lt_irrefl _ (p.lt _ hf)
  have hnu : ¬ U w.heap.size := fun hf => Nat.lt_irrefl _ (p.ut _ hf)
  have HO := Lib.hid (fun V (t : C2 w0 V a g h blk (ptrS s) (ptrS q) T U D D s q) => outer_any t ht hc X hx hk)
  have HK := Lib.hid hk
  unfold acV
  clear p hb hx ht hc hk
  go_enter Tryz.func17, Tryz.ntmps17
  go_upto_region 1 with fail
  generalize w.alloc (.cells #[.int .i64 X.kind, .int .i64 X.n, .bool X.far, .string X.text, .slice X.psA X.ps.length X.psc] 54) = W1 at HP hxb ⊢
  generalize w.heap.size = ab at hxb hnt hnu ⊢
  have HX : Hid (Xb W1 T U ab X) := Lib.hid ⟨hxb, hnt, hnu⟩
  have x0 := hxb.cell (i := 0) rfl
  have x1 := hxb.cell (i := 1) rfl
  have x2 := hxb.cell (i := 2) rfl
  have x3 := hxb.cell (i := 3) rfl
  have x4 := hxb.cell (i := 4) rfl
  unfold acV at HO
  have pk : 1 < ((amongV X.kind 5 : Nat) : Int) := by have := HK.out; omega
  generalize ((amongV X.kind 5 : Nat) : Int) = kz at pk HAm
  clear hxb hnt hnu HK
  go_wp2_with fail
  refine (HAm.out _).mono ?_
  rintro e W2 ⟨rfl, rfl⟩
  go_wp2_with fail
  refine (HO.out _ HP.out).mono ?_
  intro e W3 hp
  have H3 := Lib.hid hp
  obtain ⟨rfl, -⟩ := hp
  go_wp2_with fail
  go_ret
  exact H3.out
theorem step_none (p : C2 w0 w a g h blk (ptrS .no) (ptrS .no) T U D D .no .no) (X : AI) (hx : AIOk w0 X) (hk : amongV X.kind 5 ≤ 1) :
    Calls Tryz.prog 17 #[.pointer (some ⟨a, 0, none⟩), acV X] w (StepPost w0 a g h blk (n + 1)) := by
  have HAm := Lib.hid (fun V => among_any X.kind 5 V (by omega) (by omega))
  have HHx := Lib.hid hx
  have hb := (Below.refl w.heap.size w).alloc (Nat.le_refl _) (.cells #[.int .i64 X.kind, .int .i64 X.n, .bool X.far, .string X.text, .slice X.psA X.ps.length X.psc] 54)
  have HP := Lib.hid (p.below hb)
  have hxb := act_cel w X
  have hnt : ¬ T w.heap.size := fun hf => Nat.lt_irrefl _ (p.lt _ hf)
  have hnu : ¬ U w.heap.size := fun hf => Nat.lt_irrefl _ (p.ut _ hf)
  have pk : ¬ 1 < ((amongV X.kind 5 : Nat) : Int) := by omega
  unfold acV
  clear p hb hx  hk
  go_enter Tryz.func17, Tryz.ntmps17
  go_upto_region 1 with fail
  generalize w.alloc (.cells #[.int .i64 X.kind, .int .i64 X.n, .bool X.far, .string X.text, .slice X.psA X.ps.length X.psc] 54) = W1 at HP hxb ⊢
  generalize w.heap.size = ab at hxb hnt hnu ⊢
  have HX : Hid (Xb W1 T U ab X) := Lib.hid ⟨hxb, hnt, hnu⟩
  have x0 := hxb.cell (i := 0) rfl
  have k3 := HP.out.cel.cell (i := 3) rfl
  generalize ((amongV X.kind 5 : Nat) : Int) = kz at pk HAm
  clear hxb hnt hnu
  unfold ptrS at k3
  go_wp2_with fail
  refine (HAm.out _).mono ?_
  rintro e W2 ⟨rfl, rfl⟩
  go_wp2_with fail
  go_ret
  exact ⟨rfl, T, U, D, .no, .no, none, HP.out, ⟨rfl, rfl⟩, trivial⟩
theorem step_down {b1 p1 b2 p2 : Nat} {k : Cl} (p : C2 w0 w a g h blk (ptrS (.ck b1 p1 k)) (ptrS (.ck b2 p2 k)) T U D D (.ck b1 p1 k) (.ck b2 p2 k)) (hc : Cin blk D n (some k)) (X : AI) (hx : AIOk w0 X) (hk : amongV X.kind 5 ≤ 1) (hd : D.down = true) :
    Calls Tryz.prog 17 #[.pointer (some ⟨a, 0, none⟩), acV X] w (StepPost w0 a g h blk (n + 1)) := by
  have HAm := Lib.hid (fun V => among_any X.kind 5 V (by omega) (by omega))
  have HHx := Lib.hid hx
  have hb := (Below.refl w.heap.size w).alloc (Nat.le_refl _) (.cells #[.int .i64 X.kind, .int .i64 X.n, .bool X.far, .string X.text, .slice X.psA X.ps.length X.psc] 54)
  have HP := Lib.hid (p.below hb)
  have hxb := act_cel w X
  have hnt : ¬ T w.heap.size := fun hf => Nat.lt_irrefl _ (p.lt _ hf)
  have hnu : ¬ U w.heap.size := fun hf => Nat.lt_irrefl _ (p.ut _ hf)
  have pk : ¬ 1 < ((amongV X.kind 5 : Nat) : Int) := by omega
  have HC := Lib.hid (cin_more hc)
  unfold acV
  clear p hb hx  hk hc
  go_enter Tryz.func17, Tryz.ntmps17
  go_upto_region 1 with fail
  generalize w.alloc (.cells #[.int .i64 X.kind, .int .i64 X.n, .bool X.far, .string X.text, .slice X.psA X.ps.length X.psc] 54) = W1 at HP hxb ⊢
  generalize w.heap.size = ab at hxb hnt hnu ⊢
  have HX : Hid (Xb W1 T U ab X) := Lib.hid ⟨hxb, hnt, hnu⟩
  have x0 := hxb.cell (i := 0) rfl
  have k3 := HP.out.cel.cell (i := 3) rfl
  have k4 := HP.out.cel.cell (i := 4) rfl
  have k2 := HP.out.cel.cell (i := 2) rfl
  have kd := HP.out.down
  unfold ptrS at k3 k4
  generalize ((amongV X.kind 5 : Nat) : Int) = kz at pk HAm
  rw [hd] at kd
  clear hxb hnt hnu
  go_wp2_with fail
  refine (HAm.out _).mono ?_
  rintro e W2 ⟨rfl, rfl⟩
  go_wp2_with fail
  go_ret
  exact ⟨rfl, T, U, D, _, _, some k, HP.out, ⟨_, _, _, _, rfl, rfl⟩, HC.out⟩
theorem step_next {b1 p1 b2 p2 : Nat} {k : Cl} (p : C2 w0 w a g h blk (ptrS (.ck b1 p1 k)) (ptrS (.ck b2 p2 k)) T U D D (.ck b1 p1 k) (.ck b2 p2 k)) (hc : Cin blk D n (some k)) (X : AI) (hx : AIOk w0 X) (hk : amongV X.kind 5 = 0) (hd : D.down = false) (hn : n ≤ 90) :
    Calls Tryz.prog 17 #[.pointer (some ⟨a, 0, none⟩), acV X] w (StepPost w0 a g h blk (n + 1)) := by
  have HAm := Lib.hid (fun V => among_any X.kind 5 V (by omega) (by omega))
  have HHx := Lib.hid hx
  have hb := (Below.refl w.heap.size w).alloc (Nat.le_refl _) (.cells #[.int .i64 X.kind, .int .i64 X.n, .bool X.far, .string X.text, .slice X.psA X.ps.length X.psc] 54)
  have HP := Lib.hid (p.below hb)
  have hxb := act_cel w X
  have hnt : ¬ T w.heap.size := fun hf => Nat.lt_irrefl _ (p.lt _ hf)
  have hnu : ¬ U w.heap.size := fun hf => Nat.lt_irrefl _ (p.ut _ hf)
  rw [hk] at HAm
  have HC := Lib.hid (cin_next (p.l.ok (devF_of devBase)) hc hd hn)
  have HI := Lib.hid (And.intro hc (hc.2.2.2 hd).1)
  have HNL := Lib.hid (fun V (t : C2 w0 V a g h blk (ptrS (.ck b1 p1 k)) (ptrS (.ck b2 p2 k)) T U D D (.ck b1 p1 k) (.ck b2 p2 k)) => t.nxL (hc.2.2.2 hd).1 hd hc.1 hc.2.1 hc.2.2.1)
  unfold acV
  clear p hb hx hk hc
  go_enter Tryz.func17, Tryz.ntmps17
  go_upto_region 1 with fail
  generalize w.alloc (.cells #[.int .i64 X.kind, .int .i64 X.n, .bool X.far, .string X.text, .slice X.psA X.ps.length X.psc] 54) = W1 at HP hxb ⊢
  generalize w.heap.size = ab at hxb hnt hnu ⊢
  have HX : Hid (Xb W1 T U ab X) := Lib.hid ⟨hxb, hnt, hnu⟩
  have x0 := hxb.cell (i := 0) rfl
  have k3 := HP.out.cel.cell (i := 3) rfl
  have k4 := HP.out.cel.cell (i := 4) rfl
  have k2 := HP.out.cel.cell (i := 2) rfl
  have kd := HP.out.down
  unfold ptrS at k3 k4
  rw [hd] at kd
  have HD := Lib.hid hd
  have q0 := beq_self_eq_true (nextC D k blk).2.2.1
  have q1 := beq_self_eq_true (nextC D k blk).2.2.2
  clear hxb hnt hnu hd
  go_wp2_with fail
  refine (HAm.out _).mono ?_
  rintro e W2 ⟨rfl, rfl⟩
  go_wp2_with fail
  refine (HNL.out _ HP.out).mono ?_
  rintro e W3 ⟨rfl, T3, hp3, -⟩
  have HP3 := Lib.hid hp3
  have j4 := hp3.cel.cell (i := 4) rfl
  unfold ptrS at j4
  clear hp3 HNL HP k2 k3 k4 kd
  have HNR := Lib.hid (HP3.out.nxR HI.out.2 HD.out HI.out.1.1 HI.out.1.2.1 HI.out.1.2.2.1)
  go_wp2_with fail
  refine HNR.out.mono ?_
  rintro e W4 ⟨rfl, U4, hp4, -⟩
  have HP4 := Lib.hid hp4
  clear hp4 HNR j4 HP3
  generalize (nextC D k blk).2.2.1 = v1 at q0 ⊢
  generalize (nextC D k blk).2.2.2 = v2 at q1 ⊢
  go_wp2_with fail
  go_ret
  exact ⟨rfl, _, _, _, _, _, some (nextC D k blk).2.1, HP4.out, ⟨_, _, _, _, rfl, rfl⟩, HC.out⟩
theorem step_far {b1 p1 b2 p2 : Nat} {k : Cl} (p : C2 w0 w a g h blk (ptrS (.ck b1 p1 k)) (ptrS (.ck b2 p2 k)) T U D D (.ck b1 p1 k) (.ck b2 p2 k)) (hc : Cin blk D n (some k)) (X : AI) (hx : AIOk w0 X) (hk : amongV X.kind 5 = 1) (hd : D.down = false) (hn : n ≤ 90) (hf : X.far = true) :
    Calls Tryz.prog 17 #[.pointer (some ⟨a, 0, none⟩), acV X] w (StepPost w0 a g h blk (n + 1)) := by
  have HAm := Lib.hid (fun V => among_any X.kind 5 V (by omega) (by omega))
  have HHx := Lib.hid hx
  have hb := (Below.refl w.heap.size w).alloc (Nat.le_refl _) (.cells #[.int .i64 X.kind, .int .i64 X.n, .bool X.far, .string X.text, .slice X.psA X.ps.length X.psc] 54)
  have HP := Lib.hid (p.below hb)
  have hxb := act_cel w X
  have hnt : ¬ T w.heap.size := fun hf => Nat.lt_irrefl _ (p.lt _ hf)
  have hnu : ¬ U w.heap.size := fun hf => Nat.lt_irrefl _ (p.ut _ hf)
  rw [hk] at HAm
  have HC := Lib.hid (fun m => cin_skip (p.l.ok (devF_of devBase)) hc hd hn m)
  have HI := Lib.hid (And.intro hc (hc.2.2.2 hd).1)
  have HF := Lib.hid hf
  unfold acV
  clear p hb hx hk hc hf
  go_enter Tryz.func17, Tryz.ntmps17
  go_upto_region 1 with fail
  generalize w.alloc (.cells #[.int .i64 X.kind, .int .i64 X.n, .bool X.far, .string X.text, .slice X.psA X.ps.length X.psc] 54) = W1 at HP hxb ⊢
  generalize w.heap.size = ab at hxb hnt hnu ⊢
  have HX : Hid (Xb W1 T U ab X) := Lib.hid ⟨hxb, hnt, hnu⟩
  have x0 := hxb.cell (i := 0) rfl
  have k3 := HP.out.cel.cell (i := 3) rfl
  have k4 := HP.out.cel.cell (i := 4) rfl
  have k2 := HP.out.cel.cell (i := 2) rfl
  have kd := HP.out.down
  unfold ptrS at k3 k4
  rw [hd] at kd
  have HD := Lib.hid hd
  clear hxb hnt hnu hd
  go_wp2_with fail
  refine (HAm.out _).mono ?_
  rintro e W2 ⟨rfl, rfl⟩
  have x1 := HX.out.c.cell (i := 1) rfl
  have x2 := HX.out.c.cell (i := 2) rfl
  rw [HF.out] at x2
  have HNL := Lib.hid (fun V (t : C2 w0 V a g h blk (ptrS (.ck b1 p1 k)) (ptrS (.ck b2 p2 k)) T U D D (.ck b1 p1 k) (.ck b2 p2 k)) => t.skL HI.out.2 HD.out HI.out.1.1 X.n)
  have q0 := beq_self_eq_true (skipC D k X.n).2.2
  go_upto_region 13 with fail
  go_region_held3 (fun w' => w'.cell? ⟨a, 3, none⟩ = some (.pointer (some ⟨b1, 0, none⟩)) ∧ w'.cell? ⟨a, 4, none⟩ = some (.pointer (some ⟨b2, 0, none⟩)))
    (first | (refine ⟨?_, ?_⟩ <;> assumption) | go_keep)
    (first
    | (go_at_call 27
       refine (HNL.out _ (by first | exact HP.out | exact HP.out.below (Below.refl _ _).drew)).mono ?_
       rintro e W3 ⟨rfl, T3, hp3, -⟩
       have HP3 := Lib.hid hp3
       have j3 := hp3.cel.cell (i := 3) rfl
       have j4 := hp3.cel.cell (i := 4) rfl
       unfold ptrS at j3 j4
       have HNR := Lib.hid (HP3.out.skR HI.out.2 HD.out HI.out.1.1 X.n)
       clear hp3)
    | (go_at_call 49
       refine HNR.out.mono ?_
       rintro e W4 ⟨rfl, U4, hp4, -⟩
       have HP4 := Lib.hid hp4
       have i3 := hp4.cel.cell (i := 3) rfl
       have i4 := hp4.cel.cell (i := 4) rfl
       unfold ptrS at i3 i4
       clear hp4))
  all_goals
    go_wp2_with fail
    go_ret
    exact ⟨rfl, _, _, _, _, _, some (skipC D k X.n).2.1, HP4.out, ⟨_, _, _, _, rfl, rfl⟩, HC.out X.n⟩
theorem step_wide {b1 p1 b2 p2 : Nat} {k : Cl} (p : C2 w0 w a g h blk (ptrS (.ck b1 p1 k)) (ptrS (.ck b2 p2 k)) T U D D (.ck b1 p1 k) (.ck b2 p2 k)) (hc : Cin blk D n (some k)) (X : AI) (hx : AIOk w0 X) (hk : amongV X.kind 5 = 1) (hd : D.down = false) (hn : n ≤ 90) (hf : X.far = false) (hw : ¬ (-2251799813685248 < X.n ∧ X.n < 2251799813685248)) :
    Calls Tryz.prog 17 #[.pointer (some ⟨a, 0, none⟩), acV X] w (StepPost w0 a g h blk (n + 1)) := by
  have HAm := Lib.hid (fun V => among_any X.kind 5 V (by omega) (by omega))
  have HHx := Lib.hid hx
  have hb := (Below.refl w.heap.size w).alloc (Nat.le_refl _) (.cells #[.int .i64 X.kind, .int .i64 X.n, .bool X.far, .string X.text, .slice X.psA X.ps.length X.psc] 54)
  have HP := Lib.hid (p.below hb)
  have hxb := act_cel w X
  have hnt : ¬ T w.heap.size := fun hf => Nat.lt_irrefl _ (p.lt _ hf)
  have hnu : ¬ U w.heap.size := fun hf => Nat.lt_irrefl _ (p.ut _ hf)
  rw [hk] at HAm
  have HC := Lib.hid (fun m => cin_skip (p.l.ok (devF_of devBase)) hc hd hn m)
  have HI := Lib.hid (And.intro hc (hc.2.2.2 hd).1)
  have HF := Lib.hid hf
  unfold acV
  clear p hb hx hk hc hf
  go_enter Tryz.func17, Tryz.ntmps17
  go_upto_region 1 with fail
  generalize w.alloc (.cells #[.int .i64 X.kind, .int .i64 X.n, .bool X.far, .string X.text, .slice X.psA X.ps.length X.psc] 54) = W1 at HP hxb ⊢
  generalize w.heap.size = ab at hxb hnt hnu ⊢
  have HX : Hid (Xb W1 T U ab X) := Lib.hid ⟨hxb, hnt, hnu⟩
  have x0 := hxb.cell (i := 0) rfl
  have k3 := HP.out.cel.cell (i := 3) rfl
  have k4 := HP.out.cel.cell (i := 4) rfl
  have k2 := HP.out.cel.cell (i := 2) rfl
  have kd := HP.out.down
  unfold ptrS at k3 k4
  rw [hd] at kd
  have HD := Lib.hid hd
  have hw' : ¬ -2251799813685248 < X.n ∨ (-2251799813685248 < X.n ∧ ¬ X.n < 2251799813685248) := by omega
  clear hxb hnt hnu hd
  rcases hw' with r1 | ⟨r1, r2⟩
  all_goals
    go_wp2_with fail
    refine (HAm.out _).mono ?_
    rintro e W2 ⟨rfl, rfl⟩
    have x1 := HX.out.c.cell (i := 1) rfl
    have x2 := HX.out.c.cell (i := 2) rfl
    rw [HF.out] at x2
    have HNL := Lib.hid (fun V (t : C2 w0 V a g h blk (ptrS (.ck b1 p1 k)) (ptrS (.ck b2 p2 k)) T U D D (.ck b1 p1 k) (.ck b2 p2 k)) => t.skL HI.out.2 HD.out HI.out.1.1 X.n)
    have q0 := beq_self_eq_true (skipC D k X.n).2.2
    go_upto_region 13 with fail
    go_region_held3 (fun w' => w'.cell? ⟨a, 3, none⟩ = some (.pointer (some ⟨b1, 0, none⟩)) ∧ w'.cell? ⟨a, 4, none⟩ = some (.pointer (some ⟨b2, 0, none⟩)))
      (first | (refine ⟨?_, ?_⟩ <;> assumption) | go_keep)
      (first
      | (go_at_call 27
         refine (HNL.out _ (by first | exact HP.out | exact HP.out.below (Below.refl _ _).drew)).mono ?_
         rintro e W3 ⟨rfl, T3, hp3, -⟩
         have HP3 := Lib.hid hp3
         have j3 := hp3.cel.cell (i := 3) rfl
         have j4 := hp3.cel.cell (i := 4) rfl
         unfold ptrS at j3 j4
         have HNR := Lib.hid (HP3.out.skR HI.out.2 HD.out HI.out.1.1 X.n)
         clear hp3)
      | (go_at_call 49
         refine HNR.out.mono ?_
         rintro e W4 ⟨rfl, U4, hp4, -⟩
         have HP4 := Lib.hid hp4
         have i3 := hp4.cel.cell (i := 3) rfl
         have i4 := hp4.cel.cell (i := 4) rfl
         unfold ptrS at i3 i4
         clear hp4))
    all_goals
      go_wp2_with fail
      go_ret
      exact ⟨rfl, _, _, _, _, _, some (skipC D k X.n).2.1, HP4.out, ⟨_, _, _, _, rfl, rfl⟩, HC.out X.n⟩
theorem step_near {b1 p1 b2 p2 : Nat} {k : Cl} (p : C2 w0 w a g h blk (ptrS (.ck b1 p1 k)) (ptrS (.ck b2 p2 k)) T U D D (.ck b1 p1 k) (.ck b2 p2 k)) (hc : Cin blk D n (some k)) (X : AI) (hx : AIOk w0 X) (hk : amongV X.kind 5 = 1) (hd : D.down = false) (hn : n ≤ 90) (hf : X.far = false) (hw : -2251799813685248 < X.n ∧ X.n < 2251799813685248) :
    Calls Tryz.prog 17 #[.pointer (some ⟨a, 0, none⟩), acV X] w (StepPost w0 a g h blk (n + 1)) := by
  have HAm := Lib.hid (fun V => among_any X.kind 5 V (by omega) (by omega))
  have HHx := Lib.hid hx
  have hb := (Below.refl w.heap.size w).alloc (Nat.le_refl _) (.cells #[.int .i64 X.kind, .int .i64 X.n, .bool X.far, .string X.text, .slice X.psA X.ps.length X.psc] 54)
  have HP := Lib.hid (p.below hb)
  have hxb := act_cel w X
  have hnt : ¬ T w.heap.size := fun hf => Nat.lt_irrefl _ (p.lt _ hf)
  have hnu : ¬ U w.heap.size := fun hf => Nat.lt_irrefl _ (p.ut _ hf)
  rw [hk] at HAm
  have HC := Lib.hid (fun m => cin_skip (p.l.ok (devF_of devBase)) hc hd hn m)
  have HI := Lib.hid (And.intro hc (hc.2.2.2 hd).1)
  have HF := Lib.hid hf
  unfold acV
  clear p hb hx hk hc hf
  go_enter Tryz.func17, Tryz.ntmps17
  go_upto_region 1 with fail
  generalize w.alloc (.cells #[.int .i64 X.kind, .int .i64 X.n, .bool X.far, .string X.text, .slice X.psA X.ps.length X.psc] 54) = W1 at HP hxb ⊢
  generalize w.heap.size = ab at hxb hnt hnu ⊢
  have HX : Hid (Xb W1 T U ab X) := Lib.hid ⟨hxb, hnt, hnu⟩
  have x0 := hxb.cell (i := 0) rfl
  have k3 := HP.out.cel.cell (i := 3) rfl
  have k4 := HP.out.cel.cell (i := 4) rfl
  have k2 := HP.out.cel.cell (i := 2) rfl
  have kd := HP.out.down
  unfold ptrS at k3 k4
  rw [hd] at kd
  have HD := Lib.hid hd
  obtain ⟨r1, r2⟩ := hw
  have kl : W1.cell? ⟨b2, 2, none⟩ = some (.int .i64 k.last) := by
    obtain ⟨F9, -, h9⟩ := HP.out.r
    exact h9.cel.cell (i := 2) rfl
  have hl0 := HI.out.1.1.l0
  have hl1 : k.last ≤ 1125899906842624 := by have h1 := HI.out.1.1.lb; have h2 := HI.out.1.1.bm; rw [mx_eq] at h2; omega
  have wn : IntKind.i64.wrap (X.n + k.last) = X.n + k.last := i64_wrap2 (by omega) (by omega)
  obtain ⟨m, hm⟩ : ∃ m, m = X.n + k.last := ⟨_, rfl⟩
  rw [← hm] at wn
  have wn2 : IntKind.i64.wrap (X.n + k.last) = m := by rw [hm]; exact i64_wrap2 (by omega) (by omega)
  clear hxb hnt hnu hd hl0 hl1 hm wn
  go_wp2_with fail
  refine (HAm.out _).mono ?_
  rintro e W2 ⟨rfl, rfl⟩
  have x1 := HX.out.c.cell (i := 1) rfl
  have x2 := HX.out.c.cell (i := 2) rfl
  rw [HF.out] at x2
  have HNL := Lib.hid (fun V (t : C2 w0 V a g h blk (ptrS (.ck b1 p1 k)) (ptrS (.ck b2 p2 k)) T U D D (.ck b1 p1 k) (.ck b2 p2 k)) => t.skL HI.out.2 HD.out HI.out.1.1 m)
  have q0 := beq_self_eq_true (skipC D k m).2.2
  go_upto_region 13 with fail
  go_region_held3 (fun w' => w'.cell? ⟨a, 3, none⟩ = some (.pointer (some ⟨b1, 0, none⟩)) ∧ w'.cell? ⟨a, 4, none⟩ = some (.pointer (some ⟨b2, 0, none⟩)))
    (first | (refine ⟨?_, ?_⟩ <;> assumption) | go_keep)
    (first
    | (go_at_call 27
       refine (HNL.out _ (by first | exact HP.out | exact HP.out.below (Below.refl _ _).drew)).mono ?_
       rintro e W3 ⟨rfl, T3, hp3, -⟩
       have HP3 := Lib.hid hp3
       have j3 := hp3.cel.cell (i := 3) rfl
       have j4 := hp3.cel.cell (i := 4) rfl
       unfold ptrS at j3 j4
       have HNR := Lib.hid (HP3.out.skR HI.out.2 HD.out HI.out.1.1 m)
       clear hp3)
    | (go_at_call 49
       refine HNR.out.mono ?_
       rintro e W4 ⟨rfl, U4, hp4, -⟩
       have HP4 := Lib.hid hp4
       have i3 := hp4.cel.cell (i := 3) rfl
       have i4 := hp4.cel.cell (i := 4) rfl
       unfold ptrS at i3 i4
       clear hp4))
  all_goals
    go_wp2_with fail
    go_ret
    exact ⟨rfl, _, _, _, _, _, some (skipC D k m).2.1, HP4.out, ⟨_, _, _, _, rfl, rfl⟩, HC.out m⟩
theorem step_any (p : C2 w0 w a g h blk (ptrS s) (ptrS q) T U D D s q) (ht : Tw s q st) (hc : Cin blk D n st) (X : AI) (hx : AIOk w0 X) (hn : n ≤ 90) :
    Calls Tryz.prog 17 #[.pointer (some ⟨a, 0, none⟩), acV X] w (StepPost w0 a g h blk (n + 1)) := by
  by_cases hk : amongV X.kind 5 ≤ 1
  case neg => exact step_out p ht hc X hx hk
  cases st with
  | none =>
    obtain ⟨rfl, rfl⟩ := ht
    exact step_none p X hx hk
  | some k =>
    obtain ⟨b1, p1, b2, p2, rfl, rfl⟩ := ht
    by_cases hd : D.down = true
    · exact step_down p hc X hx hk hd
    have hd' : D.down = false := by simpa using hd
    by_cases h0 : amongV X.kind 5 = 0
    · exact step_next p hc X hx h0 hd' hn
    have h1 : amongV X.kind 5 = 1 := by omega
    by_cases hf : X.far = true
    · exact step_far p hc X hx h1 hd' hn hf
    have hf' : X.far = false := by simpa using hf
    by_cases hw : -2251799813685248 < X.n ∧ X.n < 2251799813685248
    · exact step_near p hc X hx h1 hd' hn hf' hw
    · exact step_wide p hc X hx h1 hd' hn hf' hw
end
theorem rnil_any (w:World):Calls Tryz.prog 51 #[.pointer none] w fun e w'=>e = .returned (.tuple #[.pointer none,.int .i64 5]) ∧ w' = w:=by
 go_enter Tryz.func51,Tryz.ntmps51
 go_wp2_with fail
 go_ret2
 exact ⟨rfl,rfl⟩
theorem lnil_any (w:World):Calls Tryz.prog 22 #[.pointer none,.int .i64 5] w fun e w'=>e = .returned (.tuple #[.pointer none,.int .i64 5]) ∧ w' = w:=by
 have H:=Lib.hid (rnil_any w)
 go_enter Tryz.func22,Tryz.ntmps22
 go_wp2_with fail
 refine H.out.mono ?_
 rintro e w1 ⟨rfl,hw⟩
 go_wp2_with fail
 go_ret2
 exact ⟨rfl,rfl⟩
end Ck
end Go.Proofs.YtmidncclndongaaGreat
namespace Go.Proofs.YtmidncclndongaaGreat
namespace Ck
open Rd Sc Rc
structure Wi (n:Nat) (D:Dev) (k:Cl) (N:Nat):Prop where
 id:Idle D
 cl:Sc.Clean D
 ok:DevOk D
 len:D.on.length = n
 lg:LgIn D k.l
 cnt:k.l.cnt ≤ N
 mn:k.l.mn = k.l.ts.length
 ld:loadC k.l.ts 0 = some k.bound
 ck:ClOk k
section
variable {n N M:Nat} {D:Dev} {k:Cl} {m blk:Int}
theorem Wi.more (h:Wi n D k N) (hN:N ≤ M):Wi n D k M:=⟨h.id,h.cl,h.ok,h.len,h.lg,Nat.le_trans h.cnt hN,h.mn,h.ld,h.ck⟩
theorem one_frame (t:ByteArray):(allF [t]).length = t.size + 6:=by
 have h2:t.data.toList.length = t.size:=Array.length_toList
 unfold allF frs
 simp only [List.length_cons,List.length_nil,List.take_succ_cons,List.take_nil,List.drop_zero,List.flatMap_cons,List.flatMap_nil,List.append_nil,Su.frameL_len]
 omega
theorem raise_wi (h:Wi n D k N) (h8:8 ≤ n) (hN:N < 4611686018427387000) (h1:k.bound < m) (h2:m ≤ mxS) :
  ∃ D2 l2,raiseC D k m = (D2,⟨l2,k.last,m⟩,0) ∧ Wi n D2 ⟨l2,k.last,m⟩ (N + 1):=by
 have hb0:0 ≤ k.bound:=by have:=h.ck.l0;have:=h.ck.lb;omega
 have hsz:=up_size (n:=m) (by omega) h2
 have hc:=h.cnt
 have har:192 ≤ areaN D:=by
  unfold areaN
  rw [h.len]
  omega
 have hck:ClOk ⟨k.l,k.last,m⟩:=⟨h.ck.l0,by have:=h.ck.lb;show k.last ≤ m;omega,h2⟩
 by_cases hr:roomN D k.l < (upB m).size + 6
 ·have ha:appendP D k.l (upB m) = (k.l,100):=by
   unfold appendP
   rw [if_neg (by omega),if_pos hr]
  obtain ⟨D2,q1,q2,q3,q4,q5,q6⟩:=rst_idle h.id h.ok h.lg (by omega) [upB m] (fun t ht=>by rw [List.mem_singleton.1 ht];omega) (by rw [one_frame];omega)
  have hw:writeC D k.l (upB m) = (D2,⟨k.l.cnt + 1,1 - k.l.ar,allF [upB m],[upB m],1⟩,0):=by
   unfold writeC
   rw [ha]
   exact (if_pos rfl).trans q1
  refine ⟨D2,⟨k.l.cnt + 1,1 - k.l.ar,allF [upB m],[upB m],1⟩,?_,q2,q3,q4,q5.trans h.len,q6,by show k.l.cnt + 1 ≤ _;omega,rfl,load_one (by omega) h2,hck.l0,hck.lb,hck.bm⟩
  unfold raiseC
  rw [hw]
  rfl
 ·have ha:=app_fits (D:=D) (l:=k.l) (t:=upB m) (by omega) (by omega)
  have hi:=app_in h.ok h.lg (upB m)
  rw [ha] at hi
  obtain ⟨D2,q1,q2,q3,q4,q5,q6⟩:=sync_idle (l:=⟨k.l.cnt,k.l.ar,k.l.bs,k.l.ts ++ [upB m],k.l.mn⟩) h.id h.ok hi (by show k.l.cnt < _;omega) (by
   show k.l.mn ≠ (k.l.ts ++ [upB m]).length
   rw [List.length_append,h.mn]
   simp)
  have hw:=fun (l2:Lg) (e:syncP D ⟨k.l.cnt,k.l.ar,k.l.bs,k.l.ts ++ [upB m],k.l.mn⟩ = (D2,l2,0))=>show writeC D k.l (upB m) = (D2,l2,0) from by
   unfold writeC
   rw [ha]
   exact (if_neg (show ¬ (0:Int) = 100 by decide)).trans ((if_pos rfl).trans e)
  refine ⟨D2,_,?_,q2,q3,q4,q5.trans h.len,q6,by show k.l.cnt + 1 ≤ _;omega,rfl,load_up h.ld h1 hb0 h2,hck.l0,hck.lb,hck.bm⟩
  unfold raiseC
  rw [hw _ q1]
  rfl
theorem next_wi (h:Wi n D k N) (h8:8 ≤ n) (hN:N < 4611686018427387000) (hb:1 ≤ blk) (hl:k.last < mxS) :
  ∃ D2 l2 b2,nextC D k blk = (D2,⟨l2,k.last + 1,b2⟩,k.last + 1,0) ∧ Wi n D2 ⟨l2,k.last + 1,b2⟩ (N + 1) ∧ b2 = (if k.last = k.bound then min (k.bound + blk) mxS else k.bound):=by
 have h3:=h.ck.l0
 have h4:=h.ck.lb
 have h5:=h.ck.bm
 by_cases hy:k.last = k.bound
 ·obtain ⟨m,hm⟩:∃ m,m = min (k.bound + blk) mxS:=⟨_,rfl⟩
  obtain ⟨D2,l2,q1,q2⟩:=raise_wi h h8 hN (m:=m) (by rw [hm];omega) (by rw [hm];omega)
  refine ⟨D2,l2,m,?_,⟨q2.id,q2.cl,q2.ok,q2.len,q2.lg,q2.cnt,q2.mn,q2.ld,by show 0 ≤ k.last + 1;omega,by show k.last + 1 ≤ m;rw [hm];omega,by show m ≤ mxS;rw [hm];omega⟩,by rw [if_pos hy];exact hm⟩
  unfold nextC
  rw [if_neg (by omega),if_pos hy,← hm,q1]
  rfl
 ·refine ⟨D,k.l,k.bound,?_,⟨h.id,h.cl,h.ok,h.len,h.lg,by have:=h.cnt;show k.l.cnt ≤ _;omega,h.mn,h.ld,by show 0 ≤ k.last + 1;omega,by show k.last + 1 ≤ k.bound;omega,h5⟩,by rw [if_neg hy]⟩
  unfold nextC
  rw [if_neg (by omega),if_neg hy]
theorem next_spent (hl:k.last = mxS):nextC D k blk = (D,k,0,160):=by
 unfold nextC
 exact if_pos hl
theorem skip_wi (h:Wi n D k N) (h8:8 ≤ n) (hN:N < 4611686018427387000) (h1:k.last ≤ m) (h2:m ≤ mxS) :
  ∃ D2 l2 b2,skipC D k m = (D2,⟨l2,m,b2⟩,0) ∧ Wi n D2 ⟨l2,m,b2⟩ (N + 1):=by
 have h3:=h.ck.l0
 have h5:=h.ck.bm
 by_cases hy:k.bound < m
 ·obtain ⟨D2,l2,q1,q2⟩:=raise_wi h h8 hN (m:=m) hy h2
  refine ⟨D2,l2,m,?_,q2.id,q2.cl,q2.ok,q2.len,q2.lg,q2.cnt,q2.mn,q2.ld,by show 0 ≤ m;omega,Int.le_refl _,h2⟩
  unfold skipC
  rw [if_neg (by omega),if_pos hy,q1]
  rfl
 ·refine ⟨D,k.l,k.bound,?_,h.id,h.cl,h.ok,h.len,h.lg,by have:=h.cnt;show k.l.cnt ≤ _;omega,h.mn,h.ld,by show 0 ≤ m;omega,by show m ≤ k.bound;omega,h5⟩
  unfold skipC
  rw [if_neg (by omega),if_neg hy]
theorem skip_back (h1:m < k.last):skipC D k m = (D,k,1):=by
 unfold skipC
 exact if_pos (.inl h1)
theorem open_some {D1:Dev} {l:Lg} {b:Int} {e:Int} (h:openP D = (D1,some l,e)) (hl:loadC l.ts 0 = some b) (h1:1 ≤ blk) (h2:blk ≤ 4096):openC D blk = (D1,some ⟨l,b,b⟩,0):=by
 unfold openC
 rw [if_neg (by omega),h]
 simp only [hl]
theorem fresh_wi (h8:8 ≤ n) (hm:n ≤ 2048) (h1:1 ≤ blk) (h2:blk ≤ 4096):∃ D1,openC (new0 n) blk = (D1,some ⟨⟨1,0,[],[],0⟩,0,0⟩,0) ∧ Wi n D1 ⟨⟨1,0,[],[],0⟩,0,0⟩ 1:=by
 obtain ⟨D1,q1,q2,q3,q5,q6,q7⟩:=fresh_open (n:=n) (by omega) hm
 exact ⟨D1,open_some q1 rfl h1 h2,q2,q3,q5,q6,q7,Nat.le_refl _,rfl,rfl,by decide,by decide,by decide⟩
theorem crash_wi (h:Wi n D k N) (hN:N ≤ 4611686018427387904) (h1:1 ≤ blk) (h2:blk ≤ 4096) (ps:List Int):∃ l',openC (crD D ps) blk = (crD D ps,some ⟨l',k.bound,k.bound⟩,0) ∧ Wi n (crD D ps) ⟨l',k.bound,k.bound⟩ N:=by
 have q:=reopen_crash h.ok h.lg h.cl (Nat.le_trans h.cnt hN) ps
 have hl:(k.l.ts.take k.l.mn) = k.l.ts:=by rw [h.mn,List.take_length]
 rw [hl] at q
 have e:(⟨k.l.cnt,k.l.ar,k.l.bs,k.l.ts,k.l.mn⟩:Lg) = k.l:=rfl
 rw [e] at q
 have h5:=h.ck.bm
 have h3:=h.ck.l0
 have h4:=h.ck.lb
 exact ⟨k.l,open_some q h.ld h1 h2,cr_idle _ _,cr_clean h.ok.len _,crD_ok h.ok ps,(cr_len _ _).trans h.len,h.lg.seen (cr_len _ _) (fun j hj=>cr_view h.ok.len h.cl ps hj),h.cnt,h.mn,h.ld,by show 0 ≤ k.bound;omega,Int.le_refl _,h5⟩
end
end Ck
end Go.Proofs.YtmidncclndongaaGreat
namespace Go.Proofs.YtmidncclndongaaGreat
namespace Ck
open Go.RowKit Bk Sc Rd Rc Lt
attribute [local go_sem ↓] Go.wp_at_zero Go.wp_at_succ
attribute [local go_sem] floatUpon pick
structure Ow (w0 W:World) (P:Nat → Prop):Prop where
 bF:∀ k,P k → w0.heap.size ≤ k
 bel:Below w0.heap.size w0 W
section
variable {w0 W W':World} {P Q:Nat → Prop}
theorem Ow.act (h:Ow w0 W P) (h2:Fr P Q W W'):Ow w0 W' Q :=
 ⟨fun k hk=>(h2.foot k hk).elim (h.bF k) (fun hs=>Nat.le_trans h.bel.size hs),h.bel.trans (h2.belowB h.bF h.bel.size)⟩
theorem Ow.less (h:Ow w0 W P) (hs:∀ k,Q k → P k):Ow w0 W Q:=⟨fun k hk=>h.bF k (hs k hk),h.bel⟩
theorem Ow.step (h:Ow w0 W P) (hb:Below W.heap.size W W'):Ow w0 W' P:=⟨h.bF,h.bel.trans (hb.mono h.bel.size)⟩
end
theorem opn_some {Rep:RepT} {LRep:LRepT} {t:TypeId} {w w':World} {F:Nat → Prop} {g:Nat} {D D1:Dev} {k:Cl} {blk:Int} {e:Ending} (h:OPost Rep LRep t w F g blk (openC D blk) e w') (ho:openC D blk = (D1,some k,0)) :
  ∃ (F':Nat → Prop) (b p:Nat),e = .returned (.tuple #[.pointer (some ⟨b,0,none⟩),.int .i64 0]) ∧ CAt Rep LRep t w' F' b g p D1 blk k ∧ Fr F (Tc F' b) w w':=by
 rw [ho] at h
 rcases h with ⟨k1,h1,-,h2⟩ | ⟨h1,-⟩
 ·obtain rfl:=Option.some.inj h1
  exact h2
 ·cases h1
section
variable {w W:World} {F:Nat → Prop} {b g p n N:Nat} {D:Dev} {blk:Int} {k:Cl}
theorem next_run (h:LC w F b g p D blk k) (hw:Wi n D k N) (h8:8 ≤ n) (hN:N < 4611686018427387000) (hb1:1 ≤ blk) (hb2:blk ≤ 4096) (hl:k.last < mxS) :
  Calls Tryz.prog 25 #[.pointer (some ⟨b,0,none⟩)] w fun e w'=>e = .returned (.tuple #[.int .i64 (k.last + 1),.int .i64 0]) ∧ ∃ D2 l2 b2 F',Wi n D2 ⟨l2,k.last + 1,b2⟩ (N + 1) ∧ LC w' F' b g p D2 blk ⟨l2,k.last + 1,b2⟩ ∧ Fr (Tc F b) (Tc F' b) w w' ∧ Hid (b2 = (if k.last = k.bound then min (k.bound + blk) mxS else k.bound)):=by
 obtain ⟨D2,l2,b2,q1,q2,q3⟩:=next_wi hw h8 hN hb1 hl
 have:=lnext_any h hw.lg hw.id.2 hw.ck hb1 hb2
 rw [q1] at this
 refine this.mono ?_
 rintro e w' ⟨rfl,F',r1,r2⟩
 exact ⟨rfl,D2,l2,b2,F',q2,r1,r2,Lib.hid q3⟩
theorem skip_run (h:LC w F b g p D blk k) (hw:Wi n D k N) (h8:8 ≤ n) (hN:N < 4611686018427387000) {m:Int} (h1:k.last ≤ m) (h2:m ≤ mxS) :
  Calls Tryz.prog 27 #[.pointer (some ⟨b,0,none⟩),.int .i64 m] w fun e w'=>e = .returned (.int .i64 0) ∧ ∃ D2 l2 b2 F',Wi n D2 ⟨l2,m,b2⟩ (N + 1) ∧ LC w' F' b g p D2 blk ⟨l2,m,b2⟩ ∧ Fr (Tc F b) (Tc F' b) w w':=by
 obtain ⟨D2,l2,b2,q1,q2⟩:=skip_wi hw h8 hN h1 h2
 have:=lskip_any h hw.lg hw.id.2 hw.ck m
 rw [q1] at this
 refine this.mono ?_
 rintro e w' ⟨rfl,F',r1,r2⟩
 exact ⟨rfl,D2,l2,b2,F',q2,r1,r2⟩
theorem spent_run (h:LC w F b g p D blk k) (hw:Wi n D k N) (hb1:1 ≤ blk) (hb2:blk ≤ 4096) (hl:k.last = mxS) :
  Calls Tryz.prog 25 #[.pointer (some ⟨b,0,none⟩)] w fun e w'=>e = .returned (.tuple #[.int .i64 0,.int .i64 160]) ∧ ∃ F',LC w' F' b g p D blk k ∧ Fr (Tc F b) (Tc F' b) w w':=by
 have:=lnext_any h hw.lg hw.id.2 hw.ck hb1 hb2
 rw [next_spent hl] at this
 exact this
end
theorem cworks_any (w:World) :
  Calls Tryz.prog 15 #[] w fun e w'=>e = .returned (.bool true) ∧ Below w.heap.size w w':=by
 obtain ⟨D1,ho1,v1⟩:=fresh_wi (n:=8) (blk:=10) (by omega) (by omega) (by omega) (by omega)
 have H1:=Lib.hid ho1
 have HV:=Lib.hid v1
 have hm:(1125899906842624:Int) = mxS:=rfl
 clear ho1 v1
 go_enter Tryz.func15,Tryz.ntmps15
 go_wp2_with fail
 refine (devBase.new 8 w ⟨by omega,by omega⟩).mono ?_
 rintro e w1 (⟨_,_,F1,g,rfl,hr1,hF1,hb1⟩ | ⟨hno,_,_⟩)
 case inr=>exact absurd ⟨by omega,by omega⟩ hno
 have O1:Hid (Ow w w1 F1):=Lib.hid ⟨hF1,hb1⟩
 have R1:=Lib.hid (lopen_any (w:=w1) (F:=F1) (g:=g) (D:=new0 8) none hr1 10)
 clear hr1 hF1 hb1
 go_wp2_with fail
 refine R1.out.mono ?_
 rintro e w2 hp
 obtain ⟨F2,b,p,rfl,hv2,hf2⟩:=opn_some hp H1.out
 have O2:=Lib.hid (O1.out.act hf2)
 have HN1:=Lib.hid (next_run hv2 HV.out (by omega) (by omega) (by omega) (by omega) (by rw [← hm];show (0:Int) < _;omega))
 clear hp hv2 hf2 O1 R1 HV
 go_wp2_with fail
 refine HN1.out.mono ?_
 rintro e w3 ⟨rfl,D3,l3,b3,F3,hw3,hv3,hf3,hbd3⟩
 have O3:=Lib.hid (O2.out.act hf3)
 have HN2:=Lib.hid (next_run hv3 hw3 (by omega) (by omega) (by omega) (by omega) (by rw [← hm];show (0:Int) + 1 < _;omega))
 clear hw3 hv3 hf3 O2 HN1
 go_wp2_with fail
 refine HN2.out.mono ?_
 rintro e w4 ⟨rfl,D4,l4,b4,F4,hw4,hv4,hf4,hbd4⟩
 have HBd:Hid (b4 = 10):=Lib.hid (by
  have h3:=hbd3.out
  have h4:=hbd4.out
  have e3:b3 = 10:=by rw [h3];decide
  rw [h4,e3]
  decide)
 have O4:=Lib.hid ((O3.out.act hf4).less (Q:=F4) (fun k hk=>.inl hk))
 have HC:=Lib.hid (Side.crash (devF_of devBase) hv4.sd none 0 [] (fun h=>absurd h (by simp)) (fun h=>absurd h (by simp)) (by decide) (fun x hx=>by cases hx))
 obtain ⟨l6,ho6,hw6⟩:=crash_wi (blk:=10) hw4 (by omega) (by omega) (by omega) []
 simp only [HBd.out] at ho6 hw6
 have HO6:=Lib.hid (And.intro ho6 hw6)
 clear hw4 hv4 hf4 O3 HN2 ho6 hw6 hbd3 hbd4 HBd
 go_wp2_with fail
 refine HC.out.mono ?_
 rintro e w5 ⟨rfl,F5,hs5,hf5⟩
 have O5:=Lib.hid (O4.out.act hf5)
 have R5:=Lib.hid (lopen_any (w:=w5) (F:=F5) (g:=g) (D:=crD D4 []) none hs5 10)
 clear hs5 hf5 O4 HC
 go_wp2_with fail
 refine R5.out.mono ?_
 rintro e w6 hp
 obtain ⟨F6,b6,p6,rfl,hv6,hf6⟩:=opn_some hp HO6.out.1
 have O6:=Lib.hid (O5.out.act hf6)
 have HN3:=Lib.hid (next_run hv6 HO6.out.2 (by omega) (by omega) (by omega) (by omega) (by rw [← hm];show (10:Int) < _;omega))
 clear hp hv6 hf6 O5 R5 HO6
 go_wp2_with fail
 refine HN3.out.mono ?_
 rintro e w7 ⟨rfl,D7,l7,b7,F7,-,-,hf7,-⟩
 have O7:=Lib.hid (O6.out.act hf7)
 clear hf7 O6 HN3
 go_wp2_with fail
 go_ret
 exact ⟨rfl,O7.out.bel⟩
end Ck
end Go.Proofs.YtmidncclndongaaGreat
