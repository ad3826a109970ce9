/- Parts of the proof, joined: RdPLive, RdPAny, RdOpenA, RdPlays; their conditions stand with each. -/
import Derived.Deep.RegionHeld3
import Derived.Test.YtjehjbkcdpidbaaGreatRows
import Derived.Deep.SlicePairs
import Derived.Test.YtjehjbkcdpidbaaGreatA6
import Derived.Test.YtjehjbkcdpidbaaGreatA11
import Derived.Test.YtjehjbkcdpidbaaGreatA12
import Derived.Test.YtjehjbkcdpidbaaGreatA13

/- Whether both logs are the same where they live: contract; over what is asked; no condition but the ranges. By wip/gen_rdplive.py. -/
namespace Go.Proofs.YtjehjbkcdpidbaaGreat
namespace Rd
open Go.RowKit Sc Bk

attribute [local go_sem ↓] Go.wp_at_zero Go.wp_at_succ
attribute [local go_sem] floatUpon pick

/-- a row of texts that was given lies beside both sides -/
structure Rw (w0 W : World) (b : Nat) (F G : Nat → Prop) (A : Option Addr) (n : Nat) : Prop where
  cel : 0 < n → ∃ gg ys, A = some ⟨gg, 0, none⟩ ∧ Cel W gg 9 ys ∧ n ≤ ys.length
  nf : ∀ x, A = some x → x.block < W.heap.size ∧ ¬ F x.block ∧ ¬ G x.block ∧ x.block ≠ b ∧ w0.heap.size ≤ x.block

section
variable {Rep : RepT} {LRep : LRepT} {w0 W W' : World} {b g h m y k n : Nat} {l l2 : Lg} {vl vk o q : Option (Nat × Lg)} {F G F' G' : Nat → Prop} {D E : Dev} {A : Option Addr}

theorem Rw.actD (h : Rw w0 W b F G A n) (hf : Fr F F' W W') : Rw w0 W' b F' G A n :=
  ⟨fun hn => by
    obtain ⟨gg, ys, e, hc, hl⟩ := h.cel hn
    exact ⟨gg, ys, e, Cel.fr hc hf (h.nf _ e).2.1, hl⟩,
   fun x hx => ⟨Nat.lt_of_lt_of_le (h.nf x hx).1 hf.size, fun hF => (hf.foot _ hF).elim (h.nf x hx).2.1 (fun hs => by have := (h.nf x hx).1; omega), (h.nf x hx).2.2⟩⟩

theorem Rw.actR (h : Rw w0 W b F G A n) (hf : Fr G G' W W') : Rw w0 W' b F G' A n :=
  ⟨fun hn => by
    obtain ⟨gg, ys, e, hc, hl⟩ := h.cel hn
    exact ⟨gg, ys, e, Cel.fr hc hf (h.nf _ e).2.2.1, hl⟩,
   fun x hx => ⟨Nat.lt_of_lt_of_le (h.nf x hx).1 hf.size, (h.nf x hx).2.1, fun hF => (hf.foot _ hF).elim (h.nf x hx).2.2.1 (fun hs => by have := (h.nf x hx).1; omega), (h.nf x hx).2.2.2⟩⟩

theorem Rw.step (h : Rw w0 W b F G A n) (hb : Below W.heap.size W W') : Rw w0 W' b F G A n :=
  ⟨fun hn => by
    obtain ⟨gg, ys, e, hc, hl⟩ := h.cel hn
    exact ⟨gg, ys, e, hc.below hb, hl⟩,
   fun x hx => ⟨Nat.lt_of_lt_of_le (h.nf x hx).1 hb.size, (h.nf x hx).2⟩⟩

theorem rw_own {H : Nat} {c : Nat} {xs : List Value} (p : Two Rep LRep w0 W b g h vl vk F G D E o q) (hW : W'.ownsRow W.heap.size 9 1 (.slice A n c) n xs) (hF : ∀ j, (Value.slice A n c).ownBlock = some j → ¬ F' j) (_hH : H = 0) (hG : ∀ j, G j → j < W.heap.size) : Rw w0 W' b F' G A n :=
  ⟨spoil_row hW, fun x hx => by
    subst hx
    rcases hW.2 with ⟨h1, _⟩ | ⟨g', cap', cur, h1, hg, hh, _⟩
    · cases h1
    · simp only [Value.slice.injEq, Option.some.injEq] at h1
      obtain ⟨rfl, -⟩ := h1
      refine ⟨(Array.getElem?_eq_some_iff.1 hh).1, hF g' rfl, fun hk => ?_, ?_, Nat.le_trans p.bel.size hg⟩
      · have h5 := hG _ hk
        simp only at h5; omega
      · have := p.cel.lt
        show g' ≠ b
        omega⟩

/-- what changes only a row that was given -/
theorem Two.other (HB : DevBase Rep) (HL : LogAll Rep LRep) (p : Two Rep LRep w0 W b g h vl vk F G D E o q) (hr : Rw w0 W b F G A n) (hf : Fr (OnlyA A) (OnlyA A) W W') : Two Rep LRep w0 W' b g h vl vk F G D E o q :=
  have hno : ∀ j, (F j ∨ G j ∨ j = b) → ¬ OnlyA A j := fun j hj hA => by
    obtain ⟨x, hx, rfl⟩ := hA
    obtain ⟨_, h1, h2, h3, _⟩ := hr.nf x hx
    rcases hj with h | h | h
    · exact h1 h
    · exact h2 h
    · exact h3 h
  ⟨p.s.kept (devF_of HB) HL.log (fun j hj => hf.block j (p.s.lt (devF_of HB) HL.log j hj) (hno j (.inl hj))), p.r.kept docDev docLog (fun j hj => hf.block j (p.r.lt docDev docLog j hj) (hno j (.inr (.inl hj)))),
    Cel.fr p.cel hf (hno b (.inr (.inr rfl))), p.bf, p.bg, p.dis, p.bF, p.bG, p.bb,
    p.bel.trans ⟨hf.os, hf.tape, hf.output, hf.size, fun j hj => hf.block j (Nat.lt_of_lt_of_le hj p.bel.size) (fun hA => by
      obtain ⟨x, hx, rfl⟩ := hA
      have := (hr.nf x hx).2.2.2.2
      omega)⟩⟩

/-- the document's log's texts, and how many of them are synced -/
theorem Two.log (p : Two Rep LRep w0 W b g h vl vk F G D E o (some (k, l))) : ∃ B c, W.cell? ⟨k, 4, none⟩ = some (.slice B l.ts.length c) ∧ W.cell? ⟨k, 5, none⟩ = some (.int .i64 (l.mn : Int)) ∧ StrsAt W B l.ts := by
  obtain ⟨Fd, Fl, _, _, hL, _⟩ := p.r
  obtain ⟨B, c, _, h1, _⟩ := hL
  exact ⟨B, c, h1.cel.cell (i := 4) rfl, h1.cel.cell (i := 5) rfl, h1.strs⟩

theorem Two.room (p : Two Rep LRep w0 W b g h vl vk F G D D o (some (k, l))) (hi : LgOk D l) :
    Calls Tryz.prog 27 #[.pointer (some ⟨k, 0, none⟩)] W fun e w' => e = .returned (.int .i64 (roomN D l : Int)) ∧ Below W.heap.size W w' := by
  obtain ⟨Fd, Fl, _, hD, hL, _⟩ := p.r
  obtain ⟨ao, an, co, cn, so, sn, _, h1, h2⟩ := hD
  obtain ⟨A, c, _, hl1, _⟩ := hL
  exact rroom_any h1 hl1 h2 hi

theorem Two.klt (p : Two Rep LRep w0 W b g h vl vk F G D E o (some (k, l))) : k < W.heap.size ∧ ¬ F k := by
  obtain ⟨Fd, Fl, hG, _, hL, _⟩ := p.r
  obtain ⟨A, c, hF, h1, _⟩ := hL
  exact ⟨h1.cel.lt, p.dis k (by rw [hG, hF]; exact .inr (.inl rfl))⟩

end

section
variable {Rep : RepT} {LRep : LRepT} {w0 W : World} {b g h m y k : Nat} {l l2 : Lg} {o q : Option (Nat × Lg)} {F G : Nat → Prop} {D : Dev}

set_option maxRecDepth 20000 in
set_option maxHeartbeats 8000000 in
theorem psame_live (HB : DevBase Rep) (HL : LogAll Rep LRep) (p : Two Rep LRep w0 W b g h (some (y, l)) (some (k, l)) F G D D (some (y, l)) (some (k, l))) (p2 : Two2 D (some (y, l)) (some (k, l)) m) (hd : D.down = false) :
    Calls Tryz.prog 9 #[.pointer (some ⟨b, 0, none⟩)] W (StepPost Rep LRep w0 b g h m) := by
  have HP := Lib.hid p
  have hj0 : D.on.length ≤ 2048 := (p.s.ok (devF_of HB)).max
  have HI := Lib.hid (p2.lg _ _ rfl hd)
  have k1 := p.cel.cell (i := 1) rfl
  have k2 := p.cel.cell (i := 2) rfl
  have k3 := p.cel.cell (i := 3) rfl
  have kd := p.down
  have hts : l.ts.length ≤ 1000000 := (p2.lg _ _ rfl hd).1.ok.many
  rw [hd] at kd
  clear p
  unfold ptrV at k2 k3
  go_enter Tryz.func9, Tryz.ntmps9
  go_wp2_with fail
  refine (HP.out.s.texts HL HI.out.1 hd).mono ?_
  rintro e W1 ⟨v, F1, rfl, hrow, hno, hs1, hf1⟩
  obtain ⟨A, c, rfl, hst, _, _⟩ := strs_own_new hrow rfl
  have hp1 := HP.out.actD hs1 hf1
  have HRw := Lib.hid (rw_own (H := 0) HP.out hrow hno rfl (HP.out.r.lt docDev docLog))
  obtain ⟨B, cB, kl4, kl5, hstB⟩ := hp1.log
  have HKl : Hid ((⟨k, 5, none⟩ : Addr).block < W1.heap.size) := Lib.hid (by
    obtain ⟨Fd, Fl, _, _, hL, _⟩ := hp1.r
    obtain ⟨_, _, _, h1, _⟩ := hL
    exact h1.cel.lt)
  have HSm := Lib.hid (fun V (hb : Below W1.heap.size W1 V) => same_any A B c cB l.ts l.ts V (hst.below hb) (hstB.below hb) (by omega))
  rw [show decide (l.ts = l.ts) = true by simp] at HSm
  have kk2 := hp1.cel.cell (i := 2) rfl
  have kk3 := hp1.cel.cell (i := 3) rfl
  unfold ptrV at kk2 kk3
  have HP1 := Lib.hid hp1
  clear hs1 hf1 hp1 hst hstB hrow hno k1 k2 k3 kd HP
  have qm := bne_self_eq_false' (l.mn : Int)
  have qr := bne_self_eq_false' (roomN D l : Int)
  go_upto_region 3 with fail
  go_region_held3 (fun w' => w'.cell? ⟨b, 2, none⟩ = some (.pointer (some ⟨y, 0, none⟩)) ∧ w'.cell? ⟨b, 3, none⟩ = some (.pointer (some ⟨k, 0, none⟩)) ∧ w'.cell? ⟨k, 4, none⟩ = some (.slice B l.ts.length cB) ∧ w'.cell? ⟨k, 5, none⟩ = some (.int .i64 (l.mn : Int)))
    (first | (refine ⟨?_, ?_, ?_, ?_⟩ <;> assumption) | go_keep)
    (first
    | (go_at_call 18
       refine (HSm.out _ (by first | exact Below.refl _ _ | exact (Below.refl _ _).drew)).mono ?_
       rintro e W2 ⟨rfl, n2, hw⟩
       have hb : Below W1.heap.size W1 W2 := by rw [hw]; first | exact (Below.refl _ _).drew.trans (below_drew _ _ n2) | exact below_drew _ _ n2
       have hp2 := HP1.out.step HB HL hb
       have k22 := hp2.cel.cell (i := 2) rfl
       have k23 := hp2.cel.cell (i := 3) rfl
       unfold ptrV at k22 k23
       have kl42 := (cell_kept hb ⟨k, 4, none⟩ HKl.out).trans kl4
       have kl52 := (cell_kept hb ⟨k, 5, none⟩ HKl.out).trans kl5
       have HRw2 := Lib.hid (HRw.out.step hb)
       have HP2 := Lib.hid hp2
       clear hb hp2 hw)
    | (go_at_call 24
       refine (HP2.out.s.synced HL HI.out.1 hd).mono ?_
       rintro e W3 ⟨rfl, F3, hs3, hf3⟩
       have hp3 := HP2.out.actD hs3 hf3
       have kl43 := (fr_cell hf3 (a := ⟨k, 4, none⟩) HP2.out.klt.1 HP2.out.klt.2).trans kl42
       have kl53 := (fr_cell hf3 (a := ⟨k, 5, none⟩) HP2.out.klt.1 HP2.out.klt.2).trans kl52
       have k32 := hp3.cel.cell (i := 2) rfl
       have k33 := hp3.cel.cell (i := 3) rfl
       unfold ptrV at k32 k33
       have HRw3 := Lib.hid (HRw2.out.actD hf3)
       have HP3 := Lib.hid hp3
       clear hs3 hf3 hp3)
    | (go_at_call 26
       refine (HP3.out.s.room HL.log HI.out.1 hd).mono ?_
       rintro e W4 ⟨rfl, F4, hs4, hf4⟩
       have hp4 := HP3.out.actD hs4 hf4
       have kl44 := (fr_cell hf4 (a := ⟨k, 4, none⟩) HP3.out.klt.1 HP3.out.klt.2).trans kl43
       have kl54 := (fr_cell hf4 (a := ⟨k, 5, none⟩) HP3.out.klt.1 HP3.out.klt.2).trans kl53
       have k42 := hp4.cel.cell (i := 2) rfl
       have k43 := hp4.cel.cell (i := 3) rfl
       unfold ptrV at k42 k43
       have HRw4 := Lib.hid (HRw3.out.actD hf4)
       have HP4 := Lib.hid hp4
       clear hs4 hf4 hp4)
    | (go_at_call 27
       refine (HP4.out.room HI.out.1.ok).mono ?_
       rintro e W5 ⟨rfl, hb5⟩
       have hp5 := HP4.out.step HB HL hb5
       have kl45 := (cell_kept hb5 ⟨k, 4, none⟩ HP4.out.klt.1).trans kl44
       have kl55 := (cell_kept hb5 ⟨k, 5, none⟩ HP4.out.klt.1).trans kl54
       have k52 := hp5.cel.cell (i := 2) rfl
       have k53 := hp5.cel.cell (i := 3) rfl
       unfold ptrV at k52 k53
       have HRw5 := Lib.hid (HRw4.out.step hb5)
       have HP5 := Lib.hid hp5
       clear hb5 hp5))
  all_goals
    clear kl4 kl5 kk2 kk3 qm qr
    go_wp2_with fail
    refine (spoil_any A c l.ts.length _ (by omega) HRw5.out.cel).mono ?_
    rintro e W6 ⟨rfl, hf6⟩
    have HP6 := Lib.hid (HP5.out.other HB HL HRw5.out hf6)
    clear hf6
    go_wp2_with fail
    go_loopw [4] (fun i wr => ∃ (j : Nat) (F1 G1 : Nat → Prop), j ≤ D.on.length ∧ i = .int .i64 (j : Int) ∧ Hid (Two Rep LRep w0 wr b g h (some (y, l)) (some (k, l)) F1 G1 D D (some (y, l)) (some (k, l)))) (fun i _ => D.on.length - (intOf i).toNat)
    case atStart => exact ⟨0, _, _, Nat.zero_le _, rfl, HP6⟩
    case round =>
      obtain ⟨j, F1, G1, hj, rfl, hp⟩ := hrel
      obtain ⟨aon, con, kon⟩ := hp.out.on
      have k1 := hp.out.cel.cell (i := 1) rfl
      have k0 := hp.out.cel.cell (i := 0) rfl
      by_cases hlt : j < D.on.length
      case neg =>
        have pj : ¬ (j : Int) < (D.on.length : Int) := by omega
        go_wp2_with fail
        go_ret
        exact ⟨rfl, _, _, _, _, _, hp.out, p2⟩
      have pj : (j : Int) < (D.on.length : Int) := by omega
      have HR := Lib.hid (hp.out.s.read (devF_of HB) HL.log (j : Int) (by omega))
      have q0 := beq_self_eq_true (rdV D (j : Int)).2
      have q2 := text_eq (rdV D (j : Int)).1
      go_wp2_with fail
      refine HR.out.mono ?_
      rintro e Wa ⟨rfl, F2, hs1, hf1⟩
      have hp1 := hp.out.actD hs1 hf1
      have kk1 := hp1.cel.cell (i := 1) rfl
      have HR2 := Lib.hid (hp1.r.read docDev docLog (j : Int) (by omega))
      have HP1 := Lib.hid hp1
      clear hs1 hf1 hp1 kon k0 k1 HR hp
      generalize (rdV D (j : Int)).1 = ra at *
      generalize (rdV D (j : Int)).2 = rb at *
      go_wp2_with fail
      refine HR2.out.mono ?_
      rintro e Wb ⟨rfl, G2, hs2, hf2⟩
      have HP2 := Lib.hid (HP1.out.actR HB HL hs2 hf2)
      clear hs2 hf2 HR2 kk1 HP1
      go_wp2_with fail
      go_roundw
      case rel => exact ⟨j + 1, _, _, by omega, by go_num, HP2⟩
      case measure => simp [intOf]; omega

end

end Rd
end Go.Proofs.YtjehjbkcdpidbaaGreat

/- Whatever happens, to both logs: contracts; over what is asked; no condition but the ranges. -/
namespace Go.Proofs.YtjehjbkcdpidbaaGreat
namespace Rd
open Go.RowKit Sc Bk

attribute [local go_sem ↓] Go.wp_at_zero Go.wp_at_succ
attribute [local go_sem] floatUpon pick

section
variable {Rep : RepT} {LRep : LRepT} {w0 W : World} {b g h m y k : Nat} {l l2 : Lg} {o q : Option (Nat × Lg)} {F G : Nat → Prop} {D : Dev}

theorem pouter_any (HB : DevBase Rep) (HL : LogAll Rep LRep) (p : Two Rep LRep w0 W b g h o q F G D D o q) (p2 : Two2 D o q m) (x : RAct) (hx : RActOk w0 x) (hk : amongV x.kind 6 > 2) :
    Calls Tryz.prog 32 #[.pointer (some ⟨b, 0, none⟩), racV x] W (StepPost Rep LRep w0 b g h (m + 1)) := by
  have hlt := amongV_lt x.kind 6 (by omega)
  have : amongV x.kind 6 = 3 ∨ amongV x.kind 6 = 4 ∨ amongV x.kind 6 = 5 := by omega
  rcases this with h1 | h1 | h1
  · exact pout_fuse HB HL p p2 x hx h1
  · exact pout_crash HB HL p p2 x hx h1
  · exact pout_hand HB HL p p2 x hx h1

set_option maxRecDepth 20000 in
set_option maxHeartbeats 8000000 in
theorem pstep_outer (HB : DevBase Rep) (HL : LogAll Rep LRep) (p : Two Rep LRep w0 W b g h o q F G D D o q) (p2 : Two2 D o q m) (x : RAct) (hx : RActOk w0 x) (hk : amongV x.kind 6 > 2) :
    Calls Tryz.prog 10 #[.pointer (some ⟨b, 0, none⟩), racV x] W (StepPost Rep LRep w0 b g h (m + 1)) := by
  obtain ⟨kind, n, text, A, c, ts, B, cB, ps⟩ := x
  have HX := Lib.hid hx
  clear hx
  unfold racV
  simp only at hk ⊢
  have HO := Lib.hid (fun V (t : Two Rep LRep w0 V b g h o q F G D D o q) => pouter_any (W := V) HB HL t p2 ⟨kind, n, text, A, c, ts, B, cB, ps⟩ HX.out hk)
  unfold racV at HO
  have HAm := Lib.hid (fun V => among_any kind 6 V (by omega) (by omega))
  generalize amongV kind 6 = z at hk HAm
  have pz : 2 < z := by omega
  have hal := p.step HB HL ((Below.refl _ W).alloc (Nat.le_refl _) (.cells #[.int .i64 kind, .int .i64 n, .string text, .slice A ts.length c, .slice B ps.length cB] 40))
  have hbx : Cel (W.alloc (.cells #[.int .i64 kind, .int .i64 n, .string text, .slice A ts.length c, .slice B ps.length cB] 40)) W.heap.size 40 [.int .i64 kind, .int .i64 n, .string text, .slice A ts.length c, .slice B ps.length cB] := (blk1 W _).2
  have hbf : ¬ F W.heap.size := fun hf => by have := p.s.lt (devF_of HB) HL.log _ hf; omega
  have hbg : ¬ G W.heap.size := fun hf => by have := p.r.lt docDev docLog _ hf; omega
  have hlt : W.heap.size < (W.alloc (.cells #[.int .i64 kind, .int .i64 n, .string text, .slice A ts.length c, .slice B ps.length cB] 40)).heap.size := by simp
  clear p hk
  go_enter Tryz.func10, Tryz.ntmps10
  go_upto_region 1 with fail
  generalize W.alloc (.cells #[.int .i64 kind, .int .i64 n, .string text, .slice A ts.length c, .slice B ps.length cB] 40) = W1 at hal hbx hlt ⊢
  generalize W.heap.size = a at hbx hbf hbg hlt ⊢
  have HP := Lib.hid hal
  have HA := Lib.hid (And.intro hbx (And.intro hbf (And.intro hbg hlt)))
  have x0 := hbx.cell (i := 0) rfl
  have x1 := hbx.cell (i := 1) rfl
  have x2 := hbx.cell (i := 2) rfl
  have x3 := hbx.cell (i := 3) rfl
  have x4 := hbx.cell (i := 4) rfl
  clear hal hbx hbf hbg hlt
  go_wp2_with fail
  refine (HAm.out _).mono ?_
  rintro e W2 ⟨rfl, rfl⟩
  go_wp2_with fail
  refine (HO.out _ HP.out).mono ?_
  intro e W3 hp3
  obtain ⟨rfl, hp3⟩ := hp3
  have H3 := Lib.hid hp3
  clear hp3
  go_wp2_with fail
  go_ret
  exact ⟨rfl, H3.out⟩

/-- whatever happens -/
theorem pstep_any (HB : DevBase Rep) (HL : LogAll Rep LRep) (p : Two Rep LRep w0 W b g h o q F G D D o q) (p2 : Two2 D o q m) (hm : m ≤ 60) (x : RAct) (hx : RActOk w0 x) :
    Calls Tryz.prog 10 #[.pointer (some ⟨b, 0, none⟩), racV x] W (StepPost Rep LRep w0 b g h (m + 1)) := by
  by_cases hk : amongV x.kind 6 > 2
  · exact pstep_outer HB HL p p2 x hx hk
  rcases o with _ | ⟨y, l⟩
  · obtain rfl := op_none (o := q) p2.same.symm
    exact pstep_none HB HL p p2 x hx (by omega)
  obtain ⟨k, rfl⟩ := op_some (o := q) (l := l) p2.same.symm
  by_cases hd : D.down = true
  · exact pstep_down HB HL p p2 x hx hd (by omega)
  have hu : D.down = false := by simpa using hd
  have : amongV x.kind 6 = 0 ∨ amongV x.kind 6 = 1 ∨ amongV x.kind 6 = 2 := by omega
  rcases this with h1 | h1 | h1
  · exact pstep_app HB HL p p2 x hx hu h1
  · exact pstep_syn HB HL p p2 x hx hu h1 hm
  · exact pstep_rst HB HL p p2 x hx hu h1 hm

/-- both logs are the same -/
theorem psame_any (HB : DevBase Rep) (HL : LogAll Rep LRep) (p : Two Rep LRep w0 W b g h o q F G D D o q) (p2 : Two2 D o q m) :
    Calls Tryz.prog 9 #[.pointer (some ⟨b, 0, none⟩)] W (StepPost Rep LRep w0 b g h m) := by
  rcases o with _ | ⟨y, l⟩
  · obtain rfl := op_none (o := q) p2.same.symm
    exact psame_none HB HL p p2
  obtain ⟨k, rfl⟩ := op_some (o := q) (l := l) p2.same.symm
  by_cases hd : D.down = true
  · exact psame_down HB HL p p2 hd
  · exact psame_live HB HL p p2 (by simpa using hd)

end

end Rd
end Go.Proofs.YtjehjbkcdpidbaaGreat

/- Calls as an argument: a row of structs, each with a row of numbers in it: what its reading says. -/
namespace Go.Proofs.YtjehjbkcdpidbaaGreat
namespace Rd
open Go.ChangeShapes Go.WideShapes Go.ChangeAt Go.RowKit Go.Joins Go.Deep Sc Bk

def RActsAt (w : World) (A : Option Addr) (L : List RAct) : Prop :=
  0 < L.length → ∃ ad, A = some ad ∧ ad.block < w.heap.size ∧ ∀ i (h : i < L.length), w.cell? (ad.add (i * 5)) = some (.int .i64 L[i].kind) ∧ w.cell? (ad.add (i * 5 + 1)) = some (.int .i64 L[i].n) ∧ w.cell? (ad.add (i * 5 + 2)) = some (.string L[i].text) ∧ w.cell? (ad.add (i * 5 + 3)) = some (.slice L[i].A L[i].ts.length L[i].c) ∧ w.cell? (ad.add (i * 5 + 4)) = some (.slice L[i].B L[i].ps.length L[i].cB)

/-- the value is a slice of these calls -/
def RActsOf (w : World) (v : Value) (L : List RAct) : Prop :=
  ∃ (A : Option Addr) (c : Nat), v = .slice A L.length c ∧ RActsAt w A L ∧ L.length * 16 ≤ reachBytes ∧ (∀ x ∈ L, RActOk w x)

section
variable {H : Type} {enc : TypeId × Value → H} {W : World}

theorem agg_weights {t : TypeId} {fs : Array Field} (hs : Tryz.prog.underlying t = some (.struct fs)) {xs : List (DataW H × List MemPlace)} {i : Nat} {f : Field} {y : DataW H × List MemPlace} (hi : fs[i]? = some f) (hy : xs[i]? = some y) (hw : ∀ k ∈ (DataW.agg (xs.map (·.1))).weights Tryz.prog t, k ≤ reachBytes) : ∀ k ∈ y.1.weights Tryz.prog f.type, k ≤ reachBytes := fun k hk => hw k (by
  simp only [DataW.weights, hs]
  exact DataW.weights_mem_each (ts := fs.toList.map (·.type)) (ds := xs.map (·.1)) (j := i) (by rw [List.getElem?_map, Array.getElem?_toList, hi]; rfl) (by rw [List.getElem?_map, hy]; rfl) k hk)

theorem field_int {t : TypeId} {v : Value} {fuel : Nat} {y : DataW H × List MemPlace} (ht : Tryz.prog.underlying t = some (.int .i64)) (hf : DataW.trod enc Tryz.prog W 0 (fun _ => true) true fuel t [v] = some y) : ∃ z, v = .int .i64 z ∧ -9223372036854775808 ≤ z ∧ z ≤ 9223372036854775807 := by
  obtain ⟨z, h1, _, h3⟩ := DataW.trod_int ht hf
  obtain rfl : v = .int .i64 z := by simpa using h1
  exact ⟨z, rfl, show IntKind.i64.min ≤ z ∧ z ≤ 9223372036854775807 by simpa [Lit.wf] using h3⟩

theorem field_text {t : TypeId} {v : Value} {fuel : Nat} {y : DataW H × List MemPlace} (ht : Tryz.prog.underlying t = some .string) (hf : DataW.trod enc Tryz.prog W 0 (fun _ => true) true fuel t [v] = some y) (hw : ∀ k ∈ y.1.weights Tryz.prog t, k ≤ reachBytes) : ∃ s : ByteArray, v = .string s ∧ s.size ≤ reachBytes := by
  obtain ⟨s, h1, rfl, _⟩ := DataW.trod_string ht hf
  obtain rfl : v = .string s := by simpa using h1
  exact ⟨s, rfl, by
    have := hw s.data.toList.length (by simp [DataW.weights])
    rwa [Array.length_toList] at this⟩

theorem weights_at {e t : TypeId} {d : DataW H} {ds sp : List (DataW H)} (ht : Tryz.prog.underlying t = some (.slice e)) (hm : d ∈ ds) (hwt : ∀ k ∈ (DataW.slice ds sp).weights Tryz.prog t, k ≤ reachBytes) : ∀ k ∈ d.weights Tryz.prog e, k ≤ reachBytes := fun k hk => hwt k (by
  simp only [DataW.weights, ht, List.mem_cons, List.mem_append]
  refine .inr (.inl ?_)
  have : ∀ (l : List (DataW H)), d ∈ l → k ∈ DataW.weightsAll Tryz.prog e l := by
    intro l
    induction l with
    | nil => intro h; simp at h
    | cons x r ih =>
      intro h
      show k ∈ x.weights Tryz.prog e ++ DataW.weightsAll Tryz.prog e r
      rw [List.mem_append]
      rcases List.mem_cons.1 h with rfl | h
      · exact .inl hk
      · exact .inr (ih h)
  exact this _ hm)

theorem all_flat (ts : List ByteArray) : allF ts = ts.flatMap fun s => Su.frameL s.data.toList := by
  unfold allF frs
  rw [List.take_length, List.drop_zero]

theorem bulk_part {d : DataW H} {l : List (DataW H)} (h : d ∈ l) : Rows.uptoBulk d ≤ Rows.uptoBulkAll l := by
  induction l with
  | nil => cases h
  | cons x r ih =>
    simp only [Rows.uptoBulkAll]
    cases List.mem_cons.1 h with
    | inl e => subst e; omega
    | inr e => have := ih e; omega

theorem bulk_frames : ∀ (L : List ByteArray), (allF L).length ≤ 7 * Rows.uptoBulkAll (strs (H := H) L)
  | [] => by rw [all_flat]; exact Nat.zero_le _
  | s :: r => by
    have ih := bulk_frames r
    rw [all_flat] at ih ⊢
    show ((Su.frameL s.data.toList) ++ r.flatMap fun s => Su.frameL s.data.toList).length ≤ 7 * (Rows.uptoBulk (DataW.lit (H := H) (.string s.data.toList)) + Rows.uptoBulkAll (strs r))
    rw [List.length_append, Su.frameL_len]
    simp only [Rows.uptoBulk]
    omega

set_option maxRecDepth 20000 in
theorem field_texts2 {t e : TypeId} {v : Value} {fuel : Nat} {y : DataW H × List MemPlace} (ht : Tryz.prog.underlying t = some (.slice e)) (he : Tryz.prog.underlying e = some .string) (hc : Tryz.prog.cellsOf e = 1) (hb16 : Tryz.prog.bytesOf e = 16)
    (hf : DataW.trod enc Tryz.prog W 0 (fun _ => true) true fuel t [v] = some y) (hwt : ∀ k ∈ y.1.weights Tryz.prog t, k ≤ reachBytes) (hl : ∀ x ∈ y.2, x.block < W.heap.size) :
    ∃ (A : Option Addr) (c : Nat) (L : List ByteArray), v = .slice A L.length c ∧ StrsAt W A L ∧ L.length * 16 ≤ reachBytes ∧ L.length ≤ c ∧ c ≤ maxLen ∧ (∀ s ∈ L, s.size ≤ reachBytes) ∧ (A = none → L = [] ∧ c = 0) ∧ (allF L).length ≤ 7 * Rows.uptoBulk y.1 := by
  rcases open_strings ht he hc hf with ⟨hcs, hx⟩ | ⟨a, len, cap, zs, hcs, _, hl', hm, hz, hx, hcell, hwz⟩
  · obtain rfl : v = .slice none 0 0 := by simpa using hcs
    exact ⟨none, 0, [], rfl, fun h => absurd h (by simp), by simp, by simp, Nat.zero_le _, by simp, fun _ => ⟨rfl, rfl⟩, Nat.zero_le _⟩
  · obtain rfl : v = .slice (some a) len cap := by simpa using hcs
    subst hx
    simp only [if_true] at hz
    have hlen : (zs.take len).length = len := by rw [List.length_take]; omega
    have hs := hwt (((strs (H := H) (zs.take len)).length + (strs (H := H) (zs.drop len)).length) * Tryz.prog.bytesOf e) (by simp [DataW.weights, ht])
    rw [hb16] at hs
    have hs2 : (zs.take len).length * 16 ≤ reachBytes := by
      refine Nat.le_trans (Nat.mul_le_mul_right 16 ?_) hs
      simp only [strs, List.length_map]
      omega
    refine ⟨some a, cap, zs.take len, by rw [hlen], fun hpos => ⟨a, rfl, ?_, fun i hi => ?_⟩, hs2, by rw [hlen]; exact hl', hm, fun s hs' => ?_, (fun h => by cases h), ?_⟩
    · obtain ⟨b, off, spot⟩ := a
      exact hl (.cell b off) (MemPlace.mem_row.2 ⟨0, by omega, by simp⟩)
    · have h1 := hcell i (by omega)
      rw [h1]
      congr 2
      rw [List.getElem_take, List.getD_eq_getElem?_getD, List.getElem?_eq_getElem (by omega), Option.getD_some]
    · exact hwt s.size (by
        simp only [DataW.weights, ht, List.mem_cons, List.mem_append]
        exact .inr (.inl (weights_strs _ _ _ _ hs')))
    · have h1 := bulk_frames (H := H) (zs.take len)
      have h2 : Rows.uptoBulk (DataW.slice (strs (H := H) (zs.take len)) (strs (zs.drop len))) = Rows.uptoBulkAll (strs (H := H) (zs.take len)) + Rows.uptoBulkAll (strs (H := H) (zs.drop len)) + 1 := by simp only [Rows.uptoBulk]
      show _ ≤ 7 * Rows.uptoBulk (DataW.slice (strs (H := H) (zs.take len)) (strs (zs.drop len)))
      omega

set_option maxRecDepth 20000 in
theorem field_racts {t e : TypeId} {f0 f1 f2 f3 f4 : Field} {v : Value} {fuel : Nat} {y : DataW H × List MemPlace} (ht : Tryz.prog.underlying t = some (.slice e)) (he : Tryz.prog.underlying e = some (.struct #[f0, f1, f2, f3, f4])) (ce : Tryz.prog.cellsOf e = 5) (hone : oneCellFields Tryz.prog #[f0, f1, f2, f3, f4] = true)
    (t0 : Tryz.prog.underlying f0.type = some (.int .i64)) (t1 : Tryz.prog.underlying f1.type = some (.int .i64)) (t2 : Tryz.prog.underlying f2.type = some .string) (t3 : Tryz.prog.underlying f3.type = some (.slice 9)) (t4 : Tryz.prog.underlying f4.type = some (.slice 3)) (ts' : Tryz.prog.underlying 9 = some .string) (cs1 : Tryz.prog.cellsOf 9 = 1) (bs1 : Tryz.prog.bytesOf 9 = 16) (ti : Tryz.prog.underlying 3 = some (.int .i64)) (ci : Tryz.prog.cellsOf 3 = 1) (bi : Tryz.prog.bytesOf 3 = 8) (hb16 : 16 ≤ Tryz.prog.bytesOf e)
    (hf : DataW.trod enc Tryz.prog W 0 (fun _ => true) true fuel t [v] = some y) (hwt : ∀ k ∈ y.1.weights Tryz.prog t, k ≤ reachBytes) (hl : ∀ x ∈ y.2, x.block < W.heap.size) (hbk : Rows.uptoBulk y.1 ≤ 1048576) :
    ∃ L, RActsOf W v L := by
  rcases open_slice ht hf with ⟨hcs, _⟩ | ⟨a, len, cap, m, n, D, Pl, hcs, _, hl', hm, hmm, hx, hall⟩
  · obtain rfl : v = .slice none 0 0 := by simpa using hcs
    exact ⟨[], none, 0, rfl, fun h => absurd h (by simp), by simp, by simp⟩
  · obtain rfl : v = .slice (some a) len cap := by simpa using hcs
    subst hx
    simp only [if_true] at hmm
    subst hmm
    have each : ∀ i, i < len → ∃ q : RAct, W.cell? (a.add (i * 5)) = some (.int .i64 q.kind) ∧ W.cell? (a.add (i * 5 + 1)) = some (.int .i64 q.n) ∧ W.cell? (a.add (i * 5 + 2)) = some (.string q.text) ∧ W.cell? (a.add (i * 5 + 3)) = some (.slice q.A q.ts.length q.c) ∧ W.cell? (a.add (i * 5 + 4)) = some (.slice q.B q.ps.length q.cB) ∧ RActOk W q := by
      intro i hi
      obtain ⟨cs', h1, h2⟩ := hall i (by omega)
      rw [ce] at h1
      obtain ⟨_, hlen, hcell⟩ := World.cells?_some h1
      have hwi : ∀ k ∈ (D i).weights Tryz.prog e, k ≤ reachBytes := weights_at ht (List.mem_map.2 ⟨i, List.mem_range.2 hi, rfl⟩) hwt
      obtain ⟨xs, k, _, hxy, _, hxl, hff⟩ := DataW.trod_struct he h2
      obtain ⟨o0, c0⟩ := hone_of hone 0 f0 rfl
      obtain ⟨o1, c1⟩ := hone_of hone 1 f1 rfl
      obtain ⟨o2, c2⟩ := hone_of hone 2 f2 rfl
      obtain ⟨o3, c3⟩ := hone_of hone 3 f3 rfl
      obtain ⟨o4, c4⟩ := hone_of hone 4 f4 rfl
      match xs, hxl, cs', hlen with
      | [y0, y1, y2, y3, y4], _, [v0, v1, v2, v3, v4], _ =>
        have g0 := hff 0 f0 rfl
        have g1 := hff 1 f1 rfl
        have g2 := hff 2 f2 rfl
        have g3 := hff 3 f3 rfl
        have g4 := hff 4 f4 rfl
        simp [o0, o1, o2, o3, o4, c0, c1, c2, c3, c4] at g0 g1 g2 g3 g4
        simp only [Prod.mk.injEq] at hxy
        rw [hxy.1] at hwi
        have hpl : ∀ x ∈ y4.2, x.block < W.heap.size := fun x hx => hl x (by
          refine List.mem_append_right _ (List.mem_flatMap.2 ⟨i, List.mem_range.2 (by omega), ?_⟩)
          rw [hxy.2]
          exact List.mem_flatMap.2 ⟨y4, by simp, hx⟩)
        obtain ⟨z0, rfl, _⟩ := field_int t0 g0
        obtain ⟨z1, rfl, r1⟩ := field_int t1 g1
        obtain ⟨z2, rfl, r2⟩ := field_text t2 g2 (agg_weights (i := 2) he rfl rfl hwi)
        have hpl3 : ∀ x ∈ y3.2, x.block < W.heap.size := fun x hx => hl x (by
          refine List.mem_append_right _ (List.mem_flatMap.2 ⟨i, List.mem_range.2 (by omega), ?_⟩)
          rw [hxy.2]
          exact List.mem_flatMap.2 ⟨y3, by simp, hx⟩)
        obtain ⟨A3, c3', L3, rfl, u1, u2, u3, u4, u5, u6, u7⟩ := field_texts2 t3 ts' cs1 bs1 g3 (agg_weights (i := 3) he rfl rfl hwi) hpl3
        have b1 : Rows.uptoBulk y3.1 ≤ 1048576 := by
          have hp1 := bulk_part (H := H) (d := D i) (l := (List.range len).map D) (List.mem_map.2 ⟨i, List.mem_range.2 hi, rfl⟩)
          have hp2 : Rows.uptoBulk y3.1 ≤ Rows.uptoBulk (D i) := by
            rw [hxy.1]
            have := bulk_part (H := H) (d := y3.1) (l := [y0, y1, y2, y3, y4].map (·.1)) (List.mem_map.2 ⟨y3, by simp, rfl⟩)
            simp only [Rows.uptoBulk]
            omega
          simp only [Rows.uptoBulk] at hbk
          omega
        obtain ⟨A, c, L, rfl, q1, q2, q3, q4, q5, q6⟩ := field_ints t4 ti ci bi g4 (agg_weights (i := 4) he rfl rfl hwi) hpl
        have e0 := hcell 0 (by omega)
        have e1 := hcell 1 (by omega)
        have e2 := hcell 2 (by omega)
        have e3 := hcell 3 (by omega)
        have e4 := hcell 4 (by omega)
        rw [add_add] at e0 e1 e2 e3 e4
        exact ⟨⟨z0, z1, z2, A3, c3', L3, A, c, L⟩, by simpa using e0, by simpa using e1, by simpa using e2, by simpa using e3, by simpa using e4, ⟨r1, r2, ⟨A3, c3', rfl, u1, u6, u2, u5, u3, u4⟩, by show (allF L3).length ≤ _; omega, q1, q2, q5, q3, q4, q6⟩⟩
    obtain ⟨q, hq⟩ := choose_lt each
    have hL : ((List.range len).map q).length = len := by simp
    have hat : ∀ i (h : i < ((List.range len).map q).length), ((List.range len).map q)[i] = q i := fun i h => by simp
    have hs := hwt ((((List.range len).map D).length + ((List.range (m - len)).map fun j => D (len + j)).length) * Tryz.prog.bytesOf e) (by simp [DataW.weights, ht])
    refine ⟨(List.range len).map q, some a, m, by rw [hL], fun hpos => ⟨a, rfl, ?_, fun i hi => ?_⟩, ?_, fun x hx => ?_⟩
    · obtain ⟨b, off, spot⟩ := a
      rw [hL] at hpos
      exact hl (.cell b off) (List.mem_append_left _ (MemPlace.mem_row.2 ⟨0, by rw [ce]; omega, by simp⟩))
    · rw [hat i hi]
      have := hq i (by rw [hL] at hi; exact hi)
      exact ⟨this.1, this.2.1, this.2.2.1, this.2.2.2.1, this.2.2.2.2.1⟩
    · rw [hL]
      refine Nat.le_trans (Nat.mul_le_mul ?_ hb16) hs
      rw [List.length_map, List.length_range]
      omega
    · obtain ⟨i, hi, rfl⟩ := List.mem_map.1 hx
      exact (hq i (List.mem_range.1 hi)).2.2.2.2.2

set_option maxRecDepth 20000 in
theorem open_racts {base : Nat} {v : Value} {d : DataW H} {p : List MemPlace} {ts : List TypeId} {ds : List (DataW H)} {j : Nat}
    (hsz : (DataW.weightsEach Tryz.prog ts ds).all (· ≤ reachBytes) = true) (hj : ts[j]? = some 22) (hd : ds[j]? = some d)
    (hv : Value.okWide Tryz.prog W .any base 22 v) (h : DataW.Trod enc Tryz.prog W 0 (fun _ => true) true 22 v d p) (hl : ∀ x ∈ p, x.block < W.heap.size) (hbk : Rows.uptoBulk d ≤ 1048576) : ∃ L, RActsOf W v L := by
  obtain ⟨a0, len, cap, rfl⟩ := okWide_slice Tryz.underlying22 hv
  obtain ⟨fuel, hf⟩ := h
  exact field_racts Tryz.underlying22 Tryz.underlying40 (by kernel_rfl) (by kernel_rfl) Tryz.underlying3 Tryz.underlying3 Tryz.underlying9 Tryz.underlying37 Tryz.underlying38 Tryz.underlying9 (by kernel_rfl) (by kernel_rfl) Tryz.underlying3 (by kernel_rfl) (by kernel_rfl) (of_decide_eq_true (by kernel_rfl)) hf (arg_weights hsz hj hd) hl hbk

end

end Rd
end Go.Proofs.YtjehjbkcdpidbaaGreat

/- The law of a log under whatever happens, over what is asked; no condition but the range. -/
namespace Go.Proofs.YtjehjbkcdpidbaaGreat
namespace Rd
open Go.RowKit Sc Bk

attribute [local go_sem ↓] Go.wp_at_zero Go.wp_at_succ
attribute [local go_sem] floatUpon pick

theorem add_field (a : Addr) (n k : Nat) (hk : 0 < k) : (⟨(a.add n).block, (a.add n).off + k, none⟩ : Addr) = a.add (n + k) := by
  unfold Addr.add
  by_cases h : n = 0
  · rw [if_pos h, if_neg (by omega), h, Nat.zero_add]
  · rw [if_neg h, if_neg (by omega)]
    simp only [Nat.add_assoc]

section
variable {Rep : RepT} {LRep : LRepT}

set_option maxRecDepth 20000 in
set_option maxHeartbeats 8000000 in
theorem rplays_walk (HB : DevBase Rep) (HL : LogAll Rep LRep) (n : Int) (hn : -9223372036854775808 ≤ n ∧ n ≤ 9223372036854775807) (v : Value) (L : List RAct) (w : World) (hv : RActsOf w v L) :
    Calls Tryz.prog 3 #[.int .i64 n, v] w fun e w' => e = .returned (.bool true) ∧ Below w.heap.size w w' := by
  obtain ⟨A, c, rfl, hat, hl16, hok⟩ := hv
  have HWk := Lib.hid (fun V => works_any HB HL V)
  have HMk := Lib.hid (fun V => rmake_any n V)
  have rb : reachBytes = 140737488351232 := by unfold reachBytes; rfl
  have hlen : (L.length : Int) ≤ 9223372036854775807 := by omega
  have HAt := Lib.hid hat
  have HOk := Lib.hid hok
  clear hat hok hl16 rb
  go_enter Tryz.func3, Tryz.ntmps3
  go_wp2_with fail
  refine (HB.new n w hn).mono ?_
  rintro e w1 (⟨n1, n2, F, g, rfl, hr, hF, hb⟩ | ⟨hno, rfl, hb⟩)
  case inr =>
    have HBl := Lib.hid hb
    clear hb
    go_wp2_with fail
    refine (HMk.out _).mono ?_
    rintro e w2 hmk
    rcases hmk with ⟨m1, m2, _⟩ | ⟨_, rfl, rfl⟩
    · exact absurd ⟨m1, m2⟩ hno
    clear hno
    go_wp2_with fail
    refine (HWk.out _).mono ?_
    rintro e w3 ⟨rfl, hb⟩
    have HB3 := Lib.hid (HBl.out.trans (hb.mono HBl.out.size))
    clear hb
    go_wp2_with fail
    go_ret
    exact ⟨rfl, HB3.out⟩
  have HO : Hid (OneS Rep LRep w w1 F g (new0 n.toNat) none) := Lib.hid ⟨hr, hF, hb⟩
  clear hr hF hb
  go_wp2_with fail
  refine (HMk.out _).mono ?_
  rintro e w2 hmk
  rcases hmk with ⟨_, _, h, ao, an, co, cn, so, sn, rfl, hra, hfo, hb⟩ | ⟨hno, _⟩
  case inr => exact absurd ⟨n1, n2⟩ hno
  have HRa := Lib.hid (And.intro hra (And.intro hfo hb))
  have HO2 := Lib.hid (HO.out.step (devF_of HB) HL.log hb)
  clear hra hfo hb
  go_wp2_with fail
  refine (HWk.out _).mono ?_
  rintro e w3 ⟨rfl, hb3⟩
  have HO3 := Lib.hid (HO2.out.step (devF_of HB) HL.log hb3)
  have hp0 : ∀ W', Below w3.heap.size w3 W' → Cel W' w3.heap.size 35 [.pointer (some ⟨g, 0, none⟩), .pointer (some ⟨h, 0, none⟩), ptrV none, ptrV none] → w3.heap.size < W'.heap.size → Two Rep LRep w W' w3.heap.size g h none none F (RFoot h ao an) (new0 n.toNat) (new0 n.toNat) none none := fun W' hbW hc _ => by
    have h1 := HRa.out.1.step (hb3.trans (hbW.mono hb3.size))
    have hd1 := HO3.out.step (devF_of HB) HL.log hbW
    refine ⟨hd1.s, ⟨ao, an, co, cn, so, sn, rfl, h1, hd1.s.ok (devF_of HB)⟩, hc, fun hf => ?_, fun hf => ?_, fun k hk hf => ?_, hd1.bF, fun k hk => ?_, HO3.out.bel.size, hd1.bel⟩
    · have := HO3.out.s.lt (devF_of HB) HL.log _ hf; omega
    · have := (HRa.out.1.step hb3).lt _ hf; omega
    · have h5 := HRa.out.2.1 k hk
      have h6 := HO.out.s.lt (devF_of HB) HL.log _ hf
      omega
    · exact Nat.le_trans HO.out.bel.size (HRa.out.2.1 k hk)
  have HP0 := Lib.hid hp0
  clear hp0 hb3 HO HO2 HRa
  by_cases h40 : n > 40
  · go_wp2_with fail
    go_ret
    exact ⟨rfl, HO3.out.bel⟩
  have p40 : ¬ (40 < n) := by omega
  go_wp2_with fail
  have hp1 := HP0.out _ ((Below.refl _ w3).alloc (Nat.le_refl _) (.cells #[.pointer (some ⟨g, 0, none⟩), .pointer (some ⟨h, 0, none⟩), .pointer none, .pointer none] 35)) (blk1 w3 _).2 (by simp)
  have HP1 := Lib.hid hp1
  have HOk0 := Lib.hid (HO3.out.s.ok (devF_of HB))
  clear hp1 HP0 HO3
  refine (both_open HB HL HP1.out).mono ?_
  rintro e w4 ⟨rfl, F4, G4, o4, q4, hp4, ho4, hq4⟩
  have H4 := Lib.hid (And.intro hp4 (two_open HOk0.out ho4 hq4 0))
  clear hp4 ho4 hq4 HP1
  generalize w3.heap.size = b at H4 ⊢
  go_wp2_with fail
  refine (psame_any HB HL H4.out.1 H4.out.2).mono ?_
  intro e w5 hp5
  obtain ⟨rfl, F5, G5, o5, q5, D5, hp5, h25⟩ := hp5
  have H5 := Lib.hid (And.intro hp5 h25)
  clear hp5 h25 H4
  go_wp2_with fail
  go_loopw [10] (fun i wr => ∃ (j : Nat) (F : Nat → Prop) (G : Nat → Prop) (o q : Option (Nat × Lg)) (D : Dev), j ≤ L.length ∧ j ≤ 30 ∧ i = .int .i64 (j : Int) ∧ Hid (Two Rep LRep w wr b g h o q F G D D o q ∧ Two2 D o q j)) (fun i _ => L.length - (intOf i).toNat)
  case atStart => exact ⟨0, F5, G5, o5, q5, D5, by omega, by omega, rfl, H5⟩
  case round =>
    obtain ⟨j, F6, G6, o6, q6, D6, hj, hj2, rfl, hp⟩ := hrel
    clear H5
    by_cases hlt : j < L.length
    case neg =>
      have pj : ¬ (j : Int) < (L.length : Int) := by omega
      go_wp2_with fail
      go_ret
      exact ⟨rfl, hp.out.1.bel⟩
    have pj : (j : Int) < (L.length : Int) := by omega
    by_cases hlt2 : j < 30
    case neg =>
      have pj2 : ¬ (j : Int) < 30 := by omega
      go_wp2_with fail
      go_ret
      exact ⟨rfl, hp.out.1.bel⟩
    have pj2 : (j : Int) < 30 := by omega
    obtain ⟨ad, rfl, hab, hc⟩ := HAt.out (by omega)
    obtain ⟨x0, x1, x2, x3, x4⟩ := hc j hlt
    rw [← cell_kept hp.out.1.bel _ (by rw [st_block]; exact hab)] at x0 x1 x2 x3 x4
    rw [← add_field _ _ _ (by omega)] at x1 x2 x3 x4
    have hao := HOk.out _ (List.getElem_mem hlt)
    generalize L[j] = X at x0 x1 x2 x3 x4 hao
    have HSt := Lib.hid (fun V (t : Two Rep LRep w V b g h o6 q6 F6 G6 D6 D6 o6 q6) => pstep_any HB HL t hp.out.2 (by omega) X hao)
    obtain ⟨kd, n', tx, A', c', ts', B', cB', ps'⟩ := X
    unfold racV at HSt
    simp only at x0 x1 x2 x3 x4 HSt
    clear hc hao hab
    go_wp2_with fail
    refine (HSt.out _ hp.out.1).mono ?_
    intro e w6 hp6
    obtain ⟨rfl, F7, G7, o7, q7, D7, hp7, h27⟩ := hp6
    have H7 := Lib.hid (And.intro hp7 h27)
    clear hp7 h27 x0 x1 x2 x3 x4 HSt
    go_wp2_with fail
    refine (psame_any HB HL H7.out.1 H7.out.2).mono ?_
    intro e w7 hp8
    obtain ⟨rfl, F8, G8, o8, q8, D8, hp8, h28⟩ := hp8
    have H8 := Lib.hid (And.intro hp8 h28)
    clear hp8 h28
    go_wp2_with fail
    go_roundw
    case rel => exact ⟨j + 1, F8, G8, o8, q8, D8, by omega, by omega, by go_num, H8⟩
    case measure => simp [intOf]; omega

end

end Rd
end Go.Proofs.YtjehjbkcdpidbaaGreat
