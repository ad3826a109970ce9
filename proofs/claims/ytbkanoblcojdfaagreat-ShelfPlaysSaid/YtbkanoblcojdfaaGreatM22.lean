/- Parts of the proof, joined: ShL5, ShL6, ShL7; their conditions stand with each. -/
import Derived.Test.YtbkanoblcojdfaaGreatM7
import Derived.Test.YtbkanoblcojdfaaGreatM8
import Derived.Test.YtbkanoblcojdfaaGreatM21

namespace Go.Proofs.YtbkanoblcojdfaaGreat
namespace Sh
open Go.RowKit Bk Ch Lt Rc Tr
attribute [local go_sem ↓] Go.wp_at_zero Go.wp_at_succ
attribute [local go_sem] floatUpon pick
theorem end_first {e : List (Int × Int)} {txn : Int} {j : Nat} (hj : j < e.length) (h : e[j].1 = txn) (hall : ∀ i (h : i < e.length), i < j → e[i].1 ≠ txn) : endOf e txn = some e[j] := by
  unfold endOf
  rw [List.find?_eq_some_iff_append]
  refine ⟨by simpa using h, e.take j, e.drop (j + 1), ?_, fun x hx => ?_⟩
  · rw [← List.drop_eq_getElem_cons hj, List.take_append_drop]
  · obtain ⟨i, hi, rfl⟩ := List.getElem_of_mem hx
    rw [List.length_take] at hi
    rw [List.getElem_take]
    simpa using hall i (by omega) (by omega)
def EndAt (e : List (Int × Int)) (txn : Int) (n : Int) : Prop := (n = -1 ∧ endOf e txn = none) ∨ ∃ j, ∃ h : j < e.length, n = (j : Int) ∧ endOf e txn = some e[j]
theorem state1_any (x1 x2 txn : Int) (b : Nat) (w : World) (hb : b < w.heap.size) (h1 : w.cell? ⟨b, 0, none⟩ = some (.int .i64 txn)) :
    Calls Tryz.prog 90 #[.agg #[.int .i64 x1, .int .i64 x2], .pointer (some ⟨b, 0, none⟩)] w fun e w' => e = .returned (.bool (x1 == txn)) ∧ Below w.heap.size w w' := by
  have hne : (⟨b, 0, none⟩ : Addr).block ≠ w.heap.size := by simp only; omega
  have h2 : (w.alloc (.cells #[.int .i64 x1, .int .i64 x2] 97)).cell? ⟨b, 0, none⟩ = some (.int .i64 txn) := (cell_kept ((Below.refl _ w).alloc (Nat.le_refl _) _) _ hb).trans h1
  have hB := Lib.hid ((Below.refl w.heap.size w).alloc (Nat.le_refl _) (.cells #[.int .i64 x1, .int .i64 x2] 97))
  clear h1 hb
  go_enter Tryz.func90, Tryz.ntmps90
  go_wp2_with fail
  go_ret
  exact ⟨rfl, hB.out⟩
set_option maxRecDepth 20000 in
set_option maxHeartbeats 4000000 in
theorem indexEnd_any (A : Option Addr) (c : Nat) (e : List (Int × Int)) (txn : Int) (b : Nat) (w : World) (hr : RowF w (fun _ => False) A (e.flatMap ecs)) (hl : e.length ≤ 1024) (hb : b < w.heap.size) (h1 : w.cell? ⟨b, 0, none⟩ = some (.int .i64 txn)) :
    Calls Tryz.prog 89 #[.slice A e.length c, .func (.func 90) #[] #[.pointer (some ⟨b, 0, none⟩)]] w fun e1 w' => (∃ n : Int, e1 = .returned (.int .i64 n) ∧ EndAt e txn n) ∧ Below w.heap.size w w' := by
  have HC := Lib.hid (fun x1 x2 V (hv : Below w.heap.size w V) => state1_any x1 x2 txn b V (Nat.lt_of_lt_of_le hb hv.size) ((cell_kept hv _ hb).trans h1))
  have HR := Lib.hid (fun V (hv : Below w.heap.size w V) => hr.below hv)
  have hlen : (e.length : Int) ≤ 1024 := by omega
  clear hr hl hb h1
  go_enter Tryz.func89, Tryz.ntmps89
  go_wp2_with fail
  go_loopw [8] (fun iv wr => ∃ j : Nat, j ≤ e.length ∧ iv = .int .i64 (j : Int) ∧ Hid (∀ i (h : i < e.length), i < j → e[i].1 ≠ txn) ∧ Hid (Below w.heap.size w wr)) (fun iv _ => e.length - (RowKit.intOf iv).toNat)
  case atStart => exact ⟨0, Nat.zero_le _, rfl, Lib.hid (fun i _ h => absurd h (by omega)), Lib.hid (Below.refl _ _)⟩
  case round =>
    obtain ⟨j, hj, rfl, hall, hb⟩ := hrel
    by_cases hlt : j < e.length
    · have pj : (j : Int) < (e.length : Int) := by omega
      obtain ⟨ad, rfl, _, _, h3⟩ := (HR.out _ hb.out).at ecs_len (by omega) hlt
      have x0 := h3 0 _ rfl
      have x1 := h3 1 _ rfl
      rw [← Ch.add_field _ _ _ (by omega)] at x1
      rw [Nat.add_zero] at x0
      have HCj := Lib.hid (fun V hv => HC.out e[j].1 e[j].2 V hv)
      by_cases he : e[j].1 = txn
      · have HE := Lib.hid (show EndAt e txn (j : Int) from .inr ⟨j, hlt, rfl, end_first hlt he hall.out⟩)
        have hq : (e[j].1 == txn) = true := by rw [he]; simp
        generalize e[j] = X at x0 x1 HCj hq
        obtain ⟨X1, X2⟩ := X
        simp only at x0 x1 HCj hq
        rw [hq] at HCj
        have HB := hb
        clear hall he h3 HC hb hq
        go_wp2_with fail
        refine (HCj.out _ HB.out).mono ?_
        rintro e2 w2 ⟨rfl, hb2⟩
        have HB2 := Lib.hid (HB.out.trans (hb2.mono HB.out.size))
        clear hb2 HB HCj
        go_wp2_with fail
        go_ret
        exact ⟨⟨_, rfl, HE.out⟩, HB2.out⟩
      · have HN := Lib.hid (show ∀ i (h : i < e.length), i < j + 1 → e[i].1 ≠ txn from fun i h hi => by
          by_cases e1 : i = j
          · subst e1; exact he
          · exact hall.out i h (by omega))
        have hq : (e[j].1 == txn) = false := by rw [beq_eq_false_iff_ne]; exact he
        generalize e[j] = X at x0 x1 HCj hq
        obtain ⟨X1, X2⟩ := X
        simp only at x0 x1 HCj hq
        rw [hq] at HCj
        have HB := hb
        clear hall he h3 HC hb hq
        go_wp2_with fail
        refine (HCj.out _ HB.out).mono ?_
        rintro e2 w2 ⟨rfl, hb2⟩
        have HB2 := Lib.hid (HB.out.trans (hb2.mono HB.out.size))
        clear hb2 HB HCj
        go_wp2_with fail
        go_roundw
        case rel => exact ⟨j + 1, by omega, by go_num, HN, HB2⟩
        case measure => simp [RowKit.intOf]; omega
    · obtain rfl : j = e.length := by omega
      have HE := Lib.hid (show EndAt e txn (-1) from .inl ⟨rfl, end_none.2 fun x hx => by
        obtain ⟨i, hi, rfl⟩ := List.getElem_of_mem hx
        exact hall.out i hi hi⟩)
      have HB := hb
      clear hall hb HC
      go_wp2_with fail
      go_ret
      exact ⟨⟨_, rfl, HE.out⟩, HB.out⟩
section
variable {W : World} {F : Nat → Prop} {g bc bp : Nat} {v : Value} {K : List KI} {P : List RI} {s : Shf}
theorem LAt.ends (h : LAt W F g bc bp v K P s) : ∃ (A : Option Addr) (c : Nat), v = .slice A s.e.length c ∧ RowF W (fun _ => False) A (s.e.flatMap ecs) ∧ s.e.length ≤ c ∧ c ≤ maxLen ∧ (A = none → s.e.length = 0 ∧ c = 0) :=
  own_rowF (F := fun _ => False) h.re (flatN_len ecs_len _) (fun _ hf => hf.elim)
set_option maxRecDepth 20000 in
set_option maxHeartbeats 8000000 in
theorem lstate_any (h : LAt W F g bc bp v K P s) (hs : ShOk s) (txn : Int) (ht1 : -9223372036854775808 ≤ txn) (ht2 : txn ≤ 9223372036854775807) :
    Calls Tryz.prog 34 #[.pointer (some ⟨g, 0, none⟩), .int .i64 txn] W fun e w' => e = .returned (.tuple #[.int .i64 (stateP s txn).1, .int .i64 (stateP s txn).2]) ∧ Below W.heap.size W w' := by
  obtain ⟨W0, hW0⟩ : ∃ W0, W.alloc (.cells #[.int .i64 txn] 3) = W0 := ⟨_, rfl⟩
  have hb0 : Below W.heap.size W W0 := by rw [← hW0]; exact (Below.refl _ W).alloc (Nat.le_refl _) _
  have hc0 : Cel W0 W.heap.size 3 [.int .i64 txn] := by rw [← hW0]; exact (blk1 W _).2
  have h0 := h.below hb0
  obtain ⟨A, c, rfl, hrow, hnc, hcm, hnil⟩ := h0.ends
  have hlok : ∃ (x : RI) (bb : Bool), (bb = true → stateP s txn = (1, 0)) ∧ (bb = false → prepOf s.p txn = none) ∧ ∀ V, Below W0.heap.size W0 V → (Instr.lookup 86 (.map (some bp)) (.int .i64 txn) true).run Tryz.prog V = .ok (.tuple #[.agg (rcs x).toArray, .bool bb]) V := by
    cases hp : prepOf s.p txn with
    | none =>
      refine ⟨⟨noRec, none, none, 0, 0⟩, false, (fun h => by cases h), fun _ => rfl, fun V hV => ?_⟩
      exact (h0.below hV).mp.look2_no Tryz.underlying86 (Tryz.zeroRec V) (x := txn) (intQ_ok ht1 ht2) ((h0.below hV).prep_out hp)
    | some r =>
      obtain ⟨x, hx, rfl, hm⟩ := h0.prep_in hp
      refine ⟨x, true, (fun _ => by unfold stateP; rw [hp]), (fun h => by cases h), fun V hV => ?_⟩
      exact (h0.below hV).mp.look2 Tryz.underlying86 (Tryz.zeroRec V) (x := txn) hm
  obtain ⟨⟨r, A', B', c', d'⟩, bb, hst, hno, hlk⟩ := hlok
  have HLk : Hid (∀ V, Below W0.heap.size W0 V → (Instr.lookup 86 (.map (some bp)) (.int .i64 txn) true).run Tryz.prog V = .ok (.tuple #[.agg #[.int .i64 r.kind, .int .i64 r.txn, .int .i64 r.ts, .int .i64 r.coord, .string r.key, .string r.text, .bool r.dead, .slice A' r.keys.length c', .slice B' r.ws.length d'], .bool bb]) V) := Lib.hid hlk
  have HH := Lib.hid (fun V (hv : Below W0.heap.size W0 V) => h0.below hv)
  have HC := Lib.hid (fun V (hv : Below W0.heap.size W0 V) => hc0.below hv)
  have HRow := Lib.hid (fun V (hv : Below W0.heap.size W0 V) => hrow.below hv)
  have HB0 := Lib.hid hb0
  have HSt := Lib.hid hst
  have HNo := Lib.hid hno
  have hel := hs.el
  have HIx := Lib.hid (fun V (hv : Below W0.heap.size W0 V) => indexEnd_any A c s.e txn W.heap.size V (hrow.below hv) hel (Nat.lt_of_lt_of_le hc0.lt hv.size) ((hc0.below hv).cell (i := 0) rfl))
  have HEo := Lib.hid (show ∀ x ∈ s.e, 0 ≤ x.2 from fun x hx => by have := (hs.eo x hx).2; unfold stampOk at this; omega)
  have pel : (s.e.length : Int) ≤ 1024 := by omega
  clear h hs ht1 ht2 hb0 hc0 h0 hrow hlk hst hno hnc hcm hnil hel
  go_enter Tryz.func34, Tryz.ntmps34
  go_upto_region 1 with fail
  clear hW0
  have bz : Below W0.heap.size W0 (W0.alloc (.cells #[.int .i64 0, .int .i64 0, .int .i64 0, .int .i64 0, .string ⟨#[]⟩, .string ⟨#[]⟩, .bool false, .slice none 0 0, .slice none 0 0] 37)) := (Below.refl _ W0).alloc (Nat.le_refl _) _
  go_cut [7] from 6 to 17 (fun s7 wx => s7 = .bool bb ∧ Below W0.heap.size W0 wx)
  case first =>
    have s1 := (HH.out _ (Below.refl _ _)).cel.cell (i := 1) rfl
    have x0 := (HC.out _ (Below.refl _ _)).cell (i := 0) rfl
    have l0 := HLk.out _ (Below.refl W0.heap.size W0).drew
    have t1 := (HH.out _ bz).cel.cell (i := 1) rfl
    have y0 := (HC.out _ bz).cell (i := 0) rfl
    have l1 := HLk.out _ bz.drew
    have hbf := (Below.refl W0.heap.size W0).alloc (Nat.le_refl _) (.cells #[.int .i64 r.kind, .int .i64 r.txn, .int .i64 r.ts, .int .i64 r.coord, .string r.key, .string r.text, .bool r.dead, .slice A' r.keys.length c', .slice B' r.ws.length d'] 37)
    have HBf := Lib.hid hbf.drew
    clear bz hbf
    go_region
    all_goals
      go_wp2_with fail
      go_meet
      case rel => exact ⟨rfl, HBf.out⟩
  case rest =>
    obtain ⟨rfl, hbw⟩ := hcut
    have HB1 := Lib.hid hbw
    clear hbw bz
    cases bb with
    | true =>
      have E := Lib.hid (HSt.out rfl)
      clear HSt HNo HLk
      go_wp2_with fail
      go_ret2
      exact ⟨by rw [E.out]; rfl, HB0.out.trans (HB1.out.mono HB0.out.size)⟩
    | false =>
      have hpn := HNo.out rfl
      have s2 := (HH.out _ HB1.out).cel.cell (i := 2) rfl
      have HE0 := Lib.hid (show stateP s txn = match endOf s.e txn with | none => (0, 0) | some x => if 0 < x.2 then (2, x.2) else (3, 0) by unfold stateP; rw [hpn]; rfl)
      clear HSt HNo hpn HLk
      go_wp2_with fail
      refine (HIx.out _ HB1.out).mono ?_
      rintro e1 w1 ⟨⟨n, rfl, hn⟩, hb⟩
      have HB2 := Lib.hid (HB1.out.trans (hb.mono HB1.out.size))
      clear hb s2 HIx
      rcases hn with ⟨rfl, he⟩ | ⟨j, hj, rfl, he⟩
      · have E := HE0
        rw [he] at E
        clear he
        go_wp2_with fail
        go_ret2
        exact ⟨by rw [E.out]; rfl, HB0.out.trans (HB2.out.mono HB0.out.size)⟩
      · have E := HE0
        rw [he] at E
        have hpos := HEo.out _ (List.getElem_mem hj)
        have s2 := (HH.out _ HB2.out).cel.cell (i := 2) rfl
        obtain ⟨ad, rfl, _, _, h3⟩ := (HRow.out _ HB2.out).at ecs_len (by omega) hj
        have x1 := h3 1 _ rfl
        rw [← Ch.add_field _ _ _ (by omega)] at x1
        have pj : (j : Int) < (s.e.length : Int) := by omega
        have p0 : ¬ (j : Int) < 0 := by omega
        generalize s.e[j] = X at x1 E hpos
        obtain ⟨X1, X2⟩ := X
        simp only at x1 E hpos
        clear he h3
        by_cases h0 : X2 = 0
        · subst h0
          clear hpos
          go_wp2_with fail
          go_ret2
          exact ⟨by rw [E.out]; rfl, HB0.out.trans (HB2.out.mono HB0.out.size)⟩
        · have hb0 : (X2 == 0) = false := by rw [beq_eq_false_iff_ne]; exact h0
          have E2 := Lib.hid (show stateP s txn = (2, X2) by rw [E.out]; exact if_pos (by omega))
          clear E hpos
          go_upto_region 9 with fail
          go_quiet (fail)
          rename_i nq
          go_wp2_with fail
          go_ret2
          exact ⟨by rw [E2.out]; rfl, HB0.out.trans ((below_drewN HB2.out nq).mono HB0.out.size)⟩
end
end Sh
end Go.Proofs.YtbkanoblcojdfaaGreat

namespace Go.Proofs.YtbkanoblcojdfaaGreat
namespace Sh
open Go.RowKit Bk Ch Lt Rc Tr
attribute [local go_sem ↓] Go.wp_at_zero Go.wp_at_succ
attribute [local go_sem] floatUpon pick
abbrev zero9 : List Value := [.int .i64 0, .int .i64 0, .int .i64 0, .int .i64 0, .string ⟨#[]⟩, .string ⟨#[]⟩, .bool false, .slice none 0 0, .slice none 0 0]
structure E9 (w W : World) (cs : List Value) : Prop where
  cel : Cel W w.heap.size 37 cs
  res : Cel W (w.heap.size + 1) 37 zero9
  bel : Below w.heap.size w W
theorem E9.step {w W W' : World} {cs : List Value} (h : E9 w W cs) (hb : Below W.heap.size W W') : E9 w W' cs := ⟨h.cel.below hb, h.res.below hb, h.bel.trans (hb.mono h.bel.size)⟩
theorem E9.drew {w W : World} {cs : List Value} (h : E9 w W cs) : E9 w W.drew cs := ⟨h.cel, h.res, h.bel.drew⟩
theorem E9.put {w W : World} {cs : List Value} (h : E9 w W cs) (i : Nat) (v : Value) : E9 w (W.setCell ⟨w.heap.size, i, none⟩ v) (cs.set i v) :=
  ⟨h.cel.set, h.res.far (by omega), h.bel.setCell (Nat.le_refl _) _⟩
theorem E9.same {w W : World} {cs : List Value} (h : E9 w W cs) (i : Nat) (v : Value) (hv : cs[i]? = some v) : E9 w (W.setCell ⟨w.heap.size, i, none⟩ v) cs :=
  ⟨Ch.Cel.put_same h.cel hv, h.res.far (by omega), h.bel.setCell (Nat.le_refl _) _⟩
abbrev c9 (r : Rec) (v7 v8 : Value) : List Value := [.int .i64 r.kind, .int .i64 r.txn, .int .i64 r.ts, .int .i64 r.coord, .string r.key, .string r.text, .bool r.dead, v7, v8]
structure CpEnv (w W : World) (r : Rec) (v7 v8 : Value) (ks : List ByteArray) (ws : List Wr) : Prop where
  e : E9 w W (c9 r v7 v8)
  r0 : W.ownsRow w.heap.size 9 1 v7 ks.length (strV ks)
  r1 : W.ownsRow w.heap.size 45 3 v8 ws.length (wrV ws)
theorem CpEnv.step {w W W' : World} {r : Rec} {v7 v8 : Value} {ks : List ByteArray} {ws : List Wr} (h : CpEnv w W r v7 v8 ks ws) (hb : Below W.heap.size W W') : CpEnv w W' r v7 v8 ks ws := ⟨h.e.step hb, st_keep h.r0 hb, st_keep h.r1 hb⟩
theorem own_cel_ne {W : World} {e t : TypeId} {H sz n g : Nat} {v : Value} {xs cs : List Value} (h : W.ownsRow H e sz v n xs) (hc : Cel W g t cs) (hne : e ≠ t) : v.ownBlock ≠ some g := by
  rcases h.2 with ⟨rfl, _⟩ | ⟨i, cap, cur, rfl, _, hg, _⟩
  · intro e1; cases e1
  · intro e1
    obtain rfl : i = g := by simpa [Value.ownBlock] using e1
    rw [hc] at hg
    simp only [Option.some.injEq, Obj.cells.injEq] at hg
    exact hne hg.2.1.symm
theorem E9.grown {w W W1 : World} {cs : List Value} {row : Option Nat} (h : E9 w W cs) (hg : W.grownBy W1 row) (h0 : row ≠ some w.heap.size) (h1 : row ≠ some (w.heap.size + 1)) (hr : ∀ k, row = some k → w.heap.size ≤ k) : E9 w W1 cs :=
  ⟨(hg.block _ h.cel.lt (fun e => h0 e.symm)).trans h.cel, (hg.block _ h.res.lt (fun e => h1 e.symm)).trans h.res, h.bel.grown hg h.bel.size hr⟩
theorem CpEnv.grow1 {w W W1 : World} {r : Rec} {v7 v8 v' : Value} {ks ks' : List ByteArray} {ws : List Wr} {n' : Nat} (h : CpEnv w W r v7 v8 ks ws) (ho : W1.ownsRow w.heap.size 9 1 v' n' (strV ks')) (hl : n' = ks'.length) (hg : W.grownBy W1 v7.ownBlock) :
    E9 w W1 (c9 r v7 v8) ∧ CpEnv w (W1.setCell ⟨w.heap.size, 7, none⟩ v') r v' v8 ks' ws := by
  subst hl
  have e1 := h.e.grown hg (own_cel_ne h.r0 h.e.cel (by decide)) (own_cel_ne h.r0 h.e.res (by decide)) (fun k hk => (h.r0.lt k hk).1)
  have h2 := rgrow2 h.r1 h.r0 (by decide) hg
  exact ⟨e1, e1.put 7 v', ownsRow_setCell_other ho (own_cel_ne ho e1.cel (by decide)) _, ownsRow_setCell_other h2 (own_cel_ne h2 e1.cel (by decide)) _⟩
theorem CpEnv.grow2 {w W W1 : World} {r : Rec} {v7 v8 v' : Value} {ks : List ByteArray} {ws ws' : List Wr} {n' : Nat} (h : CpEnv w W r v7 v8 ks ws) (ho : W1.ownsRow w.heap.size 45 3 v' n' (wrV ws')) (hl : n' = ws'.length) (hg : W.grownBy W1 v8.ownBlock) :
    E9 w W1 (c9 r v7 v8) ∧ CpEnv w (W1.setCell ⟨w.heap.size, 8, none⟩ v') r v7 v' ks ws' := by
  subst hl
  have e1 := h.e.grown hg (own_cel_ne h.r1 h.e.cel (by decide)) (own_cel_ne h.r1 h.e.res (by decide)) (fun k hk => (h.r1.lt k hk).1)
  have h2 := rgrow2 h.r0 h.r1 (by decide) hg
  exact ⟨e1, e1.put 8 v', ownsRow_setCell_other h2 (own_cel_ne h2 e1.cel (by decide)) _, ownsRow_setCell_other ho (own_cel_ne ho e1.cel (by decide)) _⟩
def FrK (w : World) (y : RI) : Prop := 0 < y.l.keys.length → ∃ gg xs, y.A = some ⟨gg, 0, none⟩ ∧ Cel w gg 9 xs ∧ y.l.keys.length ≤ xs.length
theorem FrK.keep {w w' : World} {y : RI} (h : FrK w y) (hk : ∀ ad, y.A = some ad → ad.block < w.heap.size → w'.heap[ad.block]? = w.heap[ad.block]?) : FrK w' y := fun hp => by
  obtain ⟨gg, xs, e, hc, hl⟩ := h hp
  exact ⟨gg, xs, e, (hk _ e hc.lt).trans hc, hl⟩
theorem FrK.below {w w' : World} {y : RI} (h : FrK w y) (hb : Below w.heap.size w w') : FrK w' y := h.keep fun _ _ hl => hb.block _ hl
theorem FrK.row {W : World} {H : Nat} {y : RI} (h : W.ownsRow H 9 1 (.slice y.A y.l.keys.length y.c) y.l.keys.length (strV y.l.keys)) : FrK W y := fun hn => by
  rcases h.2 with ⟨_, h0⟩ | ⟨g, cap, cur, hv, _, hg, hnc, _, hz, _⟩
  · omega
  · simp only [Value.slice.injEq, true_and] at hv
    obtain ⟨e1, e2⟩ := hv
    exact ⟨g, cur.toList, e1, by unfold Cel; rw [hg], by rw [Array.length_toList]; omega⟩
set_option maxRecDepth 20000 in
set_option maxHeartbeats 8000000 in
theorem copied_any (x : RI) (w : World) (hv : RecVal w x.A x.B x.c x.d x.l) (hk : x.l.keys.length ≤ 1024) (hw : x.l.ws.length ≤ 1024) :
    Calls Tryz.prog 37 #[.agg (rcs x).toArray] w fun e w' => ∃ y : RI, e = .returned (.agg (rcs y).toArray) ∧ y.l = x.l ∧ RecVal w' y.A y.B y.c y.d y.l ∧ FrK w' y ∧ (0 < x.l.keys.length → ∀ ad, y.A = some ad → w.heap.size ≤ ad.block) ∧ (0 < x.l.ws.length → ∀ ad, y.B = some ad → w.heap.size ≤ ad.block) ∧ Below w.heap.size w w' := by
  obtain ⟨r, A, B, c, d⟩ := x
  simp only at hv hk hw
  have HCl := Lib.hid (fun s W hs => clone_any s W hs)
  have HK := Lib.hid hv.rng.key
  have HT := Lib.hid hv.rng.text
  have HKs := Lib.hid (fun W (hb : Below w.heap.size w W) => hv.ks.below hb)
  have HWs := Lib.hid (fun W (hb : Below w.heap.size w W) i (hi : i < r.ws.length) => wrs_at (hv.ws.below hb) hi)
  have HSz := Lib.hid (show ∀ s ∈ r.keys, s.size ≤ 281474976710656 from fun s hs => by have := hv.rng.kr s hs; unfold reachBytes at this; omega)
  have HSw := Lib.hid (show ∀ x ∈ r.ws, x.key.size ≤ 281474976710656 ∧ x.shard.size ≤ 281474976710656 from fun x hx => by have := hv.rng.wr x hx; unfold reachBytes at this; omega)
  have HRg := Lib.hid hv.rng.toRecRng
  obtain ⟨i0, hi, hz0, hz1, hz2⟩ := info_parts Tryz.infoStr
  obtain ⟨i1, hi', hz0', hz1', hz2'⟩ := info_parts Tryz.infoWrite
  have pk : (r.keys.length : Int) ≤ 1024 := by omega
  have pw : (r.ws.length : Int) ≤ 1024 := by omega
  obtain ⟨W2, hW2⟩ : ∃ W2, (w.alloc (.cells #[.int .i64 r.kind, .int .i64 r.txn, .int .i64 r.ts, .int .i64 r.coord, .string r.key, .string r.text, .bool r.dead, .slice A r.keys.length c, .slice B r.ws.length d] 37)).alloc (.cells zero9.toArray 37) = W2 := ⟨_, rfl⟩
  obtain ⟨sz2, b1, b2⟩ := blk2 w (.cells #[.int .i64 r.kind, .int .i64 r.txn, .int .i64 r.ts, .int .i64 r.coord, .string r.key, .string r.text, .bool r.dead, .slice A r.keys.length c, .slice B r.ws.length d] 37) (.cells zero9.toArray 37)
  have hE : E9 w W2 (c9 r (.slice A r.keys.length c) (.slice B r.ws.length d)) := by
    rw [← hW2]
    exact ⟨b1, b2, ((Below.refl _ w).alloc (Nat.le_refl _) _).alloc (by simp) _⟩
  show Calls _ _ #[.agg #[.int .i64 r.kind, .int .i64 r.txn, .int .i64 r.ts, .int .i64 r.coord, .string r.key, .string r.text, .bool r.dead, .slice A r.keys.length c, .slice B r.ws.length d]] _ _
  clear sz2 b1 b2
  go_enter Tryz.func37, Tryz.ntmps37
  have rb : reachBytes = 140737488351232 := rfl
  have hks : r.key.size ≤ 281474976710656 := by have := HK.out; omega
  have hts : r.text.size ≤ 281474976710656 := by have := HT.out; omega
  go_upto_region 1 with fail
  clear hW2
  go_cut [11] from 9 to 16 (fun _ wx => E9 w wx (c9 r (.slice A r.keys.length c) (.slice B r.ws.length d)))
  case first =>
    have q4 := hE.cel.cell (i := 4) rfl
    have q5 := hE.cel.cell (i := 5) rfl
    have f4 := hE.cel.free (i := 4)
    have f5 := hE.cel.free (i := 5)
    go_region_with ((go_at_call 36; refine (HCl.out _ _ (by first | exact hks | exact hts)).mono ?_; rintro e w5 ⟨rfl, hb5⟩; have M5 : E9 w w5 (c9 r (.slice A r.keys.length c) (.slice B r.ws.length d)) := E9.step (by repeat (first | assumption | refine E9.drew ?_ | refine E9.same ?_ 4 _ rfl | refine E9.same ?_ 5 _ rfl)) hb5; have q4 := M5.cel.cell (i := 4) rfl; have q5 := M5.cel.cell (i := 5) rfl; have f4 := M5.cel.free (i := 4); have f5 := M5.cel.free (i := 5); clear hb5))
    all_goals
      go_wp2_with fail
      go_meet
      case rel => exact (by repeat (first | assumption | refine E9.drew ?_ | refine E9.same ?_ 4 _ rfl | refine E9.same ?_ 5 _ rfl))
  case rest =>
    have q7 := hcut.cel.cell (i := 7) rfl
    have q8 := hcut.cel.cell (i := 8) rfl
    have HE2 := Lib.hid hcut
    clear hcut hE hks hts
    go_upto_region 2 with fail
    go_quiet (fail)
    rename_i nq
    clear q7 q8
    have hE3 : E9 w (wc.drewN nq) (c9 r (.slice A r.keys.length c) (.slice B r.ws.length d)) := ⟨HE2.out.cel, HE2.out.res, below_drewN HE2.out.bel nq⟩
    generalize wc.drewN nq = W3 at hE3 ⊢
    have f7 := hE3.cel.free (i := 7)
    have f8 := hE3.cel.free (i := 8)
    have q7 := hE3.cel.cell (i := 7) rfl
    have q8 := hE3.cel.cell (i := 8) rfl
    have hE4 := (hE3.put 7 (.slice none 0 0)).put 8 (.slice none 0 0)
    have HC0 : Hid (CpEnv w ((W3.setCell ⟨w.heap.size, 7, none⟩ (.slice none 0 0)).setCell ⟨w.heap.size, 8, none⟩ (.slice none 0 0)) r (.slice none 0 0) (.slice none 0 0) [] []) := Lib.hid ⟨hE4, World.ownsRow_nil _ _ _ _, World.ownsRow_nil _ _ _ _⟩
    clear hE4 hE3 HE2
    go_upto_region 4 with fail
    generalize (W3.setCell ⟨w.heap.size, 7, none⟩ (.slice none 0 0)).setCell ⟨w.heap.size, 8, none⟩ (.slice none 0 0) = W4 at HC0 ⊢
    clear f7 f8 q7 q8
    go_wp2_with fail
    go_loopw [25] (fun iv wr => ∃ (j : Nat) (v7 : Value), j ≤ r.keys.length ∧ iv = .int .i64 (j : Int) ∧ Hid (CpEnv w wr r v7 (.slice none 0 0) (r.keys.take j) [])) (fun iv _ => r.keys.length - (RowKit.intOf iv).toNat)
    case atStart => exact ⟨0, _, Nat.zero_le _, rfl, HC0⟩
    case round =>
      obtain ⟨j, v7, hj, rfl, hcp⟩ := hrel
      clear HC0
      by_cases hlt : j < r.keys.length
      · have pj : (j : Int) < (r.keys.length : Int) := by omega
        obtain ⟨ad, rfl, _, hcl⟩ := HKs.out _ hcp.out.e.bel (by omega)
        have x0 := hcl j hlt
        have hsz := HSz.out _ (List.getElem_mem hlt)
        have HTk := Lib.hid (List.take_succ_eq_append_getElem hlt)
        generalize r.keys[j] = k at x0 hsz HTk
        have HClk := Lib.hid (fun W => HCl.out k W hsz)
        clear hcl hsz
        go_upto_region 7 with fail
        clear x0
        refine wp_region_said 5 [29, 30, 31, 32, 33]
          [.is (.pointer (some ⟨w.heap.size, 7, none⟩)), .is v7, .is (.string k), .is (.string k), .arr 9 #[.string k] 1 1]
          (fun W => CpEnv w W r v7 (.slice none 0 0) (r.keys.take j) []) (by kernel_rfl) (by kernel_rfl) (by kernel_rfl) (by kernel_rfl) (by kernel_rfl) (fun W W' h hb => h.step hb) hcp.out ?steps ?last
        case steps =>
          simp only [List.take_succ_cons, List.take_zero]
          refine ⟨?_, ?_, ?_, ?_, ?_, trivial⟩
          all_goals
            intro vs W ρ hρ hc hf hg hI hH hd R' hR
            have q7 := hI.e.cel.cell (i := 7) rfl
            have HR := Lib.hid hR
            simp [depsOf, Region.binds, sayAt, Say.holds] at hd
            clear hR hI
            go_simp
            first
              | exact HR.out _ _ (by simp [sayAt, Say.holds]) (Below.refl _ _) (by simp [sayAt, Say.isBlk])
              | exact HR.out _ _ ⟨_, hH, by simp, rfl, heap_alloc_new _ _⟩ ((Below.refl _ _).alloc (Nat.le_refl _) _) (fun h => by cases h)
              | (refine (HClk.out _).mono ?_; rintro e w' ⟨rfl, hb⟩; exact ⟨_, rfl, HR.out _ _ (by simp [sayAt, Say.holds]) hb (by simp [sayAt, Say.isBlk])⟩)
        case last =>
          intro vs W hI hb hg hd
          have g1 := hg 1 (by omega)
          obtain ⟨o, ho1, ho2, g4, ho⟩ := hg 4 (by omega)
          simp only [sayAt, Say.holds, List.getD_cons_succ, List.getD_cons_zero] at g1
          simp only [List.take_succ_cons, List.take_zero, List.drop_succ_cons, List.drop_zero, putAll, Act.put, List.setIfInBounds_toArray, List.set_cons_succ, List.set_cons_zero, Nat.zero_add, Nat.reduceAdd]
          rw [g1, g4]
          have HI := Lib.hid hI
          have hlen : (r.keys.take j).length = j := by rw [List.length_take]; omega
          clear g1 g4 hg hd hI hcp
          refine wpList_append_own_at _ rfl _ _ 23 rfl w.heap.size 9 i0 (.string ⟨#[]⟩) 1 16 Tryz.underlying23 hi hz0 hz1 hz2 rfl (by decide) _ _ _ rfl HI.out.r0 ⟨o, 0, none⟩ 1 1 [.string k] rfl rfl ?d1 ?d2 ?d3 ?d4 HI.out.e.bel.size ?_
          case d1 => exact str_one ho
          case d2 => intro u hu; simp at hu; subst hu; rfl
          case d3 => rw [hlen]; unfold maxLen; omega
          case d4 => rw [hlen]; omega
          intro v' w5 hown' hgrow _ hat
          obtain ⟨he5, hcp5⟩ := CpEnv.grow1 (ks' := r.keys.take (j + 1)) HI.out (by rw [HTk.out, Pk.strV_snoc2]; exact hown') (by rw [HTk.out, List.length_append]; rfl) hgrow
          have f7 := he5.cel.free (i := 7)
          have q7 := he5.cel.cell (i := 7) rfl
          obtain ⟨gn, capn, rfl, _, _⟩ := World.ownsRow.form hown' (by omega)
          rw [hlen] at hcp5
          have HC5 := Lib.hid hcp5
          clear hown' hgrow hat HI ho ho1 ho2 hb he5 hcp5 hlen
          go_wp2_with fail
          go_roundw
          case rel => exact ⟨j + 1, _, by omega, by go_num, HC5⟩
          case measure => simp [RowKit.intOf]; omega
      · obtain rfl : j = r.keys.length := by omega
        have hc7 := hcp.out
        rw [List.take_length] at hc7
        have HC7 := Lib.hid hc7
        clear hcp hc7
        go_wp2_with fail
        go_loopw [39] (fun iv wr => ∃ (j : Nat) (v8 : Value), j ≤ r.ws.length ∧ iv = .int .i64 (j : Int) ∧ Hid (CpEnv w wr r v7 v8 r.keys (r.ws.take j))) (fun iv _ => r.ws.length - (RowKit.intOf iv).toNat)
        case atStart => exact ⟨0, _, Nat.zero_le _, rfl, HC7⟩
        case round =>
          obtain ⟨j, v8, hj, rfl, hcp⟩ := hrel
          clear HC7
          by_cases hlt : j < r.ws.length
          · have pj : (j : Int) < (r.ws.length : Int) := by omega
            obtain ⟨ad, rfl, x0, x1, x2⟩ := HWs.out _ hcp.out.e.bel j hlt
            obtain ⟨hsk, hst⟩ := HSw.out _ (List.getElem_mem hlt)
            have HTk := Lib.hid (List.take_succ_eq_append_getElem hlt)
            generalize r.ws[j] = X at x0 x1 x2 hsk hst HTk
            obtain ⟨k, t, dd⟩ := X
            simp only at x0 x1 x2 hsk hst
            have HClk := Lib.hid (fun W => HCl.out k W hsk)
            have HClt := Lib.hid (fun W => HCl.out t W hst)
            have hb5 : Below wr.heap.size wr (wr.alloc (.cells #[.string k, .string t, .bool dd] 45)) := (Below.refl _ wr).alloc (Nat.le_refl _) _
            have hV5 : Cel (wr.alloc (.cells #[.string k, .string t, .bool dd] 45)) wr.heap.size 45 [.string k, .string t, .bool dd] := (blk1 wr _).2
            have HC5 := Lib.hid (hcp.out.step hb5)
            have HV5 := Lib.hid hV5
            clear hsk hst hcp hb5 hV5
            go_upto_region 12 with fail
            generalize wr.alloc (.cells #[.string k, .string t, .bool dd] 45) = W5 at HC5 HV5 ⊢
            generalize wr.heap.size = vb at HV5 ⊢
            clear x0 x1 x2
            refine wp_region_said 12 [43, 44, 45, 46, 47, 48, 49, 50, 51, 52, 53, 54]
              [.is (.pointer (some ⟨w.heap.size, 8, none⟩)), .is v8, .is (.pointer (some ⟨vb, 0, none⟩)), .is (.string k), .is (.string k), .is (.pointer (some ⟨vb, 1, none⟩)), .is (.string t), .is (.string t), .is (.pointer (some ⟨vb, 2, none⟩)), .is (.bool dd), .is (.agg #[.string k, .string t, .bool dd]), .arr 45 #[.string k, .string t, .bool dd] 1 1]
              (fun W => CpEnv w W r v7 v8 r.keys (r.ws.take j) ∧ Cel W vb 45 [.string k, .string t, .bool dd]) (by kernel_rfl) (by kernel_rfl) (by kernel_rfl) (by kernel_rfl) (by kernel_rfl) (fun W W' h hb => ⟨h.1.step hb, h.2.below hb⟩) ⟨HC5.out, HV5.out⟩ ?stepsw ?lastw
            case stepsw =>
              simp only [List.take_succ_cons, List.take_zero]
              refine ⟨?_, ?_, ?_, ?_, ?_, ?_, ?_, ?_, ?_, ?_, ?_, ?_, trivial⟩
              all_goals
                intro vs W ρ hρ hc hf hg hI hH hd R' hR
                have q8 := hI.1.e.cel.cell (i := 8) rfl
                have y0 := hI.2.cell (i := 0) rfl
                have y1 := hI.2.cell (i := 1) rfl
                have y2 := hI.2.cell (i := 2) rfl
                have HR := Lib.hid hR
                simp [depsOf, Region.binds, sayAt, Say.holds] at hd
                clear hR hI
                go_simp
                first
                  | exact HR.out _ _ (by simp [sayAt, Say.holds]) (Below.refl _ _) (by simp [sayAt, Say.isBlk])
                  | exact HR.out _ _ ⟨_, hH, by simp, rfl, heap_alloc_new _ _⟩ ((Below.refl _ _).alloc (Nat.le_refl _) _) (fun h => by cases h)
                  | (refine (HClk.out _).mono ?_; rintro e w' ⟨rfl, hb⟩; exact ⟨_, rfl, HR.out _ _ (by simp [sayAt, Say.holds]) hb (by simp [sayAt, Say.isBlk])⟩)
                  | (refine (HClt.out _).mono ?_; rintro e w' ⟨rfl, hb⟩; exact ⟨_, rfl, HR.out _ _ (by simp [sayAt, Say.holds]) hb (by simp [sayAt, Say.isBlk])⟩)
            case lastw =>
              intro vs W hI hb hg hd
              have g1 := hg 1 (by omega)
              obtain ⟨o, ho1, ho2, g4, ho⟩ := hg 11 (by omega)
              simp only [sayAt, Say.holds, List.getD_cons_succ, List.getD_cons_zero] at g1
              simp only [List.take_succ_cons, List.take_zero, List.drop_succ_cons, List.drop_zero, putAll, Act.put, List.setIfInBounds_toArray, List.set_cons_succ, List.set_cons_zero, Nat.zero_add, Nat.reduceAdd]
              rw [g1, g4]
              have HI := Lib.hid hI.1
              have hlen : (r.ws.take j).length = j := by rw [List.length_take]; omega
              clear g1 g4 hg hd hI HC5 HV5
              refine wpList_append_own_at _ rfl _ _ 35 rfl w.heap.size 45 i1 (.agg #[.string ⟨#[]⟩, .string ⟨#[]⟩, .bool false]) 3 40 Tryz.underlying35 hi' hz0' hz1' hz2' rfl (by decide) _ _ _ rfl HI.out.r1 ⟨o, 0, none⟩ 1 1 [.string k, .string t, .bool dd] rfl rfl ?d1w ?d2w ?d3w ?d4w HI.out.e.bel.size ?_
              case d1w => exact new_row ho
              case d2w => intro q hq; simp at hq; rcases hq with rfl | rfl | rfl <;> rfl
              case d3w => rw [hlen]; unfold maxLen; omega
              case d4w => rw [hlen]; omega
              intro v' w5 hown' hgrow _ hat
              obtain ⟨he5, hcp5⟩ := CpEnv.grow2 (ws' := r.ws.take (j + 1)) HI.out (by rw [HTk.out, wrV_snoc]; exact hown') (by rw [HTk.out, List.length_append]; rfl) hgrow
              have f8 := he5.cel.free (i := 8)
              have q8 := he5.cel.cell (i := 8) rfl
              obtain ⟨gn, capn, rfl, _, _⟩ := World.ownsRow.form hown' (by omega)
              rw [hlen] at hcp5
              have HC5 := Lib.hid hcp5
              clear hown' hgrow hat HI ho ho1 ho2 hb he5 hcp5 hlen
              go_wp2_with fail
              go_roundw
              case rel => exact ⟨j + 1, _, by omega, by go_num, HC5⟩
              case measure => simp [RowKit.intOf]; omega
          · obtain rfl : j = r.ws.length := by omega
            have hc8 := hcp.out
            rw [List.take_length] at hc8
            obtain ⟨A7, c7, rfl, _⟩ := own_rowF (F := fun _ => False) hc8.r0 (by rw [strV_len, Nat.mul_one]) (fun _ hf => hf.elim)
            obtain ⟨B7, d7, rfl, _⟩ := own_rowF (F := fun _ => False) hc8.r1 (wrV_len _) (fun _ hf => hf.elim)
            obtain ⟨k1, k2, k3, k4⟩ := own_strs hc8.r0
            obtain ⟨m1, m2, m3, m4⟩ := own_wrs hc8.r1
            have HA7 := Lib.hid (fun ad (e : A7 = some ad) => (hc8.r0.lt ad.block (by rw [e]; rfl)).1)
            have HB7 := Lib.hid (fun ad (e : B7 = some ad) => (hc8.r1.lt ad.block (by rw [e]; rfl)).1)
            have HN7 := Lib.hid (fun ad (e : A7 = some ad) => show ad.block ≠ w.heap.size + 1 from fun h => own_cel_ne hc8.r0 hc8.e.res (by decide) (by rw [e]; exact congrArg some h))
            have HN8 := Lib.hid (fun ad (e : B7 = some ad) => show ad.block ≠ w.heap.size + 1 from fun h => own_cel_ne hc8.r1 hc8.e.res (by decide) (by rw [e]; exact congrArg some h))
            have q0 := hc8.e.cel.cell (i := 0) rfl
            have q1 := hc8.e.cel.cell (i := 1) rfl
            have q2 := hc8.e.cel.cell (i := 2) rfl
            have q3 := hc8.e.cel.cell (i := 3) rfl
            have q4 := hc8.e.cel.cell (i := 4) rfl
            have q5 := hc8.e.cel.cell (i := 5) rfl
            have q6 := hc8.e.cel.cell (i := 6) rfl
            have q7 := hc8.e.cel.cell (i := 7) rfl
            have q8 := hc8.e.cel.cell (i := 8) rfl
            have zq := fun i => hc8.e.res.free (i := i)
            have t0 := hc8.e.res.cell (i := 0) rfl
            have t1 := hc8.e.res.cell (i := 1) rfl
            have t2 := hc8.e.res.cell (i := 2) rfl
            have t3 := hc8.e.res.cell (i := 3) rfl
            have t4 := hc8.e.res.cell (i := 4) rfl
            have t5 := hc8.e.res.cell (i := 5) rfl
            have t6 := hc8.e.res.cell (i := 6) rfl
            have t7 := hc8.e.res.cell (i := 7) rfl
            have t8 := hc8.e.res.cell (i := 8) rfl
            have HE8 := Lib.hid hc8.e
            have HFr := Lib.hid (show FrK wr ⟨r, A7, B7, c7, d7⟩ from FrK.row hc8.r0)
            have HV8 := Lib.hid (And.intro k1 (And.intro k2 (And.intro k3 (And.intro k4 (And.intro m1 (And.intro m2 (And.intro m3 m4)))))))
            clear hcp hc8 k1 k2 k3 k4 m1 m2 m3 m4
            go_wp2_with fail
            have HF := Lib.hid (set9_cel (v0 := .int .i64 r.kind) (v1 := .int .i64 r.txn) (v2 := .int .i64 r.ts) (v3 := .int .i64 r.coord) (v4 := .string r.key) (v5 := .string r.text) (v6 := .bool r.dead) (v7 := .slice A7 r.keys.length c7) (v8 := .slice B7 r.ws.length d7) HE8.out.res)
            have HBF := set9_below (R := w.heap.size + 1) (v0 := .int .i64 r.kind) (v1 := .int .i64 r.txn) (v2 := .int .i64 r.ts) (v3 := .int .i64 r.coord) (v4 := .string r.key) (v5 := .string r.text) (v6 := .bool r.dead) (v7 := .slice A7 r.keys.length c7) (v8 := .slice B7 r.ws.length d7) HE8.out.bel (Nat.le_succ _)
            have z0 := HF.out.cell (i := 0) rfl
            have z1 := HF.out.cell (i := 1) rfl
            have z2 := HF.out.cell (i := 2) rfl
            have z3 := HF.out.cell (i := 3) rfl
            have z4 := HF.out.cell (i := 4) rfl
            have z5 := HF.out.cell (i := 5) rfl
            have z6 := HF.out.cell (i := 6) rfl
            have z7 := HF.out.cell (i := 7) rfl
            have z8 := HF.out.cell (i := 8) rfl
            unfold set9 at z0 z1 z2 z3 z4 z5 z6 z7 z8
            obtain ⟨k1, k2, k3, k4, m1, m2, m3, m4⟩ := HV8.out
            have hk9 : ∀ k, k ≠ w.heap.size + 1 → (set9 wr (w.heap.size + 1) (.int .i64 r.kind) (.int .i64 r.txn) (.int .i64 r.ts) (.int .i64 r.coord) (.string r.key) (.string r.text) (.bool r.dead) (.slice A7 r.keys.length c7) (.slice B7 r.ws.length d7)).heap[k]? = wr.heap[k]? := fun k hk => by
              have e : ∀ (W : World) (i : Nat) (v : Value), (W.setCell ⟨w.heap.size + 1, i, none⟩ v).heap[k]? = W.heap[k]? := fun W i v => Below.heap_setCell W ⟨w.heap.size + 1, i, none⟩ v k hk
              unfold set9
              rw [e, e, e, e, e, e, e, e, e]
            have hs9 : wr.heap.size ≤ (set9 wr (w.heap.size + 1) (.int .i64 r.kind) (.int .i64 r.txn) (.int .i64 r.ts) (.int .i64 r.coord) (.string r.key) (.string r.text) (.bool r.dead) (.slice A7 r.keys.length c7) (.slice B7 r.ws.length d7)).heap.size := by rw [set9_size]; exact Nat.le_refl _
            refine bodyPost_ret (v := .agg (rcs ⟨r, A7, B7, c7, d7⟩).toArray) (by simp [results, Tryz.results37, go_sem, rcs, z0, z1, z2, z3, z4, z5, z6, z7, z8]) rfl ⟨⟨r, A7, B7, c7, d7⟩, rfl, rfl, ?_, ?_, fun _ ad e => HA7.out ad e, fun _ ad e => HB7.out ad e, HBF⟩
            rotate_left
            · exact HFr.out.keep fun ad e _ => hk9 _ (HN7.out ad e)
            exact ⟨strs_in (F := fun k => k ≠ w.heap.size + 1) k1 (fun _ ad e => HN7.out ad e) hs9 hk9, wrs_in (F := fun k => k ≠ w.heap.size + 1) m1 (fun _ ad e => HN8.out ad e) hs9 hk9, ⟨HRg.out, k2, m2, k3, m3⟩, k4, m4⟩
end Sh
end Go.Proofs.YtbkanoblcojdfaaGreat

namespace Go.Proofs.YtbkanoblcojdfaaGreat
namespace Sh
open Go.RowKit Bk Ch Lt Rc Tr
attribute [local go_sem ↓] Go.wp_at_zero Go.wp_at_succ
attribute [local go_sem] floatUpon pick
def RecN (W : World) (X : Nat) (r : Rec) (v : Value) : Prop := ∃ y : RI, v = .agg (rcs y).toArray ∧ y.l = r ∧ RecVal W y.A y.B y.c y.d y.l ∧ FrK W y ∧ (0 < r.keys.length → ∀ ad, y.A = some ad → X ≤ ad.block) ∧ (0 < r.ws.length → ∀ ad, y.B = some ad → X ≤ ad.block)
section
variable {W : World} {F : Nat → Prop} {g bc bp : Nat} {v : Value} {K : List KI} {P : List RI} {s : Shf}
theorem LAt.recd (h : LAt W F g bc bp v K P s) (hs : ShOk s) {txn : Int} (ht1 : -9223372036854775808 ≤ txn) (ht2 : txn ≤ 9223372036854775807) : ∃ x : RI, x.l = (prepR s txn).1 ∧ x.l.keys.length ≤ 1024 ∧ x.l.ws.length ≤ 1024 ∧ (∀ V, Below W.heap.size W V → RecVal V x.A x.B x.c x.d x.l) ∧
    ∀ V, Below W.heap.size W V → (Instr.lookup 86 (.map (some bp)) (.int .i64 txn) true).run Tryz.prog V = .ok (.tuple #[.agg (rcs x).toArray, .bool (prepR s txn).2]) V := by
  cases hp : prepOf s.p txn with
  | none =>
    have e : prepR s txn = (noRec, false) := by unfold prepR; rw [hp]
    refine ⟨⟨noRec, none, none, 0, 0⟩, by rw [e], Nat.zero_le _, Nat.zero_le _, fun V _ => (no_pval V (fun _ => False)).val, fun V hV => ?_⟩
    rw [e]
    exact (h.below hV).mp.look2_no Tryz.underlying86 (Tryz.zeroRec V) (x := txn) (intQ_ok ht1 ht2) ((h.below hV).prep_out hp)
  | some r =>
    have e : prepR s txn = (r, true) := by unfold prepR; rw [hp]
    obtain ⟨x, hx, rfl, hm⟩ := h.prep_in hp
    have hr := hs.po x.l (prep_mem hp).1
    have hu := ups_of hr.1 hr.2
    refine ⟨x, by rw [e], hu.kl, hu.wl, fun V hV => ((h.below hV).pv x hx).val, fun V hV => ?_⟩
    rw [e]
    exact (h.below hV).mp.look2 Tryz.underlying86 (Tryz.zeroRec V) (x := txn) hm
set_option maxRecDepth 20000 in
set_option maxHeartbeats 8000000 in
theorem lprep_any (h : LAt W F g bc bp v K P s) (hs : ShOk s) (txn : Int) (ht1 : -9223372036854775808 ≤ txn) (ht2 : txn ≤ 9223372036854775807) :
    Calls Tryz.prog 59 #[.pointer (some ⟨g, 0, none⟩), .int .i64 txn] W fun e w' => ∃ u, e = .returned (.tuple #[u, .bool (prepR s txn).2]) ∧ RecN w' W.heap.size (prepR s txn).1 u ∧ Below W.heap.size W w' := by
  obtain ⟨x, hxl, hkl, hwl, hval, hlk⟩ := h.recd hs ht1 ht2
  have HCp := Lib.hid (fun V (hb : Below W.heap.size W V) => copied_any x V (hval V hb) hkl hwl)
  have HH := Lib.hid (fun V (hb : Below W.heap.size W V) => h.below hb)
  obtain ⟨bb, hbb⟩ : ∃ b, (prepR s txn).2 = b := ⟨_, rfl⟩
  obtain ⟨rr, hrr⟩ : ∃ b, (prepR s txn).1 = b := ⟨_, rfl⟩
  rw [hbb] at hlk ⊢
  rw [hrr] at hxl ⊢
  obtain ⟨r, A, B, c, d⟩ := x
  simp only at hxl
  subst hxl
  have HLk : Hid (∀ V, Below W.heap.size W V → (Instr.lookup 86 (.map (some bp)) (.int .i64 txn) true).run Tryz.prog V = .ok (.tuple #[.agg #[.int .i64 r.kind, .int .i64 r.txn, .int .i64 r.ts, .int .i64 r.coord, .string r.key, .string r.text, .bool r.dead, .slice A r.keys.length c, .slice B r.ws.length d], .bool bb]) V) := Lib.hid hlk
  clear hlk hval hkl hwl hbb hrr h hs ht1 ht2
  go_enter Tryz.func59, Tryz.ntmps59
  go_upto_region 1 with fail
  have hR0 : Cel (W.alloc (.cells #[.int .i64 0, .int .i64 0, .int .i64 0, .int .i64 0, .string ⟨#[]⟩, .string ⟨#[]⟩, .bool false, .slice none 0 0, .slice none 0 0] 37)) W.heap.size 37 zero9 := (blk1 W _).2
  have hB0 : Below W.heap.size W (W.alloc (.cells #[.int .i64 0, .int .i64 0, .int .i64 0, .int .i64 0, .string ⟨#[]⟩, .string ⟨#[]⟩, .bool false, .slice none 0 0, .slice none 0 0] 37)) := (Below.refl _ W).alloc (Nat.le_refl _) _
  generalize hW0 : W.alloc (.cells #[.int .i64 0, .int .i64 0, .int .i64 0, .int .i64 0, .string ⟨#[]⟩, .string ⟨#[]⟩, .bool false, .slice none 0 0, .slice none 0 0] 37) = W0 at hR0 hB0 ⊢
  clear hW0
  have HB0 := Lib.hid hB0
  have HR0 := Lib.hid hR0
  have s1 := (HH.out _ hB0).cel.cell (i := 1) rfl
  have l0 := HLk.out _ hB0
  have zq := fun i => hR0.free (i := i)
  have t0 := hR0.cell (i := 0) rfl
  have t1 := hR0.cell (i := 1) rfl
  have t2 := hR0.cell (i := 2) rfl
  have t3 := hR0.cell (i := 3) rfl
  have t4 := hR0.cell (i := 4) rfl
  have t5 := hR0.cell (i := 5) rfl
  have t6 := hR0.cell (i := 6) rfl
  have t7 := hR0.cell (i := 7) rfl
  have t8 := hR0.cell (i := 8) rfl
  clear hR0 hB0
  go_upto_region 2 with fail
  clear zq t0 t1 t2 t3 t4 t5 t6 t7 t8 s1 l0
  obtain ⟨W2, hW2⟩ : ∃ W2, set9 W0 W.heap.size (.int .i64 r.kind) (.int .i64 r.txn) (.int .i64 r.ts) (.int .i64 r.coord) (.string r.key) (.string r.text) (.bool r.dead) (.slice A r.keys.length c) (.slice B r.ws.length d) = W2 := ⟨_, rfl⟩
  have hR2 := set9_cel (v0 := .int .i64 r.kind) (v1 := .int .i64 r.txn) (v2 := .int .i64 r.ts) (v3 := .int .i64 r.coord) (v4 := .string r.key) (v5 := .string r.text) (v6 := .bool r.dead) (v7 := .slice A r.keys.length c) (v8 := .slice B r.ws.length d) HR0.out
  have hB2 := set9_below (R := W.heap.size) (v0 := .int .i64 r.kind) (v1 := .int .i64 r.txn) (v2 := .int .i64 r.ts) (v3 := .int .i64 r.coord) (v4 := .string r.key) (v5 := .string r.text) (v6 := .bool r.dead) (v7 := .slice A r.keys.length c) (v8 := .slice B r.ws.length d) HB0.out (Nat.le_refl _)
  rw [hW2] at hR2 hB2
  have hW3 := hW2
  unfold set9 at hW3
  rw [hW3]
  clear hW2 hW3 HB0 HR0
  have HB2 := Lib.hid hB2
  have q0 := hR2.cell (i := 0) rfl
  have q1 := hR2.cell (i := 1) rfl
  have q2 := hR2.cell (i := 2) rfl
  have q3 := hR2.cell (i := 3) rfl
  have q4 := hR2.cell (i := 4) rfl
  have q5 := hR2.cell (i := 5) rfl
  have q6 := hR2.cell (i := 6) rfl
  have q7 := hR2.cell (i := 7) rfl
  have q8 := hR2.cell (i := 8) rfl
  have HR2 := Lib.hid hR2
  clear hR2 hB2
  go_wp2_with fail
  refine (HCp.out W2 HB2.out).mono ?_
  rintro e w3 ⟨⟨y, A', B', c', d'⟩, rfl, hyl, hval, hfr, hA, hB, hb⟩
  simp only at hyl hval hfr hA hB
  obtain rfl : r = y := hyl.symm
  have hR3 := HR2.out.below hb
  have HB3 := Lib.hid (HB2.out.trans (hb.mono HB2.out.size))
  have HV := Lib.hid hval
  have HFr := Lib.hid (show FrK w3 ⟨r, A', B', c', d'⟩ from hfr)
  have HA := Lib.hid (fun (h : 0 < r.keys.length) ad e => Nat.le_trans HB2.out.size (hA h ad e))
  have HBb := Lib.hid (fun (h : 0 < r.ws.length) ad e => Nat.le_trans HB2.out.size (hB h ad e))
  have HN7 := Lib.hid (fun (h : 0 < r.keys.length) ad (e : A' = some ad) => show ad.block ≠ W.heap.size from fun e2 => by have := hA h ad e; have := HR2.out.lt; omega)
  have HN8 := Lib.hid (fun (h : 0 < r.ws.length) ad (e : B' = some ad) => show ad.block ≠ W.heap.size from fun e2 => by have := hB h ad e; have := HR2.out.lt; omega)
  clear q0 q1 q2 q3 q4 q5 q6 q7 q8 hval hfr hA hB hb HCp HR2 hyl
  have zq := fun i => hR3.free (i := i)
  have q0 := hR3.cell (i := 0) rfl
  have q1 := hR3.cell (i := 1) rfl
  have q2 := hR3.cell (i := 2) rfl
  have q3 := hR3.cell (i := 3) rfl
  have q4 := hR3.cell (i := 4) rfl
  have q5 := hR3.cell (i := 5) rfl
  have q6 := hR3.cell (i := 6) rfl
  have q7 := hR3.cell (i := 7) rfl
  have q8 := hR3.cell (i := 8) rfl
  have HR3 := Lib.hid hR3
  clear hR3
  simp only [rcs]
  go_wp2_with fail
  have HF := Lib.hid (set9_cel (v0 := .int .i64 r.kind) (v1 := .int .i64 r.txn) (v2 := .int .i64 r.ts) (v3 := .int .i64 r.coord) (v4 := .string r.key) (v5 := .string r.text) (v6 := .bool r.dead) (v7 := .slice A' r.keys.length c') (v8 := .slice B' r.ws.length d') HR3.out)
  have HBF := set9_below (R := W.heap.size) (v0 := .int .i64 r.kind) (v1 := .int .i64 r.txn) (v2 := .int .i64 r.ts) (v3 := .int .i64 r.coord) (v4 := .string r.key) (v5 := .string r.text) (v6 := .bool r.dead) (v7 := .slice A' r.keys.length c') (v8 := .slice B' r.ws.length d') HB3.out (Nat.le_refl _)
  have z0 := HF.out.cell (i := 0) rfl
  have z1 := HF.out.cell (i := 1) rfl
  have z2 := HF.out.cell (i := 2) rfl
  have z3 := HF.out.cell (i := 3) rfl
  have z4 := HF.out.cell (i := 4) rfl
  have z5 := HF.out.cell (i := 5) rfl
  have z6 := HF.out.cell (i := 6) rfl
  have z7 := HF.out.cell (i := 7) rfl
  have z8 := HF.out.cell (i := 8) rfl
  have hk9 : ∀ k, k ≠ W.heap.size → (set9 w3 W.heap.size (.int .i64 r.kind) (.int .i64 r.txn) (.int .i64 r.ts) (.int .i64 r.coord) (.string r.key) (.string r.text) (.bool r.dead) (.slice A' r.keys.length c') (.slice B' r.ws.length d')).heap[k]? = w3.heap[k]? := fun k hk => by
    have e : ∀ (V : World) (i : Nat) (v : Value), (V.setCell ⟨W.heap.size, i, none⟩ v).heap[k]? = V.heap[k]? := fun V i v => Below.heap_setCell V ⟨W.heap.size, i, none⟩ v k hk
    unfold set9
    rw [e, e, e, e, e, e, e, e, e]
  have hs9 : w3.heap.size ≤ (set9 w3 W.heap.size (.int .i64 r.kind) (.int .i64 r.txn) (.int .i64 r.ts) (.int .i64 r.coord) (.string r.key) (.string r.text) (.bool r.dead) (.slice A' r.keys.length c') (.slice B' r.ws.length d')).heap.size := by rw [set9_size]; exact Nat.le_refl _
  have HV2 := Lib.hid (show RecVal (set9 w3 W.heap.size (.int .i64 r.kind) (.int .i64 r.txn) (.int .i64 r.ts) (.int .i64 r.coord) (.string r.key) (.string r.text) (.bool r.dead) (.slice A' r.keys.length c') (.slice B' r.ws.length d')) A' B' c' d' r from ⟨strs_in (F := fun k => k ≠ W.heap.size) HV.out.ks (fun h ad e => HN7.out h ad e) hs9 hk9, wrs_in (F := fun k => k ≠ W.heap.size) HV.out.ws (fun h ad e => HN8.out h ad e) hs9 hk9, HV.out.rng, HV.out.kn, HV.out.wn⟩)
  unfold set9 at z0 z1 z2 z3 z4 z5 z6 z7 z8
  exact bodyPost_ret (v := .tuple #[.agg (rcs ⟨r, A', B', c', d'⟩).toArray, .bool bb]) (by simp [results, Tryz.results59, go_sem, rcs, z0, z1, z2, z3, z4, z5, z6, z7, z8]) rfl ⟨_, rfl, ⟨⟨r, A', B', c', d'⟩, rfl, rfl, HV2.out, (fun hp => HFr.out.keep (fun ad e _ => hk9 _ (HN7.out hp ad e)) hp), fun h ad e => HA.out h ad e, fun h ad e => HBb.out h ad e⟩, HBF⟩
end
end Sh
end Go.Proofs.YtbkanoblcojdfaaGreat
