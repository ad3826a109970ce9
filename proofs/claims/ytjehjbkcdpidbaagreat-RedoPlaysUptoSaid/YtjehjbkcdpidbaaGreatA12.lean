/- Parts of the proof, joined: RdOpen, RdDoc, RdTwo, RdPOpen, RdWorks, RdFreshP, ScInts; their conditions stand with each. -/
import Derived.Deep.RegionWith
import Derived.Lib.Walk
import Derived.Deep.SlicePairs
import Derived.Test.YtjehjbkcdpidbaaGreatA7
import Derived.Test.YtjehjbkcdpidbaaGreatA8
import Derived.Test.YtjehjbkcdpidbaaGreatA9
import Derived.Test.YtjehjbkcdpidbaaGreatA11

/- What the document's own log is when it is opened; contract; no condition but the range. -/
namespace Go.Proofs.YtjehjbkcdpidbaaGreat
namespace Rd
open Go.RowKit Sc Bk

attribute [local go_sem ↓] Go.wp_at_zero Go.wp_at_succ
attribute [local go_sem] floatUpon pick

/-- what an Open answers, and leaves -/
def OpenPost (w : World) (g : Nat) (ao an : Addr) (co cn : Nat) (so sn : List Value) (r : Dev × Option Lg × Int) (e : Ending) (w' : World) : Prop :=
  RAt w' g ao an co cn so sn r.1 ∧ Fr (RFoot g ao an) (RFoot g ao an) w w' ∧
  match r.2.1 with
  | none => e = .returned (.tuple #[.pointer none, .int .i64 r.2.2])
  | some l => ∃ k A c, e = .returned (.tuple #[.pointer (some ⟨k, 0, none⟩), .int .i64 r.2.2]) ∧ w.heap.size ≤ k ∧ LAt w' k g A c l ∧ (∀ x, A = some x → w.heap.size ≤ x.block) ∧ (A = none → c = 0)

section
variable {w W W' : World} {k g : Nat} {ao an : Addr} {co cn : Nat} {so sn : List Value} {D : Dev} {c a : Nat}

/-- an Open under way: the log to be lies in block k -/
structure OpEnv (w W : World) (k g : Nat) (ao an : Addr) (co cn : Nat) (so sn : List Value) (D : Dev) (c a : Nat) (bs : ByteArray) (v : Value) (m : Nat) : Prop where
  r : RAt W g ao an co cn so sn D
  cel : Cel W k 73 [.pointer (some ⟨g, 0, none⟩), .int .i64 (c : Int), .int .i64 (a : Int), .string bs, v, .int .i64 (m : Int)]
  f : Fr (RFoot g ao an) (RFoot g ao an) w W
  kw : w.heap.size ≤ k
  off : ∀ j, RFoot g ao an j → j < w.heap.size

variable {bs : ByteArray} {v : Value} {m : Nat}

theorem OpEnv.step (h : OpEnv w W k g ao an co cn so sn D c a bs v m) (hb : Below W.heap.size W W') : OpEnv w W' k g ao an co cn so sn D c a bs v m :=
  ⟨h.r.step hb, h.cel.below hb, h.f.below hb, h.kw, h.off⟩

theorem OpEnv.cellOff (h : OpEnv w W k g ao an co cn so sn D c a bs v m) (i : Nat) (u : Value) : RAt (W.setCell ⟨k, i, none⟩ u) g ao an co cn so sn D ∧ Fr (RFoot g ao an) (RFoot g ao an) w (W.setCell ⟨k, i, none⟩ u) := by
  have hne : ∀ j, RFoot g ao an j → j ≠ k := fun j hj e => by have := h.off j hj; have := h.kw; omega
  refine ⟨h.r.kept fun j hj => Below.heap_setCell W ⟨k, i, none⟩ u j (hne j hj), ?_⟩
  refine ⟨h.f.os, h.f.tape, h.f.output, by simpa [World.setCell] using h.f.size, fun j hj hn => (Below.heap_setCell W ⟨k, i, none⟩ u j (fun e => ?_)).trans (h.f.block j hj hn), h.f.foot⟩
  have e2 : j = k := e
  have := h.kw
  omega

theorem OpEnv.setC (h : OpEnv w W k g ao an co cn so sn D c a bs v m) (x : Nat) : OpEnv w (W.setCell ⟨k, 1, none⟩ (.int .i64 (x : Int))) k g ao an co cn so sn D x a bs v m :=
  ⟨(h.cellOff _ _).1, h.cel.set, (h.cellOff _ _).2, h.kw, h.off⟩
theorem OpEnv.setA (h : OpEnv w W k g ao an co cn so sn D c a bs v m) (x : Nat) : OpEnv w (W.setCell ⟨k, 2, none⟩ (.int .i64 (x : Int))) k g ao an co cn so sn D c x bs v m :=
  ⟨(h.cellOff _ _).1, h.cel.set, (h.cellOff _ _).2, h.kw, h.off⟩
theorem OpEnv.setB (h : OpEnv w W k g ao an co cn so sn D c a bs v m) (x : ByteArray) : OpEnv w (W.setCell ⟨k, 3, none⟩ (.string x)) k g ao an co cn so sn D c a x v m :=
  ⟨(h.cellOff _ _).1, h.cel.set, (h.cellOff _ _).2, h.kw, h.off⟩
theorem OpEnv.setL (h : OpEnv w W k g ao an co cn so sn D c a bs v m) (x : Value) : OpEnv w (W.setCell ⟨k, 4, none⟩ x) k g ao an co cn so sn D c a bs x m :=
  ⟨(h.cellOff _ _).1, h.cel.set, (h.cellOff _ _).2, h.kw, h.off⟩
theorem OpEnv.setM (h : OpEnv w W k g ao an co cn so sn D c a bs v m) (x : Nat) : OpEnv w (W.setCell ⟨k, 5, none⟩ (.int .i64 (x : Int))) k g ao an co cn so sn D c a bs v x :=
  ⟨(h.cellOff _ _).1, h.cel.set, (h.cellOff _ _).2, h.kw, h.off⟩

theorem OpEnv.act (h : OpEnv w W k g ao an co cn so sn D c a bs v m) {D' : Dev} (h1 : RAt W' g ao an co cn so sn D') (h2 : Fr (RFoot g ao an) (RFoot g ao an) W W') : OpEnv w W' k g ao an co cn so sn D' c a bs v m :=
  ⟨h1, (h2.block k h.cel.lt (fun hj => by have := h.off k hj; have := h.kw; omega)).trans h.cel, h.f.trans h2, h.kw, h.off⟩

/-- what the loop knows: the head that counts so far -/
def hC (D : Dev) (i : Nat) : Nat := ((hdsP D i).map (·.1)).getD 0
def hA (D : Dev) (i : Nat) : Nat := ((hdsP D i).map (·.2.1)).getD 0
def hN (D : Dev) (i : Nat) : Nat := ((hdsP D i).map (·.2.2)).getD 0

set_option maxRecDepth 20000 in
set_option maxHeartbeats 8000000 in
theorem ropen_any (hr : RAt w g ao an co cn so sn D) (hok : DevOk D) :
    Calls Tryz.prog 25 #[.pointer (some ⟨g, 0, none⟩)] w (OpenPost w g ao an co cn so sn (openP D)) := by
  have k0 := hr.cel.cell (i := 0) rfl
  have hmx := hok.max
  have hlt0 := Lib.hid hr.lt
  by_cases h4 : D.on.length < 4
  · have HP := Lib.hid (show OpenPost w g ao an co cn so sn (openP D) (.returned (.tuple #[.pointer none, .int .i64 4])) w from by
      unfold openP; rw [if_pos h4]; exact ⟨hr, Fr.refl _ _, rfl⟩)
    generalize OpenPost w g ao an co cn so sn (openP D) = Pst at HP ⊢
    have p4 : (D.on.length : Int) < 4 := by omega
    clear hr
    go_enter Tryz.func25, Tryz.ntmps25
    go_wp2_with fail
    exact HP.out
  have p4 : ¬ (D.on.length : Int) < 4 := by omega
  have HE0 : Hid (OpEnv w (w.alloc (.cells #[.pointer (some ⟨g, 0, none⟩), .int .i64 0, .int .i64 0, .string ⟨#[]⟩, .slice none 0 0, .int .i64 0] 73)) w.heap.size g ao an co cn so sn D 0 0 ⟨#[]⟩ (.slice none 0 0) 0) := Lib.hid
    ⟨hr.step ((Below.refl _ w).alloc (Nat.le_refl _) _), heap_alloc_new w _, (Fr.refl _ w).below ((Below.refl _ w).alloc (Nat.le_refl _) _), Nat.le_refl _, hr.lt⟩
  have HRd := Lib.hid (fun W (h : RAt W g ao an co cn so sn D) (i : Int) => rread_any h hok i)
  have HHd := Lib.hid (fun W (h : RAt W g ao an co cn so sn D) (s : ByteArray) (hs : s.size = 64) => rhd_any h hok (by omega) s hs)
  have HOk := Lib.hid (And.intro hok h4)
  have hab : areaN D ≤ 65536 := by unfold areaN; omega
  have HPs := Lib.hid (show OpenPost w g ao an co cn so sn (openP D) = OpenPost w g ao an co cn so sn (openP D) from rfl)
  obtain ⟨Pst, hPst⟩ : ∃ Pst, Pst = OpenPost w g ao an co cn so sn (openP D) := ⟨_, rfl⟩
  rw [← hPst]
  have HPst := Lib.hid hPst
  clear hPst HPs hr
  go_enter Tryz.func25, Tryz.ntmps25
  go_upto_region 4 with fail
  generalize w.alloc (.cells #[.pointer (some ⟨g, 0, none⟩), .int .i64 0, .int .i64 0, .string ⟨#[]⟩, .slice none 0 0, .int .i64 0] 73) = W1 at HE0 ⊢
  generalize w.heap.size = k at HE0 ⊢
  clear k0
  go_wp2_with fail
  go_loopw [5, 6, 7, 8, 9, 10, 11, 12, 13] (fun n f i _ _ _ _ _ _ wr => ∃ j : Nat, j ≤ 2 ∧ n = .int .i64 (hN D j : Int) ∧ f = .bool (hdsP D j).isSome ∧ i = .int .i64 (j : Int) ∧ Hid (0 < j → D.down = false) ∧ Hid (OpEnv w wr k g ao an co cn so sn D (hC D j) (hA D j) ⟨#[]⟩ (.slice none 0 0) 0)) (fun _ _ i _ _ _ _ _ _ _ => 2 - (intOf i).toNat)
  case atStart => exact ⟨0, by omega, rfl, rfl, rfl, Lib.hid (fun h => absurd h (by omega)), HE0.out⟩
  case round =>
    obtain ⟨j, hj, rfl, rfl, rfl, hup, hE⟩ := hrel
    clear HE0
    by_cases hlt : j < 2
    · have pj : (j : Int) < 2 := by omega
      have wj : IntKind.i64.wrap ((j : Int) + 1) = (j : Int) + 1 := i64_wrap (by omega) (by omega)
      by_cases hd : D.down = true
      · have j0 : j = 0 := by
          rcases Nat.eq_zero_or_pos j with h | h
          · exact h
          · rw [hup.out h] at hd; cases hd
        have hrv : rdV D (j : Int) = (nil0, 90) := by unfold rdV; rw [if_pos hd]
        have HP : Hid (Pst (.returned (.tuple #[.pointer none, .int .i64 90])) wr) := Lib.hid (by
          rw [HPst.out]
          have : openP D = (D, none, 90) := by unfold openP; rw [if_neg HOk.out.2, if_pos hd]
          rw [this]
          exact ⟨hE.out.r, hE.out.f, rfl⟩)
        have hrd := HRd.out wr hE.out.r (j : Int)
        rw [hrv] at hrd
        have HRd2 := Lib.hid hrd
        clear hrd hd hup hE hrv j0
        go_wp2_with fail
        refine HRd2.out.mono ?_
        rintro e w1 ⟨rfl, rfl⟩
        go_wp2_with fail
        exact HP.out
      have hd' : D.down = false := by simpa using hd
      have hjl : j < D.on.length := by have := HOk.out.2; omega
      have hrd := HRd.out wr hE.out.r (j : Int)
      rw [rd_up hd' hjl] at hrd
      have hs64 := flush64 HOk.out.1 hjl
      have HH : Hid (hdsP D (j + 1) = if okH (areaN D) (flushF D j).data.toList ∧ (∀ h, hdsP D j = some h → h.1 < cOf (flushF D j).data.toList) then some (cOf (flushF D j).data.toList, aOf (flushF D j).data.toList, lOf (flushF D j).data.toList) else hdsP D j) := Lib.hid rfl
      have hhd := fun W (h : RAt W g ao an co cn so sn D) => HHd.out W h (flushF D j) hs64
      have HUp := Lib.hid (show 0 < j + 1 → D.down = false from fun _ => hd')
      generalize flushF D j = s at hrd hs64 HH hhd
      have HRd2 := Lib.hid hrd
      have HHd2 := Lib.hid hhd
      clear hrd hhd hd hd' hup hs64
      by_cases hok1 : okH (areaN D) s.data.toList
      case neg =>
        have hnx : hdsP D (j + 1) = hdsP D j := by rw [HH.out, if_neg (fun hc => hok1 hc.1)]
        have HR : Hid (∀ W, OpEnv w W k g ao an co cn so sn D (hC D j) (hA D j) ⟨#[]⟩ (.slice none 0 0) 0 → OpEnv w W k g ao an co cn so sn D (hC D (j + 1)) (hA D (j + 1)) ⟨#[]⟩ (.slice none 0 0) 0) := Lib.hid (fun W h => by
          unfold hC hA at h ⊢
          rw [hnx]; exact h)
        have HX := Lib.hid (And.intro (show hN D (j + 1) = hN D j from by unfold hN; rw [hnx]) hnx)
        have hdec : decide (okH (areaN D) s.data.toList) = false := by simpa using hok1
        clear HH hnx hok1
        go_wp2_with fail
        refine HRd2.out.mono ?_
        rintro e w1 ⟨rfl, rfl⟩
        go_wp2_with fail
        refine (HHd2.out _ hE.out.r).mono ?_
        rintro e w2 ⟨rfl, hb⟩
        rw [hdec]
        have HE2 := Lib.hid (hE.out.step hb)
        have k1 := HE2.out.cel.cell (i := 1) rfl
        clear hb hE
        go_wp2_with fail
        go_roundw
        case rel => exact ⟨j + 1, by omega, by rw [HX.out.1], by rw [HX.out.2], by go_num, HUp.out, HR.out _ HE2.out⟩
        case measure => simp [intOf]; omega
      case pos =>
       cases hh : hdsP D j with
       | none =>
        have hnx : hdsP D (j + 1) = some (cOf s.data.toList, aOf s.data.toList, lOf s.data.toList) := by rw [HH.out, if_pos ⟨hok1, fun h e => by rw [hh] at e; cases e⟩]
        have HX := Lib.hid (And.intro (show hN D (j + 1) = lOf s.data.toList from by unfold hN; rw [hnx]; rfl) (And.intro (show hC D (j + 1) = cOf s.data.toList from by unfold hC; rw [hnx]; rfl) (And.intro (show hA D (j + 1) = aOf s.data.toList from by unfold hA; rw [hnx]; rfl) hnx)))
        have hdec : decide (okH (areaN D) s.data.toList) = true := by simpa using hok1
        have hwc : IntKind.i64.wrap (cOf s.data.toList : Int) = (cOf s.data.toList : Int) := i64_wrap (by omega) (by have := hok1.2.1; omega)
        have hwl : IntKind.i64.wrap (lOf s.data.toList : Int) = (lOf s.data.toList : Int) := i64_wrap (by omega) (by have := hok1.2.2.2.1; omega)
        clear HH hnx hok1
        generalize aOf s.data.toList = xa at *
        generalize cOf s.data.toList = xc at *
        generalize lOf s.data.toList = xl at *
        go_wp2_with fail
        refine HRd2.out.mono ?_
        rintro e w1 ⟨rfl, rfl⟩
        go_wp2_with fail
        refine (HHd2.out _ hE.out.r).mono ?_
        rintro e w2 ⟨rfl, hb⟩
        rw [hdec, hwc, hwl]
        have HE2 := Lib.hid (hE.out.step hb)
        have k1 := HE2.out.cel.cell (i := 1) rfl
        have kq := fun i => HE2.out.cel.free (i := i)
        have HE3 := Lib.hid (HE2.out.setC xc)
        clear hb hE
        go_upto_region 16 with fail
        generalize w2.setCell ⟨k, 1, none⟩ (.int .i64 (xc : Int)) = W3 at HE3 ⊢
        clear k1 kq HE2
        have k2 := HE3.out.cel.cell (i := 2) rfl
        have kq := fun i => HE3.out.cel.free (i := i)
        have HE4 := Lib.hid (HE3.out.setA xa)
        go_upto_region 17 with fail
        generalize W3.setCell ⟨k, 2, none⟩ (.int .i64 (xa : Int)) = W4 at HE4 ⊢
        clear k2 kq HE3
        go_wp2_with fail
        go_roundw
        case rel => exact ⟨j + 1, by omega, by rw [HX.out.1], by rw [HX.out.2.2.2]; rfl, by go_num, HUp.out, by rw [HX.out.2.1, HX.out.2.2.1]; exact HE4.out⟩
        case measure => simp [intOf]; omega
       | some h =>
        by_cases hgt : h.1 < cOf s.data.toList
        case pos =>
          have hnx : hdsP D (j + 1) = some (cOf s.data.toList, aOf s.data.toList, lOf s.data.toList) := by rw [HH.out, if_pos ⟨hok1, fun h2 e => by rw [hh] at e; cases e; exact hgt⟩]
          have HX := Lib.hid (And.intro (show hN D (j + 1) = lOf s.data.toList from by unfold hN; rw [hnx]; rfl) (And.intro (show hC D (j + 1) = cOf s.data.toList from by unfold hC; rw [hnx]; rfl) (And.intro (show hA D (j + 1) = aOf s.data.toList from by unfold hA; rw [hnx]; rfl) hnx)))
          have hdec : decide (okH (areaN D) s.data.toList) = true := by simpa using hok1
          have hwc : IntKind.i64.wrap (cOf s.data.toList : Int) = (cOf s.data.toList : Int) := i64_wrap (by omega) (by have := hok1.2.1; omega)
          have hwl : IntKind.i64.wrap (lOf s.data.toList : Int) = (lOf s.data.toList : Int) := i64_wrap (by omega) (by have := hok1.2.2.2.1; omega)
          have hCv : hC D j = h.1 := by unfold hC; rw [hh]; rfl
          have pgt : (hC D j : Int) < (cOf s.data.toList : Int) := by rw [hCv]; omega
          clear HH hnx hok1 hgt hCv
          generalize aOf s.data.toList = xa at *
          generalize cOf s.data.toList = xc at *
          generalize lOf s.data.toList = xl at *
          go_wp2_with fail
          refine HRd2.out.mono ?_
          rintro e w1 ⟨rfl, rfl⟩
          go_wp2_with fail
          refine (HHd2.out _ hE.out.r).mono ?_
          rintro e w2 ⟨rfl, hb⟩
          rw [hdec, hwc, hwl]
          have HE2 := Lib.hid (hE.out.step hb)
          have k1 := HE2.out.cel.cell (i := 1) rfl
          have kq := fun i => HE2.out.cel.free (i := i)
          have HE3 := Lib.hid (HE2.out.setC xc)
          clear hb hE
          go_upto_region 16 with fail
          generalize w2.setCell ⟨k, 1, none⟩ (.int .i64 (xc : Int)) = W3 at HE3 ⊢
          clear k1 kq HE2
          have k2 := HE3.out.cel.cell (i := 2) rfl
          have kq := fun i => HE3.out.cel.free (i := i)
          have HE4 := Lib.hid (HE3.out.setA xa)
          go_upto_region 17 with fail
          generalize W3.setCell ⟨k, 2, none⟩ (.int .i64 (xa : Int)) = W4 at HE4 ⊢
          clear k2 kq HE3
          go_wp2_with fail
          go_roundw
          case rel => exact ⟨j + 1, by omega, by rw [HX.out.1], by rw [HX.out.2.2.2]; rfl, by go_num, HUp.out, by rw [HX.out.2.1, HX.out.2.2.1]; exact HE4.out⟩
          case measure => simp [intOf]; omega
        case neg =>
          have hnx : hdsP D (j + 1) = hdsP D j := by rw [HH.out, if_neg (fun hc => hgt (hc.2 h hh))]
          have HR : Hid (∀ W, OpEnv w W k g ao an co cn so sn D (hC D j) (hA D j) ⟨#[]⟩ (.slice none 0 0) 0 → OpEnv w W k g ao an co cn so sn D (hC D (j + 1)) (hA D (j + 1)) ⟨#[]⟩ (.slice none 0 0) 0) := Lib.hid (fun W h => by
            unfold hC hA at h ⊢
            rw [hnx]; exact h)
          have HX := Lib.hid (And.intro (show hN D (j + 1) = hN D j from by unfold hN; rw [hnx]) hnx)
          have hdec : decide (okH (areaN D) s.data.toList) = true := by simpa using hok1
          have hwc : IntKind.i64.wrap (cOf s.data.toList : Int) = (cOf s.data.toList : Int) := i64_wrap (by omega) (by have := hok1.2.1; omega)
          have hwl : IntKind.i64.wrap (lOf s.data.toList : Int) = (lOf s.data.toList : Int) := i64_wrap (by omega) (by have := hok1.2.2.2.1; omega)
          have hCv : hC D j = h.1 := by unfold hC; rw [hh]; rfl
          have pgt : (cOf s.data.toList : Int) ≤ (hC D j : Int) := by rw [hCv]; omega
          clear HH hnx hok1 hgt hCv
          go_wp2_with fail
          refine HRd2.out.mono ?_
          rintro e w1 ⟨rfl, rfl⟩
          go_wp2_with fail
          refine (HHd2.out _ hE.out.r).mono ?_
          rintro e w2 ⟨rfl, hb⟩
          rw [hdec, hwc, hwl]
          have HE2 := Lib.hid (hE.out.step hb)
          have k1 := HE2.out.cel.cell (i := 1) rfl
          clear hb hE
          go_wp2_with fail
          go_roundw
          case rel => exact ⟨j + 1, by omega, by rw [HX.out.1], by rw [HX.out.2, hh]; rfl, by go_num, HUp.out, HR.out _ HE2.out⟩
          case measure => simp [intOf]; omega
    · obtain rfl : j = 2 := by omega
      have hd' := hup.out (by omega)
      clear hup hlt0
      cases hh : hdsP D 2 with
      | none =>
        have HC0 := Lib.hid (And.intro (show hC D 2 = 0 from by unfold hC; rw [hh]; rfl) (show hA D 2 = 0 from by unfold hA; rw [hh]; rfl))
        have hov : openP D = if (andD (wrD D 1 (headB 1 0 0)) flD).2 = 0 then ((andD (wrD D 1 (headB 1 0 0)) flD).1, some ⟨1, 0, [], [], 0⟩, 0) else ((andD (wrD D 1 (headB 1 0 0)) flD).1, none, (andD (wrD D 1 (headB 1 0 0)) flD).2) := by
          unfold openP; rw [if_neg HOk.out.2, if_neg (by rw [hd']; simp), hh]
        have HFail : Hid (∀ W D' e, andD (wrD D 1 (headB 1 0 0)) flD = (D', e) → e ≠ 0 → RAt W g ao an co cn so sn D' → Fr (RFoot g ao an) (RFoot g ao an) w W → Pst (.returned (.tuple #[.pointer none, .int .i64 e])) W) := Lib.hid (fun W D' e h1 h2 h3 h5 => by
          rw [HPst.out, hov, h1, if_neg h2]; exact ⟨h3, h5, rfl⟩)
        have HDone : Hid (∀ W D', andD (wrD D 1 (headB 1 0 0)) flD = (D', 0) → OpEnv w W k g ao an co cn so sn D' 1 0 ⟨#[]⟩ (.slice none 0 0) 0 → Pst (.returned (.tuple #[.pointer (some ⟨k, 0, none⟩), .int .i64 0])) W) := Lib.hid (fun W D' h1 h2 => by
          rw [HPst.out, hov, h1, if_pos rfl]
          exact ⟨h2.r, h2.f, k, none, 0, rfl, h2.kw, ⟨h2.cel, fun h => absurd h (by simp), fun h => absurd h (by simp)⟩, (fun x hx => by cases hx), fun _ => rfl⟩)
        have k1 := hE.out.cel.cell (i := 1) rfl
        have kq := fun i => hE.out.cel.free (i := i)
        have HE3 := Lib.hid (hE.out.setC 1)
        rw [HC0.out.2] at HE3
        have HHead : Hid (∀ W, Calls Tryz.prog 61 #[.int .i64 1, .int .i64 0, .int .i64 0] W fun e w' => e = .returned (.string (headB 1 0 0)) ∧ Below W.heap.size W w') := Lib.hid (fun W => rhead_any 1 0 0 W (by omega) (by omega) (by omega))
        have hone : (Value.int IntKind.i64 ((1 : Nat) : Int)) = .int .i64 1 := rfl
        rw [hone] at HE3
        clear hone hov hd' hE
        obtain ⟨HBt, hHB⟩ : ∃ HBt, HBt = headB 1 0 0 := ⟨_, rfl⟩
        rw [← hHB] at HFail HDone HHead
        have HWr := Lib.hid (fun W (h : RAt W g ao an co cn so sn D) => rwrite_any h HOk.out.1 1 HBt)
        have HFl := Lib.hid (fun W (h : RAt W g ao an co cn so sn (wrD D 1 HBt).1) => rflush_any h (wrD_ok HOk.out.1 1 HBt))
        clear hHB
        go_upto_region 20 with fail
        generalize wr.setCell ⟨k, 1, none⟩ (.int .i64 1) = W3 at HE3 ⊢
        clear k1 kq
        go_wp2_with fail
        refine (HHead.out _).mono ?_
        rintro e w4 ⟨rfl, hb⟩
        have HE4 := Lib.hid (HE3.out.step hb)
        clear hb HE3
        go_wp2_with fail
        refine (HWr.out _ HE4.out.r).mono ?_
        rintro e w5 ⟨rfl, p1, p2⟩
        have HE5 := Lib.hid (HE4.out.act p1 p2)
        clear p1 p2 HE4 HWr
        by_cases h0 : (wrD D 1 HBt).2 = 0
        case neg =>
          have HF := Lib.hid (HFail.out w5 (wrD D 1 HBt).1 (wrD D 1 HBt).2 (and_stop h0) h0 HE5.out.r HE5.out.f)
          have hne : ((wrD D 1 HBt).2 != 0) = true := by simpa using h0
          generalize (wrD D 1 HBt).2 = z at HF hne ⊢
          clear HFail HDone HFl h0
          go_wp2_with fail
          exact HF.out
        have hne : ((wrD D 1 HBt).2 != 0) = false := by simpa using h0
        have HG := Lib.hid (and_go (f := flD) h0)
        rw [HG.out] at HFail HDone
        clear HG
        rw [h0]
        clear h0 hne
        generalize (wrD D 1 HBt).1 = D2 at HFail HDone HFl HE5
        go_wp2_with fail
        refine (HFl.out _ HE5.out.r).mono ?_
        rintro e w6 ⟨rfl, p1, p2⟩
        have HE6 := Lib.hid (HE5.out.act p1 p2)
        clear p1 p2 HE5 HFl
        generalize flD D2 = r at HFail HDone HE6 ⊢
        obtain ⟨D3, e3⟩ := r
        simp only at HE6 ⊢
        by_cases h0 : e3 = 0
        · subst h0
          have HD := Lib.hid (HDone.out w6 D3 rfl HE6.out)
          clear HFail HDone
          go_wp2_with fail
          exact HD.out
        · have hne : (e3 != 0) = true := by simpa using h0
          have HF := Lib.hid (HFail.out w6 D3 e3 rfl h0 HE6.out.r HE6.out.f)
          clear HFail HDone h0
          go_wp2_with fail
          exact HF.out
      | some h =>
        obtain ⟨c, a, n⟩ := h
        obtain ⟨q1, q2, q3, q4⟩ := hds_ok hh
        have hsl : (storedL D a n).length ≤ n := by unfold storedL; rw [List.length_take]; omega
        have HCv := Lib.hid (And.intro (show hC D 2 = c from by unfold hC; rw [hh]; rfl) (And.intro (show hA D 2 = a from by unfold hA; rw [hh]; rfl) (show hN D 2 = n from by unfold hN; rw [hh]; rfl)))
        obtain ⟨S, hS⟩ : ∃ S : ByteArray, S = ⟨(storedL D a n).toArray⟩ := ⟨_, rfl⟩
        have hSz : S.size ≤ 50000000000000 := by rw [hS, text_size]; simp only at q4; omega
        have hov : openP D = if (Su.allR S).2.2 = 0 then (D, some ⟨c, a, storedL D a n, (Su.allR S).1, (Su.allR S).1.length⟩, 0) else (D, none, 101) := by
          unfold openP; rw [if_neg HOk.out.2, if_neg (by rw [hd']; simp), hh, hS]
        have HFail : Hid ((Su.allR S).2.2 ≠ 0 → ∀ W, OpEnv w W k g ao an co cn so sn D c a S (.slice none 0 0) 0 → Pst (.returned (.tuple #[.pointer none, .int .i64 101])) W) := Lib.hid (fun h1 W h2 => by
          rw [HPst.out, hov, if_neg h1]; exact ⟨h2.r, h2.f, rfl⟩)
        have HDone : Hid ((Su.allR S).2.2 = 0 → ∀ W A cA, OpEnv w W k g ao an co cn so sn D c a S (.slice A (Su.allR S).1.length cA) (Su.allR S).1.length → StrsAt W A (Su.allR S).1 → (∀ x, A = some x → w.heap.size ≤ x.block ∧ x.block ≠ k) → (A = none → cA = 0) → Pst (.returned (.tuple #[.pointer (some ⟨k, 0, none⟩), .int .i64 0])) W) := Lib.hid (fun h1 W A cA h2 h3 h5 h6 => by
          rw [HPst.out, hov, if_pos h1]
          exact ⟨h2.r, h2.f, k, A, cA, rfl, h2.kw, ⟨by rw [← hS]; exact h2.cel, h3, fun _ x hx => (h5 x hx).2⟩, fun x hx => (h5 x hx).1, h6⟩)
        have HSt := Lib.hid (fun W (hW : RAt W g ao an co cn so sn D) => rstored_any hW HOk.out.1 (by have := HOk.out.2; omega) hd' a n q3 q4)
        rw [← hS] at HSt
        have HAll := Lib.hid (fun W => rall_new S W hSz)
        have HE3 := hE
        rw [HCv.out.1, HCv.out.2.1] at HE3
        rw [HCv.out.2.2]
        have k2 := HE3.out.cel.cell (i := 2) rfl
        have kq := fun i => HE3.out.cel.free (i := i)
        have k3 := HE3.out.cel.cell (i := 3) rfl
        have HE4 := Lib.hid (HE3.out.setB S)
        clear hS hov hd' hE hh q1 q2 q3 q4 hsl
        go_upto_region 27 with fail
        go_wp2_with fail
        refine (HSt.out _ HE3.out.r).mono ?_
        rintro e w4 ⟨rfl, rfl⟩
        go_upto_region 28 with fail
        generalize w4.setCell ⟨k, 3, none⟩ (.string S) = W4 at HE4 ⊢
        clear k2 kq k3 HSt HE3
        have k3 := HE4.out.cel.cell (i := 3) rfl
        go_wp2_with fail
        refine (HAll.out _).mono ?_
        rintro e w5 ⟨A, cA, rfl, hst, hnw, hnc, hb⟩
        have HE5 := Lib.hid (HE4.out.step hb)
        have HSt2 := Lib.hid (And.intro hst (And.intro (fun (x : Addr) (hx : A = some x) => show w.heap.size ≤ x.block ∧ x.block ≠ k from by
          have h1 := hnw x hx
          have h2 := HE4.out.cel.lt
          have h3 := HE4.out.f.size
          omega) hnc))
        clear hst hnw hnc hb k3 HE4 HAll
        generalize Su.allR S = r at HFail HDone HSt2 ⊢
        obtain ⟨O, p, er⟩ := r
        simp only at HFail HDone HSt2 ⊢
        by_cases h0 : er = 0
        case neg =>
          have hne : ((er : Int) != 0) = true := by simpa using h0
          have HF := Lib.hid (HFail.out h0 w5 HE5.out)
          clear HFail HDone HSt2 h0
          go_wp2_with fail
          exact HF.out
        · subst h0
          have k4 := HE5.out.cel.cell (i := 4) rfl
          have kq := fun i => HE5.out.cel.free (i := i)
          have HE6 := Lib.hid (HE5.out.setL (.slice A O.length cA))
          have HStr := Lib.hid (fun (W : World) (h : ∀ b, b ≠ k → W.heap[b]? = w5.heap[b]?) (hs : w5.heap.size ≤ W.heap.size) => show StrsAt W A O from fun hp => by
            obtain ⟨ad, e, hl, hc⟩ := HSt2.out.1 hp
            refine ⟨ad, e, Nat.lt_of_lt_of_le hl hs, fun i hi => ?_⟩
            have hkp := h ad.block (HSt2.out.2.1 ad e).2
            rw [← st_block ad i] at hkp
            refine Eq.trans ?_ (hc i hi)
            unfold World.cell?
            rw [hkp])
          go_upto_region 32 with fail
          have HK6 := Lib.hid (fun b (hb : b ≠ k) => Below.heap_setCell w5 ⟨k, 4, none⟩ (.slice A O.length cA) b hb)
          have HZ6 := Lib.hid (show w5.heap.size ≤ (w5.setCell ⟨k, 4, none⟩ (.slice A O.length cA)).heap.size from by simp [World.setCell])
          generalize w5.setCell ⟨k, 4, none⟩ (.slice A O.length cA) = W6 at HE6 HK6 HZ6 ⊢
          clear k4 kq HE5
          have k5 := HE6.out.cel.cell (i := 5) rfl
          have kq := fun i => HE6.out.cel.free (i := i)
          have HE7 := Lib.hid (HE6.out.setM O.length)
          have HD := Lib.hid (HDone.out rfl _ A cA HE7.out (HStr.out _ (fun b hb => (Below.heap_setCell W6 ⟨k, 5, none⟩ (.int .i64 (O.length : Int)) b hb).trans (HK6.out b hb)) (by have := HZ6.out; simpa [World.setCell] using this)) HSt2.out.2.1 HSt2.out.2.2)
          clear HFail HDone HStr HE6 HE7 HK6 HZ6
          go_wp2_with fail
          exact HD.out

end

end Rd
end Go.Proofs.YtjehjbkcdpidbaaGreat

/- The document's own device and log are such as are asked; no condition but the ranges. -/
namespace Go.Proofs.YtjehjbkcdpidbaaGreat
namespace Rd
open Go.RowKit Sc Bk

/-- the document's device as a side has it -/
def RDev (W : World) (F : Nat → Prop) (g : Nat) (D : Dev) : Prop := ∃ ao an co cn so sn, F = RFoot g ao an ∧ RAt W g ao an co cn so sn D ∧ DevOk D

/-- the document's log -/
def DLog (W : World) (F : Nat → Prop) (k g : Nat) (_ : Nat) (l : Lg) : Prop := ∃ A c, F = (fun j => j = k ∨ (0 < l.ts.length ∧ ∃ x, A = some x ∧ j = x.block)) ∧ LAt W k g A c l ∧ (A = none → c = 0)

theorem docDev : DevF 30 60 62 70 73 RDev where
  lt := fun {W F g D} h => by obtain ⟨ao, an, co, cn, so, sn, rfl, h1, _⟩ := h; exact h1.lt
  ok := fun {W F g D} h => by obtain ⟨ao, an, co, cn, so, sn, _, _, h2⟩ := h; exact h2
  kept := fun {W W' F g D} h hk => by obtain ⟨ao, an, co, cn, so, sn, rfl, h1, h2⟩ := h; exact ⟨ao, an, co, cn, so, sn, rfl, h1.kept hk, h2⟩
  read := fun {F g D} i w h _ => by
    obtain ⟨ao, an, co, cn, so, sn, rfl, h1, h2⟩ := h
    refine (rread_any h1 h2 i).mono ?_
    rintro e w' ⟨rfl, rfl⟩
    exact ⟨rfl, _, ⟨ao, an, co, cn, so, sn, rfl, h1, h2⟩, Fr.refl _ _⟩
  write := fun {F g D} i t w h _ _ => by
    obtain ⟨ao, an, co, cn, so, sn, rfl, h1, h2⟩ := h
    refine (rwrite_any h1 h2 i t).mono ?_
    rintro e w' ⟨rfl, q1, q2⟩
    exact ⟨rfl, _, ⟨ao, an, co, cn, so, sn, rfl, q1, wrD_ok h2 i t⟩, q2⟩
  flush := fun {F g D} w h => by
    obtain ⟨ao, an, co, cn, so, sn, rfl, h1, h2⟩ := h
    refine (rflush_any h1 h2).mono ?_
    rintro e w' ⟨rfl, q1, q2⟩
    exact ⟨rfl, _, ⟨ao, an, co, cn, so, sn, rfl, q1, flD_ok h2⟩, q2⟩
  fuse := fun {F g D} n w h _ => by
    obtain ⟨ao, an, co, cn, so, sn, rfl, h1, h2⟩ := h
    refine (rfuse_any h1 n).mono ?_
    rintro e w' ⟨rfl, q1, q2⟩
    exact ⟨rfl, _, ⟨ao, an, co, cn, so, sn, rfl, q1, fuD_ok h2 n⟩, q2⟩
  crash := fun {F g D} A c ps w h hp hd hl _ => by
    obtain ⟨ao, an, co, cn, so, sn, rfl, h1, h2⟩ := h
    refine (rcrash_any h1 h2 A c ps hp hd (by unfold reachBytes at hl; omega)).mono ?_
    rintro e w' ⟨rfl, q1, q2⟩
    exact ⟨rfl, _, ⟨ao, an, co, cn, so, sn, rfl, q1, crD_ok h2 ps⟩, q2⟩

/-- the blocks of a log do not meet its device's -/
theorem off_of {g k : Nat} {ao an : Addr} {A : Option Addr} {l : Lg} {L : Nat → Prop} (hL : L = fun j => j = k ∨ (0 < l.ts.length ∧ ∃ x, A = some x ∧ j = x.block)) (h : ∀ j, L j → ¬ RFoot g ao an j) : Off k g ao an A l := by
  subst hL
  exact ⟨h k (.inl rfl), fun hp x hx => h x.block (.inr ⟨hp, x, hx, rfl⟩)⟩

theorem off_back {g k : Nat} {ao an : Addr} {A : Option Addr} {l : Lg} (h : Off k g ao an A l) : ∀ j, (j = k ∨ (0 < l.ts.length ∧ ∃ x, A = some x ∧ j = x.block)) → ¬ RFoot g ao an j := fun j hj => by
  rcases hj with rfl | ⟨hp, x, hx, rfl⟩
  · exact h.k
  · exact h.a hp x hx

theorem docLog : LogF 25 33 34 27 37 RDev DLog where
  lt := fun {W F p g n l} h k hk => by
    obtain ⟨A, c, rfl, h1, _⟩ := h
    rcases hk with rfl | ⟨hp, x, hx, rfl⟩
    · exact h1.cel.lt
    · obtain ⟨ad, e, hl, _⟩ := h1.strs hp
      rw [hx] at e; cases e; exact hl
  kept := fun {W W' F p g n l} h hk => by
    obtain ⟨A, c, rfl, h1, h2⟩ := h
    refine ⟨A, c, rfl, ⟨(hk p (.inl rfl)).trans h1.cel, fun hp => ?_, h1.nk⟩, h2⟩
    obtain ⟨ad, e, hl, hc⟩ := h1.strs hp
    have hkp := hk ad.block (.inr ⟨hp, ad, e, rfl⟩)
    refine ⟨ad, e, ?_, fun i hi => ?_⟩
    · have h3 : W.heap[ad.block]? = some W.heap[ad.block] := Array.getElem?_eq_getElem hl
      rw [h3] at hkp
      exact (Array.getElem?_eq_some_iff.1 hkp).1
    · have hkp2 := hkp
      rw [← st_block ad i] at hkp2
      refine Eq.trans ?_ (hc i hi)
      unfold World.cell?
      rw [hkp2]
  opn := fun {F g D} w h => by
    obtain ⟨ao, an, co, cn, so, sn, rfl, h1, h2⟩ := h
    refine (ropen_any h1 h2).mono ?_
    intro e w' hp
    obtain ⟨q1, q2, q3⟩ := hp
    refine ⟨_, ⟨ao, an, co, cn, so, sn, rfl, q1, open_dev h2⟩, ?_⟩
    cases hv : (openP D).2.1 with
    | none =>
      rw [hv] at q3
      exact ⟨q3, q2⟩
    | some l =>
      rw [hv] at q3
      obtain ⟨k, A, c, rfl, hk, hl, hA, hn⟩ := q3
      refine ⟨k, _, rfl, ⟨A, c, rfl, hl, hn⟩, fun j hj hf => ?_, ?_⟩
      · have hlt := h1.lt j hf
        rcases hj with rfl | ⟨_, x, hx, rfl⟩
        · omega
        · have := hA x hx; omega
      · refine ⟨q2.os, q2.tape, q2.output, q2.size, q2.block, fun j hj => ?_⟩
        rcases hj with hf | rfl | ⟨_, x, hx, rfl⟩
        · exact .inl hf
        · exact .inr hk
        · exact .inr (hA x hx)
  app := fun {F L g p D l} t w h hl hd hi _ ht => by
    obtain ⟨ao, an, co, cn, so, sn, rfl, h1, h2⟩ := h
    obtain ⟨A, c, hL, hl1, hn⟩ := hl
    refine (rappend_any h1 hl1 h2 (off_of hL hd) hn hi.ok t ht).mono ?_
    rintro e w' ⟨rfl, A', c', q1, q2, q3, q4, q5⟩
    have hpk := hd p (by rw [hL]; exact .inl rfl)
    refine ⟨rfl, _, _, ⟨ao, an, co, cn, so, sn, rfl, h1.kept fun j hj => q5.block j (h1.lt j hj) (fun e => hpk (e ▸ hj)), h2⟩, ⟨A', c', rfl, q1, q3⟩, off_back q2, ?_⟩
    refine ⟨q5.os, q5.tape, q5.output, q5.size, fun j hj hn => q5.block j hj (fun e => hn (.inr (by rw [hL]; exact .inl e))), fun j hj => ?_⟩
    rcases hj with hf | rfl | ⟨hp, x, hx, rfl⟩
    · exact .inl (.inl hf)
    · exact .inl (.inr (by rw [hL]; exact .inl rfl))
    · rcases q4 with ⟨e1, _, e3⟩ | h4
      · exact .inl (.inr (by rw [hL]; exact .inr ⟨by rw [← e3]; exact hp, x, by rw [← e1]; exact hx, rfl⟩))
      · exact .inr (h4 x hx)
  syn := fun {F L g p D l} w h hl hd hi _ => by
    obtain ⟨ao, an, co, cn, so, sn, rfl, h1, h2⟩ := h
    obtain ⟨A, c, hL, hl1, hn⟩ := hl
    have ho := off_of hL hd
    refine (rsync_any h1 hl1 h2 ho hi.ok hi.cnt).mono ?_
    rintro e w' ⟨rfl, q1, q2, q3, q4⟩
    have hts : (syncP D l).2.1.ts = l.ts := by
      unfold syncP
      split
      · rfl
      split
      · rfl
      · rfl
    refine ⟨rfl, _, L, ⟨ao, an, co, cn, so, sn, rfl, q1, q2⟩, ⟨A, c, by rw [hts]; exact hL, q3, hn⟩, hd, ?_⟩
    refine ⟨q4.os, q4.tape, q4.output, q4.size, fun j hj hn => q4.block j hj (fun e => hn (e.elim .inl (fun e => .inr (by rw [hL]; exact .inl e)))), fun j hj => .inl hj⟩
  room := fun {F L g p D l} w h hl hd hi _ => by
    obtain ⟨ao, an, co, cn, so, sn, rfl, h1, h2⟩ := h
    obtain ⟨A, c, hL, hl1, hn⟩ := hl
    refine (rroom_any h1 hl1 h2 hi.ok).mono ?_
    rintro e w' ⟨rfl, hb⟩
    exact ⟨rfl, _, L, ⟨ao, an, co, cn, so, sn, rfl, h1.step hb, h2⟩, ⟨A, c, hL, hl1.below hb, hn⟩, hd, (Fr.refl _ _).below hb⟩
  rst := fun {F L g p D l} B cB ts w h hl hd hi _ hB hBn hBo hn hs _ => by
    obtain ⟨ao, an, co, cn, so, sn, rfl, h1, h2⟩ := h
    obtain ⟨A, c, hL, hl1, hAn⟩ := hl
    have ho := off_of hL hd
    refine (rrestart_any h1 hl1 h2 ho hAn hi.ok hi.cnt B cB ts hB hBn (fun hp x hx => ⟨(hBo hp x hx).1, (hBo hp x hx).2.1, fun e => (hBo hp x hx).2.2 (by rw [hL]; exact .inl e)⟩) hn hs).mono ?_
    rintro e w' ⟨rfl, q1, q2, ⟨A', c', q3, q4, q5, q6⟩, q7⟩
    refine ⟨rfl, _, _, ⟨ao, an, co, cn, so, sn, rfl, q1, q2⟩, ⟨A', c', rfl, q3, q5⟩, off_back q4, ?_⟩
    refine ⟨q7.os, q7.tape, q7.output, q7.size, fun j hj hn => q7.block j hj (fun e => hn (e.elim .inl (fun e => .inr (by rw [hL]; exact .inl e)))), fun j hj => ?_⟩
    rcases hj with hf | rfl | ⟨hp, x, hx, rfl⟩
    · exact .inl (.inl hf)
    · exact .inl (.inr (by rw [hL]; exact .inl rfl))
    · rcases q6 with ⟨e1, _, e3⟩ | h4
      · exact .inl (.inr (by rw [hL]; exact .inr ⟨by rw [← e3]; exact hp, x, by rw [← e1]; exact hx, rfl⟩))
      · exact .inr (h4 x hx)

end Rd
end Go.Proofs.YtjehjbkcdpidbaaGreat

/- The landed log and the document's, each on its device, and the block that holds them; no condition. -/
namespace Go.Proofs.YtjehjbkcdpidbaaGreat
namespace Rd
open Go.RowKit Sc Bk

/-- both sides, no block shared, and the block of the four pointers -/
structure Two (Rep : RepT) (LRep : LRepT) (w0 W : World) (b g h : Nat) (vl vk : Option (Nat × Lg)) (F G : Nat → Prop) (D E : Dev) (o q : Option (Nat × Lg)) : Prop where
  s : Side Rep LRep W F g D o
  r : Side RDev DLog W G h E q
  cel : Cel W b 35 [.pointer (some ⟨g, 0, none⟩), .pointer (some ⟨h, 0, none⟩), ptrV vl, ptrV vk]
  bf : ¬ F b
  bg : ¬ G b
  dis : ∀ k, G k → ¬ F k
  bF : ∀ k, F k → w0.heap.size ≤ k
  bG : ∀ k, G k → w0.heap.size ≤ k
  bb : w0.heap.size ≤ b
  bel : Below w0.heap.size w0 W

section
variable {Rep : RepT} {LRep : LRepT} {w0 W W' : World} {b g h : Nat} {vl vk o q o' q' : Option (Nat × Lg)} {F G F' G' : Nat → Prop} {D E D' E' : Dev}

theorem Cel.fr {t : TypeId} {cs : List Value} (h : Cel W b t cs) (hf : Fr F F' W W') (hn : ¬ F b) : Cel W' b t cs := (hf.block b h.lt hn).trans h

theorem Two.actD (p : Two Rep LRep w0 W b g h vl vk F G D E o q) (h1 : Side Rep LRep W' F' g D' o') (h2 : Fr F F' W W') : Two Rep LRep w0 W' b g h vl vk F' G D' E o' q :=
  ⟨h1, p.r.kept docDev docLog (fun k hk => h2.block k (p.r.lt docDev docLog k hk) (p.dis k hk)), Cel.fr p.cel h2 p.bf,
    fun hk => (h2.foot b hk).elim p.bf (fun hs => by have := p.cel.lt; omega), p.bg,
    fun k hk hf => (h2.foot k hf).elim (p.dis k hk) (fun hs => by have := p.r.lt docDev docLog k hk; omega),
    fun k hk => (h2.foot k hk).elim (p.bF k) (fun hs => Nat.le_trans p.bel.size hs), p.bG, p.bb, p.bel.trans (h2.belowB p.bF p.bel.size)⟩

theorem Two.actR (HB : DevBase Rep) (HL : LogAll Rep LRep) (p : Two Rep LRep w0 W b g h vl vk F G D E o q) (h1 : Side RDev DLog W' G' h E' q') (h2 : Fr G G' W W') : Two Rep LRep w0 W' b g h vl vk F G' D E' o q' :=
  ⟨p.s.kept (devF_of HB) HL.log (fun k hk => h2.block k (p.s.lt (devF_of HB) HL.log k hk) (fun hr => p.dis k hr hk)), h1, Cel.fr p.cel h2 p.bg,
    p.bf, fun hk => (h2.foot b hk).elim p.bg (fun hs => by have := p.cel.lt; omega),
    fun k hk hf => (h2.foot k hk).elim (fun hg => p.dis k hg hf) (fun hs => by have := p.s.lt (devF_of HB) HL.log k hf; omega),
    p.bF, fun k hk => (h2.foot k hk).elim (p.bG k) (fun hs => Nat.le_trans p.bel.size hs), p.bb, p.bel.trans (h2.belowB p.bG p.bel.size)⟩

theorem Two.step (HB : DevBase Rep) (HL : LogAll Rep LRep) (p : Two Rep LRep w0 W b g h vl vk F G D E o q) (hb : Below W.heap.size W W') : Two Rep LRep w0 W' b g h vl vk F G D E o q :=
  ⟨p.s.kept (devF_of HB) HL.log (fun k hk => hb.block k (p.s.lt (devF_of HB) HL.log k hk)), p.r.kept docDev docLog (fun k hk => hb.block k (p.r.lt docDev docLog k hk)), (hb.block b p.cel.lt).trans p.cel,
    p.bf, p.bg, p.dis, p.bF, p.bG, p.bb, p.bel.trans (hb.mono p.bel.size)⟩

/-- another pointer is put into the block -/
theorem Two.put (HB : DevBase Rep) (HL : LogAll Rep LRep) (p : Two Rep LRep w0 W b g h vl vk F G D E o q) {vl' vk' : Option (Nat × Lg)} (hc : Cel W' b 35 [.pointer (some ⟨g, 0, none⟩), .pointer (some ⟨h, 0, none⟩), ptrV vl', ptrV vk'])
    (hk : ∀ k, k ≠ b → k < W.heap.size → W'.heap[k]? = W.heap[k]?) (hb : Below w0.heap.size W W') : Two Rep LRep w0 W' b g h vl' vk' F G D E o q :=
  ⟨p.s.kept (devF_of HB) HL.log (fun k hF => hk k (fun e => p.bf (e ▸ hF)) (p.s.lt (devF_of HB) HL.log k hF)), p.r.kept docDev docLog (fun k hG => hk k (fun e => p.bg (e ▸ hG)) (p.r.lt docDev docLog k hG)), hc,
    p.bf, p.bg, p.dis, p.bF, p.bG, p.bb, p.bel.trans hb⟩

/-- a log that may be asked: what it keeps -/
structure Two2 (D : Dev) (o q : Option (Nat × Lg)) (n : Nat) : Prop where
  same : o.map (·.2) = q.map (·.2)
  lg : ∀ p l, o = some (p, l) → D.down = false → LgIn D l ∧ l.cnt ≤ 4611686018427387904 + n

theorem two_open {o q : Option (Nat × Lg)} (hok : DevOk D) (ho : o.map (·.2) = (openP D).2.1) (hq : q.map (·.2) = (openP D).2.1) (n : Nat) : Two2 (openP D).1 o q n :=
  ⟨ho.trans hq.symm, fun p l e _ => by
    rw [e] at ho
    have h := open_in hok (l := l) ho.symm
    exact ⟨h.1, by have := h.2.1; omega⟩⟩

theorem two_fuse {n : Nat} (h : Two2 D o q n) (m : Int) : Two2 (fuD D m).1 o q n :=
  ⟨h.same, fun p l e hd => by
    have hd' : D.down = false := by
      unfold fuD at hd
      split at hd
      · exact hd
      split at hd
      · exact hd
      · exact hd
    have := h.lg p l e hd'
    exact ⟨this.1.seen (fuD_len D m) (fun j _ => fuse_seen D m j), this.2⟩⟩

end

end Rd
end Go.Proofs.YtjehjbkcdpidbaaGreat

/- Both logs are opened: alike; contract; over what is asked; no condition. -/
namespace Go.Proofs.YtjehjbkcdpidbaaGreat
namespace Rd
open Go.RowKit Sc Bk

attribute [local go_sem ↓] Go.wp_at_zero Go.wp_at_succ
attribute [local go_sem] floatUpon pick

section
variable {Rep : RepT} {LRep : LRepT} {w0 W : World} {b g h : Nat} {vl vk o q : Option (Nat × Lg)} {F G : Nat → Prop} {D : Dev}

theorem Two.lt (p : Two Rep LRep w0 W b g h vl vk F G D D o q) : b < W.heap.size := p.cel.lt

set_option maxRecDepth 20000 in
set_option maxHeartbeats 8000000 in
theorem both_open (HB : DevBase Rep) (HL : LogAll Rep LRep) (p : Two Rep LRep w0 W b g h vl vk F G D D o q) :
    Calls Tryz.prog 8 #[.pointer (some ⟨b, 0, none⟩)] W fun e W' => e = .returned (.bool true) ∧ ∃ (F' G' : Nat → Prop) (o' q' : Option (Nat × Lg)), Two Rep LRep w0 W' b g h o' q' F' G' (openP D).1 (openP D).1 o' q' ∧ o'.map (·.2) = (openP D).2.1 ∧ q'.map (·.2) = (openP D).2.1 := by
  have HP := Lib.hid p
  have k0 := p.cel.cell (i := 0) rfl
  have k1 := p.cel.cell (i := 1) rfl
  clear p
  go_enter Tryz.func8, Tryz.ntmps8
  go_wp2_with fail
  refine (HP.out.s.opn HL.log).mono ?_
  rintro e W1 ⟨o', rfl, ho', F', hs1, hf1⟩
  have HP1 := Lib.hid (HP.out.actD hs1 hf1)
  have kk1 := HP1.out.cel.cell (i := 1) rfl
  have HO := Lib.hid ho'
  clear hs1 hf1 k0 k1 ho' HP
  cases hv : (openP D).2.1 with
  | none =>
    obtain rfl := op_none (HO.out.trans hv)
    have HV := Lib.hid hv
    clear hv
    unfold ptrV
    go_wp2_with fail
    refine (HP1.out.r.opn docLog).mono ?_
    rintro e W2 ⟨q', rfl, ho', G', hs2, hf2⟩
    have HP2 := Lib.hid (HP1.out.actR HB HL hs2 hf2)
    have hv := HV.out
    obtain rfl := op_none (ho'.trans hv)
    clear hs2 hf2 HV
    have HQ := Lib.hid ho'
    clear ho' kk1 HP1 hv
    have q0 := beq_self_eq_true (openP D).2.2
    obtain ⟨u2, hu2⟩ : ∃ u, u = ptrV vl := ⟨_, rfl⟩
    obtain ⟨u3, hu3⟩ : ∃ u, u = ptrV vk := ⟨_, rfl⟩
    have d2 : W2.cell? ⟨b, 2, none⟩ = some u2 := by rw [hu2]; exact HP2.out.cel.cell (i := 2) rfl
    have c2 := HP2.out.cel.free (i := 2)
    have c3 := (HP2.out.cel.set (i := 2) (v := ptrV none)).free (i := 3)
    have d3 : (W2.setCell ⟨b, 2, none⟩ (ptrV none)).cell? ⟨b, 3, none⟩ = some u3 := by rw [hu3]; exact (HP2.out.cel.set (i := 2) (v := ptrV none)).cell (i := 3) rfl
    unfold ptrV at c3 d3
    clear hu2 hu3
    have z := (HP2.out.cel.set (i := 2) (v := ptrV none)).set (i := 3) (v := ptrV none)
    have HZ := Lib.hid z
    clear z
    unfold ptrV
    generalize (openP D).2.2 = er at q0 ⊢
    go_wp2_with fail
    go_ret
    refine ⟨rfl, _, _, _, _, HP2.out.put HB HL (by simpa [ptrV] using HZ.out) (fun k hn hl => ?_) ?_, HO.out, HQ.out⟩
    · rw [Below.heap_setCell _ _ _ k hn, Below.heap_setCell _ _ _ k hn]
    · exact ((Below.refl _ _).setCell (show w0.heap.size ≤ (⟨b, 2, none⟩ : Addr).block from HP2.out.bb) _).setCell (show w0.heap.size ≤ (⟨b, 3, none⟩ : Addr).block from HP2.out.bb) _
  | some l =>
    obtain ⟨x, rfl⟩ := op_some (HO.out.trans hv)
    have HV := Lib.hid hv
    clear hv
    unfold ptrV
    go_wp2_with fail
    refine (HP1.out.r.opn docLog).mono ?_
    rintro e W2 ⟨q', rfl, ho', G', hs2, hf2⟩
    have HP2 := Lib.hid (HP1.out.actR HB HL hs2 hf2)
    have hv := HV.out
    obtain ⟨y, rfl⟩ := op_some (ho'.trans hv)
    clear hs2 hf2 HV
    have HQ := Lib.hid ho'
    clear ho' kk1 HP1 hv
    have q0 := beq_self_eq_true (openP D).2.2
    obtain ⟨u2, hu2⟩ : ∃ u, u = ptrV vl := ⟨_, rfl⟩
    obtain ⟨u3, hu3⟩ : ∃ u, u = ptrV vk := ⟨_, rfl⟩
    have d2 : W2.cell? ⟨b, 2, none⟩ = some u2 := by rw [hu2]; exact HP2.out.cel.cell (i := 2) rfl
    have c2 := HP2.out.cel.free (i := 2)
    have c3 := (HP2.out.cel.set (i := 2) (v := ptrV (some (x, l)))).free (i := 3)
    have d3 : (W2.setCell ⟨b, 2, none⟩ (ptrV (some (x, l)))).cell? ⟨b, 3, none⟩ = some u3 := by rw [hu3]; exact (HP2.out.cel.set (i := 2) (v := ptrV (some (x, l)))).cell (i := 3) rfl
    unfold ptrV at c3 d3
    clear hu2 hu3
    have z := (HP2.out.cel.set (i := 2) (v := ptrV (some (x, l)))).set (i := 3) (v := ptrV (some (y, l)))
    have HZ := Lib.hid z
    clear z
    unfold ptrV
    generalize (openP D).2.2 = er at q0 ⊢
    go_wp2_with fail
    go_ret
    refine ⟨rfl, _, _, _, _, HP2.out.put HB HL (by simpa [ptrV] using HZ.out) (fun k hn hl => ?_) ?_, HO.out, HQ.out⟩
    · rw [Below.heap_setCell _ _ _ k hn, Below.heap_setCell _ _ _ k hn]
    · exact ((Below.refl _ _).setCell (show w0.heap.size ≤ (⟨b, 2, none⟩ : Addr).block from HP2.out.bb) _).setCell (show w0.heap.size ≤ (⟨b, 3, none⟩ : Addr).block from HP2.out.bb) _

end

end Rd
end Go.Proofs.YtjehjbkcdpidbaaGreat

/- The chapter's example holds of the landed log; over what is asked; no condition. -/
namespace Go.Proofs.YtjehjbkcdpidbaaGreat
namespace Rd
open Go.RowKit Sc Bk

attribute [local go_sem ↓] Go.wp_at_zero Go.wp_at_succ
attribute [local go_sem] floatUpon pick

variable {Rep : RepT} {LRep : LRepT}

theorem below_drew (B : Nat) (W : World) (n : Nat) : Below B W (W.drewN n) := ⟨rfl, rfl, rfl, Nat.le_refl _, fun _ _ => rfl⟩

def tA : ByteArray := ⟨#[97]⟩
def tB : ByteArray := ⟨#[98]⟩

set_option maxRecDepth 20000 in
set_option maxHeartbeats 4000000 in
theorem works_any (HB : DevBase Rep) (HL : LogAll Rep LRep) (w : World) :
    Calls Tryz.prog 7 #[] w fun e w' => e = .returned (.bool true) ∧ Below w.heap.size w w' := by
  have HD := devF_of HB
  obtain ⟨D1, ho1, i1, c1, k1, n1, in1⟩ := fresh_open (n := 20) (by omega) (by omega)
  have ha1 : appendP D1 ⟨1, 0, [], [], 0⟩ tA = (⟨1, 0, [], [tA], 0⟩, 0) := app_fits (by decide) (by unfold roomN areaN; rw [n1]; decide)
  have in2 := app_in k1 in1 tA
  rw [ha1] at in2
  obtain ⟨D3, hs3, i3, c3, k3, n3, in3⟩ := sync_idle i1 k1 in2 (by decide) (by decide)
  have ha4 : appendP D3 ⟨1 + 1, 0, [] ++ waitL ⟨1, 0, [], [tA], 0⟩, [tA], [tA].length⟩ tB = (⟨1 + 1, 0, [] ++ waitL ⟨1, 0, [], [tA], 0⟩, [tA] ++ [tB], [tA].length⟩, 0) := app_fits (by decide) (by
    unfold roomN areaN
    rw [n3, n1]
    have h1 : (waitL ⟨1, 0, [], [tA], 0⟩).length = 7 := by
      show (frs [tA] 0 1).length = 7
      rw [frs_succ (by omega) (by decide), frs_same, List.nil_append, Su.frameL_len]; rfl
    have h2 : waitL ⟨1 + 1, 0, [] ++ waitL ⟨1, 0, [], [tA], 0⟩, [tA], [tA].length⟩ = [] := frs_same _ _
    simp only [List.nil_append] at h2 ⊢
    rw [h1, h2]; decide)
  have in4 := app_in k3 in3 tB
  rw [ha4] at in4
  have ho5 := reopen_crash k3 in4 c3 (by decide) []
  have in5 : LgIn (crD D3 []) ⟨1 + 1, 0, [] ++ waitL ⟨1, 0, [], [tA], 0⟩, ([tA] ++ [tB]).take [tA].length, [tA].length⟩ := by
    have := open_in (crD_ok k3 []) (l := ⟨1 + 1, 0, [] ++ waitL ⟨1, 0, [], [tA], 0⟩, ([tA] ++ [tB]).take [tA].length, [tA].length⟩) (by rw [ho5])
    rw [ho5] at this
    exact this.1
  have H1 := Lib.hid (And.intro ho1 (And.intro ha1 (And.intro hs3 (And.intro ha4 ho5))))
  have H2 := Lib.hid (And.intro in1 (And.intro in2 (And.intro in3 (And.intro in4 in5))))
  have H3 := Lib.hid (And.intro i1.2 i3.2)
  clear ho1 ha1 hs3 ha4 ho5 in1 in2 in3 in4 in5 i1 c1 k1 n1 i3 c3 k3 n3
  go_enter Tryz.func7, Tryz.ntmps7
  go_wp2_with fail
  refine (HB.new 20 w ⟨by omega, by omega⟩).mono ?_
  rintro e w1 (⟨_, _, F1, g, rfl, hr1, hF1, hb1⟩ | ⟨hno, _, _⟩)
  case inr => exact absurd ⟨by omega, by omega⟩ hno
  have O1 : Hid (OneS Rep LRep w w1 F1 g (new0 20) none) := Lib.hid ⟨hr1, hF1, hb1⟩
  clear hr1 hF1 hb1
  go_wp2_with fail
  refine (O1.out.s.opn HL.log).mono ?_
  rintro e w2 ⟨o', rfl, ho', F2, hs2, hf2⟩
  rw [H1.out.1] at ho' hs2 ⊢
  obtain ⟨p, rfl⟩ := op_some ho'
  have O2 := Lib.hid (O1.out.act hs2 hf2)
  clear ho' hs2 hf2 O1
  unfold ptrV
  go_wp2_with fail
  refine (O2.out.s.app HL.log H2.out.1 H3.out.1 tA (by decide)).mono ?_
  rintro e w3 ⟨rfl, F3, hs3, hf3⟩
  rw [H1.out.2.1] at hs3 ⊢
  have O3 := Lib.hid (O2.out.act hs3 hf3)
  clear hs3 hf3 O2
  go_wp2_with fail
  refine (O3.out.s.syn HL.log H2.out.2.1 H3.out.1).mono ?_
  rintro e w4 ⟨rfl, F4, hs4, hf4⟩
  rw [H1.out.2.2.1] at hs4 ⊢
  have O4 := Lib.hid (O3.out.act hs4 hf4)
  clear hs4 hf4 O3
  go_wp2_with fail
  refine (O4.out.s.app HL.log H2.out.2.2.1 H3.out.2 tB (by decide)).mono ?_
  rintro e w5 ⟨rfl, F5, hs5, hf5⟩
  rw [H1.out.2.2.2.1] at hs5 ⊢
  have O5 := Lib.hid (O4.out.act hs5 hf5)
  clear hs5 hf5 O4
  go_wp2_with fail
  refine (O5.out.s.synced HL H2.out.2.2.2.1 H3.out.2).mono ?_
  rintro e w6 ⟨rfl, F6, hs6, hf6⟩
  have O6 := Lib.hid (O5.out.act hs6 hf6)
  clear hs6 hf6 O5
  go_wp2_with fail
  refine (O6.out.s.crash HD none 0 [] (fun h => absurd h (by simp)) (fun h => absurd h (by simp)) (by decide) (fun x hx => by cases hx)).mono ?_
  rintro e w7 ⟨rfl, F7, hs7, hf7⟩
  have O7 := Lib.hid (O6.out.act hs7 hf7)
  clear hs7 hf7 O6
  go_wp2_with fail
  refine (O7.out.s.opn HL.log).mono ?_
  rintro e w8 ⟨o', rfl, ho', F8, hs8, hf8⟩
  rw [H1.out.2.2.2.2] at ho' hs8 ⊢
  obtain ⟨q, rfl⟩ := op_some ho'
  have O8 := Lib.hid (O7.out.act hs8 hf8)
  clear ho' hs8 hf8 O7
  unfold ptrV
  go_wp2_with fail
  refine (O8.out.s.texts HL H2.out.2.2.2.2 rfl).mono ?_
  rintro e w9 ⟨v, F9, rfl, hrow, hno, hs9, hf9⟩
  have O9 := Lib.hid (O8.out.act hs9 hf9)
  obtain ⟨A, c, rfl, hst⟩ := strs_of_own2 hrow rfl
  have hlen : ((⟨1 + 1, 0, [] ++ waitL ⟨1, 0, [], [tA], 0⟩, ([tA] ++ [tB]).take [tA].length, [tA].length⟩ : Lg).ts).length = 1 := rfl
  rw [hlen]
  have HSt : Hid (StrsAt w9 A [tA]) := Lib.hid hst
  clear hrow hno hs9 hf9 O8 hst hlen
  go_wp2_with fail
  have hB : Below w9.heap.size w9 (w9.alloc (.cells #[.string ⟨#[97]⟩] 9)) := (Below.refl _ w9).alloc (Nat.le_refl _) _
  have hsame := same_any A (some ⟨w9.heap.size, 0, none⟩) c 1 [tA] [tA] (w9.alloc (.cells #[.string ⟨#[97]⟩] 9)) (HSt.out.below hB) (StrsAt.blk (t := 9) (heap_alloc_new w9 _)) (by decide)
  rw [show decide ([tA] = [tA]) = true from by simp] at hsame
  have HSm := Lib.hid hsame
  have HBl := Lib.hid (O9.out.bel.trans (hB.mono O9.out.bel.size))
  clear hsame hB
  refine HSm.out.mono ?_
  rintro e w10 ⟨rfl, n, rfl⟩
  go_wp2_with fail
  go_ret
  exact ⟨rfl, HBl.out.trans (below_drew _ _ n)⟩

end Rd
end Go.Proofs.YtjehjbkcdpidbaaGreat

/- A new device whose first opening is cut off opens behind the crash as a log without texts; no condition. -/
namespace Go.Proofs.YtjehjbkcdpidbaaGreat
namespace Rd
open Go.RowKit Sc Bk

def cutHead (c : Nat) : List UInt8 := (headL 1 0 0).take c ++ (List.replicate 64 (0 : UInt8)).drop c

theorem cuts_all : ((List.range 65).all fun c => decide (cutHead c = headL 1 0 0) || decide (cOf (cutHead c) = 0) || !decide (cutHead c = headL (cOf (cutHead c)) (aOf (cutHead c)) (lOf (cutHead c)))) = true := by kernel_rfl

theorem cut_head {c ab : Nat} (hc : c ≤ 64) (h : okH ab (cutHead c)) : cutHead c = headL 1 0 0 := by
  have := List.all_eq_true.1 cuts_all c (List.mem_range.2 (by omega))
  simp only [Bool.or_eq_true, decide_eq_true_eq, Bool.not_eq_true', decide_eq_false_iff_not] at this
  obtain ⟨h1, _, _, _, h5⟩ := h
  rcases this with (h6 | h6) | h6
  · exact h6
  · omega
  · exact absurd h5 h6

section
variable {D : Dev}

/-- a device of bytes 0, but for its sector 1, that has some of a head's bytes -/
structure Part1 (D : Dev) (n : Nat) : Prop where
  ok : DevOk D
  idle : Idle D
  len : D.on.length = n
  v : ∀ j, j < n → j ≠ 1 → flushF D j = zero64
  v1 : flushF D 1 = zero64 ∨ ∃ c, c ≤ 64 ∧ (flushF D 1).data.toList = cutHead c

theorem hds_succ (D : Dev) (i : Nat) : hdsP D (i + 1) = if okH (areaN D) (flushF D i).data.toList ∧ (∀ h, hdsP D i = some h → h.1 < cOf (flushF D i).data.toList) then
    some (cOf (flushF D i).data.toList, aOf (flushF D i).data.toList, lOf (flushF D i).data.toList) else hdsP D i := rfl

theorem part_open {n : Nat} (h : Part1 D n) (h4 : 4 ≤ n) : ∃ D2, openP D = (D2, some ⟨1, 0, [], [], 0⟩, 0) ∧ Idle D2 ∧ DevOk D2 ∧ D2.on.length = n ∧ LgIn D2 ⟨1, 0, [], [], 0⟩ := by
  have hl := h.len
  have h0 : hdsP D 1 = none := by
    rw [hds_succ, if_neg]
    · rfl
    · rintro ⟨g, _⟩
      rw [h.v 0 (by omega) (by omega)] at g
      exact zero_head _ g
  by_cases hk : okH (areaN D) (flushF D 1).data.toList
  · have hhd : (flushF D 1).data.toList = headL 1 0 0 := by
      rcases h.v1 with e | ⟨c, hc, e⟩
      · rw [e] at hk; exact absurd hk (zero_head _)
      · rw [e] at hk ⊢; exact cut_head hc hk
    have hh : hdsP D 2 = some (1, 0, 0) := by
      rw [hds_succ, if_pos ⟨hk, fun x e => by rw [h0] at e; cases e⟩, hhd]
      rw [c_head 0 0 (by decide), a_head (by decide), l_head 1 0 (by decide)]
    have he : openP D = (D, some ⟨1, 0, [], [], 0⟩, 0) := by
      have hs0 : storedL D 0 0 = [] := by unfold storedL; simp
      have ha : Su.allR ⟨(([] : List UInt8)).toArray⟩ = ([], 0, 0) := rfl
      unfold openP
      rw [if_neg (by omega), if_neg (by rw [h.idle.2]; simp), hh]
      simp only
      rw [hs0, ha, if_pos rfl]
      rfl
    refine ⟨D, he, h.idle, h.ok, hl, ?_⟩
    have := open_in h.ok (l := ⟨1, 0, [], [], 0⟩) (by rw [he])
    rw [he] at this
    exact this.1
  · have hh : hdsP D 2 = none := by rw [hds_succ, if_neg (fun hc => hk hc.1)]; exact h0
    have hi : (andD (wrD D 1 (headB 1 0 0)) flD).2 = 0 ∧ Idle (andD (wrD D 1 (headB 1 0 0)) flD).1 :=
      and_idle (wrD_idle (k := 1) h.idle h.ok (by omega) (headB_size _ _ _)) fun D1 _ i1 => flD_idle i1
    rcases first_in h.ok h.idle.2 (by omega) hh with ⟨p1, p2, p3, p4⟩ | ⟨p1, _⟩
    case inr => rw [hi.1] at p1; cases p1
    refine ⟨_, ?_, hi.2, ?_, ?_, p4⟩
    · unfold openP
      rw [if_neg (by omega), if_neg (by rw [h.idle.2]; simp), hh]
      simp only
      rw [if_pos p1]
    · unfold andD
      split
      · exact flD_ok (wrD_ok h.ok _ _)
      · exact wrD_ok h.ok _ _
    · refine (and_len (n := n) ?_ fun D h => ?_)
      · rw [wrD_on]; exact hl
      · rw [flD_len]; exact h

/-- what is on a device, and in its cache, ahead of its first flush -/
structure Ahead (D : Dev) (n : Nat) : Prop where
  on : D.on = List.replicate n zero64
  nl : D.new.length = n
  nw : ∀ j, j < n → j ≠ 1 → D.new.getD j nil0 = nil0
  n1 : D.new.getD 1 nil0 = nil0 ∨ D.new.getD 1 nil0 = headB 1 0 0

theorem ahead_crash {n : Nat} (hok : DevOk D) (h : Ahead D n) (h4 : 4 ≤ n) (ps : List Int) : Part1 (crD D ps) n := by
  have hl : D.on.length = n := by rw [h.on]; simp
  have hz : ∀ j, j < n → D.on.getD j nil0 = zero64 := fun j hj => by rw [h.on, List.getD_eq_getElem?_getD, List.getElem?_replicate, if_pos hj]; rfl
  refine ⟨crD_ok hok ps, cr_idle D ps, by rw [cr_len]; exact hl, fun j hj hj1 => ?_, ?_⟩
  · rw [cr_tear hok.len ps (by omega)]
    unfold tearF
    rw [if_pos (h.nw j hj hj1), hz j hj]
  · rw [cr_tear hok.len ps (by omega)]
    unfold tearF
    rcases h.n1 with e | e
    · rw [if_pos e, hz 1 (by omega)]; exact .inl rfl
    · right
      rw [if_neg (by rw [e]; exact not_nil (headB_size 1 0 0)), hz 1 (by omega), e]
      refine ⟨cutN (ps.getD (cnt D.new 1) 0), cut_le _, ?_⟩
      unfold torn cutHead
      rw [List.toList_toArray]
      unfold headB zero64
      rw [List.toList_toArray, List.toList_toArray]

/-- the first opening of a new device with a fuse, and a crash -/
theorem fused_open {n m : Nat} (h4 : 4 ≤ n) (hm : n ≤ 2048) (hf : m ≤ 1048576) (ps : List Int) :
    ∃ D2, openP (crD (openP ⟨(new0 n).on, (new0 n).new, m, false⟩).1 ps) = (D2, some ⟨1, 0, [], [], 0⟩, 0) ∧ Idle D2 ∧ DevOk D2 ∧ D2.on.length = n ∧ LgIn D2 ⟨1, 0, [], [], 0⟩ := by
  have hok0 := new0_ok (show 1 ≤ n by omega) hm
  have hok : DevOk ⟨(new0 n).on, (new0 n).new, m, false⟩ := ⟨hok0.len, hok0.pos, hok0.max, hok0.on64, hok0.new64, hf⟩
  have hl : (⟨(new0 n).on, (new0 n).new, m, false⟩ : Dev).on.length = n := by simp [new0]
  have hh : hdsP ⟨(new0 n).on, (new0 n).new, m, false⟩ 2 = none := new_heads h4
  have he : openP ⟨(new0 n).on, (new0 n).new, m, false⟩ = if (andD (wrD ⟨(new0 n).on, (new0 n).new, m, false⟩ 1 (headB 1 0 0)) flD).2 = 0 then ((andD (wrD ⟨(new0 n).on, (new0 n).new, m, false⟩ 1 (headB 1 0 0)) flD).1, some ⟨1, 0, [], [], 0⟩, 0) else ((andD (wrD ⟨(new0 n).on, (new0 n).new, m, false⟩ 1 (headB 1 0 0)) flD).1, none, (andD (wrD ⟨(new0 n).on, (new0 n).new, m, false⟩ 1 (headB 1 0 0)) flD).2) := by
    unfold openP
    rw [if_neg (by omega), if_neg (by simp), hh]
  have hdev := open_dev hok
  rcases first_in hok rfl (by omega) hh with ⟨p1, p2, p3, p4⟩ | ⟨p1, p2⟩
  · rw [he, if_pos p1] at hdev ⊢
    simp only at hdev ⊢
    have ho := reopen_crash hdev p4 p3 (by decide) ps
    refine ⟨_, ho, cr_idle _ _, crD_ok hdev ps, ?_, ?_⟩
    · rw [cr_len]
      refine (and_len (n := n) ?_ fun D h => ?_)
      · rw [wrD_on]; exact hl
      · rw [flD_len]; exact h
    · exact p4.seen (cr_len _ ps) fun j hj => cr_view hdev.len p3 ps hj
  · rw [he, if_neg (by rw [p1]; decide)] at hdev ⊢
    simp only at hdev ⊢
    refine part_open (ahead_crash hdev ?_ h4 ps) h4
    have hno : (new0 n).on = List.replicate n zero64 := rfl
    have hnn : (new0 n).new = List.replicate n nil0 := rfl
    have hnil : ∀ j, (List.replicate n nil0).getD j nil0 = nil0 := fun j => by
      rw [List.getD_eq_getElem?_getD, List.getElem?_replicate]
      split <;> rfl
    have hw : wrD ⟨(new0 n).on, (new0 n).new, m, false⟩ 1 (headB 1 0 0) = if (burn ⟨(new0 n).on, (new0 n).new, m, false⟩).2 = true then ((burn ⟨(new0 n).on, (new0 n).new, m, false⟩).1, 90) else (⟨(new0 n).on, (new0 n).new.set 1 (headB 1 0 0), (burn ⟨(new0 n).on, (new0 n).new, m, false⟩).1.left, (burn ⟨(new0 n).on, (new0 n).new, m, false⟩).1.down⟩, 0) :=
      wr_up (D := ⟨(new0 n).on, (new0 n).new, m, false⟩) (k := 1) rfl (by omega) (headB_size 1 0 0)
    have hb := burn_parts ⟨(new0 n).on, (new0 n).new, m, false⟩
    unfold andD at p1 ⊢
    by_cases hbt : (burn ⟨(new0 n).on, (new0 n).new, m, false⟩).2 = true
    · rw [if_pos hbt] at hw
      rw [hw, if_neg (show ¬ (90 : Int) = 0 from by decide)]
      refine ⟨by show (burn _).1.on = _; rw [hb.1]; rfl, ?_, fun j hj _ => ?_, .inl ?_⟩
      · show (burn _).1.new.length = n
        rw [hb.2.1]; simp [new0]
      · show (burn _).1.new.getD j nil0 = nil0
        rw [hb.2.1]; exact hnil j
      · show (burn _).1.new.getD 1 nil0 = nil0
        rw [hb.2.1]; exact hnil 1
    · rw [if_neg hbt] at hw
      rw [hw, if_pos rfl] at p1 ⊢
      simp only at p1 ⊢
      generalize hE : (⟨(new0 n).on, (new0 n).new.set 1 (headB 1 0 0), (burn ⟨(new0 n).on, (new0 n).new, m, false⟩).1.left, (burn ⟨(new0 n).on, (new0 n).new, m, false⟩).1.down⟩ : Dev) = E at p1 ⊢
      have hEn : E.on = List.replicate n zero64 := by rw [← hE]; rfl
      have hEw : E.new = (List.replicate n nil0).set 1 (headB 1 0 0) := by rw [← hE]; rfl
      have hfl : (flD E).1.on = E.on ∧ (flD E).1.new = E.new := by
        have hb2 := burn_parts E
        unfold flD at p1 ⊢
        split
        · exact ⟨rfl, rfl⟩
        next hd =>
          rw [if_neg hd] at p1
          split
          · exact ⟨hb2.1, hb2.2.1⟩
          next hb3 => rw [if_neg hb3] at p1; cases p1
      refine ⟨by rw [hfl.1, hEn], by rw [hfl.2, hEw]; simp, fun j hj hj1 => ?_, .inr ?_⟩
      · rw [hfl.2, hEw, List.getD_eq_getElem?_getD, List.getElem?_set_ne (Ne.symm hj1), ← List.getD_eq_getElem?_getD]
        exact hnil j
      · rw [hfl.2, hEw, List.getD_eq_getElem?_getD, List.getElem?_set_self (by simp; omega)]; rfl

end

end Rd
end Go.Proofs.YtjehjbkcdpidbaaGreat

/- A slice of numbers as an argument: what its reading says. -/
namespace Go.Proofs.YtjehjbkcdpidbaaGreat
namespace Sc
open Go.ChangeShapes Go.WideShapes Go.ChangeAt Go.RowKit Go.Joins Go.Deep Bk

/-- the value is a slice of these numbers -/
def IntsOf (w : World) (v : Value) (l : List Int) : Prop :=
  ∃ (A : Option Addr) (c : Nat), v = .slice A l.length c ∧ IntsAt w A l ∧ l.length * 8 ≤ reachBytes ∧ ∀ n ∈ l, -9223372036854775808 ≤ n ∧ n ≤ 9223372036854775807

section
variable {H : Type} {enc : TypeId × Value → H} {W : World}

set_option maxRecDepth 20000 in
theorem open_intsOf {base : Nat} {v : Value} {d : DataW H} {p : List MemPlace} {ts : List TypeId} {ds : List (DataW H)} {j : Nat}
    (hsz : (DataW.weightsEach Tryz.prog ts ds).all (· ≤ reachBytes) = true) (hj : ts[j]? = some 38) (hd : ds[j]? = some d)
    (hv : Value.okWide Tryz.prog W .any base 38 v) (h : DataW.Trod enc Tryz.prog W 0 (fun _ => true) true 38 v d p) (hl : ∀ x ∈ p, x.block < W.heap.size) : ∃ l, IntsOf W v l := by
  obtain ⟨a0, len, cap, rfl⟩ := okWide_slice Tryz.underlying38 hv
  obtain ⟨fuel, hf⟩ := h
  obtain ⟨A, c, L, e, q1, q2, _, _, q5, _⟩ := field_ints Tryz.underlying38 Tryz.underlying3 (by kernel_rfl) (by kernel_rfl) hf (arg_weights hsz hj hd) hl
  exact ⟨L, A, c, e, q1, q2, q5⟩

end

end Sc
end Go.Proofs.YtjehjbkcdpidbaaGreat
