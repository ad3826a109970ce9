/- Parts of the proof, joined: ShLaw1, ShEx, ShLaw2, ShLaw3; their conditions stand with each. -/
import Derived.Test.YtiobhbagjokpcaaGreatM17
import Derived.Test.YtiobhbagjokpcaaGreatM21
import Derived.Test.YtiobhbagjokpcaaGreatM43
import Derived.Test.YtiobhbagjokpcaaGreatM45

/- The laws over the landed shelf: a shelf that was made; the chapter's example; no condition but the range. -/
namespace Go.Proofs.YtiobhbagjokpcaaGreat
namespace Sh
open Go.RowKit Bk Ch Lt Rc Tr

attribute [local go_sem ↓] Go.wp_at_zero Go.wp_at_succ
attribute [local go_sem] floatUpon pick

/-- a landed shelf of the call's own -/
structure Live (W w : World) (g : Nat) (F : Nat → Prop) (s : Shf) : Prop where
  rep : LRep w F g s
  ok : ShOk s
  new : ∀ k, F k → W.heap.size ≤ k
  bel : Below W.heap.size W w

theorem Live.step {W w w' : World} {g : Nat} {F : Nat → Prop} {s s' : Shf} (h : Live W w g F s) (hr : LRep w' (Gr F w w') g s') (ho : ShOk s') (hf : Far F w w') : Live W w' g (Gr F w w') s' :=
  ⟨hr, ho, fun k hk => hk.elim (h.new k) (fun h1 => Nat.le_trans h.bel.size h1.1),
   h.bel.trans ⟨hf.st.os, hf.st.tape, hf.st.output, hf.size, fun k hk => hf.block k (Nat.lt_of_lt_of_le hk h.bel.size) (fun hF => by have := h.new k hF; omega)⟩⟩

theorem Live.below {W w w' : World} {g : Nat} {F : Nat → Prop} {s : Shf} (h : Live W w g F s) (hb : Below w.heap.size w w') : Live W w' g F s :=
  ⟨h.rep.below hb, h.ok, h.new, h.bel.trans (hb.mono h.bel.size)⟩

set_option maxRecDepth 20000 in
set_option maxHeartbeats 4000000 in
theorem made_any (W : World) (v : Value) (L : List RI) (hv : RecsOf W v L) :
    Calls Tryz.prog 16 #[v] W fun e w' => ∃ g F s, e = .returned (.pointer (some ⟨g, 0, none⟩)) ∧ Live W w' g F s := by
  obtain ⟨A, c, rfl, hat, hl16, hok⟩ := hv
  have rb : reachBytes = 140737488351232 := rfl
  have hlen : (L.length : Int) ≤ 9223372036854775807 := by omega
  have HAt := Lib.hid hat
  have HOk := Lib.hid hok
  have HNew := Lib.hid (lnew_any W)
  clear hat hok hl16 rb
  go_enter Tryz.func16, Tryz.ntmps16
  go_wp2_with fail
  refine HNew.out.mono ?_
  rintro e1 w1 ⟨g, F, rfl, hr, hF, hb⟩
  have HLv : Hid (Live W w1 g F empty) := Lib.hid ⟨hr, ok_empty, hF, hb⟩
  clear hr hF hb HNew
  go_wp2_with fail
  go_loopw [4] (fun iv wr => ∃ (j : Nat) (F : Nat → Prop) (s : Shf), j ≤ L.length ∧ j ≤ 60 ∧ iv = .int .i64 (j : Int) ∧ Hid (Live W wr g F s)) (fun iv _ => L.length - (RowKit.intOf iv).toNat)
  case atStart => exact ⟨0, F, empty, by omega, by omega, rfl, HLv⟩
  case round =>
    obtain ⟨j, F, s, hj, hj2, rfl, hL⟩ := hrel
    clear HLv
    by_cases hlt : j < L.length ∧ j < 60
    · obtain ⟨hlt, hlt2⟩ := hlt
      have pj : (j : Int) < (L.length : Int) := by omega
      have pj2 : (j : Int) < 60 := by omega
      obtain ⟨ad, rfl, hab, hc⟩ := HAt.out (by omega)
      have hc2 := hc j hlt
      have hval := HOk.out _ (List.getElem_mem hlt)
      generalize L[j] = X at hc2 hval
      have HX : Hid (∀ V, Below W.heap.size W V → ∀ (q : Nat) (v : Value), (rcs X)[q]? = some v → V.cell? (ad.add (j * 9 + q)) = some v) := Lib.hid (fun V hb q v hq => by
        rw [cell_kept hb _ (by rw [st_block]; exact hab)]
        exact hc2 q v hq)
      have HAp := Lib.hid (show Calls Tryz.prog 10 #[.pointer (some ⟨g, 0, none⟩), .agg (rcs X).toArray] wr (fun e w' => e = .returned (.int .i64 (applyP s X.l).2) ∧ LRep w' (Gr F wr w') g (applyP s X.l).1 ∧ Far F wr w') from by
        obtain ⟨bc, bp, v, K, P, h⟩ := hL.out.rep
        exact lapply_any h hL.out.ok X (hval.below hL.out.bel))
      have x0 := HX.out _ hL.out.bel 0 _ rfl
      have x1 := HX.out _ hL.out.bel 1 _ rfl
      have x2 := HX.out _ hL.out.bel 2 _ rfl
      have x3 := HX.out _ hL.out.bel 3 _ rfl
      have x4 := HX.out _ hL.out.bel 4 _ rfl
      have x5 := HX.out _ hL.out.bel 5 _ rfl
      have x6 := HX.out _ hL.out.bel 6 _ rfl
      have x7 := HX.out _ hL.out.bel 7 _ rfl
      have x8 := HX.out _ hL.out.bel 8 _ rfl
      rw [← Lt.add_field _ _ _ (by omega)] at x1 x2 x3 x4 x5 x6 x7 x8
      rw [Nat.add_zero] at x0
      clear hc hc2 hval hab
      unfold rcs at HAp
      go_wp2_with fail
      refine HAp.out.mono ?_
      rintro e w2 ⟨rfl, hr, hf⟩
      have HL2 := Lib.hid (hL.out.step hr (apply_ok hL.out.ok _) hf)
      clear hr hf x0 x1 x2 x3 x4 x5 x6 x7 x8 HAp
      go_wp2_with fail
      go_roundw
      case rel => exact ⟨j + 1, _, _, by omega, by omega, by go_num, HL2⟩
      case measure => simp [RowKit.intOf]; omega
    · have hx := hL
      by_cases hlt1 : j < L.length
      · have pj : (j : Int) < (L.length : Int) := by omega
        have pj2 : ¬ (j : Int) < 60 := by omega
        go_wp2_with fail
        go_ret
        exact ⟨g, rfl, F, s, hx.out⟩
      · have pj : ¬ (j : Int) < (L.length : Int) := by omega
        go_wp2_with fail
        go_ret
        exact ⟨g, rfl, F, s, hx.out⟩

end Sh
end Go.Proofs.YtiobhbagjokpcaaGreat

/- The chapter's example of shelves, in plain terms; no condition. -/
namespace Go.Proofs.YtiobhbagjokpcaaGreat
namespace Sh
open Ch Rc Lt

def kB : ByteArray := ⟨#[107]⟩
def xB : ByteArray := ⟨#[120]⟩
def exP : Rec := ⟨1, 5, 0, 0, ⟨#[]⟩, ⟨#[]⟩, false, [], [⟨kB, xB, false⟩]⟩
def ex1 : Shf := ⟨[], [exP], [], 0⟩
def ex2 : Shf := ⟨[⟨kB, [⟨9, xB, false⟩]⟩], [], [(5, 9)], 0⟩

theorem exP_ok : RecOk exP := by
  refine ⟨⟨.inr ?_, ?_, ?_, ?_⟩, (Rc.kind_1 rfl).2 ?_⟩
  · exact (by decide : txnOk 5)
  · exact (by decide : stampOk 0)
  · decide
  · decide
  · refine ⟨⟨rfl, rfl, rfl⟩, by decide, by decide, Rises.nil, by decide, fun x hx => ?_, fun i hi => ?_⟩
    · obtain rfl : x = ⟨kB, xB, false⟩ := by simpa [exP] using hx
      exact (by decide : wrOk ⟨kB, xB, false⟩)
    · obtain rfl : i = 0 := by simp [exP] at hi; exact hi
      exact ⟨(by decide : keyOk kB), fun h => absurd h (by omega)⟩

theorem ex_prep : applyP empty exP = (ex1, 0) := by
  rw [apply_prep exP_ok rfl]
  rfl

theorem ex_do : applyP ex1 (doR (5, 9)) = (ex2, 0) := by
  rw [apply_do (by decide) (by decide)]
  rfl

theorem ex_r1 : readP ex1 kB 9 = (3, noVr) := by rfl
theorem ex_r2 : readP ex2 kB 9 = (1, ⟨9, xB, false⟩) := by rfl
theorem ex_r3 : readP ex2 kB 8 = (0, noVr) := by rfl
theorem ex_st : stateP ex2 5 = (2, 9) := by rfl

end Sh
end Go.Proofs.YtiobhbagjokpcaaGreat

/- The chapter's example, as the laws ask it; no condition but the range. -/
namespace Go.Proofs.YtiobhbagjokpcaaGreat
namespace Sh
open Go.RowKit Bk Ch Lt Rc Tr

attribute [local go_sem ↓] Go.wp_at_zero Go.wp_at_succ
attribute [local go_sem] floatUpon pick

theorem Live.apply {W w : World} {g : Nat} {F : Nat → Prop} {s : Shf} (h : Live W w g F s) (x : RI) (hv : RecVal w x.A x.B x.c x.d x.l) :
    Calls Tryz.prog 10 #[.pointer (some ⟨g, 0, none⟩), .agg (rcs x).toArray] w fun e w' => e = .returned (.int .i64 (applyP s x.l).2) ∧ Live W w' g (Gr F w w') (applyP s x.l).1 ∧ Far F w w' := by
  obtain ⟨bc, bp, v, K, P, hl⟩ := h.rep
  refine (lapply_any hl h.ok x hv).mono ?_
  rintro e w' ⟨rfl, hr, hf⟩
  exact ⟨rfl, h.step hr (apply_ok h.ok _) hf, hf⟩

theorem Live.read {W w : World} {g : Nat} {F : Nat → Prop} {s : Shf} (h : Live W w g F s) (key : ByteArray) (t : Int) (hk : key.size ≤ maxLen) :
    Calls Tryz.prog 22 #[.pointer (some ⟨g, 0, none⟩), .string key, .int .i64 t] w fun e w' => e = .returned (.tuple #[.int .i64 (readP s key t).1, .agg (vcs (readP s key t).2).toArray]) ∧ Live W w' g F s ∧ Below w.heap.size w w' := by
  obtain ⟨bc, bp, v, K, P, hl⟩ := h.rep
  refine (lread_any hl h.ok key t hk).mono ?_
  rintro e w' ⟨rfl, hb⟩
  exact ⟨rfl, h.below hb, hb⟩

theorem Live.state {W w : World} {g : Nat} {F : Nat → Prop} {s : Shf} (h : Live W w g F s) (txn : Int) (h1 : -9223372036854775808 ≤ txn) (h2 : txn ≤ 9223372036854775807) :
    Calls Tryz.prog 23 #[.pointer (some ⟨g, 0, none⟩), .int .i64 txn] w fun e w' => e = .returned (.tuple #[.int .i64 (stateP s txn).1, .int .i64 (stateP s txn).2]) ∧ Live W w' g F s ∧ Below w.heap.size w w' := by
  obtain ⟨bc, bp, v, K, P, hl⟩ := h.rep
  refine (lstate_any hl h.ok txn h1 h2).mono ?_
  rintro e w' ⟨rfl, hb⟩
  exact ⟨rfl, h.below hb, hb⟩

theorem Live.lt {W w : World} {g : Nat} {F : Nat → Prop} {s : Shf} (h : Live W w g F s) : ∀ k, F k → k < w.heap.size := by
  obtain ⟨bc, bp, v, K, P, hl⟩ := h.rep
  exact hl.fl

theorem Live.since {V W w : World} {g : Nat} {F : Nat → Prop} {s : Shf} (h : Live W w g F s) (hb : Below V.heap.size V W) : Live V w g F s :=
  ⟨h.rep, h.ok, fun k hk => Nat.le_trans hb.size (h.new k hk), hb.trans (h.bel.mono hb.size)⟩

theorem exP_val (W : World) : RecVal (W.alloc (.cells #[.string kB, .string xB, .bool false] 45)) none (some ⟨W.heap.size, 0, none⟩) 0 1 exP := by
  exact ⟨fun h => absurd h (by decide), one_wr W kB xB false, ⟨exP_ok.rng, Nat.le_refl _, Nat.le_refl _, Nat.zero_le _, by unfold maxLen; omega⟩, fun _ => ⟨rfl, rfl⟩, fun h => by cases h⟩

theorem doR_val (W : World) (x : Int × Int) (h1 : txnOk x.1) (h2 : stampOk x.2) : RecVal W none none 0 0 (doR x) :=
  bare_val W 2 x.1 x.2 (doR_ok h1 h2)

section
variable {W w : World} {g : Nat} {F : Nat → Prop}

theorem wk_prep (h : Live W w g F empty) :
    Calls Tryz.prog 10 #[.pointer (some ⟨g, 0, none⟩), .agg #[.int .i64 1, .int .i64 5, .int .i64 0, .int .i64 0, .string ⟨#[]⟩, .string ⟨#[]⟩, .bool false, .slice none 0 0, .slice (some ⟨w.heap.size, 0, none⟩) 1 1]] (w.alloc (.cells #[.string ⟨#[107]⟩, .string ⟨#[120]⟩, .bool false] 45)) fun e w' => e = .returned (.int .i64 0) ∧ Live W w' g (Gr F (w.alloc (.cells #[.string ⟨#[107]⟩, .string ⟨#[120]⟩, .bool false] 45)) w') ex1 := by
  have h1 := (h.below ((Below.refl _ w).alloc (Nat.le_refl _) (.cells #[.string kB, .string xB, .bool false] 45))).apply ⟨exP, none, some ⟨w.heap.size, 0, none⟩, 0, 1⟩ (exP_val w)
  rw [ex_prep] at h1
  exact h1.mono fun e w' h => ⟨h.1, h.2.1⟩

theorem wk_do (h : Live W w g F ex1) :
    Calls Tryz.prog 10 #[.pointer (some ⟨g, 0, none⟩), .agg #[.int .i64 2, .int .i64 5, .int .i64 9, .int .i64 0, .string ⟨#[]⟩, .string ⟨#[]⟩, .bool false, .slice none 0 0, .slice none 0 0]] w fun e w' => e = .returned (.int .i64 0) ∧ Live W w' g (Gr F w w') ex2 := by
  have h1 := h.apply ⟨doR (5, 9), none, none, 0, 0⟩ (doR_val w _ (by decide) (by decide))
  rw [ex_do] at h1
  exact h1.mono fun e w' h => ⟨h.1, h.2.1⟩

theorem wk_r1 (h : Live W w g F ex1) :
    Calls Tryz.prog 22 #[.pointer (some ⟨g, 0, none⟩), .string ⟨#[107]⟩, .int .i64 9] w fun e w' => e = .returned (.tuple #[.int .i64 3, .agg #[.int .i64 0, .string ⟨#[]⟩, .bool false]]) ∧ Live W w' g F ex1 ∧ Below w.heap.size w w' := by
  have h1 := h.read kB 9 (by decide)
  rw [ex_r1] at h1
  exact h1

theorem wk_r2 (h : Live W w g F ex2) :
    Calls Tryz.prog 22 #[.pointer (some ⟨g, 0, none⟩), .string ⟨#[107]⟩, .int .i64 9] w fun e w' => e = .returned (.tuple #[.int .i64 1, .agg #[.int .i64 9, .string ⟨#[120]⟩, .bool false]]) ∧ Live W w' g F ex2 ∧ Below w.heap.size w w' := by
  have h1 := h.read kB 9 (by decide)
  rw [ex_r2] at h1
  exact h1

theorem wk_r3 (h : Live W w g F ex2) :
    Calls Tryz.prog 22 #[.pointer (some ⟨g, 0, none⟩), .string ⟨#[107]⟩, .int .i64 8] w fun e w' => e = .returned (.tuple #[.int .i64 0, .agg #[.int .i64 0, .string ⟨#[]⟩, .bool false]]) ∧ Live W w' g F ex2 ∧ Below w.heap.size w w' := by
  have h1 := h.read kB 8 (by decide)
  rw [ex_r3] at h1
  exact h1

theorem wk_st (h : Live W w g F ex2) :
    Calls Tryz.prog 23 #[.pointer (some ⟨g, 0, none⟩), .int .i64 5] w fun e w' => e = .returned (.tuple #[.int .i64 2, .int .i64 9]) ∧ Live W w' g F ex2 ∧ Below w.heap.size w w' := by
  have h1 := h.state 5 (by omega) (by omega)
  rw [ex_st] at h1
  exact h1

end

set_option maxRecDepth 20000 in
set_option maxHeartbeats 4000000 in
theorem works_any (W : World) :
    Calls Tryz.prog 7 #[] W fun e w' => e = .returned (.bool true) ∧ Below W.heap.size W w' := by
  have HNew := Lib.hid (lnew_any W)
  go_enter Tryz.func7, Tryz.ntmps7
  go_wp2_with fail
  refine HNew.out.mono ?_
  rintro e1 w1 ⟨g, F, rfl, hr, hF, hb⟩
  have HLv : Hid (Live W w1 g F empty) := Lib.hid ⟨hr, ok_empty, hF, hb⟩
  clear hr hF hb HNew
  go_wp2_with fail
  refine (wk_prep HLv.out).mono ?_
  rintro e2 w2 ⟨rfl, hl⟩
  have HL2 := Lib.hid hl
  clear hl HLv
  go_wp2_with fail
  refine (wk_r1 HL2.out).mono ?_
  rintro e3 w3 ⟨rfl, hl, -⟩
  have HL3 := Lib.hid hl
  clear hl HL2
  go_wp2_with fail
  refine (wk_do (HL3.out.below ((Below.refl _ w3).alloc (Nat.le_refl _) _))).mono ?_
  rintro e4 w4 ⟨rfl, hl⟩
  have HL4 := Lib.hid hl
  clear hl HL3
  go_wp2_with fail
  refine (wk_r2 HL4.out).mono ?_
  rintro e5 w5 ⟨rfl, hl, -⟩
  have hc : Cel (w5.alloc (.cells #[.int .i64 9, .string ⟨#[120]⟩, .bool false] 55)) w5.heap.size 55 [.int .i64 9, .string ⟨#[120]⟩, .bool false] := (blk1 w5 _).2
  have HL5 := Lib.hid (hl.below ((Below.refl _ w5).alloc (Nat.le_refl _) (.cells #[.int .i64 9, .string ⟨#[120]⟩, .bool false] 55)))
  clear hl HL4
  go_upto_region 8 with fail
  have hsz : w5.heap.size < (w5.alloc (.cells #[.int .i64 9, .string ⟨#[120]⟩, .bool false] 55)).heap.size := by simp
  generalize w5.alloc (.cells #[.int .i64 9, .string ⟨#[120]⟩, .bool false] 55) = W5 at hc HL5 hsz ⊢
  have HC := Lib.hid hc
  clear hc hsz
  go_wp2_with fail
  refine (wk_r3 HL5.out).mono ?_
  rintro e6 w6 ⟨rfl, hl, hb⟩
  have HL6 := Lib.hid (hl.below ((Below.refl _ w6).alloc (Nat.le_refl _) (.cells #[.int .i64 0, .string ⟨#[]⟩, .bool false] 55)))
  have HC6 := Lib.hid ((HC.out.below hb).below ((Below.refl _ w6).alloc (Nat.le_refl _) (.cells #[.int .i64 0, .string ⟨#[]⟩, .bool false] 55)))
  clear hl HL5 HC hb
  go_wp2_with fail
  refine (wk_st HL6.out).mono ?_
  rintro e7 w7 ⟨rfl, hl, hb⟩
  have q1 := (HC6.out.below hb).cell (i := 1) rfl
  have HB7 := Lib.hid hl.bel
  clear hl HL6 HC6 hb
  go_wp2_with fail
  go_ret
  exact ⟨rfl, HB7.out⟩

end Sh
end Go.Proofs.YtiobhbagjokpcaaGreat

/- The laws over the landed shelf: are the records the same?; contracts; no condition but the range. -/
namespace Go.Proofs.YtiobhbagjokpcaaGreat
namespace Sh
open Go.RowKit Bk Ch Lt Rc Tr

attribute [local go_sem ↓] Go.wp_at_zero Go.wp_at_succ
attribute [local go_sem] floatUpon pick

theorem recs_below2 {w W : World} {v : Value} {L : List RI} (h : RecsOf w v L) (hb : Below w.heap.size w W) : RecsOf W v L := by
  obtain ⟨A, c, rfl, hat, h16, hok⟩ := h
  refine ⟨A, c, rfl, fun hp => ?_, h16, fun x hx => (hok x hx).below hb⟩
  obtain ⟨ad, e, hl, hc⟩ := hat hp
  exact ⟨ad, e, Nat.lt_of_lt_of_le hl hb.size, fun i hi j u hu => (cell_kept hb _ (by rw [st_block]; exact hl)).trans (hc i hi j u hu)⟩

/-- records that lie in a row -/
structure RowOf (w : World) (A : Option Addr) (X : List RI) : Prop where
  at' : RecsAt w A X
  val : ∀ x ∈ X, RecVal w x.A x.B x.c x.d x.l

theorem RowOf.below {w w' : World} {A : Option Addr} {X : List RI} (h : RowOf w A X) (hb : Below w.heap.size w w') : RowOf w' A X :=
  ⟨fun hp => by
    obtain ⟨ad, e, hl, hc⟩ := h.at' hp
    exact ⟨ad, e, Nat.lt_of_lt_of_le hl hb.size, fun i hi j u hu => (cell_kept hb _ (by rw [st_block]; exact hl)).trans (hc i hi j u hu)⟩, fun x hx => (h.val x hx).below hb⟩

theorem OutL.rows {W w : World} {v : Value} {X : List RI} (h : OutL W w v X) : ∃ (A : Option Addr) (c : Nat), v = .slice A X.length c ∧ RowOf w A X := by
  obtain ⟨A, c, rfl, hr, -, -, -⟩ := own_rowF (F := fun _ => False) h.row (Tr.flat_len X) (fun _ hf => hf.elim)
  refine ⟨A, c, rfl, fun hp => ?_, fun x hx => (h.pv x hx).val⟩
  obtain ⟨ad, e, hl, -, hc⟩ := hr (by rw [Tr.flat_len]; omega)
  exact ⟨ad, e, hl, fun i hi j u hu => hc _ _ (by rw [Tr.flat_at hi (by have := (List.getElem?_eq_some_iff.1 hu).1; simpa [rcs] using this)]; exact hu)⟩

set_option maxRecDepth 20000 in
set_option maxHeartbeats 4000000 in
theorem sameRecords_eq (A B : Option Addr) (c d : Nat) (X Y : List RI) (w : World) (hX : RowOf w A X) (hY : RowOf w B Y) (he : X.map (·.l) = Y.map (·.l)) (hl : X.length ≤ 9223372036854775807) :
    Calls Tryz.prog 18 #[.slice A X.length c, .slice B Y.length d] w fun e w' => e = .returned (.bool true) ∧ Below w.heap.size w w' := by
  have hlen : Y.length = X.length := by have := congrArg List.length he; simpa using this.symm
  rw [hlen]
  have HX := Lib.hid (fun V (hb : Below w.heap.size w V) => hX.below hb)
  have HY := Lib.hid (fun V (hb : Below w.heap.size w V) => hY.below hb)
  have HE := Lib.hid (fun (i : Nat) (h1 : i < X.length) (h2 : i < Y.length) => show X[i].l = Y[i].l by
    have h3 : (X.map (·.l))[i]? = (Y.map (·.l))[i]? := by rw [he]
    rw [List.getElem?_map, List.getElem?_map, List.getElem?_eq_getElem h1, List.getElem?_eq_getElem h2] at h3
    simpa using h3)
  have HLen := Lib.hid hlen
  have pl : (X.length : Int) ≤ 9223372036854775807 := by omega
  clear hX hY he hl hlen
  go_enter Tryz.func18, Tryz.ntmps18
  go_wp2_with fail
  go_loopw [13] (fun iv wr => ∃ j : Nat, j ≤ X.length ∧ iv = .int .i64 (j : Int) ∧ Hid (Below w.heap.size w wr)) (fun iv _ => X.length - (RowKit.intOf iv).toNat)
  case atStart => exact ⟨0, by omega, rfl, Lib.hid (Below.refl _ _)⟩
  case round =>
    obtain ⟨j, hj, rfl, hb⟩ := hrel
    by_cases hlt : j < X.length
    · have pj : (j : Int) < (X.length : Int) := by omega
      have hlt2 : j < Y.length := by rw [HLen.out]; exact hlt
      obtain ⟨ad, rfl, -, hcx⟩ := (HX.out _ hb.out).at' (by omega)
      obtain ⟨bd, rfl, -, hcy⟩ := (HY.out _ hb.out).at' (by omega)
      have hex := HE.out j hlt hlt2
      have HCx := Lib.hid (fun V (hV : Below wr.heap.size wr V) (q : Nat) (u : Value) (hq : (rcs X[j])[q]? = some u) => show V.cell? (ad.add (j * 9 + q)) = some u from by
        obtain ⟨ad', e', -, h3⟩ := (HX.out V (hb.out.trans (hV.mono hb.out.size))).at' (by omega)
        obtain rfl := Option.some.inj e'
        exact h3 j hlt q u hq)
      have HCy := Lib.hid (fun V (hV : Below wr.heap.size wr V) (q : Nat) (u : Value) (hq : (rcs Y[j])[q]? = some u) => show V.cell? (bd.add (j * 9 + q)) = some u from by
        obtain ⟨ad', e', -, h3⟩ := (HY.out V (hb.out.trans (hV.mono hb.out.size))).at' (by omega)
        obtain rfl := Option.some.inj e'
        exact h3 j hlt2 q u hq)
      have HVx := Lib.hid (fun V (hV : Below wr.heap.size wr V) => (HX.out V (hb.out.trans (hV.mono hb.out.size))).val _ (List.getElem_mem hlt))
      have HVy := Lib.hid (fun V (hV : Below wr.heap.size wr V) => (HY.out V (hb.out.trans (hV.mono hb.out.size))).val _ (List.getElem_mem hlt2))
      clear hcx hcy
      generalize X[j] = x at hex HCx HVx
      generalize Y[j] = y at hex HCy HVy
      obtain ⟨xr, xA, xB, xc, xd⟩ := x
      obtain ⟨yr, yA, yB, yc, yd⟩ := y
      simp only at hex
      subst hex
      have HSm : Hid (∀ V, Below wr.heap.size wr V → Calls Tryz.prog 13 #[.agg #[.int .i64 xr.kind, .int .i64 xr.txn, .int .i64 xr.ts, .int .i64 xr.coord, .string xr.key, .string xr.text, .bool xr.dead, .slice xA xr.keys.length xc, .slice xB xr.ws.length xd], .agg #[.int .i64 xr.kind, .int .i64 xr.txn, .int .i64 xr.ts, .int .i64 xr.coord, .string xr.key, .string xr.text, .bool xr.dead, .slice yA xr.keys.length yc, .slice yB xr.ws.length yd]] V fun e w' => e = .returned (.bool true) ∧ Below V.heap.size V w') := Lib.hid (fun V hV => by
        have h1 := HVx.out V hV
        have h2 := HVy.out V hV
        have h3 := sameRec_any xA xB yA yB xc xd yc yd xr xr V h1.ks h1.ws h2.ks h2.ws (by have h : xr.keys.length * 16 ≤ reachBytes := h1.rng.k16; unfold reachBytes at h; omega) (by have h : xr.ws.length * 40 ≤ reachBytes := h1.rng.w40; unfold reachBytes at h; omega)
        rw [Rc.sameB_self] at h3
        exact h3)
      clear HVx HVy
      go_upto_region 6 with fail
      refine wp_region_said 10 [16, 17, 18, 19, 20, 21, 22, 23, 24, 25]
        [.is (.slice (some ad) X.length c), .is (.int .i64 (j : Int)), .is (.pointer (some (ad.add (j * 9)))), .is (.agg #[.int .i64 xr.kind, .int .i64 xr.txn, .int .i64 xr.ts, .int .i64 xr.coord, .string xr.key, .string xr.text, .bool xr.dead, .slice xA xr.keys.length xc, .slice xB xr.ws.length xd]), .is (.slice (some bd) X.length d), .is (.int .i64 (j : Int)), .is (.pointer (some (bd.add (j * 9)))), .is (.agg #[.int .i64 xr.kind, .int .i64 xr.txn, .int .i64 xr.ts, .int .i64 xr.coord, .string xr.key, .string xr.text, .bool xr.dead, .slice yA xr.keys.length yc, .slice yB xr.ws.length yd]), .is (.bool true), .is (.bool false)]
        (fun V => Below wr.heap.size wr V) (by kernel_rfl) (by kernel_rfl) (by kernel_rfl) (by kernel_rfl) (by kernel_rfl) (fun V V' h hb => h.trans (hb.mono h.size)) (Below.refl _ _) ?steps ?last
      case steps =>
        simp only [List.take_succ_cons, List.take_zero]
        refine ⟨?_, ?_, ?_, ?_, ?_, ?_, ?_, ?_, ?_, ?_, trivial⟩
        all_goals
          intro vs V ρ hρ hc hf hg hI hH hd R' hR
          have x0 := HCx.out V hI 0 _ rfl
          have x1 := HCx.out V hI 1 _ rfl
          have x2 := HCx.out V hI 2 _ rfl
          have x3 := HCx.out V hI 3 _ rfl
          have x4 := HCx.out V hI 4 _ rfl
          have x5 := HCx.out V hI 5 _ rfl
          have x6 := HCx.out V hI 6 _ rfl
          have x7 := HCx.out V hI 7 _ rfl
          have x8 := HCx.out V hI 8 _ rfl
          have y0 := HCy.out V hI 0 _ rfl
          have y1 := HCy.out V hI 1 _ rfl
          have y2 := HCy.out V hI 2 _ rfl
          have y3 := HCy.out V hI 3 _ rfl
          have y4 := HCy.out V hI 4 _ rfl
          have y5 := HCy.out V hI 5 _ rfl
          have y6 := HCy.out V hI 6 _ rfl
          have y7 := HCy.out V hI 7 _ rfl
          have y8 := HCy.out V hI 8 _ rfl
          rw [← Lt.add_field _ _ _ (by omega)] at x1 x2 x3 x4 x5 x6 x7 x8 y1 y2 y3 y4 y5 y6 y7 y8
          rw [Nat.add_zero] at x0 y0
          have HR := Lib.hid hR
          have HI := Lib.hid hI
          simp [depsOf, Region.binds, sayAt, Say.holds] at hd
          clear hR hI
          go_simp
          first
            | exact HR.out _ _ (by simp [sayAt, Say.holds]) (Below.refl _ _) (by simp [sayAt, Say.isBlk])
            | (refine (HSm.out V HI.out).mono ?_; rintro e w' ⟨rfl, hb⟩; exact ⟨_, rfl, HR.out _ _ (by simp [sayAt, Say.holds]) hb (by simp [sayAt, Say.isBlk])⟩)
            | (refine (HSm.out V HI.out).mono ?_; rintro e w' ⟨rfl, hb⟩; exact HR.out _ _ (by simp [sayAt, Say.holds]) hb (by simp [sayAt, Say.isBlk]))
            | trace_state
      case last =>
        intro vs V hI hbb hg hd
        have g9 := hg 9 (by omega)
        simp only [sayAt, Say.holds, List.getD_cons_succ, List.getD_cons_zero] at g9
        simp only [List.take_succ_cons, List.take_zero, List.drop_succ_cons, List.drop_zero, putAll, Act.put, List.setIfInBounds_toArray, List.set_cons_succ, List.set_cons_zero, Nat.zero_add, Nat.reduceAdd]
        rw [g9]
        have HB2 := Lib.hid (hb.out.trans (Below.mono hI hb.out.size))
        clear hI hb hg hd g9
        go_wp2_with fail
        go_roundw
        case rel => exact ⟨j + 1, by omega, by go_num, HB2⟩
        case measure => simp [RowKit.intOf]; omega
    · obtain rfl : j = X.length := by omega
      go_wp2_with fail
      go_ret
      exact ⟨rfl, hb.out⟩

end Sh
end Go.Proofs.YtiobhbagjokpcaaGreat
