/- The landed net: put, Send, Copy; contracts; no condition but the ranges. -/
import Derived.Test.YtkpcfakfkcghdaaNtLand1
import Derived.Test.YtkpcfakfkcghdaaNtGrow
namespace Go.Proofs.Ytkpcfakfkcghdaa
namespace Nt
open Go.RowKit Bk Lt
set_option linter.unusedVariables false

attribute [local go_sem ↓] Go.wp_at_zero Go.wp_at_succ
attribute [local go_sem] floatUpon pick

def TIs (u : Value) : Value → World → Prop := fun v _ => v = u

/-- behind an operation of put: nothing old is written, or a letter is laid behind the row -/
def PK (r : Option Nat) (L : List LI) (l0 : Let) (H : Nat) (W W' : World) : Prop :=
  Below W.heap.size W W' ∨ ∃ y : LI, y.l = l0 ∧ LOwn W H y ∧ GrR r 35 (L.flatMap lcs) (lcs y) W W'

section
variable {r : Option Nat} {L : List LI} {l0 : Let} {H : Nat} {W W' : World}

theorem PK.grown (h : PK r L l0 H W W') : W.grownBy W' r := by
  rcases h with h | ⟨y, _, _, h⟩
  · exact ⟨h.os, h.tape, h.output, h.size, fun k hk _ => h.block k hk⟩
  · exact h.grown

theorem PK.cel {k : Nat} {t : TypeId} {xs : List Value} (h : Cel W k t xs) (hn : r ≠ some k) (hk : PK r L l0 H W W') : Cel W' k t xs := (hk.grown.block k h.lt (fun e => hn e.symm)).trans h

theorem PK.own {H2 : Nat} {x : LI} (h : LOwn W H2 x) (hn : ∀ k, Lb x k → r ≠ some k) (hk : PK r L l0 H W W') : LOwn W' H2 x := h.same (fun k hb => hk.grown.block k (h.lt hb).1 (fun e => hn k hb e.symm))

theorem PK.lat {F : Nat → Prop} {g : Nat} {room : Int} {v : Value} (h : LAt W F g room v L) (hr : r = v.ownBlock) (hk : PK r L l0 H W W') : LAt W' F g room v L := by
  subst hr
  refine ⟨hk.cel h.cel (row_cel h.re h.cel (by decide)), ?_, fun x hx => hk.own (h.own x hx) (fun k hb e => ?_), h.sep, h.fg, h.fv, h.fl, fun k hf => Nat.lt_of_lt_of_le (h.lt k hf) hk.grown.size, h.rm, h.len, h.ok⟩
  · rcases hk with hk | ⟨y, _, _, hk⟩
    · exact st_keep h.re hk
    · exact hk.row h.re (.inl rfl)
  · rcases hb with hb | hb
    · exact row_apart (h.own x hx).ks h.re (by decide) hb e
    · exact row_apart (h.own x hx).ws h.re (by decide) hb e

/-- the row that has grown -/
def Grn (r : Option Nat) (L : List LI) (l0 : Let) (H : Nat) (v : Value) (W : World) : Prop :=
  ∃ y : LI, y.l = l0 ∧ LOwn W H y ∧ W.ownsRow 0 35 9 v (L.length + 1) (L.flatMap lcs ++ lcs y) ∧ (v.ownBlock = r ∨ ∃ k, v.ownBlock = some k ∧ H ≤ k)

theorem Grn.keep {v : Value} (h : Grn r L l0 H v W) (hr : ∀ k, r = some k → k < H) (hk : PK r L l0 H W W') : Grn r L l0 H v W' := by
  obtain ⟨y, e1, e2, e3, e4⟩ := h
  have own : ∀ z : LI, LOwn W H z → LOwn W' H z := fun z hz => hk.own hz (fun k hb e => by have := hr k e; have := (hz.lt hb).2; omega)
  rcases hk with hk | ⟨z, z1, z2, hg⟩
  · exact ⟨y, e1, e2.below hk, st_keep e3 hk, e4⟩
  · rcases hg with hb | ⟨gg, cur, hrg, hgc, hsz, htk, rfl⟩
    · exact ⟨y, e1, e2.below hb, st_keep e3 hb, e4⟩
    · by_cases e : v.ownBlock = some gg
      · refine ⟨z, z1, own z z2, ?_, e4⟩
        refine ⟨by rw [List.length_append, lcs_len, flat_len, Nat.add_mul], ?_⟩
        rcases e3.2 with ⟨h0, _⟩ | ⟨g2, cap2, cur2, hv, hH, hg2, h1, h2, h3, h4⟩
        · rw [h0] at e; cases e
        · right
          obtain rfl : g2 = gg := by rw [hv] at e; exact Option.some.inj e
          rw [hgc] at hg2
          simp only [Option.some.injEq, Obj.cells.injEq, and_true] at hg2
          obtain rfl := hg2
          refine ⟨g2, cap2, _, hv, hH, setRow_heap W g2 _ _ _ _ hgc, h1, h2, ?_, ?_⟩
          · rw [← h3]
            simp only [List.size_toArray, List.length_append, List.length_drop, Array.length_toList] at hsz ⊢
            omega
          · rw [List.toList_toArray]
            have hl : (L.flatMap lcs ++ lcs z).length = (L.length + 1) * 9 := by rw [List.length_append, lcs_len, flat_len, Nat.add_mul]
            rw [List.take_append_of_le_length (by omega), List.take_of_length_le (by omega)]
      · exact ⟨y, e1, own y e2, row_same e3 (fun p hp => setRow_other W gg p _ (fun e5 => e (by rw [hp, e5]))), e4⟩
end

section
variable {W W' : World} {F : Nat → Prop} {g : Nat} {room : Int} {l : List Let}

set_option maxRecDepth 20000 in
set_option maxHeartbeats 8000000 in
theorem lput_any (h : LRep W F g room l) (x : LI) (hx : LOwn W 0 x) (hok : LetOk x.l) :
    Calls Try.prog 33 #[.pointer (some ⟨g, 0, none⟩), letV x.l x.A x.B x.c x.d] W fun e w' => e = .returned (.int .i64 (putL room l x.l).2) ∧ LRep w' (Gr F W w') g room (putL room l x.l).1 ∧ Far F W w' := by
  have hR := h
  obtain ⟨P, hP⟩ : ∃ P, putL room l x.l = P := ⟨_, rfl⟩
  rw [hP]
  have HP := Lib.hid hP
  clear hP
  obtain ⟨v, L, h, hl⟩ := h
  have hL10 := h.len10
  have hF := h.lt
  have hgl := h.cel.lt
  have hbd := hok.bounds
  obtain ⟨l0, A, B, c, d⟩ := x
  simp only at hx hok HP ⊢
  have HR := Lib.hid hR
  have HV := Lib.hid hx
  obtain ⟨n, hn⟩ : ∃ n, l.length = n := ⟨_, rfl⟩
  have hnL : L.length = n := by rw [← hn, ← hl, List.length_map]
  obtain ⟨i0, z0, hi, hz0, hz2, hz1, hz3⟩ := info_let
  have HCo := Lib.hid (fun (V : World) (hv : LetVal V A B c d l0) => copyOf_any ⟨l0, A, B, c, d⟩ V hv hbd.1 hbd.2.1)
  simp only at HCo
  unfold letV at HCo
  unfold letV
  have hb1 : Below W.heap.size W (W.alloc (.cells #[.int .i64 l0.kind, .int .i64 l0.src, .int .i64 l0.dst, .int .i64 l0.txn, .int .i64 l0.ts, .int .i64 l0.code, .string l0.text, .slice A l0.keys.length c, .slice B l0.ws.length d] 35)) := (Below.refl _ W).alloc (Nat.le_refl _) _
  have hC1 : Cel (W.alloc (.cells #[.int .i64 l0.kind, .int .i64 l0.src, .int .i64 l0.dst, .int .i64 l0.txn, .int .i64 l0.ts, .int .i64 l0.code, .string l0.text, .slice A l0.keys.length c, .slice B l0.ws.length d] 35)) W.heap.size 35 (cellsL l0 (.slice A l0.keys.length c) (.slice B l0.ws.length d)) := (blk1 W _).2
  clear hx hR hbd
  go_enter Try.func33, Try.ntmps33
  go_upto_region 1 with fail
  generalize W.alloc (.cells #[.int .i64 l0.kind, .int .i64 l0.src, .int .i64 l0.dst, .int .i64 l0.txn, .int .i64 l0.ts, .int .i64 l0.code, .string l0.text, .slice A l0.keys.length c, .slice B l0.ws.length d] 35) = W1 at hb1 hC1 ⊢
  have HLen := Lib.hid (fun k => llen_any (HR.out.below (below_drewN hb1 k)))
  have h1 := h.below hb1
  have kg0 := h1.cel.cell (i := 0) rfl
  rw [hn] at HLen
  have HC1 := Lib.hid hC1
  have HB1 := Lib.hid hb1
  have HH1 := Lib.hid h1
  clear hC1 hb1 h1
  go_quiet ((go_at_call 12; exact Calls.quiet_of_same (HLen.out _)))
  have hH2 : LAt (W1.drewN nq) F g room v L := HH1.out.below ((below_drewN (Below.refl _ W1) nq))
  have hC2 : Cel (W1.drewN nq) W.heap.size 35 _ := HC1.out
  have hB2 : Below W.heap.size W (W1.drewN nq) := below_drewN HB1.out nq
  generalize W1.drewN nq = W2 at hH2 hC2 hB2 ⊢
  have HH2 := Lib.hid hH2
  have HC2 := Lib.hid hC2
  have HB2 := Lib.hid hB2
  clear hH2 hC2 hB2 HH1 HC1 HB1 HLen kg0
  by_cases hlt : (n : Int) < room
  case neg =>
    have HPe : Hid (P = (l, 150)) := Lib.hid (by rw [← HP.out]; unfold putL; rw [if_neg (by rw [hn]; exact hlt)])
    have hge : room ≤ (n : Int) := by omega
    go_wp2_with fail
    go_ret
    rw [HPe.out]
    exact ⟨rfl, HR.out.gr HB2.out, Far.of HB2.out⟩
  have HPe : Hid (P = (l ++ [l0], 0)) := Lib.hid (by rw [← HP.out]; unfold putL; rw [if_pos (by rw [hn]; exact hlt)])
  have HEnd : Hid (∀ (W7 : World) (v6 : Value) (y : LI), LAt W7 (Gr F W W7) g room v6 (L ++ [y]) → y.l = l0 → LRep W7 (Gr F W W7) g room (l ++ [l0])) := Lib.hid (fun W7 v6 y hy e => ⟨v6, L ++ [y], hy, by rw [List.map_append, hl]; simp [e]⟩)
  have hcap : (n + 1) * 112 ≤ 140737488355328 := by omega
  have hLn := Lib.hid hnL
  have hFF := Lib.hid hF
  have hOk := Lib.hid hok
  have hle := HB2.out.size
  obtain ⟨A0, c0, hv, hnil⟩ := HH2.out.form
  rw [hnL] at hv
  subst hv
  go_upto_region 3 with fail
  clear hn hl hF hok h hnL hnil HP
  obtain ⟨r, hr⟩ : ∃ r, (Value.slice A0 n c0).ownBlock = r := ⟨_, rfl⟩
  have hrl : ∀ k, r = some k → k < W.heap.size := fun k e => hFF.out k (HH2.out.fv k (by rw [hr]; exact e))
  have hrl2 : ∀ k, r = some k → k < W2.heap.size := fun k e => Nat.lt_of_lt_of_le (hrl k e) hle
  have HRl := Lib.hid hrl
  have HRl2 := Lib.hid hrl2
  have HRr := Lib.hid hr
  clear hr hrl hrl2
  refine wp_region_saidK 9 [12, 13, 14, 15, 16, 17, 18, 19, 20]
    [TIs (.pointer (some ⟨g, 0, none⟩)), TIs (.pointer (some ⟨g, 0, none⟩)), TIs (.pointer (some ⟨g, 0, none⟩)), TIs (.pointer (some ⟨g, 1, none⟩)), TIs (.slice A0 n c0), TIs (letV l0 A B c d),
     (fun v V => ∃ y : LI, v = letV y.l y.A y.B y.c y.d ∧ y.l = l0 ∧ LOwn V W2.heap.size y),
     (fun v V => ∃ (y : LI) (p : Nat), v = .slice (some ⟨p, 0, none⟩) 1 1 ∧ y.l = l0 ∧ LOwn V W2.heap.size y ∧ Cel V p 35 (lcs y) ∧ W2.heap.size ≤ p),
     Grn r L l0 W2.heap.size]
    (fun V => LAt V F g room (.slice A0 n c0) L ∧ Cel V W.heap.size 35 (cellsL l0 (.slice A l0.keys.length c) (.slice B l0.ws.length d)) ∧ Far F W V ∧ LOwn V 0 ⟨l0, A, B, c, d⟩ ∧ W2.heap.size ≤ V.heap.size) (PK r L l0 W2.heap.size) (by kernel_rfl) (by kernel_rfl) (by kernel_rfl) (by kernel_rfl) (by kernel_rfl)
    (satK_of fun S hS v V V' h hk => by
      simp only [List.mem_cons, List.not_mem_nil, or_false] at hS
      rcases hS with rfl | rfl | rfl | rfl | rfl | rfl | rfl | rfl | rfl
      case inr.inr.inr.inr.inr.inr.inl => obtain ⟨y, e1, e2, e3⟩ := h; exact ⟨y, e1, e2, hk.own e3 (fun k hb e => by have := HRl2.out k e; have := (e3.lt hb).2; omega)⟩
      case inr.inr.inr.inr.inr.inr.inr.inl => obtain ⟨y, p, e1, e2, e3, e4, e5⟩ := h; exact ⟨y, p, e1, e2, hk.own e3 (fun k hb e => by have := HRl2.out k e; have := (e3.lt hb).2; omega), hk.cel e4 (fun e => by have := HRl2.out p e; omega), e5⟩
      case inr.inr.inr.inr.inr.inr.inr.inr => exact h.keep HRl2.out hk
      all_goals exact h)
    (fun V V' h hk => ⟨hk.lat h.1 HRr.out.symm, hk.cel h.2.1 (fun e => by have := HRl.out _ e; omega), h.2.2.1.trans (Far.grown hk.grown (fun k e => HH2.out.fv k (by rw [HRr.out]; exact e))), hk.own h.2.2.2.1 (fun k hb e => hb.elim (fun hb => row_apart h.2.2.2.1.ks h.1.re (by decide) hb (by rw [HRr.out]; exact e)) (fun hb => row_apart h.2.2.2.1.ws h.1.re (by decide) hb (by rw [HRr.out]; exact e))), Nat.le_trans h.2.2.2.2 hk.grown.size⟩)
    (fun V => .inl (Below.refl _ V).drew) ⟨HH2.out, HC2.out, Far.of HB2.out, HV.out.below HB2.out, Nat.le_refl _⟩ ?steps ?last
  case steps =>
    simp only [List.take_succ_cons, List.take_zero]
    refine ⟨?_, ?_, ?_, ?_, ?_, ?_, ?_, ?_, ?_, trivial⟩
    all_goals
      intro vs V ρ hρ hc hf hg hI hd R' hR
      have q1 := hI.1.cel.cell (i := 1) rfl
      have p0 := hI.2.1.cell (i := 0) rfl
      have p1 := hI.2.1.cell (i := 1) rfl
      have p2 := hI.2.1.cell (i := 2) rfl
      have p3 := hI.2.1.cell (i := 3) rfl
      have p4 := hI.2.1.cell (i := 4) rfl
      have p5 := hI.2.1.cell (i := 5) rfl
      have p6 := hI.2.1.cell (i := 6) rfl
      have p7 := hI.2.1.cell (i := 7) rfl
      have p8 := hI.2.1.cell (i := 8) rfl
      have HR := Lib.hid hR
      have HI := Lib.hid hI
      simp [depsOf, Region.binds, satK, TIs, letV] at hd
      clear hR hI
    case refine_9 =>
      obtain ⟨hd1, ⟨y, p, hd2, e2, e3, ho, hpl⟩, -⟩ := hd
      have hre := HI.out.1.re
      rw [hLn.out] at hre
      obtain ⟨v', w', hr, h2, h3, h4⟩ := run_growR (P := Try.prog) (W := V) (H := 0) (sz := 9) (bytes := 112) (n := n) (m := 1) (c := 1) (A := some ⟨p, 0, none⟩) (us := lcs y) (r := r) (t := 39) (ty := 39) Try.underlying39 hi hz0 hz1 hz3 hz2 (by decide) HRr.out.symm hre rfl (fun e => by cases e) (fun ad e j u hu => by cases e; rw [addr_head]; exact ho.cell hu) (lcs_one y) (by unfold maxLen; omega) hcap (Nat.zero_le _)
      have e0 : ρ (.tmp 16) = .slice A0 n c0 := by rw [hρ]; simp [pick, hd1]
      have e9 : ρ (.tmp 19) = .slice (some ⟨p, 0, none⟩) 1 1 := by rw [hρ]; simp [pick, hd2]
      rw [if_pos (by simp [Region.wanted])]
      unfold execOp
      simp only [resolve, invoke, builtin, Sem.run_bind, Sem.run_pure, Result.andThen_ok, List.map_toArray, List.map_cons, List.map_nil, e0, e9, hr, floatUpon]
      refine HR.out _ _ ⟨y, e2, ?_, by rw [hLn.out]; exact h2, ?_⟩ (.inr ⟨y, e2, e3, h3⟩)
      · exact (show PK r L l0 W2.heap.size V w' from .inr ⟨y, e2, e3, h3⟩).own e3 (fun k hb e => by have := HRl2.out k e; have := (e3.lt hb).2; omega)
      · rcases h4 with h4 | h4
        · exact .inl (h4.trans HRr.out)
        · exact .inr ⟨_, h4, HI.out.2.2.2.2⟩
    case refine_8 =>
      obtain ⟨⟨yl, yA, yB, yc, yd⟩, hy, e2, e3⟩ := hd
      simp only at hy e2
      subst e2
      go_simp
      exact HR.out _ _ ⟨⟨yl, yA, yB, yc, yd⟩, V.heap.size, rfl, rfl, e3.below ((Below.refl _ _).alloc (Nat.le_refl _) _), (blk1 V _).2, HI.out.2.2.2.2⟩ (.inl ((Below.refl _ _).alloc (Nat.le_refl _) _))
    case refine_7 =>
      go_simp
      refine (HCo.out _ HI.out.2.2.2.1.val).mono ?_
      rintro e w' ⟨y, rfl, e2, e3, hb⟩
      exact ⟨_, rfl, HR.out _ _ ⟨y, rfl, e2, e3.mono HI.out.2.2.2.2⟩ (.inl hb)⟩
    all_goals
      go_simp
      exact HR.out _ _ (by simp [satK, TIs, letV]) (.inl (Below.refl _ _))
  case last =>
    intro vs V hI hg
    have g0 := hg 0 (by omega)
    have g8 := hg 8 (by omega)
    simp only [satK, List.getD_cons_succ, List.getD_cons_zero, TIs] at g0 g8
    obtain ⟨y, e2, e3, ho, hat⟩ := g8
    simp only [List.take_succ_cons, List.take_zero, List.drop_succ_cons, List.drop_zero, putAll, Act.put, List.setIfInBounds_toArray, List.set_cons_succ, List.set_cons_zero, Nat.zero_add, Nat.reduceAdd]
    rw [g0]
    generalize vs 8 = v6 at ho hat ⊢
    have HF := Lib.hid (hI.1.put2 (v6 := v6) e3 hFF.out hle (by rw [e2]; exact hOk.out) (by rw [hLn.out]; exact hlt) ho (by
      rcases hat with h | h
      · exact .inl (h.trans HRr.out.symm)
      · exact .inr h))
    have HFar := Lib.hid (hI.2.2.1.trans (Far.set (o := 1) hI.1.fg v6))
    obtain ⟨A6, c6, rfl, -⟩ := row_form ho
    have c7 := hI.1.cel.cell (i := 1) rfl
    have f7 := hI.1.cel.free (i := 1)
    have HE2 := Lib.hid e2
    clear ho hat hI hg g0 e2 e3
    go_wp2_with fail
    go_ret
    rw [HPe.out]
    exact ⟨rfl, HEnd.out _ _ _ HF.out HE2.out, HFar.out⟩

end
end Nt
end Go.Proofs.Ytkpcfakfkcghdaa
