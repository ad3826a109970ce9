/- The landed net: Inject; contract; no condition but the ranges. -/
import Derived.Test.YtkpcfakfkcghdaaNtTake2
import Derived.Test.YtkpcfakfkcghdaaNtDecL
namespace Go.Proofs.Ytkpcfakfkcghdaa
namespace Nt
open Go.RowKit Bk Lt
set_option linter.unusedVariables false

attribute [local go_sem ↓] Go.wp_at_zero Go.wp_at_succ
attribute [local go_sem] floatUpon pick

/-- what Inject answers: the net behind it, the letter, what is told -/
noncomputable def injL (room : Int) (l : List Let) (s : ByteArray) : List Let × Let × Int :=
  if (decX s).2 ≠ 0 then (l, noLet, ((decX s).2 : Int)) else if (putL room l (decX s).1).2 ≠ 0 then (l, noLet, (putL room l (decX s).1).2) else ((putL room l (decX s).1).1, (decX s).1, 0)

/-- behind Inject: a letter whose rows are new, and not the net's -/
def InjPost (W : World) (F : Nat → Prop) (g : Nat) (room : Int) (r : List Let × Let × Int) : Ending → World → Prop := fun e w' =>
  ∃ (x : LI) (F' : Nat → Prop), e = .returned (.tuple #[letV x.l x.A x.B x.c x.d, .int .i64 r.2.2]) ∧ x.l = r.2.1 ∧ LOwn w' W.heap.size x ∧ (∀ k, F' k → F k ∨ W.heap.size ≤ k) ∧ (∀ k, Lb x k → ¬ F' k) ∧ LRep w' F' g room r.1 ∧ Far F W w'

theorem putL_cases (room : Int) (l : List Let) (m : Let) : putL room l m = (l ++ [m], 0) ∨ putL room l m = (l, 150) := by
  unfold putL; split
  · exact .inl rfl
  · exact .inr rfl

theorem set9_blk {W : World} {R k : Nat} {v0 v1 v2 v3 v4 v5 v6 v7 v8 : Value} (h : k ≠ R) : (set9 W R v0 v1 v2 v3 v4 v5 v6 v7 v8).heap[k]? = W.heap[k]? := by
  have e : ∀ (W : World) (i : Nat) (v : Value), (W.setCell ⟨R, i, none⟩ v).heap[k]? = W.heap[k]? := fun W i v => Below.heap_setCell W ⟨R, i, none⟩ v k h
  unfold set9
  rw [e, e, e, e, e, e, e, e, e]

section
variable {W : World} {F : Nat → Prop} {g : Nat} {room : Int} {l : List Let}

theorem InjPost.no {W' w2 : World} {c : Int} (h : LRep W' F g room l) (hb : Below W.heap.size W W') (hF : ∀ k, F k → k < W.heap.size) (h2 : Below W.heap.size W' w2) : InjPost W F g room (l, noLet, c) (.returned (.tuple #[letV noLet none none 0 0, .int .i64 c])) w2 :=
  ⟨default, F, rfl, rfl, noLet_own _ _, fun k hk => .inl hk, fun k hk => hk.elim (fun e => by cases e) (fun e => by cases e), h.same h2.size (fun k hk => h2.block k (hF k hk)), Far.of (hb.trans h2)⟩

set_option maxRecDepth 20000 in
set_option maxHeartbeats 8000000 in
theorem linject_any (h : LRep W F g room l) (s : ByteArray) (hs : s.size ≤ 1000000000000000) : Calls Try.prog 20 #[.pointer (some ⟨g, 0, none⟩), .string s] W (InjPost W F g room (injL room l s)) := by
  have hb1 : Below W.heap.size W (W.alloc zeroO) := (Below.refl _ W).alloc (Nat.le_refl _) _
  have hR0 := zero_cells W
  have hlt1 : W.heap.size < (W.alloc zeroO).heap.size := by simp
  have HLt := Lib.hid h.lt
  have hd := ldecode2_any s (W.alloc zeroO) hs
  unfold DecOwn at hd
  have HH := Lib.hid (h.below hb1)
  obtain ⟨P, hP⟩ : ∃ P, injL room l s = P := ⟨_, rfl⟩
  rw [hP]
  have HB := Lib.hid hb1
  have HW := Lib.hid hlt1
  rcases decX_cases s with ⟨m, hok, -, hdx⟩ | ⟨-, hdx⟩
  case inr =>
    rw [hdx] at hd
    have HPe : Hid (P = (l, noLet, 70)) := Lib.hid (by rw [← hP]; unfold injL; rw [hdx]; rw [if_pos (by simp)]; rfl)
    obtain ⟨m, hm⟩ : ∃ m, noLet = m := ⟨_, rfl⟩
    simp only [hm] at hd
    unfold letV at hd
    have HD := Lib.hid hd
    clear h hb1 hd hP hdx hlt1
    unfold zeroO at HD HB HH HW
    go_enter Try.func20, Try.ntmps20
    go_upto_region 1 with fail
    generalize W.alloc (.cells #[.int .i64 0, .int .i64 0, .int .i64 0, .int .i64 0, .int .i64 0, .int .i64 0, .string ⟨#[]⟩, .slice none 0 0, .slice none 0 0] 35) = W1 at hR0 HD HB HH HW ⊢
    have HR := Lib.hid hR0
    clear hR0
    go_wp2_with fail
    refine HD.out.mono ?_
    rintro e W2 ⟨A, B, c, d, rfl, hown, hb2⟩
    have hal := (Below.refl W2.heap.size W2).alloc (Nat.le_refl _) (.cells #[.int .i64 m.kind, .int .i64 m.src, .int .i64 m.dst, .int .i64 m.txn, .int .i64 m.ts, .int .i64 m.code, .string m.text, .slice A m.keys.length c, .slice B m.ws.length d] 35)
    have hb3 : Below W.heap.size W (W2.alloc (.cells #[.int .i64 m.kind, .int .i64 m.src, .int .i64 m.dst, .int .i64 m.txn, .int .i64 m.ts, .int .i64 m.code, .string m.text, .slice A m.keys.length c, .slice B m.ws.length d] 35)) := (HB.out.trans (hb2.mono HB.out.size)).trans (hal.mono (Nat.le_trans HB.out.size hb2.size))
    have hR3 := (HR.out.below hb2).below hal
    have hH3 := (HH.out.below hb2).below hal
    clear hown hb2 hal HR HB HD HH
    go_upto_region 2 with fail
    generalize W2.alloc (.cells #[.int .i64 m.kind, .int .i64 m.src, .int .i64 m.dst, .int .i64 m.txn, .int .i64 m.ts, .int .i64 m.code, .string m.text, .slice A m.keys.length c, .slice B m.ws.length d] 35) = W3 at hb3 hR3 hH3 ⊢
    have HR2 := Lib.hid hR3
    have HB2 := Lib.hid hb3
    have HH2 := Lib.hid hH3
    clear hb3 hR3 hH3
    have y0 := HR2.out.cell (i := 0) rfl
    have y1 := HR2.out.cell (i := 1) rfl
    have y2 := HR2.out.cell (i := 2) rfl
    have y3 := HR2.out.cell (i := 3) rfl
    have y4 := HR2.out.cell (i := 4) rfl
    have y5 := HR2.out.cell (i := 5) rfl
    have y6 := HR2.out.cell (i := 6) rfl
    have y7 := HR2.out.cell (i := 7) rfl
    have y8 := HR2.out.cell (i := 8) rfl
    have zq := fun i => HR2.out.free (i := i)
    go_wp2_with fail
    have HF := Lib.hid (set9_cel (v0 := .int .i64 0) (v1 := .int .i64 0) (v2 := .int .i64 0) (v3 := .int .i64 0) (v4 := .int .i64 0) (v5 := .int .i64 0) (v6 := .string ⟨#[]⟩) (v7 := .slice none 0 0) (v8 := .slice none 0 0) HR2.out)
    have hbel := set9_below (H := W.heap.size) (R := W.heap.size) (v0 := .int .i64 0) (v1 := .int .i64 0) (v2 := .int .i64 0) (v3 := .int .i64 0) (v4 := .int .i64 0) (v5 := .int .i64 0) (v6 := .string ⟨#[]⟩) (v7 := .slice none 0 0) (v8 := .slice none 0 0) (Below.refl W.heap.size W3) (Nat.le_refl _)
    have HP := Lib.hid (InjPost.no (c := 70) HH2.out HB2.out HLt.out hbel)
    have z0 := HF.out.cell (i := 0) rfl
    have z1 := HF.out.cell (i := 1) rfl
    have z2 := HF.out.cell (i := 2) rfl
    have z3 := HF.out.cell (i := 3) rfl
    have z4 := HF.out.cell (i := 4) rfl
    have z5 := HF.out.cell (i := 5) rfl
    have z6 := HF.out.cell (i := 6) rfl
    have z7 := HF.out.cell (i := 7) rfl
    have z8 := HF.out.cell (i := 8) rfl
    unfold set9 at z0 z1 z2 z3 z4 z5 z6 z7 z8
    rw [HPe.out]
    exact bodyPost_ret (v := .tuple #[letV noLet none none 0 0, .int .i64 70]) (by simp [results, Try.results20, go_sem, letV, noLet, z0, z1, z2, z3, z4, z5, z6, z7, z8]) rfl HP.out
  rw [hdx] at hd
  have hPe : P = if (putL room l m).2 ≠ 0 then (l, noLet, (putL room l m).2) else ((putL room l m).1, m, 0) := by rw [← hP]; unfold injL; rw [hdx]; rw [if_neg (by simp)]
  have HPut := Lib.hid (fun (V : World) (hb : Below W.heap.size W V) (x : LI) (hx : LOwn V 0 x) (e : x.l = m) => by have := lput_any (h.below hb) x hx (by rw [e]; exact hok); rw [e] at this; exact this)
  have HPe0 := Lib.hid hPe
  clear hPe
  simp only at hd
  unfold letV at hd HPut
  have HD := Lib.hid hd
  clear h hb1 hd hP hdx hlt1 hok
  unfold zeroO at HD HB HH HW
  go_enter Try.func20, Try.ntmps20
  go_upto_region 1 with fail
  generalize W.alloc (.cells #[.int .i64 0, .int .i64 0, .int .i64 0, .int .i64 0, .int .i64 0, .int .i64 0, .string ⟨#[]⟩, .slice none 0 0, .slice none 0 0] 35) = W1 at hR0 HD HB HH HW ⊢
  have HR := Lib.hid hR0
  clear hR0
  go_wp2_with fail
  refine HD.out.mono ?_
  rintro e W2 ⟨A, B, c, d, rfl, hown, hb2⟩
  have hal := (Below.refl W2.heap.size W2).alloc (Nat.le_refl _) (.cells #[.int .i64 m.kind, .int .i64 m.src, .int .i64 m.dst, .int .i64 m.txn, .int .i64 m.ts, .int .i64 m.code, .string m.text, .slice A m.keys.length c, .slice B m.ws.length d] 35)
  have hb3 : Below W.heap.size W (W2.alloc (.cells #[.int .i64 m.kind, .int .i64 m.src, .int .i64 m.dst, .int .i64 m.txn, .int .i64 m.ts, .int .i64 m.code, .string m.text, .slice A m.keys.length c, .slice B m.ws.length d] 35)) := (HB.out.trans (hb2.mono HB.out.size)).trans (hal.mono (Nat.le_trans HB.out.size hb2.size))
  have hR3 := (HR.out.below hb2).below hal
  have hH3 := (HH.out.below hb2).below hal
  have hO3 := hown.below hal
  have hC3 : Cel (W2.alloc (.cells #[.int .i64 m.kind, .int .i64 m.src, .int .i64 m.dst, .int .i64 m.txn, .int .i64 m.ts, .int .i64 m.code, .string m.text, .slice A m.keys.length c, .slice B m.ws.length d] 35)) W2.heap.size 35 (lcs ⟨m, A, B, c, d⟩) := (blk1 W2 _).2
  have hq : W.heap.size < W2.heap.size := Nat.lt_of_lt_of_le HW.out hb2.size
  clear hown hb2 hal HR HB HD HH
  go_upto_region 2 with fail
  generalize W2.alloc (.cells #[.int .i64 m.kind, .int .i64 m.src, .int .i64 m.dst, .int .i64 m.txn, .int .i64 m.ts, .int .i64 m.code, .string m.text, .slice A m.keys.length c, .slice B m.ws.length d] 35) = W3 at hb3 hR3 hH3 hO3 hC3 ⊢
  generalize W2.heap.size = q at hC3 hq ⊢
  have HPu := Lib.hid (HPut.out W3 hb3 ⟨m, A, B, c, d⟩ (hO3.mono (Nat.zero_le _)) rfl)
  have HC3 := Lib.hid hC3
  have HR3 := Lib.hid hR3
  have HB3 := Lib.hid hb3
  have HH3 := Lib.hid hH3
  have HO3 := Lib.hid (hO3.mono (H' := W.heap.size) (Nat.le_of_lt HW.out))
  have HQ := Lib.hid hq
  have k0 := hC3.cell (i := 0) rfl
  have k1 := hC3.cell (i := 1) rfl
  have k2 := hC3.cell (i := 2) rfl
  have k3 := hC3.cell (i := 3) rfl
  have k4 := hC3.cell (i := 4) rfl
  have k5 := hC3.cell (i := 5) rfl
  have k6 := hC3.cell (i := 6) rfl
  have k7 := hC3.cell (i := 7) rfl
  have k8 := hC3.cell (i := 8) rfl
  clear hb3 hR3 hH3 hO3 hC3 hq HPut
  have hPe := HPe0.out
  clear HPe0
  rcases putL_cases room l m with hp | hp
  case inr =>
    rw [hp] at HPu hPe
    have HPe : Hid (P = (l, noLet, 150)) := Lib.hid (by rw [hPe]; rfl)
    clear hPe hp
    go_wp2_with fail
    refine HPu.out.mono ?_
    rintro e W4 ⟨rfl, hr, hf⟩
    have hR4 : Cel W4 W.heap.size 35 zeroL := (hf.block _ HR3.out.lt (fun hf => by have := HLt.out _ hf; omega)).trans HR3.out
    have HR2 := Lib.hid hR4
    have HF4 := Lib.hid ((Far.of (F := F) HB3.out).trans hf)
    have HRp := Lib.hid hr
    have HSz := Lib.hid hf.size
    clear hr hf hR4 k0 k1 k2 k3 k4 k5 k6 k7 k8
    have y0 := HR2.out.cell (i := 0) rfl
    have y1 := HR2.out.cell (i := 1) rfl
    have y2 := HR2.out.cell (i := 2) rfl
    have y3 := HR2.out.cell (i := 3) rfl
    have y4 := HR2.out.cell (i := 4) rfl
    have y5 := HR2.out.cell (i := 5) rfl
    have y6 := HR2.out.cell (i := 6) rfl
    have y7 := HR2.out.cell (i := 7) rfl
    have y8 := HR2.out.cell (i := 8) rfl
    have zq := fun i => HR2.out.free (i := i)
    go_wp2_with fail
    have HF := Lib.hid (set9_cel (v0 := .int .i64 0) (v1 := .int .i64 0) (v2 := .int .i64 0) (v3 := .int .i64 0) (v4 := .int .i64 0) (v5 := .int .i64 0) (v6 := .string ⟨#[]⟩) (v7 := .slice none 0 0) (v8 := .slice none 0 0) HR2.out)
    have hbel := set9_below (H := W.heap.size) (R := W.heap.size) (v0 := .int .i64 0) (v1 := .int .i64 0) (v2 := .int .i64 0) (v3 := .int .i64 0) (v4 := .int .i64 0) (v5 := .int .i64 0) (v6 := .string ⟨#[]⟩) (v7 := .slice none 0 0) (v8 := .slice none 0 0) (Below.refl W.heap.size W4) (Nat.le_refl _)
    have hPo : InjPost W F g room (l, noLet, 150) (.returned (.tuple #[letV noLet none none 0 0, .int .i64 150])) (set9 W4 W.heap.size (.int .i64 0) (.int .i64 0) (.int .i64 0) (.int .i64 0) (.int .i64 0) (.int .i64 0) (.string ⟨#[]⟩) (.slice none 0 0) (.slice none 0 0)) :=
      ⟨default, Gr F W3 W4, rfl, rfl, noLet_own _ _, fun k hk => hk.elim .inl (fun h => .inr (Nat.le_trans HB3.out.size h.1)), fun k hk => hk.elim (fun e => by cases e) (fun e => by cases e), HRp.out.same hbel.size (fun k hk => by
        rcases hk with hk | hk
        · exact hbel.block k (HLt.out k hk)
        · exact (set9_blk (Nat.ne_of_gt (Nat.lt_of_lt_of_le HR3.out.lt hk.1)))), ⟨⟨Nat.le_trans HF4.out.size hbel.size, fun k hk hn => (hbel.block k hk).trans (HF4.out.block k hk hn)⟩, HF4.out.st.trans (st_below hbel)⟩⟩
    have HP := Lib.hid hPo
    have z0 := HF.out.cell (i := 0) rfl
    have z1 := HF.out.cell (i := 1) rfl
    have z2 := HF.out.cell (i := 2) rfl
    have z3 := HF.out.cell (i := 3) rfl
    have z4 := HF.out.cell (i := 4) rfl
    have z5 := HF.out.cell (i := 5) rfl
    have z6 := HF.out.cell (i := 6) rfl
    have z7 := HF.out.cell (i := 7) rfl
    have z8 := HF.out.cell (i := 8) rfl
    unfold set9 at z0 z1 z2 z3 z4 z5 z6 z7 z8
    rw [HPe.out]
    exact bodyPost_ret (v := .tuple #[letV noLet none none 0 0, .int .i64 150]) (by simp [results, Try.results20, go_sem, letV, noLet, z0, z1, z2, z3, z4, z5, z6, z7, z8]) rfl HP.out
  rw [hp] at HPu hPe
  have HPe : Hid (P = (l ++ [m], m, 0)) := Lib.hid (by rw [hPe]; rfl)
  clear hPe hp
  go_wp2_with fail
  refine HPu.out.mono ?_
  rintro e W4 ⟨rfl, hr, hf⟩
  have hR4 : Cel W4 W.heap.size 35 zeroL := (hf.block _ HR3.out.lt (fun hf => by have := HLt.out _ hf; omega)).trans HR3.out
  have hC4 : Cel W4 q 35 (lcs ⟨m, A, B, c, d⟩) := (hf.block _ HC3.out.lt (fun hf => by have := HLt.out _ hf; have := HQ.out; omega)).trans HC3.out
  have hO4 : LOwn W4 W.heap.size ⟨m, A, B, c, d⟩ := HO3.out.same (fun k hb => hf.block k (HO3.out.lt hb).1 (fun hf => by have := HLt.out _ hf; have := (HO3.out.lt hb).2; omega))
  have HR2 := Lib.hid hR4
  have HO4 := Lib.hid hO4
  have HC4 := Lib.hid hC4
  have HF4 := Lib.hid ((Far.of (F := F) HB3.out).trans hf)
  have HRp := Lib.hid hr
  clear hr hf hR4 hC4 hO4 k0 k1 k2 k3 k4 k5 k6 k7 k8
  have y0 := HR2.out.cell (i := 0) rfl
  have y1 := HR2.out.cell (i := 1) rfl
  have y2 := HR2.out.cell (i := 2) rfl
  have y3 := HR2.out.cell (i := 3) rfl
  have y4 := HR2.out.cell (i := 4) rfl
  have y5 := HR2.out.cell (i := 5) rfl
  have y6 := HR2.out.cell (i := 6) rfl
  have y7 := HR2.out.cell (i := 7) rfl
  have y8 := HR2.out.cell (i := 8) rfl
  have k0 := HC4.out.cell (i := 0) rfl
  have k1 := HC4.out.cell (i := 1) rfl
  have k2 := HC4.out.cell (i := 2) rfl
  have k3 := HC4.out.cell (i := 3) rfl
  have k4 := HC4.out.cell (i := 4) rfl
  have k5 := HC4.out.cell (i := 5) rfl
  have k6 := HC4.out.cell (i := 6) rfl
  have k7 := HC4.out.cell (i := 7) rfl
  have k8 := HC4.out.cell (i := 8) rfl
  have zq := fun i => HR2.out.free (i := i)
  go_wp2_with fail
  have HF := Lib.hid (set9_cel (v0 := .int .i64 m.kind) (v1 := .int .i64 m.src) (v2 := .int .i64 m.dst) (v3 := .int .i64 m.txn) (v4 := .int .i64 m.ts) (v5 := .int .i64 m.code) (v6 := .string m.text) (v7 := .slice A m.keys.length c) (v8 := .slice B m.ws.length d) HR2.out)
  have hbel := set9_below (H := W.heap.size) (R := W.heap.size) (v0 := .int .i64 m.kind) (v1 := .int .i64 m.src) (v2 := .int .i64 m.dst) (v3 := .int .i64 m.txn) (v4 := .int .i64 m.ts) (v5 := .int .i64 m.code) (v6 := .string m.text) (v7 := .slice A m.keys.length c) (v8 := .slice B m.ws.length d) (Below.refl W.heap.size W4) (Nat.le_refl _)
  have hPo : InjPost W F g room (l ++ [m], m, 0) (.returned (.tuple #[letV m A B c d, .int .i64 0])) (set9 W4 W.heap.size (.int .i64 m.kind) (.int .i64 m.src) (.int .i64 m.dst) (.int .i64 m.txn) (.int .i64 m.ts) (.int .i64 m.code) (.string m.text) (.slice A m.keys.length c) (.slice B m.ws.length d)) :=
    ⟨⟨m, A, B, c, d⟩, Gr F W3 W4, rfl, rfl, HO4.out.same (fun k hb => set9_blk (fun e => by
        subst e
        rcases hb with hb | hb
        · exact row_cel HO4.out.ks HR2.out (by decide) hb
        · exact row_cel HO4.out.ws HR2.out (by decide) hb)), fun k hk => hk.elim .inl (fun h => .inr (Nat.le_trans HB3.out.size h.1)), (fun k hb hk => by
        have h1 := HO3.out.lt hb
        rcases hk with hk | hk
        · have := HLt.out k hk; omega
        · have := hk.1; omega), HRp.out.same hbel.size (fun k hk => by
        rcases hk with hk | hk
        · exact hbel.block k (HLt.out k hk)
        · exact (set9_blk (Nat.ne_of_gt (Nat.lt_of_lt_of_le HR3.out.lt hk.1)))), ⟨⟨Nat.le_trans HF4.out.size hbel.size, fun k hk hn => (hbel.block k hk).trans (HF4.out.block k hk hn)⟩, HF4.out.st.trans (st_below hbel)⟩⟩
  have HP := Lib.hid hPo
  have z0 := HF.out.cell (i := 0) rfl
  have z1 := HF.out.cell (i := 1) rfl
  have z2 := HF.out.cell (i := 2) rfl
  have z3 := HF.out.cell (i := 3) rfl
  have z4 := HF.out.cell (i := 4) rfl
  have z5 := HF.out.cell (i := 5) rfl
  have z6 := HF.out.cell (i := 6) rfl
  have z7 := HF.out.cell (i := 7) rfl
  have z8 := HF.out.cell (i := 8) rfl
  unfold set9 at z0 z1 z2 z3 z4 z5 z6 z7 z8
  rw [HPe.out]
  exact bodyPost_ret (v := .tuple #[letV m A B c d, .int .i64 0]) (by simp [results, Try.results20, go_sem, letV, z0, z1, z2, z3, z4, z5, z6, z7, z8]) rfl HP.out

end
end Nt
end Go.Proofs.Ytkpcfakfkcghdaa
