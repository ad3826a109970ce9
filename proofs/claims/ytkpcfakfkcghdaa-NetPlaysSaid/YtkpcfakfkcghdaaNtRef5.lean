/- The document's net: Inject; contract; no condition but the ranges. -/
import Derived.Test.YtkpcfakfkcghdaaNtRef4
namespace Go.Proofs.Ytkpcfakfkcghdaa
namespace Nt
open Go.RowKit Bk Lt
set_option linter.unusedVariables false

attribute [local go_sem ↓] Go.wp_at_zero Go.wp_at_succ
attribute [local go_sem] floatUpon pick

theorem inj_no0 {room : Int} {l : List Let} {s : ByteArray} (h : decX s = (noLet, 70)) : injL room l s = (l, noLet, 70) := by
  unfold injL; rw [h, if_pos (by simp)]; rfl

section
variable {W W' : World} {P P' : Nat → Prop} {b : Nat} {room : Int} {A : Option Addr} {c : Nat} {L : List LI} {l : List Let}

/-- behind Inject of the document's net -/
def RInj (W : World) (P : Nat → Prop) (b : Nat) (room : Int) (r : List Let × Let × Int) : Ending → World → Prop := fun e w' =>
  ∃ x : LI, e = .returned (.tuple #[letV x.l x.A x.B x.c x.d, .int .i64 r.2.2]) ∧ x.l = r.2.1 ∧ RV w' P x ∧ RPost W P b room r.1 w'

theorem rv_none (W : World) (P : Nat → Prop) : RV W P default := ⟨no_valN W, fun h => absurd h (by show ¬ 0 < ([] : List ByteArray).length; simp), fun h => absurd h (by show ¬ 0 < ([] : List Wr).length; simp)⟩

set_option maxRecDepth 20000 in
set_option maxHeartbeats 8000000 in
theorem rinject_any (h : RAt W P b room A c L) (s : ByteArray) (hs : s.size ≤ 1000000000000000) : Calls Try.prog 29 #[.pointer (some ⟨b, 0, none⟩), .string s] W (RInj W P b room (injL room (L.map (·.l)) s)) := by
  have hb1 : Below W.heap.size W (W.alloc zeroO) := (Below.refl _ W).alloc (Nat.le_refl _) _
  have hR0 := zero_cells W
  have hlt1 : W.heap.size < (W.alloc zeroO).heap.size := by simp
  obtain ⟨P1, hP1⟩ : ∃ P1 : Nat → Prop, P1 = fun k => P k ∨ k = W.heap.size := ⟨_, rfl⟩
  have h1 : RAt (W.alloc zeroO) P1 b room A c L := h.new hb1 (fun k hk => by rw [hP1] at hk; exact hk.imp id (fun e => by subst e; exact ⟨Nat.le_refl _, by simp⟩)) (by rw [hP1]; exact .inl h.pb)
  have hd := rdecode_any s (W.alloc zeroO) hs
  unfold DecNewL at hd
  obtain ⟨S, hS⟩ : ∃ S, injL room (L.map (·.l)) s = S := ⟨_, rfl⟩
  rw [hS]
  have hblt : b < W.heap.size := h.cel.lt
  have HEnd : Hid (∀ (W4 W9 : World), Below W.heap.size W4 W9 → (∀ k, k ≠ W.heap.size → W9.heap[k]? = W4.heap[k]?) → ∀ (y : LI) (cd : Int) (ll : List Let), RV W4 P1 y → RRep W4 P1 b room ll → Far (fun k => k = b) W W4 → RInj W P b room (ll, y.l, cd) (.returned (.tuple #[letV y.l y.A y.B y.c y.d, .int .i64 cd])) W9) := Lib.hid (fun W4 W9 hbel hblk y cd ll hy hr hf => by
    have hw : Away P1 W4 W9 := ⟨hbel.size, fun k hk hn => hblk k (fun e => hn (by rw [hP1]; exact .inr e))⟩
    have hsub : ∀ k, P k → P1 k := fun k hk => by rw [hP1]; exact .inl hk
    obtain ⟨A2, c2, L2, hr2, e2⟩ := hr
    have hr3 := hr2.away hw (hblk b (by omega))
    exact ⟨y, rfl, rfl, (hy.away hw).turn (fun k hk => .inl (hsub k hk)), ⟨A2, c2, L2, hr3.turn (fun k hk => .inl (hsub k hk)) h.pb (fun k hk => Nat.lt_of_lt_of_le (h.lt k hk) (Nat.le_trans hf.size hbel.size)), e2⟩, ⟨⟨Nat.le_trans hf.size hbel.size, fun k hk hn => (hbel.block k hk).trans (hf.block k hk hn)⟩, hf.st.trans (st_below hbel)⟩⟩)
  have HLt1 : Hid (∀ k, P1 k → k < (W.alloc zeroO).heap.size) := Lib.hid h1.lt
  have HB := Lib.hid hb1
  have HW := Lib.hid hlt1
  have HR1 := Lib.hid h1
  have HPb : Hid (P1 b) := Lib.hid h1.pb
  have HBl := Lib.hid hblt
  rcases decX_cases s with ⟨m, hok, -, hdx⟩ | ⟨-, hdx⟩
  case inr =>
    rw [hdx] at hd
    have HPe : Hid (S = (L.map (·.l), noLet, 70)) := Lib.hid (by rw [← hS]; exact inj_no0 hdx)
    obtain ⟨m, hm⟩ : ∃ m, noLet = m := ⟨_, rfl⟩
    simp only [hm] at hd
    unfold letV at hd
    have HD := Lib.hid hd
    clear h h1 hb1 hd hS hdx hlt1 hblt hP1
    unfold zeroO at HD HB HR1 HW HLt1
    go_enter Try.func29, Try.ntmps29
    go_upto_region 1 with fail
    generalize W.alloc (.cells #[.int .i64 0, .int .i64 0, .int .i64 0, .int .i64 0, .int .i64 0, .int .i64 0, .string ⟨#[]⟩, .slice none 0 0, .slice none 0 0] 35) = W1 at hR0 HD HB HR1 HW HLt1 ⊢
    have HZ1 := Lib.hid hR0
    clear hR0
    go_wp2_with fail
    refine HD.out.mono ?_
    rintro e W2 ⟨A1, B1, c1, d1, rfl, -, -, -, hb2⟩
    have hal := (Below.refl W2.heap.size W2).alloc (Nat.le_refl _) (.cells #[.int .i64 m.kind, .int .i64 m.src, .int .i64 m.dst, .int .i64 m.txn, .int .i64 m.ts, .int .i64 m.code, .string m.text, .slice A1 m.keys.length c1, .slice B1 m.ws.length d1] 35)
    have hb3 : Below W.heap.size W (W2.alloc (.cells #[.int .i64 m.kind, .int .i64 m.src, .int .i64 m.dst, .int .i64 m.txn, .int .i64 m.ts, .int .i64 m.code, .string m.text, .slice A1 m.keys.length c1, .slice B1 m.ws.length d1] 35)) := (HB.out.trans (hb2.mono HB.out.size)).trans (hal.mono (Nat.le_trans HB.out.size hb2.size))
    have hZ3 := (HZ1.out.below hb2).below hal
    have hR3 := (HR1.out.below hb2).below hal
    clear hb2 hal HZ1 HB HD HR1
    go_upto_region 2 with fail
    generalize W2.alloc (.cells #[.int .i64 m.kind, .int .i64 m.src, .int .i64 m.dst, .int .i64 m.txn, .int .i64 m.ts, .int .i64 m.code, .string m.text, .slice A1 m.keys.length c1, .slice B1 m.ws.length d1] 35) = W4 at hb3 hZ3 hR3 ⊢
    have HZ := Lib.hid hZ3
    have HB2 := Lib.hid hb3
    have HR2 := Lib.hid hR3
    clear hb3 hZ3 hR3
    have y0 := HZ.out.cell (i := 0) rfl
    have y1 := HZ.out.cell (i := 1) rfl
    have y2 := HZ.out.cell (i := 2) rfl
    have y3 := HZ.out.cell (i := 3) rfl
    have y4 := HZ.out.cell (i := 4) rfl
    have y5 := HZ.out.cell (i := 5) rfl
    have y6 := HZ.out.cell (i := 6) rfl
    have y7 := HZ.out.cell (i := 7) rfl
    have y8 := HZ.out.cell (i := 8) rfl
    have zq := fun i => HZ.out.free (i := i)
    go_wp2_with fail
    have HF := Lib.hid (set9_cel (v0 := .int .i64 0) (v1 := .int .i64 0) (v2 := .int .i64 0) (v3 := .int .i64 0) (v4 := .int .i64 0) (v5 := .int .i64 0) (v6 := .string ⟨#[]⟩) (v7 := .slice none 0 0) (v8 := .slice none 0 0) HZ.out)
    have hbel := set9_below (H := W.heap.size) (R := W.heap.size) (v0 := .int .i64 0) (v1 := .int .i64 0) (v2 := .int .i64 0) (v3 := .int .i64 0) (v4 := .int .i64 0) (v5 := .int .i64 0) (v6 := .string ⟨#[]⟩) (v7 := .slice none 0 0) (v8 := .slice none 0 0) (Below.refl W.heap.size W4) (Nat.le_refl _)
    have hblk : ∀ k, k ≠ W.heap.size → (set9 W4 W.heap.size (.int .i64 0) (.int .i64 0) (.int .i64 0) (.int .i64 0) (.int .i64 0) (.int .i64 0) (.string ⟨#[]⟩) (.slice none 0 0) (.slice none 0 0)).heap[k]? = W4.heap[k]? := fun k hk => set9_blk hk
    have hpo := HEnd.out _ _ hbel hblk default 70 (L.map (·.l)) (rv_none _ _) ⟨_, _, _, HR2.out, rfl⟩ (Far.of HB2.out)
    have HPo := Lib.hid hpo
    clear hpo hbel hblk
    have z0 := HF.out.cell (i := 0) rfl
    have z1 := HF.out.cell (i := 1) rfl
    have z2 := HF.out.cell (i := 2) rfl
    have z3 := HF.out.cell (i := 3) rfl
    have z4 := HF.out.cell (i := 4) rfl
    have z5 := HF.out.cell (i := 5) rfl
    have z6 := HF.out.cell (i := 6) rfl
    have z7 := HF.out.cell (i := 7) rfl
    have z8 := HF.out.cell (i := 8) rfl
    unfold set9 at z0 z1 z2 z3 z4 z5 z6 z7 z8
    rw [HPe.out]
    exact bodyPost_ret (v := .tuple #[letV noLet none none 0 0, .int .i64 70]) (by simp [results, Try.results29, go_sem, letV, noLet, z0, z1, z2, z3, z4, z5, z6, z7, z8]) rfl HPo.out
  rw [hdx] at hd
  have hok2 : sendL room (L.map (·.l)) m = putL room (L.map (·.l)) m := by unfold sendL; rw [if_pos hok]
  have hPe0 : S = if (putL room (L.map (·.l)) m).2 ≠ 0 then (L.map (·.l), noLet, (putL room (L.map (·.l)) m).2) else ((putL room (L.map (·.l)) m).1, m, 0) := by rw [← hS]; unfold injL; rw [hdx]; rw [if_neg (by simp)]
  have HPe0 := Lib.hid hPe0
  have HSn := Lib.hid (fun (V : World) (hb : Below (W.alloc zeroO).heap.size (W.alloc zeroO) V) (x : LI) (hx : RV V P1 x) (e : x.l = m) => by have := rsend_any (h1.below hb) x hx; rw [e, hok2] at this; exact this)
  simp only at hd
  unfold letV at hd HSn
  have HD := Lib.hid hd
  clear h h1 hb1 hd hS hdx hlt1 hok hok2 hPe0 hblt hP1
  unfold zeroO at HD HB HR1 HW HLt1 HSn
  go_enter Try.func29, Try.ntmps29
  go_upto_region 1 with fail
  generalize W.alloc (.cells #[.int .i64 0, .int .i64 0, .int .i64 0, .int .i64 0, .int .i64 0, .int .i64 0, .string ⟨#[]⟩, .slice none 0 0, .slice none 0 0] 35) = W1 at hR0 HD HB HR1 HW HLt1 HSn ⊢
  have HZ1 := Lib.hid hR0
  clear hR0
  go_wp2_with fail
  refine HD.out.mono ?_
  rintro e W2 ⟨A1, B1, c1, d1, rfl, hval, hA1, hB1, hb2⟩
  have hal := (Below.refl W2.heap.size W2).alloc (Nat.le_refl _) (.cells #[.int .i64 m.kind, .int .i64 m.src, .int .i64 m.dst, .int .i64 m.txn, .int .i64 m.ts, .int .i64 m.code, .string m.text, .slice A1 m.keys.length c1, .slice B1 m.ws.length d1] 35)
  have hb3 : Below W.heap.size W (W2.alloc (.cells #[.int .i64 m.kind, .int .i64 m.src, .int .i64 m.dst, .int .i64 m.txn, .int .i64 m.ts, .int .i64 m.code, .string m.text, .slice A1 m.keys.length c1, .slice B1 m.ws.length d1] 35)) := (HB.out.trans (hb2.mono HB.out.size)).trans (hal.mono (Nat.le_trans HB.out.size hb2.size))
  have hb13 : Below W1.heap.size W1 (W2.alloc (.cells #[.int .i64 m.kind, .int .i64 m.src, .int .i64 m.dst, .int .i64 m.txn, .int .i64 m.ts, .int .i64 m.code, .string m.text, .slice A1 m.keys.length c1, .slice B1 m.ws.length d1] 35)) := hb2.trans (hal.mono hb2.size)
  have hZ3 := (HZ1.out.below hb2).below hal
  have hrv : RV (W2.alloc (.cells #[.int .i64 m.kind, .int .i64 m.src, .int .i64 m.dst, .int .i64 m.txn, .int .i64 m.ts, .int .i64 m.code, .string m.text, .slice A1 m.keys.length c1, .slice B1 m.ws.length d1] 35)) P1 ⟨m, A1, B1, c1, d1⟩ := ⟨hval.below hal, fun _ ad e hk => by have := HLt1.out _ hk; have := hA1 ad e; omega, fun _ ad e hk => by have := HLt1.out _ hk; have := hB1 ad e; omega⟩
  have hC3 : Cel (W2.alloc (.cells #[.int .i64 m.kind, .int .i64 m.src, .int .i64 m.dst, .int .i64 m.txn, .int .i64 m.ts, .int .i64 m.code, .string m.text, .slice A1 m.keys.length c1, .slice B1 m.ws.length d1] 35)) W2.heap.size 35 (lcs ⟨m, A1, B1, c1, d1⟩) := (blk1 W2 _).2
  have hq : W.heap.size < W2.heap.size := Nat.lt_of_lt_of_le HW.out hb2.size
  clear hval hA1 hB1 hb2 hal HZ1 HB HD
  go_upto_region 2 with fail
  generalize W2.alloc (.cells #[.int .i64 m.kind, .int .i64 m.src, .int .i64 m.dst, .int .i64 m.txn, .int .i64 m.ts, .int .i64 m.code, .string m.text, .slice A1 m.keys.length c1, .slice B1 m.ws.length d1] 35) = W3 at hb3 hb13 hZ3 hrv hC3 ⊢
  generalize W2.heap.size = q at hC3 hq ⊢
  have hsn := HSn.out W3 hb13 ⟨m, A1, B1, c1, d1⟩ hrv rfl
  have HC3 := Lib.hid hC3
  have HZ3 := Lib.hid hZ3
  have HB3 := Lib.hid hb3
  have HRv3 := Lib.hid hrv
  have HQ := Lib.hid hq
  have k0 := hC3.cell (i := 0) rfl
  have k1 := hC3.cell (i := 1) rfl
  have k2 := hC3.cell (i := 2) rfl
  have k3 := hC3.cell (i := 3) rfl
  have k4 := hC3.cell (i := 4) rfl
  have k5 := hC3.cell (i := 5) rfl
  have k6 := hC3.cell (i := 6) rfl
  have k7 := hC3.cell (i := 7) rfl
  have k8 := hC3.cell (i := 8) rfl
  clear hb3 hb13 hZ3 hrv hC3 hq HSn
  have hPe := HPe0.out
  clear HPe0
  rcases putL_cases room (L.map (·.l)) m with hp | hp
  case inr =>
    rw [hp] at hsn hPe
    have HPe : Hid (S = (L.map (·.l), noLet, 150)) := Lib.hid (by rw [hPe]; rfl)
    have HSd := Lib.hid hsn
    clear hPe hp hsn
    go_wp2_with fail
    refine HSd.out.mono ?_
    rintro e W4 ⟨rfl, hr, hf⟩
    have hZ4 : Cel W4 W.heap.size 35 zeroL := (hf.block _ HZ3.out.lt (fun e => by have := HBl.out; omega)).trans HZ3.out
    have HZ := Lib.hid hZ4
    have HF4 := Lib.hid ((Far.of (F := fun k => k = b) HB3.out).trans hf)
    have HR2 := Lib.hid hr
    clear hr hf hZ4 k0 k1 k2 k3 k4 k5 k6 k7 k8 HSd
    have y0 := HZ.out.cell (i := 0) rfl
    have y1 := HZ.out.cell (i := 1) rfl
    have y2 := HZ.out.cell (i := 2) rfl
    have y3 := HZ.out.cell (i := 3) rfl
    have y4 := HZ.out.cell (i := 4) rfl
    have y5 := HZ.out.cell (i := 5) rfl
    have y6 := HZ.out.cell (i := 6) rfl
    have y7 := HZ.out.cell (i := 7) rfl
    have y8 := HZ.out.cell (i := 8) rfl
    have zq := fun i => HZ.out.free (i := i)
    go_wp2_with fail
    have HF := Lib.hid (set9_cel (v0 := .int .i64 0) (v1 := .int .i64 0) (v2 := .int .i64 0) (v3 := .int .i64 0) (v4 := .int .i64 0) (v5 := .int .i64 0) (v6 := .string ⟨#[]⟩) (v7 := .slice none 0 0) (v8 := .slice none 0 0) HZ.out)
    have hbel := set9_below (H := W.heap.size) (R := W.heap.size) (v0 := .int .i64 0) (v1 := .int .i64 0) (v2 := .int .i64 0) (v3 := .int .i64 0) (v4 := .int .i64 0) (v5 := .int .i64 0) (v6 := .string ⟨#[]⟩) (v7 := .slice none 0 0) (v8 := .slice none 0 0) (Below.refl W.heap.size W4) (Nat.le_refl _)
    have hblk : ∀ k, k ≠ W.heap.size → (set9 W4 W.heap.size (.int .i64 0) (.int .i64 0) (.int .i64 0) (.int .i64 0) (.int .i64 0) (.int .i64 0) (.string ⟨#[]⟩) (.slice none 0 0) (.slice none 0 0)).heap[k]? = W4.heap[k]? := fun k hk => set9_blk hk
    have hpo := HEnd.out _ _ hbel hblk default 150 (L.map (·.l)) (rv_none _ _) HR2.out HF4.out
    have HPo := Lib.hid hpo
    clear hpo hbel hblk
    have z0 := HF.out.cell (i := 0) rfl
    have z1 := HF.out.cell (i := 1) rfl
    have z2 := HF.out.cell (i := 2) rfl
    have z3 := HF.out.cell (i := 3) rfl
    have z4 := HF.out.cell (i := 4) rfl
    have z5 := HF.out.cell (i := 5) rfl
    have z6 := HF.out.cell (i := 6) rfl
    have z7 := HF.out.cell (i := 7) rfl
    have z8 := HF.out.cell (i := 8) rfl
    unfold set9 at z0 z1 z2 z3 z4 z5 z6 z7 z8
    rw [HPe.out]
    exact bodyPost_ret (v := .tuple #[letV noLet none none 0 0, .int .i64 150]) (by simp [results, Try.results29, go_sem, letV, noLet, z0, z1, z2, z3, z4, z5, z6, z7, z8]) rfl HPo.out
  rw [hp] at hsn hPe
  have HPe : Hid (S = (L.map (·.l) ++ [m], m, 0)) := Lib.hid (by rw [hPe]; rfl)
  have HSd := Lib.hid hsn
  clear hPe hp hsn
  go_wp2_with fail
  refine HSd.out.mono ?_
  rintro e W4 ⟨rfl, hr, hf⟩
  have hZ4 : Cel W4 W.heap.size 35 zeroL := (hf.block _ HZ3.out.lt (fun e => by have := HBl.out; omega)).trans HZ3.out
  have hC4 : Cel W4 q 35 (lcs ⟨m, A1, B1, c1, d1⟩) := (hf.block _ HC3.out.lt (fun e => by have := HBl.out; have := HQ.out; omega)).trans HC3.out
  have hrv4 : RV W4 P1 ⟨m, A1, B1, c1, d1⟩ := HRv3.out.away ⟨hf.size, fun k hk hn => hf.block k hk (fun e => hn (by rw [e]; exact HPb.out))⟩
  have HZ := Lib.hid hZ4
  have HC4 := Lib.hid hC4
  have HRv4 := Lib.hid hrv4
  have HF4 := Lib.hid ((Far.of (F := fun k => k = b) HB3.out).trans hf)
  have HR2 := Lib.hid hr
  clear hr hf hZ4 hC4 hrv4 k0 k1 k2 k3 k4 k5 k6 k7 k8 HSd
  have y0 := HZ.out.cell (i := 0) rfl
  have y1 := HZ.out.cell (i := 1) rfl
  have y2 := HZ.out.cell (i := 2) rfl
  have y3 := HZ.out.cell (i := 3) rfl
  have y4 := HZ.out.cell (i := 4) rfl
  have y5 := HZ.out.cell (i := 5) rfl
  have y6 := HZ.out.cell (i := 6) rfl
  have y7 := HZ.out.cell (i := 7) rfl
  have y8 := HZ.out.cell (i := 8) rfl
  have k0 := HC4.out.cell (i := 0) rfl
  have k1 := HC4.out.cell (i := 1) rfl
  have k2 := HC4.out.cell (i := 2) rfl
  have k3 := HC4.out.cell (i := 3) rfl
  have k4 := HC4.out.cell (i := 4) rfl
  have k5 := HC4.out.cell (i := 5) rfl
  have k6 := HC4.out.cell (i := 6) rfl
  have k7 := HC4.out.cell (i := 7) rfl
  have k8 := HC4.out.cell (i := 8) rfl
  have zq := fun i => HZ.out.free (i := i)
  go_wp2_with fail
  have HF := Lib.hid (set9_cel (v0 := .int .i64 m.kind) (v1 := .int .i64 m.src) (v2 := .int .i64 m.dst) (v3 := .int .i64 m.txn) (v4 := .int .i64 m.ts) (v5 := .int .i64 m.code) (v6 := .string m.text) (v7 := .slice A1 m.keys.length c1) (v8 := .slice B1 m.ws.length d1) HZ.out)
  have hbel := set9_below (H := W.heap.size) (R := W.heap.size) (v0 := .int .i64 m.kind) (v1 := .int .i64 m.src) (v2 := .int .i64 m.dst) (v3 := .int .i64 m.txn) (v4 := .int .i64 m.ts) (v5 := .int .i64 m.code) (v6 := .string m.text) (v7 := .slice A1 m.keys.length c1) (v8 := .slice B1 m.ws.length d1) (Below.refl W.heap.size W4) (Nat.le_refl _)
  have hblk : ∀ k, k ≠ W.heap.size → (set9 W4 W.heap.size (.int .i64 m.kind) (.int .i64 m.src) (.int .i64 m.dst) (.int .i64 m.txn) (.int .i64 m.ts) (.int .i64 m.code) (.string m.text) (.slice A1 m.keys.length c1) (.slice B1 m.ws.length d1)).heap[k]? = W4.heap[k]? := fun k hk => set9_blk hk
  have hpo := HEnd.out _ _ hbel hblk ⟨m, A1, B1, c1, d1⟩ 0 (L.map (·.l) ++ [m]) HRv4.out HR2.out HF4.out
  have HPo := Lib.hid hpo
  clear hpo hbel hblk
  have z0 := HF.out.cell (i := 0) rfl
  have z1 := HF.out.cell (i := 1) rfl
  have z2 := HF.out.cell (i := 2) rfl
  have z3 := HF.out.cell (i := 3) rfl
  have z4 := HF.out.cell (i := 4) rfl
  have z5 := HF.out.cell (i := 5) rfl
  have z6 := HF.out.cell (i := 6) rfl
  have z7 := HF.out.cell (i := 7) rfl
  have z8 := HF.out.cell (i := 8) rfl
  unfold set9 at z0 z1 z2 z3 z4 z5 z6 z7 z8
  rw [HPe.out]
  exact bodyPost_ret (v := .tuple #[letV m A1 B1 c1 d1, .int .i64 0]) (by simp [results, Try.results29, go_sem, letV, z0, z1, z2, z3, z4, z5, z6, z7, z8]) rfl HPo.out

end
end Nt
end Go.Proofs.Ytkpcfakfkcghdaa
