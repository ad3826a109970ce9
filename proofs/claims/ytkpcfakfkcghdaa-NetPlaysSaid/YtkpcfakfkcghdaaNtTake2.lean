/- The landed net: Take, Drop, Copy; contracts; no condition but the ranges. -/
import Derived.Test.YtkpcfakfkcghdaaNtTake
namespace Go.Proofs.Ytkpcfakfkcghdaa
namespace Nt
open Go.RowKit Bk Lt
set_option linter.unusedVariables false

attribute [local go_sem ↓] Go.wp_at_zero Go.wp_at_succ
attribute [local go_sem] floatUpon pick

section
variable {W W' W2 : World} {F F' : Nat → Prop} {g : Nat} {room : Int} {l : List Let}

abbrev zeroO : Obj := .cells #[.int .i64 0, .int .i64 0, .int .i64 0, .int .i64 0, .int .i64 0, .int .i64 0, .string ⟨#[]⟩, .slice none 0 0, .slice none 0 0] 35

/-- what is taken, handed on by a call whose result lies in a block of its own -/
theorem TakePost.on {w1 w2 : World} {x : LI} {i : Nat} (hb : Below W.heap.size W W') (hF : ∀ k, F k → k < W.heap.size) (h : TakePost W' F g room l i (.returned (.tuple #[letV x.l x.A x.B x.c x.d, .int .i64 0])) w1) (h2 : Below W.heap.size w1 w2) :
    TakePost W F g room l i (.returned (.tuple #[letV x.l x.A x.B x.c x.d, .int .i64 0])) w2 := by
  obtain ⟨y, hi, e, h3, h4, h5, h6, ⟨v, L, h7, h8⟩, h9⟩ := h
  have e2 : letV x.l x.A x.B x.c x.d = letV y.l y.A y.B y.c y.d := by
    simp only [Ending.returned.injEq, Value.tuple.injEq, Array.mk.injEq, List.cons.injEq, and_true] at e
    exact e
  rw [e2]
  have hk : ∀ k, F k → w2.heap[k]? = w1.heap[k]? := fun k hk => h2.block k (hF k hk)
  refine ⟨y, hi, rfl, h3, h4.same (fun k hb => hk k (h5 k hb)), h5, h6, ⟨v, L, h7.same h2.size (fun k hf => hk k hf.1), h8⟩, ⟨⟨Nat.le_trans hb.size (Nat.le_trans h9.size h2.size), fun k hkk hn => ?_⟩, (st_below hb).trans (h9.st.trans (st_below h2))⟩⟩
  exact (h2.block k hkk).trans ((h9.block k (Nat.lt_of_lt_of_le hkk hb.size) hn).trans (hb.block k hkk))

set_option maxRecDepth 20000 in
set_option maxHeartbeats 4000000 in
theorem ltake_none (h : LRep W F g room []) (p : Int) : Calls Try.prog 16 #[.pointer (some ⟨g, 0, none⟩), .int .i64 p] W (NonePost W F g room) := by
  have hb1 : Below W.heap.size W (W.alloc zeroO) := (Below.refl _ W).alloc (Nat.le_refl _) _
  have hR0 := zero_cells W
  have hc := lremove_none (h.below hb1) p
  unfold NonePost letV noLet at hc
  have HL := Lib.hid hc
  have HB := Lib.hid hb1
  clear h hb1 hc
  unfold zeroO at HL HB
  go_enter Try.func16, Try.ntmps16
  go_upto_region 1 with fail
  generalize W.alloc (.cells #[.int .i64 0, .int .i64 0, .int .i64 0, .int .i64 0, .int .i64 0, .int .i64 0, .string ⟨#[]⟩, .slice none 0 0, .slice none 0 0] 35) = W1 at hR0 HL HB ⊢
  have HR := Lib.hid hR0
  clear hR0
  go_wp2_with fail
  refine HL.out.mono ?_
  rintro e W2 ⟨rfl, hb2⟩
  have HR2 := Lib.hid (HR.out.below hb2)
  have HB2 := Lib.hid (HB.out.trans (hb2.mono HB.out.size))
  clear hb2 HR HB HL
  have y0 := HR2.out.cell (i := 0) rfl
  have y1 := HR2.out.cell (i := 1) rfl
  have y2 := HR2.out.cell (i := 2) rfl
  have y3 := HR2.out.cell (i := 3) rfl
  have y4 := HR2.out.cell (i := 4) rfl
  have y5 := HR2.out.cell (i := 5) rfl
  have y6 := HR2.out.cell (i := 6) rfl
  have y7 := HR2.out.cell (i := 7) rfl
  have y8 := HR2.out.cell (i := 8) rfl
  have zq := fun i => HR2.out.free (i := i)
  go_wp2_with fail
  have HF := Lib.hid (set9_cel (v0 := .int .i64 0) (v1 := .int .i64 0) (v2 := .int .i64 0) (v3 := .int .i64 0) (v4 := .int .i64 0) (v5 := .int .i64 0) (v6 := .string ⟨#[]⟩) (v7 := .slice none 0 0) (v8 := .slice none 0 0) HR2.out)
  have z0 := HF.out.cell (i := 0) rfl
  have z1 := HF.out.cell (i := 1) rfl
  have z2 := HF.out.cell (i := 2) rfl
  have z3 := HF.out.cell (i := 3) rfl
  have z4 := HF.out.cell (i := 4) rfl
  have z5 := HF.out.cell (i := 5) rfl
  have z6 := HF.out.cell (i := 6) rfl
  have z7 := HF.out.cell (i := 7) rfl
  have z8 := HF.out.cell (i := 8) rfl
  unfold set9 at z0 z1 z2 z3 z4 z5 z6 z7 z8
  exact bodyPost_ret (v := .tuple #[letV noLet none none 0 0, .int .i64 5]) (by simp [results, Try.results16, go_sem, letV, noLet, z0, z1, z2, z3, z4, z5, z6, z7, z8]) rfl ⟨rfl, set9_below HB2.out (Nat.le_refl _)⟩

set_option maxRecDepth 20000 in
set_option maxHeartbeats 4000000 in
theorem ltake_any (h : LRep W F g room l) (hn : 1 ≤ l.length) (p : Int) : Calls Try.prog 16 #[.pointer (some ⟨g, 0, none⟩), .int .i64 p] W (TakePost W F g room l (amongV p l.length)) := by
  have hb1 : Below W.heap.size W (W.alloc zeroO) := (Below.refl _ W).alloc (Nat.le_refl _) _
  have hR0 := zero_cells W
  have HL := Lib.hid (lremove_any (h.below hb1) hn p)
  have HB := Lib.hid hb1
  have HLt := Lib.hid h.lt
  have HOn := Lib.hid (fun (x : LI) (w1 w2 : World) h1 h2 => TakePost.on (g := g) (room := room) (l := l) (w1 := w1) (w2 := w2) (x := x) (i := amongV p l.length) hb1 h.lt h1 h2)
  clear h hb1
  unfold zeroO at HL HB HOn
  generalize amongV p l.length = i at HL HOn ⊢
  go_enter Try.func16, Try.ntmps16
  go_upto_region 1 with fail
  generalize W.alloc (.cells #[.int .i64 0, .int .i64 0, .int .i64 0, .int .i64 0, .int .i64 0, .int .i64 0, .string ⟨#[]⟩, .slice none 0 0, .slice none 0 0] 35) = W1 at hR0 HL HB HOn ⊢
  have HR := Lib.hid hR0
  clear hR0
  go_wp2_with fail
  refine HL.out.mono ?_
  rintro e W2 ht
  have HT := Lib.hid ht
  obtain ⟨x, hi, rfl, -, -, -, -, -, hfar⟩ := ht
  have hR2 := (hfar.block _ HR.out.lt (fun hf => by have := HLt.out _ hf; omega)).trans HR.out
  have HR2 := Lib.hid (show Cel W2 W.heap.size 35 zeroL from hR2)
  clear hfar hR2 HR HL
  unfold letV
  have y0 := HR2.out.cell (i := 0) rfl
  have y1 := HR2.out.cell (i := 1) rfl
  have y2 := HR2.out.cell (i := 2) rfl
  have y3 := HR2.out.cell (i := 3) rfl
  have y4 := HR2.out.cell (i := 4) rfl
  have y5 := HR2.out.cell (i := 5) rfl
  have y6 := HR2.out.cell (i := 6) rfl
  have y7 := HR2.out.cell (i := 7) rfl
  have y8 := HR2.out.cell (i := 8) rfl
  have zq := fun i => HR2.out.free (i := i)
  go_wp2_with fail
  have HF := Lib.hid (set9_cel (v0 := .int .i64 x.l.kind) (v1 := .int .i64 x.l.src) (v2 := .int .i64 x.l.dst) (v3 := .int .i64 x.l.txn) (v4 := .int .i64 x.l.ts) (v5 := .int .i64 x.l.code) (v6 := .string x.l.text) (v7 := .slice x.A x.l.keys.length x.c) (v8 := .slice x.B x.l.ws.length x.d) HR2.out)
  have hbel := set9_below (H := W.heap.size) (R := W.heap.size) (v0 := .int .i64 x.l.kind) (v1 := .int .i64 x.l.src) (v2 := .int .i64 x.l.dst) (v3 := .int .i64 x.l.txn) (v4 := .int .i64 x.l.ts) (v5 := .int .i64 x.l.code) (v6 := .string x.l.text) (v7 := .slice x.A x.l.keys.length x.c) (v8 := .slice x.B x.l.ws.length x.d) (Below.refl W.heap.size W2) (Nat.le_refl _)
  have HP := Lib.hid (HOn.out x _ _ HT.out hbel)
  have z0 := HF.out.cell (i := 0) rfl
  have z1 := HF.out.cell (i := 1) rfl
  have z2 := HF.out.cell (i := 2) rfl
  have z3 := HF.out.cell (i := 3) rfl
  have z4 := HF.out.cell (i := 4) rfl
  have z5 := HF.out.cell (i := 5) rfl
  have z6 := HF.out.cell (i := 6) rfl
  have z7 := HF.out.cell (i := 7) rfl
  have z8 := HF.out.cell (i := 8) rfl
  unfold set9 at z0 z1 z2 z3 z4 z5 z6 z7 z8
  exact bodyPost_ret (v := .tuple #[letV x.l x.A x.B x.c x.d, .int .i64 0]) (by simp [results, Try.results16, go_sem, letV, z0, z1, z2, z3, z4, z5, z6, z7, z8]) rfl HP.out

set_option maxRecDepth 20000 in
set_option maxHeartbeats 4000000 in
theorem ldrop_none (h : LRep W F g room []) (p : Int) : Calls Try.prog 27 #[.pointer (some ⟨g, 0, none⟩), .int .i64 p] W (NonePost W F g room) := by
  have hb1 : Below W.heap.size W (W.alloc zeroO) := (Below.refl _ W).alloc (Nat.le_refl _) _
  have hR0 := zero_cells W
  have hc := lremove_none (h.below hb1) p
  unfold NonePost letV noLet at hc
  have HL := Lib.hid hc
  have HB := Lib.hid hb1
  clear h hb1 hc
  unfold zeroO at HL HB
  go_enter Try.func27, Try.ntmps27
  go_upto_region 1 with fail
  generalize W.alloc (.cells #[.int .i64 0, .int .i64 0, .int .i64 0, .int .i64 0, .int .i64 0, .int .i64 0, .string ⟨#[]⟩, .slice none 0 0, .slice none 0 0] 35) = W1 at hR0 HL HB ⊢
  have HR := Lib.hid hR0
  clear hR0
  go_wp2_with fail
  refine HL.out.mono ?_
  rintro e W2 ⟨rfl, hb2⟩
  have HR2 := Lib.hid (HR.out.below hb2)
  have HB2 := Lib.hid (HB.out.trans (hb2.mono HB.out.size))
  clear hb2 HR HB HL
  have y0 := HR2.out.cell (i := 0) rfl
  have y1 := HR2.out.cell (i := 1) rfl
  have y2 := HR2.out.cell (i := 2) rfl
  have y3 := HR2.out.cell (i := 3) rfl
  have y4 := HR2.out.cell (i := 4) rfl
  have y5 := HR2.out.cell (i := 5) rfl
  have y6 := HR2.out.cell (i := 6) rfl
  have y7 := HR2.out.cell (i := 7) rfl
  have y8 := HR2.out.cell (i := 8) rfl
  have zq := fun i => HR2.out.free (i := i)
  go_wp2_with fail
  have HF := Lib.hid (set9_cel (v0 := .int .i64 0) (v1 := .int .i64 0) (v2 := .int .i64 0) (v3 := .int .i64 0) (v4 := .int .i64 0) (v5 := .int .i64 0) (v6 := .string ⟨#[]⟩) (v7 := .slice none 0 0) (v8 := .slice none 0 0) HR2.out)
  have z0 := HF.out.cell (i := 0) rfl
  have z1 := HF.out.cell (i := 1) rfl
  have z2 := HF.out.cell (i := 2) rfl
  have z3 := HF.out.cell (i := 3) rfl
  have z4 := HF.out.cell (i := 4) rfl
  have z5 := HF.out.cell (i := 5) rfl
  have z6 := HF.out.cell (i := 6) rfl
  have z7 := HF.out.cell (i := 7) rfl
  have z8 := HF.out.cell (i := 8) rfl
  unfold set9 at z0 z1 z2 z3 z4 z5 z6 z7 z8
  exact bodyPost_ret (v := .tuple #[letV noLet none none 0 0, .int .i64 5]) (by simp [results, Try.results27, go_sem, letV, noLet, z0, z1, z2, z3, z4, z5, z6, z7, z8]) rfl ⟨rfl, set9_below HB2.out (Nat.le_refl _)⟩

set_option maxRecDepth 20000 in
set_option maxHeartbeats 4000000 in
theorem ldrop_any (h : LRep W F g room l) (hn : 1 ≤ l.length) (p : Int) : Calls Try.prog 27 #[.pointer (some ⟨g, 0, none⟩), .int .i64 p] W (TakePost W F g room l (amongV p l.length)) := by
  have hb1 : Below W.heap.size W (W.alloc zeroO) := (Below.refl _ W).alloc (Nat.le_refl _) _
  have hR0 := zero_cells W
  have HL := Lib.hid (lremove_any (h.below hb1) hn p)
  have HB := Lib.hid hb1
  have HLt := Lib.hid h.lt
  have HOn := Lib.hid (fun (x : LI) (w1 w2 : World) h1 h2 => TakePost.on (g := g) (room := room) (l := l) (w1 := w1) (w2 := w2) (x := x) (i := amongV p l.length) hb1 h.lt h1 h2)
  clear h hb1
  unfold zeroO at HL HB HOn
  generalize amongV p l.length = i at HL HOn ⊢
  go_enter Try.func27, Try.ntmps27
  go_upto_region 1 with fail
  generalize W.alloc (.cells #[.int .i64 0, .int .i64 0, .int .i64 0, .int .i64 0, .int .i64 0, .int .i64 0, .string ⟨#[]⟩, .slice none 0 0, .slice none 0 0] 35) = W1 at hR0 HL HB HOn ⊢
  have HR := Lib.hid hR0
  clear hR0
  go_wp2_with fail
  refine HL.out.mono ?_
  rintro e W2 ht
  have HT := Lib.hid ht
  obtain ⟨x, hi, rfl, -, -, -, -, -, hfar⟩ := ht
  have hR2 := (hfar.block _ HR.out.lt (fun hf => by have := HLt.out _ hf; omega)).trans HR.out
  have HR2 := Lib.hid (show Cel W2 W.heap.size 35 zeroL from hR2)
  clear hfar hR2 HR HL
  unfold letV
  have y0 := HR2.out.cell (i := 0) rfl
  have y1 := HR2.out.cell (i := 1) rfl
  have y2 := HR2.out.cell (i := 2) rfl
  have y3 := HR2.out.cell (i := 3) rfl
  have y4 := HR2.out.cell (i := 4) rfl
  have y5 := HR2.out.cell (i := 5) rfl
  have y6 := HR2.out.cell (i := 6) rfl
  have y7 := HR2.out.cell (i := 7) rfl
  have y8 := HR2.out.cell (i := 8) rfl
  have zq := fun i => HR2.out.free (i := i)
  go_wp2_with fail
  have HF := Lib.hid (set9_cel (v0 := .int .i64 x.l.kind) (v1 := .int .i64 x.l.src) (v2 := .int .i64 x.l.dst) (v3 := .int .i64 x.l.txn) (v4 := .int .i64 x.l.ts) (v5 := .int .i64 x.l.code) (v6 := .string x.l.text) (v7 := .slice x.A x.l.keys.length x.c) (v8 := .slice x.B x.l.ws.length x.d) HR2.out)
  have hbel := set9_below (H := W.heap.size) (R := W.heap.size) (v0 := .int .i64 x.l.kind) (v1 := .int .i64 x.l.src) (v2 := .int .i64 x.l.dst) (v3 := .int .i64 x.l.txn) (v4 := .int .i64 x.l.ts) (v5 := .int .i64 x.l.code) (v6 := .string x.l.text) (v7 := .slice x.A x.l.keys.length x.c) (v8 := .slice x.B x.l.ws.length x.d) (Below.refl W.heap.size W2) (Nat.le_refl _)
  have HP := Lib.hid (HOn.out x _ _ HT.out hbel)
  have z0 := HF.out.cell (i := 0) rfl
  have z1 := HF.out.cell (i := 1) rfl
  have z2 := HF.out.cell (i := 2) rfl
  have z3 := HF.out.cell (i := 3) rfl
  have z4 := HF.out.cell (i := 4) rfl
  have z5 := HF.out.cell (i := 5) rfl
  have z6 := HF.out.cell (i := 6) rfl
  have z7 := HF.out.cell (i := 7) rfl
  have z8 := HF.out.cell (i := 8) rfl
  unfold set9 at z0 z1 z2 z3 z4 z5 z6 z7 z8
  exact bodyPost_ret (v := .tuple #[letV x.l x.A x.B x.c x.d, .int .i64 0]) (by simp [results, Try.results27, go_sem, letV, z0, z1, z2, z3, z4, z5, z6, z7, z8]) rfl HP.out

/-- what Copy answers -/
def copyL (room : Int) (l : List Let) (p : Int) : List Let × Int := if l = [] then (l, 5) else putL room l (l.getD (amongV p l.length) noLet)

set_option maxRecDepth 20000 in
set_option maxHeartbeats 8000000 in
theorem lcopy_any (h : LRep W F g room l) (p : Int) : Calls Try.prog 18 #[.pointer (some ⟨g, 0, none⟩), .int .i64 p] W fun e w' => e = .returned (.int .i64 (copyL room l p).2) ∧ LRep w' (Gr F W w') g room (copyL room l p).1 ∧ Far F W w' := by
  have HL := Lib.hid (llen_any h)
  have HR := Lib.hid h
  obtain ⟨P, hP⟩ : ∃ P, copyL room l p = P := ⟨_, rfl⟩
  rw [hP]
  by_cases h0 : l = []
  · have HP : Hid (P = (l, 5)) := Lib.hid (by rw [← hP]; unfold copyL; rw [if_pos h0])
    subst h0
    clear hP h
    go_enter Try.func18, Try.ntmps18
    go_wp2_with fail
    refine HL.out.mono ?_
    rintro e W1 ⟨rfl, rfl⟩
    go_wp2_with fail
    go_ret
    rw [HP.out]
    exact ⟨rfl, HR.out.gr (Below.refl _ _), Far.refl _ _⟩
  · have hn : 1 ≤ l.length := List.length_pos_iff.2 h0
    have HPl := Lib.hid (fun n => lplace_any (h.below ((below_drewN (Below.refl _ W) n))) p hn)
    have hal := amongV_lt p l.length hn
    obtain ⟨v, L, h, hl⟩ := h
    have hll : L.length = l.length := by rw [← hl, List.length_map]
    have h10 := h.len10
    obtain ⟨i, hi⟩ : ∃ i, amongV p l.length = i := ⟨_, rfl⟩
    rw [hi] at hal HPl
    have hil : i < L.length := by omega
    obtain ⟨x, hx⟩ : ∃ x, x = L[i] := ⟨_, rfl⟩
    have hxl : l.getD i noLet = x.l := by rw [List.getD_eq_getElem?_getD, List.getElem?_eq_getElem hal, Option.getD_some, hx]; simp only [← hl]; rw [List.getElem_map]
    have HP : Hid (P = putL room l x.l) := Lib.hid (by rw [← hP]; unfold copyL; rw [if_neg h0, hi, hxl])
    have HPut := Lib.hid (fun n => lput_any (W := W.drewN n) (HR.out.below (below_drewN (Below.refl _ W) n)) x (by rw [hx]; exact (h.own _ (List.getElem_mem hil)).below (below_drewN (Below.refl _ W) n)) (by rw [hx]; exact h.ok _ (List.getElem_mem hil)))
    obtain ⟨b, cap, rest, rfl, -, hc, g1, g2, g3⟩ := row_blk h.re (by omega)
    have k1 := h.cel.cell (i := 1) rfl
    have e0 := let_cell hc hil (j := 0) (by omega) rfl
    have e1 := let_cell hc hil (j := 1) (by omega) rfl
    have e2 := let_cell hc hil (j := 2) (by omega) rfl
    have e3 := let_cell hc hil (j := 3) (by omega) rfl
    have e4 := let_cell hc hil (j := 4) (by omega) rfl
    have e5 := let_cell hc hil (j := 5) (by omega) rfl
    have e6 := let_cell hc hil (j := 6) (by omega) rfl
    have e7 := let_cell hc hil (j := 7) (by omega) rfl
    have e8 := let_cell hc hil (j := 8) (by omega) rfl
    rw [← hx] at e0 e1 e2 e3 e4 e5 e6 e7 e8
    rw [Nat.add_zero] at e0
    have pn : ¬ (l.length : Int) = 0 := by omega
    have pi : (i : Int) < (l.length : Int) := by omega
    rw [hll] at k1
    have HFl := Lib.hid h.lt
    unfold letV at HPut
    clear h0 hP hi hal hn hc g1 g2 g3 h10 hxl h hx hl hll hil
    generalize l.length = m at HL k1 pn pi
    go_enter Try.func18, Try.ntmps18
    go_wp2_with fail
    refine HL.out.mono ?_
    rintro e W1 ⟨rfl, rfl⟩
    clear HL
    go_upto_region 3 with fail
    go_region_with (first
      | (go_at_call 37
         refine (HPl.out 1).mono ?_
         rintro e w' ⟨rfl, rfl⟩)
      | (go_at_call 33
         refine (HPut.out 1).mono ?_
         rintro e w' ⟨rfl, hr, hf⟩
         have HQ := Lib.hid (And.intro hr hf)
         clear hr hf))
    all_goals
      go_wp2_with fail
      go_ret
      rw [HP.out]
      obtain ⟨q1, q2⟩ := HQ.out
      exact ⟨rfl, q1, (Far.of (below_drewN (Below.refl _ W1) 1)).trans q2⟩

end
end Nt
end Go.Proofs.Ytkpcfakfkcghdaa
