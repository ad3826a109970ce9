/- The landed net: remove, Take, Drop, Copy; contracts; no condition but the ranges. -/
import Derived.Test.YtkpcfakfkcghdaaNtSend
namespace Go.Proofs.Ytkpcfakfkcghdaa
namespace Nt
open Go.RowKit Bk Lt
set_option linter.unusedVariables false

attribute [local go_sem ↓] Go.wp_at_zero Go.wp_at_succ
attribute [local go_sem] floatUpon pick

section
variable {W W' W2 : World} {F F' : Nat → Prop} {g : Nat} {room : Int} {l : List Let}

/-- nothing is taken where there is nothing -/
def NonePost (W : World) (F : Nat → Prop) (g : Nat) (room : Int) : Ending → World → Prop := fun e w' =>
  e = .returned (.tuple #[letV noLet none none 0 0, .int .i64 5]) ∧ Below W.heap.size W w'

/-- the letter at a place is taken, its rows with it -/
def TakePost (W : World) (F : Nat → Prop) (g : Nat) (room : Int) (l : List Let) (i : Nat) : Ending → World → Prop := fun e w' =>
  ∃ (x : LI) (hi : i < l.length), e = .returned (.tuple #[letV x.l x.A x.B x.c x.d, .int .i64 0]) ∧ x.l = l[i] ∧ LOwn w' 0 x ∧ (∀ k, Lb x k → F k) ∧ LetOk x.l ∧ LRep w' (fun k => F k ∧ ¬ Lb x k) g room (l.eraseIdx i) ∧ Far F W w'

set_option maxRecDepth 20000 in
set_option maxHeartbeats 4000000 in
theorem lremove_none (h : LRep W F g room []) (p : Int) : Calls Try.prog 34 #[.pointer (some ⟨g, 0, none⟩), .int .i64 p] W (NonePost W F g room) := by
  have hb1 : Below W.heap.size W (W.alloc (.cells #[.int .i64 0, .int .i64 0, .int .i64 0, .int .i64 0, .int .i64 0, .int .i64 0, .string ⟨#[]⟩, .slice none 0 0, .slice none 0 0] 35)) := (Below.refl _ W).alloc (Nat.le_refl _) _
  have hR0 := zero_cells W
  have HL := Lib.hid (llen_any (h.below hb1))
  have HB := Lib.hid hb1
  clear h hb1
  go_enter Try.func34, Try.ntmps34
  go_upto_region 1 with fail
  generalize W.alloc (.cells #[.int .i64 0, .int .i64 0, .int .i64 0, .int .i64 0, .int .i64 0, .int .i64 0, .string ⟨#[]⟩, .slice none 0 0, .slice none 0 0] 35) = W1 at hR0 HL HB ⊢
  have HR := Lib.hid hR0
  clear hR0
  go_wp2_with fail
  refine HL.out.mono ?_
  rintro e W2 ⟨rfl, rfl⟩
  have y0 := HR.out.cell (i := 0) rfl
  have y1 := HR.out.cell (i := 1) rfl
  have y2 := HR.out.cell (i := 2) rfl
  have y3 := HR.out.cell (i := 3) rfl
  have y4 := HR.out.cell (i := 4) rfl
  have y5 := HR.out.cell (i := 5) rfl
  have y6 := HR.out.cell (i := 6) rfl
  have y7 := HR.out.cell (i := 7) rfl
  have y8 := HR.out.cell (i := 8) rfl
  have zq := fun i => HR.out.free (i := i)
  clear HL
  go_wp2_with fail
  have HF := Lib.hid (set9_cel (v0 := .int .i64 0) (v1 := .int .i64 0) (v2 := .int .i64 0) (v3 := .int .i64 0) (v4 := .int .i64 0) (v5 := .int .i64 0) (v6 := .string ⟨#[]⟩) (v7 := .slice none 0 0) (v8 := .slice none 0 0) HR.out)
  have z0 := HF.out.cell (i := 0) rfl
  have z1 := HF.out.cell (i := 1) rfl
  have z2 := HF.out.cell (i := 2) rfl
  have z3 := HF.out.cell (i := 3) rfl
  have z4 := HF.out.cell (i := 4) rfl
  have z5 := HF.out.cell (i := 5) rfl
  have z6 := HF.out.cell (i := 6) rfl
  have z7 := HF.out.cell (i := 7) rfl
  have z8 := HF.out.cell (i := 8) rfl
  unfold set9 at z0 z1 z2 z3 z4 z5 z6 z7 z8
  exact bodyPost_ret (v := .tuple #[letV noLet none none 0 0, .int .i64 5]) (by simp [results, Try.results34, go_sem, letV, noLet, z0, z1, z2, z3, z4, z5, z6, z7, z8]) rfl ⟨rfl, set9_below HB.out (Nat.le_refl _)⟩

theorem erase_map {α β : Type} (f : α → β) (L : List α) (i : Nat) : (L.map f).eraseIdx i = (L.eraseIdx i).map f := by
  rw [List.eraseIdx_eq_take_drop_succ, List.eraseIdx_eq_take_drop_succ, List.map_append, List.map_take, List.map_drop]

theorem let_cell {V : World} {b : Nat} {L : List LI} {rest : List Value} (h : Cel V b 35 (L.flatMap lcs ++ rest)) {i : Nat} (hi : i < L.length) {j : Nat} (hj : j < 9) {u : Value} (hu : (lcs L[i])[j]? = some u) : V.cell? ⟨b, i * 9 + j, none⟩ = some u :=
  h.cell (by rw [List.getElem?_append_left (by rw [flat_len]; omega), flatN_at lcs_len hi hj]; exact hu)

set_option maxRecDepth 20000 in
set_option maxHeartbeats 8000000 in
theorem lremove_any (h : LRep W F g room l) (hn : 1 ≤ l.length) (p : Int) : Calls Try.prog 34 #[.pointer (some ⟨g, 0, none⟩), .int .i64 p] W (TakePost W F g room l (amongV p l.length)) := by
  have hb1 : Below W.heap.size W (W.alloc (.cells #[.int .i64 0, .int .i64 0, .int .i64 0, .int .i64 0, .int .i64 0, .int .i64 0, .string ⟨#[]⟩, .slice none 0 0, .slice none 0 0] 35)) := (Below.refl _ W).alloc (Nat.le_refl _) _
  have hR0 := zero_cells W
  have HL := Lib.hid (llen_any (h.below hb1))
  have HPl := Lib.hid (lplace_any (h.below hb1) p hn)
  have HLt := Lib.hid h.lt
  obtain ⟨v, L, h, hl⟩ := h
  have h1 := h.below hb1
  have HB := Lib.hid hb1
  have hal := amongV_lt p l.length hn
  have hll : L.length = l.length := by rw [← hl, List.length_map]
  generalize hi : amongV p l.length = i at hal HPl ⊢
  obtain ⟨n, hnn⟩ : ∃ n, L.length = n + 1 := ⟨L.length - 1, by omega⟩
  have hil : i < L.length := by omega
  have h10 := h.len10
  obtain ⟨b, cap, rest, rfl, -, hc, g1, g2, g3⟩ := row_blk h1.re (by omega)
  have hgl : g < W.heap.size := h.cel.lt
  have hX : ∃ x, x = L[i] := ⟨_, rfl⟩
  obtain ⟨x, hx⟩ := hX
  have HEnd : Hid (∀ (W7 w' : World), LAt W7 (fun k => F k ∧ ¬ Lb x k) g room (.slice (some ⟨b, 0, none⟩) n cap) (L.eraseIdx i) → LOwn W7 0 x → (∀ k, F k → w'.heap[k]? = W7.heap[k]?) → W7.heap.size ≤ w'.heap.size → Far F W w' → TakePost W F g room l i (.returned (.tuple #[letV x.l x.A x.B x.c x.d, .int .i64 0])) w') := Lib.hid (fun W7 w' a1 a2 a3 a4 a5 => by
    have hb : ∀ k, Lb x k → F k := fun k hk => h.fl x (by rw [hx]; exact List.getElem_mem hil) k hk
    exact ⟨x, by omega, rfl, by simp only [← hl]; rw [List.getElem_map, hx], a2.same (fun k hk => a3 k (hb k hk)), hb, h.ok x (by rw [hx]; exact List.getElem_mem hil), ⟨_, _, a1.same a4 (fun k hk => a3 k hk.1), by rw [← hl, erase_map]⟩, a5⟩)
  have hcs : (L.flatMap lcs).length = L.length * 9 := flat_len L
  have HD := Lib.hid (fun (V : World) (hV : Cel V b 35 (L.flatMap lcs ++ rest)) => ldel_any V b cap n L.length i (L.flatMap lcs) _ hV (by rw [List.size_toArray, List.length_append, hcs]; exact g3) hnn hil g1 g2 (by rw [List.toList_toArray, ← hcs, List.take_left]) flat_one)
  have HEr := Lib.hid (fun (V W6 : World) (hV : LAt V F g room (.slice (some ⟨b, 0, none⟩) L.length cap) L) ho hf => show LAt (W6.setCell ⟨g, 1, none⟩ (.slice (some ⟨b, 0, none⟩) n cap)) (fun k => F k ∧ ¬ Lb x k) g room (.slice (some ⟨b, 0, none⟩) n cap) (L.eraseIdx i) ∧ LOwn (W6.setCell ⟨g, 1, none⟩ (.slice (some ⟨b, 0, none⟩) n cap)) 0 x ∧ Far F V (W6.setCell ⟨g, 1, none⟩ (.slice (some ⟨b, 0, none⟩) n cap)) from by rw [hx]; exact hV.erase (W6 := W6) (cap' := cap) (i := i) (n := n) hil hnn ho hf)
  have hgb : g ≠ b := fun e => row_cel h.re h.cel (by decide) (by rw [e]; rfl)
  rw [← hll] at HL
  rw [hnn] at HL HD
  have k1 := h1.cel.cell (i := 1) rfl
  rw [hnn] at k1
  have e0 := let_cell hc hil (j := 0) (by omega) rfl
  have e1 := let_cell hc hil (j := 1) (by omega) rfl
  have e2 := let_cell hc hil (j := 2) (by omega) rfl
  have e3 := let_cell hc hil (j := 3) (by omega) rfl
  have e4 := let_cell hc hil (j := 4) (by omega) rfl
  have e5 := let_cell hc hil (j := 5) (by omega) rfl
  have e6 := let_cell hc hil (j := 6) (by omega) rfl
  have e7 := let_cell hc hil (j := 7) (by omega) rfl
  have e8 := let_cell hc hil (j := 8) (by omega) rfl
  rw [← hx] at e0 e1 e2 e3 e4 e5 e6 e7 e8
  rw [Nat.add_zero] at e0
  have HCe := Lib.hid (And.intro e0 (And.intro e1 (And.intro e2 (And.intro e3 (And.intro e4 (And.intro e5 (And.intro e6 (And.intro e7 e8))))))))
  clear e0 e1 e2 e3 e4 e5 e6 e7 e8
  have HH1 := Lib.hid h1
  have HC := Lib.hid hc
  have HGb := Lib.hid hgb
  have hfn : ∀ k, W.heap.size ≤ k → ¬ F k := fun k hk hf => by have := h.lt k hf; omega
  have HFn := Lib.hid hfn
  have pi : (i : Int) < ((n + 1 : Nat) : Int) := by omega
  have pi2 : (i : Int) ≤ 1024 := by omega
  have pn : ¬ ((n + 1 : Nat) : Int) = 0 := by omega
  clear h h1 hb1 hi hl hll hal hn hc hcs hx g1 g2 g3 h10 hgb hfn hgl
  have HM : Hid (L.length = n + 1) := Lib.hid hnn
  clear hnn
  generalize n + 1 = m at HL HD k1 pi pn HM
  go_enter Try.func34, Try.ntmps34
  go_upto_region 1 with fail
  generalize W.alloc (.cells #[.int .i64 0, .int .i64 0, .int .i64 0, .int .i64 0, .int .i64 0, .int .i64 0, .string ⟨#[]⟩, .slice none 0 0, .slice none 0 0] 35) = W1 at hR0 HL HPl HB HH1 HC HCe k1 ⊢
  have HR := Lib.hid hR0
  clear hR0
  go_wp2_with fail
  refine HL.out.mono ?_
  rintro e W2 ⟨rfl, rfl⟩
  go_wp2_with fail
  refine HPl.out.mono ?_
  rintro e W3 ⟨rfl, rfl⟩
  clear HL HPl
  obtain ⟨e0, e1, e2, e3, e4, e5, e6, e7, e8⟩ := HCe.out
  go_upto_region 5 with fail
  have hal := (Below.refl W3.heap.size W3).alloc (Nat.le_refl _) (.cells #[.int .i64 x.l.kind, .int .i64 x.l.src, .int .i64 x.l.dst, .int .i64 x.l.txn, .int .i64 x.l.ts, .int .i64 x.l.code, .string x.l.text, .slice x.A x.l.keys.length x.c, .slice x.B x.l.ws.length x.d] 35)
  have hX4 : Cel (W3.alloc (.cells #[.int .i64 x.l.kind, .int .i64 x.l.src, .int .i64 x.l.dst, .int .i64 x.l.txn, .int .i64 x.l.ts, .int .i64 x.l.code, .string x.l.text, .slice x.A x.l.keys.length x.c, .slice x.B x.l.ws.length x.d] 35)) W3.heap.size 35 (lcs x) := (blk1 W3 _).2
  have hH4 := HH1.out.below hal
  have hC4 := HC.out.below hal
  have hR4 := HR.out.below hal
  have hB4 := HB.out.trans (hal.mono HB.out.size)
  have hs3 : W.heap.size ≤ W3.heap.size := HB.out.size
  generalize W3.alloc (.cells #[.int .i64 x.l.kind, .int .i64 x.l.src, .int .i64 x.l.dst, .int .i64 x.l.txn, .int .i64 x.l.ts, .int .i64 x.l.code, .string x.l.text, .slice x.A x.l.keys.length x.c, .slice x.B x.l.ws.length x.d] 35) = W4 at hX4 hH4 hC4 hR4 hB4 ⊢
  generalize W3.heap.size = q at hX4 hs3 ⊢
  have k4 := hH4.cel.cell (i := 1) rfl
  have HK : Hid (W4.cell? ⟨g, 1, none⟩ = some (.slice (some ⟨b, 0, none⟩) m cap)) := Lib.hid (by rw [k4, HM.out])
  have HX4 := Lib.hid hX4
  have HH4 := Lib.hid hH4
  have HC4 := Lib.hid hC4
  have HR4 := Lib.hid hR4
  have HB4 := Lib.hid hB4
  have HS3 := Lib.hid hs3
  clear hX4 hH4 hC4 hR4 hB4 hs3 hal HR HB HC HH1 e0 e1 e2 e3 e4 e5 e6 e7 e8 HCe k1 k4
  have k1 := HK.out
  clear HK
  go_wp2_with fail
  refine (HD.out _ HC4.out).mono ?_
  rintro e W5 ⟨rfl, ho, hf⟩
  have hc5 : Cel W5 g 62 [.int .i64 room, .slice (some ⟨b, 0, none⟩) L.length cap] := (hf.block g HH4.out.cel.lt HGb.out).trans HH4.out.cel
  obtain ⟨a1, a2, a3⟩ := HEr.out _ _ HH4.out ho hf
  have c5 := hc5.cell (i := 1) rfl
  have f5 := hc5.free (i := 1)
  have HA := Lib.hid (And.intro a1 (And.intro a2 a3))
  have hX6 : Cel (W5.setCell ⟨g, 1, none⟩ (.slice (some ⟨b, 0, none⟩) n cap)) q 35 (lcs x) := (a3.block q HX4.out.lt (HFn.out q HS3.out)).trans HX4.out
  have hR6 : Cel (W5.setCell ⟨g, 1, none⟩ (.slice (some ⟨b, 0, none⟩) n cap)) W.heap.size 35 zeroL := (a3.block _ HR4.out.lt (HFn.out _ (Nat.le_refl _))).trans HR4.out
  have HX6 := Lib.hid hX6
  have HR6 := Lib.hid hR6
  have HF6 := Lib.hid ((Far.of (F := F) HB4.out).trans a3)
  clear ho hf hc5 a1 a2 a3 hX6 hR6 HX4 HR4 HB4 HC4 HH4 k1 HD HEr
  go_upto_region 6 with fail
  generalize W5.setCell ⟨g, 1, none⟩ (.slice (some ⟨b, 0, none⟩) n cap) = W6 at HA HX6 HR6 HF6 ⊢
  clear c5 f5
  have q0 := HX6.out.cell (i := 0) rfl
  have q1 := HX6.out.cell (i := 1) rfl
  have q2 := HX6.out.cell (i := 2) rfl
  have q3 := HX6.out.cell (i := 3) rfl
  have q4 := HX6.out.cell (i := 4) rfl
  have q5 := HX6.out.cell (i := 5) rfl
  have q6 := HX6.out.cell (i := 6) rfl
  have q7 := HX6.out.cell (i := 7) rfl
  have q8 := HX6.out.cell (i := 8) rfl
  have y0 := HR6.out.cell (i := 0) rfl
  have y1 := HR6.out.cell (i := 1) rfl
  have y2 := HR6.out.cell (i := 2) rfl
  have y3 := HR6.out.cell (i := 3) rfl
  have y4 := HR6.out.cell (i := 4) rfl
  have y5 := HR6.out.cell (i := 5) rfl
  have y6 := HR6.out.cell (i := 6) rfl
  have y7 := HR6.out.cell (i := 7) rfl
  have y8 := HR6.out.cell (i := 8) rfl
  have zq := fun i => HR6.out.free (i := i)
  go_wp2_with fail
  have HF := Lib.hid (set9_cel (v0 := .int .i64 x.l.kind) (v1 := .int .i64 x.l.src) (v2 := .int .i64 x.l.dst) (v3 := .int .i64 x.l.txn) (v4 := .int .i64 x.l.ts) (v5 := .int .i64 x.l.code) (v6 := .string x.l.text) (v7 := .slice x.A x.l.keys.length x.c) (v8 := .slice x.B x.l.ws.length x.d) HR6.out)
  have hbel := set9_below (H := W.heap.size) (R := W.heap.size) (v0 := .int .i64 x.l.kind) (v1 := .int .i64 x.l.src) (v2 := .int .i64 x.l.dst) (v3 := .int .i64 x.l.txn) (v4 := .int .i64 x.l.ts) (v5 := .int .i64 x.l.code) (v6 := .string x.l.text) (v7 := .slice x.A x.l.keys.length x.c) (v8 := .slice x.B x.l.ws.length x.d) (Below.refl W.heap.size W6) (Nat.le_refl _)
  have HP := Lib.hid (HEnd.out _ _ HA.out.1 HA.out.2.1 (fun k hk => hbel.block k (HLt.out k hk)) hbel.size ⟨⟨Nat.le_trans HF6.out.size hbel.size, fun k hk hn => (hbel.block k hk).trans (HF6.out.block k hk hn)⟩, HF6.out.st.trans (st_below hbel)⟩)
  have z0 := HF.out.cell (i := 0) rfl
  have z1 := HF.out.cell (i := 1) rfl
  have z2 := HF.out.cell (i := 2) rfl
  have z3 := HF.out.cell (i := 3) rfl
  have z4 := HF.out.cell (i := 4) rfl
  have z5 := HF.out.cell (i := 5) rfl
  have z6 := HF.out.cell (i := 6) rfl
  have z7 := HF.out.cell (i := 7) rfl
  have z8 := HF.out.cell (i := 8) rfl
  unfold set9 at z0 z1 z2 z3 z4 z5 z6 z7 z8
  exact bodyPost_ret (v := .tuple #[letV x.l x.A x.B x.c x.d, .int .i64 0]) (by simp [results, Try.results34, go_sem, letV, z0, z1, z2, z3, z4, z5, z6, z7, z8]) rfl HP.out

end
end Nt
end Go.Proofs.Ytkpcfakfkcghdaa
