/- The document's net: Take; contract; no condition but the ranges. -/
import Derived.Test.YtkpcfakfkcghdaaNtRef2
import Derived.Test.YtkpcfakfkcghdaaNtInj
namespace Go.Proofs.Ytkpcfakfkcghdaa
namespace Nt
open Go.RowKit Bk Lt
set_option linter.unusedVariables false

attribute [local go_sem ↓] Go.wp_at_zero Go.wp_at_succ
attribute [local go_sem] floatUpon pick

section
variable {W W' : World} {P P' : Nat → Prop} {b : Nat} {room : Int} {A : Option Addr} {c : Nat} {L : List LI} {l : List Let}

theorem RAt.new (h : RAt W P b room A c L) (hb : Below W.heap.size W W') (hP : ∀ k, P' k → P k ∨ (W.heap.size ≤ k ∧ k < W'.heap.size)) (hpb : P' b) : RAt W' P' b room A c L :=
  ⟨h.cel.below hb, (h.row.turn (fun k hk => (hP k hk).imp id And.left)).below hb, h.cap, fun x hx => ((h.rv x hx).turn (fun k hk => (hP k hk).imp id And.left)).below hb, hpb, fun k hk => (hP k hk).elim (fun h2 => Nat.lt_of_lt_of_le (h.lt k h2) hb.size) And.right, h.rm, h.len, h.ok⟩

set_option maxRecDepth 20000 in
set_option maxHeartbeats 4000000 in
theorem rtake_none (h : RAt W P b room A c []) (p : Int) : Calls Try.prog 26 #[.pointer (some ⟨b, 0, none⟩), .int .i64 p] W fun e w' => e = .returned (.tuple #[letV noLet none none 0 0, .int .i64 5]) ∧ Below W.heap.size W w' := by
  have hb1 : Below W.heap.size W (W.alloc zeroO) := (Below.refl _ W).alloc (Nat.le_refl _) _
  have hR0 := zero_cells W
  have h1 := h.below hb1
  have k1 := h1.cel.cell (i := 1) rfl
  have HB := Lib.hid hb1
  clear h h1 hb1
  unfold zeroO at k1 HB
  go_enter Try.func26, Try.ntmps26
  go_upto_region 1 with fail
  generalize W.alloc (.cells #[.int .i64 0, .int .i64 0, .int .i64 0, .int .i64 0, .int .i64 0, .int .i64 0, .string ⟨#[]⟩, .slice none 0 0, .slice none 0 0] 35) = W1 at hR0 k1 HB ⊢
  have HR := Lib.hid hR0
  clear hR0
  have y0 := HR.out.cell (i := 0) rfl
  have y1 := HR.out.cell (i := 1) rfl
  have y2 := HR.out.cell (i := 2) rfl
  have y3 := HR.out.cell (i := 3) rfl
  have y4 := HR.out.cell (i := 4) rfl
  have y5 := HR.out.cell (i := 5) rfl
  have y6 := HR.out.cell (i := 6) rfl
  have y7 := HR.out.cell (i := 7) rfl
  have y8 := HR.out.cell (i := 8) rfl
  have zq := fun i => HR.out.free (i := i)
  go_wp2_with fail
  have HF := Lib.hid (set9_cel (v0 := .int .i64 0) (v1 := .int .i64 0) (v2 := .int .i64 0) (v3 := .int .i64 0) (v4 := .int .i64 0) (v5 := .int .i64 0) (v6 := .string ⟨#[]⟩) (v7 := .slice none 0 0) (v8 := .slice none 0 0) HR.out)
  have z0 := HF.out.cell (i := 0) rfl
  have z1 := HF.out.cell (i := 1) rfl
  have z2 := HF.out.cell (i := 2) rfl
  have z3 := HF.out.cell (i := 3) rfl
  have z4 := HF.out.cell (i := 4) rfl
  have z5 := HF.out.cell (i := 5) rfl
  have z6 := HF.out.cell (i := 6) rfl
  have z7 := HF.out.cell (i := 7) rfl
  have z8 := HF.out.cell (i := 8) rfl
  unfold set9 at z0 z1 z2 z3 z4 z5 z6 z7 z8
  exact bodyPost_ret (v := .tuple #[letV noLet none none 0 0, .int .i64 5]) (by simp [results, Try.results26, go_sem, letV, noLet, z0, z1, z2, z3, z4, z5, z6, z7, z8]) rfl ⟨rfl, set9_below HB.out (Nat.le_refl _)⟩

set_option maxRecDepth 20000 in
set_option maxHeartbeats 8000000 in
theorem rtake_any (h : RAt W P b room A c L) (hn : 1 ≤ L.length) (p : Int) : Calls Try.prog 26 #[.pointer (some ⟨b, 0, none⟩), .int .i64 p] W fun e w' => ∃ (x : LI), e = .returned (.tuple #[letV x.l x.A x.B x.c x.d, .int .i64 0]) ∧ x = L.getD (amongV p L.length) default ∧ RV w' P x ∧ RPost W P b room ((L.map (·.l)).eraseIdx (amongV p L.length)) w' := by
  have hb1 : Below W.heap.size W (W.alloc zeroO) := (Below.refl _ W).alloc (Nat.le_refl _) _
  have hR0 := zero_cells W
  have hal := amongV_lt p L.length hn
  have hRlt := h.lt
  obtain ⟨P1, hP1⟩ : ∃ P1 : Nat → Prop, P1 = fun k => P k ∨ k = W.heap.size := ⟨_, rfl⟩
  have h1 : RAt (W.alloc zeroO) P1 b room A c L := h.new hb1 (fun k hk => by rw [hP1] at hk; exact hk.imp id (fun e => by subst e; exact ⟨Nat.le_refl _, by simp⟩)) (by rw [hP1]; exact .inl h.pb)
  have hpl := rplace_any h1 p hn
  obtain ⟨i, hi⟩ : ∃ i, amongV p L.length = i := ⟨_, rfl⟩
  simp only [hi] at hal hpl ⊢
  obtain ⟨ad, rfl, hadb, hadP, hcs⟩ := h1.row.at lcs_len (by omega) hal
  obtain ⟨x, hx⟩ : ∃ x, x = L[i] := ⟨_, rfl⟩
  have h10 := h.len10
  have e0 := hcs 0 _ rfl
  have e1 := hcs 1 _ rfl
  have e2 := hcs 2 _ rfl
  have e3 := hcs 3 _ rfl
  have e4 := hcs 4 _ rfl
  have e5 := hcs 5 _ rfl
  have e6 := hcs 6 _ rfl
  have e7 := hcs 7 _ rfl
  have e8 := hcs 8 _ rfl
  rw [← hx] at e0 e1 e2 e3 e4 e5 e6 e7 e8
  rw [Nat.add_zero] at e0
  rw [← add_field _ _ _ (by omega)] at e1 e2 e3 e4 e5 e6 e7 e8
  have k1 := h1.cel.cell (i := 1) rfl
  obtain ⟨i0, z0, hi0, hz0, hz2, hz1, hz3⟩ := info_let
  have hrvx : RV (W.alloc zeroO) P1 x := by rw [hx]; exact h1.rv _ (List.getElem_mem hal)
  have HP1 := Lib.hid hP1
  obtain ⟨n, hN⟩ : ∃ n, L.length = n := ⟨_, rfl⟩
  have hmem : ∀ y ∈ L.eraseIdx i, y ∈ L := fun y hy => (List.eraseIdx_sublist L i).subset hy
  have hfl : (L.take i).flatMap lcs ++ (L.drop (i + 1)).flatMap lcs = (L.eraseIdx i).flatMap lcs := by rw [← List.flatMap_append, ← List.eraseIdx_eq_take_drop_succ]
  have hel : (L.eraseIdx i).length = n - 1 := by rw [List.length_eraseIdx_of_lt hal, hN]
  have HPl := Lib.hid hpl
  have HE := Lib.hid (And.intro hmem (And.intro hfl hel))
  have HRx := Lib.hid hrvx
  have HXe : Hid (x = L.getD i default) := Lib.hid (by rw [List.getD_eq_getElem?_getD, List.getElem?_eq_getElem hal, hx]; rfl)
  have HR := Lib.hid h
  have HR1 := Lib.hid h1
  have HB := Lib.hid hb1
  have HLt := Lib.hid hRlt
  have HN := Lib.hid hN
  rw [hN] at k1 hal h10
  have pn : ¬ (n : Int) = 0 := by omega
  have pi : (i : Int) < (n : Int) := by omega
  have hcap := h1.cap
  rw [hN] at hcap
  have HCap := Lib.hid hcap
  have HAl := Lib.hid hal
  clear h h1 hP1 hb1 hi hal hn hcs hx hrvx hN hmem hfl hel hRlt hpl hcap hadb
  unfold zeroO at HPl HB HRx HR1 hR0 e0 e1 e2 e3 e4 e5 e6 e7 e8 k1
  go_enter Try.func26, Try.ntmps26
  go_upto_region 1 with fail
  generalize W.alloc (.cells #[.int .i64 0, .int .i64 0, .int .i64 0, .int .i64 0, .int .i64 0, .int .i64 0, .string ⟨#[]⟩, .slice none 0 0, .slice none 0 0] 35) = W1 at hR0 HPl HB HRx HR1 e0 e1 e2 e3 e4 e5 e6 e7 e8 k1 ⊢
  have HZ := Lib.hid hR0
  clear hR0
  go_wp2_with fail
  refine HPl.out.mono ?_
  rintro e W2 ⟨rfl, nn, hW2⟩
  have hce : ∀ a, W2.cell? a = W1.cell? a := fun a => by rw [hW2]; rfl
  rw [← hce] at e0 e1 e2 e3 e4 e5 e6 e7 e8 k1
  clear hce
  have hR2 : RAt W2 P1 b room (some ad) c L := by rw [hW2]; exact HR1.out.below (below_drewN (Below.refl _ W1) nn)
  have hRx2 : RV W2 P1 x := by rw [hW2]; exact HRx.out.below (below_drewN (Below.refl _ W1) nn)
  have HRx2 := Lib.hid hRx2
  have hZ2 : Cel W2 W.heap.size 35 zeroL := by rw [hW2]; exact HZ.out
  have hB2 : Below W.heap.size W W2 := by rw [hW2]; exact below_drewN HB.out nn
  have hs2 : W2.heap.size = W1.heap.size := by rw [hW2]; rfl
  have HR2 := Lib.hid hR2
  have HZ2 := Lib.hid hZ2
  have HB2 := Lib.hid hB2
  clear hR2 hRx2 HRx hZ2 hB2 hs2 hW2 HR1 HZ HB HPl
  go_upto_region 5 with fail
  have hal := (Below.refl W2.heap.size W2).alloc (Nat.le_refl _) (.cells #[.int .i64 x.l.kind, .int .i64 x.l.src, .int .i64 x.l.dst, .int .i64 x.l.txn, .int .i64 x.l.ts, .int .i64 x.l.code, .string x.l.text, .slice x.A x.l.keys.length x.c, .slice x.B x.l.ws.length x.d] 35)
  have hX4 : Cel (W2.alloc (.cells #[.int .i64 x.l.kind, .int .i64 x.l.src, .int .i64 x.l.dst, .int .i64 x.l.txn, .int .i64 x.l.ts, .int .i64 x.l.code, .string x.l.text, .slice x.A x.l.keys.length x.c, .slice x.B x.l.ws.length x.d] 35)) W2.heap.size 35 (lcs x) := (blk1 W2 _).2
  have hR4 := HR2.out.below hal
  have hRx4 := HRx2.out.below hal
  have hZ4 := HZ2.out.below hal
  have hB4 := HB2.out.trans (hal.mono HB2.out.size)
  have hq : W.heap.size < W2.heap.size := HZ2.out.lt
  generalize W2.alloc (.cells #[.int .i64 x.l.kind, .int .i64 x.l.src, .int .i64 x.l.dst, .int .i64 x.l.txn, .int .i64 x.l.ts, .int .i64 x.l.code, .string x.l.text, .slice x.A x.l.keys.length x.c, .slice x.B x.l.ws.length x.d] 35) = W4 at hX4 hR4 hRx4 hZ4 hB4 ⊢
  generalize W2.heap.size = q at hX4 hq ⊢
  have HX4 := Lib.hid hX4
  have HR4 := Lib.hid hR4
  have HRx4 := Lib.hid hRx4
  have HZ4 := Lib.hid hZ4
  have HB4 := Lib.hid hB4
  have HQ := Lib.hid hq
  clear hX4 hR4 hRx4 HRx2 hZ4 hB4 hq hal HR2 HZ2 HB2 e0 e1 e2 e3 e4 e5 e6 e7 e8 k1
  have pw : IntKind.i64.wrap ((i : Int) + 1) = (i : Int) + 1 := by rw [Bk.i64_wrap (by omega) (by omega)]
  have f2 := slice_toN 39 35 i0 (by kernel_rfl) (by kernel_rfl) hi0 (some ad) n c i (Nat.le_trans (Nat.le_of_lt HAl.out) HCap.out.1)
  obtain ⟨A6, c6, f3, hd6, hn6, hl6, hc6⟩ := slice_fromN 39 35 i0 (by kernel_rfl) (by kernel_rfl) hi0 9 hz1 (some ad) n c (i + 1) HAl.out HCap.out.1 (fun e => by cases e)
  rw [show ((i + 1 : Nat) : Int) = (i : Int) + 1 by omega] at f3
  have HD6 := Lib.hid (fun (V : World) (hV : Below W4.heap.size W4 V) => hd6 V P1 (L.flatMap lcs) (by rw [flat_len, HN.out]) (HR4.out.row.below hV))
  have HN6 := Lib.hid (And.intro hn6 (And.intro hl6 hc6))
  have hcap1 : (i + (n - (i + 1))) * 112 ≤ 140737488355328 := by have := HAl.out; omega
  have hcap0 : i * 112 ≤ 140737488355328 := by omega
  clear hd6 hn6 hl6 hc6
  refine wp_region_saidK 19 [25, 26, 27, 28, 29, 30, 31, 32, 33, 34, 35, 36, 37, 38, 39, 40, 41, 42, 43]
    [TIs (.pointer (some ⟨b, 0, none⟩)), (fun v V => ∃ p, W4.heap.size ≤ p ∧ v = .slice (some ⟨p, 0, none⟩) 0 0 ∧ V.heap[p]? = some (.cells #[] 35 (0, 0))), TIs (.pointer (some ⟨b, 0, none⟩)), TIs (.pointer (some ⟨b, 0, none⟩)), TIs (.pointer (some ⟨b, 1, none⟩)), TIs (.slice (some ad) n c), TIs (.int .i64 (i : Int)), TIs (.slice (some ad) i c),
      (fun v V => V.ownsRow W4.heap.size 35 9 v i ((L.take i).flatMap lcs)), TIs (.pointer (some ⟨b, 0, none⟩)), TIs (.pointer (some ⟨b, 0, none⟩)), TIs (.pointer (some ⟨b, 1, none⟩)), TIs (.slice (some ad) n c), TIs (.int .i64 (i : Int)), TIs (.int .i64 ((i : Int) + 1)), TIs (.slice A6 (n - (i + 1)) c6),
      (fun v V => V.ownsRow W4.heap.size 35 9 v (i + (n - (i + 1))) ((L.take i).flatMap lcs ++ (L.drop (i + 1)).flatMap lcs)), TIs (.pointer (some ⟨b, 0, none⟩)), TIs (.pointer (some ⟨b, 1, none⟩))]
    (fun V => Below W4.heap.size W4 V) (GrN W4.heap.size 35 ((L.take i).flatMap lcs) ((L.drop (i + 1)).flatMap lcs)) (by kernel_rfl) (by kernel_rfl) (by kernel_rfl) (by kernel_rfl) (by kernel_rfl)
    (satK_of fun S hS v V V' h hk => by
      simp only [List.mem_cons, List.not_mem_nil, or_false] at hS
      rcases hS with rfl | rfl | rfl | rfl | rfl | rfl | rfl | rfl | rfl | rfl | rfl | rfl | rfl | rfl | rfl | rfl | rfl | rfl | rfl
      all_goals first | exact h | (obtain ⟨p, p1, p2, p3⟩ := h; exact ⟨p, p1, p2, hk.lit p3⟩) | exact hk.row h (.inl rfl) | exact hk.row h (.inr rfl))
    (fun V V' h hk => hk.below h h.size (Nat.le_refl _)) (fun V => .inl (Below.refl _ V).drew) (Below.refl _ _) ?steps ?last
  case steps =>
    simp only [List.take_succ_cons, List.take_zero]
    refine ⟨?_, ?_, ?_, ?_, ?_, ?_, ?_, ?_, ?_, ?_, ?_, ?_, ?_, ?_, ?_, ?_, ?_, ?_, ?_, trivial⟩
    all_goals
      intro vs V ρ hρ hcn hf hg hI hd R' hR
      have kc := HR4.out.cel.below hI
      have q1 := kc.cell (i := 1) rfl
      rw [HN.out] at q1
      have HRk := Lib.hid hR
      have HI := Lib.hid hI
      simp [depsOf, Region.binds, satK, TIs] at hd
      clear hR hI kc
    case refine_2 =>
      go_simp
      exact HRk.out _ _ ⟨V.heap.size, HI.out.size, rfl, heap_alloc_new V _⟩ (.inl ((Below.refl _ _).alloc (Nat.le_refl _) _))
    case refine_9 =>
      obtain ⟨⟨p, p1, p2, p3⟩, hv⟩ := hd
      have hrt := (HR4.out.row.below HI.out).take (i * 9)
      rw [flatN_take lcs_len] at hrt
      obtain ⟨v', w', hr, h2, h3⟩ := run_append_emptyN (P := Try.prog) V W4.heap.size 39 39 35 i0 z0 9 112 Try.underlying39 hi0 hz0 hz1 hz3 hz2 (by decide) p p3 p1 (some ad) i c ((L.take i).flatMap lcs) (by rw [flat_len, List.length_take, HN.out, Nat.min_eq_left (Nat.le_of_lt HAl.out)]) (fun e => by cases e) (fun ad' e => by cases e; exact hrt.news) flat_one (by have := HAl.out; unfold maxLen; omega) hcap0
      have e0 : ρ (.tmp 26) = .slice (some ⟨p, 0, none⟩) 0 0 := by rw [hρ]; simp [pick, p2]
      have e2 : ρ (.tmp 32) = .slice (some ad) i c := by rw [hρ]; simp [pick, hv]
      rw [if_pos (by simp [Region.wanted])]
      unfold execOp
      simp only [resolve, invoke, builtin, Sem.run_bind, Sem.run_pure, Result.andThen_ok, List.map_toArray, List.map_cons, List.map_nil, e0, e2, hr, floatUpon]
      exact HRk.out _ _ h2 (.inl h3)
    case refine_17 =>
      obtain ⟨hd1, hd2⟩ := hd
      have h6 := HD6.out V HI.out
      rw [flatN_drop lcs_len] at h6
      obtain ⟨v', w', hr, h2, h3⟩ := run_growN (P := Try.prog) (W := V) (H := W4.heap.size) (sz := 9) (bytes := 112) (n := i) (m := n - (i + 1)) (c := c6) (A := A6) (t := 39) (ty := 39) Try.underlying39 hi0 hz0 hz1 hz3 hz2 (by decide) hd1 (by rw [flat_len, List.length_drop, HN.out]) HN6.out.1 (fun ad' e => by subst e; exact h6.news) flat_one (by have := HAl.out; unfold maxLen; omega) hcap1 HI.out.size
      have e0 : ρ (.tmp 33) = vs 8 := by rw [hρ]; simp [pick]
      have e2 : ρ (.tmp 40) = .slice A6 (n - (i + 1)) c6 := by rw [hρ]; simp [pick, hd2]
      rw [if_pos (by simp [Region.wanted])]
      unfold execOp
      simp only [resolve, invoke, builtin, Sem.run_bind, Sem.run_pure, Result.andThen_ok, List.map_toArray, List.map_cons, List.map_nil, e0, e2, hr, floatUpon]
      exact HRk.out _ _ h2 h3
    all_goals
      go_simp
      first
        | exact HRk.out _ _ (by simp [satK, TIs]) (.inl (Below.refl _ _))
        | trace_state
  case last =>
    intro vs V hI hg
    have g16 := hg 16 (by omega)
    have g18 := hg 18 (by omega)
    simp only [satK, List.getD_cons_succ, List.getD_cons_zero, TIs] at g16 g18
    simp only [List.take_succ_cons, List.take_zero, List.drop_succ_cons, List.drop_zero, putAll, Act.put, List.setIfInBounds_toArray, List.set_cons_succ, List.set_cons_zero, Nat.zero_add, Nat.reduceAdd]
    rw [g18]
    generalize vs 16 = v16 at g16 ⊢
    obtain ⟨hmem, hfl, hel⟩ := HE.out
    have hnl : i + (n - (i + 1)) = n - 1 := by have := HAl.out; omega
    rw [hfl, hnl] at g16
    obtain ⟨A', c', rfl, hfin, hfar⟩ := HR4.out.put (L' := L.eraseIdx i) (v := v16) (W' := V) (H := W4.heap.size) (by rw [hel]; exact g16) hI HR4.out.lt (fun y hy => (HR4.out.rv y (hmem y hy)).below hI) (by rw [hel]; have := HR4.out.len; rw [HN.out] at this; omega) (fun y hy => HR4.out.ok y (hmem y hy))
    have kc := HR4.out.cel.below hI
    have q1 := kc.cell (i := 1) rfl
    rw [HN.out] at q1
    have f1 := kc.free (i := 1)
    have hrr : RRep (V.setCell ⟨b, 1, none⟩ (.slice A' (L.eraseIdx i).length c')) P1 b room ((L.map (·.l)).eraseIdx i) := ⟨A', c', _, hfin, by rw [erase_map]⟩
    rw [hel] at hrr hfar ⊢
    have hblt : b < W.heap.size := HR.out.cel.lt
    have hX5 : Cel (V.setCell ⟨b, 1, none⟩ (.slice A' (n - 1) c')) q 35 (lcs x) := (HX4.out.below hI).far (fun e => by have := HQ.out; omega)
    have hZ5 : Cel (V.setCell ⟨b, 1, none⟩ (.slice A' (n - 1) c')) W.heap.size 35 zeroL := (HZ4.out.below hI).far (fun e => by omega)
    have HFin := Lib.hid hrr
    clear hrr
    have HFar := Lib.hid ((Far.of (F := fun k => k = b) HB4.out).trans hfar)
    have hRx5 : RV (V.setCell ⟨b, 1, none⟩ (.slice A' (n - 1) c')) P1 x := (HRx4.out.below hI).away ⟨by simp [World.setCell], fun k _ hn => Below.heap_setCell V ⟨b, 1, none⟩ _ k (fun e => hn (by rw [HP1.out, e]; exact .inl HR.out.pb))⟩
    have HRx5 := Lib.hid hRx5
    have HX5 := Lib.hid hX5
    have HZ5 := Lib.hid hZ5
    clear hfin hfar hI hg g16 g18 kc hnl hel hfl hmem hX5 hZ5 hRx5 hblt HRx4 HX4 HZ4 HB4 HR4 f2 f3 HD6 HN6
    go_upto_region 6 with fail
    generalize V.setCell ⟨b, 1, none⟩ (.slice A' (n - 1) c') = W6 at HFin HFar HX5 HZ5 HRx5 ⊢
    clear q1 f1
    have q0 := HX5.out.cell (i := 0) rfl
    have q1 := HX5.out.cell (i := 1) rfl
    have q2 := HX5.out.cell (i := 2) rfl
    have q3 := HX5.out.cell (i := 3) rfl
    have q4 := HX5.out.cell (i := 4) rfl
    have q5 := HX5.out.cell (i := 5) rfl
    have q6 := HX5.out.cell (i := 6) rfl
    have q7 := HX5.out.cell (i := 7) rfl
    have q8 := HX5.out.cell (i := 8) rfl
    have y0 := HZ5.out.cell (i := 0) rfl
    have y1 := HZ5.out.cell (i := 1) rfl
    have y2 := HZ5.out.cell (i := 2) rfl
    have y3 := HZ5.out.cell (i := 3) rfl
    have y4 := HZ5.out.cell (i := 4) rfl
    have y5 := HZ5.out.cell (i := 5) rfl
    have y6 := HZ5.out.cell (i := 6) rfl
    have y7 := HZ5.out.cell (i := 7) rfl
    have y8 := HZ5.out.cell (i := 8) rfl
    have zq := fun i => HZ5.out.free (i := i)
    go_wp2_with fail
    have HF := Lib.hid (set9_cel (v0 := .int .i64 x.l.kind) (v1 := .int .i64 x.l.src) (v2 := .int .i64 x.l.dst) (v3 := .int .i64 x.l.txn) (v4 := .int .i64 x.l.ts) (v5 := .int .i64 x.l.code) (v6 := .string x.l.text) (v7 := .slice x.A x.l.keys.length x.c) (v8 := .slice x.B x.l.ws.length x.d) HZ5.out)
    have hbel := set9_below (H := W.heap.size) (R := W.heap.size) (v0 := .int .i64 x.l.kind) (v1 := .int .i64 x.l.src) (v2 := .int .i64 x.l.dst) (v3 := .int .i64 x.l.txn) (v4 := .int .i64 x.l.ts) (v5 := .int .i64 x.l.code) (v6 := .string x.l.text) (v7 := .slice x.A x.l.keys.length x.c) (v8 := .slice x.B x.l.ws.length x.d) (Below.refl W.heap.size W6) (Nat.le_refl _)
    have hblk : ∀ k, k ≠ W.heap.size → (set9 W6 W.heap.size (.int .i64 x.l.kind) (.int .i64 x.l.src) (.int .i64 x.l.dst) (.int .i64 x.l.txn) (.int .i64 x.l.ts) (.int .i64 x.l.code) (.string x.l.text) (.slice x.A x.l.keys.length x.c) (.slice x.B x.l.ws.length x.d)).heap[k]? = W6.heap[k]? := fun k hk => set9_blk hk
    have hpost0 : ∀ W9, Below W.heap.size W6 W9 → (∀ k, k ≠ W.heap.size → W9.heap[k]? = W6.heap[k]?) → RV W9 P x ∧ RPost W P b room ((L.map (·.l)).eraseIdx i) W9 := fun W9 hbel hblk => by
      have hfar2 : Far (fun k => k = b) W W9 := ⟨⟨Nat.le_trans HFar.out.size hbel.size, fun k hk hn => (hbel.block k hk).trans (HFar.out.block k hk hn)⟩, HFar.out.st.trans (st_below hbel)⟩
      obtain ⟨A2, c2, L2, hr2, e2⟩ := HFin.out
      have hw : Away P1 W6 W9 := ⟨hbel.size, fun k hk hn => hblk k (fun e => hn (by rw [HP1.out]; exact .inr e))⟩
      have hsub : ∀ k, P k → P1 k := fun k hk => by rw [HP1.out]; exact .inl hk
      have hblt : b < W.heap.size := HR.out.cel.lt
      have hr3 := hr2.away hw (hblk b (by omega))
      exact ⟨(HRx5.out.away hw).turn (fun k hk => .inl (hsub k hk)), ⟨A2, c2, L2, hr3.turn (fun k hk => .inl (hsub k hk)) HR.out.pb (fun k hk => Nat.lt_of_lt_of_le (HLt.out k hk) (Nat.le_trans HFar.out.size hbel.size)), e2⟩, hfar2⟩
    have hpost := hpost0 _ hbel hblk
    clear hpost0 hblk
    have HPo := Lib.hid hpost
    clear hpost hbel
    have z0 := HF.out.cell (i := 0) rfl
    have z1 := HF.out.cell (i := 1) rfl
    have z2 := HF.out.cell (i := 2) rfl
    have z3 := HF.out.cell (i := 3) rfl
    have z4 := HF.out.cell (i := 4) rfl
    have z5 := HF.out.cell (i := 5) rfl
    have z6 := HF.out.cell (i := 6) rfl
    have z7 := HF.out.cell (i := 7) rfl
    have z8 := HF.out.cell (i := 8) rfl
    unfold set9 at z0 z1 z2 z3 z4 z5 z6 z7 z8
    exact bodyPost_ret (v := .tuple #[letV x.l x.A x.B x.c x.d, .int .i64 0]) (by simp [results, Try.results26, go_sem, letV, z0, z1, z2, z3, z4, z5, z6, z7, z8]) rfl ⟨x, rfl, HXe.out, HPo.out.1, HPo.out.2⟩

end
end Nt
end Go.Proofs.Ytkpcfakfkcghdaa
