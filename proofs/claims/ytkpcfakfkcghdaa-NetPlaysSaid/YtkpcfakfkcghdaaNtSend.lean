/- The landed net: Send, Take, Drop; contracts; no condition but the ranges. -/
import Derived.Test.YtkpcfakfkcghdaaNtPut
import Derived.Test.YtkpcfakfkcghdaaA6
namespace Go.Proofs.Ytkpcfakfkcghdaa
namespace Nt
open Go.RowKit Bk Lt
set_option linter.unusedVariables false

attribute [local go_sem ↓] Go.wp_at_zero Go.wp_at_succ
attribute [local go_sem] floatUpon pick

open Classical in
/-- what Send answers -/
noncomputable def sendL (room : Int) (l : List Let) (m : Let) : List Let × Int := if LetOk m then putL room l m else (l, 70)

theorem Gr.mono {F : Nat → Prop} {W W2 w' : World} (h : W.heap.size ≤ W2.heap.size) : ∀ k, Gr F W2 w' k → Gr F W w' k := fun k hk => hk.elim .inl (fun h2 => .inr ⟨by omega, h2.2⟩)

section
variable {W W' W2 : World} {F F' : Nat → Prop} {g : Nat} {room : Int} {l : List Let}

theorem LRep.more (h : LRep W F g room l) (hF : ∀ k, F k → F' k) (hl : ∀ k, F' k → k < W.heap.size) : LRep W F' g room l := by
  obtain ⟨v, L, h, e⟩ := h
  exact ⟨v, L, h.more hF hl, e⟩

theorem LRep.from (h : LRep W' (Gr F W2 W') g room l) (hs : W.heap.size ≤ W2.heap.size) (hs2 : W2.heap.size ≤ W'.heap.size) (hF : ∀ k, F k → k < W.heap.size) : LRep W' (Gr F W W') g room l :=
  h.more (Gr.mono hs) (fun k hk => hk.elim (fun h => by have := hF k h; omega) (fun h => h.2))

set_option maxRecDepth 20000 in
set_option maxHeartbeats 4000000 in
theorem lsend_any (h : LRep W F g room l) (x : LI) (hx : LOwn W 0 x) :
    Calls Try.prog 14 #[.pointer (some ⟨g, 0, none⟩), letV x.l x.A x.B x.c x.d] W fun e w' => e = .returned (.int .i64 (sendL room l x.l).2) ∧ LRep w' (Gr F W w') g room (sendL room l x.l).1 ∧ Far F W w' := by
  obtain ⟨P, hP⟩ : ∃ P, sendL room l x.l = P := ⟨_, rfl⟩
  rw [hP]
  have HP := Lib.hid hP
  have HR := Lib.hid h
  have HX := Lib.hid hx
  have hck := lcheckAll x.A x.B x.c x.d x.l
  have hF := h.lt
  have HF := Lib.hid hF
  have HPut := Lib.hid (fun (V : World) (hb : Below W.heap.size W V) (hok : LetOk x.l) => lput_any (h.below hb) x (hx.below hb) hok)
  have HCk := Lib.hid (fun (V : World) (hb : Below W.heap.size W V) => hck V (hx.below hb).val)
  have hcc := ckN_cases x.l
  have hcz := @ckN_zero x.l
  obtain ⟨l0, A, B, c, d⟩ := x
  simp only at HP HPut HCk hcc hcz ⊢
  unfold letV at HPut HCk ⊢
  have hb1 : Below W.heap.size W (W.alloc (.cells #[.int .i64 l0.kind, .int .i64 l0.src, .int .i64 l0.dst, .int .i64 l0.txn, .int .i64 l0.ts, .int .i64 l0.code, .string l0.text, .slice A l0.keys.length c, .slice B l0.ws.length d] 35)) := (Below.refl _ W).alloc (Nat.le_refl _) _
  have hC1 : Cel (W.alloc (.cells #[.int .i64 l0.kind, .int .i64 l0.src, .int .i64 l0.dst, .int .i64 l0.txn, .int .i64 l0.ts, .int .i64 l0.code, .string l0.text, .slice A l0.keys.length c, .slice B l0.ws.length d] 35)) W.heap.size 35 (cellsL l0 (.slice A l0.keys.length c) (.slice B l0.ws.length d)) := (blk1 W _).2
  clear h hx hP hck hF
  go_enter Try.func14, Try.ntmps14
  go_upto_region 1 with fail
  generalize W.alloc (.cells #[.int .i64 l0.kind, .int .i64 l0.src, .int .i64 l0.dst, .int .i64 l0.txn, .int .i64 l0.ts, .int .i64 l0.code, .string l0.text, .slice A l0.keys.length c, .slice B l0.ws.length d] 35) = W1 at hb1 hC1 ⊢
  have p0 := hC1.cell (i := 0) rfl
  have p1 := hC1.cell (i := 1) rfl
  have p2 := hC1.cell (i := 2) rfl
  have p3 := hC1.cell (i := 3) rfl
  have p4 := hC1.cell (i := 4) rfl
  have p5 := hC1.cell (i := 5) rfl
  have p6 := hC1.cell (i := 6) rfl
  have p7 := hC1.cell (i := 7) rfl
  have p8 := hC1.cell (i := 8) rfl
  have HC1 := Lib.hid hC1
  have HB1 := Lib.hid hb1
  clear hb1 hC1
  go_wp2_with fail
  refine (HCk.out _ HB1.out).mono ?_
  rintro e W2 ⟨rfl, hb2⟩
  have HB2 := Lib.hid (HB1.out.trans (hb2.mono HB1.out.size))
  have hC2 := HC1.out.below hb2
  have p0 := hC2.cell (i := 0) rfl
  have p1 := hC2.cell (i := 1) rfl
  have p2 := hC2.cell (i := 2) rfl
  have p3 := hC2.cell (i := 3) rfl
  have p4 := hC2.cell (i := 4) rfl
  have p5 := hC2.cell (i := 5) rfl
  have p6 := hC2.cell (i := 6) rfl
  have p7 := hC2.cell (i := 7) rfl
  have p8 := hC2.cell (i := 8) rfl
  clear hb2 hC2 HC1 HB1 HCk
  by_cases hok : LetOk l0
  · have hc0 : ckN l0 = 0 := hcz.2 hok
    have HPe : Hid (P = putL room l l0) := Lib.hid (by rw [← HP.out]; unfold sendL; rw [if_pos hok])
    have HQ := Lib.hid (HPut.out _ HB2.out hok)
    rw [hc0]
    clear hc0 hcc hcz hok HPut
    go_wp2_with fail
    refine HQ.out.mono ?_
    rintro e W3 ⟨rfl, hr, hf⟩
    have HR3 := Lib.hid (hr.from (W := W) HB2.out.size hf.size HF.out)
    have HF3 := Lib.hid ((Far.of (F := F) HB2.out).trans hf)
    clear hr hf p0 p1 p2 p3 p4 p5 p6 p7 p8
    go_wp2_with fail
    go_ret
    rw [HPe.out]
    exact ⟨rfl, HR3.out, HF3.out⟩
  · have hc0 : ckN l0 = 70 := by rcases hcc with h | h; exact absurd (hcz.1 h) hok; exact h
    have HPe : Hid (P = (l, 70)) := Lib.hid (by rw [← HP.out]; unfold sendL; rw [if_neg hok])
    rw [hc0]
    clear hc0 hcc hcz hok HPut
    go_wp2_with fail
    go_ret
    rw [HPe.out]
    exact ⟨rfl, HR.out.gr HB2.out, Far.of HB2.out⟩

/-- the letter at a place, which is taken away -/
theorem LAt.erase {V W6 : World} {b cap cap' n i : Nat} {L : List LI} (h : LAt V F g room (.slice (some ⟨b, 0, none⟩) L.length cap) L) (hi : i < L.length) (hn : L.length = n + 1)
    (ho : W6.ownsRow 0 35 9 (.slice (some ⟨b, 0, none⟩) n cap') n ((L.flatMap lcs).take (i * 9) ++ (L.flatMap lcs).drop ((i + 1) * 9))) (hf : Far (fun k => k = b) V W6) :
    LAt (W6.setCell ⟨g, 1, none⟩ (.slice (some ⟨b, 0, none⟩) n cap')) (fun k => F k ∧ ¬ Lb L[i] k) g room (.slice (some ⟨b, 0, none⟩) n cap') (L.eraseIdx i) ∧ LOwn (W6.setCell ⟨g, 1, none⟩ (.slice (some ⟨b, 0, none⟩) n cap')) 0 L[i] ∧ Far F V (W6.setCell ⟨g, 1, none⟩ (.slice (some ⟨b, 0, none⟩) n cap')) := by
  have hgb : g ≠ b := fun e => row_cel h.re h.cel (by decide) (by rw [e]; rfl)
  have c1 : Cel W6 g 62 _ := (hf.block g h.cel.lt hgb).trans h.cel
  have hs7 : (W6.setCell ⟨g, 1, none⟩ (.slice (some ⟨b, 0, none⟩) n cap')).heap.size = W6.heap.size := by simp [World.setCell]
  have ng : ∀ x ∈ L, ¬ Lb x g := fun x hx hk => hk.elim (row_cel (h.own x hx).ks h.cel (by decide)) (row_cel (h.own x hx).ws h.cel (by decide))
  have nb : ∀ x ∈ L, ¬ Lb x b := fun x hx hk => hk.elim (fun hk => row_apart (h.own x hx).ks h.re (by decide) hk rfl) (fun hk => row_apart (h.own x hx).ws h.re (by decide) hk rfl)
  have keep : ∀ x ∈ L, LOwn (W6.setCell ⟨g, 1, none⟩ (.slice (some ⟨b, 0, none⟩) n cap')) 0 x := fun x hx => (h.own x hx).same (fun k hk => by
    have n1 : k ≠ g := fun e => ng x hx (e ▸ hk)
    have n2 : k ≠ b := fun e => nb x hx (e ▸ hk)
    exact (Below.heap_setCell W6 ⟨g, 1, none⟩ _ k n1).trans (hf.block k ((h.own x hx).lt hk).1 n2))
  have hmem : ∀ x ∈ L.eraseIdx i, x ∈ L := fun x hx => (List.eraseIdx_sublist L i).subset hx
  have hlen : (L.eraseIdx i).length = n := by rw [List.length_eraseIdx_of_lt hi]; omega
  have hflat : (L.flatMap lcs).take (i * 9) ++ (L.flatMap lcs).drop ((i + 1) * 9) = (L.eraseIdx i).flatMap lcs := by
    rw [flatN_take lcs_len, flatN_drop lcs_len, ← List.flatMap_append, ← List.eraseIdx_eq_take_drop_succ]
  refine ⟨⟨c1.set, ?_, fun x hx => keep x (hmem x hx), h.sep.sublist (List.eraseIdx_sublist L i), ⟨h.fg, ng _ (List.getElem_mem hi)⟩, fun k e => ?_, fun x hx k hk => ⟨h.fl x (hmem x hx) k hk, ?_⟩, fun k hk => ?_, h.rm, ?_, fun x hx => h.ok x (hmem x hx)⟩, keep _ (List.getElem_mem hi), ?_⟩
  · rw [hlen, ← hflat]
    exact ownsRow_setCell_other (a := ⟨g, 1, none⟩) ho (row_cel ho c1 (by decide)) _
  · obtain rfl : b = k := Option.some.inj e
    exact ⟨h.fv b rfl, nb _ (List.getElem_mem hi)⟩
  · obtain ⟨j, hj, hne, rfl⟩ := List.mem_eraseIdx_iff_getElem.1 hx
    intro hk2
    rcases Nat.lt_or_gt_of_ne hne with hlt | hgt
    · exact List.pairwise_iff_getElem.1 h.sep j i hj hi hlt k hk hk2
    · exact List.pairwise_iff_getElem.1 h.sep i j hi hj hgt k hk2 hk
  · have := h.lt k hk.1
    have := hf.size
    rw [hs7]; omega
  · rw [hlen]; have := h.len; omega
  · exact (hf.more (fun k e => by subst e; exact .inl (h.fv _ rfl))).trans (Far.set h.fg _)

end
end Nt
end Go.Proofs.Ytkpcfakfkcghdaa
