/- What is refused changes nothing: the walk of the law over shelves; no condition but the range. -/
import Derived.Test.YtiobhbagjokpcaaGreatM46
namespace Go.Proofs.YtiobhbagjokpcaaGreat
namespace Sh
open Go.RowKit Bk Ch Lt Rc Tr

attribute [local go_sem ↓] Go.wp_at_zero Go.wp_at_succ
attribute [local go_sem] floatUpon pick

theorem row_far {w w' : World} {H sz n : Nat} {e : TypeId} {v : Value} {cs : List Value} (h : w.ownsRow H e sz v n cs) (hF : ∀ k, v.ownBlock = some k → w'.heap[k]? = w.heap[k]?) : w'.ownsRow H e sz v n cs := by
  rcases h with ⟨hl, h0 | ⟨i, cap, cur, hv, hb, hgt, rest⟩⟩
  · exact ⟨hl, .inl h0⟩
  · exact ⟨hl, .inr ⟨i, cap, cur, hv, hb, (hF i (by rw [hv]; rfl)).trans hgt, rest⟩⟩

theorem OutL.far {W w w' : World} {v : Value} {X : List RI} {F : Nat → Prop} (h : OutL W w v X) (hf : Far F w w') (hF : ∀ k, F k → k < W.heap.size) : OutL W w' v X :=
  ⟨row_far h.row (fun k hk => hf.block k (h.row.lt k hk).2 (fun h2 => by have := hF _ h2; have := (h.row.lt k hk).1; omega)),
   fun x hx => ⟨⟨strs_away (h.pv x hx).val.ks (fun hp ad e h2 => by have := (h.new x hx).ks hp ad e; have := hF _ h2; omega) hf.toAway, wrs_away (h.pv x hx).val.ws (fun hp ad e h2 => by have := (h.new x hx).ws hp ad e; have := hF _ h2; omega) hf.toAway, (h.pv x hx).val.rng, (h.pv x hx).val.kn, (h.pv x hx).val.wn⟩, (h.pv x hx).ka, (h.pv x hx).wa⟩, h.new, h.ord⟩

theorem Live.records {W w : World} {g : Nat} {F : Nat → Prop} {s : Shf} (h : Live W w g F s) :
    Calls Tryz.prog 17 #[.pointer (some ⟨g, 0, none⟩)] w fun e w' => ∃ (A : Option Addr) (c : Nat) (X : List RI), e = .returned (.slice A X.length c) ∧ X.map (·.l) = recordsP s ∧ OutL w w' (.slice A X.length c) X ∧ Live W w' g F s ∧ Below w.heap.size w w' := by
  obtain ⟨bc, bp, v, K, P, hl⟩ := h.rep
  refine (lrecs_any hl h.ok).mono ?_
  rintro e w' ⟨u, X, rfl, hX, ho, hb⟩
  obtain ⟨A, c, rfl, -⟩ := ho.rows
  exact ⟨A, c, X, rfl, hX, ho, h.below hb, hb⟩

theorem recs_len {s : Shf} (h : ShOk s) : (recordsP s).length ≤ 4398046511104 := by
  have h1 : (s.k.flatMap fun x => x.l.map (verR x.name)).length ≤ s.k.length * 1024 := by
    have : ∀ k : List Kc, (∀ x ∈ k, x.l.length ≤ 1024) → (k.flatMap fun x => x.l.map (verR x.name)).length ≤ k.length * 1024 := fun k => by
      induction k with
      | nil => intro _; simp
      | cons x r ih =>
        intro hx
        have h2 := ih (fun y hy => hx y (List.mem_cons_of_mem _ hy))
        have h3 := hx x (List.mem_cons_self ..)
        rw [List.flatMap_cons, List.length_append, List.length_map, List.length_cons]
        omega
    exact this s.k (fun x hx => (h.kc x hx).len)
  have h2 := h.kl
  have h3 := h.el
  have h4 := h.pl
  unfold recordsP
  rw [List.length_append, List.length_append, List.length_append, List.length_map]
  have h5 : (if 0 < s.over then [sweepR s.over] else []).length ≤ 1 := by split <;> simp
  omega

theorem OutL.rowOf {W w : World} {A : Option Addr} {c : Nat} {X : List RI} (h : OutL W w (.slice A X.length c) X) : RowOf w A X := by
  obtain ⟨A', c', e, hr⟩ := h.rows
  simp only [Value.slice.injEq] at e
  rw [e.1]
  exact hr

theorem same_rows {W1 W2 w : World} {A B : Option Addr} {c d : Nat} {X Y : List RI} {s : Shf} (hs : ShOk s) (hX : OutL W1 w (.slice A X.length c) X) (hY : OutL W2 w (.slice B Y.length d) Y) (h1 : X.map (·.l) = recordsP s) (h2 : Y.map (·.l) = recordsP s) :
    Calls Tryz.prog 18 #[.slice A X.length c, .slice B Y.length d] w fun e w' => e = .returned (.bool true) ∧ Below w.heap.size w w' :=
  sameRecords_eq A B c d X Y w hX.rowOf hY.rowOf (h1.trans h2.symm) (by
    have := recs_len hs
    rw [← h1, List.length_map] at this
    omega)

set_option maxRecDepth 20000 in
set_option maxHeartbeats 8000000 in
theorem refuses_any (W : World) (v u : Value) (L : List RI) (r : Rec) (hv : RecsOf W v L) (hu : RecArg W u r) :
    Calls Tryz.prog 5 #[v, u] W fun e w' => e = .returned (.bool true) ∧ Below W.heap.size W w' := by
  obtain ⟨A, B, c, d, rfl, hks, hws, hrg, hkn, hwn⟩ := hu
  have HMd := Lib.hid (fun V (hb : Below W.heap.size W V) => made_any V v L (recs_below2 hv hb))
  have HWk := Lib.hid (fun V => works_any V)
  have HRv := Lib.hid (fun V (hb : Below W.heap.size W V) => show RecVal V A B c d r from ⟨hks.below hb, hws.below hb, hrg, hkn, hwn⟩)
  clear hv hks hws hrg hkn hwn
  unfold recV
  go_enter Tryz.func5, Tryz.ntmps5
  have hc1 : Cel (W.alloc (.cells #[.int .i64 r.kind, .int .i64 r.txn, .int .i64 r.ts, .int .i64 r.coord, .string r.key, .string r.text, .bool r.dead, .slice A r.keys.length c, .slice B r.ws.length d] 37)) W.heap.size 37 [.int .i64 r.kind, .int .i64 r.txn, .int .i64 r.ts, .int .i64 r.coord, .string r.key, .string r.text, .bool r.dead, .slice A r.keys.length c, .slice B r.ws.length d] := (blk1 W _).2
  have hb1 : Below W.heap.size W (W.alloc (.cells #[.int .i64 r.kind, .int .i64 r.txn, .int .i64 r.ts, .int .i64 r.coord, .string r.key, .string r.text, .bool r.dead, .slice A r.keys.length c, .slice B r.ws.length d] 37)) := (Below.refl _ W).alloc (Nat.le_refl _) _
  go_upto_region 1 with fail
  generalize W.alloc (.cells #[.int .i64 r.kind, .int .i64 r.txn, .int .i64 r.ts, .int .i64 r.coord, .string r.key, .string r.text, .bool r.dead, .slice A r.keys.length c, .slice B r.ws.length d] 37) = W1 at hc1 hb1 ⊢
  have HC := Lib.hid (fun V (hb : Below W1.heap.size W1 V) => hc1.below hb)
  have HB1 := Lib.hid hb1
  have HAp := Lib.hid (fun V (F : Nat → Prop) (s : Shf) (g : Nat) (h : Live W1 V g F s) => h.apply ⟨r, A, B, c, d⟩ (HRv.out V (hb1.trans (h.bel.mono hb1.size))))
  unfold rcs at HAp
  simp only at HAp
  clear hc1 hb1 HRv
  go_wp2_with fail
  refine (HMd.out _ HB1.out).mono ?_
  rintro e2 w2 ⟨g, F, s, rfl, hl⟩
  have HL2 := Lib.hid hl
  clear hl HMd
  go_wp2_with fail
  refine (HWk.out _).mono ?_
  rintro e3 w3 ⟨rfl, hb⟩
  have HL3 := Lib.hid (HL2.out.below hb)
  clear hb HL2 HWk
  go_wp2_with fail
  refine HL3.out.records.mono ?_
  rintro e4 w4 ⟨A1, c1, X1, rfl, hX1, ho1, hl, hb⟩
  have HX1 := Lib.hid hX1
  have HO1 := Lib.hid (And.intro ho1 HL3.out.lt)
  have HL4 := Lib.hid hl
  have q0 := (HC.out _ hl.bel).cell (i := 0) rfl
  have q1 := (HC.out _ hl.bel).cell (i := 1) rfl
  have q2 := (HC.out _ hl.bel).cell (i := 2) rfl
  have q3 := (HC.out _ hl.bel).cell (i := 3) rfl
  have q4 := (HC.out _ hl.bel).cell (i := 4) rfl
  have q5 := (HC.out _ hl.bel).cell (i := 5) rfl
  have q6 := (HC.out _ hl.bel).cell (i := 6) rfl
  have q7 := (HC.out _ hl.bel).cell (i := 7) rfl
  have q8 := (HC.out _ hl.bel).cell (i := 8) rfl
  clear hX1 ho1 hl hb HL3
  go_wp2_with fail
  refine (HAp.out _ _ _ _ HL4.out).mono ?_
  rintro e5 w5 ⟨rfl, hl, hf⟩
  have HL5 := Lib.hid hl
  have HO5 := Lib.hid (HO1.out.1.far hf HO1.out.2)
  have HRf := Lib.hid (fun (h : (applyP s r).2 ≠ 0) => refused h)
  have HTw := Lib.hid (fun (h : (applyP s r).2 = 0) => twice HL4.out.ok h)
  clear hl hf q0 q1 q2 q3 q4 q5 q6 q7 q8 HO1
  obtain ⟨s5, e5, he⟩ : ∃ s5 e5, applyP s r = (s5, e5) := ⟨_, _, rfl⟩
  rw [he] at HL5 HRf HTw ⊢
  simp only at HL5 HRf HTw ⊢
  clear he
  by_cases h0 : e5 = 0
  case neg =>
    have hs := HRf.out h0
    subst hs
    have z : (e5 == 0) = false := by simpa using h0
    clear HRf HTw
    go_wp2_with fail
    refine HL5.out.records.mono ?_
    rintro e6 w6 ⟨A2, c2, X2, rfl, hX2, ho2, hl, hb⟩
    have HSm := Lib.hid (same_rows HL5.out.ok ho2 (HO5.out.below hb) hX2 HX1.out)
    have HB6 := Lib.hid (HB1.out.trans (hl.bel.mono HB1.out.size))
    clear hX2 ho2 hl hb HL5 HO5
    go_wp2_with fail
    refine HSm.out.mono ?_
    rintro e7 w7 ⟨rfl, hb⟩
    have HB7 := Lib.hid (HB6.out.trans (hb.mono HB6.out.size))
    clear hb HSm
    go_wp2_with fail
    go_ret
    exact ⟨rfl, HB7.out⟩
  subst h0
  have HT := Lib.hid (HTw.out rfl)
  clear HRf HTw HO5 HX1
  go_wp2_with fail
  refine HL5.out.records.mono ?_
  rintro e6 w6 ⟨A2, c2, X2, rfl, hX2, ho2, hl, hb⟩
  have HX2 := Lib.hid hX2
  have HO6 := Lib.hid (And.intro ho2 HL5.out.lt)
  have HL6 := Lib.hid hl
  have q0 := (HC.out _ hl.bel).cell (i := 0) rfl
  have q1 := (HC.out _ hl.bel).cell (i := 1) rfl
  have q2 := (HC.out _ hl.bel).cell (i := 2) rfl
  have q3 := (HC.out _ hl.bel).cell (i := 3) rfl
  have q4 := (HC.out _ hl.bel).cell (i := 4) rfl
  have q5 := (HC.out _ hl.bel).cell (i := 5) rfl
  have q6 := (HC.out _ hl.bel).cell (i := 6) rfl
  have q7 := (HC.out _ hl.bel).cell (i := 7) rfl
  have q8 := (HC.out _ hl.bel).cell (i := 8) rfl
  clear hX2 ho2 hl hb HL5
  go_wp2_with fail
  have hap := HAp.out _ _ _ _ HL6.out
  rw [HT.out.1] at hap
  refine hap.mono ?_
  rintro e7 w7 ⟨rfl, hl, hf⟩
  have HL7 := Lib.hid hl
  have HO7 := Lib.hid (HO6.out.1.far hf HO6.out.2)
  have q0 := (HC.out _ hl.bel).cell (i := 0) rfl
  clear hl hf q1 q2 q3 q4 q5 q6 q7 q8 HO6 hap HL6 HAp
  have h14 := HT.out.2
  clear HT
  by_cases h4 : r.kind = 4
  · have hk := h4
    clear h14 h4
    have hcode : (if r.kind = 4 then (0 : Int) else if r.kind = 3 then 110 else 6) = 0 := by rw [hk]; rfl
    rw [hcode]
    clear hcode
    go_wp2_with fail
    refine HL7.out.records.mono ?_
    rintro e8 w8 ⟨A3, c3, X3, rfl, hX3, ho3, hl, hb⟩
    have HSm := Lib.hid (same_rows HL7.out.ok ho3 (HO7.out.below hb) hX3 HX2.out)
    have HB8 := Lib.hid (HB1.out.trans (hl.bel.mono HB1.out.size))
    clear hX3 ho3 hl hb HL7 HO7
    go_wp2_with fail
    refine HSm.out.mono ?_
    rintro e9 w9 ⟨rfl, hb⟩
    have HB9 := Lib.hid (HB8.out.trans (hb.mono HB8.out.size))
    clear hb HSm
    go_wp2_with fail
    go_ret
    exact ⟨rfl, HB9.out⟩
  by_cases h3 : r.kind = 3
  · have hk := h3
    clear h14 h4 h3
    have hcode : (if r.kind = 4 then (0 : Int) else if r.kind = 3 then 110 else 6) = 110 := by rw [hk]; rfl
    rw [hcode]
    clear hcode
    go_wp2_with fail
    refine HL7.out.records.mono ?_
    rintro e8 w8 ⟨A3, c3, X3, rfl, hX3, ho3, hl, hb⟩
    have HSm := Lib.hid (same_rows HL7.out.ok ho3 (HO7.out.below hb) hX3 HX2.out)
    have HB8 := Lib.hid (HB1.out.trans (hl.bel.mono HB1.out.size))
    clear hX3 ho3 hl hb HL7 HO7
    go_wp2_with fail
    refine HSm.out.mono ?_
    rintro e9 w9 ⟨rfl, hb⟩
    have HB9 := Lib.hid (HB8.out.trans (hb.mono HB8.out.size))
    clear hb HSm
    go_wp2_with fail
    go_ret
    exact ⟨rfl, HB9.out⟩
  by_cases h1 : r.kind = 1
  · have hk := h1
    clear h14 h4 h3 h1
    have hcode : (if r.kind = 4 then (0 : Int) else if r.kind = 3 then 110 else 6) = 6 := by rw [hk]; rfl
    rw [hcode]
    clear hcode
    go_wp2_with fail
    refine HL7.out.records.mono ?_
    rintro e8 w8 ⟨A3, c3, X3, rfl, hX3, ho3, hl, hb⟩
    have HSm := Lib.hid (same_rows HL7.out.ok ho3 (HO7.out.below hb) hX3 HX2.out)
    have HB8 := Lib.hid (HB1.out.trans (hl.bel.mono HB1.out.size))
    clear hX3 ho3 hl hb HL7 HO7
    go_wp2_with fail
    refine HSm.out.mono ?_
    rintro e9 w9 ⟨rfl, hb⟩
    have HB9 := Lib.hid (HB8.out.trans (hb.mono HB8.out.size))
    clear hb HSm
    go_wp2_with fail
    go_ret
    exact ⟨rfl, HB9.out⟩
  have hk : r.kind = 2 := by omega
  clear h14 h4 h3 h1
  have hcode : (if r.kind = 4 then (0 : Int) else if r.kind = 3 then 110 else 6) = 6 := by rw [hk]; rfl
  rw [hcode]
  clear hcode
  go_wp2_with fail
  refine HL7.out.records.mono ?_
  rintro e8 w8 ⟨A3, c3, X3, rfl, hX3, ho3, hl, hb⟩
  have HSm := Lib.hid (same_rows HL7.out.ok ho3 (HO7.out.below hb) hX3 HX2.out)
  have HB8 := Lib.hid (HB1.out.trans (hl.bel.mono HB1.out.size))
  clear hX3 ho3 hl hb HL7 HO7
  go_wp2_with fail
  refine HSm.out.mono ?_
  rintro e9 w9 ⟨rfl, hb⟩
  have HB9 := Lib.hid (HB8.out.trans (hb.mono HB8.out.size))
  clear hb HSm
  go_wp2_with fail
  go_ret
  exact ⟨rfl, HB9.out⟩

end Sh
end Go.Proofs.YtiobhbagjokpcaaGreat
