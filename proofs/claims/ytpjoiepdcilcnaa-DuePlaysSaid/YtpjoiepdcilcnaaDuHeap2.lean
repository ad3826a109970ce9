/- container/heap over a queue's heaps: Push, Pop, Remove; no condition but the range. -/
import Derived.Test.YtpjoiepdcilcnaaDuHeap
namespace Go.Proofs.Ytpjoiepdcilcnaa
namespace Du
open Go.RowKit Bk

theorem TRow.same {W W' : World} {base : Nat} {v : Value} {l : List Tk} (h : TRow W base v l) (hk : ∀ p, v.ownBlock = some p → W'.heap[p]? = W.heap[p]?) : TRow W' base v l := by
  refine ⟨h.1, ?_⟩
  rcases h.2 with h' | ⟨p, cap, cur, e, h2, h3, h4⟩
  · exact .inl h'
  · exact .inr ⟨p, cap, cur, e, h2, (hk p (by rw [e]; rfl)).trans h3, h4⟩

/-- a block beside is turned -/
theorem first_end {W W1 X : World} {base b o r : Nat} {cs' : List Value} {v v1 : Value} {l1 : List Tk} (h1 : HS W1 base b o cs' v1 l1) (m1 : HM W W1 b v v1) (hg : W1.grownBy X (some r)) (hr : r = W.heap.size) (hb : r ≠ b) (hv : some r ≠ v1.ownBlock) : HS X base b o cs' v1 l1 ∧ HM W X b v v1 :=
  ⟨⟨(hg.block b h1.cel.lt (fun e => hb (Option.some.inj e).symm)).trans h1.cel, h1.at', h1.row.same (fun p hp => hg.block p (by
      rcases h1.row.2 with ⟨e, _⟩ | ⟨q, cap, cur, e, _, e3, _⟩
      · rw [e] at hp; cases hp
      · rw [e] at hp; have e4 : q = p := Option.some.inj hp; rw [← e4]; exact (Array.getElem?_eq_some_iff.1 e3).1) (fun e => hv (e ▸ hp.symm))), h1.far⟩,
   ⟨hg.os.trans m1.os, hg.tape.trans m1.tape, hg.output.trans m1.output, Nat.le_trans m1.size hg.size, fun k hk h2 h3 => (hg.block k (Nat.lt_of_lt_of_le hk m1.size) (fun e => by have := Option.some.inj e; omega)).trans (m1.block k hk h2 h3), m1.own⟩⟩

theorem HS.le {W : World} {base b o : Nat} {cs : List Value} {v : Value} {l : List Tk} {N : Nat} (h : HS W base b o cs v l) (hn : l.length = N) : HS W base b o cs v l ∧ l.length = N := ⟨h, hn⟩

section
variable {W W' : World} {base b o : Nat} {cs : List Value} {v : Value} {l l' : List Tk}

set_option maxHeartbeats 4000000 in
theorem hpushW_any (h : HS W base b o cs v l) (x : Tk) (h10 : l.length ≤ 100000) (hbs : base ≤ W.heap.size) :
    Calls Try.prog 23 #[.iface 62 (.pointer (some ⟨b, o, none⟩)), .iface 60 (tkV x)] W fun e W' => e = .returned (.tuple #[]) ∧ ∃ v', HS W' base b o (cs.set o v') v' (pushL ltW l x) ∧ HM W W' b v v' := by
  have HC := Lib.hid (pushlast_any h x (by omega) hbs)
  clear h
  unfold tkV
  go_enter Try.func23, Try.ntmps23
  go_wp2_with fail
  refine HC.out.mono ?_
  rintro e1 W1 ⟨rfl, v1, h1, m1⟩
  have hle := lenW_method h1.cell
  have HC1 := Lib.hid (fun Q => call_len (Q := Q) h1)
  have hlen : (l ++ [x]).length = l.length + 1 := by simp
  rw [hlen] at HC1
  have HU := Lib.hid (upW_any h1 l.length (by omega) (by omega))
  have HM1 := Lib.hid m1
  clear h1 m1 HC hlen
  go_wp2_with fail
  refine HC1.out _ ?_
  clear HC1
  go_wp2_with fail
  refine HU.out.mono ?_
  rintro e2 W2 ⟨rfl, h2, m2⟩
  have HH2 := Lib.hid h2
  have HM2 := Lib.hid (HM1.out.trans m2)
  clear h2 m2 HU HM1 hle
  go_wp2_with fail
  go_end0
  exact ⟨rfl, _, HH2.out, HM2.out⟩

set_option maxHeartbeats 4000000 in
theorem hpopW_any {n : Nat} (h : HS W base b o cs v l) (hn : l.length = n + 1) (h10 : l.length ≤ 100000) :
    Calls Try.prog 32 #[.iface 62 (.pointer (some ⟨b, o, none⟩))] W fun e W' => e = .returned (.iface 60 (tkV (g l 0))) ∧ ∃ v', HS W' base b o (cs.set o v') v' ((popM ltW l n).take n) ∧ HM W W' b v v' := by
  have hle := lenW_method h.cell
  have hsw := swapW_method h.cell
  have HC1 := Lib.hid (fun Q => call_len (Q := Q) h)
  rw [hn] at HC1
  have HC2 := Lib.hid (fun Q => call_swap (Q := Q) h 0 n (by omega) (by omega))
  have HP := Lib.hid (pop_last ltW hn)
  have HN := Lib.hid hn
  have hn10 : n ≤ 100000 := by omega
  clear h hn h10
  go_enter Try.func32, Try.ntmps32
  go_wp2_with fail
  refine HC1.out _ ?_
  clear HC1
  go_wp2_with fail
  refine HC2.out _ ?_
  intro W1 h1 m1
  have hl1 : (swL l 0 n).length = n + 1 := (sw_len _ _ _).trans HN.out
  have HD := Lib.hid (dnW_any h1 0 n (by omega) (by omega) (by omega) (by omega))
  have HM1 := Lib.hid m1
  clear h1 m1 HC2 hle hsw hl1
  go_wp2_with fail
  refine HD.out.mono ?_
  rintro e2 W2 ⟨rfl, h2, m2⟩
  have hl2 : (popM ltW l n).length = n + 1 := (pop_len _ _ _).trans HN.out
  have HL := Lib.hid (poplast_any (l := popM ltW l n) h2 hl2 (by omega))
  have HM2 := Lib.hid (HM1.out.trans m2)
  have c2 := h2.cell
  clear h2 m2 HD HM1 hl2
  go_wp2_with fail
  refine HL.out.mono ?_
  rintro e3 W3 ⟨rfl, v3, h3, m3⟩
  have HH3 := Lib.hid h3
  have HM3 := Lib.hid (HM2.out.trans m3)
  rw [HP.out]
  clear h3 m3 HL HM2 c2
  unfold tkV
  go_wp2_with fail
  go_ret
  exact ⟨rfl, _, HH3.out, HM3.out⟩

set_option maxHeartbeats 4000000 in
theorem hremW_any {n : Nat} (h : HS W base b o cs v l) (i : Nat) (hn : l.length = n + 1) (hi : i ≤ n) (h10 : l.length ≤ 100000) :
    Calls Try.prog 29 #[.iface 62 (.pointer (some ⟨b, o, none⟩)), .int .i64 i] W fun e W' => (∃ u, e = .returned u) ∧ ∃ v', HS W' base b o (cs.set o v') v' ((remM ltW l i n).take n) ∧ HM W W' b v v' := by
  have hle := lenW_method h.cell
  have hsw := swapW_method h.cell
  have HC1 := Lib.hid (fun Q => call_len (Q := Q) h)
  rw [hn] at HC1
  have HC2 := Lib.hid (fun Q => call_swap (Q := Q) h i n (by omega) (by omega))
  have HN := Lib.hid hn
  have HH := Lib.hid h
  have hn10 : n ≤ 100000 := by omega
  have c0 := h.cell
  clear h hn h10
  go_enter Try.func29, Try.ntmps29
  go_wp2_with fail
  refine HC1.out _ ?_
  clear HC1
  by_cases hin : i = n
  · subst hin
    have HL := Lib.hid (poplast_any HH.out HN.out (by have := HN.out; omega))
    clear hle hsw HC2
    go_wp2_with fail
    refine HL.out.mono ?_
    rintro e3 W3 ⟨rfl, v3, h3, m3⟩
    have HH3 := Lib.hid h3
    have HM3 := Lib.hid m3
    clear h3 m3 HL c0
    unfold tkV
    go_wp2_with fail
    go_ret
    refine ⟨⟨_, rfl⟩, _, ?_, HM3.out⟩
    unfold remM
    rw [if_pos rfl]
    exact HH3.out
  · have q1 : ¬ (n : Int) = (i : Int) := by omega
    go_wp2_with fail
    refine HC2.out _ ?_
    intro W1 h1 m1
    have hl1 : (swL l i n).length = n + 1 := (sw_len _ _ _).trans HN.out
    have HD := Lib.hid (dnW_any h1 i n (by omega) (by omega) (by omega) (by omega))
    have HM1 := Lib.hid m1
    clear h1 m1 HC2 hle hsw c0
    go_wp2_with fail
    refine HD.out.mono ?_
    rintro e2 W2 ⟨rfl, h2, m2⟩
    have HM2 := Lib.hid (HM1.out.trans m2)
    have HH2 := Lib.hid h2
    clear h2 m2 HD HM1
    cases hmv : mvd ltW (swL l i n) i n with
    | true =>
      have er : remM ltW l i n = dnL ltW (swL l i n) i n := by unfold remM; rw [if_neg hin, if_pos hmv]
      rw [← er] at HH2
      have hl2 : (remM ltW l i n).length = n + 1 := (rem_len _ _ _ _).trans HN.out
      have HL := Lib.hid (poplast_any HH2.out hl2 (by omega))
      have c2 := HH2.out.cell
      clear hl2 er hmv hl1
      go_wp2_with fail
      refine HL.out.mono ?_
      rintro e3 W3 ⟨rfl, v3, h3, m3⟩
      have HH3 := Lib.hid h3
      have HM3 := Lib.hid (HM2.out.trans m3)
      clear h3 m3 HL HM2 c2
      unfold tkV
      go_wp2_with fail
      go_ret
      exact ⟨⟨_, rfl⟩, _, HH3.out, HM3.out⟩
    | false =>
      have er : remM ltW l i n = upL ltW (swL l i n) i := by unfold remM; rw [if_neg hin, if_neg (by rw [hmv]; decide)]
      rw [dn_still hmv] at HH2
      have HU := Lib.hid (upW_any HH2.out i (by omega) (by omega))
      rw [← er] at HU
      have hl2 : (remM ltW l i n).length = n + 1 := (rem_len _ _ _ _).trans HN.out
      have c2 := HH2.out.cell
      clear er hmv hl1
      go_wp2_with fail
      refine HU.out.mono ?_
      rintro e4 W4 ⟨rfl, h4, m4⟩
      have HL := Lib.hid (poplast_any h4 hl2 (by omega))
      have HM4 := Lib.hid (HM2.out.trans m4)
      have c4 := h4.cell
      clear h4 m4 HU HM2 hl2 c2
      go_wp2_with fail
      refine HL.out.mono ?_
      rintro e3 W3 ⟨rfl, v3, h3, m3⟩
      have HH3 := Lib.hid h3
      have HM3 := Lib.hid (HM4.out.trans m3)
      clear h3 m3 HL HM4 c4
      unfold tkV
      go_wp2_with fail
      go_ret
      exact ⟨⟨_, rfl⟩, _, HH3.out, HM3.out⟩

set_option maxHeartbeats 4000000 in
theorem firstW_any {n : Nat} (h : HS W base b o cs v l) (hn : l.length = n + 1) (h10 : l.length ≤ 100000) :
    Calls Try.prog 25 #[.iface 62 (.pointer (some ⟨b, o, none⟩))] W fun e W' => e = .returned (tkV (g l 0)) ∧ ∃ v', HS W' base b o (cs.set o v') v' ((popM ltW l n).take n) ∧ HM W W' b v v' := by
  have hta : ∀ (x : Tk) (V : World), (Instr.typeAssert (.iface 60 (.agg #[.int .i64 x.a, .int .i64 x.u, .int .i64 x.i, .int .i64 x.n])) 20 60 false).run Try.prog V = .ok (.agg #[.int .i64 x.a, .int .i64 x.u, .int .i64 x.i, .int .i64 x.n]) V := fun _ _ => rfl
  have hal := (Below.refl W.heap.size W).alloc (Nat.le_refl _) (.cells #[.int .i64 0, .int .i64 0, .int .i64 0, .int .i64 0] 60)
  have HC := Lib.hid (hpopW_any (h.below hal) hn h10)
  have HA := Lib.hid (HM.of (b := b) (v := v) hal)
  have kr : Cel (W.alloc (.cells #[.int .i64 0, .int .i64 0, .int .i64 0, .int .i64 0] 60)) W.heap.size 60 [.int .i64 0, .int .i64 0, .int .i64 0, .int .i64 0] := (blk1 W _).2
  have HR := Lib.hid kr
  have hb : W.heap.size ≠ b := by have := h.cel.lt; omega
  have hv : some W.heap.size ≠ v.ownBlock := fun e => by
    rcases h.row.2 with ⟨e2, _⟩ | ⟨p, cap, cur, e2, _, e3, _⟩
    · rw [e2] at e; cases e
    · rw [e2] at e; have e4 : W.heap.size = p := Option.some.inj e; have := (Array.getElem?_eq_some_iff.1 e3).1; omega
  have HB := Lib.hid (And.intro hb hv)
  clear h hn hal kr hb hv
  go_enter Try.func25, Try.ntmps25
  go_wp2_with fail
  refine HC.out.mono ?_
  rintro e1 W1 ⟨rfl, v1, h1, m1⟩
  have kr : Cel W1 W.heap.size 60 [.int .i64 0, .int .i64 0, .int .i64 0, .int .i64 0] := (m1.block _ (by simp) HB.out.1 HB.out.2).trans HR.out
  have r0 := kr.cell (i := 0) rfl
  have r1 := kr.cell (i := 1) rfl
  have r2 := kr.cell (i := 2) rfl
  have r3 := kr.cell (i := 3) rfl
  have fr := fun i => kr.free (i := i)
  have hv1 : some W.heap.size ≠ v1.ownBlock := fun e => by
    rcases m1.own with e2 | ⟨k, e2, e3⟩
    · exact HB.out.2 (e.trans e2)
    · rw [e2] at e; have := Option.some.inj e; simp at e3; omega
  have hz := first_end (r := W.heap.size) h1 (HA.out.trans m1) (put4_grown W1 W.heap.size 0 (g l 0)) rfl HB.out.1 hv1
  have hq : Cel (put4 W1 W.heap.size 0 (g l 0)) W.heap.size _ _ := (((kr.set (i := 0) (v := .int .i64 (g l 0).a)).set (i := 1) (v := .int .i64 (g l 0).u)).set (i := 2) (v := .int .i64 (g l 0).i)).set (i := 3) (v := .int .i64 (g l 0).n)
  have HZ := Lib.hid (And.intro hz hq)
  clear h1 m1 HC HA kr HR hz hq hv1 HB
  unfold tkV
  go_wp2_with fail
  have z0 := HZ.out.2.cell (i := 0) rfl
  have z1 := HZ.out.2.cell (i := 1) rfl
  have z2 := HZ.out.2.cell (i := 2) rfl
  have z3 := HZ.out.2.cell (i := 3) rfl
  change bodyPost _ _ _ _ _ (put4 W1 W.heap.size 0 (g l 0))
  generalize put4 W1 W.heap.size 0 (g l 0) = X at HZ z0 z1 z2 z3 ⊢
  exact bodyPost_ret (v := .agg #[.int .i64 (g l 0).a, .int .i64 (g l 0).u, .int .i64 (g l 0).i, .int .i64 (g l 0).n]) (by simp [results, Try.results25, go_sem, z0, z1, z2, z3]) rfl ⟨rfl, _, HZ.out.1⟩

end

section
variable {W W' : World} {base b o : Nat} {cs : List Value} {v : Value} {l l' : List Tk}

set_option maxHeartbeats 4000000 in
theorem hpushR_any (h : HS W base b o cs v l) (x : Tk) (h10 : l.length ≤ 100000) (hbs : base ≤ W.heap.size) :
    Calls Try.prog 23 #[.iface 63 (.pointer (some ⟨b, o, none⟩)), .iface 60 (tkV x)] W fun e W' => e = .returned (.tuple #[]) ∧ ∃ v', HS W' base b o (cs.set o v') v' (pushL ltR l x) ∧ HM W W' b v v' := by
  have HC := Lib.hid (pushlast_any h x (by omega) hbs)
  clear h
  unfold tkV
  go_enter Try.func23, Try.ntmps23
  go_wp2_with fail
  refine HC.out.mono ?_
  rintro e1 W1 ⟨rfl, v1, h1, m1⟩
  have hle := lenR_method h1.cell
  have HC1 := Lib.hid (fun Q => call_len (Q := Q) h1)
  have hlen : (l ++ [x]).length = l.length + 1 := by simp
  rw [hlen] at HC1
  have HU := Lib.hid (upR_any h1 l.length (by omega) (by omega))
  have HM1 := Lib.hid m1
  clear h1 m1 HC hlen
  go_wp2_with fail
  refine HC1.out _ ?_
  clear HC1
  go_wp2_with fail
  refine HU.out.mono ?_
  rintro e2 W2 ⟨rfl, h2, m2⟩
  have HH2 := Lib.hid h2
  have HM2 := Lib.hid (HM1.out.trans m2)
  clear h2 m2 HU HM1 hle
  go_wp2_with fail
  go_end0
  exact ⟨rfl, _, HH2.out, HM2.out⟩

set_option maxHeartbeats 4000000 in
theorem hpopR_any {n : Nat} (h : HS W base b o cs v l) (hn : l.length = n + 1) (h10 : l.length ≤ 100000) :
    Calls Try.prog 32 #[.iface 63 (.pointer (some ⟨b, o, none⟩))] W fun e W' => e = .returned (.iface 60 (tkV (g l 0))) ∧ ∃ v', HS W' base b o (cs.set o v') v' ((popM ltR l n).take n) ∧ HM W W' b v v' := by
  have hle := lenR_method h.cell
  have hsw := swapR_method h.cell
  have HC1 := Lib.hid (fun Q => call_len (Q := Q) h)
  rw [hn] at HC1
  have HC2 := Lib.hid (fun Q => call_swap (Q := Q) h 0 n (by omega) (by omega))
  have HP := Lib.hid (pop_last ltR hn)
  have HN := Lib.hid hn
  have hn10 : n ≤ 100000 := by omega
  clear h hn h10
  go_enter Try.func32, Try.ntmps32
  go_wp2_with fail
  refine HC1.out _ ?_
  clear HC1
  go_wp2_with fail
  refine HC2.out _ ?_
  intro W1 h1 m1
  have hl1 : (swL l 0 n).length = n + 1 := (sw_len _ _ _).trans HN.out
  have HD := Lib.hid (dnR_any h1 0 n (by omega) (by omega) (by omega) (by omega))
  have HM1 := Lib.hid m1
  clear h1 m1 HC2 hle hsw hl1
  go_wp2_with fail
  refine HD.out.mono ?_
  rintro e2 W2 ⟨rfl, h2, m2⟩
  have hl2 : (popM ltR l n).length = n + 1 := (pop_len _ _ _).trans HN.out
  have HL := Lib.hid (poplast_any (l := popM ltR l n) h2 hl2 (by omega))
  have HM2 := Lib.hid (HM1.out.trans m2)
  have c2 := h2.cell
  clear h2 m2 HD HM1 hl2
  go_wp2_with fail
  refine HL.out.mono ?_
  rintro e3 W3 ⟨rfl, v3, h3, m3⟩
  have HH3 := Lib.hid h3
  have HM3 := Lib.hid (HM2.out.trans m3)
  rw [HP.out]
  clear h3 m3 HL HM2 c2
  unfold tkV
  go_wp2_with fail
  go_ret
  exact ⟨rfl, _, HH3.out, HM3.out⟩

set_option maxHeartbeats 4000000 in
theorem hremR_any {n : Nat} (h : HS W base b o cs v l) (i : Nat) (hn : l.length = n + 1) (hi : i ≤ n) (h10 : l.length ≤ 100000) :
    Calls Try.prog 29 #[.iface 63 (.pointer (some ⟨b, o, none⟩)), .int .i64 i] W fun e W' => (∃ u, e = .returned u) ∧ ∃ v', HS W' base b o (cs.set o v') v' ((remM ltR l i n).take n) ∧ HM W W' b v v' := by
  have hle := lenR_method h.cell
  have hsw := swapR_method h.cell
  have HC1 := Lib.hid (fun Q => call_len (Q := Q) h)
  rw [hn] at HC1
  have HC2 := Lib.hid (fun Q => call_swap (Q := Q) h i n (by omega) (by omega))
  have HN := Lib.hid hn
  have HH := Lib.hid h
  have hn10 : n ≤ 100000 := by omega
  have c0 := h.cell
  clear h hn h10
  go_enter Try.func29, Try.ntmps29
  go_wp2_with fail
  refine HC1.out _ ?_
  clear HC1
  by_cases hin : i = n
  · subst hin
    have HL := Lib.hid (poplast_any HH.out HN.out (by have := HN.out; omega))
    clear hle hsw HC2
    go_wp2_with fail
    refine HL.out.mono ?_
    rintro e3 W3 ⟨rfl, v3, h3, m3⟩
    have HH3 := Lib.hid h3
    have HM3 := Lib.hid m3
    clear h3 m3 HL c0
    unfold tkV
    go_wp2_with fail
    go_ret
    refine ⟨⟨_, rfl⟩, _, ?_, HM3.out⟩
    unfold remM
    rw [if_pos rfl]
    exact HH3.out
  · have q1 : ¬ (n : Int) = (i : Int) := by omega
    go_wp2_with fail
    refine HC2.out _ ?_
    intro W1 h1 m1
    have hl1 : (swL l i n).length = n + 1 := (sw_len _ _ _).trans HN.out
    have HD := Lib.hid (dnR_any h1 i n (by omega) (by omega) (by omega) (by omega))
    have HM1 := Lib.hid m1
    clear h1 m1 HC2 hle hsw c0
    go_wp2_with fail
    refine HD.out.mono ?_
    rintro e2 W2 ⟨rfl, h2, m2⟩
    have HM2 := Lib.hid (HM1.out.trans m2)
    have HH2 := Lib.hid h2
    clear h2 m2 HD HM1
    cases hmv : mvd ltR (swL l i n) i n with
    | true =>
      have er : remM ltR l i n = dnL ltR (swL l i n) i n := by unfold remM; rw [if_neg hin, if_pos hmv]
      rw [← er] at HH2
      have hl2 : (remM ltR l i n).length = n + 1 := (rem_len _ _ _ _).trans HN.out
      have HL := Lib.hid (poplast_any HH2.out hl2 (by omega))
      have c2 := HH2.out.cell
      clear hl2 er hmv hl1
      go_wp2_with fail
      refine HL.out.mono ?_
      rintro e3 W3 ⟨rfl, v3, h3, m3⟩
      have HH3 := Lib.hid h3
      have HM3 := Lib.hid (HM2.out.trans m3)
      clear h3 m3 HL HM2 c2
      unfold tkV
      go_wp2_with fail
      go_ret
      exact ⟨⟨_, rfl⟩, _, HH3.out, HM3.out⟩
    | false =>
      have er : remM ltR l i n = upL ltR (swL l i n) i := by unfold remM; rw [if_neg hin, if_neg (by rw [hmv]; decide)]
      rw [dn_still hmv] at HH2
      have HU := Lib.hid (upR_any HH2.out i (by omega) (by omega))
      rw [← er] at HU
      have hl2 : (remM ltR l i n).length = n + 1 := (rem_len _ _ _ _).trans HN.out
      have c2 := HH2.out.cell
      clear er hmv hl1
      go_wp2_with fail
      refine HU.out.mono ?_
      rintro e4 W4 ⟨rfl, h4, m4⟩
      have HL := Lib.hid (poplast_any h4 hl2 (by omega))
      have HM4 := Lib.hid (HM2.out.trans m4)
      have c4 := h4.cell
      clear h4 m4 HU HM2 hl2 c2
      go_wp2_with fail
      refine HL.out.mono ?_
      rintro e3 W3 ⟨rfl, v3, h3, m3⟩
      have HH3 := Lib.hid h3
      have HM3 := Lib.hid (HM4.out.trans m3)
      clear h3 m3 HL HM4 c4
      unfold tkV
      go_wp2_with fail
      go_ret
      exact ⟨⟨_, rfl⟩, _, HH3.out, HM3.out⟩

set_option maxHeartbeats 4000000 in
theorem firstR_any {n : Nat} (h : HS W base b o cs v l) (hn : l.length = n + 1) (h10 : l.length ≤ 100000) :
    Calls Try.prog 25 #[.iface 63 (.pointer (some ⟨b, o, none⟩))] W fun e W' => e = .returned (tkV (g l 0)) ∧ ∃ v', HS W' base b o (cs.set o v') v' ((popM ltR l n).take n) ∧ HM W W' b v v' := by
  have hta : ∀ (x : Tk) (V : World), (Instr.typeAssert (.iface 60 (.agg #[.int .i64 x.a, .int .i64 x.u, .int .i64 x.i, .int .i64 x.n])) 20 60 false).run Try.prog V = .ok (.agg #[.int .i64 x.a, .int .i64 x.u, .int .i64 x.i, .int .i64 x.n]) V := fun _ _ => rfl
  have hal := (Below.refl W.heap.size W).alloc (Nat.le_refl _) (.cells #[.int .i64 0, .int .i64 0, .int .i64 0, .int .i64 0] 60)
  have HC := Lib.hid (hpopR_any (h.below hal) hn h10)
  have HA := Lib.hid (HM.of (b := b) (v := v) hal)
  have kr : Cel (W.alloc (.cells #[.int .i64 0, .int .i64 0, .int .i64 0, .int .i64 0] 60)) W.heap.size 60 [.int .i64 0, .int .i64 0, .int .i64 0, .int .i64 0] := (blk1 W _).2
  have HR := Lib.hid kr
  have hb : W.heap.size ≠ b := by have := h.cel.lt; omega
  have hv : some W.heap.size ≠ v.ownBlock := fun e => by
    rcases h.row.2 with ⟨e2, _⟩ | ⟨p, cap, cur, e2, _, e3, _⟩
    · rw [e2] at e; cases e
    · rw [e2] at e; have e4 : W.heap.size = p := Option.some.inj e; have := (Array.getElem?_eq_some_iff.1 e3).1; omega
  have HB := Lib.hid (And.intro hb hv)
  clear h hn hal kr hb hv
  go_enter Try.func25, Try.ntmps25
  go_wp2_with fail
  refine HC.out.mono ?_
  rintro e1 W1 ⟨rfl, v1, h1, m1⟩
  have kr : Cel W1 W.heap.size 60 [.int .i64 0, .int .i64 0, .int .i64 0, .int .i64 0] := (m1.block _ (by simp) HB.out.1 HB.out.2).trans HR.out
  have r0 := kr.cell (i := 0) rfl
  have r1 := kr.cell (i := 1) rfl
  have r2 := kr.cell (i := 2) rfl
  have r3 := kr.cell (i := 3) rfl
  have fr := fun i => kr.free (i := i)
  have hv1 : some W.heap.size ≠ v1.ownBlock := fun e => by
    rcases m1.own with e2 | ⟨k, e2, e3⟩
    · exact HB.out.2 (e.trans e2)
    · rw [e2] at e; have := Option.some.inj e; simp at e3; omega
  have hz := first_end (r := W.heap.size) h1 (HA.out.trans m1) (put4_grown W1 W.heap.size 0 (g l 0)) rfl HB.out.1 hv1
  have hq : Cel (put4 W1 W.heap.size 0 (g l 0)) W.heap.size _ _ := (((kr.set (i := 0) (v := .int .i64 (g l 0).a)).set (i := 1) (v := .int .i64 (g l 0).u)).set (i := 2) (v := .int .i64 (g l 0).i)).set (i := 3) (v := .int .i64 (g l 0).n)
  have HZ := Lib.hid (And.intro hz hq)
  clear h1 m1 HC HA kr HR hz hq hv1 HB
  unfold tkV
  go_wp2_with fail
  have z0 := HZ.out.2.cell (i := 0) rfl
  have z1 := HZ.out.2.cell (i := 1) rfl
  have z2 := HZ.out.2.cell (i := 2) rfl
  have z3 := HZ.out.2.cell (i := 3) rfl
  change bodyPost _ _ _ _ _ (put4 W1 W.heap.size 0 (g l 0))
  generalize put4 W1 W.heap.size 0 (g l 0) = X at HZ z0 z1 z2 z3 ⊢
  exact bodyPost_ret (v := .agg #[.int .i64 (g l 0).a, .int .i64 (g l 0).u, .int .i64 (g l 0).i, .int .i64 (g l 0).n]) (by simp [results, Try.results25, go_sem, z0, z1, z2, z3]) rfl ⟨rfl, _, HZ.out.1⟩

end

end Du
end Go.Proofs.Ytpjoiepdcilcnaa
