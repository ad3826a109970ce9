/- The landed table of leases: one is deleted; End, Keep; no condition but the range. -/
import Derived.Test.YtlhcaankfhdakaaLlC4
namespace Go.Proofs.Ytlhcaankfhdakaa
namespace Ll
open Go.RowKit Bk Ls

attribute [local go_sem ↓] Go.wp_at_zero Go.wp_at_succ
attribute [local go_sem] floatUpon pick

/-- an append whose run is known -/
theorem wpList_append_eq {P : Program} {w w' : World} {ops : Array Oper} {rest : List Oper} {o : Oper} {a : Act} {Q : Exit → Act → World → Prop} (hgd : o.guard = none) (s x : Operand) (t : TypeId)
    (ho : o.op = .call { callee := .builtin .append, args := #[s, x], argTypes := #[t, t] }) (u y v' : Value) (hs : a.eval s = u) (hx : a.eval x = y) (hr : (Builtin.append_ #[t, t] o.type #[u, y]).run P w = .ok v' w')
    (h : wpList P ops Q rest (a.put o.dst v') w') : wpList P ops Q (o :: rest) a w := by
  refine wpList_plain hgd fun K hK => ?_
  unfold Oper.wp execOp
  simp only [ho, resolve, invoke, builtin, Sem.run_bind, Sem.run_pure, Result.andThen_ok, List.map_toArray, List.map_cons, List.map_nil, hs, hx, hr]
  exact hK _ _ h

set_option maxRecDepth 20000 in
set_option maxHeartbeats 8000000 in
theorem ldel_any (W : World) (b cap n m i : Nat) (cs : List Value) (cur : Array Value) (hg : W.heap[b]? = some (.cells cur 58 (0, 0))) (hsz : cur.size = cap * 3) (hmn : m = n + 1) (him : i < m) (hcap : m ≤ cap) (hmx : cap ≤ maxLen) (htk : cur.toList.take (m * 3) = cs) (h1 : ∀ u ∈ cs, u.oneCell' = true) :
    Calls Try.prog 31 #[.slice (some ⟨b, 0, none⟩) m cap, .int .i64 (i : Int), .int .i64 ((i : Int) + 1)] W fun e w' => e = .returned (.slice (some ⟨b, 0, none⟩) n cap) ∧ w'.ownsRow 0 58 3 (.slice (some ⟨b, 0, none⟩) n cap) n (cs.take (i * 3) ++ cs.drop ((i + 1) * 3)) ∧ W.grownBy w' (some b) := by
  obtain ⟨i0, z0, hi, hz0, hz2, hz1, hz3⟩ := info_le
  have hmx2 : cap ≤ 9223372036854775807 := by unfold maxLen at hmx; omega
  have hsize : ∀ V : World, (sizeOf (Try.prog.elem 49)).run Try.prog V = .ok 3 V := fun V => by kernel_rfl
  have ha0 : (⟨b, 0, none⟩ : Addr).add 0 = ⟨b, 0, none⟩ := rfl
  have f1 : ∃ v1 : Value, ∀ V : World, (Instr.slice 49 (.slice (some ⟨b, 0, none⟩) m cap) (some (.int .i64 (i : Int))) (some (.int .i64 ((i : Int) + 1))) (some (.int .i64 (m : Int)))).run Try.prog V = .ok v1 V := ⟨_, fun V => by
    rw [run_slice_lhm (P := Try.prog) V 49 (some ⟨b, 0, none⟩) m cap Try.underlying49 .i64 .i64 .i64 (i : Int) ((i : Int) + 1) (m : Int) (by omega) (by omega) (by omega) (by omega), hsize]; rfl⟩
  obtain ⟨v1, f1⟩ := f1
  have f2 : ∀ V : World, (Instr.slice 49 (.slice (some ⟨b, 0, none⟩) m cap) none (some (.int .i64 (i : Int))) none).run Try.prog V = .ok (.slice (some ⟨b, 0, none⟩) i cap) V := fun V => by
    rw [run_slice_h (P := Try.prog) V 49 (some ⟨b, 0, none⟩) m cap Try.underlying49 .i64 (i : Int) (by omega) (by omega), hsize]
    simp [sliced, ha0]
  have f3 : ∃ o3, (cap = i + 1 ∨ o3 = (i + 1) * 3) ∧ ∀ V : World, (Instr.slice 49 (.slice (some ⟨b, 0, none⟩) m cap) (some (.int .i64 ((i : Int) + 1))) none none).run Try.prog V = .ok (.slice (some ⟨b, o3, none⟩) (n - i) (cap - (i + 1))) V := by
    refine ⟨if cap = i + 1 then 0 else (i + 1) * 3, ?_, fun V => ?_⟩
    · by_cases h : cap = i + 1
      · exact .inl h
      · exact .inr (by rw [if_neg h])
    · rw [run_slice_l (P := Try.prog) V 49 (some ⟨b, 0, none⟩) m cap Try.underlying49 .i64 ((i : Int) + 1) (by omega) (by omega), hsize]
      have e1 : ((i : Int) + 1).toNat = i + 1 := by omega
      have e2 : m - (i + 1) = n - i := by omega
      by_cases h : cap = i + 1
      · simp [sliced, e1, e2, h]
      · have ea : (⟨b, 0, none⟩ : Addr).add ((i + 1) * 3) = ⟨b, (i + 1) * 3, none⟩ := by unfold Addr.add; split <;> simp_all
        simp [sliced, e1, e2, h, ea]
  obtain ⟨o3, ho3, f3⟩ := f3
  have f4 : ∀ V : World, (Instr.slice 49 (.slice (some ⟨b, 0, none⟩) n cap) (some (.int .i64 (n : Int))) (some (.int .i64 (m : Int))) none).run Try.prog V = .ok (.slice (some ⟨b, n * 3, none⟩) 1 (cap - n)) V := fun V => by
    rw [run_slice_lh (P := Try.prog) V 49 (some ⟨b, 0, none⟩) n cap Try.underlying49 .i64 .i64 (n : Int) (m : Int) (by omega) (by omega) (by omega), hsize]
    have h1 : ¬ cap = n := by omega
    have h2 : m - n = 1 := by omega
    have ea : (⟨b, 0, none⟩ : Addr).add (n * 3) = ⟨b, n * 3, none⟩ := by unfold Addr.add; split <;> simp_all
    simp [sliced, h1, h2, ea]
  have hlt := (Array.getElem?_eq_some_iff.1 hg).1
  have hcl : cs.length = m * 3 := by rw [← htk, List.length_take, Array.length_toList, hsz]; omega
  have hl2 : (cs.take (i * 3) ++ cs.drop ((i + 1) * 3)).length = n * 3 := by rw [List.length_append, List.length_take, List.length_drop, hcl]; omega
  obtain ⟨R, hR⟩ : ∃ R, cs.take (i * 3) ++ cs.drop ((i + 1) * 3) = R := ⟨_, rfl⟩
  have hap : ∀ V : World, V.heap[b]? = some (.cells cur 58 (0, 0)) → ∀ ty, (Builtin.append_ #[49, 49] ty #[.slice (some ⟨b, 0, none⟩) i cap, .slice (some ⟨b, o3, none⟩) (n - i) (cap - (i + 1))]).run Try.prog V = .ok (.slice (some ⟨b, 0, none⟩) n cap) (V.setRow b (R ++ cur.toList.drop (n * 3)).toArray) := fun V hV ty => by
    have hr := run_append_room (P := Try.prog) V 49 ty 58 i0 Try.underlying49 hi b i cap cur hV ⟨b, o3, none⟩ (n - i) (cap - (i + 1)) (cs.drop ((i + 1) * 3)) (by rw [List.length_drop, hcl, hz1]; omega) (fun j u hu => by
      have hj := (List.getElem?_eq_some_iff.1 hu).1
      rw [List.length_drop, hcl] at hj
      rw [List.getElem?_drop, ← htk, List.getElem?_take_of_lt (by omega)] at hu
      rcases ho3 with h | h
      · omega
      · subst h
        rw [Addr.add_lit]
        exact blk_cell hV (by rw [← Array.getElem?_toList]; exact hu)) (fun u hu => h1 u (List.mem_of_mem_drop hu)) (by omega) (by rw [List.length_drop, hcl, hsz, hz1]; omega)
    have e : i + (n - i) = n := by omega
    have e2 : i * 3 + (cs.drop ((i + 1) * 3)).length = n * 3 := by rw [List.length_drop, hcl]; omega
    have e3 : cur.toList.take (i * 3) = cs.take (i * 3) := by rw [← htk, List.take_take, Nat.min_eq_left (by omega)]
    rw [hr, hz1, e, e2, e3, hR]
  rw [hR] at hl2 ⊢
  have HAp := Lib.hid hap
  have HFin : Hid (∀ V : World, V.heap[b]? = some (.cells cur 58 (0, 0)) → ∀ ty, (Builtin.clear_ #[49] ty #[.slice (some ⟨b, n * 3, none⟩) 1 (cap - n)]).run Try.prog (V.setRow b (R ++ cur.toList.drop (n * 3)).toArray) = .ok (.tuple #[]) (V.setRow b (R ++ zerosL 1 ++ cur.toList.drop (m * 3)).toArray)) := Lib.hid (fun V hV ty => by
    rw [run_clear_l (V.setRow b (R ++ cur.toList.drop (n * 3)).toArray) ty b (n * 3) 1 (cap - n) _ (setRow_heap V b cur _ _ _ hV) (by simp only [List.size_toArray, List.length_append, hl2, List.length_drop, Array.length_toList, hsz]; omega) (by decide), setRow_setRow]
    congr 3
    have e1 : (R ++ cur.toList.drop (n * 3)).take (n * 3) = R := by rw [List.take_append_of_le_length (by omega), List.take_of_length_le (by omega)]
    have e2 : (R ++ cur.toList.drop (n * 3)).drop (n * 3 + 1 * 3) = cur.toList.drop (m * 3) := by
      rw [List.drop_append, List.drop_of_length_le (by omega), List.nil_append, List.drop_drop, hl2]
      congr 1; omega
    rw [e1, e2])
  have HRow : Hid (∀ V : World, V.heap[b]? = some (.cells cur 58 (0, 0)) → (V.setRow b (R ++ zerosL 1 ++ cur.toList.drop (m * 3)).toArray).ownsRow 0 58 3 (.slice (some ⟨b, 0, none⟩) n cap) n R) := Lib.hid (fun V hV => by
    refine ⟨hl2, .inr ⟨b, cap, _, rfl, Nat.zero_le _, setRow_heap V b cur _ _ _ hV, by omega, hmx, ?_, ?_⟩⟩
    · simp only [List.size_toArray, List.length_append, zerosL, List.length_replicate, hl2, List.length_drop, Array.length_toList, hsz]; omega
    · simp only [List.append_assoc]
      rw [List.take_append_of_le_length (by omega), List.take_of_length_le (by omega)])
  have HB := Lib.hid (fun V (hb : Below W.heap.size W V) => (hb.block b hlt).trans hg)
  have pi : ¬ (i : Int) = (i : Int) + 1 := by omega
  have pmx : (m : Int) ≤ 9223372036854775807 := by omega
  have pnx : (n : Int) ≤ 9223372036854775807 := by omega
  have HO := Lib.hid (fun V (hb : Below W.heap.size W V) => show W.grownBy (V.setRow b (R ++ zerosL 1 ++ cur.toList.drop (m * 3)).toArray) (some b) from gb_trans (gb_below hb) (gb_row V b _))
  clear hg hsz hmn him hcap hmx htk h1 hmx2 hsize hlt hcl hap hi hz0 hz1 hz2 hz3 ha0 hl2 hR ho3
  go_enter Try.func31, Try.ntmps31
  go_upto_region 5 with fail
  refine wp_region_said 6 [20, 21, 22, 23, 24, 25]
    [.is (.slice (some ⟨b, 0, none⟩) m cap), .is (.int .i64 (i : Int)), .is (.slice (some ⟨b, 0, none⟩) i cap), .is (.slice (some ⟨b, 0, none⟩) m cap), .is (.int .i64 ((i : Int) + 1)), .is (.slice (some ⟨b, o3, none⟩) (n - i) (cap - (i + 1)))]
    (fun V => Below W.heap.size W V) (by kernel_rfl) (by kernel_rfl) (by kernel_rfl) (by kernel_rfl) (by kernel_rfl) (fun V V' h hb => h.trans (hb.mono h.size)) (Below.refl _ _) ?steps ?last
  case steps =>
    simp only [List.take_succ_cons, List.take_zero]
    refine ⟨?_, ?_, ?_, ?_, ?_, ?_, trivial⟩
    all_goals
      intro vs V ρ hρ hc hf hg hI hH hd R' hR
      have HR := Lib.hid hR
      simp [depsOf, Region.binds, sayAt, Say.holds] at hd
      clear hR hI
      go_simp
      exact HR.out _ _ (by simp [sayAt, Say.holds]) (Below.refl _ _) (by simp [sayAt, Say.isBlk])
  case last =>
    intro vs V hI hb hg hd
    have g2 := hg 2 (by omega)
    have g5 := hg 5 (by omega)
    simp only [sayAt, Say.holds, List.getD_cons_succ, List.getD_cons_zero] at g2 g5
    simp only [List.take_succ_cons, List.take_zero, List.drop_succ_cons, List.drop_zero, putAll, Act.put, List.setIfInBounds_toArray, List.set_cons_succ, List.set_cons_zero, Nat.zero_add, Nat.reduceAdd]
    rw [g2, g5]
    have hV := HB.out _ hI
    have a1 := HAp.out V hV
    have a2 := HFin.out V hV
    have HR := Lib.hid (HRow.out V hV)
    have HOV := Lib.hid (HO.out V hI)
    clear g2 g5 hg hd hI hb hV HAp HFin HRow HB HO f1 f2 f3
    refine wpList_append_eq rfl _ _ 49 rfl _ _ _ rfl rfl (a1 _) ?_
    clear a1
    go_upto_region 6 with fail
    go_wp2_with fail
    go_ret
    have hr2 := HR.out
    have ho2 := HOV.out
    simp only [List.append_assoc] at hr2 ho2
    exact ⟨rfl, hr2, ho2⟩

section
variable {W W' W1 : World} {base : Nat} {v : Value} {l : List Le}

theorem LM.trans {A B C : World} {r : Nat} {u v x : Value} (h : LM A B r u v) (k : LM B C r v x) : LM A C r u x :=
  ⟨k.os.trans h.os, k.tape.trans h.tape, k.output.trans h.output, Nat.le_trans h.size k.size,
    fun i hi hb hn => (k.block i (Nat.lt_of_lt_of_le hi h.size) hb (fun e => (h.own i e).elim hn (fun q => by omega))).trans (h.block i hi hb hn),
    fun q hq => (k.own q hq).elim (fun e => h.own q e) (fun s => .inr (Nat.le_trans h.size s))⟩

/-- the row was turned in its place, and is put into the table's block -/
theorem LQ.put2 {r : Nat} {D : Tb} {v' : Value} {L' : List Le} (h : LQ W base r v D) (hg : W.grownBy W1 v.ownBlock) (hr : DRow W1 base v' L') (he : v'.ownBlock = v.ownBlock) : LQ (W1.setCell ⟨r, 2, none⟩ v') base r v' ⟨D.long, D.many, L'⟩ ∧ LM W (W1.setCell ⟨r, 2, none⟩ v') r v v' := by
  have hf : v'.ownBlock ≠ some r := by rw [he]; exact h.far
  have g := grow_put W1 r 2 v'
  have hc1 : Cel W1 r 51 [.int .i64 D.long, .int .i64 D.many, v] := (hg.block r h.cel.lt (fun e => h.far e.symm)).trans h.cel
  refine ⟨⟨hc1.set (i := 2) (v := v'), hr.same (fun p hp => g.block p (hr.lt hp).1 (fun e => hf (by rw [hp, e]))), hf, h.rb, Nat.le_trans h.bs (Nat.le_trans hg.size g.size)⟩,
    g.os.trans hg.os, g.tape.trans hg.tape, g.output.trans hg.output, Nat.le_trans hg.size g.size, fun k hk hn hm => (g.block k (Nat.lt_of_lt_of_le hk hg.size) (fun e => hn (Option.some.inj e))).trans (hg.block k hk (fun e => hm e.symm)), fun q hq => .inl (by rw [← he]; exact hq)⟩

/-- how many were given out is put into the table's block -/
theorem LQ.count {r : Nat} {D : Tb} (h : LQ W base r v D) (m : Int) : LQ (W.setCell ⟨r, 1, none⟩ (.int .i64 m)) base r v ⟨D.long, m, D.L⟩ ∧ LM W (W.setCell ⟨r, 1, none⟩ (.int .i64 m)) r v v := by
  have g := grow_put W r 1 (.int .i64 m)
  exact ⟨⟨h.cel.set (i := 1) (v := .int .i64 m), h.row.same (fun p hp => g.block p (h.row.lt hp).1 (fun e => h.far (by rw [hp, e]))), h.far, h.rb, Nat.le_trans h.bs g.size⟩,
    g.os, g.tape, g.output, g.size, fun k hk hn _ => g.block k hk (fun e => hn (Option.some.inj e)), fun q hq => .inl hq⟩

theorem le_one' {l : List Le} : ∀ u ∈ l.flatMap leC, u.oneCell' = true := le_one

theorem fl_take {l : List Le} {n : Nat} (h : n ≤ l.length) : (l.flatMap leC).take (n * 3) = (l.take n).flatMap leC := by
  have e : l.flatMap leC = (l.take n).flatMap leC ++ (l.drop n).flatMap leC := by rw [← List.flatMap_append, List.take_append_drop]
  have hn : ((l.take n).flatMap leC).length = n * 3 := by rw [fl_len, List.length_take, Nat.min_eq_left h]
  rw [e, ← hn, List.take_left]

theorem fl_drop {l : List Le} {n : Nat} (h : n ≤ l.length) : (l.flatMap leC).drop (n * 3) = (l.drop n).flatMap leC := by
  have e : l.flatMap leC = (l.take n).flatMap leC ++ (l.drop n).flatMap leC := by rw [← List.flatMap_append, List.take_append_drop]
  have hn : ((l.take n).flatMap leC).length = n * 3 := by rw [fl_len, List.length_take, Nat.min_eq_left h]
  rw [e, ← hn, List.drop_left]

/-- one lease is deleted -/
theorem del_row {L : List Le} {i : Nat} (h : DRow W base v L) (hi : i < L.length) (W1 : World) (hb : Below W.heap.size W W1) : Calls Try.prog 31 #[v, .int .i64 (i : Int), .int .i64 ((i : Int) + 1)] W1 fun e w' => ∃ v', e = .returned v' ∧ DRow w' base v' (L.eraseIdx i) ∧ v'.ownBlock = v.ownBlock ∧ W1.grownBy w' v.ownBlock := by
  have h' := st_keep h hb
  obtain ⟨p, cap, rest, rfl, hbp, hc, h1, h2, h3⟩ := DRow.blk h' (by omega)
  have hsz : ((L.flatMap leC ++ rest).toArray).size = cap * 3 := by rw [List.size_toArray, List.length_append, fl_len]; exact h3
  obtain ⟨n, hn⟩ : ∃ n, L.length = n + 1 := ⟨L.length - 1, by omega⟩
  refine (ldel_any W1 p cap n L.length i (L.flatMap leC) _ hc hsz hn hi h1 h2 (by rw [List.toList_toArray, List.take_append_of_le_length (by rw [fl_len]; omega), List.take_of_length_le (by rw [fl_len]; omega)]) le_one).mono ?_
  rintro e w' ⟨rfl, hr, hg⟩
  refine ⟨_, rfl, ?_, rfl, hg⟩
  have e1 : (L.eraseIdx i).length = n := by rw [List.length_eraseIdx_of_lt hi]; omega
  rw [fl_take (by omega), fl_drop (by omega), ← List.flatMap_append, ← List.eraseIdx_eq_take_drop_succ] at hr
  unfold DRow
  rw [e1]
  refine ⟨hr.1, ?_⟩
  rcases hr.2 with hx | ⟨q, cap', cur, k1, k2, k3⟩
  · exact .inl hx
  · refine .inr ⟨q, cap', cur, k1, ?_, k3⟩
    simp only [Value.slice.injEq, Option.some.injEq, Addr.mk.injEq] at k1
    rw [← k1.1.1]
    exact hbp

set_option maxRecDepth 20000 in
set_option maxHeartbeats 4000000 in
theorem lend_any {r : Nat} {D : Tb} (h : LQ W base r v D) (ho : Ok D) (n : Int) : Calls Try.prog 14 #[.pointer (some ⟨r, 0, none⟩), .int .i64 n] W fun e W' => e = .returned (.int .i64 (endB D n).2) ∧ LP W base r v (endB D n).1 W' := by
  have HQ := Lib.hid h
  have HP := Lib.hid (place_any h ho n)
  have HL := Lib.hid ho.len
  by_cases hl : nu D.L n < D.L.length
  · have HK := Lib.hid (show endB D n = (⟨D.long, D.many, D.L.eraseIdx (nu D.L n)⟩, 0) from if_pos hl)
    have hl10 := ho.len
    obtain ⟨A, c, hv⟩ := h.row.form
    have HV := Lib.hid hv
    have HD := Lib.hid hl
    clear h ho hv
    go_enter Try.func14, Try.ntmps14
    go_wp2_with fail
    refine HP.out.mono ?_
    rintro e w2 ⟨i, _, rfl, hi, hb⟩
    obtain rfl := hi hl
    rw [decide_eq_true hl]
    have hq2 := HQ.out.below hb
    have k0 := hq2.cel.cell (i := 2) rfl
    rw [HV.out] at k0
    have HE := Lib.hid (del_row HQ.out.row hl w2 hb)
    rw [HV.out] at HE
    have HQ2 := Lib.hid hq2
    have HB2 := Lib.hid hb
    have p2 : ((nu D.L n : Nat) : Int) ≤ 1024 := by omega
    generalize nu D.L n = j at HE HK p2 ⊢
    clear hi hb hq2 hl hl10 HD HP
    go_wp2_with fail
    refine HE.out.mono ?_
    rintro e w3 ⟨v', rfl, hr, he, hg⟩
    rw [← HV.out] at he hg
    have hp := HQ2.out.put2 hg hr he
    have hpp : LP W base r v ⟨D.long, D.many, D.L.eraseIdx j⟩ (w3.setCell ⟨r, 2, none⟩ v') := ⟨v', hp.1, (LM.of HB2.out).trans hp.2⟩
    have hc3 : Cel w3 r 51 [.int .i64 D.long, .int .i64 D.many, v] := (hg.block r HQ2.out.cel.lt (fun e => HQ2.out.far e.symm)).trans HQ2.out.cel
    have s0 := hc3.cell (i := 2) rfl
    have sf := hc3.free (i := 2)
    rw [HV.out] at s0
    obtain ⟨A3, c3, hv3⟩ := hr.form
    rw [hv3] at hpp ⊢
    have HZ := Lib.hid hpp
    clear hr he hg hp hpp hc3 HE
    go_wp2_with fail
    go_ret
    rw [HK.out]
    exact ⟨rfl, HZ.out⟩
  · have HK := Lib.hid (show endB D n = (D, 5) from if_neg hl)
    clear h ho
    go_enter Try.func14, Try.ntmps14
    go_wp2_with fail
    refine HP.out.mono ?_
    rintro e w2 ⟨i, _, rfl, hi, hb⟩
    rw [decide_eq_false hl]
    have HZ := Lib.hid (show LP W base r v D w2 from ⟨v, HQ.out.below hb, LM.of hb⟩)
    clear hi hb hl HP
    go_wp2_with fail
    go_ret
    rw [HK.out]
    exact ⟨rfl, HZ.out⟩

end

end Ll
end Go.Proofs.Ytlhcaankfhdakaa
