/- The landed net: slices.Delete of one letter; contract; no condition but the sizes. -/
import Derived.Test.YtkpcfakfkcghdaaNtCopy
namespace Go.Proofs.Ytkpcfakfkcghdaa
namespace Nt
open Go.RowKit Bk Lt
set_option linter.unusedVariables false

attribute [local go_sem ↓] Go.wp_at_zero Go.wp_at_succ
attribute [local go_sem] floatUpon pick

theorem Try.zeroLetN : ∀ W : World, (zeroValue 35).run Try.prog W = .ok (.agg zeroL.toArray) W := fun W => by kernel_rfl

/-- 'clear(s)' where s has one element of nine cells -/
theorem run_clear_one (W : World) (ty : TypeId) (b o c : Nat) (cur : Array Value) (hg : W.heap[b]? = some (.cells cur 35 (0, 0))) (ho : o + 9 ≤ cur.size) :
    (Builtin.clear_ #[39] ty #[.slice (some ⟨b, o, none⟩) 1 c]).run Try.prog W = .ok (.tuple #[]) (W.setRow b (cur.toList.take o ++ zeroL ++ cur.toList.drop (o + 9)).toArray) := by
  have hz := Try.zeroLetN
  have hzc : (Builtin.zeroCells (Value.agg zeroL.toArray).cells 1).toList = zeroL := by simp [Builtin.zeroCells, Value.cells]; rfl
  have hst := run_storeCells_at Try.prog b o 35 zeroL 0 cur W hg (by simpa using ho) (by intro u hu; simp at hu; rcases hu with rfl | rfl | rfl <;> rfl)
  simp only [Nat.add_zero] at hst
  simp [Builtin.clear_, run_underlying Try.underlying39, hzc, hst]

/-- an append whose run is known -/
theorem wpList_append_eq {P : Program} {w w' : World} {ops : Array Oper} {rest : List Oper} {o : Oper} {a : Act} {Q : Exit → Act → World → Prop} (hgd : o.guard = none) (s x : Operand) (t : TypeId)
    (ho : o.op = .call { callee := .builtin .append, args := #[s, x], argTypes := #[t, t] }) (u y v' : Value) (hs : a.eval s = u) (hx : a.eval x = y) (hr : (Builtin.append_ #[t, t] o.type #[u, y]).run P w = .ok v' w')
    (h : wpList P ops Q rest (a.put o.dst v') w') : wpList P ops Q (o :: rest) a w := by
  refine wpList_plain hgd fun K hK => ?_
  unfold Oper.wp execOp
  simp only [ho, resolve, invoke, builtin, Sem.run_bind, Sem.run_pure, Result.andThen_ok, List.map_toArray, List.map_cons, List.map_nil, hs, hx, hr]
  exact hK _ _ h

set_option maxRecDepth 20000 in
set_option maxHeartbeats 8000000 in
theorem ldel_any (W : World) (b cap n m i : Nat) (cs : List Value) (cur : Array Value) (hg : W.heap[b]? = some (.cells cur 35 (0, 0))) (hsz : cur.size = cap * 9) (hmn : m = n + 1) (him : i < m) (hcap : m ≤ cap) (hmx : cap ≤ maxLen) (htk : cur.toList.take (m * 9) = cs) (h1 : ∀ u ∈ cs, u.oneCell' = true) :
    Calls Try.prog 50 #[.slice (some ⟨b, 0, none⟩) m cap, .int .i64 (i : Int), .int .i64 ((i : Int) + 1)] W fun e w' => e = .returned (.slice (some ⟨b, 0, none⟩) n cap) ∧ w'.ownsRow 0 35 9 (.slice (some ⟨b, 0, none⟩) n cap) n (cs.take (i * 9) ++ cs.drop ((i + 1) * 9)) ∧ Far (fun k => k = b) W w' := by
  obtain ⟨i0, z0, hi, hz0, hz2, hz1, hz3⟩ := info_let
  have hmx2 : cap ≤ 9223372036854775807 := by unfold maxLen at hmx; omega
  have hsize : ∀ V : World, (sizeOf (Try.prog.elem 39)).run Try.prog V = .ok 9 V := fun V => by kernel_rfl
  have ha0 : (⟨b, 0, none⟩ : Addr).add 0 = ⟨b, 0, none⟩ := rfl
  have f1 : ∃ v1 : Value, ∀ V : World, (Instr.slice 39 (.slice (some ⟨b, 0, none⟩) m cap) (some (.int .i64 (i : Int))) (some (.int .i64 ((i : Int) + 1))) (some (.int .i64 (m : Int)))).run Try.prog V = .ok v1 V := ⟨_, fun V => by
    rw [run_slice_lhm (P := Try.prog) V 39 (some ⟨b, 0, none⟩) m cap Try.underlying39 .i64 .i64 .i64 (i : Int) ((i : Int) + 1) (m : Int) (by omega) (by omega) (by omega) (by omega), hsize]; rfl⟩
  obtain ⟨v1, f1⟩ := f1
  have f2 : ∀ V : World, (Instr.slice 39 (.slice (some ⟨b, 0, none⟩) m cap) none (some (.int .i64 (i : Int))) none).run Try.prog V = .ok (.slice (some ⟨b, 0, none⟩) i cap) V := fun V => by
    rw [run_slice_h (P := Try.prog) V 39 (some ⟨b, 0, none⟩) m cap Try.underlying39 .i64 (i : Int) (by omega) (by omega), hsize]
    simp [sliced, ha0]
  have f3 : ∃ o3, (cap = i + 1 ∨ o3 = (i + 1) * 9) ∧ ∀ V : World, (Instr.slice 39 (.slice (some ⟨b, 0, none⟩) m cap) (some (.int .i64 ((i : Int) + 1))) none none).run Try.prog V = .ok (.slice (some ⟨b, o3, none⟩) (n - i) (cap - (i + 1))) V := by
    refine ⟨if cap = i + 1 then 0 else (i + 1) * 9, ?_, fun V => ?_⟩
    · by_cases h : cap = i + 1
      · exact .inl h
      · exact .inr (by rw [if_neg h])
    · rw [run_slice_l (P := Try.prog) V 39 (some ⟨b, 0, none⟩) m cap Try.underlying39 .i64 ((i : Int) + 1) (by omega) (by omega), hsize]
      have e1 : ((i : Int) + 1).toNat = i + 1 := by omega
      have e2 : m - (i + 1) = n - i := by omega
      by_cases h : cap = i + 1
      · simp [sliced, e1, e2, h]
      · have ea : (⟨b, 0, none⟩ : Addr).add ((i + 1) * 9) = ⟨b, (i + 1) * 9, none⟩ := by unfold Addr.add; split <;> simp_all
        simp [sliced, e1, e2, h, ea]
  obtain ⟨o3, ho3, f3⟩ := f3
  have f4 : ∀ V : World, (Instr.slice 39 (.slice (some ⟨b, 0, none⟩) n cap) (some (.int .i64 (n : Int))) (some (.int .i64 (m : Int))) none).run Try.prog V = .ok (.slice (some ⟨b, n * 9, none⟩) 1 (cap - n)) V := fun V => by
    rw [run_slice_lh (P := Try.prog) V 39 (some ⟨b, 0, none⟩) n cap Try.underlying39 .i64 .i64 (n : Int) (m : Int) (by omega) (by omega) (by omega), hsize]
    have h1 : ¬ cap = n := by omega
    have h2 : m - n = 1 := by omega
    have ea : (⟨b, 0, none⟩ : Addr).add (n * 9) = ⟨b, n * 9, none⟩ := by unfold Addr.add; split <;> simp_all
    simp [sliced, h1, h2, ea]
  have hlt := (Array.getElem?_eq_some_iff.1 hg).1
  have hcl : cs.length = m * 9 := by rw [← htk, List.length_take, Array.length_toList, hsz]; omega
  have hl2 : (cs.take (i * 9) ++ cs.drop ((i + 1) * 9)).length = n * 9 := by rw [List.length_append, List.length_take, List.length_drop, hcl]; omega
  obtain ⟨R, hR⟩ : ∃ R, cs.take (i * 9) ++ cs.drop ((i + 1) * 9) = R := ⟨_, rfl⟩
  have hap : ∀ V : World, V.heap[b]? = some (.cells cur 35 (0, 0)) → ∀ ty, (Builtin.append_ #[39, 39] ty #[.slice (some ⟨b, 0, none⟩) i cap, .slice (some ⟨b, o3, none⟩) (n - i) (cap - (i + 1))]).run Try.prog V = .ok (.slice (some ⟨b, 0, none⟩) n cap) (V.setRow b (R ++ cur.toList.drop (n * 9)).toArray) := fun V hV ty => by
    have hr := run_append_room (P := Try.prog) V 39 ty 35 i0 Try.underlying39 hi b i cap cur hV ⟨b, o3, none⟩ (n - i) (cap - (i + 1)) (cs.drop ((i + 1) * 9)) (by rw [List.length_drop, hcl, hz1]; omega) (fun j u hu => by
      have hj := (List.getElem?_eq_some_iff.1 hu).1
      rw [List.length_drop, hcl] at hj
      rw [List.getElem?_drop, ← htk, List.getElem?_take_of_lt (by omega)] at hu
      rcases ho3 with h | h
      · omega
      · subst h
        rw [Addr.add_lit]
        exact blk_cell hV (by rw [← Array.getElem?_toList]; exact hu)) (fun u hu => h1 u (List.mem_of_mem_drop hu)) (by omega) (by rw [List.length_drop, hcl, hsz, hz1]; omega)
    have e : i + (n - i) = n := by omega
    have e2 : i * 9 + (cs.drop ((i + 1) * 9)).length = n * 9 := by rw [List.length_drop, hcl]; omega
    have e3 : cur.toList.take (i * 9) = cs.take (i * 9) := by rw [← htk, List.take_take, Nat.min_eq_left (by omega)]
    rw [hr, hz1, e, e2, e3, hR]
  rw [hR] at hl2 ⊢
  have HAp := Lib.hid hap
  have HFin : Hid (∀ V : World, V.heap[b]? = some (.cells cur 35 (0, 0)) → ∀ ty, (Builtin.clear_ #[39] ty #[.slice (some ⟨b, n * 9, none⟩) 1 (cap - n)]).run Try.prog (V.setRow b (R ++ cur.toList.drop (n * 9)).toArray) = .ok (.tuple #[]) (V.setRow b (R ++ zeroL ++ cur.toList.drop (m * 9)).toArray)) := Lib.hid (fun V hV ty => by
    rw [run_clear_one (V.setRow b (R ++ cur.toList.drop (n * 9)).toArray) ty b (n * 9) (cap - n) _ (setRow_heap V b cur _ _ _ hV) (by simp only [List.size_toArray, List.length_append, hl2, List.length_drop, Array.length_toList, hsz]; omega), setRow_setRow]
    congr 3
    have e1 : (R ++ cur.toList.drop (n * 9)).take (n * 9) = R := by rw [List.take_append_of_le_length (by omega), List.take_of_length_le (by omega)]
    have e2 : (R ++ cur.toList.drop (n * 9)).drop (n * 9 + 9) = cur.toList.drop (m * 9) := by
      rw [List.drop_append, List.drop_of_length_le (by omega), List.nil_append, List.drop_drop, hl2]
      congr 1; omega
    rw [e1, e2])
  have HRow : Hid (∀ V : World, V.heap[b]? = some (.cells cur 35 (0, 0)) → (V.setRow b (R ++ zeroL ++ cur.toList.drop (m * 9)).toArray).ownsRow 0 35 9 (.slice (some ⟨b, 0, none⟩) n cap) n R) := Lib.hid (fun V hV => by
    refine ⟨hl2, .inr ⟨b, cap, _, rfl, Nat.zero_le _, setRow_heap V b cur _ _ _ hV, by omega, hmx, ?_, ?_⟩⟩
    · simp only [List.size_toArray, List.length_append, List.length_cons, List.length_nil, hl2, List.length_drop, Array.length_toList, hsz]; omega
    · simp only [List.append_assoc]
      rw [List.take_append_of_le_length (by omega), List.take_of_length_le (by omega)])
  have HB := Lib.hid (fun V (hb : Below W.heap.size W V) => (hb.block b hlt).trans hg)
  have pi : ¬ (i : Int) = (i : Int) + 1 := by omega
  have pmx : (m : Int) ≤ 9223372036854775807 := by omega
  have pnx : (n : Int) ≤ 9223372036854775807 := by omega
  have HO := Lib.hid (fun V (hb : Below W.heap.size W V) => show Far (fun k => k = b) W (V.setRow b (R ++ zeroL ++ cur.toList.drop (m * 9)).toArray) from ⟨⟨by rw [setRow_size]; exact hb.size, fun k hk hn => (setRow_other V b k _ hn).trans (hb.block k hk)⟩, (st_below hb).trans (st_row _ _ _)⟩)
  clear hg hsz hmn him hcap hmx htk h1 hmx2 hsize hlt hcl hap hi hz0 hz1 hz2 hz3 ha0 hl2 hR ho3
  go_enter Try.func50, Try.ntmps50
  go_upto_region 5 with fail
  refine wp_region_said 6 [20, 21, 22, 23, 24, 25]
    [.is (.slice (some ⟨b, 0, none⟩) m cap), .is (.int .i64 (i : Int)), .is (.slice (some ⟨b, 0, none⟩) i cap), .is (.slice (some ⟨b, 0, none⟩) m cap), .is (.int .i64 ((i : Int) + 1)), .is (.slice (some ⟨b, o3, none⟩) (n - i) (cap - (i + 1)))]
    (fun V => Below W.heap.size W V) (by kernel_rfl) (by kernel_rfl) (by kernel_rfl) (by kernel_rfl) (by kernel_rfl) (fun V V' h hb => h.trans (hb.mono h.size)) (Below.refl _ _) ?steps ?last
  case steps =>
    simp only [List.take_succ_cons, List.take_zero]
    refine ⟨?_, ?_, ?_, ?_, ?_, ?_, trivial⟩
    all_goals
      intro vs V ρ hρ hc hf hg hI hH hd R' hR
      have HR := Lib.hid hR
      simp [depsOf, Region.binds, sayAt, Say.holds] at hd
      clear hR hI
      go_simp
      exact HR.out _ _ (by simp [sayAt, Say.holds]) (Below.refl _ _) (by simp [sayAt, Say.isBlk])
  case last =>
    intro vs V hI hb hg hd
    have g2 := hg 2 (by omega)
    have g5 := hg 5 (by omega)
    simp only [sayAt, Say.holds, List.getD_cons_succ, List.getD_cons_zero] at g2 g5
    simp only [List.take_succ_cons, List.take_zero, List.drop_succ_cons, List.drop_zero, putAll, Act.put, List.setIfInBounds_toArray, List.set_cons_succ, List.set_cons_zero, Nat.zero_add, Nat.reduceAdd]
    rw [g2, g5]
    have hV := HB.out _ hI
    have a1 := HAp.out V hV
    have a2 := HFin.out V hV
    have HR := Lib.hid (HRow.out V hV)
    have HOV := Lib.hid (HO.out V hI)
    clear g2 g5 hg hd hI hb hV HAp HFin HRow HB HO f1 f2 f3
    refine wpList_append_eq rfl _ _ 39 rfl _ _ _ rfl rfl (a1 _) ?_
    clear a1
    go_upto_region 6 with fail
    go_wp2_with fail
    go_ret
    have hr2 := HR.out
    have ho2 := HOV.out
    simp only [List.append_assoc, List.cons_append, List.nil_append] at hr2 ho2
    exact ⟨rfl, hr2, ho2⟩

end Nt
end Go.Proofs.Ytkpcfakfkcghdaa
