/- Parts of the proof, joined: ShL16, ShL17; their conditions stand with each. -/
import Derived.Test.YtiobhbagjokpcaaGreatM33

/- The landed shelf: the oldest of those that are ended is forgotten, by slices.Delete; contract; no condition but the sizes. -/
namespace Go.Proofs.YtiobhbagjokpcaaGreat
namespace Sh
open Go.RowKit Bk Ch Lt Rc Tr

attribute [local go_sem ↓] Go.wp_at_zero Go.wp_at_succ
attribute [local go_sem] floatUpon pick

theorem Tryz.infoEndL : (Tryz.prog.info? 71).map (fun i => (i.zero, i.size, i.bytes)) = some (some (.agg #[.int .i64 0, .int .i64 0]), 2, 16) := by kernel_rfl

theorem Tryz.zeroEndL : ∀ W : World, (zeroValue 71).run Tryz.prog W = .ok (.agg #[.int .i64 0, .int .i64 0]) W := fun W => by kernel_rfl

/-- 'clear(s)' where s has one element of two cells -/
theorem run_clear_two (W : World) (ty : TypeId) (b o c : Nat) (cur : Array Value) (hg : W.heap[b]? = some (.cells cur 71 (0, 0))) (ho : o + 2 ≤ cur.size) :
    (Builtin.clear_ #[61] ty #[.slice (some ⟨b, o, none⟩) 1 c]).run Tryz.prog W = .ok (.tuple #[]) (W.setRow b (cur.toList.take o ++ ([Value.int .i64 0, Value.int .i64 0] : List Value) ++ cur.toList.drop (o + 2)).toArray) := by
  have hzc : (Builtin.zeroCells (Value.agg #[.int .i64 0, .int .i64 0]).cells 1).toList = [.int .i64 0, .int .i64 0] := by simp [Builtin.zeroCells, Value.cells]; rfl
  have hst := run_storeCells_at Tryz.prog b o 71 [.int .i64 0, .int .i64 0] 0 cur W hg (by simpa using ho) (by intro u hu; simp at hu; subst hu; rfl)
  simp only [Nat.add_zero] at hst
  simp [Builtin.clear_, run_underlying Tryz.underlying61, hzc, hst]

/-- an append whose run is known -/
theorem wpList_append_eq {P : Program} {w w' : World} {ops : Array Oper} {rest : List Oper} {o : Oper} {a : Act} {Q : Exit → Act → World → Prop} (hgd : o.guard = none) (s x : Operand) (t : TypeId)
    (ho : o.op = .call { callee := .builtin .append, args := #[s, x], argTypes := #[t, t] }) (u y v' : Value) (hs : a.eval s = u) (hx : a.eval x = y) (hr : (Builtin.append_ #[t, t] o.type #[u, y]).run P w = .ok v' w')
    (h : wpList P ops Q rest (a.put o.dst v') w') : wpList P ops Q (o :: rest) a w := by
  refine wpList_plain hgd fun K hK => ?_
  unfold Oper.wp execOp
  simp only [ho, resolve, invoke, builtin, Sem.run_bind, Sem.run_pure, Result.andThen_ok, List.map_toArray, List.map_cons, List.map_nil, hs, hx, hr]
  exact hK _ _ h

set_option maxRecDepth 20000 in
set_option maxHeartbeats 8000000 in
theorem ldel_any (W : World) (b cap n m : Nat) (cs : List Value) (cur : Array Value) (hg : W.heap[b]? = some (.cells cur 71 (0, 0))) (hsz : cur.size = cap * 2) (hmn : m = n + 1) (hcap : m ≤ cap) (hmx : cap ≤ maxLen) (htk : cur.toList.take (m * 2) = cs) (hn : 1 ≤ n) (h1 : ∀ u ∈ cs, u.oneCell' = true) :
    Calls Tryz.prog 62 #[.slice (some ⟨b, 0, none⟩) m cap, .int .i64 0, .int .i64 1] W fun e w' => e = .returned (.slice (some ⟨b, 0, none⟩) n cap) ∧ w'.ownsRow 0 71 2 (.slice (some ⟨b, 0, none⟩) n cap) n (cs.drop 2) ∧ (∀ k, k < W.heap.size → k ≠ b → w'.heap[k]? = W.heap[k]?) ∧ W.heap.size ≤ w'.heap.size ∧ St W w' := by
  obtain ⟨i0, hi, hz0, hz1, hz2⟩ := info_parts Tryz.infoEndL
  have hmx2 : cap ≤ 9223372036854775807 := by unfold maxLen at hmx; omega
  have hsize : ∀ V : World, (sizeOf (Tryz.prog.elem 61)).run Tryz.prog V = .ok 2 V := fun V => by kernel_rfl
  have ha0 : (⟨b, 0, none⟩ : Addr).add 0 = ⟨b, 0, none⟩ := rfl
  have f1 : ∀ V : World, (Instr.slice 61 (.slice (some ⟨b, 0, none⟩) m cap) (some (.int .i64 0)) (some (.int .i64 1)) (some (.int .i64 (m : Int)))).run Tryz.prog V = .ok (.slice (some ⟨b, 0, none⟩) 1 m) V := fun V => by
    rw [run_slice_lhm (P := Tryz.prog) V 61 (some ⟨b, 0, none⟩) m cap Tryz.underlying61 .i64 .i64 .i64 0 1 (m : Int) (by omega) (by omega) (by omega) (by omega), hsize]
    simp [sliced, ha0]
  have f2 : ∀ V : World, (Instr.slice 61 (.slice (some ⟨b, 0, none⟩) m cap) none (some (.int .i64 0)) none).run Tryz.prog V = .ok (.slice (some ⟨b, 0, none⟩) 0 cap) V := fun V => by
    rw [run_slice_h (P := Tryz.prog) V 61 (some ⟨b, 0, none⟩) m cap Tryz.underlying61 .i64 0 (by omega) (by omega), hsize]
    simp [sliced, ha0]
  have f3 : ∀ V : World, (Instr.slice 61 (.slice (some ⟨b, 0, none⟩) m cap) (some (.int .i64 1)) none none).run Tryz.prog V = .ok (.slice (some ⟨b, 2, none⟩) n (cap - 1)) V := fun V => by
    rw [run_slice_l (P := Tryz.prog) V 61 (some ⟨b, 0, none⟩) m cap Tryz.underlying61 .i64 1 (by omega) (by omega), hsize]
    have : ¬ cap = 1 := by omega
    simp [sliced, this, Addr.add, hmn]
  have f4 : ∀ V : World, (Instr.slice 61 (.slice (some ⟨b, 0, none⟩) n cap) (some (.int .i64 (n : Int))) (some (.int .i64 (m : Int))) none).run Tryz.prog V = .ok (.slice (some ⟨b, n * 2, none⟩) 1 (cap - n)) V := fun V => by
    rw [run_slice_lh (P := Tryz.prog) V 61 (some ⟨b, 0, none⟩) n cap Tryz.underlying61 .i64 .i64 (n : Int) (m : Int) (by omega) (by omega) (by omega), hsize]
    have h1 : ¬ cap = n := by omega
    have h2 : m - n = 1 := by omega
    simp [sliced, h1, h2, Addr.add]
    omega
  have hlt := (Array.getElem?_eq_some_iff.1 hg).1
  have hcl : cs.length = m * 2 := by rw [← htk, List.length_take, Array.length_toList, hsz]; omega
  have hap : ∀ V : World, V.heap[b]? = some (.cells cur 71 (0, 0)) → ∀ ty, (Builtin.append_ #[61, 61] ty #[.slice (some ⟨b, 0, none⟩) 0 cap, .slice (some ⟨b, 2, none⟩) n (cap - 1)]).run Tryz.prog V = .ok (.slice (some ⟨b, 0, none⟩) n cap) (V.setRow b (cs.drop 2 ++ cur.toList.drop (n * 2)).toArray) := fun V hV ty => by
    have hr := run_append_room (P := Tryz.prog) V 61 ty 71 i0 Tryz.underlying61 hi b 0 cap cur hV ⟨b, 2, none⟩ n (cap - 1) (cs.drop 2) (by rw [List.length_drop, hcl, hz1]; omega) (fun j u hu => by
      have hj := (List.getElem?_eq_some_iff.1 hu).1
      rw [List.length_drop, hcl] at hj
      rw [List.getElem?_drop, ← htk, List.getElem?_take_of_lt (by omega)] at hu
      rw [Addr.add_lit]
      exact blk_cell hV (by rw [← Array.getElem?_toList]; exact hu)) (fun u hu => h1 u (List.mem_of_mem_drop hu)) (by omega) (by rw [List.length_drop, hcl, hsz]; omega)
    have e : cs.length - 2 = n * 2 := by rw [hcl]; omega
    rw [hr]
    simp [e]
  have HAp := Lib.hid hap
  have HFin : Hid (∀ V : World, V.heap[b]? = some (.cells cur 71 (0, 0)) → ∀ ty, (Builtin.clear_ #[61] ty #[.slice (some ⟨b, n * 2, none⟩) 1 (cap - n)]).run Tryz.prog (V.setRow b (cs.drop 2 ++ cur.toList.drop (n * 2)).toArray) = .ok (.tuple #[]) (V.setRow b (cs.drop 2 ++ ([Value.int .i64 0, Value.int .i64 0] : List Value) ++ cur.toList.drop (m * 2)).toArray)) := Lib.hid (fun V hV ty => by
    have hl2 : (cs.drop 2).length = n * 2 := by rw [List.length_drop, hcl]; omega
    rw [run_clear_two (V.setRow b (cs.drop 2 ++ cur.toList.drop (n * 2)).toArray) ty b (n * 2) (cap - n) _ (setRow_heap V b cur _ _ _ hV) (by simp only [List.size_toArray, List.length_append, hl2, List.length_drop, Array.length_toList, hsz]; omega), setRow_setRow]
    congr 3
    have e1 : (cs.drop 2 ++ cur.toList.drop (n * 2)).take (n * 2) = cs.drop 2 := by rw [List.take_append_of_le_length (by omega), List.take_of_length_le (by omega)]
    have e2 : (cs.drop 2 ++ cur.toList.drop (n * 2)).drop (n * 2 + 2) = cur.toList.drop (m * 2) := by
      rw [List.drop_append, List.drop_of_length_le (by omega), List.nil_append, List.drop_drop, hl2]
      congr 1; omega
    rw [e1, e2])
  have HRow : Hid (∀ V : World, V.heap[b]? = some (.cells cur 71 (0, 0)) → (V.setRow b (cs.drop 2 ++ ([Value.int .i64 0, Value.int .i64 0] : List Value) ++ cur.toList.drop (m * 2)).toArray).ownsRow 0 71 2 (.slice (some ⟨b, 0, none⟩) n cap) n (cs.drop 2)) := Lib.hid (fun V hV => by
    have hl2 : (cs.drop 2).length = n * 2 := by rw [List.length_drop, hcl]; omega
    refine ⟨hl2, .inr ⟨b, cap, _, rfl, Nat.zero_le _, setRow_heap V b cur _ _ _ hV, by omega, hmx, ?_, ?_⟩⟩
    · simp only [List.size_toArray, List.length_append, List.length_cons, List.length_nil, hl2, List.length_drop, Array.length_toList, hsz]; omega
    · simp only [List.append_assoc]
      rw [List.take_append_of_le_length (by omega), List.take_of_length_le (by omega)])
  have HB := Lib.hid (fun V (hb : Below W.heap.size W V) => (hb.block b hlt).trans hg)
  have pm : ¬ (n : Int) = 0 := by omega
  have pmx : (m : Int) ≤ 9223372036854775807 := by omega
  have pnx : (n : Int) ≤ 9223372036854775807 := by omega
  have HO := Lib.hid (fun V (hb : Below W.heap.size W V) => show (∀ k, k < W.heap.size → k ≠ b → (V.setRow b (cs.drop 2 ++ ([Value.int .i64 0, Value.int .i64 0] : List Value) ++ cur.toList.drop (m * 2)).toArray).heap[k]? = W.heap[k]?) ∧ W.heap.size ≤ (V.setRow b (cs.drop 2 ++ ([Value.int .i64 0, Value.int .i64 0] : List Value) ++ cur.toList.drop (m * 2)).toArray).heap.size ∧ St W (V.setRow b (cs.drop 2 ++ ([Value.int .i64 0, Value.int .i64 0] : List Value) ++ cur.toList.drop (m * 2)).toArray) from ⟨fun k hk hn => (setRow_other V b k _ hn).trans (hb.block k hk), by rw [setRow_size]; exact hb.size, (st_below hb).trans (st_row _ _ _)⟩)
  clear hg hsz hmn hcap hmx htk hn h1 hmx2 hsize hlt hcl hap hi hz0 hz1 hz2 ha0
  go_enter Tryz.func62, Tryz.ntmps62
  go_upto_region 5 with fail
  refine wp_region_said 6 [20, 21, 22, 23, 24, 25]
    [.is (.slice (some ⟨b, 0, none⟩) m cap), .is (.int .i64 0), .is (.slice (some ⟨b, 0, none⟩) 0 cap), .is (.slice (some ⟨b, 0, none⟩) m cap), .is (.int .i64 1), .is (.slice (some ⟨b, 2, none⟩) n (cap - 1))]
    (fun V => Below W.heap.size W V) (by kernel_rfl) (by kernel_rfl) (by kernel_rfl) (by kernel_rfl) (by kernel_rfl) (fun V V' h hb => h.trans (hb.mono h.size)) (Below.refl _ _) ?steps ?last
  case steps =>
    simp only [List.take_succ_cons, List.take_zero]
    refine ⟨?_, ?_, ?_, ?_, ?_, ?_, trivial⟩
    all_goals
      intro vs V ρ hρ hc hf hg hI hH hd R' hR
      have HR := Lib.hid hR
      simp [depsOf, Region.binds, sayAt, Say.holds] at hd
      clear hR hI
      go_simp
      exact HR.out _ _ (by simp [sayAt, Say.holds]) (Below.refl _ _) (by simp [sayAt, Say.isBlk])
  case last =>
    intro vs V hI hb hg hd
    have g2 := hg 2 (by omega)
    have g5 := hg 5 (by omega)
    simp only [sayAt, Say.holds, List.getD_cons_succ, List.getD_cons_zero] at g2 g5
    simp only [List.take_succ_cons, List.take_zero, List.drop_succ_cons, List.drop_zero, putAll, Act.put, List.setIfInBounds_toArray, List.set_cons_succ, List.set_cons_zero, Nat.zero_add, Nat.reduceAdd]
    rw [g2, g5]
    have hV := HB.out _ hI
    have a1 := HAp.out V hV
    have a2 := HFin.out V hV
    have HR := Lib.hid (HRow.out V hV)
    have HOV := Lib.hid (HO.out V hI)
    clear g2 g5 hg hd hI hb hV HAp HFin HRow HB HO f1 f2 f3
    refine wpList_append_eq rfl _ _ 61 rfl _ _ _ rfl rfl (a1 _) ?_
    clear a1
    go_upto_region 6 with fail
    go_wp2_with fail
    go_ret
    have hr2 := HR.out
    have ho2 := HOV.out
    simp only [List.append_assoc, List.cons_append, List.nil_append] at hr2 ho2
    exact ⟨rfl, hr2, ho2.1, ho2.2⟩

end Sh
end Go.Proofs.YtiobhbagjokpcaaGreat

/- The landed shelf: one that is ended, forgotten among those that are prepared; no condition. -/
namespace Go.Proofs.YtiobhbagjokpcaaGreat
namespace Sh
open Go.RowKit Bk Ch Lt Rc Tr

theorem out_filter {p : List Rec} (h : p.Pairwise (fun x y => x.txn < y.txn)) (txn : Int) : outP p txn = p.filter (fun r => decide (r.txn ≠ txn)) := by
  unfold outP
  induction p with
  | nil => rfl
  | cons a r ih =>
    obtain ⟨h1, h2⟩ := List.pairwise_cons.1 h
    by_cases e : a.txn = txn
    · rw [List.eraseP_cons_of_pos (by simpa using e), List.filter_cons_of_neg (by simpa using e), List.filter_eq_self.2]
      intro q hq
      have := h1 q hq
      simp only [decide_eq_true_eq]
      omega
    · rw [List.eraseP_cons_of_neg (by simpa using e), List.filter_cons_of_pos (by simpa using e), ih h2]

def outRI (P : List RI) (txn : Int) : List RI := P.filter (fun x => decide (x.l.txn ≠ txn))

theorem outRI_map (P : List RI) (txn : Int) : (outRI P txn).map (·.l) = (P.map (·.l)).filter (fun r => decide (r.txn ≠ txn)) := by
  unfold outRI
  rw [List.filter_map]
  rfl

theorem outRI_pp (P : List RI) (txn : Int) : (outRI P txn).map pp = outM (P.map pp) txn := by
  unfold outRI outM
  rw [List.filter_map]
  rfl

theorem outRI_mem {P : List RI} {txn : Int} {x : RI} (h : x ∈ outRI P txn) : x ∈ P := (List.mem_filter.1 h).1

section
variable {W V w' : World} {F F' : Nat → Prop} {g bc bp : Nat} {v v' : Value} {K : List KI} {P : List RI} {s : Shf}

theorem RowF.both {M M' : Nat → Prop} {A : Option Addr} {cs : List Value} (h : RowF V M A cs) (aw : Away M V w') (tn : ∀ k, M' k → M k ∨ V.heap.size ≤ k) : RowF w' M' A cs := fun hp => by
  obtain ⟨ad, e, h1, h2, _⟩ := h hp
  obtain ⟨ad', e', _, _, h3⟩ := h.away aw hp
  obtain rfl := Option.some.inj (e.symm.trans e')
  exact ⟨ad, e, Nat.lt_of_lt_of_le h1 aw.size, fun hm => (tn _ hm).elim h2 (fun h => by omega), h3⟩

theorem KVal.both {M M' : Nat → Prop} {x : KI} (h : KVal V M x) (aw : Away M V w') (tn : ∀ k, M' k → M k ∨ V.heap.size ≤ k) : KVal w' M' x := ⟨h.row.both aw tn, h.nil, h.le, h.cap⟩

theorem PVal.both {M M' : Nat → Prop} {x : RI} (h : PVal V M x) (aw : Away M V w') (tn : ∀ k, M' k → M k ∨ V.heap.size ≤ k) : PVal w' M' x :=
  ⟨(h.away aw).val, (h.turn tn).ka, (h.turn tn).wa⟩

theorem own_map_ne {e : TypeId} {H sz n b : Nat} {xs : List Value} {es : Array MapEntry} {cl : Nat} (h : V.ownsRow H e sz v n xs) (hb : V.heap[b]? = some (.map es cl)) : v.ownBlock ≠ some b := by
  rcases h.2 with ⟨rfl, _⟩ | ⟨i, cap, cur, rfl, _, hg, _⟩
  · intro e1; cases e1
  · intro e1
    obtain rfl : i = b := by simpa [Value.ownBlock] using e1
    rw [hb] at hg; cases hg

/-- the row of those that are ended is another -/
theorem LAt.setE (h : LAt V F g bc bp v K P s) (hs : V.heap.size ≤ w'.heap.size) (hk : ∀ k, k < V.heap.size → k ≠ g → v.ownBlock ≠ some k → w'.heap[k]? = V.heap[k]?) (hc : Cel w' g 63 [.map (some bc), .map (some bp), v', .int .i64 s.over])
    {e' : List (Int × Int)} (hr : w'.ownsRow 0 71 2 v' e'.length (e'.flatMap ecs)) (hen : e' = [] → v' = .slice none 0 0) (hv : ∀ X, v'.ownBlock = some X → v.ownBlock = some X ∨ V.heap.size ≤ X) (hF : ∀ k, F k → F' k) (hX : ∀ X, v'.ownBlock = some X → F' X) (hFl : ∀ k, F' k → k < w'.heap.size) :
    LAt w' F' g bc bp v' K P ⟨s.k, s.p, e', s.over⟩ :=
  have hbc := h.mc.lt
  have hbp := h.mp.lt
  have ngc : bc ≠ g := h.mc.ne h.cel
  have ngp : bp ≠ g := h.mp.ne h.cel
  have noc : v.ownBlock ≠ some bc := by obtain ⟨es, cl, h1⟩ := h.mc.isMap; exact own_map_ne h.re h1
  have nop : v.ownBlock ≠ some bp := by obtain ⟨es, cl, h1⟩ := h.mp.isMap; exact own_map_ne h.re h1
  have aw : Away (Mu g bc bp v) V w' := ⟨hs, fun k hlt hn => hk k hlt (fun e => hn (.inl e)) (fun e => hn (.inr (.inr (.inr e))))⟩
  have tn : ∀ k, Mu g bc bp v' k → Mu g bc bp v k ∨ V.heap.size ≤ k := fun k hk => by
    rcases hk with h1 | h1 | h1 | h1
    · exact .inl (.inl h1)
    · exact .inl (.inr (.inl h1))
    · exact .inl (.inr (.inr (.inl h1)))
    · rcases hv k h1 with h2 | h2
      · exact .inl (.inr (.inr (.inr h2)))
      · exact .inr h2
  ⟨hc, h.mc.kept (hk bc hbc ngc noc), h.mp.kept (hk bp hbp ngp nop), hr, hen, fun x hx => (h.kv x hx).both aw tn, fun x hx => (h.pv x hx).both aw tn, h.ek, h.ep, h.bd,
   fun k hk => by
    rcases hk with h1 | h1 | h1 | h1
    · exact hF k (h.fm k (.inl h1))
    · exact hF k (h.fm k (.inr (.inl h1)))
    · exact hF k (h.fm k (.inr (.inr (.inl h1))))
    · exact hX k h1, fun x hx hp ad e => hF _ (h.fk x hx hp ad e), fun x hx => ⟨fun hp ad e => hF _ ((h.fp x hx).1 hp ad e), fun hp ad e => hF _ ((h.fp x hx).2 hp ad e)⟩, hFl⟩

end

end Sh
end Go.Proofs.YtiobhbagjokpcaaGreat
