/- The document's queue: its calls; no condition but the ranges. -/
import Derived.Test.YtpjoiepdcilcnaaDuDrops
import Derived.Deep.RegionLaw
namespace Go.Proofs.Ytpjoiepdcilcnaa
namespace Du
open Go.RowKit Bk

/-- a row of the call's own holds these tasks -/
def DRow (W : World) (base : Nat) (v : Value) (l : List Tk) : Prop := W.ownsRow base 65 4 v l.length (l.flatMap tkC)

/-- the row's block, known whole -/
theorem DRow.blk {W : World} {base : Nat} {v : Value} {l : List Tk} (h : DRow W base v l) (hp : 0 < l.length) :
    ∃ (p cap : Nat) (rest : List Value), v = .slice (some ⟨p, 0, none⟩) l.length cap ∧ base ≤ p ∧ Cel W p 65 (l.flatMap tkC ++ rest) ∧ l.length ≤ cap ∧ cap ≤ maxLen ∧ l.length * 4 + rest.length = cap * 4 := by
  obtain ⟨hl, h⟩ := h
  rcases h with ⟨_, h0⟩ | ⟨p, cap, cur, e1, h2, h3, h4, h5, h6, h7⟩
  · omega
  · refine ⟨p, cap, cur.toList.drop (l.length * 4), e1, h2, ?_, h4, h5, ?_⟩
    · unfold Cel
      rw [← h7, List.take_append_drop]
      exact h3
    · have e : cur.toList.length = cap * 4 := h6
      rw [List.length_drop, e]; omega

theorem DRow.of {W : World} {base p cap : Nat} {l : List Tk} {rest : List Value} (hb : base ≤ p) (h : Cel W p 65 (l.flatMap tkC ++ rest)) (h1 : l.length ≤ cap) (h2 : cap ≤ maxLen) (h3 : l.length * 4 + rest.length = cap * 4) : DRow W base (.slice (some ⟨p, 0, none⟩) l.length cap) l :=
  ⟨fl_len l, .inr ⟨p, cap, _, rfl, hb, h, h1, h2, by rw [List.size_toArray, List.length_append, fl_len]; exact h3, by rw [List.toList_toArray, ← fl_len l, List.take_left]⟩⟩

theorem dcell_of {W : World} {p : Nat} {l : List Tk} {rest : List Value} (h : Cel W p 65 (l.flatMap tkC ++ rest)) {k : Nat} (hk : k < l.length) {j : Nat} (hj : j < 4) {u : Value} (hu : (tkC (g l k))[j]? = some u) : W.cell? ⟨p, k * 4 + j, none⟩ = some u :=
  h.cell (by rw [List.getElem?_append_left (by rw [fl_len]; omega), fl_at (at_g hk) hj]; exact hu)

theorem run_append_optN {P : Program} (w : World) (base : Nat) (t ty e : TypeId) (i : TypeInfo) (z : Value) (sz bytes : Nat) (ht : P.underlying t = some (.slice e)) (hi : P.info? e = some i) (hz : i.zero = some z)
    (hsize : i.size = sz) (hby : i.bytes = bytes) (hzs : z.cells.size = sz) (h0 : 0 < sz) (v : Value) (n : Nat) (xs : List Value) (hown : w.ownsRow base e sz v n xs)
    (A : Option Addr) (m c : Nat) (news : List Value) (hl : news.length = m * sz) (hA : A = none → m = 0 ∧ c = 0) (hnews : ∀ ad, A = some ad → ∀ j u, news[j]? = some u → w.cell? (ad.add j) = some u) (h1 : ∀ u ∈ news, u.oneCell' = true)
    (h63 : n + m ≤ maxLen) (hbytes : (n + m) * bytes ≤ 140737488355328) (hbase : base ≤ w.heap.size) :
    ∃ v' w', (Builtin.append_ #[t, t] ty #[v, .slice A m c]).run P w = .ok v' w' ∧ w'.ownsRow base e sz v' (n + m) (xs ++ news) ∧ w.grownBy w' v.ownBlock ∧ (v'.ownBlock = v.ownBlock ∨ v'.ownBlock = some w.heap.size) := by
  cases A with
  | none =>
    obtain ⟨rfl, rfl⟩ := hA rfl
    obtain rfl : news = [] := List.eq_nil_of_length_eq_zero (by omega)
    exact ⟨v, w, run_append_owned_none (P := P) w base t ty e i sz ht hi _ _ _ hown, by rw [List.append_nil]; exact hown, ⟨rfl, rfl, rfl, Nat.le_refl _, fun _ _ _ => rfl⟩, .inl rfl⟩
  | some ad =>
    obtain ⟨v', w', hr, h2, h3, _, h5⟩ := run_append_own_at (P := P) w base t ty e i z sz bytes ht hi hz hsize hby hzs h0 v n xs hown ad m c news hl (hnews ad rfl) h1 h63 hbytes hbase
    exact ⟨v', w', hr, h2, h3, h5⟩

/-- an append of any row at a step of a region that draws its order -/
theorem step_append_optN {P : Program} {ops : Array Oper} {o : Oper} {a : Act} {w : World} {K : Act → World → Prop} {Q : Exit → Act → World → Prop} {E : Prop} (hgd : o.guard = none) (s x : Operand) (t : TypeId)
    (ho : o.op = .call { callee := .builtin .append, args := #[s, x], argTypes := #[t, t] })
    (base : Nat) (e : TypeId) (i : TypeInfo) (z : Value) (sz bytes : Nat) (ht : P.underlying t = some (.slice e)) (hi : P.info? e = some i) (hz : i.zero = some z)
    (hsize : i.size = sz) (hby : i.bytes = bytes) (hzs : z.cells.size = sz) (h0 : 0 < sz) (v : Value) (n : Nat) (xs : List Value) (hs : a.eval s = v) (hown : w.ownsRow base e sz v n xs)
    (A : Option Addr) (m c : Nat) (news : List Value) (hx : a.eval x = .slice A m c) (hl : news.length = m * sz) (hA : A = none → m = 0 ∧ c = 0) (hnews : ∀ ad, A = some ad → ∀ j u, news[j]? = some u → w.cell? (ad.add j) = some u) (h1 : ∀ u ∈ news, u.oneCell' = true)
    (h63 : n + m ≤ maxLen) (hbytes : (n + m) * bytes ≤ 140737488355328) (hbase : base ≤ w.heap.size)
    (h : ∀ v' w', w'.ownsRow base e sz v' (n + m) (xs ++ news) → w.grownBy w' v.ownBlock → K (a.put o.dst v') w') :
    if Region.wanted o (yielded ops a.tmps) = true then Oper.wp P o a w K Q else E := by
  have hw : Region.wanted o (yielded ops a.tmps) = true := by simp [Region.wanted, hgd]
  rw [if_pos hw]
  obtain ⟨v', w', hr, h2, h3, _⟩ := run_append_optN (P := P) w base t o.type e i z sz bytes ht hi hz hsize hby hzs h0 v n xs hown A m c news hl hA hnews h1 h63 hbytes hbase
  unfold Oper.wp execOp
  simp only [ho, resolve, invoke, builtin, Sem.run_bind, Sem.run_pure, Result.andThen_ok, List.map_toArray, List.map_cons, List.map_nil, hs, hx, hr]
  exact h v' w' h2 h3

theorem Try.infoDt : (Try.prog.info? 65).map (fun i => (i.zero.map (·.cells.size), i.size, i.bytes)) = some (some 4, 4, 32) := by kernel_rfl

theorem info_dt : ∃ i z, Try.prog.info? 65 = some i ∧ i.zero = some z ∧ z.cells.size = 4 ∧ i.size = 4 ∧ i.bytes = 32 := by
  have h := Try.infoDt
  cases hi : Try.prog.info? 65 with
  | none => rw [hi] at h; cases h
  | some i =>
    rw [hi] at h
    simp only [Option.map_some, Option.some.injEq, Prod.mk.injEq] at h
    obtain ⟨h1, h2, h3⟩ := h
    cases hz : i.zero with
    | none => rw [hz] at h1; cases h1
    | some z =>
      rw [hz] at h1
      simp only [Option.map_some, Option.some.injEq] at h1
      exact ⟨i, z, rfl, hz, h1, h2, h3⟩

theorem tk_one {l : List Tk} : ∀ u ∈ l.flatMap tkC, u.oneCell' = true := fun u hu => by
  obtain ⟨x, _, h⟩ := List.mem_flatMap.1 hu
  simp [tkC] at h
  rcases h with rfl | rfl | rfl | rfl <;> rfl

section
variable {W W' : World} {base : Nat} {v : Value} {l : List Tk}

theorem DRow.mono {base' : Nat} (h : DRow W base v l) (hb : base' ≤ base) : DRow W base' v l := by
  refine ⟨h.1, ?_⟩
  rcases h.2 with h' | ⟨p, cap, cur, e, h2, h3⟩
  · exact .inl h'
  · exact .inr ⟨p, cap, cur, e, by omega, h3⟩

set_option maxHeartbeats 4000000 in
theorem without_any (h : DRow W base v l) (i : Nat) (hi : i < l.length) (h10 : l.length ≤ 100000) :
    Calls Try.prog 27 #[v, .int .i64 i] W fun e W' => ∃ v', e = .returned v' ∧ DRow W' W.heap.size v' (l.eraseIdx i) ∧ Below W.heap.size W W' := by
  obtain ⟨p, cap, rest, rfl, hb, hc, h1, h2, h3⟩ := h.blk (by omega)
  obtain ⟨i0, z0, hi0, hz0, hz1, hz2, hz3⟩ := info_dt
  have hm : cap < 9223372036854775808 := by simp only [maxLen] at h2; omega
  have HC := Lib.hid hc
  have hp := hc.lt
  have hown0 : (W.alloc (.cells #[] 65)).ownsRow W.heap.size 65 4 (.slice (some ⟨W.heap.size, 0, none⟩) 0 0) 0 [] := ⟨rfl, .inr ⟨W.heap.size, 0, #[], rfl, Nat.le_refl _, (blk1 W _).2, Nat.le_refl _, Nat.zero_le _, rfl, rfl⟩⟩
  have HO := Lib.hid hown0
  have hal := ((Below.refl W.heap.size W).alloc (Nat.le_refl _) (.cells #[] 65)).drew
  have HA := Lib.hid hal
  have n1 : ∀ j u, ((l.take i).flatMap tkC)[j]? = some u → ∀ X, Cel X p 65 (l.flatMap tkC ++ rest) → X.cell? ((⟨p, 0, none⟩ : Addr).add j) = some u := fun j u hu X hX => by
    rw [addr_head]
    refine hX.cell ?_
    rw [← fl_take (by omega)] at hu
    have hj : j < i * 4 := by have := (List.getElem?_eq_some_iff.1 hu).1; rw [List.length_take] at this; omega
    rw [List.getElem?_take, if_pos hj] at hu
    rw [List.getElem?_append_left (by rw [fl_len]; omega)]
    exact hu
  have n2 : ∀ j u, ((l.drop (i + 1)).flatMap tkC)[j]? = some u → ∀ X, Cel X p 65 (l.flatMap tkC ++ rest) → X.cell? ((⟨p, (i + 1) * 4, none⟩ : Addr).add j) = some u := fun j u hu X hX => by
    have e : (⟨p, (i + 1) * 4, none⟩ : Addr).add j = ⟨p, (i + 1) * 4 + j, none⟩ := by unfold Addr.add; split <;> simp_all
    rw [e]
    refine hX.cell ?_
    have hj : j < (l.drop (i + 1)).length * 4 := by have := (List.getElem?_eq_some_iff.1 hu).1; rw [fl_len] at this; exact this
    have e2 : l.flatMap tkC = (l.take (i + 1)).flatMap tkC ++ (l.drop (i + 1)).flatMap tkC := by rw [← List.flatMap_append, List.take_append_drop]
    have hn : ((l.take (i + 1)).flatMap tkC).length = (i + 1) * 4 := by rw [fl_len, List.length_take, Nat.min_eq_left (by omega)]
    rw [List.getElem?_append_left (by rw [fl_len]; rw [List.length_drop] at hj; omega), e2, List.getElem?_append_right (by omega), hn, Nat.add_sub_cancel_left]
    exact hu
  have HN := Lib.hid (And.intro n1 n2)
  have HE : Hid (l.eraseIdx i = l.take i ++ l.drop (i + 1)) := Lib.hid (List.eraseIdx_eq_take_drop_succ l i)
  have HL : Hid (i < l.length ∧ l.length ≤ 100000) := Lib.hid ⟨hi, h10⟩
  have p1 : (i : Int) + 1 ≤ (l.length : Int) := by omega
  have l1 : ((l.take i).flatMap tkC).length = i * 4 := by rw [fl_len, List.length_take, Nat.min_eq_left (by omega)]
  have l2 : ((l.drop (i + 1)).flatMap tkC).length = (l.length - (i + 1)) * 4 := by rw [fl_len, List.length_drop]
  have HLe := Lib.hid (And.intro l1 l2)
  clear h hc hown0 hal n1 n2 l1 l2
  go_enter Try.func27, Try.ntmps27
  have hw : IntKind.i64.wrap ((i : Int) + 1) = (i : Int) + 1 := i64_wrap (by omega) (by omega)
  go_upto_region 1 with fail
  by_cases hcap : cap = i + 1
  · have hn : l.length = i + 1 := by omega
    have hd : (l.drop (i + 1)).flatMap tkC = [] := by rw [List.drop_of_length_le (by omega)]; rfl
    have HD := Lib.hid hd
    have hl1 : l.length = i + 1 := by omega
    have p3 : (i : Int) ≤ (i : Int) + 1 := by omega
    have p7 : (0 : Int) ≤ (i : Int) + 1 := by omega
    have HCp := Lib.hid hcap
    rw [hcap, hl1]
    rw [hl1] at p1
    clear hcap
    clear hd
    go_region_law
      (first
        | (refine step_append_optN (by rfl) _ _ 26 (by rfl) W.heap.size 65 i0 z0 4 32 Try.underlying26 hi0 hz0 hz2 hz3 hz1 (by decide) (.slice (some ⟨W.heap.size, 0, none⟩) 0 0) 0 [] (by rfl) HO.out (some ⟨p, 0, none⟩) i (i + 1) ((l.take i).flatMap tkC) (by rfl) HLe.out.1 (fun e => by cases e) (fun ad e j u hu => by cases e; exact HN.out.1 j u hu _ (HC.out.below HA.out)) tk_one (by have := HL.out; unfold maxLen; omega) (by have := HL.out; omega) (by simp) ?_
           intro v9 w9 hown9 hgrow9
           have hb9 : Below W.heap.size W w9 := ⟨hgrow9.os.trans HA.out.os, hgrow9.tape.trans HA.out.tape, hgrow9.output.trans HA.out.output, Nat.le_trans HA.out.size hgrow9.size, fun k hk => (hgrow9.block k (Nat.lt_of_lt_of_le hk HA.out.size) (fun e => by have : k = W.heap.size := Option.some.inj e; omega)).trans (HA.out.block k hk)⟩
           have H9 := Lib.hid (And.intro hown9 hb9)
           clear hown9 hgrow9 hb9)
        | (refine step_append_optN (by rfl) _ _ 26 (by rfl) W.heap.size 65 i0 z0 4 32 Try.underlying26 hi0 hz0 hz2 hz3 hz1 (by decide) v9 _ _ (by rfl) H9.out.1 (some ⟨p, 0, none⟩) 0 0 ((l.drop (i + 1)).flatMap tkC) (by rfl) (by rw [HD.out]; rfl) (fun e => by cases e) (fun ad e j u hu => by rw [HD.out] at hu; simp at hu) tk_one (by have := HL.out; unfold maxLen; omega) (by have := HL.out; omega) H9.out.2.size ?_
           intro v10 w10 hown10 hgrow10
           have hb10 : Below W.heap.size W w10 := H9.out.2.grown hgrow10 H9.out.2.size (fun q hq => (H9.out.1.lt q hq).1)
           have H10 := Lib.hid (And.intro hown10 hb10)
           clear hown10 hgrow10 hb10))
    all_goals
      go_wp2
      go_ret
      refine ⟨v10, rfl, ?_, H10.out.2⟩
      rw [HE.out]
      unfold DRow
      have e := H10.out.1
      rw [List.nil_append, ← List.flatMap_append] at e
      have el : (l.take i ++ l.drop (i + 1)).length = 0 + i + 0 := by have := HL.out; simp; omega
      rw [el]
      simpa using e
  · have p3 : i ≤ cap := by omega
    have p7 : (0 : Int) ≤ (i : Int) + 1 := by omega
    have p4 : i + 1 ≤ cap := by omega
    have p5 : i + 1 ≤ l.length := by omega
    have p6 : (l.length : Int) ≤ (cap : Int) := by omega
    go_region_law
      (first
        | (refine step_append_optN (by rfl) _ _ 26 (by rfl) W.heap.size 65 i0 z0 4 32 Try.underlying26 hi0 hz0 hz2 hz3 hz1 (by decide) (.slice (some ⟨W.heap.size, 0, none⟩) 0 0) 0 [] (by rfl) HO.out (some ⟨p, 0, none⟩) i cap ((l.take i).flatMap tkC) (by rfl) HLe.out.1 (fun e => by cases e) (fun ad e j u hu => by cases e; exact HN.out.1 j u hu _ (HC.out.below HA.out)) tk_one (by have := HL.out; unfold maxLen; omega) (by have := HL.out; omega) (by simp) ?_
           intro v9 w9 hown9 hgrow9
           have hb9 : Below W.heap.size W w9 := ⟨hgrow9.os.trans HA.out.os, hgrow9.tape.trans HA.out.tape, hgrow9.output.trans HA.out.output, Nat.le_trans HA.out.size hgrow9.size, fun k hk => (hgrow9.block k (Nat.lt_of_lt_of_le hk HA.out.size) (fun e => by have : k = W.heap.size := Option.some.inj e; omega)).trans (HA.out.block k hk)⟩
           have H9 := Lib.hid (And.intro hown9 hb9)
           clear hown9 hgrow9 hb9)
        | (refine step_append_optN (by rfl) _ _ 26 (by rfl) W.heap.size 65 i0 z0 4 32 Try.underlying26 hi0 hz0 hz2 hz3 hz1 (by decide) v9 _ _ (by rfl) H9.out.1 (some ⟨p, (i + 1) * 4, none⟩) (l.length - (i + 1)) (cap - (i + 1)) ((l.drop (i + 1)).flatMap tkC) (by rfl) HLe.out.2 (fun e => by cases e) (fun ad e j u hu => by cases e; exact HN.out.2 j u hu _ (HC.out.below H9.out.2)) tk_one (by have := HL.out; unfold maxLen; omega) (by have := HL.out; omega) H9.out.2.size ?_
           intro v10 w10 hown10 hgrow10
           have hb10 : Below W.heap.size W w10 := H9.out.2.grown hgrow10 H9.out.2.size (fun q hq => (H9.out.1.lt q hq).1)
           have H10 := Lib.hid (And.intro hown10 hb10)
           clear hown10 hgrow10 hb10))
    all_goals
      go_wp2
      go_ret
      refine ⟨v10, rfl, ?_, H10.out.2⟩
      rw [HE.out]
      unfold DRow
      have e := H10.out.1
      rw [List.nil_append, ← List.flatMap_append] at e
      have el : (l.take i ++ l.drop (i + 1)).length = 0 + i + (l.length - (i + 1)) := by have := HL.out; simp; omega
      rw [el]
      simpa using e

/-- the document's queue in block r -/
structure RQ (W : World) (base r : Nat) (v : Value) (D : Ds) : Prop where
  cel : Cel W r 28 [v, .int .i64 D.tick, .int .i64 D.many]
  row : DRow W base v D.L
  far : v.ownBlock ≠ some r
  rb : base ≤ r
  bs : base ≤ W.heap.size

/-- behind a call of it: its block is turned; its row is the old one, or a new one -/
structure RM (W W' : World) (r : Nat) (v v' : Value) : Prop where
  os : W'.os = W.os
  tape : W'.tape = W.tape
  output : W'.output = W.output
  size : W.heap.size ≤ W'.heap.size
  block : ∀ k, k < W.heap.size → k ≠ r → W'.heap[k]? = W.heap[k]?
  own : ∀ q, v'.ownBlock = some q → v.ownBlock = some q ∨ W.heap.size ≤ q

def RP (W : World) (base r : Nat) (v : Value) (D' : Ds) (W' : World) : Prop := ∃ v', RQ W' base r v' D' ∧ RM W W' r v v'

theorem RM.of {r : Nat} (h : Below W.heap.size W W') : RM W W' r v v := ⟨h.os, h.tape, h.output, h.size, fun k hk _ => h.block k hk, fun _ h => .inl h⟩

theorem DRow.lt (h : DRow W base v l) {p : Nat} (hp : v.ownBlock = some p) : p < W.heap.size ∧ base ≤ p := by
  rcases h.2 with ⟨e, _⟩ | ⟨q, cap, cur, e, e2, e3, _⟩
  · rw [e] at hp; cases hp
  · rw [e] at hp
    obtain rfl : q = p := Option.some.inj hp
    exact ⟨(Array.getElem?_eq_some_iff.1 e3).1, e2⟩

theorem DRow.same (h : DRow W base v l) (hk : ∀ p, v.ownBlock = some p → W'.heap[p]? = W.heap[p]?) : DRow W' base v l := by
  refine ⟨h.1, ?_⟩
  rcases h.2 with h' | ⟨p, cap, cur, e, h2, h3, h4⟩
  · exact .inl h'
  · exact .inr ⟨p, cap, cur, e, h2, (hk p (by rw [e]; rfl)).trans h3, h4⟩

theorem DRow.form (h : DRow W base v l) : ∃ A c, v = .slice A l.length c := by
  rcases h.2 with ⟨e, e2⟩ | ⟨p, cap, cur, e, _⟩
  · exact ⟨none, 0, by rw [e, e2]⟩
  · exact ⟨_, _, e⟩

theorem RQ.below {r : Nat} {D : Ds} (h : RQ W base r v D) (hb : Below W.heap.size W W') : RQ W' base r v D := ⟨h.cel.below hb, st_keep h.row hb, h.far, h.rb, Nat.le_trans h.bs hb.size⟩

/-- a new row is put into the queue's block -/
theorem RQ.put {r : Nat} {D D' : Ds} {v' : Value} (h : RQ W base r v D) (hb : Below W.heap.size W W') (hr : DRow W' W.heap.size v' D'.L) (h1 : D'.tick = D.tick) (h2 : D'.many = D.many) : RP W base r v D' (W'.setCell ⟨r, 0, none⟩ v') := by
  have hf : v'.ownBlock ≠ some r := fun e => by have := (hr.lt e).2; have := h.cel.lt; omega
  have g := grow_put W' r 0 v'
  refine ⟨v', ⟨?_, (hr.mono h.bs).same (fun p hp => g.block p (hr.lt hp).1 (fun e => hf (by rw [hp, e]))), hf, h.rb, Nat.le_trans h.bs (Nat.le_trans hb.size g.size)⟩,
    g.os.trans hb.os, g.tape.trans hb.tape, g.output.trans hb.output, Nat.le_trans hb.size g.size, fun k hk hn => (g.block k (Nat.lt_of_lt_of_le hk hb.size) (fun e => hn (Option.some.inj e))).trans (hb.block k hk), fun q hq => .inr (hr.lt hq).2⟩
  rw [h1, h2]
  exact (h.cel.below hb).set (i := 0) (v := v')

set_option maxHeartbeats 4000000 in
theorem rgo_any {r : Nat} {D : Ds} (h : RQ W base r v D) (t : Int) : Calls Try.prog 18 #[.pointer (some ⟨r, 0, none⟩), .int .i64 t] W fun e W' => e = .returned (.int .i64 (goD D t).2) ∧ RP W base r v (goD D t).1 W' := by
  have HQ := Lib.hid h
  have k1 := h.cel.cell (i := 1) rfl
  have f1 := h.cel.free (i := 1)
  by_cases h1 : t < D.tick
  · unfold goD
    rw [if_pos (.inl h1)]
    clear h
    go_enter Try.func18, Try.ntmps18
    go_wp2
    go_ret
    exact ⟨rfl, v, HQ.out, RM.of (Below.refl _ _)⟩
  · by_cases h2 : 1099511627776 < t
    · unfold goD
      rw [if_pos (.inr h2)]
      have p1 : D.tick ≤ t := by omega
      clear h h1
      go_enter Try.func18, Try.ntmps18
      go_wp2
      go_ret
      exact ⟨rfl, v, HQ.out, RM.of (Below.refl _ _)⟩
    · unfold goD
      rw [if_neg (by omega)]
      have p1 : D.tick ≤ t := by omega
      have p2 : t ≤ 1099511627776 := by omega
      have g := grow_put W r 1 (.int .i64 t)
      have hz : RP W base r v ⟨D.L, t, D.many⟩ (W.setCell ⟨r, 1, none⟩ (.int .i64 t)) := ⟨v, ⟨h.cel.set (i := 1) (v := .int .i64 t), h.row.same (fun p hp => g.block p (h.row.lt hp).1 (fun e => h.far (by rw [hp, e]))), h.far, h.rb, Nat.le_trans h.bs g.size⟩, g.os, g.tape, g.output, g.size, fun k hk hn => g.block k hk (fun e => hn (Option.some.inj e)), fun _ h => .inl h⟩
      have HZ := Lib.hid hz
      clear h h1 h2 g hz HQ
      go_enter Try.func18, Try.ntmps18
      go_wp2
      go_ret
      exact ⟨rfl, HZ.out⟩

set_option maxHeartbeats 4000000 in
theorem rdrop_any {r : Nat} {D : Ds} (h : RQ W base r v D) (n : Int) (h10 : D.L.length ≤ 100000) : Calls Try.prog 16 #[.pointer (some ⟨r, 0, none⟩), .int .i64 n] W fun e W' => e = .returned (.int .i64 (dropD D n).2) ∧ RP W base r v (dropD D n).1 W' := by
  obtain ⟨A, c, hv⟩ := h.row.form
  have HQ := Lib.hid h
  have k0 := h.cel.cell (i := 0) rfl
  have f0 := h.cel.free (i := 0)
  rw [hv] at k0
  have HV := Lib.hid hv
  clear h hv
  go_enter Try.func16, Try.ntmps16
  go_wp2_with fail
  go_loopw [5] (fun i wr => ∃ j : Nat, j ≤ D.L.length ∧ i = .int .i64 (j : Int) ∧ Hid (∀ k, k < j → (g D.L k).n ≠ n) ∧ wr = W) (fun i _ => D.L.length - (intOf i).toNat)
  case atStart => exact ⟨0, by omega, rfl, fun k hk => absurd hk (by omega), rfl⟩
  case round =>
    obtain ⟨j, hj, rfl, hno, rfl⟩ := hrel
    by_cases hlt : j < D.L.length
    · obtain ⟨p, cap, rest, e1, hbp, hc, h1, h2, h3⟩ := HQ.out.row.blk (by omega)
      rw [HV.out] at e1
      simp only [Value.slice.injEq] at e1
      obtain ⟨rfl, -, rfl⟩ := e1
      have e3 : wr.cell? ⟨p, j * 4 + 3, none⟩ = some (.int .i64 (g D.L j).n) := dcell_of hc hlt (j := 3) (by omega) rfl
      have p1 : (j : Int) < (D.L.length : Int) := by omega
      clear hc h1 h2 h3 hbp
      by_cases hn : (g D.L j).n = n
      · have hnum : numI D.L n = j := by
          unfold numI
          rw [List.findIdx_eq hlt]
          refine ⟨by rw [← g_lt hlt]; simpa using hn, fun k hk => ?_⟩
          have := hno.out k hk
          rw [g_lt (by omega)] at this
          simpa using this
        have hD : dropD D n = (⟨D.L.eraseIdx j, D.tick, D.many⟩, 0) := by unfold dropD; rw [hnum, if_pos hlt]
        have HD := Lib.hid hD
        have HW := Lib.hid (without_any HQ.out.row j hlt h10)
        rw [HV.out] at HW
        rw [hn] at e3
        clear hD hnum hn
        go_wp2_with fail
        refine HW.out.mono ?_
        rintro e w2 ⟨v', rfl, hr, hb⟩
        have hz := HQ.out.put hb (D' := ⟨D.L.eraseIdx j, D.tick, D.many⟩) hr rfl rfl
        have k2 := (HQ.out.below hb).cel.cell (i := 0) rfl
        have f2 := (HQ.out.below hb).cel.free (i := 0)
        rw [HV.out] at k2
        obtain ⟨A2, c2, rfl⟩ := hr.form
        have HZ := Lib.hid hz
        clear hr hb hz HW k0 f0 e3
        go_wp2_with fail
        go_ret
        rw [HD.out]
        exact ⟨rfl, HZ.out⟩
      · have HN := Lib.hid hn
        have q0 : ((g D.L j).n == n) = false := by rw [beq_eq_false_iff_ne]; exact hn
        clear hn
        go_wp2_with fail
        go_roundw
        case rel => exact ⟨j + 1, by omega, by go_num, (fun k hk => by
          by_cases e : k = j
          · subst e; exact HN.out
          · exact hno.out k (by omega)), by first | rfl | trivial⟩
        case measure => simp [intOf]; omega
    · obtain rfl : j = D.L.length := by omega
      have hD : dropD D n = (D, 5) := by
        unfold dropD
        rw [if_neg]
        intro hc
        exact hno.out _ hc (numI_at hc)
      have HD := Lib.hid hD
      clear hD
      go_wp2_with fail
      go_ret
      rw [HD.out]
      exact ⟨rfl, v, HQ.out, RM.of (Below.refl _ _)⟩

set_option maxHeartbeats 4000000 in
theorem ahead_any (x y : Tk) (W : World) : Calls Try.prog 26 #[.agg #[.int .i64 x.a, .int .i64 x.u, .int .i64 x.i, .int .i64 x.n], .agg #[.int .i64 y.a, .int .i64 y.u, .int .i64 y.i, .int .i64 y.n]] W fun e W' => e = .returned (.bool (ltR x y)) ∧ Below W.heap.size W W' := by
  have hb := ((Below.refl W.heap.size W).alloc (Nat.le_refl _) (.cells #[.int .i64 x.a, .int .i64 x.u, .int .i64 x.i, .int .i64 x.n] 65)).alloc (by simp) (.cells #[.int .i64 y.a, .int .i64 y.u, .int .i64 y.i, .int .i64 y.n] 65)
  have HB := Lib.hid hb
  clear hb
  unfold ltR
  rcases Int.lt_trichotomy x.u y.u with h | h | h
  · have q : (x.u == y.u) = false := by rw [beq_eq_false_iff_ne]; omega
    go_enter Try.func26, Try.ntmps26
    go_wp2
    go_ret
    exact ⟨by congr 2; simp; omega, HB.out⟩
  · rcases Int.lt_trichotomy x.a y.a with h2 | h2 | h2
    · have q2 : (x.a == y.a) = false := by rw [beq_eq_false_iff_ne]; omega
      rw [h]
      go_enter Try.func26, Try.ntmps26
      go_wp2
      go_ret
      exact ⟨by congr 2; simp; omega, h ▸ HB.out⟩
    · rw [h, h2]
      go_enter Try.func26, Try.ntmps26
      go_wp2
      go_ret
      exact ⟨by congr 2; simp, by have hh := HB.out; rw [h, h2] at hh; exact hh⟩
    · have q2 : (x.a == y.a) = false := by rw [beq_eq_false_iff_ne]; omega
      rw [h]
      go_enter Try.func26, Try.ntmps26
      go_wp2
      go_ret
      exact ⟨by congr 2; simp; omega, h ▸ HB.out⟩
  · have q : (x.u == y.u) = false := by rw [beq_eq_false_iff_ne]; omega
    go_enter Try.func26, Try.ntmps26
    go_wp2
    go_ret
    exact ⟨by congr 2; simp; omega, HB.out⟩

end

end Du
end Go.Proofs.Ytpjoiepdcilcnaa
