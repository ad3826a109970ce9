/- Rows of any cells that lie away from some blocks; appends of any size; no condition. -/
import Derived.Test.YtkpcfakfkcghdaaA6
import Derived.Test.YtkpcfakfkcghdaaA3
namespace Go.Proofs.Ytkpcfakfkcghdaa
namespace Nt
open Go.RowKit Bk

/-- beside the blocks F no old block is turned -/
structure Away (F : Nat → Prop) (w w' : World) : Prop where
  size : w.heap.size ≤ w'.heap.size
  block : ∀ k, k < w.heap.size → ¬ F k → w'.heap[k]? = w.heap[k]?

theorem Away.refl (F : Nat → Prop) (w : World) : Away F w w := ⟨Nat.le_refl _, fun _ _ _ => rfl⟩
theorem Away.of {F : Nat → Prop} {w w' : World} (h : Below w.heap.size w w') : Away F w w' := ⟨h.size, fun k hk _ => h.block k hk⟩
theorem Away.trans {F : Nat → Prop} {a b c : World} (h : Away F a b) (k : Away F b c) : Away F a c :=
  ⟨Nat.le_trans h.size k.size, fun i hi hn => (k.block i (Nat.lt_of_lt_of_le hi h.size) hn).trans (h.block i hi hn)⟩
theorem Away.cell {F : Nat → Prop} {w w' : World} (h : Away F w w') (a : Addr) (ha : a.block < w.heap.size) (hF : ¬ F a.block) : w'.cell? a = w.cell? a := by
  unfold World.cell?
  rw [h.block a.block ha hF]

/-- these cells lie from the address on, away from F -/
def RowF (W : World) (F : Nat → Prop) (A : Option Addr) (cs : List Value) : Prop :=
  0 < cs.length → ∃ ad, A = some ad ∧ ad.block < W.heap.size ∧ ¬ F ad.block ∧ ∀ (j : Nat) (v : Value), cs[j]? = some v → W.cell? (ad.add j) = some v

theorem RowF.away {W W' : World} {F : Nat → Prop} {A : Option Addr} {cs : List Value} (h : RowF W F A cs) (k : Away F W W') : RowF W' F A cs := fun hp => by
  obtain ⟨ad, e, h1, h2, h3⟩ := h hp
  exact ⟨ad, e, Nat.lt_of_lt_of_le h1 k.size, h2, fun j v hv => (k.cell _ (by rw [st_block]; exact h1) (by rw [st_block]; exact h2)).trans (h3 j v hv)⟩

theorem RowF.below {W W' : World} {F : Nat → Prop} {A : Option Addr} {cs : List Value} (h : RowF W F A cs) (k : Below W.heap.size W W') : RowF W' F A cs := h.away (Away.of k)

/-- other blocks to be away from: old ones and new ones -/
theorem RowF.turn {W : World} {F F' : Nat → Prop} {A : Option Addr} {cs : List Value} (h : RowF W F A cs) (hF : ∀ k, F' k → F k ∨ W.heap.size ≤ k) : RowF W F' A cs := fun hp => by
  obtain ⟨ad, e, h1, h2, h3⟩ := h hp
  exact ⟨ad, e, h1, fun hf => (hF _ hf).elim h2 (fun h => by omega), h3⟩

theorem RowF.nil (W : World) (F : Nat → Prop) (A : Option Addr) : RowF W F A [] := fun hp => absurd hp (by simp)

theorem RowF.news {W : World} {F : Nat → Prop} {ad : Addr} {cs : List Value} (h : RowF W F (some ad) cs) : ∀ j u, cs[j]? = some u → W.cell? (ad.add j) = some u := fun j u hu => by
  obtain ⟨a', e, _, _, h3⟩ := h (Nat.lt_of_le_of_lt (Nat.zero_le _) (List.getElem?_eq_some_iff.1 hu).1)
  obtain rfl := Option.some.inj e
  exact h3 j u hu

theorem RowF.drop {W : World} {F : Nat → Prop} {ad : Addr} {cs : List Value} (h : RowF W F (some ad) cs) (n : Nat) : RowF W F (some (ad.add n)) (cs.drop n) := fun hp => by
  rw [List.length_drop] at hp
  obtain ⟨a', e, h1, h2, h3⟩ := h (by omega)
  obtain rfl := Option.some.inj e
  exact ⟨_, rfl, by rw [st_block]; exact h1, by rw [st_block]; exact h2, fun j v hv => by rw [Go.Deep.add_add]; exact h3 _ _ (by rw [List.getElem?_drop] at hv; exact hv)⟩

theorem RowF.take {W : World} {F : Nat → Prop} {A : Option Addr} {cs : List Value} (h : RowF W F A cs) (n : Nat) : RowF W F A (cs.take n) := fun hp => by
  rw [List.length_take] at hp
  obtain ⟨ad, e, h1, h2, h3⟩ := h (by omega)
  exact ⟨ad, e, h1, h2, fun j v hv => h3 j v (by
    have := (List.getElem?_eq_some_iff.1 hv).1
    rw [List.length_take] at this
    rwa [List.getElem?_take_of_lt (by omega)] at hv)⟩

/-- a row of the call's own -/
theorem own_rowF {W : World} {F : Nat → Prop} {H n sz : Nat} {v : Value} {e : TypeId} {cs : List Value} (h : W.ownsRow H e sz v n cs) (hl : cs.length = n * sz) (hF : ∀ k, F k → k < H) : ∃ (A : Option Addr) (c : Nat), v = .slice A n c ∧ RowF W F A cs ∧ n ≤ c ∧ c ≤ maxLen ∧ (A = none → n = 0 ∧ c = 0) := by
  rcases h.2 with ⟨rfl, rfl⟩ | ⟨g, cap, cur, rfl, hH, hg, h1, h2, hsz, htk⟩
  · exact ⟨none, 0, rfl, fun hp => by rw [hl] at hp; simp at hp, Nat.le_refl _, Nat.zero_le _, fun _ => ⟨rfl, rfl⟩⟩
  · refine ⟨_, cap, rfl, fun _ => ⟨_, rfl, (Array.getElem?_eq_some_iff.1 hg).1, fun hf => by have := hF _ hf; simp only at this; omega, fun j u hu => ?_⟩, h1, h2, fun e => by cases e⟩
    rw [addr_head]
    refine blk_cell hg ?_
    have hj := (List.getElem?_eq_some_iff.1 hu).1
    rw [← htk, List.getElem?_take_of_lt (by omega)] at hu
    rw [← Array.getElem?_toList]; exact hu

theorem flatN_len {α : Type} {f : α → List Value} {sz : Nat} (hf : ∀ x, (f x).length = sz) (L : List α) : (L.flatMap f).length = L.length * sz := by
  induction L with
  | nil => simp
  | cons x r ih => rw [List.flatMap_cons, List.length_append, ih, hf, List.length_cons, Nat.succ_mul]; omega

theorem flatN_at {α : Type} {f : α → List Value} {sz : Nat} (hf : ∀ x, (f x).length = sz) : ∀ {L : List α} {i : Nat} (h : i < L.length) {j : Nat} (_ : j < sz), (L.flatMap f)[i * sz + j]? = (f L[i])[j]?
  | [], _, h, _, _ => absurd h (by simp)
  | x :: r, 0, _, j, hj => by
    rw [List.flatMap_cons, List.getElem?_append_left (by rw [hf]; omega), Nat.zero_mul, Nat.zero_add]; rfl
  | x :: r, i + 1, h, j, hj => by
    rw [List.flatMap_cons, List.getElem?_append_right (by rw [hf, Nat.succ_mul]; omega), hf, show (i + 1) * sz + j - sz = i * sz + j by rw [Nat.succ_mul]; omega, flatN_at hf (L := r) (by simpa using h) hj]
    rfl

theorem flatN_drop {α : Type} {f : α → List Value} {sz : Nat} (hf : ∀ x, (f x).length = sz) : ∀ (L : List α) (i : Nat), (L.flatMap f).drop (i * sz) = (L.drop i).flatMap f
  | [], i => by simp
  | x :: r, 0 => by simp
  | x :: r, i + 1 => by
    rw [List.flatMap_cons, List.drop_succ_cons, ← flatN_drop hf r i, show (i + 1) * sz = (f x).length + i * sz by rw [hf, Nat.succ_mul]; omega, List.drop_append, Nat.add_sub_cancel_left, List.drop_of_length_le (by omega), List.nil_append]

theorem flatN_take {α : Type} {f : α → List Value} {sz : Nat} (hf : ∀ x, (f x).length = sz) : ∀ (L : List α) (i : Nat), (L.flatMap f).take (i * sz) = (L.take i).flatMap f
  | [], i => by simp
  | x :: r, 0 => by simp
  | x :: r, i + 1 => by
    rw [List.flatMap_cons, List.take_succ_cons, List.flatMap_cons, ← flatN_take hf r i, show (i + 1) * sz = (f x).length + i * sz by rw [hf, Nat.succ_mul]; omega, List.take_append, Nat.add_sub_cancel_left, List.take_of_length_le (by omega)]

/-- one of a row -/
theorem RowF.at {α : Type} {f : α → List Value} {sz : Nat} {W : World} {F : Nat → Prop} {A : Option Addr} {L : List α} (h : RowF W F A (L.flatMap f)) (hf : ∀ x, (f x).length = sz) (hz : 0 < sz) {i : Nat} (hi : i < L.length) : ∃ ad, A = some ad ∧ ad.block < W.heap.size ∧ ¬ F ad.block ∧ ∀ j v, (f L[i])[j]? = some v → W.cell? (ad.add (i * sz + j)) = some v := by
  obtain ⟨ad, e, h1, h2, h3⟩ := h (by rw [flatN_len hf]; exact Nat.mul_pos (by omega) hz)
  exact ⟨ad, e, h1, h2, fun j v hv => h3 _ _ (by
    have := (List.getElem?_eq_some_iff.1 hv).1
    rw [hf] at this
    rw [flatN_at hf hi this]; exact hv)⟩

/-! ### a part of a slice, of any elements -/

theorem slice_fromN (t e : TypeId) (i : TypeInfo) (ht : Try.prog.underlying t = some (.slice (Try.prog.elem t))) (he : Try.prog.elem t = e) (hi : Try.prog.info? e = some i) (sz : Nat) (hsz : i.size = sz)
    (A : Option Addr) (m c n : Nat) (hn : n ≤ m) (hc : m ≤ c) (hnil : A = none → m = 0 ∧ c = 0) : ∃ (A' : Option Addr) (c' : Nat),
    (∀ W, (Instr.slice t (.slice A m c) (some (.int .i64 (n : Int))) none none).run Try.prog W = .ok (.slice A' (m - n) c') W) ∧
    (∀ W F (cs : List Value), cs.length = m * sz → RowF W F A cs → RowF W F A' (cs.drop (n * sz))) ∧ (A' = none → m - n = 0 ∧ c' = 0) ∧ m - n ≤ c' ∧ c' ≤ c := by
  refine ⟨if c = n then A else A.map (·.add (n * sz)), c - n, fun W => ?_, fun W F cs hl h => ?_, fun h => ?_, by omega, by omega⟩
  · have e1 := run_slice_l (P := Try.prog) W t A m c ht .i64 (n : Int) (by omega) (by omega)
    rw [e1, he]
    simp [sizeOf, typeInfo, hi, hsz, sliced]
  · by_cases e1 : c = n
    · rw [List.drop_of_length_le (by rw [hl, show m = n by omega]; exact Nat.le_refl _)]
      exact RowF.nil _ _ _
    · rw [if_neg e1]
      cases A with
      | none =>
        rw [List.drop_of_length_le (by rw [hl, (hnil rfl).1]; omega)]
        exact RowF.nil _ _ _
      | some ad => exact h.drop _
  · by_cases e1 : c = n
    · rw [if_pos e1] at h; have := hnil h; omega
    · rw [if_neg e1] at h
      cases A with
      | none => have := hnil rfl; omega
      | some ad => simp at h

theorem slice_toN (t e : TypeId) (i : TypeInfo) (ht : Try.prog.underlying t = some (.slice (Try.prog.elem t))) (he : Try.prog.elem t = e) (hi : Try.prog.info? e = some i)
    (A : Option Addr) (m c n : Nat) (hn : n ≤ c) : ∀ W, (Instr.slice t (.slice A m c) none (some (.int .i64 (n : Int))) none).run Try.prog W = .ok (.slice A n c) W := fun W => by
  have e1 := run_slice_h (P := Try.prog) W t A m c ht .i64 (n : Int) (by omega) (by omega)
  rw [e1, he]
  have ha : ∀ a : Addr, a.add 0 = a := fun a => by unfold Addr.add; rw [if_pos rfl]
  by_cases h : c = 0
  · simp [sizeOf, typeInfo, hi, sliced, h]
  · cases A with
    | none => simp [sizeOf, typeInfo, hi, sliced]
    | some a => simp [sizeOf, typeInfo, hi, sliced, ha]

/-! ### appends of any elements -/

theorem run_append_optN {P : Program} (w : World) (base : Nat) (t ty e : TypeId) (i : TypeInfo) (z : Value) (sz bytes : Nat) (ht : P.underlying t = some (.slice e)) (hi : P.info? e = some i) (hz : i.zero = some z)
    (hsize : i.size = sz) (hby : i.bytes = bytes) (hzs : z.cells.size = sz) (h0 : 0 < sz) (v : Value) (n : Nat) (xs : List Value) (hown : w.ownsRow base e sz v n xs)
    (A : Option Addr) (m c : Nat) (news : List Value) (hl : news.length = m * sz) (hA : A = none → m = 0 ∧ c = 0) (hnews : ∀ ad, A = some ad → ∀ j u, news[j]? = some u → w.cell? (ad.add j) = some u) (h1 : ∀ u ∈ news, u.oneCell' = true)
    (h63 : n + m ≤ maxLen) (hbytes : (n + m) * bytes ≤ 140737488355328) (hbase : base ≤ w.heap.size) :
    ∃ v' w', (Builtin.append_ #[t, t] ty #[v, .slice A m c]).run P w = .ok v' w' ∧ w'.ownsRow base e sz v' (n + m) (xs ++ news) ∧ w.grownBy w' v.ownBlock ∧ (v'.ownBlock = v.ownBlock ∨ v'.ownBlock = some w.heap.size) := by
  cases A with
  | none =>
    obtain ⟨rfl, rfl⟩ := hA rfl
    obtain rfl : news = [] := List.eq_nil_of_length_eq_zero (by omega)
    exact ⟨v, w, run_append_owned_none (P := P) w base t ty e i sz ht hi _ _ _ hown, by rw [List.append_nil]; exact hown, ⟨rfl, rfl, rfl, Nat.le_refl _, fun _ _ _ => rfl⟩, .inl rfl⟩
  | some ad =>
    obtain ⟨v', w', hr, h2, h3, _, h5⟩ := run_append_own_at (P := P) w base t ty e i z sz bytes ht hi hz hsize hby hzs h0 v n xs hown ad m c news hl (hnews ad rfl) h1 h63 hbytes hbase
    exact ⟨v', w', hr, h2, h3, h5⟩

theorem wpList_append_optN {P : Program} {w : World} {ops : Array Oper} {rest : List Oper} {o : Oper} {a : Act} {Q : Exit → Act → World → Prop} (hgd : o.guard = none) (s x : Operand) (t : TypeId)
    (ho : o.op = .call { callee := .builtin .append, args := #[s, x], argTypes := #[t, t] })
    (base : Nat) (e : TypeId) (i : TypeInfo) (z : Value) (sz bytes : Nat) (ht : P.underlying t = some (.slice e)) (hi : P.info? e = some i) (hz : i.zero = some z)
    (hsize : i.size = sz) (hby : i.bytes = bytes) (hzs : z.cells.size = sz) (h0 : 0 < sz) (v : Value) (n : Nat) (xs : List Value) (hs : a.eval s = v) (hown : w.ownsRow base e sz v n xs)
    (A : Option Addr) (m c : Nat) (news : List Value) (hx : a.eval x = .slice A m c) (hl : news.length = m * sz) (hA : A = none → m = 0 ∧ c = 0) (hnews : ∀ ad, A = some ad → ∀ j u, news[j]? = some u → w.cell? (ad.add j) = some u) (h1 : ∀ u ∈ news, u.oneCell' = true)
    (h63 : n + m ≤ maxLen) (hbytes : (n + m) * bytes ≤ 140737488355328) (hbase : base ≤ w.heap.size)
    (h : ∀ v' w', w'.ownsRow base e sz v' (n + m) (xs ++ news) → w.grownBy w' v.ownBlock → (v'.ownBlock = v.ownBlock ∨ v'.ownBlock = some w.heap.size) → wpList P ops Q rest (a.put o.dst v') w') :
    wpList P ops Q (o :: rest) a w := by
  refine wpList_plain hgd fun K hK => ?_
  obtain ⟨v', w', hr, h2, h3, h5⟩ := run_append_optN (P := P) w base t o.type e i z sz bytes ht hi hz hsize hby hzs h0 v n xs hown A m c news hl hA hnews h1 h63 hbytes hbase
  unfold Oper.wp execOp
  simp only [ho, resolve, invoke, builtin, Sem.run_bind, Sem.run_pure, Result.andThen_ok, List.map_toArray, List.map_cons, List.map_nil, hs, hx, hr]
  exact hK _ _ (h v' w' h2 h3 h5)

/-- append onto an empty literal: a row of its own, no old block written -/
theorem run_append_emptyN {P : Program} (w : World) (base : Nat) (t ty e : TypeId) (i : TypeInfo) (z : Value) (sz bytes : Nat) (ht : P.underlying t = some (.slice e)) (hi : P.info? e = some i) (hz : i.zero = some z)
    (hsize : i.size = sz) (hby : i.bytes = bytes) (hzs : z.cells.size = sz) (h0 : 0 < sz) (g : Nat) (hg : w.heap[g]? = some (.cells #[] e (0, 0))) (hbg : base ≤ g)
    (A : Option Addr) (m c : Nat) (news : List Value) (hl : news.length = m * sz) (hA : A = none → m = 0 ∧ c = 0) (hnews : ∀ ad, A = some ad → ∀ j u, news[j]? = some u → w.cell? (ad.add j) = some u) (h1 : ∀ u ∈ news, u.oneCell' = true)
    (h63 : m ≤ maxLen) (hbytes : m * bytes ≤ 140737488355328) :
    ∃ v' w', (Builtin.append_ #[t, t] ty #[.slice (some ⟨g, 0, none⟩) 0 0, .slice A m c]).run P w = .ok v' w' ∧ w'.ownsRow base e sz v' m news ∧ Below w.heap.size w w' := by
  have hlt : g < w.heap.size := (Array.getElem?_eq_some_iff.1 hg).1
  have hown : w.ownsRow base e sz (.slice (some ⟨g, 0, none⟩) 0 0) 0 [] := ⟨by simp, .inr ⟨g, 0, #[], rfl, hbg, hg, Nat.le_refl _, Nat.zero_le _, by simp, by simp⟩⟩
  cases A with
  | none =>
    obtain ⟨rfl, rfl⟩ := hA rfl
    obtain rfl : news = [] := List.eq_nil_of_length_eq_zero (by omega)
    exact ⟨_, _, run_append_owned_none (P := P) w base t ty e i sz ht hi _ _ _ hown, hown, Below.refl _ _⟩
  | some ad =>
    by_cases hm : m = 0
    · subst hm
      obtain rfl : news = [] := List.eq_nil_of_length_eq_zero (by omega)
      have hr := run_append_room (P := P) w t ty e i ht hi g 0 0 #[] hg ad 0 c [] (by simp) (fun j u h => by simp at h) (fun u h => by simp at h) (by omega) (by simp)
      have he : (List.take (0 * i.size) (#[] : Array Value).toList ++ ([] : List Value) ++ List.drop (0 * i.size + ([] : List Value).length) (#[] : Array Value).toList).toArray = (#[] : Array Value) := by simp
      rw [he] at hr
      refine ⟨_, _, hr, ?_, ?_⟩
      · refine ⟨by simp, .inr ⟨g, 0, #[], rfl, hbg, ?_, Nat.le_refl _, Nat.zero_le _, by simp, by simp⟩⟩
        exact setRow_heap w g _ _ e _ hg
      · exact setRow_same hg
    · have hb2 : (0 + m) * bytes ≤ 140737488355328 := by rw [Nat.zero_add]; exact hbytes
      obtain ⟨v', w', hr, h2, h3, _, _⟩ := run_append_own_at (P := P) w base t ty e i z sz bytes ht hi hz hsize hby hzs h0 _ 0 [] hown ad m c news hl (hnews ad rfl) h1 (by omega) hb2 (by omega)
      have hr2 := run_append_grow (P := P) w t ty e i z ht hi hz ⟨g, 0, none⟩ 0 0 [] (by simp) (fun j v h => by simp at h) ad m c news (by rw [hl, hsize]) (hnews ad rfl) (by omega) (by unfold maxLen at h63; omega) (growslice_fits (by omega) (by rw [hby]; exact hb2))
      rw [hr] at hr2
      simp only [Result.ok.injEq] at hr2
      obtain ⟨e1, e2⟩ := hr2
      rw [Nat.zero_add, List.nil_append] at h2
      refine ⟨v', w', hr, h2, ?_⟩
      rw [e2]
      exact (Below.refl _ w).drew.alloc (by simp) _

/-- a row of elements of another type stays while one grows -/
theorem rgrow2 {W W' : World} {e e' : TypeId} {H H' s s' n n' : Nat} {v v' : Value} {xs xs' : List Value} (h : W.ownsRow H e s v n xs) (h' : W.ownsRow H' e' s' v' n' xs') (hne : e ≠ e') (hg : W.grownBy W' v'.ownBlock) : W'.ownsRow H e s v n xs := by
  rcases h with ⟨hl, h0 | ⟨i, cap, cur, hv, hb, hgt, rest⟩⟩
  · exact ⟨hl, .inl h0⟩
  · refine ⟨hl, .inr ⟨i, cap, cur, hv, hb, (hg.block i (Array.getElem?_eq_some_iff.1 hgt).1 (fun hi => ?_)).trans hgt, rest⟩⟩
    rcases h' with ⟨_, ⟨hn, _⟩ | ⟨i', cap', cur', hv', _, hgt', _⟩⟩
    · rw [hn] at hi; cases hi
    · rw [hv'] at hi
      obtain rfl : i = i' := by simpa [Value.ownBlock] using hi
      rw [hgt] at hgt'
      simp only [Option.some.injEq, Obj.cells.injEq] at hgt'
      exact hne hgt'.2.1

theorem own_row_at {W : World} {F : Nat → Prop} {H n sz c : Nat} {A : Option Addr} {e : TypeId} {cs : List Value} (h : W.ownsRow H e sz (.slice A n c) n cs) (hl : cs.length = n * sz) (hF : ∀ k, F k → k < H) : RowF W F A cs ∧ n ≤ c ∧ c ≤ maxLen ∧ (A = none → n = 0 ∧ c = 0) := by
  obtain ⟨A', c', e1, h1⟩ := own_rowF h hl hF
  simp only [Value.slice.injEq] at e1
  obtain ⟨rfl, -, rfl⟩ := e1
  exact h1

/-- an append of any row at a step of a region that draws its order -/
theorem step_append_optN {P : Program} {ops : Array Oper} {o : Oper} {a : Act} {w : World} {K : Act → World → Prop} {Q : Exit → Act → World → Prop} {E : Prop} (hgd : o.guard = none) (s x : Operand) (t : TypeId)
    (ho : o.op = .call { callee := .builtin .append, args := #[s, x], argTypes := #[t, t] })
    (base : Nat) (e : TypeId) (i : TypeInfo) (z : Value) (sz bytes : Nat) (ht : P.underlying t = some (.slice e)) (hi : P.info? e = some i) (hz : i.zero = some z)
    (hsize : i.size = sz) (hby : i.bytes = bytes) (hzs : z.cells.size = sz) (h0 : 0 < sz) (v : Value) (n : Nat) (xs : List Value) (hs : a.eval s = v) (hown : w.ownsRow base e sz v n xs)
    (A : Option Addr) (m c : Nat) (news : List Value) (hx : a.eval x = .slice A m c) (hl : news.length = m * sz) (hA : A = none → m = 0 ∧ c = 0) (hnews : ∀ ad, A = some ad → ∀ j u, news[j]? = some u → w.cell? (ad.add j) = some u) (h1 : ∀ u ∈ news, u.oneCell' = true)
    (h63 : n + m ≤ maxLen) (hbytes : (n + m) * bytes ≤ 140737488355328) (hbase : base ≤ w.heap.size)
    (h : ∀ v' w', w'.ownsRow base e sz v' (n + m) (xs ++ news) → w.grownBy w' v.ownBlock → (v'.ownBlock = v.ownBlock ∨ v'.ownBlock = some w.heap.size) → K (a.put o.dst v') w') :
    if Region.wanted o (yielded ops a.tmps) = true then Oper.wp P o a w K Q else E := by
  have hw : Region.wanted o (yielded ops a.tmps) = true := by simp [Region.wanted, hgd]
  rw [if_pos hw]
  obtain ⟨v', w', hr, h2, h3, h4⟩ := run_append_optN (P := P) w base t o.type e i z sz bytes ht hi hz hsize hby hzs h0 v n xs hown A m c news hl hA hnews h1 h63 hbytes hbase
  unfold Oper.wp execOp
  simp only [ho, resolve, invoke, builtin, Sem.run_bind, Sem.run_pure, Result.andThen_ok, List.map_toArray, List.map_cons, List.map_nil, hs, hx, hr]
  exact h v' w' h2 h3 h4

end Nt
end Go.Proofs.Ytkpcfakfkcghdaa
