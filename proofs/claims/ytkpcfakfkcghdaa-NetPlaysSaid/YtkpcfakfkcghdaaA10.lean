/- Parts of the proof, joined: FloatK, BkGrow, LtClone, LtShape; their conditions stand with each. -/
import Derived.Maps.AppendAt
import Derived.Lib.SliceRun
import Derived.Test.YtkpcfakfkcghdaaA1
import Derived.Test.YtkpcfakfkcghdaaA3
import Derived.Test.YtkpcfakfkcghdaaA5
import Derived.Test.YtkpcfakfkcghdaaA6

/- As Float, but with a relation of one's own between the worlds ahead of an operation and behind it, in the place of 'no old block is written': for a head in which an operation writes into a block that an earlier one made (an append into room). -/
namespace Go.Proofs.Ytkpcfakfkcghdaa
open Go.RowKit

section
variable {P : Program} {ops : Array Oper} {md : Region.Mode}

/-- each operation of the head, one by one: what it yields, and where it lies if it is one that is numbered in A (a new block) -/
def floatStepsK (K : World → World → Prop) (P : Program) (md : Region.Mode) (ops : Array Oper) (A : Nat → Bool) (G : Nat → Value → World → Prop) (I : World → Prop) (F : (Nat → Value) → Act) : List Oper → Nat → Prop
  | [], _ => True
  | o :: r, i =>
    (∀ vs W, I W → (∀ j ∈ depsOf md o, G j (vs j) W) → ∀ R : Value → World → Prop,
      (∀ v W', G i v W' → K W W' → (A i = true → v = .pointer (some ⟨W.heap.size, 0, none⟩)) → R v W') →
      if Region.wanted o (yielded ops (F vs).tmps) then floatOp P o (F vs) W R else R undef W) ∧
    floatStepsK K P md ops A G I F r (i + 1)

theorem floatStepsK_get {K : World → World → Prop} {A : Nat → Bool} {G : Nat → Value → World → Prop} {I : World → Prop} {F : (Nat → Value) → Act} : ∀ (l : List Oper) (k i : Nat) (o : Oper), floatStepsK K P md ops A G I F l k → l[i]? = some o →
    ∀ vs W, I W → (∀ j ∈ depsOf md o, G j (vs j) W) → ∀ R : Value → World → Prop,
      (∀ v W', G (k + i) v W' → K W W' → (A (k + i) = true → v = .pointer (some ⟨W.heap.size, 0, none⟩)) → R v W') →
      if Region.wanted o (yielded ops (F vs).tmps) then floatOp P o (F vs) W R else R undef W
  | [], _, _, _, _, h => by simp at h
  | p :: r, k, 0, o, hs, h => by
    obtain rfl : p = o := by simpa using h
    exact hs.1
  | p :: r, k, i + 1, o, hs, h => by
    have := floatStepsK_get r (k + 1) i o hs.2 (by simpa using h)
    rw [show k + 1 + i = k + (i + 1) by omega] at this
    exact this

theorem wp_floatK {K : World → World → Prop} {A : Nat → Bool} {G : Nat → Value → World → Prop} {I : World → Prop} {Q : Exit → Act → World → Prop} {a : Act} (n : Nat) (hB : floatB md ops n = true)
    (hG : ∀ i v W W', G i v W → K W W' → G i v W')
    (hA : ∀ i v W, A i = true → G i v W → ∃ p, v = .pointer (some ⟨p, 0, none⟩) ∧ p < W.heap.size)
    (hI : ∀ W W', I W → K W W' → I W')
    (hs : floatStepsK K P md ops A G I (fun vs => putAll vs (ops.toList.take n) 0 a) (ops.toList.take n) 0)
    (hl : ∀ vs W, I W → (∀ j, j < n → G j (vs j) W) → (∀ i j, i < n → j < n → A i = true → A j = true → i ≠ j → vs i ≠ vs j) →
      wpList P ops Q (ops.toList.drop n) (putAll vs (ops.toList.take n) 0 a) W) :
    ∀ (fuel : Nat) (ls : Array Bool) (vs : Nat → Value) (W : World), ls.toList.count false = fuel → HeadInv md ops n ls → I W →
      (∀ j, j < n → ls.getD j false = true → G j (vs j) W) →
      (∀ i j, i < n → j < n → ls.getD i false = true → ls.getD j false = true → A i = true → A j = true → i ≠ j → vs i ≠ vs j) →
      wpAny P md ops Q fuel ls (putAll vs (ops.toList.take n) 0 a) W := by
  simp only [floatB, Bool.and_eq_true, Bool.or_eq_true, decide_eq_true_eq] at hB
  obtain ⟨⟨⟨⟨hn, hc⟩, hsl⟩, hd⟩, hseq⟩ := hB
  intro fuel
  induction fuel with
  | zero =>
    intro ls vs W hcount inv hi hg hdist
    have hall : ∀ j, j < ops.size → ls.getD j false = true := fun j hj => by
      have hjs : j < ls.size := by rw [inv.size]; exact hj
      cases hb : ls[j] with
      | true => simp [hjs, hb]
      | false => exact absurd (List.count_pos_iff.2 (by rw [← hb]; exact Array.mem_toList_iff.2 (Array.getElem_mem hjs)) : 0 < ls.toList.count false) (by omega)
    have hne : n = ops.size := by
      rcases Nat.lt_or_ge n ops.size with h | h
      · have h1 := inv.tail n (Nat.le_refl _) h
        have h2 := hall n h
        rw [getD_both h1] at h2
        cases h2
      · omega
    subst hne
    refine ⟨?_, ?_⟩
    · refine List.eq_nil_iff_forall_not_mem.2 fun i hi => ?_
      obtain ⟨h0, o, ho, _⟩ := mem_ready.1 hi
      have := hall i (Array.getElem?_eq_some_iff.1 ho).1
      rw [getD_both h0] at this
      cases this
    · have := hl vs W hi (fun j hj => hg j hj (hall j hj)) (fun i j hi hj => hdist i j hi hj (hall i hi) (hall j hj))
      rw [List.drop_of_length_le (by simp)] at this
      exact this
  | succ fuel ih =>
    intro ls vs W hcount inv hi hg hdist
    by_cases hall : ∀ j, j < n → ls.getD j false = true
    · have hlist : ls = (List.replicate n true ++ List.replicate (ops.size - n) false).toArray := by
        apply Array.ext_getElem?
        intro j
        simp only [List.getElem?_toArray]
        rw [List.getElem?_append, List.length_replicate]
        by_cases h1 : j < n
        · have h2 := hall j h1
          have hjs : j < ls.size := by rw [inv.size]; omega
          rw [if_pos h1, List.getElem?_replicate, if_pos h1]
          simp only [Array.getD_eq_getD_getElem?, hjs, getElem?_pos, Option.getD_some] at h2 ⊢
          rw [h2]
        · rw [if_neg h1, List.getElem?_replicate]
          by_cases h2 : j < ops.size
          · have h3 := inv.tail j (by omega) h2
            have hjs : j < ls.size := by rw [inv.size]; omega
            rw [if_pos (by omega)]
            simp only [Array.getD_eq_getD_getElem?, hjs, getElem?_pos, Option.getD_some] at h3 ⊢
            rw [h3]
          · rw [if_neg (by omega), Array.getElem?_eq_none (by rw [inv.size]; omega)]
      have hfuel : fuel + 1 = (ops.toList.drop n).length := by
        rw [← hcount, hlist]
        simp [List.count_append, List.count_replicate]
      rw [hfuel]
      refine wpAny_of_seq (ops.toList.drop n) n ls _ W (fun j => by simp [List.getElem?_drop]) ?_ (hl vs W hi (fun j hj => hg j hj (hall j hj)) (fun i j hi hj => hdist i j hi hj (hall i hi) (hall j hj)))
      rw [hlist, show (ops.toList.drop n).length = ops.size - n by simp]
      exact hseq
    · -- one of the head has not come up yet: the least such
      have hleast : ∃ i, i < n ∧ ls.getD i false = false ∧ ∀ j, j < i → ls.getD j false = true := by
        have : ∀ k, (∀ j, j < k → ls.getD j false = true) ∨ ∃ i, i < k ∧ ls.getD i false = false ∧ ∀ j, j < i → ls.getD j false = true := by
          intro k
          induction k with
          | zero => exact .inl fun j hj => absurd hj (by omega)
          | succ k ihk =>
            rcases ihk with h | ⟨i, h1, h2, h3⟩
            · cases hk : ls.getD k false with
              | true =>
                left
                intro j hj
                rcases Nat.lt_or_ge j k with h' | h'
                · exact h j h'
                · obtain rfl : j = k := by omega
                  exact hk
              | false => exact .inr ⟨k, by omega, hk, h⟩
            · exact .inr ⟨i, by omega, h2, h3⟩
        rcases this n with h | h
        · exact absurd h hall
        · exact h
      obtain ⟨i0, hi0, hi0f, hi0l⟩ := hleast
      have hdeps : ∀ i o, i < n → ops[i]? = some o → ∀ e ∈ o.after, Region.binds md e = true → e.on < i := fun i o hi ho e he hb => by
        have h1 := List.all_eq_true.1 hd i (List.mem_range.2 hi)
        simp only [ho, Option.map_some, Option.getD_some, List.all_eq_true, decide_eq_true_eq] at h1
        exact h1 e.on (List.mem_map.2 ⟨e, List.mem_filter.2 ⟨by simpa using he, hb⟩, rfl⟩)
      have hi0s : i0 < ls.size := by rw [inv.size]; omega
      have hready0 : i0 ∈ Region.ready md ops ls := by
        refine mem_ready.2 ⟨getD_in hi0s hi0f, ops[i0]'(by omega), by simp [show i0 < ops.size by omega], fun e he hb => ?_⟩
        exact hi0l _ (hdeps i0 _ hi0 (by simp [show i0 < ops.size by omega]) e he hb)
      refine ⟨fun h => absurd hready0 (by rw [h]; simp), fun i hir => ?_⟩
      obtain ⟨hun, o, ho, hafter⟩ := mem_ready.1 hir
      have hio : i < ops.size := (Array.getElem?_eq_some_iff.1 ho).1
      have hin : i < n := by
        rcases Nat.lt_or_ge i n with h | h
        · exact h
        · rcases hc with h' | ⟨h1, h2⟩
          · omega
          · exact absurd hir (tail_waits h1 h2 (by omega) inv (n - i0) i0 rfl hi0 (getD_in hi0s hi0f) i h)
      have his : i < ls.size := by rw [inv.size]; omega
      have hget : (ops.toList.take n)[i]? = some o := by
        rw [List.getElem?_take, if_pos hin]
        simpa using ho
      have hcount' : (ls.setIfInBounds i true).toList.count false = fuel := by
        have h1 : ls.toList[i]? = some false := by
          have := hun
          simp only [Array.getD_eq_getD_getElem?, his, getElem?_pos, Option.getD_some] at this
          simp [his, this]
        have := count_set_true h1
        rw [Array.toList_setIfInBounds]
        omega
      have hstep := floatStepsK_get (ops.toList.take n) 0 i o hs hget vs W hi
        (fun j hj => by
          obtain ⟨e, he, rfl⟩ := List.mem_map.1 hj
          obtain ⟨he1, he2⟩ := List.mem_filter.1 he
          have he1' : e ∈ o.after := by simpa using he1
          exact hg _ (by have := hdeps i o hin ho e he1' he2; omega) (hafter e he1' he2))
        (fun v W' => wpAny P md ops Q fuel (ls.setIfInBounds i true) ((putAll vs (ops.toList.take n) 0 a).put o.dst v) W')
        (fun v W' hgv hb hav => by
          rw [Nat.zero_add] at hgv hav
          rw [putAll_set vs v _ 0 i a o hsl hget]
          refine ih (ls.setIfInBounds i true) _ W' hcount' (inv.set hir hin) (hI _ _ hi hb) (fun j hj hlj => ?_) (fun j k hj hk hlj hlk haj hak hjk => ?_)
          · show G j (if j = 0 + i then v else vs j) W'
            by_cases hji : j = i
            · subst hji
              rw [if_pos (by omega)]; exact hgv
            · rw [if_neg (by omega)]
              exact hG _ _ _ _ (hg j hj (by rw [getD_set_ne false (Ne.symm hji)] at hlj; exact hlj)) hb
          · have old : ∀ x, x < n → x ≠ i → (ls.setIfInBounds i true).getD x false = true → A x = true → ∀ q, v = .pointer (some ⟨q, 0, none⟩) → q = W.heap.size → vs x ≠ v := fun x hx hxi hlx hax q hv hq hne => by
              obtain ⟨p, hp, hlt⟩ := hA x (vs x) W hax (hg x hx (by rw [getD_set_ne false (Ne.symm hxi)] at hlx; exact hlx))
              rw [hp, hv] at hne
              simp only [Value.pointer.injEq, Option.some.injEq, Addr.mk.injEq, and_true] at hne
              omega
            show (if j = 0 + i then v else vs j) ≠ (if k = 0 + i then v else vs k)
            by_cases hji : j = i
            · subst hji
              rw [if_pos (by omega), if_neg (by omega)]
              exact Ne.symm (old k hk (Ne.symm hjk) hlk hak _ (hav haj) rfl)
            · rw [if_neg (by omega)]
              by_cases hki : k = i
              · subst hki
                rw [if_pos (by omega)]
                exact old j hj hji hlj haj _ (hav hak) rfl
              · rw [if_neg (by omega)]
                exact hdist j k hj hk (by rw [getD_set_ne false (Ne.symm hji)] at hlj; exact hlj) (by rw [getD_set_ne false (Ne.symm hki)] at hlk; exact hlk) haj hak hjk)
      unfold wpOp
      simp only [ho]
      split
      · rename_i hw
        rw [if_pos hw] at hstep
        exact .inl (floatOp_wp hstep fun _ _ h => h)
      · rename_i hw
        rw [if_neg hw] at hstep
        exact hstep

theorem wp_region_floatK {K : World → World → Prop} {id : Nat} {Q : Exit → Act → World → Prop} {a : Act} {w : World} {l : List Oper} (n : Nat) (A : Nat → Bool) (G : Nat → Value → World → Prop) (I : World → Prop)
    (hm : P.follows .mixedOrders = true) (hB : floatB .any l.toArray n = true)
    (hG : ∀ i v W W', G i v W → K W W' → G i v W')
    (hA : ∀ i v W, A i = true → G i v W → ∃ p, v = .pointer (some ⟨p, 0, none⟩) ∧ p < W.heap.size)
    (hI : ∀ W W', I W → K W W' → I W') (hKd : ∀ W, K W W.drew) (hI0 : I w)
    (hs : floatStepsK K P .any l.toArray A G I (fun vs => putAll vs (l.take n) 0 a) (l.take n) 0)
    (hl : ∀ vs W, I W → (∀ j, j < n → G j (vs j) W) → (∀ i j, i < n → j < n → A i = true → A j = true → i ≠ j → vs i ≠ vs j) →
      wpList P l.toArray Q (l.drop n) (putAll vs (l.take n) 0 a) W) : (Code.region id l.toArray true).wp P Q a w := by
  refine wp_region_any hm ?_
  obtain ⟨vs, hvs⟩ := putAll_self a (l.take n) 0
  have := wp_floatK (K := K) (md := .any) (ops := l.toArray) (Q := Q) (a := a) n hB hG hA hI hs hl l.toArray.size (Array.replicate l.toArray.size false) vs w.drew (by simp)
    ⟨by simp, fun _ _ _ z => (by rw [getD_replicate_false] at z; cases z), fun t _ z => getD_in (by simpa using z) (getD_replicate_false _ _)⟩
    (hI _ _ hI0 (hKd w)) (fun j _ z => (by rw [getD_replicate_false] at z; cases z)) (fun i j _ _ z => (by rw [getD_replicate_false] at z; cases z))
  rw [show putAll vs (List.take n l.toArray.toList) 0 a = a from hvs] at this
  exact this


/-! ### in words that a walk can use -/

def satK (L : List (Value → World → Prop)) (i : Nat) : Value → World → Prop := L.getD i fun _ _ => True

def FloatStepK (P : Program) (K : World → World → Prop) (L : List (Value → World → Prop)) (ds : List Nat) (I : World → Prop) (a : Act) (i : Nat) (o : Oper) : Prop :=
  ∀ (vs : Nat → Value) (W : World) (ρ : Operand → Value), (∀ t, ρ (.tmp t) = pick vs ds 0 t (a.eval (.tmp t))) → (∀ v, ρ (.const v) = v) → (∀ f, ρ (.func f) = .func (.func f) #[] #[]) → (∀ g, ρ (.global g) = .pointer (some ⟨g, 0, none⟩)) →
    I W → (∀ j ∈ depsOf .any o, satK L j (vs j) W) → ∀ R : Value → World → Prop,
    (∀ v W', satK L i v W' → K W W' → R v W') →
    if Region.wanted o (fun j => boolOf (vs j)) then floatUpon P R ((execOp ρ o).run P W) else R undef W

def FloatAllK (P : Program) (K : World → World → Prop) (L : List (Value → World → Prop)) (ds : List Nat) (I : World → Prop) (a : Act) : List Oper → Nat → Prop
  | [], _ => True
  | o :: r, i => FloatStepK P K L ds I a i o ∧ FloatAllK P K L ds I a r (i + 1)

theorem wp_region_saidK {id : Nat} {Q : Exit → Act → World → Prop} {a : Act} {w : World} {l : List Oper} (n : Nat) (ds : List Nat) (L : List (Value → World → Prop)) (I : World → Prop) (K : World → World → Prop)
    (hm : P.follows .mixedOrders = true) (hB : floatB .any l.toArray n = true) (hds : slotsAre ds (l.take n) = true) (hsz : ds.all (· < a.tmps.size) = true) (hgd : guardsB n (l.take n) = true)
    (hL : ∀ i v W W', satK L i v W → K W W' → satK L i v W') (hI : ∀ W W', I W → K W W' → I W') (hKd : ∀ W, K W W.drew) (hI0 : I w)
    (hs : FloatAllK P K L ds I a (l.take n) 0)
    (hl : ∀ vs W, I W → (∀ j, j < n → satK L j (vs j) W) → wpList P l.toArray Q (l.drop n) (putAll vs (l.take n) 0 a) W) : (Code.region id l.toArray true).wp P Q a w := by
  have hsz' : ∀ d ∈ ds, d < a.tmps.size := fun d hd => by simpa using List.all_eq_true.1 hsz d hd
  have hyield : ∀ vs i o, (l.take n)[i]? = some o → Region.wanted o (yielded l.toArray (putAll vs (l.take n) 0 a).tmps) = Region.wanted o (fun j => boolOf (vs j)) := fun vs i o ho => by
    unfold Region.wanted
    cases hg : o.guard with
    | none => rfl
    | some gw =>
      obtain ⟨g, want⟩ := gw
      have hgn : g < n := by
        have := List.all_eq_true.1 hgd o (List.mem_of_getElem? ho)
        simpa [hg] using this
      have hn : n ≤ l.length := by
        simp only [floatB, Bool.and_eq_true, decide_eq_true_eq] at hB
        simpa using hB.1.1.1.1
      have hgl : (l.take n)[g]? = some (l[g]'(by omega)) := by rw [List.getElem?_take, if_pos hgn]; simp [show g < l.length by omega]
      obtain ⟨d, hd1, hd2⟩ := slots_nth ds (l.take n) g _ hds hgl
      have h1 : (putAll vs (l.take n) 0 a).eval (.tmp d) = vs g := by
        rw [putAll_pick vs d (l.take n) ds 0 a hds hsz', pick_nth ds (l.take n) 0 g d _ hds hd1, Nat.zero_add]
      have h2 : d < (putAll vs (l.take n) 0 a).tmps.size := by rw [putAll_size]; exact hsz' d (List.mem_of_getElem? hd1)
      have h3 : (putAll vs (l.take n) 0 a).tmps[d]? = some (vs g) := by
        simp only [Act.eval, Array.getD_eq_getD_getElem?, h2, getElem?_pos, Option.getD_some] at h1
        rw [Array.getElem?_eq_getElem h2, h1]
      have h4 : (l.toArray[g]?).bind (·.dst) = some d := by
        simp [show g < l.length by omega, hd2]
      have : yielded l.toArray (putAll vs (l.take n) 0 a).tmps g = boolOf (vs g) := by
        unfold yielded
        rw [h4, Option.bind_some, h3]
        cases vs g <;> rfl
      simp only [this]
  refine wp_region_floatK (K := K) n (fun _ => false) (fun i v W => satK L i v W) I hm hB hL (fun i v W h => by cases h) hI hKd hI0 ?_ (fun vs W h hg _ => hl vs W h hg)
  have : ∀ (m : List Oper) (k : Nat), (∀ i o, m[i]? = some o → (l.take n)[k + i]? = some o) → FloatAllK P K L ds I a m k →
      floatStepsK K P .any l.toArray (fun _ => false) (fun i v W => satK L i v W) I (fun vs => putAll vs (l.take n) 0 a) m k := by
    intro m
    induction m with
    | nil => intro _ _ _; trivial
    | cons o r ih =>
      intro k hk h
      refine ⟨fun vs W hi hdep R hR => ?_, ih (k + 1) (fun i o' ho' => by have := hk (i + 1) o' (by simpa using ho'); rw [show k + (i + 1) = k + 1 + i by omega] at this; exact this) h.2⟩
      have hstep := h.1 vs W (putAll vs (l.take n) 0 a).eval (fun t => putAll_pick vs t (l.take n) ds 0 a hds hsz') (fun _ => rfl) (fun _ => rfl) (fun _ => rfl) hi hdep R (fun v W' h1 h2 => hR v W' h1 h2 (fun h => by cases h))
      rw [hyield vs k o (by have := hk 0 o (by simp); simpa using this)]
      exact hstep
  exact this (l.take n) 0 (fun i o h => by rw [Nat.zero_add]; exact h) hs

end

end Go.Proofs.Ytkpcfakfkcghdaa

/- Onto a row of the call's own one cell is appended at a step of a drawn region: what stands, and what is there; no condition. -/
namespace Go.Proofs.Ytkpcfakfkcghdaa
namespace Bk
open Go.RowKit

/-- no old block is written, or the cell is laid behind the row, where there is room -/
def GrK (T : TypeId) (r : Option Nat) (pre : List Value) (u : Value) (W W' : World) : Prop :=
  Below W.heap.size W W' ∨ ∃ (g : Nat) (cur : Array Value), r = some g ∧ W.heap[g]? = some (.cells cur T (0, 0)) ∧ pre.length + 1 ≤ cur.size ∧ cur.toList.take pre.length = pre ∧ W' = W.setRow g (pre ++ [u] ++ cur.toList.drop (pre.length + 1)).toArray

section
variable {T : TypeId} {r : Option Nat} {pre : List Value} {u : Value} {w W W' : World}

theorem GrK.grown (h : GrK T r pre u W W') : W.grownBy W' r := by
  rcases h with h | ⟨g, cur, rfl, _, _, _, rfl⟩
  · exact ⟨h.os, h.tape, h.output, h.size, fun k hk _ => h.block k hk⟩
  · exact ⟨rfl, rfl, rfl, by simp, fun k _ hk => setRow_other W g k _ (fun e => hk (by rw [e]))⟩

theorem GrK.size (h : GrK T r pre u W W') : W.heap.size ≤ W'.heap.size := h.grown.size

theorem GrK.below {X : Nat} (h : Below X w W) (hX : X ≤ W.heap.size) (hr : ∀ g, r = some g → X ≤ g) (hk : GrK T r pre u W W') : Below X w W' := h.grown hk.grown hX hr

theorem GrK.cel {k : Nat} {t : TypeId} {xs : List Value} (h : Cel W k t xs) (hn : r ≠ some k) (hk : GrK T r pre u W W') : Cel W' k t xs := (hk.grown.block k h.lt (fun e => hn e.symm)).trans h

theorem GrK.blk {k : Nat} {o : Obj} (h : W.heap[k]? = some o) (hn : r ≠ some k) (hk : GrK T r pre u W W') : W'.heap[k]? = some o := (hk.grown.block k (Array.getElem?_eq_some_iff.1 h).1 (fun e => hn e.symm)).trans h

/-- the row, ahead of it -/
theorem GrK.first {H n : Nat} {v : Value} (h : W.ownsRow H T 1 v n pre) (hk : GrK T r pre u W W') : W'.ownsRow H T 1 v n pre := by
  rcases hk with hb | ⟨g, cur, rfl, hg, hz, ht, rfl⟩
  · exact st_keep h hb
  · refine ⟨h.1, ?_⟩
    rcases h.2 with h' | ⟨g2, cap2, cur2, hv, hH, hg2, h1, h2, h3, h4⟩
    · exact .inl h'
    · right
      by_cases e : g2 = g
      · subst e
        rw [hg] at hg2
        simp only [Option.some.injEq, Obj.cells.injEq, and_true] at hg2
        obtain rfl := hg2
        refine ⟨g2, cap2, _, hv, hH, setRow_heap W g2 _ _ T _ hg, h1, h2, ?_, ?_⟩
        · rw [← h3]
          simp only [List.size_toArray, List.length_append, List.length_drop, Array.length_toList, List.length_singleton]
          omega
        · rw [List.toList_toArray, List.append_assoc]
          have hl : pre.length = n * 1 := h.1
          rw [List.take_append_of_le_length (by omega), List.take_of_length_le (by omega)]
      · exact ⟨g2, cap2, cur2, hv, hH, (setRow_other W g g2 _ e).trans hg2, h1, h2, h3, h4⟩

/-- the row that has grown, wherever it lies -/
theorem GrK.more {H n : Nat} {v : Value} (h : W.ownsRow H T 1 v n (pre ++ [u])) (hk : GrK T r pre u W W') : W'.ownsRow H T 1 v n (pre ++ [u]) := by
  rcases hk with hb | ⟨g, cur, rfl, hg, hz, ht, rfl⟩
  · exact st_keep h hb
  · refine ⟨h.1, ?_⟩
    rcases h.2 with h' | ⟨g2, cap2, cur2, hv, hH, hg2, h1, h2, h3, h4⟩
    · exact .inl h'
    · right
      by_cases e : g2 = g
      · subst e
        rw [hg] at hg2
        simp only [Option.some.injEq, Obj.cells.injEq, and_true] at hg2
        obtain rfl := hg2
        refine ⟨g2, cap2, _, hv, hH, setRow_heap W g2 _ _ T _ hg, h1, h2, ?_, ?_⟩
        · rw [← h3]
          simp only [List.size_toArray, List.length_append, List.length_drop, Array.length_toList, List.length_singleton]
          omega
        · rw [List.toList_toArray]
          have hl : (pre ++ [u]).length = n * 1 := h.1
          rw [List.take_append_of_le_length (by omega), List.take_of_length_le (by omega)]
      · exact ⟨g2, cap2, cur2, hv, hH, (setRow_other W g g2 _ e).trans hg2, h1, h2, h3, h4⟩

theorem grown_none (h : W.grownBy W' none) : Below W.heap.size W W' := ⟨h.os, h.tape, h.output, h.size, fun k hk => h.block k hk (by simp)⟩

/-- one cell is appended -/
theorem run_grow1 {P : Program} {H bytes o : Nat} {t ty : TypeId} {i : TypeInfo} {z v : Value} (ht : P.underlying t = some (.slice T)) (hi : P.info? T = some i) (hz : i.zero = some z) (hsize : i.size = 1) (hby : i.bytes = bytes) (hzs : z.cells.size = 1)
    (hown : W.ownsRow H T 1 v pre.length pre) (hr : r = v.ownBlock) (ho : W.heap[o]? = some (.cells #[u] T (0, 0))) (h1 : u.oneCell' = true)
    (h63 : pre.length + 1 ≤ maxLen) (hbytes : (pre.length + 1) * bytes ≤ 140737488355328) (hbase : H ≤ W.heap.size) :
    ∃ v' W', (Builtin.append_ #[t, t] ty #[v, .slice (some ⟨o, 0, none⟩) 1 1]).run P W = .ok v' W' ∧ W'.ownsRow H T 1 v' (pre.length + 1) (pre ++ [u]) ∧ GrK T r pre u W W' ∧ (v'.ownBlock = r ∨ v'.ownBlock = some W.heap.size) := by
  subst hr
  obtain ⟨v', w', hrun, h2, h3, _, h5⟩ := run_append_own_at (P := P) W H t ty T i z 1 bytes ht hi hz hsize hby hzs (by decide) v pre.length pre hown ⟨o, 0, none⟩ 1 1 [u] rfl (str_one ho) (fun q hq => by simp at hq; subst hq; exact h1) h63 hbytes hbase
  refine ⟨v', w', hrun, h2, ?_, h5⟩
  rcases hown.2 with ⟨h', h''⟩ | ⟨g, cap, cur, hv, hbg, hg, hnc, hcm, hcs, htake⟩
  · subst h'
    exact .inl (grown_none h3)
  · subst hv
    by_cases hroom : pre.length + 1 ≤ cap
    · have hr2 := run_append_room (P := P) W t ty T i ht hi g pre.length cap cur hg ⟨o, 0, none⟩ 1 1 [u] (by rw [hsize]; rfl) (str_one ho) (fun q hq => by simp at hq; subst hq; exact h1) hroom (by rw [hsize]; simp; omega)
      rw [hrun] at hr2
      simp only [Result.ok.injEq] at hr2
      refine .inr ⟨g, cur, rfl, hg, by omega, by rw [Nat.mul_one] at htake; exact htake, ?_⟩
      rw [hr2.2, hsize, Nat.mul_one]
      rw [Nat.mul_one] at htake
      rw [htake]; rfl
    · have hr2 := run_append_grow (P := P) W t ty T i z ht hi hz ⟨g, 0, none⟩ pre.length cap pre (by rw [hsize, Nat.mul_one]) (hown.cells (g := g) rfl) ⟨o, 0, none⟩ 1 1 [u] (by rw [hsize]; rfl) (str_one ho) (by omega) (by unfold maxLen at h63; omega) (growslice_fits (by unfold maxLen at h63; omega) (by rw [hby]; exact hbytes))
      rw [hrun] at hr2
      simp only [Result.ok.injEq] at hr2
      left
      rw [hr2.2]
      exact (Below.refl _ W).drew.alloc (by simp) _

theorem satK_of {K : World → World → Prop} {L : List (Value → World → Prop)} (h : ∀ S ∈ L, ∀ v W W', S v W → K W W' → S v W') : ∀ i v W W', satK L i v W → K W W' → satK L i v W' := fun i v W W' hs hk => by
  unfold satK at hs ⊢
  rw [List.getD_eq_getElem?_getD] at hs ⊢
  cases e : L[i]? with
  | none => trivial
  | some S =>
    rw [e] at hs
    exact h S (List.mem_of_getElem? e) v W W' hs hk

end

end Bk
end Go.Proofs.Ytkpcfakfkcghdaa

/- What slices.Clone answers at texts; contract; no condition but the range. -/
namespace Go.Proofs.Ytkpcfakfkcghdaa
namespace Lt
open Go.RowKit Bk

attribute [local go_sem ↓] Go.wp_at_zero Go.wp_at_succ
attribute [local go_sem] floatUpon pick

set_option maxRecDepth 20000 in
set_option maxHeartbeats 2000000 in
theorem clone_any (ad : Addr) (c : Nat) (l : List ByteArray) (w : World) (h : StrsAt w (some ad) l) (h16 : l.length * 16 ≤ 140737488351232) :
    Calls Try.prog 61 #[.slice (some ad) l.length c] w fun e w' => ∃ (A1 : Option Addr) (c1 : Nat), e = .returned (.slice A1 l.length c1) ∧ w'.ownsRow w.heap.size 9 1 (.slice A1 l.length c1) l.length (strV l) ∧ Below w.heap.size w w' := by
  obtain ⟨i0, hi, hz0, hz1, hz2⟩ := info_parts Try.infoStr
  have HSt := Lib.hid h
  have hO0 : (w.alloc (.cells #[] 9)).ownsRow w.heap.size 9 1 (.slice (some ⟨w.heap.size, 0, none⟩) 0 0) 0 [] := World.ownsRow_lit (base := w.heap.size) (e := 9) (size := 1) w #[] 0 (Nat.le_refl _) (by unfold maxLen; omega) rfl
  have HO0 := Lib.hid hO0
  have q22 : ∀ W : World, (binOp .eql 32 (.slice (some ad) l.length c) (.slice none 0 0)).run Try.prog W = .ok (.bool false) W := fun W => Lib.run_eql_slice_nil W _ _ (some ad) l.length c 0 0 Try.underlying32
  clear h hO0
  go_enter Try.func61, Try.ntmps61
  go_wp2_with (at_builtin; refine wpList_append_opt rfl _ _ 32 rfl w.heap.size 9 i0 (.string ⟨#[]⟩) 16 Try.underlying32 hi hz0 hz1 hz2 rfl _ 0 _ rfl HO0.out (some ad) l.length c (strV l) rfl (strV_len _) (fun e => by cases e) ?c1 ?c2 ?c3 ?c4 (by simp) ?_)
  case c1 => exact fun ad' e => by obtain rfl := Option.some.inj e; exact (HSt.out.alloc _).news
  case c2 => intro u hu; obtain ⟨s, _, rfl⟩ := List.mem_map.1 hu; rfl
  case c3 => unfold maxLen; omega
  case c4 => omega
  intro v' w3 ho hg hat
  have HB3 : Hid (Below w.heap.size w w3) := Lib.hid (((Below.refl _ w).alloc (Nat.le_refl _) (.cells #[] 9)).grown hg (by simp) (fun k hk => (HO0.out.lt k hk).1))
  obtain ⟨A1, c1, rfl, f1, f2⟩ := Pk.own_form ho
  have HO := Lib.hid ho
  clear ho hg hat f1 f2
  go_wp2_with fail
  go_ret
  exact ⟨A1, c1, rfl, HO.out, HB3.out⟩

end Lt
end Go.Proofs.Ytkpcfakfkcghdaa

/- Which numbers and texts say a letter; no condition. -/
namespace Go.Proofs.Ytkpcfakfkcghdaa
namespace Lt
open Go.RowKit Bk

def Shape (ns : List Int) (ts : List ByteArray) : Prop := 7 ≤ ns.length ∧ 0 ≤ ns.getD 6 0 ∧ (ts.length : Int) = 1 + ns.getD 6 0 + 2 * ((ns.length - 7 : Nat) : Int) ∧ ∀ f ∈ ns.drop 7, f = 0 ∨ f = 1

theorem shape_of (l : Let) : Shape (numsOf l) (textsOf l) := by
  refine ⟨by rw [nums_len]; omega, by rw [six_of]; omega, by rw [six_of, nums_len, texts_len]; omega, fun f hf => ?_⟩
  have e3 : (numsOf l).drop 7 = l.ws.map fun x => if x.dead then 1 else 0 := rfl
  rw [e3] at hf
  obtain ⟨x, _, rfl⟩ := List.mem_map.1 hf
  split
  · exact .inr rfl
  · exact .inl rfl

theorem pair_flags : ∀ (fs : List Int) (us : List ByteArray), us.length = 2 * fs.length → (∀ f ∈ fs, f = 0 ∨ f = 1) → ((pairL fs us).map fun x => if x.dead then (1 : Int) else 0) = fs ∧ ((pairL fs us).flatMap fun x => [x.key, x.shard]) = us
  | [], [], _, _ => ⟨rfl, rfl⟩
  | [], _ :: _, h, _ => by simp at h
  | f :: fs, [], h, _ => by simp at h
  | f :: fs, [k], h, _ => by simp at h; omega
  | f :: fs, k :: s :: r, h, h1 => by
    obtain ⟨i1, i2⟩ := pair_flags fs r (by simp at h; omega) (fun g hg => h1 g (by simp [hg]))
    have hf : (if (f == 1) = true then (1 : Int) else 0) = f := by
      rcases h1 f (by simp) with rfl | rfl <;> rfl
    constructor
    · show (if (f == 1) = true then (1 : Int) else 0) :: ((pairL fs r).map _) = _
      rw [hf, i1]
    · show k :: s :: ((pairL fs r).flatMap _) = _
      rw [i2]

theorem seven {ns : List Int} (h : 7 ≤ ns.length) : ns = [ns.getD 0 0, ns.getD 1 0, ns.getD 2 0, ns.getD 3 0, ns.getD 4 0, ns.getD 5 0, ns.getD 6 0] ++ ns.drop 7 := by
  match ns, h with
  | a :: b :: c :: d :: e :: f :: g :: r, _ => rfl

theorem shape_cand {ns : List Int} {ts : List ByteArray} (h : Shape ns ts) : numsOf (cand ns ts) = ns ∧ textsOf (cand ns ts) = ts := by
  obtain ⟨h1, h2, h3, h4⟩ := h
  have hm : ((manyOf ns : Nat) : Int) = ns.getD 6 0 := by unfold manyOf; omega
  have hp := pair_flags (ns.drop 7) (ts.drop (1 + manyOf ns)) (by rw [List.length_drop, List.length_drop]; omega) h4
  have hkl : ((ts.drop 1).take (manyOf ns)).length = manyOf ns := by rw [List.length_take, List.length_drop]; omega
  constructor
  · show [ns.getD 0 0, ns.getD 1 0, ns.getD 2 0, ns.getD 3 0, ns.getD 4 0, ns.getD 5 0, (((ts.drop 1).take (manyOf ns)).length : Int)] ++ (pairL (ns.drop 7) (ts.drop (1 + manyOf ns))).map _ = ns
    rw [hp.1, hkl, hm]
    exact (seven h1).symm
  · show ts.getD 0 ⟨#[]⟩ :: ((ts.drop 1).take (manyOf ns) ++ (pairL (ns.drop 7) (ts.drop (1 + manyOf ns))).flatMap _) = ts
    rw [hp.2, show ts.drop (1 + manyOf ns) = (ts.drop 1).drop (manyOf ns) by rw [List.drop_drop], List.take_append_drop]
    match ts, h3 with
    | [], h3 => rw [List.length_nil] at h3; omega
    | t :: r, _ => rfl

theorem shape_keys {ns : List Int} {ts : List ByteArray} (h : Shape ns ts) : (cand ns ts).keys.length = manyOf ns ∧ (cand ns ts).ws.length = ns.length - 7 := by
  obtain ⟨h1, h2, h3, h4⟩ := h
  have hm : ((manyOf ns : Nat) : Int) = ns.getD 6 0 := by unfold manyOf; omega
  constructor
  · show ((ts.drop 1).take (manyOf ns)).length = _
    rw [List.length_take, List.length_drop]; omega
  · show (pairL _ _).length = _
    rw [pairL_len _ _ (by rw [List.length_drop, List.length_drop]; omega), List.length_drop]

/-- bytes whose numbers and texts have not that shape are no letter's -/
theorem NoLet.shape {s : ByteArray} {ns : List Int} {ts : List ByteArray} (h : Pk.decL s.data.toList = .ok (ns, ts)) (hn : ¬ Shape ns ts) : NoLet s := NoLet.of h fun l _ e1 e2 _ => hn (by rw [e1, e2]; exact shape_of l)

theorem NoLet.bad {s : ByteArray} {ns : List Int} {ts : List ByteArray} (h : Pk.decL s.data.toList = .ok (ns, ts)) (hn : ¬ LetOk (cand ns ts)) : NoLet s := NoLet.of h fun l hl e1 e2 _ => hn (by rw [e1, e2, cand_of]; exact hl)

theorem cand_bytes {s : ByteArray} {ns : List Int} {ts : List ByteArray} (h : Pk.decL s.data.toList = .ok (ns, ts)) (hs : Shape ns ts) : s.data.toList = letL (cand ns ts) := by
  obtain ⟨e1, e2⟩ := shape_cand hs
  unfold letL
  rw [e1, e2]
  exact (Pk.decL_ok h).2

end Lt
end Go.Proofs.Ytkpcfakfkcghdaa
