/- As Float, but with a relation of one's own between the worlds ahead of an operation and behind it, in the place of 'no old block is written': for a head in which an operation writes into a block that an earlier one made (an append into room). -/
import Derived.Test.YtlhcaankfhdakaaFloat
namespace Go.Proofs.Ytlhcaankfhdakaa
open Go.RowKit

section
variable {P : Program} {ops : Array Oper} {md : Region.Mode}

/-- each operation of the head, one by one: what it yields, and where it lies if it is one that is numbered in A (a new block) -/
def floatStepsK (K : World → World → Prop) (P : Program) (md : Region.Mode) (ops : Array Oper) (A : Nat → Bool) (G : Nat → Value → World → Prop) (I : World → Prop) (F : (Nat → Value) → Act) : List Oper → Nat → Prop
  | [], _ => True
  | o :: r, i =>
    (∀ vs W, I W → (∀ j ∈ depsOf md o, G j (vs j) W) → ∀ R : Value → World → Prop,
      (∀ v W', G i v W' → K W W' → (A i = true → v = .pointer (some ⟨W.heap.size, 0, none⟩)) → R v W') →
      if Region.wanted o (yielded ops (F vs).tmps) then floatOp P o (F vs) W R else R undef W) ∧
    floatStepsK K P md ops A G I F r (i + 1)

theorem floatStepsK_get {K : World → World → Prop} {A : Nat → Bool} {G : Nat → Value → World → Prop} {I : World → Prop} {F : (Nat → Value) → Act} : ∀ (l : List Oper) (k i : Nat) (o : Oper), floatStepsK K P md ops A G I F l k → l[i]? = some o →
    ∀ vs W, I W → (∀ j ∈ depsOf md o, G j (vs j) W) → ∀ R : Value → World → Prop,
      (∀ v W', G (k + i) v W' → K W W' → (A (k + i) = true → v = .pointer (some ⟨W.heap.size, 0, none⟩)) → R v W') →
      if Region.wanted o (yielded ops (F vs).tmps) then floatOp P o (F vs) W R else R undef W
  | [], _, _, _, _, h => by simp at h
  | p :: r, k, 0, o, hs, h => by
    obtain rfl : p = o := by simpa using h
    exact hs.1
  | p :: r, k, i + 1, o, hs, h => by
    have := floatStepsK_get r (k + 1) i o hs.2 (by simpa using h)
    rw [show k + 1 + i = k + (i + 1) by omega] at this
    exact this

theorem wp_floatK {K : World → World → Prop} {A : Nat → Bool} {G : Nat → Value → World → Prop} {I : World → Prop} {Q : Exit → Act → World → Prop} {a : Act} (n : Nat) (hB : floatB md ops n = true)
    (hG : ∀ i v W W', G i v W → K W W' → G i v W')
    (hA : ∀ i v W, A i = true → G i v W → ∃ p, v = .pointer (some ⟨p, 0, none⟩) ∧ p < W.heap.size)
    (hI : ∀ W W', I W → K W W' → I W')
    (hs : floatStepsK K P md ops A G I (fun vs => putAll vs (ops.toList.take n) 0 a) (ops.toList.take n) 0)
    (hl : ∀ vs W, I W → (∀ j, j < n → G j (vs j) W) → (∀ i j, i < n → j < n → A i = true → A j = true → i ≠ j → vs i ≠ vs j) →
      wpList P ops Q (ops.toList.drop n) (putAll vs (ops.toList.take n) 0 a) W) :
    ∀ (fuel : Nat) (ls : Array Bool) (vs : Nat → Value) (W : World), ls.toList.count false = fuel → HeadInv md ops n ls → I W →
      (∀ j, j < n → ls.getD j false = true → G j (vs j) W) →
      (∀ i j, i < n → j < n → ls.getD i false = true → ls.getD j false = true → A i = true → A j = true → i ≠ j → vs i ≠ vs j) →
      wpAny P md ops Q fuel ls (putAll vs (ops.toList.take n) 0 a) W := by
  simp only [floatB, Bool.and_eq_true, Bool.or_eq_true, decide_eq_true_eq] at hB
  obtain ⟨⟨⟨⟨hn, hc⟩, hsl⟩, hd⟩, hseq⟩ := hB
  intro fuel
  induction fuel with
  | zero =>
    intro ls vs W hcount inv hi hg hdist
    have hall : ∀ j, j < ops.size → ls.getD j false = true := fun j hj => by
      have hjs : j < ls.size := by rw [inv.size]; exact hj
      cases hb : ls[j] with
      | true => simp [hjs, hb]
      | false => exact absurd (List.count_pos_iff.2 (by rw [← hb]; exact Array.mem_toList_iff.2 (Array.getElem_mem hjs)) : 0 < ls.toList.count false) (by omega)
    have hne : n = ops.size := by
      rcases Nat.lt_or_ge n ops.size with h | h
      · have h1 := inv.tail n (Nat.le_refl _) h
        have h2 := hall n h
        rw [getD_both h1] at h2
        cases h2
      · omega
    subst hne
    refine ⟨?_, ?_⟩
    · refine List.eq_nil_iff_forall_not_mem.2 fun i hi => ?_
      obtain ⟨h0, o, ho, _⟩ := mem_ready.1 hi
      have := hall i (Array.getElem?_eq_some_iff.1 ho).1
      rw [getD_both h0] at this
      cases this
    · have := hl vs W hi (fun j hj => hg j hj (hall j hj)) (fun i j hi hj => hdist i j hi hj (hall i hi) (hall j hj))
      rw [List.drop_of_length_le (by simp)] at this
      exact this
  | succ fuel ih =>
    intro ls vs W hcount inv hi hg hdist
    by_cases hall : ∀ j, j < n → ls.getD j false = true
    · have hlist : ls = (List.replicate n true ++ List.replicate (ops.size - n) false).toArray := by
        apply Array.ext_getElem?
        intro j
        simp only [List.getElem?_toArray]
        rw [List.getElem?_append, List.length_replicate]
        by_cases h1 : j < n
        · have h2 := hall j h1
          have hjs : j < ls.size := by rw [inv.size]; omega
          rw [if_pos h1, List.getElem?_replicate, if_pos h1]
          simp only [Array.getD_eq_getD_getElem?, hjs, getElem?_pos, Option.getD_some] at h2 ⊢
          rw [h2]
        · rw [if_neg h1, List.getElem?_replicate]
          by_cases h2 : j < ops.size
          · have h3 := inv.tail j (by omega) h2
            have hjs : j < ls.size := by rw [inv.size]; omega
            rw [if_pos (by omega)]
            simp only [Array.getD_eq_getD_getElem?, hjs, getElem?_pos, Option.getD_some] at h3 ⊢
            rw [h3]
          · rw [if_neg (by omega), Array.getElem?_eq_none (by rw [inv.size]; omega)]
      have hfuel : fuel + 1 = (ops.toList.drop n).length := by
        rw [← hcount, hlist]
        simp [List.count_append, List.count_replicate]
      rw [hfuel]
      refine wpAny_of_seq (ops.toList.drop n) n ls _ W (fun j => by simp [List.getElem?_drop]) ?_ (hl vs W hi (fun j hj => hg j hj (hall j hj)) (fun i j hi hj => hdist i j hi hj (hall i hi) (hall j hj)))
      rw [hlist, show (ops.toList.drop n).length = ops.size - n by simp]
      exact hseq
    · -- one of the head has not come up yet: the least such
      have hleast : ∃ i, i < n ∧ ls.getD i false = false ∧ ∀ j, j < i → ls.getD j false = true := by
        have : ∀ k, (∀ j, j < k → ls.getD j false = true) ∨ ∃ i, i < k ∧ ls.getD i false = false ∧ ∀ j, j < i → ls.getD j false = true := by
          intro k
          induction k with
          | zero => exact .inl fun j hj => absurd hj (by omega)
          | succ k ihk =>
            rcases ihk with h | ⟨i, h1, h2, h3⟩
            · cases hk : ls.getD k false with
              | true =>
                left
                intro j hj
                rcases Nat.lt_or_ge j k with h' | h'
                · exact h j h'
                · obtain rfl : j = k := by omega
                  exact hk
              | false => exact .inr ⟨k, by omega, hk, h⟩
            · exact .inr ⟨i, by omega, h2, h3⟩
        rcases this n with h | h
        · exact absurd h hall
        · exact h
      obtain ⟨i0, hi0, hi0f, hi0l⟩ := hleast
      have hdeps : ∀ i o, i < n → ops[i]? = some o → ∀ e ∈ o.after, Region.binds md e = true → e.on < i := fun i o hi ho e he hb => by
        have h1 := List.all_eq_true.1 hd i (List.mem_range.2 hi)
        simp only [ho, Option.map_some, Option.getD_some, List.all_eq_true, decide_eq_true_eq] at h1
        exact h1 e.on (List.mem_map.2 ⟨e, List.mem_filter.2 ⟨by simpa using he, hb⟩, rfl⟩)
      have hi0s : i0 < ls.size := by rw [inv.size]; omega
      have hready0 : i0 ∈ Region.ready md ops ls := by
        refine mem_ready.2 ⟨getD_in hi0s hi0f, ops[i0]'(by omega), by simp [show i0 < ops.size by omega], fun e he hb => ?_⟩
        exact hi0l _ (hdeps i0 _ hi0 (by simp [show i0 < ops.size by omega]) e he hb)
      refine ⟨fun h => absurd hready0 (by rw [h]; simp), fun i hir => ?_⟩
      obtain ⟨hun, o, ho, hafter⟩ := mem_ready.1 hir
      have hio : i < ops.size := (Array.getElem?_eq_some_iff.1 ho).1
      have hin : i < n := by
        rcases Nat.lt_or_ge i n with h | h
        · exact h
        · rcases hc with h' | ⟨h1, h2⟩
          · omega
          · exact absurd hir (tail_waits h1 h2 (by omega) inv (n - i0) i0 rfl hi0 (getD_in hi0s hi0f) i h)
      have his : i < ls.size := by rw [inv.size]; omega
      have hget : (ops.toList.take n)[i]? = some o := by
        rw [List.getElem?_take, if_pos hin]
        simpa using ho
      have hcount' : (ls.setIfInBounds i true).toList.count false = fuel := by
        have h1 : ls.toList[i]? = some false := by
          have := hun
          simp only [Array.getD_eq_getD_getElem?, his, getElem?_pos, Option.getD_some] at this
          simp [his, this]
        have := count_set_true h1
        rw [Array.toList_setIfInBounds]
        omega
      have hstep := floatStepsK_get (ops.toList.take n) 0 i o hs hget vs W hi
        (fun j hj => by
          obtain ⟨e, he, rfl⟩ := List.mem_map.1 hj
          obtain ⟨he1, he2⟩ := List.mem_filter.1 he
          have he1' : e ∈ o.after := by simpa using he1
          exact hg _ (by have := hdeps i o hin ho e he1' he2; omega) (hafter e he1' he2))
        (fun v W' => wpAny P md ops Q fuel (ls.setIfInBounds i true) ((putAll vs (ops.toList.take n) 0 a).put o.dst v) W')
        (fun v W' hgv hb hav => by
          rw [Nat.zero_add] at hgv hav
          rw [putAll_set vs v _ 0 i a o hsl hget]
          refine ih (ls.setIfInBounds i true) _ W' hcount' (inv.set hir hin) (hI _ _ hi hb) (fun j hj hlj => ?_) (fun j k hj hk hlj hlk haj hak hjk => ?_)
          · show G j (if j = 0 + i then v else vs j) W'
            by_cases hji : j = i
            · subst hji
              rw [if_pos (by omega)]; exact hgv
            · rw [if_neg (by omega)]
              exact hG _ _ _ _ (hg j hj (by rw [getD_set_ne false (Ne.symm hji)] at hlj; exact hlj)) hb
          · have old : ∀ x, x < n → x ≠ i → (ls.setIfInBounds i true).getD x false = true → A x = true → ∀ q, v = .pointer (some ⟨q, 0, none⟩) → q = W.heap.size → vs x ≠ v := fun x hx hxi hlx hax q hv hq hne => by
              obtain ⟨p, hp, hlt⟩ := hA x (vs x) W hax (hg x hx (by rw [getD_set_ne false (Ne.symm hxi)] at hlx; exact hlx))
              rw [hp, hv] at hne
              simp only [Value.pointer.injEq, Option.some.injEq, Addr.mk.injEq, and_true] at hne
              omega
            show (if j = 0 + i then v else vs j) ≠ (if k = 0 + i then v else vs k)
            by_cases hji : j = i
            · subst hji
              rw [if_pos (by omega), if_neg (by omega)]
              exact Ne.symm (old k hk (Ne.symm hjk) hlk hak _ (hav haj) rfl)
            · rw [if_neg (by omega)]
              by_cases hki : k = i
              · subst hki
                rw [if_pos (by omega)]
                exact old j hj hji hlj haj _ (hav hak) rfl
              · rw [if_neg (by omega)]
                exact hdist j k hj hk (by rw [getD_set_ne false (Ne.symm hji)] at hlj; exact hlj) (by rw [getD_set_ne false (Ne.symm hki)] at hlk; exact hlk) haj hak hjk)
      unfold wpOp
      simp only [ho]
      split
      · rename_i hw
        rw [if_pos hw] at hstep
        exact .inl (floatOp_wp hstep fun _ _ h => h)
      · rename_i hw
        rw [if_neg hw] at hstep
        exact hstep

theorem wp_region_floatK {K : World → World → Prop} {id : Nat} {Q : Exit → Act → World → Prop} {a : Act} {w : World} {l : List Oper} (n : Nat) (A : Nat → Bool) (G : Nat → Value → World → Prop) (I : World → Prop)
    (hm : P.follows .mixedOrders = true) (hB : floatB .any l.toArray n = true)
    (hG : ∀ i v W W', G i v W → K W W' → G i v W')
    (hA : ∀ i v W, A i = true → G i v W → ∃ p, v = .pointer (some ⟨p, 0, none⟩) ∧ p < W.heap.size)
    (hI : ∀ W W', I W → K W W' → I W') (hKd : ∀ W, K W W.drew) (hI0 : I w)
    (hs : floatStepsK K P .any l.toArray A G I (fun vs => putAll vs (l.take n) 0 a) (l.take n) 0)
    (hl : ∀ vs W, I W → (∀ j, j < n → G j (vs j) W) → (∀ i j, i < n → j < n → A i = true → A j = true → i ≠ j → vs i ≠ vs j) →
      wpList P l.toArray Q (l.drop n) (putAll vs (l.take n) 0 a) W) : (Code.region id l.toArray true).wp P Q a w := by
  refine wp_region_any hm ?_
  obtain ⟨vs, hvs⟩ := putAll_self a (l.take n) 0
  have := wp_floatK (K := K) (md := .any) (ops := l.toArray) (Q := Q) (a := a) n hB hG hA hI hs hl l.toArray.size (Array.replicate l.toArray.size false) vs w.drew (by simp)
    ⟨by simp, fun _ _ _ z => (by rw [getD_replicate_false] at z; cases z), fun t _ z => getD_in (by simpa using z) (getD_replicate_false _ _)⟩
    (hI _ _ hI0 (hKd w)) (fun j _ z => (by rw [getD_replicate_false] at z; cases z)) (fun i j _ _ z => (by rw [getD_replicate_false] at z; cases z))
  rw [show putAll vs (List.take n l.toArray.toList) 0 a = a from hvs] at this
  exact this


/-! ### in words that a walk can use -/

def satK (L : List (Value → World → Prop)) (i : Nat) : Value → World → Prop := L.getD i fun _ _ => True

def FloatStepK (P : Program) (K : World → World → Prop) (L : List (Value → World → Prop)) (ds : List Nat) (I : World → Prop) (a : Act) (i : Nat) (o : Oper) : Prop :=
  ∀ (vs : Nat → Value) (W : World) (ρ : Operand → Value), (∀ t, ρ (.tmp t) = pick vs ds 0 t (a.eval (.tmp t))) → (∀ v, ρ (.const v) = v) → (∀ f, ρ (.func f) = .func (.func f) #[] #[]) → (∀ g, ρ (.global g) = .pointer (some ⟨g, 0, none⟩)) →
    I W → (∀ j ∈ depsOf .any o, satK L j (vs j) W) → ∀ R : Value → World → Prop,
    (∀ v W', satK L i v W' → K W W' → R v W') →
    if Region.wanted o (fun j => boolOf (vs j)) then floatUpon P R ((execOp ρ o).run P W) else R undef W

def FloatAllK (P : Program) (K : World → World → Prop) (L : List (Value → World → Prop)) (ds : List Nat) (I : World → Prop) (a : Act) : List Oper → Nat → Prop
  | [], _ => True
  | o :: r, i => FloatStepK P K L ds I a i o ∧ FloatAllK P K L ds I a r (i + 1)

theorem wp_region_saidK {id : Nat} {Q : Exit → Act → World → Prop} {a : Act} {w : World} {l : List Oper} (n : Nat) (ds : List Nat) (L : List (Value → World → Prop)) (I : World → Prop) (K : World → World → Prop)
    (hm : P.follows .mixedOrders = true) (hB : floatB .any l.toArray n = true) (hds : slotsAre ds (l.take n) = true) (hsz : ds.all (· < a.tmps.size) = true) (hgd : guardsB n (l.take n) = true)
    (hL : ∀ i v W W', satK L i v W → K W W' → satK L i v W') (hI : ∀ W W', I W → K W W' → I W') (hKd : ∀ W, K W W.drew) (hI0 : I w)
    (hs : FloatAllK P K L ds I a (l.take n) 0)
    (hl : ∀ vs W, I W → (∀ j, j < n → satK L j (vs j) W) → wpList P l.toArray Q (l.drop n) (putAll vs (l.take n) 0 a) W) : (Code.region id l.toArray true).wp P Q a w := by
  have hsz' : ∀ d ∈ ds, d < a.tmps.size := fun d hd => by simpa using List.all_eq_true.1 hsz d hd
  have hyield : ∀ vs i o, (l.take n)[i]? = some o → Region.wanted o (yielded l.toArray (putAll vs (l.take n) 0 a).tmps) = Region.wanted o (fun j => boolOf (vs j)) := fun vs i o ho => by
    unfold Region.wanted
    cases hg : o.guard with
    | none => rfl
    | some gw =>
      obtain ⟨g, want⟩ := gw
      have hgn : g < n := by
        have := List.all_eq_true.1 hgd o (List.mem_of_getElem? ho)
        simpa [hg] using this
      have hn : n ≤ l.length := by
        simp only [floatB, Bool.and_eq_true, decide_eq_true_eq] at hB
        simpa using hB.1.1.1.1
      have hgl : (l.take n)[g]? = some (l[g]'(by omega)) := by rw [List.getElem?_take, if_pos hgn]; simp [show g < l.length by omega]
      obtain ⟨d, hd1, hd2⟩ := slots_nth ds (l.take n) g _ hds hgl
      have h1 : (putAll vs (l.take n) 0 a).eval (.tmp d) = vs g := by
        rw [putAll_pick vs d (l.take n) ds 0 a hds hsz', pick_nth ds (l.take n) 0 g d _ hds hd1, Nat.zero_add]
      have h2 : d < (putAll vs (l.take n) 0 a).tmps.size := by rw [putAll_size]; exact hsz' d (List.mem_of_getElem? hd1)
      have h3 : (putAll vs (l.take n) 0 a).tmps[d]? = some (vs g) := by
        simp only [Act.eval, Array.getD_eq_getD_getElem?, h2, getElem?_pos, Option.getD_some] at h1
        rw [Array.getElem?_eq_getElem h2, h1]
      have h4 : (l.toArray[g]?).bind (·.dst) = some d := by
        simp [show g < l.length by omega, hd2]
      have : yielded l.toArray (putAll vs (l.take n) 0 a).tmps g = boolOf (vs g) := by
        unfold yielded
        rw [h4, Option.bind_some, h3]
        cases vs g <;> rfl
      simp only [this]
  refine wp_region_floatK (K := K) n (fun _ => false) (fun i v W => satK L i v W) I hm hB hL (fun i v W h => by cases h) hI hKd hI0 ?_ (fun vs W h hg _ => hl vs W h hg)
  have : ∀ (m : List Oper) (k : Nat), (∀ i o, m[i]? = some o → (l.take n)[k + i]? = some o) → FloatAllK P K L ds I a m k →
      floatStepsK K P .any l.toArray (fun _ => false) (fun i v W => satK L i v W) I (fun vs => putAll vs (l.take n) 0 a) m k := by
    intro m
    induction m with
    | nil => intro _ _ _; trivial
    | cons o r ih =>
      intro k hk h
      refine ⟨fun vs W hi hdep R hR => ?_, ih (k + 1) (fun i o' ho' => by have := hk (i + 1) o' (by simpa using ho'); rw [show k + (i + 1) = k + 1 + i by omega] at this; exact this) h.2⟩
      have hstep := h.1 vs W (putAll vs (l.take n) 0 a).eval (fun t => putAll_pick vs t (l.take n) ds 0 a hds hsz') (fun _ => rfl) (fun _ => rfl) (fun _ => rfl) hi hdep R (fun v W' h1 h2 => hR v W' h1 h2 (fun h => by cases h))
      rw [hyield vs k o (by have := hk 0 o (by simp); simpa using this)]
      exact hstep
  exact this (l.take n) 0 (fun i o h => by rw [Nat.zero_add]; exact h) hs

end

end Go.Proofs.Ytlhcaankfhdakaa
