/- Parts of the proof, joined: ScRep, ScNone, FloatK, ScRef1, ScRef2, BkInts, ScRef3, BkAppend, BkGrow, ScRef5, RdRef1, ScView, RdRef2; their conditions stand with each. -/
import Derived.Lib.Strings
import Derived.Lib.Walk
import Derived.Lib.BufferWrite
import Derived.Lib.Hide
import Derived.Laws.MakeOwn
import Derived.WalkKit
import Derived.Maps.AppendAt
import Derived.Test.YtjehjbkcdpidbaaB0
import Derived.Test.YtjehjbkcdpidbaaB1
import Derived.Test.YtjehjbkcdpidbaaB2

/- A call that writes its own blocks alone; the document's device in the memory; no condition. -/
namespace Go.Proofs.Ytjehjbkcdpidbaa
namespace Sc
open Go.RowKit Bk

/-- beside the blocks F no old block is turned; F' are old ones of F and new ones -/
structure Fr (F F' : Nat → Prop) (w w' : World) : Prop where
  os : w'.os = w.os
  tape : w'.tape = w.tape
  output : w'.output = w.output
  size : w.heap.size ≤ w'.heap.size
  block : ∀ k, k < w.heap.size → ¬ F k → w'.heap[k]? = w.heap[k]?
  foot : ∀ k, F' k → F k ∨ w.heap.size ≤ k

theorem Fr.refl (F : Nat → Prop) (w : World) : Fr F F w w := ⟨rfl, rfl, rfl, Nat.le_refl _, fun _ _ _ => rfl, fun _ h => .inl h⟩

theorem Fr.trans {F G H : Nat → Prop} {a b c : World} (h : Fr F G a b) (k : Fr G H b c) : Fr F H a c :=
  ⟨k.os.trans h.os, k.tape.trans h.tape, k.output.trans h.output, Nat.le_trans h.size k.size,
    fun i hi hn => (k.block i (Nat.lt_of_lt_of_le hi h.size) (fun hg => (h.foot i hg).elim hn (by omega))).trans (h.block i hi hn),
    fun i hi => (k.foot i hi).elim (fun hg => h.foot i hg) (fun hs => .inr (Nat.le_trans h.size hs))⟩

theorem Fr.below {F : Nat → Prop} {a b c : World} {G : Nat → Prop} (h : Fr F G a b) (k : Below b.heap.size b c) : Fr F G a c :=
  ⟨k.os.trans h.os, k.tape.trans h.tape, k.output.trans h.output, Nat.le_trans h.size k.size,
    fun i hi hn => (k.block i (Nat.lt_of_lt_of_le hi h.size)).trans (h.block i hi hn), h.foot⟩

theorem Fr.set {F G : Nat → Prop} {a b : World} (h : Fr F G a b) {p : Addr} (hp : F p.block) (v : Value) : Fr F G a (b.setCell p v) :=
  ⟨h.os, h.tape, h.output, by simpa [World.setCell] using h.size, fun i hi hn => (Below.heap_setCell b p v i (fun e => hn (by rw [e]; exact hp))).trans (h.block i hi hn), h.foot⟩

/-- as a call tells it that owns blocks from B on -/
theorem Fr.belowB {F G : Nat → Prop} {a b : World} {B : Nat} (h : Fr F G a b) (hF : ∀ k, F k → B ≤ k) (hB : B ≤ a.heap.size) : Below B a b :=
  ⟨h.os, h.tape, h.output, h.size, fun k hk => h.block k (by omega) (fun hf => by have := hF k hf; omega)⟩

/-- the blocks of one are as they were behind a call of another one -/
theorem Fr.kept {F G : Nat → Prop} {a b : World} (h : Fr F G a b) {H : Nat → Prop} (hd : ∀ k, H k → ¬ F k) (hl : ∀ k, H k → k < a.heap.size) : ∀ k, H k → b.heap[k]? = a.heap[k]? := fun k hk => h.block k (hl k hk) (hd k hk)

theorem strV_get {l : List ByteArray} {sp : List Value} {i : Nat} (h : i < l.length) : (strV l ++ sp)[i]? = some (.string l[i]) := by
  rw [List.getElem?_append_left (by rw [strV_len]; exact h)]
  exact strV_at h

theorem strV_set {l : List ByteArray} {sp : List Value} {i : Nat} (t : ByteArray) (h : i < l.length) : (strV l ++ sp).set i (.string t) = strV (l.set i t) ++ sp := by
  rw [List.set_append_left _ _ (by rw [strV_len]; exact h)]
  congr 1
  unfold strV
  rw [List.map_set]

def RFoot (g : Nat) (ao an : Addr) : Nat → Prop := fun k => k = g ∨ k = ao.block ∨ k = an.block

section
variable {w w' : World} {g : Nat} {ao an : Addr} {co cn : Nat} {so sn : List Value} {D : Dev}

theorem at_add (h : ao = ⟨ao.block, 0, none⟩) (i : Nat) : ao.add i = ⟨ao.block, i, none⟩ := by
  rw [h]; exact addr_head _ _

theorem foot_g : RFoot g ao an g := .inl rfl
theorem foot_o (i : Nat) : RFoot g ao an (ao.add i).block := by rw [st_block]; exact .inr (.inl rfl)
theorem foot_n (i : Nat) : RFoot g ao an (an.add i).block := by rw [st_block]; exact .inr (.inr rfl)

end

end Sc
end Go.Proofs.Ytjehjbkcdpidbaa

/- Sixty-four bytes: none, and what a text is that is made so long; contracts; no condition but the range. -/
namespace Go.Proofs.Ytjehjbkcdpidbaa
namespace Sc
open Go.RowKit Bk

/-- 'copy(dst, s)' of a text that need not find room: as many of its bytes as find it -/
theorem copy_some {P : Program} (w : World) (dT sT ty elem : TypeId) (g dLen dCap m : Nat) (s : ByteArray) (cur : Array Value) (t : TypeId)
    (hu : P.underlying dT = some (.slice elem)) (hs : (P.info? elem).map (·.size) = some 1) (hg : w.heap[g]? = some (.cells cur t (0, 0))) (hm : m = min s.size dLen) (hfit : m ≤ cur.size) :
    (Builtin.copy_ #[dT, sT] ty #[.slice (some ⟨g, 0, none⟩) dLen dCap, .string s]).run P w =
      .ok (goInt m) (w.setRow g (Lib.byteCells (s.data.toList.take m) ++ cur.toList.drop m).toArray) := by
  have hlen : (Lib.byteCells (s.data.toList.take m)).length = m := by
    have : s.data.toList.length = s.size := rfl
    rw [Lib.byteCells_length, List.length_take]; omega
  have hst := run_storeCells_at P g 0 t (Lib.byteCells (s.data.toList.take m)) 0 cur w hg (by rw [hlen]; simpa using hfit) (Lib.byteCells_one _)
  have hmin : Nat.min s.size dLen = m := hm.symm
  have htk : List.take m (List.map (fun b : UInt8 => Value.int IntKind.u8 (b.toNat : Int)) s.data.toList) = Lib.byteCells (s.data.toList.take m) := by
    unfold Lib.byteCells
    rw [List.map_take]
  rw [hlen] at hst
  simp only [Nat.add_zero, Nat.zero_add, List.take_zero, List.nil_append] at hst
  cases hq : P.info? elem with
  | none => simp [hq] at hs
  | some i =>
    simp [Builtin.copy_, run_underlying hu, Builtin.lenOf, Builtin.firstCells, sizeOf, typeInfo, hq, hmin]
    rw [htk, hst]
    simp [Result.andThen]

/-- a text made sixty-four long -/
def fitB (s : ByteArray) : ByteArray := ⟨(s.data.toList.take 64 ++ List.replicate (64 - min s.size 64) (0 : UInt8)).toArray⟩

theorem fitB_size (s : ByteArray) : (fitB s).size = 64 := by
  show (s.data.toList.take 64 ++ List.replicate (64 - min s.size 64) (0 : UInt8)).toArray.size = 64
  have : s.data.toList.length = s.size := rfl
  rw [List.size_toArray, List.length_append, List.length_take, List.length_replicate]
  omega

theorem fitB_nil : fitB nil0 = zero64 := by decide

theorem zeros_cells : Lib.byteCells (List.replicate 64 (0 : UInt8)) = List.replicate 64 (Value.int .u8 0) := by
  unfold Lib.byteCells
  rw [List.map_replicate]; rfl

/-- the row that is made, and the text that it is -/
theorem back_of {w : World} {g : Nat} {l : List UInt8} (h : w.heap[g]? = some (.cells (Lib.byteCells l).toArray 5 (0, 0))) (hl : l.length = 64) :
    (convert 52 9 (.slice (some ⟨g, 0, none⟩) 64 64)).run Try.prog w = .ok (.string ⟨l.toArray⟩) w := by
  have := run_convert_bytes_back (P := Try.prog) w 52 9 5 ⟨g, 0, none⟩ 64 l Try.underlying52 Try.underlying5 Try.underlying9 (fun j hj => by
    rw [addr_head]
    refine blk_cell h ?_
    rw [List.getElem?_toArray]
    unfold Lib.byteCells
    rw [List.getElem?_map, List.getElem?_eq_getElem hj]; rfl)
  rwa [hl] at this

set_option maxRecDepth 20000 in
theorem make_64 (W : World) : (Instr.makeSlice 52 (.int .i64 64) (.int .i64 64)).run Try.prog W = .ok (.slice (some ⟨W.heap.size, 0, none⟩) 64 64) (W.alloc (.cells (Lib.byteCells (List.replicate 64 (0 : UInt8))).toArray 5)) := by
  obtain ⟨i0, hi, hz0, hz1, hz2⟩ := info_parts Bk.Try.infoU8
  have h := run_make (P := Try.prog) W 52 5 i0 (.int .u8 0) Try.underlying52 hi hz0 .i64 .i64 64 64 (by omega) (by omega) (by rw [hz2]; omega) (by omega)
  rw [h, hz1]
  congr 3
  kernel_rfl

end Sc
end Go.Proofs.Ytjehjbkcdpidbaa

/- As Float, but with a relation of one's own between the worlds ahead of an operation and behind it, in the place of 'no old block is written': for a head in which an operation writes into a block that an earlier one made (an append into room). -/
namespace Go.Proofs.Ytjehjbkcdpidbaa
open Go.RowKit

section
variable {P : Program} {ops : Array Oper} {md : Region.Mode}

/-- each operation of the head, one by one: what it yields, and where it lies if it is one that is numbered in A (a new block) -/
def floatStepsK (K : World → World → Prop) (P : Program) (md : Region.Mode) (ops : Array Oper) (A : Nat → Bool) (G : Nat → Value → World → Prop) (I : World → Prop) (F : (Nat → Value) → Act) : List Oper → Nat → Prop
  | [], _ => True
  | o :: r, i =>
    (∀ vs W, I W → (∀ j ∈ depsOf md o, G j (vs j) W) → ∀ R : Value → World → Prop,
      (∀ v W', G i v W' → K W W' → (A i = true → v = .pointer (some ⟨W.heap.size, 0, none⟩)) → R v W') →
      if Region.wanted o (yielded ops (F vs).tmps) then floatOp P o (F vs) W R else R undef W) ∧
    floatStepsK K P md ops A G I F r (i + 1)

theorem floatStepsK_get {K : World → World → Prop} {A : Nat → Bool} {G : Nat → Value → World → Prop} {I : World → Prop} {F : (Nat → Value) → Act} : ∀ (l : List Oper) (k i : Nat) (o : Oper), floatStepsK K P md ops A G I F l k → l[i]? = some o →
    ∀ vs W, I W → (∀ j ∈ depsOf md o, G j (vs j) W) → ∀ R : Value → World → Prop,
      (∀ v W', G (k + i) v W' → K W W' → (A (k + i) = true → v = .pointer (some ⟨W.heap.size, 0, none⟩)) → R v W') →
      if Region.wanted o (yielded ops (F vs).tmps) then floatOp P o (F vs) W R else R undef W
  | [], _, _, _, _, h => by simp at h
  | p :: r, k, 0, o, hs, h => by
    obtain rfl : p = o := by simpa using h
    exact hs.1
  | p :: r, k, i + 1, o, hs, h => by
    have := floatStepsK_get r (k + 1) i o hs.2 (by simpa using h)
    rw [show k + 1 + i = k + (i + 1) by omega] at this
    exact this

theorem wp_floatK {K : World → World → Prop} {A : Nat → Bool} {G : Nat → Value → World → Prop} {I : World → Prop} {Q : Exit → Act → World → Prop} {a : Act} (n : Nat) (hB : floatB md ops n = true)
    (hG : ∀ i v W W', G i v W → K W W' → G i v W')
    (hA : ∀ i v W, A i = true → G i v W → ∃ p, v = .pointer (some ⟨p, 0, none⟩) ∧ p < W.heap.size)
    (hI : ∀ W W', I W → K W W' → I W')
    (hs : floatStepsK K P md ops A G I (fun vs => putAll vs (ops.toList.take n) 0 a) (ops.toList.take n) 0)
    (hl : ∀ vs W, I W → (∀ j, j < n → G j (vs j) W) → (∀ i j, i < n → j < n → A i = true → A j = true → i ≠ j → vs i ≠ vs j) →
      wpList P ops Q (ops.toList.drop n) (putAll vs (ops.toList.take n) 0 a) W) :
    ∀ (fuel : Nat) (ls : Array Bool) (vs : Nat → Value) (W : World), ls.toList.count false = fuel → HeadInv md ops n ls → I W →
      (∀ j, j < n → ls.getD j false = true → G j (vs j) W) →
      (∀ i j, i < n → j < n → ls.getD i false = true → ls.getD j false = true → A i = true → A j = true → i ≠ j → vs i ≠ vs j) →
      wpAny P md ops Q fuel ls (putAll vs (ops.toList.take n) 0 a) W := by
  simp only [floatB, Bool.and_eq_true, Bool.or_eq_true, decide_eq_true_eq] at hB
  obtain ⟨⟨⟨⟨hn, hc⟩, hsl⟩, hd⟩, hseq⟩ := hB
  intro fuel
  induction fuel with
  | zero =>
    intro ls vs W hcount inv hi hg hdist
    have hall : ∀ j, j < ops.size → ls.getD j false = true := fun j hj => by
      have hjs : j < ls.size := by rw [inv.size]; exact hj
      cases hb : ls[j] with
      | true => simp [hjs, hb]
      | false => exact absurd (List.count_pos_iff.2 (by rw [← hb]; exact Array.mem_toList_iff.2 (Array.getElem_mem hjs)) : 0 < ls.toList.count false) (by omega)
    have hne : n = ops.size := by
      rcases Nat.lt_or_ge n ops.size with h | h
      · have h1 := inv.tail n (Nat.le_refl _) h
        have h2 := hall n h
        rw [getD_both h1] at h2
        cases h2
      · omega
    subst hne
    refine ⟨?_, ?_⟩
    · refine List.eq_nil_iff_forall_not_mem.2 fun i hi => ?_
      obtain ⟨h0, o, ho, _⟩ := mem_ready.1 hi
      have := hall i (Array.getElem?_eq_some_iff.1 ho).1
      rw [getD_both h0] at this
      cases this
    · have := hl vs W hi (fun j hj => hg j hj (hall j hj)) (fun i j hi hj => hdist i j hi hj (hall i hi) (hall j hj))
      rw [List.drop_of_length_le (by simp)] at this
      exact this
  | succ fuel ih =>
    intro ls vs W hcount inv hi hg hdist
    by_cases hall : ∀ j, j < n → ls.getD j false = true
    · have hlist : ls = (List.replicate n true ++ List.replicate (ops.size - n) false).toArray := by
        apply Array.ext_getElem?
        intro j
        simp only [List.getElem?_toArray]
        rw [List.getElem?_append, List.length_replicate]
        by_cases h1 : j < n
        · have h2 := hall j h1
          have hjs : j < ls.size := by rw [inv.size]; omega
          rw [if_pos h1, List.getElem?_replicate, if_pos h1]
          simp only [Array.getD_eq_getD_getElem?, hjs, getElem?_pos, Option.getD_some] at h2 ⊢
          rw [h2]
        · rw [if_neg h1, List.getElem?_replicate]
          by_cases h2 : j < ops.size
          · have h3 := inv.tail j (by omega) h2
            have hjs : j < ls.size := by rw [inv.size]; omega
            rw [if_pos (by omega)]
            simp only [Array.getD_eq_getD_getElem?, hjs, getElem?_pos, Option.getD_some] at h3 ⊢
            rw [h3]
          · rw [if_neg (by omega), Array.getElem?_eq_none (by rw [inv.size]; omega)]
      have hfuel : fuel + 1 = (ops.toList.drop n).length := by
        rw [← hcount, hlist]
        simp [List.count_append, List.count_replicate]
      rw [hfuel]
      refine wpAny_of_seq (ops.toList.drop n) n ls _ W (fun j => by simp [List.getElem?_drop]) ?_ (hl vs W hi (fun j hj => hg j hj (hall j hj)) (fun i j hi hj => hdist i j hi hj (hall i hi) (hall j hj)))
      rw [hlist, show (ops.toList.drop n).length = ops.size - n by simp]
      exact hseq
    · -- one of the head has not come up yet: the least such
      have hleast : ∃ i, i < n ∧ ls.getD i false = false ∧ ∀ j, j < i → ls.getD j false = true := by
        have : ∀ k, (∀ j, j < k → ls.getD j false = true) ∨ ∃ i, i < k ∧ ls.getD i false = false ∧ ∀ j, j < i → ls.getD j false = true := by
          intro k
          induction k with
          | zero => exact .inl fun j hj => absurd hj (by omega)
          | succ k ihk =>
            rcases ihk with h | ⟨i, h1, h2, h3⟩
            · cases hk : ls.getD k false with
              | true =>
                left
                intro j hj
                rcases Nat.lt_or_ge j k with h' | h'
                · exact h j h'
                · obtain rfl : j = k := by omega
                  exact hk
              | false => exact .inr ⟨k, by omega, hk, h⟩
            · exact .inr ⟨i, by omega, h2, h3⟩
        rcases this n with h | h
        · exact absurd h hall
        · exact h
      obtain ⟨i0, hi0, hi0f, hi0l⟩ := hleast
      have hdeps : ∀ i o, i < n → ops[i]? = some o → ∀ e ∈ o.after, Region.binds md e = true → e.on < i := fun i o hi ho e he hb => by
        have h1 := List.all_eq_true.1 hd i (List.mem_range.2 hi)
        simp only [ho, Option.map_some, Option.getD_some, List.all_eq_true, decide_eq_true_eq] at h1
        exact h1 e.on (List.mem_map.2 ⟨e, List.mem_filter.2 ⟨by simpa using he, hb⟩, rfl⟩)
      have hi0s : i0 < ls.size := by rw [inv.size]; omega
      have hready0 : i0 ∈ Region.ready md ops ls := by
        refine mem_ready.2 ⟨getD_in hi0s hi0f, ops[i0]'(by omega), by simp [show i0 < ops.size by omega], fun e he hb => ?_⟩
        exact hi0l _ (hdeps i0 _ hi0 (by simp [show i0 < ops.size by omega]) e he hb)
      refine ⟨fun h => absurd hready0 (by rw [h]; simp), fun i hir => ?_⟩
      obtain ⟨hun, o, ho, hafter⟩ := mem_ready.1 hir
      have hio : i < ops.size := (Array.getElem?_eq_some_iff.1 ho).1
      have hin : i < n := by
        rcases Nat.lt_or_ge i n with h | h
        · exact h
        · rcases hc with h' | ⟨h1, h2⟩
          · omega
          · exact absurd hir (tail_waits h1 h2 (by omega) inv (n - i0) i0 rfl hi0 (getD_in hi0s hi0f) i h)
      have his : i < ls.size := by rw [inv.size]; omega
      have hget : (ops.toList.take n)[i]? = some o := by
        rw [List.getElem?_take, if_pos hin]
        simpa using ho
      have hcount' : (ls.setIfInBounds i true).toList.count false = fuel := by
        have h1 : ls.toList[i]? = some false := by
          have := hun
          simp only [Array.getD_eq_getD_getElem?, his, getElem?_pos, Option.getD_some] at this
          simp [his, this]
        have := count_set_true h1
        rw [Array.toList_setIfInBounds]
        omega
      have hstep := floatStepsK_get (ops.toList.take n) 0 i o hs hget vs W hi
        (fun j hj => by
          obtain ⟨e, he, rfl⟩ := List.mem_map.1 hj
          obtain ⟨he1, he2⟩ := List.mem_filter.1 he
          have he1' : e ∈ o.after := by simpa using he1
          exact hg _ (by have := hdeps i o hin ho e he1' he2; omega) (hafter e he1' he2))
        (fun v W' => wpAny P md ops Q fuel (ls.setIfInBounds i true) ((putAll vs (ops.toList.take n) 0 a).put o.dst v) W')
        (fun v W' hgv hb hav => by
          rw [Nat.zero_add] at hgv hav
          rw [putAll_set vs v _ 0 i a o hsl hget]
          refine ih (ls.setIfInBounds i true) _ W' hcount' (inv.set hir hin) (hI _ _ hi hb) (fun j hj hlj => ?_) (fun j k hj hk hlj hlk haj hak hjk => ?_)
          · show G j (if j = 0 + i then v else vs j) W'
            by_cases hji : j = i
            · subst hji
              rw [if_pos (by omega)]; exact hgv
            · rw [if_neg (by omega)]
              exact hG _ _ _ _ (hg j hj (by rw [getD_set_ne false (Ne.symm hji)] at hlj; exact hlj)) hb
          · have old : ∀ x, x < n → x ≠ i → (ls.setIfInBounds i true).getD x false = true → A x = true → ∀ q, v = .pointer (some ⟨q, 0, none⟩) → q = W.heap.size → vs x ≠ v := fun x hx hxi hlx hax q hv hq hne => by
              obtain ⟨p, hp, hlt⟩ := hA x (vs x) W hax (hg x hx (by rw [getD_set_ne false (Ne.symm hxi)] at hlx; exact hlx))
              rw [hp, hv] at hne
              simp only [Value.pointer.injEq, Option.some.injEq, Addr.mk.injEq, and_true] at hne
              omega
            show (if j = 0 + i then v else vs j) ≠ (if k = 0 + i then v else vs k)
            by_cases hji : j = i
            · subst hji
              rw [if_pos (by omega), if_neg (by omega)]
              exact Ne.symm (old k hk (Ne.symm hjk) hlk hak _ (hav haj) rfl)
            · rw [if_neg (by omega)]
              by_cases hki : k = i
              · subst hki
                rw [if_pos (by omega)]
                exact old j hj hji hlj haj _ (hav hak) rfl
              · rw [if_neg (by omega)]
                exact hdist j k hj hk (by rw [getD_set_ne false (Ne.symm hji)] at hlj; exact hlj) (by rw [getD_set_ne false (Ne.symm hki)] at hlk; exact hlk) haj hak hjk)
      unfold wpOp
      simp only [ho]
      split
      · rename_i hw
        rw [if_pos hw] at hstep
        exact .inl (floatOp_wp hstep fun _ _ h => h)
      · rename_i hw
        rw [if_neg hw] at hstep
        exact hstep

theorem wp_region_floatK {K : World → World → Prop} {id : Nat} {Q : Exit → Act → World → Prop} {a : Act} {w : World} {l : List Oper} (n : Nat) (A : Nat → Bool) (G : Nat → Value → World → Prop) (I : World → Prop)
    (hm : P.follows .mixedOrders = true) (hB : floatB .any l.toArray n = true)
    (hG : ∀ i v W W', G i v W → K W W' → G i v W')
    (hA : ∀ i v W, A i = true → G i v W → ∃ p, v = .pointer (some ⟨p, 0, none⟩) ∧ p < W.heap.size)
    (hI : ∀ W W', I W → K W W' → I W') (hKd : ∀ W, K W W.drew) (hI0 : I w)
    (hs : floatStepsK K P .any l.toArray A G I (fun vs => putAll vs (l.take n) 0 a) (l.take n) 0)
    (hl : ∀ vs W, I W → (∀ j, j < n → G j (vs j) W) → (∀ i j, i < n → j < n → A i = true → A j = true → i ≠ j → vs i ≠ vs j) →
      wpList P l.toArray Q (l.drop n) (putAll vs (l.take n) 0 a) W) : (Code.region id l.toArray true).wp P Q a w := by
  refine wp_region_any hm ?_
  obtain ⟨vs, hvs⟩ := putAll_self a (l.take n) 0
  have := wp_floatK (K := K) (md := .any) (ops := l.toArray) (Q := Q) (a := a) n hB hG hA hI hs hl l.toArray.size (Array.replicate l.toArray.size false) vs w.drew (by simp)
    ⟨by simp, fun _ _ _ z => (by rw [getD_replicate_false] at z; cases z), fun t _ z => getD_in (by simpa using z) (getD_replicate_false _ _)⟩
    (hI _ _ hI0 (hKd w)) (fun j _ z => (by rw [getD_replicate_false] at z; cases z)) (fun i j _ _ z => (by rw [getD_replicate_false] at z; cases z))
  rw [show putAll vs (List.take n l.toArray.toList) 0 a = a from hvs] at this
  exact this


/-! ### in words that a walk can use -/

def satK (L : List (Value → World → Prop)) (i : Nat) : Value → World → Prop := L.getD i fun _ _ => True

def FloatStepK (P : Program) (K : World → World → Prop) (L : List (Value → World → Prop)) (ds : List Nat) (I : World → Prop) (a : Act) (i : Nat) (o : Oper) : Prop :=
  ∀ (vs : Nat → Value) (W : World) (ρ : Operand → Value), (∀ t, ρ (.tmp t) = pick vs ds 0 t (a.eval (.tmp t))) → (∀ v, ρ (.const v) = v) → (∀ f, ρ (.func f) = .func (.func f) #[] #[]) → (∀ g, ρ (.global g) = .pointer (some ⟨g, 0, none⟩)) →
    I W → (∀ j ∈ depsOf .any o, satK L j (vs j) W) → ∀ R : Value → World → Prop,
    (∀ v W', satK L i v W' → K W W' → R v W') →
    if Region.wanted o (fun j => boolOf (vs j)) then floatUpon P R ((execOp ρ o).run P W) else R undef W

def FloatAllK (P : Program) (K : World → World → Prop) (L : List (Value → World → Prop)) (ds : List Nat) (I : World → Prop) (a : Act) : List Oper → Nat → Prop
  | [], _ => True
  | o :: r, i => FloatStepK P K L ds I a i o ∧ FloatAllK P K L ds I a r (i + 1)

theorem wp_region_saidK {id : Nat} {Q : Exit → Act → World → Prop} {a : Act} {w : World} {l : List Oper} (n : Nat) (ds : List Nat) (L : List (Value → World → Prop)) (I : World → Prop) (K : World → World → Prop)
    (hm : P.follows .mixedOrders = true) (hB : floatB .any l.toArray n = true) (hds : slotsAre ds (l.take n) = true) (hsz : ds.all (· < a.tmps.size) = true) (hgd : guardsB n (l.take n) = true)
    (hL : ∀ i v W W', satK L i v W → K W W' → satK L i v W') (hI : ∀ W W', I W → K W W' → I W') (hKd : ∀ W, K W W.drew) (hI0 : I w)
    (hs : FloatAllK P K L ds I a (l.take n) 0)
    (hl : ∀ vs W, I W → (∀ j, j < n → satK L j (vs j) W) → wpList P l.toArray Q (l.drop n) (putAll vs (l.take n) 0 a) W) : (Code.region id l.toArray true).wp P Q a w := by
  have hsz' : ∀ d ∈ ds, d < a.tmps.size := fun d hd => by simpa using List.all_eq_true.1 hsz d hd
  have hyield : ∀ vs i o, (l.take n)[i]? = some o → Region.wanted o (yielded l.toArray (putAll vs (l.take n) 0 a).tmps) = Region.wanted o (fun j => boolOf (vs j)) := fun vs i o ho => by
    unfold Region.wanted
    cases hg : o.guard with
    | none => rfl
    | some gw =>
      obtain ⟨g, want⟩ := gw
      have hgn : g < n := by
        have := List.all_eq_true.1 hgd o (List.mem_of_getElem? ho)
        simpa [hg] using this
      have hn : n ≤ l.length := by
        simp only [floatB, Bool.and_eq_true, decide_eq_true_eq] at hB
        simpa using hB.1.1.1.1
      have hgl : (l.take n)[g]? = some (l[g]'(by omega)) := by rw [List.getElem?_take, if_pos hgn]; simp [show g < l.length by omega]
      obtain ⟨d, hd1, hd2⟩ := slots_nth ds (l.take n) g _ hds hgl
      have h1 : (putAll vs (l.take n) 0 a).eval (.tmp d) = vs g := by
        rw [putAll_pick vs d (l.take n) ds 0 a hds hsz', pick_nth ds (l.take n) 0 g d _ hds hd1, Nat.zero_add]
      have h2 : d < (putAll vs (l.take n) 0 a).tmps.size := by rw [putAll_size]; exact hsz' d (List.mem_of_getElem? hd1)
      have h3 : (putAll vs (l.take n) 0 a).tmps[d]? = some (vs g) := by
        simp only [Act.eval, Array.getD_eq_getD_getElem?, h2, getElem?_pos, Option.getD_some] at h1
        rw [Array.getElem?_eq_getElem h2, h1]
      have h4 : (l.toArray[g]?).bind (·.dst) = some d := by
        simp [show g < l.length by omega, hd2]
      have : yielded l.toArray (putAll vs (l.take n) 0 a).tmps g = boolOf (vs g) := by
        unfold yielded
        rw [h4, Option.bind_some, h3]
        cases vs g <;> rfl
      simp only [this]
  refine wp_region_floatK (K := K) n (fun _ => false) (fun i v W => satK L i v W) I hm hB hL (fun i v W h => by cases h) hI hKd hI0 ?_ (fun vs W h hg _ => hl vs W h hg)
  have : ∀ (m : List Oper) (k : Nat), (∀ i o, m[i]? = some o → (l.take n)[k + i]? = some o) → FloatAllK P K L ds I a m k →
      floatStepsK K P .any l.toArray (fun _ => false) (fun i v W => satK L i v W) I (fun vs => putAll vs (l.take n) 0 a) m k := by
    intro m
    induction m with
    | nil => intro _ _ _; trivial
    | cons o r ih =>
      intro k hk h
      refine ⟨fun vs W hi hdep R hR => ?_, ih (k + 1) (fun i o' ho' => by have := hk (i + 1) o' (by simpa using ho'); rw [show k + (i + 1) = k + 1 + i by omega] at this; exact this) h.2⟩
      have hstep := h.1 vs W (putAll vs (l.take n) 0 a).eval (fun t => putAll_pick vs t (l.take n) ds 0 a hds hsz') (fun _ => rfl) (fun _ => rfl) (fun _ => rfl) hi hdep R (fun v W' h1 h2 => hR v W' h1 h2 (fun h => by cases h))
      rw [hyield vs k o (by have := hk 0 o (by simp); simpa using this)]
      exact hstep
  exact this (l.take n) 0 (fun i o h => by rw [Nat.zero_add]; exact h) hs

end

end Go.Proofs.Ytjehjbkcdpidbaa

/- What the document's device answers to Read, burns, Fuse, Write and Dirty; contracts; no condition but the range. -/
namespace Go.Proofs.Ytjehjbkcdpidbaa
namespace Sc
open Go.RowKit Bk

attribute [local go_sem ↓] Go.wp_at_zero Go.wp_at_succ
attribute [local go_sem] floatUpon pick

section
variable {w : World} {g : Nat} {ao an : Addr} {co cn : Nat} {so sn : List Value} {D : Dev}

end

end Sc
end Go.Proofs.Ytjehjbkcdpidbaa

/- What the document's device answers to Flush; contract; no condition but the range. -/
namespace Go.Proofs.Ytjehjbkcdpidbaa
namespace Sc
open Go.RowKit Bk

attribute [local go_sem ↓] Go.wp_at_zero Go.wp_at_succ
attribute [local go_sem] floatUpon pick

theorem text_no {n : ByteArray} (hn : n ≠ nil0) : ¬ n.toList = [] ∧ n.toList.isEmpty = false ∧ (n.toList == (⟨#[]⟩ : ByteArray).toList) = false := by
  have t0 := text_ne hn
  have t1 : ¬ n.toList = [] := fun h => hn (by
    rw [ByteArray.toList_eq] at h
    obtain ⟨a⟩ := n
    unfold nil0
    congr 1
    exact Array.toList_inj.1 h)
  exact ⟨t1, by rw [List.isEmpty_eq_false_iff]; exact t1, t0⟩

/-- a device of which the first j sectors are done -/
def part (D : Dev) (j : Nat) (f : Nat → ByteArray) (l : Nat) (b : Bool) : Dev := ⟨upd D.on j f, upd D.new j (fun _ => nil0), l, b⟩

theorem part_zero (D : Dev) (f : Nat → ByteArray) (l : Nat) (b : Bool) : part D 0 f l b = ⟨D.on, D.new, l, b⟩ := by unfold part; rw [upd_zero, upd_zero]

theorem upd_here {l : List ByteArray} {j : Nat} {f : Nat → ByteArray} (h : j < l.length) (h' : j < (upd l j f).length) : (upd l j f)[j] = l[j] := by
  rw [upd_at h' h, if_neg (Nat.lt_irrefl _)]

section
variable {w : World} {g : Nat} {ao an : Addr} {co cn : Nat} {so sn : List Value} {D : Dev}

end

end Sc
end Go.Proofs.Ytjehjbkcdpidbaa

/- A slice's whole numbers, as StrsAt says of texts; SameInts; no condition but the range. -/
namespace Go.Proofs.Ytjehjbkcdpidbaa
namespace Bk
open Go.RowKit

attribute [local go_sem ↓] Go.wp_at_zero Go.wp_at_succ

def intV (l : List Int) : List Value := l.map (Value.int .i64)

theorem intV_len (l : List Int) : (intV l).length = l.length := by simp [intV]

theorem intV_at {l : List Int} {i : Nat} (h : i < l.length) : (intV l)[i]? = some (.int .i64 l[i]) := by
  unfold intV
  rw [List.getElem?_map, List.getElem?_eq_getElem h]; rfl

theorem intV_snoc (O : List Int) (x : Int) : intV (O ++ [x]) = intV O ++ [.int .i64 x] := by simp [intV]

/-- the slice v holds the numbers l -/
def IntsAt (w : World) (A : Option Addr) (l : List Int) : Prop :=
  0 < l.length → ∃ ad, A = some ad ∧ ad.block < w.heap.size ∧ ∀ i (h : i < l.length), w.cell? (ad.add i) = some (.int .i64 l[i])

theorem IntsAt.below {w w' : World} {A : Option Addr} {l : List Int} (h : IntsAt w A l) (hb : Below w.heap.size w w') : IntsAt w' A l := fun hp => by
  obtain ⟨ad, h1, h2, h3⟩ := h hp
  exact ⟨ad, h1, Nat.lt_of_lt_of_le h2 hb.size, fun i hi => (cell_kept hb _ (by rw [st_block]; exact h2)).trans (h3 i hi)⟩

theorem IntsAt.alloc {w : World} {A : Option Addr} {l : List Int} (h : IntsAt w A l) (o : Obj) : IntsAt (w.alloc o) A l := h.below ((Below.refl _ w).alloc (Nat.le_refl _) o)

theorem IntsAt.drewN {w : World} {A : Option Addr} {l : List Int} (h : IntsAt w A l) (n : Nat) : IntsAt (w.drewN n) A l := h

theorem IntsAt.blk {w : World} {g : Nat} {t : TypeId} {l : List Int} (h : w.heap[g]? = some (.cells (intV l).toArray t (0, 0))) : IntsAt w (some ⟨g, 0, none⟩) l := fun _ =>
  ⟨_, rfl, (Array.getElem?_eq_some_iff.1 h).1, fun i hi => by rw [addr_head]; exact blk_cell h (by rw [List.getElem?_toArray]; exact intV_at hi)⟩

theorem IntsAt.own {w : World} {H g n cap : Nat} {e : TypeId} {l : List Int} (h : w.ownsRow H e 1 (.slice (some ⟨g, 0, none⟩) n cap) n (intV l)) (hl : n = l.length) : IntsAt w (some ⟨g, 0, none⟩) l := fun hp => by
  have hf := World.ownsRow.cellAt h
  refine ⟨_, rfl, ?_, fun i hi => ?_⟩
  · obtain ⟨g', cap', hv, _, hlt⟩ := World.ownsRow.form h (by omega)
    simp only [Value.slice.injEq, Option.some.injEq, Addr.mk.injEq] at hv
    obtain ⟨⟨rfl, -⟩, -⟩ := hv
    exact hlt
  · rw [addr_head, hf i (by omega)]
    exact intV_at hi

theorem ints_of_own {w : World} {H n : Nat} {v : Value} {e : TypeId} {O : List Int} (h : w.ownsRow H e 1 v n (intV O)) (hl : n = O.length) : ∃ (A : Option Addr) (c : Nat), v = .slice A n c ∧ IntsAt w A O := by
  have h2 := h.2
  rcases h2 with ⟨h1, h2, h3⟩ | ⟨g, cap, cur, h1, _⟩
  · exact ⟨none, 0, h1, fun hp => absurd hl (by omega)⟩
  · subst h1
    exact ⟨_, _, rfl, IntsAt.own h hl⟩

theorem strs_of_own2 {w : World} {H n : Nat} {v : Value} {e : TypeId} {O : List ByteArray} (h : w.ownsRow H e 1 v n (strV O)) (hl : n = O.length) : ∃ (A : Option Addr) (c : Nat), v = .slice A n c ∧ StrsAt w A O := by
  have h2 := h.2
  rcases h2 with ⟨h1, h2, h3⟩ | ⟨g, cap, cur, h1, _⟩
  · exact ⟨none, 0, h1, fun hp => absurd hl (by omega)⟩
  · subst h1
    exact ⟨_, _, rfl, StrsAt.own h hl⟩

theorem IntsAt.news {w : World} {ad : Addr} {l : List Int} (h : IntsAt w (some ad) l) : ∀ j u, (intV l)[j]? = some u → w.cell? (ad.add j) = some u := fun j u hu => by
  have hj : j < l.length := by
    have := (List.getElem?_eq_some_iff.1 hu).1
    rwa [intV_len] at this
  obtain ⟨a', e, _, h3⟩ := h (by omega)
  obtain rfl := Option.some.inj e
  rw [intV_at hj] at hu
  rw [← hu]
  exact h3 j hj

end Bk
end Go.Proofs.Ytjehjbkcdpidbaa

/- What the document's device does at a crash; contract; no condition but the range. -/
namespace Go.Proofs.Ytjehjbkcdpidbaa
namespace Sc
open Go.RowKit Bk

attribute [local go_sem ↓] Go.wp_at_zero Go.wp_at_succ
attribute [local go_sem] floatUpon pick

theorem cut_mod (p : Int) : ((p % 64).toNat : Int) = p % 64 ∧ (p % 64).toNat ≤ 64 := by omega

/-- what is left behind a crash, as two parts -/
theorem torn_two (o n : ByteArray) (p : Int) {m : Nat} (hm : cutN p = m) : (⟨(n.data.toList.take m).toArray⟩ : ByteArray) ++ ⟨(o.data.toList.drop m).toArray⟩ = torn o n p := by
  unfold torn
  rw [hm]
  apply ByteArray.ext
  apply Array.toList_inj.1
  simp

section
variable {w : World} {g : Nat} {ao an : Addr} {co cn : Nat} {so sn : List Value} {D : Dev}

end

end Sc
end Go.Proofs.Ytjehjbkcdpidbaa

/- append onto an empty literal: a row of its own, no old block written; no condition but the range. -/
namespace Go.Proofs.Ytjehjbkcdpidbaa
namespace Bk
open Go.RowKit

theorem setRow_same {w : World} {g : Nat} {cs : Array Value} {t : TypeId} {m : Nat × Nat} (h : w.heap[g]? = some (.cells cs t m)) : Below w.heap.size w (w.setRow g cs) :=
  ⟨rfl, rfl, rfl, by simp, fun k hk => by
    by_cases e : k = g
    · subst e; rw [setRow_heap w k cs cs t m h, h]
    · exact setRow_other w g k _ e⟩

theorem run_append_empty {P : Program} (w : World) (base : Nat) (t ty e : TypeId) (i : TypeInfo) (z : Value) (bytes : Nat) (ht : P.underlying t = some (.slice e)) (hi : P.info? e = some i) (hz : i.zero = some z)
    (hsize : i.size = 1) (hby : i.bytes = bytes) (hzs : z.cells.size = 1) (g : Nat) (hg : w.heap[g]? = some (.cells #[] e (0, 0))) (hbg : base ≤ g)
    (A : Option Addr) (m c : Nat) (news : List Value) (hl : news.length = m) (hA : A = none → m = 0 ∧ c = 0) (hnews : ∀ ad, A = some ad → ∀ j u, news[j]? = some u → w.cell? (ad.add j) = some u) (h1 : ∀ u ∈ news, u.oneCell' = true)
    (h63 : m ≤ maxLen) (hbytes : m * bytes ≤ 140737488355328) :
    ∃ v' w', (Builtin.append_ #[t, t] ty #[.slice (some ⟨g, 0, none⟩) 0 0, .slice A m c]).run P w = .ok v' w' ∧ w'.ownsRow base e 1 v' m news ∧ Below w.heap.size w w' ∧ (∃ g' cap, v' = .slice (some ⟨g', 0, none⟩) m cap ∧ (m = 0 → cap = 0)) := by
  have hlt : g < w.heap.size := (Array.getElem?_eq_some_iff.1 hg).1
  have hown : w.ownsRow base e 1 (.slice (some ⟨g, 0, none⟩) 0 0) 0 [] := ⟨rfl, .inr ⟨g, 0, #[], rfl, hbg, hg, Nat.le_refl _, Nat.zero_le _, rfl, rfl⟩⟩
  cases A with
  | none =>
    obtain ⟨rfl, rfl⟩ := hA rfl
    obtain rfl : news = [] := List.eq_nil_of_length_eq_zero hl
    exact ⟨_, _, run_append_owned_none (P := P) w base t ty e i 1 ht hi _ _ _ hown, hown, Below.refl _ _, g, 0, rfl, fun _ => rfl⟩
  | some ad =>
    by_cases hm : m = 0
    · subst hm
      obtain rfl : news = [] := List.eq_nil_of_length_eq_zero hl
      have hr := run_append_room (P := P) w t ty e i ht hi g 0 0 #[] hg ad 0 c [] (by simp) (fun j u h => by simp at h) (fun u h => by simp at h) (by omega) (by simp)
      have he : (List.take (0 * i.size) (#[] : Array Value).toList ++ ([] : List Value) ++ List.drop (0 * i.size + ([] : List Value).length) (#[] : Array Value).toList).toArray = (#[] : Array Value) := by simp
      rw [he] at hr
      refine ⟨_, _, hr, ?_, ?_, g, 0, rfl, fun _ => rfl⟩
      · refine ⟨rfl, .inr ⟨g, 0, #[], rfl, hbg, ?_, Nat.le_refl _, Nat.zero_le _, rfl, rfl⟩⟩
        exact setRow_heap w g _ _ e _ hg
      · exact setRow_same hg
    · have hb2 : (0 + m) * bytes ≤ 140737488355328 := by rw [Nat.zero_add]; exact hbytes
      obtain ⟨v', w', hr, h2, h3, _, _⟩ := run_append_own_at (P := P) w base t ty e i z 1 bytes ht hi hz hsize hby hzs (by decide) _ 0 [] hown ad m c news (by rw [hl, Nat.mul_one]) (hnews ad rfl) h1 (by omega) hb2 (by omega)
      have hr2 := run_append_grow (P := P) w t ty e i z ht hi hz ⟨g, 0, none⟩ 0 0 [] (by simp) (fun j v h => by simp at h) ad m c news (by rw [hl, hsize, Nat.mul_one]) (hnews ad rfl) (by omega) (by unfold maxLen at h63; omega) (growslice_fits (by omega) (by rw [hby]; exact hb2))
      rw [hr] at hr2
      simp only [Result.ok.injEq] at hr2
      obtain ⟨e1, e2⟩ := hr2
      rw [Nat.zero_add, List.nil_append] at h2
      refine ⟨v', w', hr, h2, ?_, w.heap.size, _, by rw [e1, Nat.zero_add], fun h => absurd h hm⟩
      rw [e2]
      exact (Below.refl _ w).drew.alloc (by simp) _

/-- append of a row that may be nil onto an owned row -/
theorem run_append_opt {P : Program} (w : World) (base : Nat) (t ty e : TypeId) (i : TypeInfo) (z : Value) (bytes : Nat) (ht : P.underlying t = some (.slice e)) (hi : P.info? e = some i) (hz : i.zero = some z)
    (hsize : i.size = 1) (hby : i.bytes = bytes) (hzs : z.cells.size = 1) (v : Value) (n : Nat) (xs : List Value) (hown : w.ownsRow base e 1 v n xs)
    (A : Option Addr) (m c : Nat) (news : List Value) (hl : news.length = m) (hA : A = none → m = 0 ∧ c = 0) (hnews : ∀ ad, A = some ad → ∀ j u, news[j]? = some u → w.cell? (ad.add j) = some u) (h1 : ∀ u ∈ news, u.oneCell' = true)
    (h63 : n + m ≤ maxLen) (hbytes : (n + m) * bytes ≤ 140737488355328) (hbase : base ≤ w.heap.size) :
    ∃ v' w', (Builtin.append_ #[t, t] ty #[v, .slice A m c]).run P w = .ok v' w' ∧ w'.ownsRow base e 1 v' (n + m) (xs ++ news) ∧ w.grownBy w' v.ownBlock ∧ (v'.ownBlock = v.ownBlock ∨ v'.ownBlock = some w.heap.size) := by
  cases A with
  | none =>
    obtain ⟨rfl, rfl⟩ := hA rfl
    obtain rfl : news = [] := List.eq_nil_of_length_eq_zero hl
    exact ⟨v, w, run_append_owned_none (P := P) w base t ty e i 1 ht hi _ _ _ hown, by rw [List.append_nil]; exact hown, ⟨rfl, rfl, rfl, Nat.le_refl _, fun _ _ _ => rfl⟩, .inl rfl⟩
  | some ad =>
    obtain ⟨v', w', hr, h2, h3, _, h5⟩ := run_append_own_at (P := P) w base t ty e i z 1 bytes ht hi hz hsize hby hzs (by omega) v n xs hown ad m c news (by omega) (hnews ad rfl) h1 h63 hbytes hbase
    exact ⟨v', w', hr, h2, h3, h5⟩

theorem wpList_append_opt {P : Program} {w : World} {ops : Array Oper} {rest : List Oper} {o : Oper} {a : Act} {Q : Exit → Act → World → Prop} (hgd : o.guard = none) (s x : Operand) (t : TypeId)
    (ho : o.op = .call { callee := .builtin .append, args := #[s, x], argTypes := #[t, t] })
    (base : Nat) (e : TypeId) (i : TypeInfo) (z : Value) (bytes : Nat) (ht : P.underlying t = some (.slice e)) (hi : P.info? e = some i) (hz : i.zero = some z)
    (hsize : i.size = 1) (hby : i.bytes = bytes) (hzs : z.cells.size = 1) (v : Value) (n : Nat) (xs : List Value) (hs : a.eval s = v) (hown : w.ownsRow base e 1 v n xs)
    (A : Option Addr) (m c : Nat) (news : List Value) (hx : a.eval x = .slice A m c) (hl : news.length = m) (hA : A = none → m = 0 ∧ c = 0) (hnews : ∀ ad, A = some ad → ∀ j u, news[j]? = some u → w.cell? (ad.add j) = some u) (h1 : ∀ u ∈ news, u.oneCell' = true)
    (h63 : n + m ≤ maxLen) (hbytes : (n + m) * bytes ≤ 140737488355328) (hbase : base ≤ w.heap.size)
    (h : ∀ v' w', w'.ownsRow base e 1 v' (n + m) (xs ++ news) → w.grownBy w' v.ownBlock → (v'.ownBlock = v.ownBlock ∨ v'.ownBlock = some w.heap.size) → wpList P ops Q rest (a.put o.dst v') w') :
    wpList P ops Q (o :: rest) a w := by
  refine wpList_plain hgd fun K hK => ?_
  obtain ⟨v', w', hr, h2, h3, h5⟩ := run_append_opt (P := P) w base t o.type e i z bytes ht hi hz hsize hby hzs v n xs hown A m c news hl hA hnews h1 h63 hbytes hbase
  unfold Oper.wp execOp
  simp only [ho, resolve, invoke, builtin, Sem.run_bind, Sem.run_pure, Result.andThen_ok, List.map_toArray, List.map_cons, List.map_nil, hs, hx, hr]
  exact hK _ _ (h v' w' h2 h3 h5)

end Bk
end Go.Proofs.Ytjehjbkcdpidbaa

/- Onto a row of the call's own one cell is appended at a step of a drawn region: what stands, and what is there; no condition. -/
namespace Go.Proofs.Ytjehjbkcdpidbaa
namespace Bk
open Go.RowKit

/-- no old block is written, or the cell is laid behind the row, where there is room -/
def GrK (T : TypeId) (r : Option Nat) (pre : List Value) (u : Value) (W W' : World) : Prop :=
  Below W.heap.size W W' ∨ ∃ (g : Nat) (cur : Array Value), r = some g ∧ W.heap[g]? = some (.cells cur T (0, 0)) ∧ pre.length + 1 ≤ cur.size ∧ cur.toList.take pre.length = pre ∧ W' = W.setRow g (pre ++ [u] ++ cur.toList.drop (pre.length + 1)).toArray

section
variable {T : TypeId} {r : Option Nat} {pre : List Value} {u : Value} {w W W' : World}

theorem GrK.grown (h : GrK T r pre u W W') : W.grownBy W' r := by
  rcases h with h | ⟨g, cur, rfl, _, _, _, rfl⟩
  · exact ⟨h.os, h.tape, h.output, h.size, fun k hk _ => h.block k hk⟩
  · exact ⟨rfl, rfl, rfl, by simp, fun k _ hk => setRow_other W g k _ (fun e => hk (by rw [e]))⟩

theorem GrK.size (h : GrK T r pre u W W') : W.heap.size ≤ W'.heap.size := h.grown.size

theorem GrK.below {X : Nat} (h : Below X w W) (hX : X ≤ W.heap.size) (hr : ∀ g, r = some g → X ≤ g) (hk : GrK T r pre u W W') : Below X w W' := h.grown hk.grown hX hr

theorem GrK.cel {k : Nat} {t : TypeId} {xs : List Value} (h : Cel W k t xs) (hn : r ≠ some k) (hk : GrK T r pre u W W') : Cel W' k t xs := (hk.grown.block k h.lt (fun e => hn e.symm)).trans h

theorem GrK.blk {k : Nat} {o : Obj} (h : W.heap[k]? = some o) (hn : r ≠ some k) (hk : GrK T r pre u W W') : W'.heap[k]? = some o := (hk.grown.block k (Array.getElem?_eq_some_iff.1 h).1 (fun e => hn e.symm)).trans h

/-- the row, ahead of it -/
theorem GrK.first {H n : Nat} {v : Value} (h : W.ownsRow H T 1 v n pre) (hk : GrK T r pre u W W') : W'.ownsRow H T 1 v n pre := by
  rcases hk with hb | ⟨g, cur, rfl, hg, hz, ht, rfl⟩
  · exact st_keep h hb
  · refine ⟨h.1, ?_⟩
    rcases h.2 with h' | ⟨g2, cap2, cur2, hv, hH, hg2, h1, h2, h3, h4⟩
    · exact .inl h'
    · right
      by_cases e : g2 = g
      · subst e
        rw [hg] at hg2
        simp only [Option.some.injEq, Obj.cells.injEq, and_true] at hg2
        obtain rfl := hg2
        refine ⟨g2, cap2, _, hv, hH, setRow_heap W g2 _ _ T _ hg, h1, h2, ?_, ?_⟩
        · rw [← h3]
          simp only [List.size_toArray, List.length_append, List.length_drop, Array.length_toList, List.length_singleton]
          omega
        · rw [List.toList_toArray, List.append_assoc]
          have hl : pre.length = n * 1 := h.1
          rw [List.take_append_of_le_length (by omega), List.take_of_length_le (by omega)]
      · exact ⟨g2, cap2, cur2, hv, hH, (setRow_other W g g2 _ e).trans hg2, h1, h2, h3, h4⟩

/-- the row that has grown, wherever it lies -/
theorem GrK.more {H n : Nat} {v : Value} (h : W.ownsRow H T 1 v n (pre ++ [u])) (hk : GrK T r pre u W W') : W'.ownsRow H T 1 v n (pre ++ [u]) := by
  rcases hk with hb | ⟨g, cur, rfl, hg, hz, ht, rfl⟩
  · exact st_keep h hb
  · refine ⟨h.1, ?_⟩
    rcases h.2 with h' | ⟨g2, cap2, cur2, hv, hH, hg2, h1, h2, h3, h4⟩
    · exact .inl h'
    · right
      by_cases e : g2 = g
      · subst e
        rw [hg] at hg2
        simp only [Option.some.injEq, Obj.cells.injEq, and_true] at hg2
        obtain rfl := hg2
        refine ⟨g2, cap2, _, hv, hH, setRow_heap W g2 _ _ T _ hg, h1, h2, ?_, ?_⟩
        · rw [← h3]
          simp only [List.size_toArray, List.length_append, List.length_drop, Array.length_toList, List.length_singleton]
          omega
        · rw [List.toList_toArray]
          have hl : (pre ++ [u]).length = n * 1 := h.1
          rw [List.take_append_of_le_length (by omega), List.take_of_length_le (by omega)]
      · exact ⟨g2, cap2, cur2, hv, hH, (setRow_other W g g2 _ e).trans hg2, h1, h2, h3, h4⟩

theorem grown_none (h : W.grownBy W' none) : Below W.heap.size W W' := ⟨h.os, h.tape, h.output, h.size, fun k hk => h.block k hk (by simp)⟩

/-- one cell is appended -/
theorem run_grow1 {P : Program} {H bytes o : Nat} {t ty : TypeId} {i : TypeInfo} {z v : Value} (ht : P.underlying t = some (.slice T)) (hi : P.info? T = some i) (hz : i.zero = some z) (hsize : i.size = 1) (hby : i.bytes = bytes) (hzs : z.cells.size = 1)
    (hown : W.ownsRow H T 1 v pre.length pre) (hr : r = v.ownBlock) (ho : W.heap[o]? = some (.cells #[u] T (0, 0))) (h1 : u.oneCell' = true)
    (h63 : pre.length + 1 ≤ maxLen) (hbytes : (pre.length + 1) * bytes ≤ 140737488355328) (hbase : H ≤ W.heap.size) :
    ∃ v' W', (Builtin.append_ #[t, t] ty #[v, .slice (some ⟨o, 0, none⟩) 1 1]).run P W = .ok v' W' ∧ W'.ownsRow H T 1 v' (pre.length + 1) (pre ++ [u]) ∧ GrK T r pre u W W' ∧ (v'.ownBlock = r ∨ v'.ownBlock = some W.heap.size) := by
  subst hr
  obtain ⟨v', w', hrun, h2, h3, _, h5⟩ := run_append_own_at (P := P) W H t ty T i z 1 bytes ht hi hz hsize hby hzs (by decide) v pre.length pre hown ⟨o, 0, none⟩ 1 1 [u] rfl (str_one ho) (fun q hq => by simp at hq; subst hq; exact h1) h63 hbytes hbase
  refine ⟨v', w', hrun, h2, ?_, h5⟩
  rcases hown.2 with ⟨h', h''⟩ | ⟨g, cap, cur, hv, hbg, hg, hnc, hcm, hcs, htake⟩
  · subst h'
    exact .inl (grown_none h3)
  · subst hv
    by_cases hroom : pre.length + 1 ≤ cap
    · have hr2 := run_append_room (P := P) W t ty T i ht hi g pre.length cap cur hg ⟨o, 0, none⟩ 1 1 [u] (by rw [hsize]; rfl) (str_one ho) (fun q hq => by simp at hq; subst hq; exact h1) hroom (by rw [hsize]; simp; omega)
      rw [hrun] at hr2
      simp only [Result.ok.injEq] at hr2
      refine .inr ⟨g, cur, rfl, hg, by omega, by rw [Nat.mul_one] at htake; exact htake, ?_⟩
      rw [hr2.2, hsize, Nat.mul_one]
      rw [Nat.mul_one] at htake
      rw [htake]; rfl
    · have hr2 := run_append_grow (P := P) W t ty T i z ht hi hz ⟨g, 0, none⟩ pre.length cap pre (by rw [hsize, Nat.mul_one]) (hown.cells (g := g) rfl) ⟨o, 0, none⟩ 1 1 [u] (by rw [hsize]; rfl) (str_one ho) (by omega) (by unfold maxLen at h63; omega) (growslice_fits (by unfold maxLen at h63; omega) (by rw [hby]; exact hbytes))
      rw [hrun] at hr2
      simp only [Result.ok.injEq] at hr2
      left
      rw [hr2.2]
      exact (Below.refl _ W).drew.alloc (by simp) _

theorem satK_of {K : World → World → Prop} {L : List (Value → World → Prop)} (h : ∀ S ∈ L, ∀ v W W', S v W → K W W' → S v W') : ∀ i v W W', satK L i v W → K W W' → satK L i v W' := fun i v W W' hs hk => by
  unfold satK at hs ⊢
  rw [List.getD_eq_getElem?_getD] at hs ⊢
  cases e : L[i]? with
  | none => trivial
  | some S =>
    rw [e] at hs
    exact h S (List.mem_of_getElem? e) v W W' hs hk

end

end Bk
end Go.Proofs.Ytjehjbkcdpidbaa

/- What the document's device is when it is made; contract; no condition but the range. -/
namespace Go.Proofs.Ytjehjbkcdpidbaa
namespace Sc
open Go.RowKit Bk

attribute [local go_sem ↓] Go.wp_at_zero Go.wp_at_succ
attribute [local go_sem] floatUpon pick

theorem own_ne {W : World} {v v' : Value} {g : Nat} (hn : v.ownBlock ≠ some g) (hg : g < W.heap.size) (hat : v'.ownBlock = v.ownBlock ∨ v'.ownBlock = some W.heap.size) : v'.ownBlock ≠ some g := by
  rcases hat with h | h
  · rw [h]; exact hn
  · rw [h]; intro e; simp only [Option.some.injEq] at e; omega

/-- a row of the call's own, as a block that is known whole -/
theorem own_cel {w : World} {H n : Nat} {e : TypeId} {v : Value} {l : List ByteArray} (h : w.ownsRow H e 1 v n (strV l)) (hn : n = l.length) (h0 : 0 < n) : ∃ b cap sp, v = .slice (some ⟨b, 0, none⟩) n cap ∧ Cel w b e (strV l ++ sp) ∧ H ≤ b := by
  rcases h.2 with ⟨h1, h2⟩ | ⟨g, cap, cur, h1, hH, hg, _, _, hcs, htake⟩
  · omega
  · refine ⟨g, cap, cur.toList.drop (n * 1), h1, ?_, hH⟩
    have : cur = (strV l ++ cur.toList.drop (n * 1)).toArray := by
      rw [← htake, List.take_append_drop]
    unfold Cel
    rw [← this]; exact hg

def TIs (u v : Value) (_ : World) : Prop := v = u
def TArr (t : TypeId) (r : Option Nat) (u v : Value) (W : World) : Prop := ∃ o, v = .slice (some ⟨o, 0, none⟩) 1 1 ∧ W.heap[o]? = some (.cells #[u] t (0, 0)) ∧ r ≠ some o
def TRow (t : TypeId) (X b : Nat) (r : Option Nat) (n : Nat) (xs : List Value) (v : Value) (W : World) : Prop := W.ownsRow X t 1 v n xs ∧ (v.ownBlock = r ∨ ∃ p, v.ownBlock = some p ∧ b ≤ p)

end Sc
end Go.Proofs.Ytjehjbkcdpidbaa

/- What the document's own log reads of a sector, and of an area; contracts; no condition but the range. -/
namespace Go.Proofs.Ytjehjbkcdpidbaa
namespace Rd
open Go.RowKit Sc Bk

attribute [local go_sem ↓] Go.wp_at_zero Go.wp_at_succ
attribute [local go_sem] floatUpon pick

/-- how many bytes an area has -/
def areaN (D : Dev) : Nat := (D.on.length - 2) / 2 * 64

theorem wrap_num {x : Nat} (h : x < 256 ^ 8) : (IntKind.i64.wrap (x : Int) = (x : Int) ∧ x ≤ 9223372036854775807) ∨ (IntKind.i64.wrap (x : Int) < 0 ∧ 9223372036854775807 < x) := by
  simp only [IntKind.wrap, IntKind.bits, IntKind.signed]; simp; omega

section
variable {w : World} {g : Nat} {ao an : Addr} {co cn : Nat} {so sn : List Value} {D : Dev}

theorem results_tmp4 {fn : Func} {t u v x : Tmp} (h : fn.results = #[.tmp t, .tmp u, .tmp v, .tmp x]) (tmps : Array Value) (P : Program) (w : World) :
    (results fn tmps).run P w = .ok (.tuple #[tmps.getD t undef, tmps.getD u undef, tmps.getD v undef, tmps.getD x undef]) w := by
  simp [results, h]

theorem u8_i64 (b : UInt8) : IntKind.i64.wrap (b.toNat : Int) = (b.toNat : Int) := by
  have := b.toNat_lt
  exact i64_wrap (by omega) (by omega)


end

end Rd
end Go.Proofs.Ytjehjbkcdpidbaa

/- What follows of a device's calls: without a fuse, behind a flush, under a fuse; no condition. -/
namespace Go.Proofs.Ytjehjbkcdpidbaa
namespace Sc

/-- up, and without a fuse -/
def Idle (D : Dev) : Prop := D.left = 0 ∧ D.down = false

theorem new0_idle (n : Nat) : Idle (new0 n) := ⟨rfl, rfl⟩

theorem burn_idle {D : Dev} (h : Idle D) : burn D = (D, false) := by unfold burn; rw [if_pos h.1]

theorem rd_up {D : Dev} (hd : D.down = false) {k : Nat} (hk : k < D.on.length) : rdV D (k : Int) = (flushF D k, 0) := by
  unfold rdV flushF
  rw [if_neg (by rw [hd]; simp), if_neg (by omega), Int.toNat_natCast]

theorem wr_up {D : Dev} (hd : D.down = false) {k : Nat} (hk : k < D.on.length) {t : ByteArray} (ht : t.size = 64) :
    wrD D (k : Int) t = if (burn D).2 = true then ((burn D).1, 90) else (⟨D.on, D.new.set k t, (burn D).1.left, (burn D).1.down⟩, 0) := by
  unfold wrD
  rw [rd_up hd hk, if_neg (by simp), if_neg (by simpa using ht), Int.toNat_natCast]

theorem wr_idle {D : Dev} (h : Idle D) {k : Nat} (hk : k < D.on.length) {t : ByteArray} (ht : t.size = 64) : wrD D (k : Int) t = (⟨D.on, D.new.set k t, 0, false⟩, 0) := by
  rw [wr_up h.2 hk ht, burn_idle h, if_neg (by simp), h.1, h.2]

theorem fl_idle {D : Dev} (h : Idle D) : flD D = (⟨upd D.on D.on.length (flushF D), upd D.new D.on.length (fun _ => nil0), 0, false⟩, 0) := by
  unfold flD
  rw [if_neg (by rw [h.2]; simp), burn_idle h, if_neg (by simp), h.1, h.2]

theorem not_nil {t : ByteArray} (ht : t.size = 64) : t ≠ nil0 := fun e => by rw [e] at ht; cases ht

/-- what is seen behind a write -/
theorem view_set {D : Dev} {k i : Nat} (hk : k < D.new.length) {t : ByteArray} (ht : t.size = 64) (l : Nat) (b : Bool) : flushF ⟨D.on, D.new.set k t, l, b⟩ i = if i = k then t else flushF D i := by
  unfold flushF
  simp only
  by_cases e : i = k
  · subst e
    rw [if_pos rfl, List.getD_eq_getElem?_getD, List.getElem?_set_self hk]
    simp only [Option.getD_some]
    rw [if_neg (not_nil ht)]
  · rw [if_neg e, List.getD_eq_getElem?_getD, List.getElem?_set_ne (Ne.symm e), ← List.getD_eq_getElem?_getD]

theorem upd_getD {l : List ByteArray} {f : Nat → ByteArray} {i : Nat} (h : i < l.length) : (upd l l.length f).getD i nil0 = f i := by
  rw [getD_at (by rw [upd_len]; exact h), upd_at _ h, if_pos h]

theorem nil_getD (l : List ByteArray) (i : Nat) : (upd l l.length (fun _ => nil0)).getD i nil0 = nil0 := by
  rw [upd_all, List.getD_eq_getElem?_getD, List.getElem?_replicate]
  split <;> rfl

/-- what is seen where nothing waits -/
theorem view_clean {on new : List ByteArray} (hl : new.length = on.length) {f : Nat → ByteArray} {i : Nat} (h : i < on.length) (l : Nat) (b : Bool) : flushF ⟨upd on on.length f, upd new on.length (fun _ => nil0), l, b⟩ i = f i := by
  unfold flushF
  simp only
  rw [← hl, nil_getD, if_pos rfl, hl, upd_getD h]

theorem cnt_nil (l : List ByteArray) (i : Nat) : cnt (upd l l.length (fun _ => nil0)) i = 0 := by
  unfold cnt
  rw [upd_all, List.take_replicate, List.length_eq_zero_iff, List.filter_eq_nil_iff]
  intro s hs
  rw [List.eq_of_mem_replicate hs]
  simp

theorem dirty_clean {on new : List ByteArray} (hl : new.length = on.length) (on' : List ByteArray) (l : Nat) (b : Bool) : dirtyN ⟨on', upd new on.length (fun _ => nil0), l, b⟩ = 0 := by
  unfold dirtyN
  simp only
  rw [← hl]; exact cnt_nil _ _

/-- a device in whose cache nothing lies -/
def Clean (D : Dev) : Prop := ∀ i, D.new.getD i nil0 = nil0

theorem fl_clean {D : Dev} (hl : D.new.length = D.on.length) (l : Nat) (b : Bool) : Clean ⟨upd D.on D.on.length (flushF D), upd D.new D.on.length (fun _ => nil0), l, b⟩ := fun i => by
  show (upd D.new D.on.length _).getD i nil0 = nil0
  rw [← hl]; exact nil_getD _ _

theorem cr_clean {D : Dev} (hl : D.new.length = D.on.length) (ps : List Int) : Clean (crD D ps) := fun i => by
  show (upd D.new D.on.length _).getD i nil0 = nil0
  rw [← hl]; exact nil_getD _ _

/-- a crash turns nothing where nothing waits -/
theorem cr_view {D : Dev} (hl : D.new.length = D.on.length) (hc : Clean D) (ps : List Int) {i : Nat} (h : i < D.on.length) : flushF (crD D ps) i = flushF D i := by
  unfold crD
  rw [view_clean hl h]
  unfold tearF flushF
  rw [hc i, if_pos rfl, if_pos rfl]

/-- behind a crash what is seen is what was torn -/
theorem cr_tear {D : Dev} (hl : D.new.length = D.on.length) (ps : List Int) {i : Nat} (h : i < D.on.length) : flushF (crD D ps) i = tearF D ps i := by
  unfold crD
  exact view_clean hl h _ _

theorem cr_len (D : Dev) (ps : List Int) : (crD D ps).on.length = D.on.length := upd_len _ _ _
theorem cr_idle (D : Dev) (ps : List Int) : Idle (crD D ps) := ⟨rfl, rfl⟩
theorem cr_dirty {D : Dev} (hl : D.new.length = D.on.length) (ps : List Int) : dirtyN (crD D ps) = 0 := dirty_clean hl _ _ _
theorem wi_dirty {D : Dev} (hl : D.new.length = D.on.length) : dirtyN (wiD D) = 0 := dirty_clean hl _ _ _
theorem wi_read {D : Dev} (hl : D.new.length = D.on.length) {k : Nat} (hk : k < D.on.length) : rdV (wiD D) (k : Int) = (zero64, 0) := by
  rw [rd_up (D := wiD D) rfl (by show k < (upd _ _ _).length; rw [upd_len]; exact hk)]
  unfold wiD
  rw [view_clean hl hk]

/-! ### under a fuse -/

/-- k writes and flushes behind the laying of a fuse of m -/
def FzAt (D : Dev) (m k : Nat) : Prop := (k < m ∧ D.down = false ∧ D.left = m - k) ∨ (m ≤ k ∧ D.down = true)

theorem burn_fz {D : Dev} {m k : Nat} (hk : k < m) (_hd : D.down = false) (hl : D.left = m - k) : (burn D).2 = decide (m = k + 1) ∧ FzAt (burn D).1 m (k + 1) ∧ (burn D).1.down = decide (m = k + 1) ∧ (burn D).1.left = m - (k + 1) := by
  unfold burn
  rw [if_neg (by omega)]
  have e : (D.left == 1) = decide (m = k + 1) := by
    rw [Bool.eq_iff_iff]; simp; omega
  simp only [e]
  refine ⟨trivial, ?_, trivial, by omega⟩
  by_cases h : m = k + 1
  · right; exact ⟨by omega, by simp [h]⟩
  · left; exact ⟨by omega, by simp [h], by simp; omega⟩

theorem wr_fz {D : Dev} {m k : Nat} (h : FzAt D m k) {i : Nat} (hi : i < D.on.length) {t : ByteArray} (ht : t.size = 64) : (wrD D (i : Int) t).2 = (if k + 1 < m then 0 else 90) ∧ FzAt (wrD D (i : Int) t).1 m (k + 1) ∧ (wrD D (i : Int) t).1.on.length = D.on.length := by
  rcases h with ⟨h1, h2, h3⟩ | ⟨h1, h2⟩
  · obtain ⟨b1, b2, b3, b4⟩ := burn_fz h1 h2 h3
    rw [wr_up h2 hi ht]
    by_cases e : m = k + 1
    · rw [if_pos (by rw [b1]; simp [e]), if_neg (by omega)]
      exact ⟨rfl, b2, by rw [(burn_parts D).1]⟩
    · rw [if_neg (by rw [b1]; simp [e]), if_pos (by omega)]
      exact ⟨rfl, .inl ⟨by omega, by show (burn D).1.down = false; rw [b3]; simp [e], b4⟩, rfl⟩
  · have e : wrD D (i : Int) t = (D, 90) := by
      unfold wrD rdV
      rw [if_pos h2]; rfl
    rw [e, if_neg (by omega)]
    exact ⟨rfl, .inr ⟨by omega, h2⟩, rfl⟩

theorem fl_fz {D : Dev} {m k : Nat} (h : FzAt D m k) : (flD D).2 = (if k + 1 < m then 0 else 90) ∧ FzAt (flD D).1 m (k + 1) ∧ (flD D).1.on.length = D.on.length := by
  unfold flD
  rcases h with ⟨h1, h2, h3⟩ | ⟨h1, h2⟩
  · obtain ⟨b1, b2, b3, b4⟩ := burn_fz h1 h2 h3
    rw [if_neg (by rw [h2]; simp)]
    by_cases e : m = k + 1
    · rw [if_pos (by rw [b1]; simp [e]), if_neg (by omega)]
      exact ⟨rfl, b2, by rw [(burn_parts D).1]⟩
    · rw [if_neg (by rw [b1]; simp [e]), if_pos (by omega)]
      exact ⟨rfl, .inl ⟨by omega, by show (burn D).1.down = false; rw [b3]; simp [e], b4⟩, upd_len _ _ _⟩
  · rw [if_pos h2, if_neg (by omega)]
    exact ⟨rfl, .inr ⟨by omega, h2⟩, rfl⟩

theorem down_read {D : Dev} (h : D.down = true) (i : Int) : rdV D i = (nil0, 90) := by unfold rdV; rw [if_pos h]
theorem down_fuse {D : Dev} (h : D.down = true) (n : Int) : fuD D n = (D, 90) := by unfold fuD; rw [if_pos h]
theorem fuse_up {D : Dev} (h : D.down = false) {m : Nat} (hm : m ≤ 1048576) : fuD D (m : Int) = (⟨D.on, D.new, m, D.down⟩, 0) := by
  unfold fuD
  rw [if_neg (by rw [h]; simp), if_neg (by omega), Int.toNat_natCast]

end Sc
end Go.Proofs.Ytjehjbkcdpidbaa

/- What the document's own log reads of an area; contract; no condition but the range. -/
namespace Go.Proofs.Ytjehjbkcdpidbaa
namespace Rd
open Go.RowKit Sc Bk

attribute [local go_sem ↓] Go.wp_at_zero Go.wp_at_succ
attribute [local go_sem] floatUpon pick

theorem list_sum2 (X Y : List UInt8) (h : X.length + Y.length ≤ 1000000000) (W : World) : (Op.stringOp .add ⟨X.toArray⟩ ⟨Y.toArray⟩).run Try.prog W = .ok (.string ⟨(X ++ Y).toArray⟩) W := by
  have h1 : (⟨X.toArray⟩ : ByteArray).size = X.length := text_size X
  have h2 : (⟨Y.toArray⟩ : ByteArray).size = Y.length := text_size Y
  rw [run_string_add_sum W _ _ (by omega), ByteArray.mk_append_mk]

/-- where an area begins -/
def areaAt (D : Dev) (a : Nat) : Nat := 2 + a * (areaN D / 64)

/-- what is seen of an area's first sectors, and of its first bytes -/
def catS (D : Dev) (a i : Nat) : List UInt8 := (List.range i).flatMap fun k => (flushF D (areaAt D a + k)).data.toList
def storedL (D : Dev) (a l : Nat) : List UInt8 := (catS D a ((l + 63) / 64)).take l

theorem catS_succ (D : Dev) (a i : Nat) : catS D a (i + 1) = catS D a i ++ (flushF D (areaAt D a + i)).data.toList := by
  unfold catS; rw [List.range_succ, List.flatMap_append]; simp

theorem area_fit {D : Dev} (h : 4 ≤ D.on.length) {a k : Nat} (ha : a ≤ 1) (hk : k < areaN D / 64) : areaAt D a + k < D.on.length := by
  unfold areaAt areaN at *
  rw [Nat.mul_div_cancel _ (by omega)] at *
  have : a = 0 ∨ a = 1 := by omega
  rcases this with rfl | rfl <;> omega

theorem catS_len {D : Dev} (hok : DevOk D) (h : 4 ≤ D.on.length) {a : Nat} (ha : a ≤ 1) : ∀ i, i ≤ areaN D / 64 → (catS D a i).length = 64 * i
  | 0, _ => rfl
  | i + 1, hi => by
    have h64 : (flushF D (areaAt D a + i)).data.toList.length = 64 := by rw [Array.length_toList]; exact flush64 hok (area_fit h ha (by omega))
    rw [catS_succ, List.length_append, catS_len hok h ha i (by omega), h64]
    omega

section
variable {w : World} {g : Nat} {ao an : Addr} {co cn : Nat} {so sn : List Value} {D : Dev}

end

end Rd
end Go.Proofs.Ytjehjbkcdpidbaa
