/- A row of letters with rows of their own, and the landed net in the memory; no condition but the range. -/
import Derived.Test.YtkpcfakfkcghdaaNtBase
import Derived.Test.YtkpcfakfkcghdaaA6
import Derived.Test.YtkpcfakfkcghdaaA7
import Derived.Test.YtkpcfakfkcghdaaA9
namespace Go.Proofs.Ytkpcfakfkcghdaa
namespace Nt
open Go.RowKit Bk Lt

/-- a letter, and where its lists lie -/
structure LI where
  l : Let
  A : Option Addr
  B : Option Addr
  c : Nat
  d : Nat

instance : Inhabited LI := ⟨⟨noLet, none, none, 0, 0⟩⟩

def lcs (x : LI) : List Value := [.int .i64 x.l.kind, .int .i64 x.l.src, .int .i64 x.l.dst, .int .i64 x.l.txn, .int .i64 x.l.ts, .int .i64 x.l.code, .string x.l.text, .slice x.A x.l.keys.length x.c, .slice x.B x.l.ws.length x.d]
theorem lcs_len (x : LI) : (lcs x).length = 9 := rfl
theorem lcs_one (x : LI) : ∀ u ∈ lcs x, u.oneCell' = true := fun u hu => by
  unfold lcs at hu
  simp only [List.mem_cons, List.not_mem_nil, or_false] at hu
  rcases hu with rfl | rfl | rfl | rfl | rfl | rfl | rfl | rfl | rfl <;> rfl
theorem flat_one {L : List LI} : ∀ u ∈ L.flatMap lcs, u.oneCell' = true := fun u hu => by
  obtain ⟨x, _, h⟩ := List.mem_flatMap.1 hu
  exact lcs_one x u h
theorem flat_len (L : List LI) : (L.flatMap lcs).length = L.length * 9 := flatN_len lcs_len L
theorem flat_snoc (K : List LI) (x : LI) : (K ++ [x]).flatMap lcs = K.flatMap lcs ++ lcs x := by
  rw [List.flatMap_append]; simp

theorem Try.infoLetN : (Try.prog.info? 35).map (fun i => (i.zero.map (·.cells.size), i.size, i.bytes)) = some (some 9, 9, 112) := by kernel_rfl

theorem info_let : ∃ i z, Try.prog.info? 35 = some i ∧ i.zero = some z ∧ z.cells.size = 9 ∧ i.size = 9 ∧ i.bytes = 112 := by
  have h := Try.infoLetN
  cases hi : Try.prog.info? 35 with
  | none => rw [hi] at h; cases h
  | some i =>
    rw [hi] at h
    simp only [Option.map_some, Option.some.injEq, Prod.mk.injEq] at h
    obtain ⟨h1, h2, h3⟩ := h
    cases hz : i.zero with
    | none => rw [hz] at h1; cases h1
    | some z =>
      rw [hz] at h1
      simp only [Option.map_some, Option.some.injEq] at h1
      exact ⟨i, z, rfl, hz, h1, h2, h3⟩

/-- a row stays where its block is the same -/
theorem row_same {W W' : World} {H sz n : Nat} {e : TypeId} {v : Value} {xs : List Value} (h : W.ownsRow H e sz v n xs) (hk : ∀ p, v.ownBlock = some p → W'.heap[p]? = W.heap[p]?) : W'.ownsRow H e sz v n xs := by
  refine ⟨h.1, ?_⟩
  rcases h.2 with h' | ⟨p, cap, cur, e, h2, h3, h4⟩
  · exact .inl h'
  · exact .inr ⟨p, cap, cur, e, h2, (hk p (by rw [e]; rfl)).trans h3, h4⟩

theorem row_lt {W : World} {H sz n : Nat} {e : TypeId} {v : Value} {xs : List Value} (h : W.ownsRow H e sz v n xs) {p : Nat} (hp : v.ownBlock = some p) : p < W.heap.size ∧ H ≤ p := by
  rcases h.2 with ⟨e, _⟩ | ⟨q, cap, cur, e, e2, e3, _⟩
  · rw [e] at hp; cases hp
  · rw [e] at hp
    obtain rfl : q = p := Option.some.inj hp
    exact ⟨(Array.getElem?_eq_some_iff.1 e3).1, e2⟩

theorem row_mono {W : World} {H H' sz n : Nat} {e : TypeId} {v : Value} {xs : List Value} (h : W.ownsRow H e sz v n xs) (hb : H' ≤ H) : W.ownsRow H' e sz v n xs := by
  refine ⟨h.1, ?_⟩
  rcases h.2 with h' | ⟨p, cap, cur, e, h2, h3⟩
  · exact .inl h'
  · exact .inr ⟨p, cap, cur, e, by omega, h3⟩

/-- rows of unlike types lie in unlike blocks -/
theorem row_apart {W : World} {H H' sz sz' n n' : Nat} {e e' : TypeId} {v v' : Value} {xs xs' : List Value} (h : W.ownsRow H e sz v n xs) (h' : W.ownsRow H' e' sz' v' n' xs') (hne : e ≠ e') {p : Nat} (hp : v.ownBlock = some p) : v'.ownBlock ≠ some p := fun hp' => by
  rcases h.2 with ⟨e1, _⟩ | ⟨q, cap, cur, e1, e2, e3, _⟩
  · rw [e1] at hp; cases hp
  · rw [e1] at hp
    obtain rfl : q = p := Option.some.inj hp
    rcases h'.2 with ⟨e4, _⟩ | ⟨q', cap', cur', e4, e5, e6, _⟩
    · rw [e4] at hp'; cases hp'
    · rw [e4] at hp'
      obtain rfl : q' = q := Option.some.inj hp'
      rw [e3] at e6
      simp only [Option.some.injEq, Obj.cells.injEq] at e6
      exact hne e6.2.1

theorem row_cel {W : World} {H sz n : Nat} {e e' : TypeId} {v : Value} {xs cs : List Value} {g : Nat} (h : W.ownsRow H e sz v n xs) (hc : Cel W g e' cs) (hne : e ≠ e') : v.ownBlock ≠ some g := fun hp => by
  rcases h.2 with ⟨e1, _⟩ | ⟨q, cap, cur, e1, e2, e3, _⟩
  · rw [e1] at hp; cases hp
  · rw [e1] at hp
    obtain rfl : q = g := Option.some.inj hp
    unfold Cel at hc
    rw [e3] at hc
    simp only [Option.some.injEq, Obj.cells.injEq] at hc
    exact hne hc.2.1

/-- the row's block, known whole -/
theorem row_blk {W : World} {H sz n : Nat} {e : TypeId} {v : Value} {xs : List Value} (h : W.ownsRow H e sz v n xs) (hp : 0 < n) :
    ∃ (p cap : Nat) (rest : List Value), v = .slice (some ⟨p, 0, none⟩) n cap ∧ H ≤ p ∧ Cel W p e (xs ++ rest) ∧ n ≤ cap ∧ cap ≤ maxLen ∧ n * sz + rest.length = cap * sz := by
  obtain ⟨hl, h⟩ := h
  rcases h with ⟨_, h0⟩ | ⟨p, cap, cur, e1, h2, h3, h4, h5, h6, h7⟩
  · omega
  · refine ⟨p, cap, cur.toList.drop (n * sz), e1, h2, ?_, h4, h5, ?_⟩
    · unfold Cel
      rw [← h7, List.take_append_drop]
      exact h3
    · have e : cur.toList.length = cap * sz := h6
      have : n * sz ≤ cap * sz := Nat.mul_le_mul_right _ h4
      rw [List.length_drop, e]; omega

theorem row_of {W : World} {H p cap sz n : Nat} {e : TypeId} {xs rest : List Value} (hb : H ≤ p) (h : Cel W p e (xs ++ rest)) (hx : xs.length = n * sz) (h1 : n ≤ cap) (h2 : cap ≤ maxLen) (h3 : n * sz + rest.length = cap * sz) : W.ownsRow H e sz (.slice (some ⟨p, 0, none⟩) n cap) n xs :=
  ⟨hx, .inr ⟨p, cap, _, rfl, hb, h, h1, h2, by rw [List.size_toArray, List.length_append, hx]; exact h3, by rw [List.toList_toArray, ← hx, List.take_left]⟩⟩

theorem row_form {W : World} {H sz n : Nat} {e : TypeId} {v : Value} {xs : List Value} (h : W.ownsRow H e sz v n xs) : ∃ A c, v = .slice A n c ∧ (A = none → n = 0 ∧ c = 0) := by
  rcases h.2 with ⟨e, e2⟩ | ⟨p, cap, cur, e, _⟩
  · exact ⟨none, 0, by rw [e, e2], fun _ => ⟨e2, rfl⟩⟩
  · exact ⟨_, _, e, fun e => by cases e⟩

/-- a letter whose lists are rows of its own, from block H on -/
structure LOwn (W : World) (H : Nat) (x : LI) : Prop where
  ks : W.ownsRow H 9 1 (.slice x.A x.l.keys.length x.c) x.l.keys.length (strV x.l.keys)
  ws : W.ownsRow H 82 3 (.slice x.B x.l.ws.length x.d) x.l.ws.length (wrV x.l.ws)
  rng : LetRng x.l

/-- the blocks that hold its lists -/
def Lb (x : LI) (k : Nat) : Prop := (Value.slice x.A x.l.keys.length x.c).ownBlock = some k ∨ (Value.slice x.B x.l.ws.length x.d).ownBlock = some k

section
variable {W W' : World} {H : Nat} {x : LI}

theorem LOwn.val (h : LOwn W H x) : LetVal W x.A x.B x.c x.d x.l := by
  have hk := own_strs h.ks
  have hw := own_wrs h.ws
  exact ⟨hk.1, hw.1, ⟨h.rng, hk.2.1, hw.2.1, hk.2.2.1, hw.2.2.1⟩, hk.2.2.2, hw.2.2.2⟩

theorem LOwn.same (h : LOwn W H x) (hk : ∀ k, Lb x k → W'.heap[k]? = W.heap[k]?) : LOwn W' H x :=
  ⟨row_same h.ks (fun k e => hk k (.inl e)), row_same h.ws (fun k e => hk k (.inr e)), h.rng⟩

theorem LOwn.lt (h : LOwn W H x) {k : Nat} (hk : Lb x k) : k < W.heap.size ∧ H ≤ k := hk.elim (row_lt h.ks) (row_lt h.ws)
theorem LOwn.mono {H' : Nat} (h : LOwn W H x) (hb : H' ≤ H) : LOwn W H' x := ⟨row_mono h.ks hb, row_mono h.ws hb, h.rng⟩
theorem LOwn.below (h : LOwn W H x) (hb : Below W.heap.size W W') : LOwn W' H x := h.same (fun k hk => hb.block k (h.lt hk).1)
end

theorem noLet_rng : LetRng noLet := by
  refine ⟨?_, ?_, ?_, ?_, ?_, ?_, Nat.zero_le _, Nat.zero_le _, Nat.zero_le _, fun s h => absurd h (by simp [noLet]), fun x h => absurd h (by simp [noLet])⟩ <;> (show (-9223372036854775808 : Int) ≤ 0 ∧ (0 : Int) ≤ 9223372036854775807; omega)

theorem noLet_own (W : World) (H : Nat) : LOwn W H default := ⟨⟨rfl, .inl ⟨rfl, rfl⟩⟩, ⟨rfl, .inl ⟨rfl, rfl⟩⟩, (noLet_rng)⟩

/-- the landed net in block g -/
structure LAt (W : World) (F : Nat → Prop) (g : Nat) (room : Int) (v : Value) (L : List LI) : Prop where
  cel : Cel W g 62 [.int .i64 room, v]
  re : W.ownsRow 0 35 9 v L.length (L.flatMap lcs)
  own : ∀ x ∈ L, LOwn W 0 x
  sep : L.Pairwise (fun x y => ∀ k, Lb x k → ¬ Lb y k)
  fg : F g
  fv : ∀ k, v.ownBlock = some k → F k
  fl : ∀ x ∈ L, ∀ k, Lb x k → F k
  lt : ∀ k, F k → k < W.heap.size
  rm : room ≤ 1024
  len : (L.length : Int) ≤ room
  ok : ∀ x ∈ L, LetOk x.l

def LRep (W : World) (F : Nat → Prop) (g : Nat) (room : Int) (l : List Let) : Prop := ∃ v L, LAt W F g room v L ∧ L.map (·.l) = l

/-- the streams are as they were -/
structure St (w w' : World) : Prop where
  os : w'.os = w.os
  tape : w'.tape = w.tape
  output : w'.output = w.output

theorem St.refl (w : World) : St w w := ⟨rfl, rfl, rfl⟩
theorem St.trans {a b c : World} (h : St a b) (k : St b c) : St a c := ⟨k.os.trans h.os, k.tape.trans h.tape, k.output.trans h.output⟩
theorem st_below {B : Nat} {w w' : World} (h : Below B w w') : St w w' := ⟨h.os, h.tape, h.output⟩
theorem st_grown {r : Option Nat} {w w' : World} (h : w.grownBy w' r) : St w w' := ⟨h.os, h.tape, h.output⟩
theorem st_set (w : World) (a : Addr) (v : Value) : St w (w.setCell a v) := ⟨rfl, rfl, rfl⟩
theorem st_row (w : World) (b : Nat) (r : Array Value) : St w (w.setRow b r) := ⟨rfl, rfl, rfl⟩

/-- beside the blocks F no old block is turned, and no stream -/
structure Far (F : Nat → Prop) (w w' : World) : Prop extends Away F w w' where
  st : St w w'

theorem Far.refl (F : Nat → Prop) (w : World) : Far F w w := ⟨Away.refl F w, St.refl w⟩
theorem Far.of {F : Nat → Prop} {w w' : World} (h : Below w.heap.size w w') : Far F w w' := ⟨Away.of h, st_below h⟩
theorem Far.trans {F : Nat → Prop} {a b c : World} (h : Far F a b) (k : Far F b c) : Far F a c := ⟨h.toAway.trans k.toAway, h.st.trans k.st⟩
theorem Far.grown {F : Nat → Prop} {w w' : World} {r : Option Nat} (h : w.grownBy w' r) (hr : ∀ k, r = some k → F k) : Far F w w' :=
  ⟨⟨h.size, fun k hk hn => h.block k hk (fun e => hn (hr k e.symm))⟩, st_grown h⟩
theorem Far.set {F : Nat → Prop} {w : World} {g : Nat} {o : Nat} (hg : F g) (v : Value) : Far F w (w.setCell ⟨g, o, none⟩ v) :=
  ⟨⟨by simp [World.setCell], fun k _ hn => Below.heap_setCell w ⟨g, o, none⟩ v k (fun e => hn (by rw [e]; exact hg))⟩, st_set _ _ _⟩
/-- more blocks may be turned, if they are new -/
theorem Far.more {F F' : Nat → Prop} {w w' : World} (h : Far F w w') (hF : ∀ k, F k → F' k ∨ w.heap.size ≤ k) : Far F' w w' :=
  ⟨⟨h.size, fun k hk hn => h.block k hk (fun hf => (hF k hf).elim hn (fun h => by omega))⟩, h.st⟩
theorem Far.below {F : Nat → Prop} {B : Nat} {w w' : World} (h : Far F w w') (hF : ∀ k, F k → B ≤ k) (hB : B ≤ w.heap.size) : Below B w w' :=
  ⟨h.st.os, h.st.tape, h.st.output, h.size, fun k hk => h.block k (by omega) (fun hf => by have := hF k hf; omega)⟩

/-- F, and all blocks that are new -/
def Gr (F : Nat → Prop) (W w' : World) : Nat → Prop := fun k => F k ∨ (W.heap.size ≤ k ∧ k < w'.heap.size)

section
variable {W W' w' : World} {F F' : Nat → Prop} {g : Nat} {room : Int} {v : Value} {L : List LI} {l : List Let}

theorem LAt.same (h : LAt W F g room v L) (hs : W.heap.size ≤ W'.heap.size) (hk : ∀ k, F k → W'.heap[k]? = W.heap[k]?) : LAt W' F g room v L :=
  ⟨(hk g h.fg).trans h.cel, row_same h.re (fun k e => hk k (h.fv k e)), fun x hx => (h.own x hx).same (fun k hb => hk k (h.fl x hx k hb)), h.sep, h.fg, h.fv, h.fl, fun k hf => Nat.lt_of_lt_of_le (h.lt k hf) hs, h.rm, h.len, h.ok⟩

theorem LAt.below (h : LAt W F g room v L) (hb : Below W.heap.size W W') : LAt W' F g room v L := h.same hb.size (fun k hf => hb.block k (h.lt k hf))

theorem LAt.more (h : LAt W F g room v L) (hF : ∀ k, F k → F' k) (hl : ∀ k, F' k → k < W.heap.size) : LAt W F' g room v L :=
  ⟨h.cel, h.re, h.own, h.sep, hF _ h.fg, fun k e => hF k (h.fv k e), fun x hx k hb => hF k (h.fl x hx k hb), hl, h.rm, h.len, h.ok⟩

theorem LAt.gr (h : LAt W' F g room v L) (hF : ∀ k, F k → k < W.heap.size) (hs : W.heap.size ≤ W'.heap.size) : LAt W' (Gr F W W') g room v L :=
  h.more (fun _ hk => .inl hk) (fun k hk => hk.elim (fun hf => Nat.lt_of_lt_of_le (hF k hf) hs) (fun h => h.2))

theorem LRep.below (h : LRep W F g room l) (hb : Below W.heap.size W W') : LRep W' F g room l := by
  obtain ⟨v, L, h, e⟩ := h
  exact ⟨v, L, h.below hb, e⟩

theorem LRep.same (h : LRep W F g room l) (hs : W.heap.size ≤ W'.heap.size) (hk : ∀ k, F k → W'.heap[k]? = W.heap[k]?) : LRep W' F g room l := by
  obtain ⟨v, L, h, e⟩ := h
  exact ⟨v, L, h.same hs hk, e⟩

theorem LRep.gr (h : LRep W F g room l) (hb : Below W.heap.size W W') : LRep W' (Gr F W W') g room l := by
  obtain ⟨v, L, h, e⟩ := h
  exact ⟨v, L, (h.below hb).gr h.lt hb.size, e⟩

theorem LRep.lt (h : LRep W F g room l) : ∀ k, F k → k < W.heap.size := by
  obtain ⟨v, L, h, e⟩ := h
  exact h.lt

theorem LAt.len10 (h : LAt W F g room v L) : L.length ≤ 1024 := by have := h.len; have := h.rm; omega

theorem LAt.form (h : LAt W F g room v L) : ∃ A c, v = .slice A L.length c ∧ (A = none → L.length = 0 ∧ c = 0) := row_form h.re
end

end Nt
end Go.Proofs.Ytkpcfakfkcghdaa
