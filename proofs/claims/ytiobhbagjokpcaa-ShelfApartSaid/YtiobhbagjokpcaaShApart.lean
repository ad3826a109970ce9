/- Who writes is alone: the walk of the law over shelves; no condition but the range. -/
import Derived.Test.YtiobhbagjokpcaaShStays
namespace Go.Proofs.Ytiobhbagjokpcaa
namespace Sh
open Go.RowKit Bk Ch Lt Rc Tr

attribute [local go_sem ↓] Go.wp_at_zero Go.wp_at_succ
attribute [local go_sem] floatUpon pick

/-- what was a cell is the same cell -/
structure Cells (w w' : World) : Prop where
  size : w.heap.size ≤ w'.heap.size
  cell : ∀ (a : Addr) (v : Value), w.cell? a = some v → w'.cell? a = some v

theorem Cells.refl (w : World) : Cells w w := ⟨Nat.le_refl _, fun _ _ h => h⟩
theorem Cells.trans {a b c : World} (h : Cells a b) (k : Cells b c) : Cells a c := ⟨Nat.le_trans h.size k.size, fun x v hx => k.cell x v (h.cell x v hx)⟩

theorem cell_lt {w : World} {a : Addr} {v : Value} (h : w.cell? a = some v) : a.block < w.heap.size := by
  unfold World.cell? at h
  by_cases hl : a.block < w.heap.size
  · exact hl
  · rw [Array.getElem?_eq_none (by omega)] at h
    cases h

theorem Cells.of {w w' : World} (h : Below w.heap.size w w') : Cells w w' := ⟨h.size, fun a _ hv => (cell_kept h a (cell_lt hv)).trans hv⟩

theorem Cells.turned {w w' : World} {b : Nat} (h : w.mapTurned w' b) : Cells w w' := by
  refine ⟨by rw [turned_size h]; exact Nat.le_refl _, fun a _ hv => ?_⟩
  by_cases hb : a.block = b
  · obtain ⟨es, clock, es', clock', hm, rfl⟩ := h
    unfold World.cell? at hv
    rw [hb, hm] at hv
    cases hv
  · unfold World.cell?
    rw [turned_other h hb]
    exact hv

theorem strs_cells {w w' : World} {A : Option Addr} {l : List ByteArray} (h : StrsAt w A l) (hc : Cells w w') : StrsAt w' A l := fun hp => by
  obtain ⟨ad, e, h1, h2⟩ := h hp
  exact ⟨ad, e, Nat.lt_of_lt_of_le h1 hc.size, fun i hi => hc.cell _ _ (h2 i hi)⟩

theorem wrs_cells {w w' : World} {A : Option Addr} {l : List Wr} (h : WrsAt w A l) (hc : Cells w w') : WrsAt w' A l := fun hp => by
  obtain ⟨ad, e, h1, h2⟩ := h hp
  exact ⟨ad, e, Nat.lt_of_lt_of_le h1 hc.size, fun i hi => ⟨hc.cell _ _ (h2 i hi).1, hc.cell _ _ (h2 i hi).2.1, hc.cell _ _ (h2 i hi).2.2⟩⟩

theorem ints_cells {w w' : World} {A : Option Addr} {l : List Int} (h : IntsAt w A l) (hc : Cells w w') : IntsAt w' A l := fun hp => by
  obtain ⟨ad, e, h1, h2⟩ := h hp
  exact ⟨ad, e, Nat.lt_of_lt_of_le h1 hc.size, fun i hi => hc.cell _ _ (h2 i hi)⟩

theorem Live.turned {W w w' : World} {g b : Nat} {F : Nat → Prop} {s : Shf} (h : Live W w g F s) (ht : w.mapTurned w' b) (hn : ¬ F b) (hb : W.heap.size ≤ b) : Live W w' g F s := by
  have hk : ∀ k, k ≠ b → w'.heap[k]? = w.heap[k]? := fun k hk => turned_other ht hk
  have hs : w.heap.size ≤ w'.heap.size := by rw [turned_size ht]; exact Nat.le_refl _
  refine ⟨?_, h.ok, h.new, h.bel.trans ⟨(st_turned ht).os, (st_turned ht).tape, (st_turned ht).output, hs, fun k hlt => hk k (by omega)⟩⟩
  obtain ⟨bc, bp, v, K, P, hl⟩ := h.rep
  exact ⟨bc, bp, v, K, P, hl.kept hs (fun k hf => hk k (fun e => hn (by rw [← e]; exact hf)))⟩

/-- the shelf, and the two maps beside it -/
structure Env (W w : World) (g : Nat) (F : Nat → Prop) (s : Shf) (hb wb : Nat) (m m' : List (ByteArray × Value)) : Prop where
  live : Live W w g F s
  mh : MapIs strQ w hb m
  mw : MapIs strQ w wb m'
  nh : ¬ F hb
  nw : ¬ F wb
  ne : hb ≠ wb
  gh : W.heap.size ≤ hb
  gw : W.heap.size ≤ wb

section
variable {W w w' : World} {g : Nat} {F : Nat → Prop} {s : Shf} {hb wb : Nat} {m m' m2 : List (ByteArray × Value)}

theorem Env.below (h : Env W w g F s hb wb m m') (hbl : Below w.heap.size w w') : Env W w' g F s hb wb m m' :=
  ⟨h.live.below hbl, h.mh.below hbl, h.mw.below hbl, h.nh, h.nw, h.ne, h.gh, h.gw⟩

theorem Env.holds (h : Env W w g F s hb wb m m') (ht : w.mapTurned w' hb) (hm : MapIs strQ w' hb m2) : Env W w' g F s hb wb m2 m' :=
  ⟨h.live.turned ht h.nh h.gh, hm, h.mw.kept (turned_other ht h.ne.symm), h.nh, h.nw, h.ne, h.gh, h.gw⟩

theorem Env.watch (h : Env W w g F s hb wb m m') (ht : w.mapTurned w' wb) (hm : MapIs strQ w' wb m2) : Env W w' g F s hb wb m m2 :=
  ⟨h.live.turned ht h.nw h.gw, h.mh.kept (turned_other ht h.ne), hm, h.nh, h.nw, h.ne, h.gh, h.gw⟩

end

/-- what the map of holders says: each entry is of a write before -/
def HeldM (s : Shf) (i j : Nat) (m : List (ByteArray × Value)) : Prop := ∀ k v, (k, v) ∈ m → ∃ (a b : Nat) (r : Rec) (x : Wr), s.p[a]? = some r ∧ r.ws[b]? = some x ∧ x.key = k ∧ v = .int .i64 r.txn ∧ (a < i ∨ a = i ∧ b < j)

section
variable {s : Shf} {i j : Nat} {m : List (ByteArray × Value)} {r : Rec} {x : Wr}

theorem prep_is (hs : ShOk s) (hi : s.p[i]? = some r) : prepR s r.txn = (r, true) := by
  obtain ⟨hl, e⟩ := List.getElem?_eq_some_iff.1 hi
  obtain ⟨q, hq⟩ := prep_some (e ▸ List.getElem_mem hl : r ∈ s.p)
  obtain ⟨hm, ht⟩ := prep_mem hq
  obtain ⟨k, hk, hke⟩ := List.getElem_of_mem hm
  have hqr : q = r := by
    rcases Nat.lt_trichotomy k i with h | h | h
    · have h1 := List.pairwise_iff_getElem.1 hs.pr k i hk hl h
      rw [hke, e] at h1
      omega
    · subst h
      rw [← hke, e]
    · have h1 := List.pairwise_iff_getElem.1 hs.pr i k hl hk h
      rw [hke, e] at h1
      omega
  unfold prepR
  rw [hq, hqr]

theorem held_writes (hr : r ∈ s.p) (hx : x ∈ r.ws) (b : Bool) : heldB s x.key b = true := by
  unfold heldB
  rw [List.any_eq_true]
  refine ⟨r, hr, ?_⟩
  unfold heldR
  rw [Bool.or_eq_true]
  exact .inl (List.any_eq_true.2 ⟨x, hx, by simp⟩)

theorem heldR_key {k : ByteArray} (hk : k ∈ r.keys) : heldR r k true = true := by
  unfold heldR
  rw [Bool.or_eq_true]
  refine .inr ?_
  rw [Bool.true_and]
  exact List.any_eq_true.2 ⟨k, hk, by simp⟩

theorem held_keys (hr : r ∈ s.p) {k : ByteArray} (hk : k ∈ r.keys) : heldB s k true = true := by
  unfold heldB
  rw [List.any_eq_true]
  exact ⟨r, hr, heldR_key hk⟩

theorem read_held (hs : ShOk s) {key : ByteArray} (h : heldB s key false = true) : readP s key 1125899906842624 = (3, noVr) := by
  unfold readP
  have := hs.ov.2
  rw [if_neg (by omega), if_pos h]

theorem heldM_new (hs : ShOk s) (h : HeldM s i j m) (hi : s.p[i]? = some r) (hj : r.ws[j]? = some x) : x.key ∉ m.map (·.1) := fun hm => by
  obtain ⟨⟨k, v⟩, hmem, e⟩ := List.mem_map.1 hm
  simp only at e
  subst e
  obtain ⟨a, b, r', x', ha, hb, hk, -, hab⟩ := h _ _ hmem
  obtain ⟨hil, hie⟩ := List.getElem?_eq_some_iff.1 hi
  obtain ⟨hal, hae⟩ := List.getElem?_eq_some_iff.1 ha
  obtain ⟨hjl, hje⟩ := List.getElem?_eq_some_iff.1 hj
  obtain ⟨hbl, hbe⟩ := List.getElem?_eq_some_iff.1 hb
  have hr : r ∈ s.p := hie ▸ List.getElem_mem hil
  have hr' : r' ∈ s.p := hae ▸ List.getElem_mem hal
  rcases hab with hlt | ⟨rfl, hlt⟩
  · have h1 := List.pairwise_iff_getElem.1 hs.pr a i hal hil hlt
    rw [hae, hie] at h1
    have h2 := hs.pa r hr r' hr' (by omega) x (hje ▸ List.getElem_mem hjl)
    have h3 : heldR r' x.key true = true := by
      unfold heldR
      rw [Bool.or_eq_true]
      exact .inl (List.any_eq_true.2 ⟨x', hbe ▸ List.getElem_mem hbl, by simp [hk]⟩)
    rw [h2] at h3
    cases h3
  · have e : r' = r := by rw [← hae, hie]
    subst e
    have h1 := List.pairwise_iff_getElem.1 (prep_writes (hs.po r' hr).1 (hs.po r' hr).2).2 b j hbl hjl hlt
    rw [hbe, hje] at h1
    exact h1 hk

theorem heldM_put (h : HeldM s i j m) (hi : s.p[i]? = some r) (hj : r.ws[j]? = some x) : HeldM s i (j + 1) ((x.key, .int .i64 r.txn) :: outM m x.key) := fun k v hm => by
  rcases List.mem_cons.1 hm with e | hm
  · obtain ⟨rfl, rfl⟩ := Prod.mk.inj e
    exact ⟨i, j, r, x, hi, hj, rfl, rfl, .inr ⟨rfl, by omega⟩⟩
  · obtain ⟨a, b, r', x', h1, h2, h3, h4, h5⟩ := h k v (outM_mem.1 hm).1
    exact ⟨a, b, r', x', h1, h2, h3, h4, by omega⟩

theorem heldM_next {n : Nat} (h : HeldM s i n m) : HeldM s (i + 1) 0 m := fun k v hm => by
  obtain ⟨a, b, r', x', h1, h2, h3, h4, h5⟩ := h k v hm
  exact ⟨a, b, r', x', h1, h2, h3, h4, by omega⟩

theorem heldM_one (hs : ShOk s) (h : HeldM s i j m) (hr : r ∈ s.p) {k : ByteArray} (hk : k ∈ r.keys) {v : Value} (hm : (k, v) ∈ m) : v = .int .i64 r.txn := by
  obtain ⟨a, b, r', x', h1, h2, h3, h4, -⟩ := h k v hm
  obtain ⟨hal, hae⟩ := List.getElem?_eq_some_iff.1 h1
  obtain ⟨hbl, hbe⟩ := List.getElem?_eq_some_iff.1 h2
  have hr' : r' ∈ s.p := hae ▸ List.getElem_mem hal
  by_cases e : r'.txn = r.txn
  · rw [h4, e]
  · have h5 := hs.pa r' hr' r hr e x' (hbe ▸ List.getElem_mem hbl)
    rw [h3, heldR_key hk] at h5
    cases h5

end

theorem Live.opens {W w : World} {g : Nat} {F : Nat → Prop} {s : Shf} (h : Live W w g F s) :
    Calls Try.prog 7 #[.pointer (some ⟨g, 0, none⟩)] w fun e w' => ∃ (A : Option Addr) (c : Nat), e = .returned (.slice A s.p.length c) ∧ IntsAt w' A (s.p.map (·.txn)) ∧ Below w.heap.size w w' := by
  obtain ⟨bc, bp, v, K, P, hl⟩ := h.rep
  refine (lopen_any hl h.ok).mono ?_
  rintro e w' ⟨u, rfl, ho, hb⟩
  obtain ⟨A, c, rfl, hat⟩ := ints_of_own ho (by rw [List.length_map])
  exact ⟨A, c, rfl, hat, hb⟩

theorem Live.prep_at {W w : World} {g : Nat} {F : Nat → Prop} {s : Shf} (h : Live W w g F s) {r : Rec} {i : Nat} (hi : s.p[i]? = some r) :
    Calls Try.prog 8 #[.pointer (some ⟨g, 0, none⟩), .int .i64 r.txn] w fun e w' => ∃ (A B : Option Addr) (c d : Nat), e = .returned (.tuple #[.agg #[.int .i64 r.kind, .int .i64 r.txn, .int .i64 r.ts, .int .i64 r.coord, .string r.key, .string r.text, .bool r.dead, .slice A r.keys.length c, .slice B r.ws.length d], .bool true]) ∧ RecVal w' A B c d r ∧ Below w.heap.size w w' := by
  obtain ⟨bc, bp, v, K, P, hl⟩ := h.rep
  have hr : r ∈ s.p := by
    obtain ⟨h1, h2⟩ := List.getElem?_eq_some_iff.1 hi
    exact h2 ▸ List.getElem_mem h1
  have hg := (h.ok.po r hr).1.rng.txn
  have h1 := lprep_any hl h.ok r.txn hg.1 hg.2
  rw [prep_is h.ok hi] at h1
  refine h1.mono ?_
  rintro e w' ⟨u, rfl, ⟨y, rfl, rfl, hv, -, -⟩, hb⟩
  exact ⟨y.A, y.B, y.c, y.d, rfl, hv, hb⟩

theorem Live.held {W w : World} {g : Nat} {F : Nat → Prop} {s : Shf} (h : Live W w g F s) (key : ByteArray) (b : Bool) :
    Calls Try.prog 10 #[.pointer (some ⟨g, 0, none⟩), .string key, .bool b] w fun e w' => e = .returned (.bool (heldB s key b)) ∧ Below w.heap.size w w' := by
  obtain ⟨bc, bp, v, K, P, hl⟩ := h.rep
  exact lheld_any hl h.ok key b

theorem Try.zeroIn : ∀ W : World, (zeroValue 3).run Try.prog W = .ok (.int .i64 0) W := fun W => by kernel_rfl

theorem Live.read_w {W w : World} {g : Nat} {F : Nat → Prop} {s : Shf} (h : Live W w g F s) {r : Rec} (hr : r ∈ s.p) {x : Wr} (hx : x ∈ r.ws) (hk : x.key.size ≤ maxLen) :
    Calls Try.prog 9 #[.pointer (some ⟨g, 0, none⟩), .string x.key, .int .i64 1125899906842624] w fun e w' => e = .returned (.tuple #[.int .i64 3, .agg #[.int .i64 0, .string ⟨#[]⟩, .bool false]]) ∧ Below w.heap.size w w' := by
  have h1 := h.read x.key 1125899906842624 hk
  rw [read_held h.ok (held_writes hr hx false)] at h1
  exact h1.mono fun e w' h => ⟨h.1, h.2.2⟩

theorem Live.held_w {W w : World} {g : Nat} {F : Nat → Prop} {s : Shf} (h : Live W w g F s) {r : Rec} (hr : r ∈ s.p) {x : Wr} (hx : x ∈ r.ws) (b : Bool) :
    Calls Try.prog 10 #[.pointer (some ⟨g, 0, none⟩), .string x.key, .bool b] w fun e w' => e = .returned (.bool true) ∧ Below w.heap.size w w' := by
  have h1 := h.held x.key b
  rw [held_writes hr hx b] at h1
  exact h1

theorem Live.held_k {W w : World} {g : Nat} {F : Nat → Prop} {s : Shf} (h : Live W w g F s) {r : Rec} (hr : r ∈ s.p) {k : ByteArray} (hk : k ∈ r.keys) :
    Calls Try.prog 10 #[.pointer (some ⟨g, 0, none⟩), .string k, .bool true] w fun e w' => e = .returned (.bool true) ∧ Below w.heap.size w w' := by
  have h1 := h.held k true
  rw [held_keys hr hk] at h1
  exact h1

theorem Env.alloc2 {W w : World} {g : Nat} {F : Nat → Prop} {s : Shf} (h : Live W w g F s) : Env W ((w.alloc (.map #[] 0)).alloc (.map #[] 0)) g F s w.heap.size (w.heap.size + 1) [] [] := by
  have n1 : (w.alloc (.map #[] 0)).heap.size = w.heap.size + 1 := Array.size_push ..
  have b1 : Below w.heap.size w (w.alloc (.map #[] 0)) := (Below.refl _ w).alloc (Nat.le_refl _) _
  have b2 := (Below.refl _ (w.alloc (.map #[] 0))).alloc (Nat.le_refl _) (.map #[] 0)
  have m1 := mapIs_made strQ w
  have m2 := mapIs_made strQ (w.alloc (.map #[] 0))
  rw [n1] at m2
  have := h.bel.size
  exact ⟨(h.below b1).below b2, m1.below b2, m2, fun hf => by have := h.lt _ hf; omega, fun hf => by have := h.lt _ hf; omega, by omega, by omega, by omega⟩

set_option maxRecDepth 20000 in
set_option maxHeartbeats 8000000 in
theorem apart_any (W : World) (v : Value) (L : List RI) (hv : RecsOf W v L) :
    Calls Try.prog 3 #[v] W fun e w' => e = .returned (.bool true) ∧ Below W.heap.size W w' := by
  have hmm := @run_makeMap Try.prog
  have HMd := Lib.hid (made_any W v L hv)
  have HWk := Lib.hid (fun V => works_any V)
  clear hv
  go_enter Try.func3, Try.ntmps3
  go_wp2_with fail
  refine HMd.out.mono ?_
  rintro e1 w1 ⟨g, F, s, rfl, hl⟩
  have HL1 := Lib.hid hl
  clear hl HMd
  go_wp2_with fail
  refine (HWk.out _).mono ?_
  rintro e2 w2 ⟨rfl, hb⟩
  have HL2 := Lib.hid (HL1.out.below hb)
  clear hb HL1 HWk
  go_wp2_with fail
  have HE2 : Hid (Env W ((w2.alloc (.map #[] 0)).alloc (.map #[] 0)) g F s w2.heap.size (w2.heap.size + 1) [] []) := Lib.hid (Env.alloc2 HL2.out)
  generalize w2.heap.size + 1 = wb at HE2 ⊢
  generalize w2.heap.size = hb at HE2 ⊢
  generalize (w2.alloc (.map #[] 0)).alloc (.map #[] 0) = W2 at HE2 ⊢
  have HOp := Lib.hid (fun (V : World) (h : Live W V g F s) => h.opens)
  have HPr := Lib.hid (fun (V : World) (h : Live W V g F s) (r : Rec) (i : Nat) (hi : s.p[i]? = some r) => h.prep_at hi)
  have HHd := Lib.hid (fun (V : World) (h : Live W V g F s) (r : Rec) (hr : r ∈ s.p) (x : Wr) (hx : x ∈ r.ws) (b : Bool) => h.held_w hr hx b)
  have HHk := Lib.hid (fun (V : World) (h : Live W V g F s) (r : Rec) (hr : r ∈ s.p) (k : ByteArray) (hk : k ∈ r.keys) => h.held_k hr hk)
  have HRd := Lib.hid (fun (V : World) (h : Live W V g F s) (r : Rec) (hr : r ∈ s.p) (x : Wr) (hx : x ∈ r.ws) (hk : x.key.size ≤ maxLen) => h.read_w hr hx hk)
  have HOk := Lib.hid HL2.out.ok
  have hpl := HOk.out.pl
  have pn : (s.p.length : Int) ≤ 1024 := by omega
  clear HL2 hpl
  refine (HOp.out _ HE2.out.live).mono ?_
  rintro e3 w3 ⟨A, c, rfl, hat, hb3⟩
  have HE3 := Lib.hid (HE2.out.below hb3)
  have HT3 := Lib.hid hat
  clear hat hb3 HE2
  go_wp2_with fail
  go_loopw [35] (fun iv wr => ∃ (i : Nat) (m m' : List (ByteArray × Value)), i ≤ s.p.length ∧ iv = .int .i64 (i : Int) ∧ Hid (Env W wr g F s hb wb m m') ∧ Hid (Cells w3 wr) ∧ Hid (m.length ≤ 1024 * i ∧ m'.length ≤ 1024 * i) ∧ Hid (HeldM s i 0 m)) (fun iv _ => s.p.length - (RowKit.intOf iv).toNat)
  case atStart => exact ⟨0, [], [], by omega, rfl, HE3, Lib.hid (Cells.refl _), Lib.hid ⟨by simp, by simp⟩, Lib.hid (fun k v h => by cases h)⟩
  case round =>
    obtain ⟨i, m, m', hi, rfl, hE, hC, hLn, hH⟩ := hrel
    clear HE3
    by_cases hlt : i < s.p.length
    · have pi : (i : Int) < (s.p.length : Int) := by omega
      obtain ⟨r, hr⟩ : ∃ r, s.p[i]? = some r := ⟨_, List.getElem?_eq_getElem hlt⟩
      have ht := (ints_cells HT3.out hC.out)
      obtain ⟨ad, rfl, hab, hc⟩ := ht (by rw [List.length_map]; omega)
      have q0 := hc i (by rw [List.length_map]; exact hlt)
      have hre : (s.p.map (·.txn))[i]'(by rw [List.length_map]; exact hlt) = r.txn := by
        rw [List.getElem_map]
        rw [(List.getElem?_eq_some_iff.1 hr).2]
      rw [hre] at q0
      have HPr1 := Lib.hid (HPr.out _ hE.out.live r i hr)
      have HR := Lib.hid hr
      have pt : (r.txn == r.txn) = true := by simp
      clear hr hre hc hab ht
      go_wp2_with fail
      refine HPr1.out.mono ?_
      rintro e4 w4 ⟨A1, B1, c1, d1, rfl, hv, hb4⟩
      have HE4 := Lib.hid (hE.out.below hb4)
      have HC4 := Lib.hid (hC.out.trans (Cells.of hb4))
      have HV4 := Lib.hid hv
      have hrm : r ∈ s.p := by
        obtain ⟨h1, h2⟩ := List.getElem?_eq_some_iff.1 HR.out
        exact h2 ▸ List.getElem_mem h1
      have hro := HOk.out.po r hrm
      have hpw := prep_writes hro.1 hro.2
      have hkd := (kind_1 hro.2).1 hro.1.2
      have hwl : r.ws.length ≤ 16 := hkd.2.2.2.2.1
      have hkl : r.keys.length ≤ 16 := hkd.2.2.1
      have HKs := Lib.hid (show ∀ k ∈ r.keys, k.size ≤ maxLen from fun k hk => by
        obtain ⟨q, hq, e⟩ := List.getElem_of_mem hk
        have h1 := (hkd.2.2.2.1 q hq).1
        rw [e] at h1
        unfold keyOk at h1
        unfold maxLen
        omega)
      have HWs := Lib.hid (show ∀ x ∈ r.ws, x.key.size ≤ maxLen from fun x hx => by
        have h1 := (hpw.1 x hx).1
        unfold keyOk at h1
        unfold maxLen
        omega)
      have HRm := Lib.hid hrm
      have pw : (r.ws.length : Int) ≤ 16 := by omega
      have pk : (r.keys.length : Int) ≤ 16 := by omega
      clear hE hC q0 HPr1 hb4 hv hrm hro hpw hkd
      go_wp2_with fail
      have hp4 : Cel (w4.alloc (.cells #[.int .i64 r.kind, .int .i64 r.txn, .int .i64 r.ts, .int .i64 r.coord, .string r.key, .string r.text, .bool r.dead, .slice A1 r.keys.length c1, .slice B1 r.ws.length d1] 32)) w4.heap.size 32 [.int .i64 r.kind, .int .i64 r.txn, .int .i64 r.ts, .int .i64 r.coord, .string r.key, .string r.text, .bool r.dead, .slice A1 r.keys.length c1, .slice B1 r.ws.length d1] := (blk1 w4 _).2
      have hb5 := (Below.refl _ w4).alloc (Nat.le_refl _) (.cells #[.int .i64 r.kind, .int .i64 r.txn, .int .i64 r.ts, .int .i64 r.coord, .string r.key, .string r.text, .bool r.dead, .slice A1 r.keys.length c1, .slice B1 r.ws.length d1] 32)
      generalize w4.alloc (.cells #[.int .i64 r.kind, .int .i64 r.txn, .int .i64 r.ts, .int .i64 r.coord, .string r.key, .string r.text, .bool r.dead, .slice A1 r.keys.length c1, .slice B1 r.ws.length d1] 32) = W5 at hp4 hb5 ⊢
      have HP5 := Lib.hid (hp4.cell (i := 7) rfl)
      have HE5 := Lib.hid (HE4.out.below hb5)
      have HC5 := Lib.hid (HC4.out.trans (Cells.of hb5))
      have HKr := Lib.hid (HV4.out.ks.below hb5)
      have HWr := Lib.hid (HV4.out.ws.below hb5)
      clear hp4 hb5 HE4 HC4 HV4
      go_loopw [56] (fun iv wr => ∃ (j : Nat) (m : List (ByteArray × Value)), j ≤ r.ws.length ∧ iv = .int .i64 (j : Int) ∧ Hid (Env W wr g F s hb wb m m') ∧ Hid (Cells W5 wr) ∧ Hid (m.length ≤ 1024 * i + j) ∧ Hid (HeldM s i j m)) (fun iv _ => r.ws.length - (RowKit.intOf iv).toNat)
      case atStart => exact ⟨0, m, by omega, rfl, HE5, Lib.hid (Cells.refl _), Lib.hid (by have := hLn.out.1; omega), hH⟩
      case round =>
        clear hH HE5
        obtain ⟨j, m, hj, rfl, hE, hC, hLm, hH⟩ := hrel
        by_cases hjl : j < r.ws.length
        · have pj : (j : Int) < (r.ws.length : Int) := by omega
          obtain ⟨bd, rfl, hab, hc⟩ := wrs_cells HWr.out hC.out (by omega)
          obtain ⟨x0, x1, x2⟩ := hc j hjl
          have HX := Lib.hid (show r.ws[j]? = some r.ws[j] from List.getElem?_eq_getElem hjl)
          have HXm := Lib.hid (List.getElem_mem hjl)
          generalize r.ws[j] = x at x0 x1 x2 HX HXm
          obtain ⟨xk, xs, xd⟩ := x
          simp only at x0 x1 x2
          rw [← Lt.add_field _ _ _ (by omega)] at x1 x2
          have HKx := Lib.hid (show xk.size ≤ maxLen from HWs.out _ HXm.out)
          clear hc hab
          go_upto_region 14 with fail
          have hx6 : Cel (wr.alloc (.cells #[.string xk, .string xs, .bool xd] 36)) wr.heap.size 36 [.string xk, .string xs, .bool xd] := (blk1 wr _).2
          have hb6 := (Below.refl _ wr).alloc (Nat.le_refl _) (.cells #[.string xk, .string xs, .bool xd] 36)
          generalize wr.alloc (.cells #[.string xk, .string xs, .bool xd] 36) = W6 at hx6 hb6 ⊢
          have hE6 := hE.out.below hb6
          have HE6 := Lib.hid hE6
          have HC6 := Lib.hid (hC.out.trans (Cells.of hb6))
          have hnew := heldM_new HOk.out hH.out HR.out HX.out
          have l0 := hE6.mh.look_no Try.underlying26 (Try.zeroIn W6) (x := xk) (strQ_ok HKx.out) hnew
          have l1 : (Instr.lookup 26 (.map (some hb)) (.string xk) false).run Try.prog W6 = .ok (.int .i64 0) W6 := l0
          have q0 := hx6.cell (i := 0) rfl
          have HQ6 := Lib.hid q0
          clear l0 x0 x1 x2 hx6 hb6 hE hC hE6 hnew
          go_wp2_with (refine wpList_update_is strQ rfl _ _ _ 26 3 rfl Try.underlying26 hb m rfl HE6.out.mh ?c1 xk (strQ_ok HKx.out) (.int .i64 r.txn) rfl rfl ?_)
          case c1 => have := hLm.out; unfold maxLen; omega
          intro w7 hm ht
          have HE7 := Lib.hid (HE6.out.holds ht hm)
          have HC7 := Lib.hid (HC6.out.trans (Cells.turned ht))
          have q0 := (Cells.turned ht).cell _ _ HQ6.out
          have HQ7 := Lib.hid q0
          have HH7 := Lib.hid (heldM_put hH.out HR.out HX.out)
          have HL7 := Lib.hid (show ((xk, Value.int .i64 r.txn) :: outM m xk).length ≤ 1024 * i + (j + 1) from by
            have h1 := hLm.out
            have h2 : (outM m xk).length ≤ m.length := List.length_filter_le ..
            simp only [List.length_cons]
            omega)
          clear hm ht HE6 HC6 HQ6 l1 hH hLm
          go_wp2_with fail
          refine (HRd.out _ HE7.out.live r HRm.out ⟨xk, xs, xd⟩ HXm.out HKx.out).mono ?_
          rintro e8 w8 ⟨rfl, hb8⟩
          have hb8' := hb8.trans (((Below.refl _ w8).alloc (Nat.le_refl _) (.cells #[.int .i64 0, .string ⟨#[]⟩, .bool false] 38)).mono hb8.size)
          have HE8 := Lib.hid (HE7.out.below hb8')
          have HC8 := Lib.hid (HC7.out.trans (Cells.of hb8'))
          have q0 := (Cells.of hb8').cell _ _ HQ7.out
          have HQ8 := Lib.hid q0
          clear hb8 hb8' HE7 HC7 HQ7
          go_wp2_with fail
          refine (HHd.out _ HE8.out.live r HRm.out ⟨xk, xs, xd⟩ HXm.out false).mono ?_
          rintro e9 w9 ⟨rfl, hb9⟩
          have HE9 := Lib.hid (HE8.out.below hb9)
          have HC9 := Lib.hid (HC8.out.trans (Cells.of hb9))
          have q0 := (Cells.of hb9).cell _ _ HQ8.out
          clear hb9 HE8 HC8 HQ8
          go_wp2_with fail
          refine (HHd.out _ HE9.out.live r HRm.out ⟨xk, xs, xd⟩ HXm.out true).mono ?_
          rintro e10 w10 ⟨rfl, hb10⟩
          have HE10 := Lib.hid (HE9.out.below hb10)
          have HC10 := Lib.hid (HC9.out.trans (Cells.of hb10))
          clear hb10 HE9 HC9 q0
          go_wp2_with fail
          go_roundw
          case rel => exact ⟨j + 1, _, by omega, by go_num, HE10, HC10, HL7, HH7⟩
          case measure => simp [RowKit.intOf]; omega
        · obtain rfl : j = r.ws.length := by omega
          have HH7 := Lib.hid (heldM_next hH.out)
          have q7 := hC.out.cell _ _ HP5.out
          clear hH
          have HCj := hC
          have HMl := Lib.hid (show m.length ≤ 1024 * (i + 1) from by have := hLm.out; omega)
          have HMw := Lib.hid (show m'.length ≤ 1024 * i from hLn.out.2)
          clear hLm
          go_wp2_with fail
          go_loopw [96] (fun iv wr => ∃ (q : Nat) (m' : List (ByteArray × Value)), q ≤ r.keys.length ∧ iv = .int .i64 (q : Int) ∧ Hid (Env W wr g F s hb wb m m') ∧ Hid (Cells W5 wr) ∧ Hid (m'.length ≤ 1024 * i + q)) (fun iv _ => r.keys.length - (RowKit.intOf iv).toNat)
          case atStart => exact ⟨0, m', by omega, rfl, hE, hC, Lib.hid (by have := HMw.out; omega)⟩
          case round =>
            clear hE hC q7 HMw
            obtain ⟨q, m', hq, rfl, hE, hC, hLw⟩ := hrel
            by_cases hql : q < r.keys.length
            · have pq : (q : Int) < (r.keys.length : Int) := by omega
              obtain ⟨kd, rfl, hab, hc⟩ := strs_cells HKr.out hC.out (by omega)
              have x0 := hc q hql
              have HXm := Lib.hid (List.getElem_mem hql)
              generalize r.keys[q] = k at x0 HXm
              have HKx := Lib.hid (HKs.out _ HXm.out)
              clear hc hab
              go_wp2_with (refine wpList_update_is strQ rfl _ _ _ 26 3 rfl Try.underlying26 wb m' rfl hE.out.mw ?c1 k (strQ_ok HKx.out) (.int .i64 r.txn) rfl rfl ?_)
              case c1 => have := hLw.out; unfold maxLen; omega
              intro w7 hm ht
              have HE7 := Lib.hid (hE.out.watch ht hm)
              have HC7 := Lib.hid (hC.out.trans (Cells.turned ht))
              have HL7 := Lib.hid (show ((k, Value.int .i64 r.txn) :: outM m' k).length ≤ 1024 * i + (q + 1) from by
                have h1 := hLw.out
                have h2 : (outM m' k).length ≤ m'.length := List.length_filter_le ..
                simp only [List.length_cons]
                omega)
              clear hm ht hE hC hLw x0
              go_wp2_with fail
              refine (HHk.out _ HE7.out.live r HRm.out k HXm.out).mono ?_
              rintro e8 w8 ⟨rfl, hb8⟩
              have HE8 := Lib.hid (HE7.out.below hb8)
              have HC8 := Lib.hid (HC7.out.trans (Cells.of hb8))
              clear hb8 HE7 HC7
              go_wp2_with fail
              go_roundw
              case rel => exact ⟨q + 1, _, by omega, by go_num, HE8, HC8, HL7⟩
              case measure => simp [RowKit.intOf]; omega
            · obtain rfl : q = r.keys.length := by omega
              have HW2 := Lib.hid (show m'.length ≤ 1024 * (i + 1) from by have := hLw.out; omega)
              have HC9 := Lib.hid (HC5.out.trans hC.out)
              clear hLw
              go_wp2_with fail
              go_roundw
              case rel => exact ⟨i + 1, m, m', by omega, by go_num, hE, HC9, Lib.hid ⟨HMl.out, HW2.out⟩, HH7⟩
              case measure => simp [RowKit.intOf]; omega
    · obtain rfl : i = s.p.length := by omega
      have HH9 := hH
      clear hH hLn HT3 hC
      go_wp2_with fail
      refine (HOp.out _ hE.out.live).mono ?_
      rintro e3 w3 ⟨A, c, rfl, hat, hb3⟩
      have HE3 := Lib.hid (hE.out.below hb3)
      have HT3 := Lib.hid hat
      clear hat hb3 hE
      go_wp2_with fail
      go_loopw [112] (fun iv wr => ∃ (i : Nat), i ≤ s.p.length ∧ iv = .int .i64 (i : Int) ∧ Hid (Env W wr g F s hb wb m m') ∧ Hid (Cells w3 wr)) (fun iv _ => s.p.length - (RowKit.intOf iv).toNat)
      case atStart => exact ⟨0, by omega, rfl, HE3, Lib.hid (Cells.refl _)⟩
      case round =>
        clear HE3
        obtain ⟨i, hi, rfl, hE, hC⟩ := hrel
        by_cases hlt : i < s.p.length
        · have pi : (i : Int) < (s.p.length : Int) := by omega
          obtain ⟨r, hr⟩ : ∃ r, s.p[i]? = some r := ⟨_, List.getElem?_eq_getElem hlt⟩
          have ht := (ints_cells HT3.out hC.out)
          obtain ⟨ad, rfl, hab, hc⟩ := ht (by rw [List.length_map]; omega)
          have q0 := hc i (by rw [List.length_map]; exact hlt)
          have hre : (s.p.map (·.txn))[i]'(by rw [List.length_map]; exact hlt) = r.txn := by
            rw [List.getElem_map]
            rw [(List.getElem?_eq_some_iff.1 hr).2]
          rw [hre] at q0
          have HPr1 := Lib.hid (HPr.out _ hE.out.live r i hr)
          have HR := Lib.hid hr
          have pt : (r.txn == r.txn) = true := by simp
          clear hr hre hc hab ht
          go_wp2_with fail
          refine HPr1.out.mono ?_
          rintro e4 w4 ⟨A1, B1, c1, d1, rfl, hv, hb4⟩
          have HE4 := Lib.hid (hE.out.below hb4)
          have HC4 := Lib.hid (hC.out.trans (Cells.of hb4))
          have HV4 := Lib.hid hv
          have hrm : r ∈ s.p := by
            obtain ⟨h1, h2⟩ := List.getElem?_eq_some_iff.1 HR.out
            exact h2 ▸ List.getElem_mem h1
          have hro := HOk.out.po r hrm
          have hkd := (kind_1 hro.2).1 hro.1.2
          have hkl : r.keys.length ≤ 16 := hkd.2.2.1
          have HKs := Lib.hid (show ∀ k ∈ r.keys, k.size ≤ maxLen from fun k hk => by
            obtain ⟨q, hq, e⟩ := List.getElem_of_mem hk
            have h1 := (hkd.2.2.2.1 q hq).1
            rw [e] at h1
            unfold keyOk at h1
            unfold maxLen
            omega)
          have HRm := Lib.hid hrm
          have pk : (r.keys.length : Int) ≤ 16 := by omega
          have HTx := Lib.hid (show r.txn ≠ 0 from hkd.2.1)
          clear hE hC q0 HPr1 hb4 hv hrm hro hkd
          go_wp2_with fail
          have hb5 := (Below.refl _ w4).alloc (Nat.le_refl _) (.cells #[.int .i64 r.kind, .int .i64 r.txn, .int .i64 r.ts, .int .i64 r.coord, .string r.key, .string r.text, .bool r.dead, .slice A1 r.keys.length c1, .slice B1 r.ws.length d1] 32)
          generalize w4.alloc (.cells #[.int .i64 r.kind, .int .i64 r.txn, .int .i64 r.ts, .int .i64 r.coord, .string r.key, .string r.text, .bool r.dead, .slice A1 r.keys.length c1, .slice B1 r.ws.length d1] 32) = W5 at hb5 ⊢
          have HE5 := Lib.hid (HE4.out.below hb5)
          have HC5 := Lib.hid (HC4.out.trans (Cells.of hb5))
          have HKr := Lib.hid (HV4.out.ks.below hb5)
          clear hb5 HE4 HC4 HV4
          go_loopw [125] (fun iv wr => ∃ (q : Nat), q ≤ r.keys.length ∧ iv = .int .i64 (q : Int) ∧ Hid (Env W wr g F s hb wb m m') ∧ Hid (Cells W5 wr)) (fun iv _ => r.keys.length - (RowKit.intOf iv).toNat)
          case atStart => exact ⟨0, by omega, rfl, HE5, Lib.hid (Cells.refl _)⟩
          case round =>
            clear HE5
            obtain ⟨q, hq, rfl, hE, hC⟩ := hrel
            by_cases hql : q < r.keys.length
            · have pq : (q : Int) < (r.keys.length : Int) := by omega
              obtain ⟨kd, rfl, hab, hc⟩ := strs_cells HKr.out hC.out (by omega)
              have x0 := hc q hql
              have HXm := Lib.hid (List.getElem_mem hql)
              generalize r.keys[q] = k at x0 HXm
              have HKx := Lib.hid (HKs.out _ HXm.out)
              clear hc hab
              by_cases hin : k ∈ m.map (·.1)
              · obtain ⟨⟨k', v'⟩, hmem, e⟩ := List.mem_map.1 hin
                simp only at e
                subst e
                have hv := heldM_one HOk.out HH9.out HRm.out HXm.out hmem
                subst hv
                have l0 := hE.out.mh.look Try.underlying26 (Try.zeroIn wr) (x := k') hmem
                have l1 : (Instr.lookup 26 (.map (some hb)) (.string k') false).run Try.prog wr = .ok (.int .i64 r.txn) wr := l0
                have z : (r.txn == 0) = false := by simpa using HTx.out
                clear l0 hmem hin
                go_wp2_with fail
                go_roundw
                case rel => exact ⟨q + 1, by omega, by go_num, hE, hC⟩
                case measure => simp [RowKit.intOf]; omega
              · have l0 := hE.out.mh.look_no Try.underlying26 (Try.zeroIn wr) (x := k) (strQ_ok HKx.out) hin
                have l1 : (Instr.lookup 26 (.map (some hb)) (.string k) false).run Try.prog wr = .ok (.int .i64 0) wr := l0
                clear l0 hin
                go_wp2_with fail
                go_roundw
                case rel => exact ⟨q + 1, by omega, by go_num, hE, hC⟩
                case measure => simp [RowKit.intOf]; omega
            · obtain rfl : q = r.keys.length := by omega
              have HC9 := Lib.hid (HC5.out.trans hC.out)
              go_wp2_with fail
              go_roundw
              case rel => exact ⟨i + 1, by omega, by go_num, hE, HC9⟩
              case measure => simp [RowKit.intOf]; omega
        · have HB := Lib.hid hE.out.live.bel
          have hx : i = s.p.length := by omega
          subst hx
          clear hE hC
          go_wp2_with fail
          go_ret
          exact ⟨rfl, HB.out⟩

end Sh
end Go.Proofs.Ytiobhbagjokpcaa
