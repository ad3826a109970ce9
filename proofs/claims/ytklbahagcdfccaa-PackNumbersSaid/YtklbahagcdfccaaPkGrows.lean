/- The law of package pack: a text more. -/
import Derived.Test.YtklbahagcdfccaaPkWrites
import Derived.Test.YtklbahagcdfccaaFloatK
import Derived.Test.YtklbahagcdfccaaBkStr
namespace Go.Proofs.Ytklbahagcdfccaa
namespace Pk
open Go.RowKit Go.Joins Bk

attribute [local go_sem ↓] Go.wp_at_zero Go.wp_at_succ
attribute [local go_sem] floatUpon pick

/-! ### the bytes -/

theorem MayBe.more {ns : List Int} {ts : List ByteArray} {s : ByteArray} (h : MayBe ns ts) (hn : ts.length < 127) (hs : s.size ≤ 4096) : MayBe ns (ts ++ [s]) :=
  ⟨h.1, by rw [List.length_append, List.length_singleton]; omega, h.2.2.1, fun t ht => by
    rcases List.mem_append.1 ht with ht | ht
    · exact h.2.2.2 t ht
    · rw [List.mem_singleton] at ht; subst ht; exact hs⟩

theorem textsL_snoc (ts : List ByteArray) (s : ByteArray) : textsL (ts ++ [s]) = textsL ts ++ textL s := by
  unfold textsL
  rw [List.flatMap_append]
  simp

theorem plain_one {n : Nat} (h : n < 128) : (plain n).length = 1 := by rw [plain_small h]; rfl
theorem plain_two {n : Nat} (h : 128 ≤ n) (h2 : n < 16384) : (plain n).length = 2 := by rw [plain_big h, plain_small (by omega)]; rfl

theorem more_len {ns : List Int} {ts : List ByteArray} {s : ByteArray} (hn : ts.length < 127) : (bytesL ns (ts ++ [s])).length = (bytesL ns ts).length + (plain s.size).length + s.size := by
  unfold bytesL
  rw [textsL_snoc, List.length_append, List.length_append, List.length_append, List.length_append, List.length_append, List.length_append, List.length_append, List.length_append, List.length_singleton, plain_one (n := ts.length) (by omega), plain_one (n := ts.length + 1) (by omega)]
  unfold textL
  rw [List.length_append, list_size]
  omega

theorem more_end {ns : List Int} {ts : List ByteArray} {s : ByteArray} : (bytesL ns (ts ++ [s])).drop ((bytesL ns (ts ++ [s])).length - s.size) = s.data.toList := by
  have e : bytesL ns (ts ++ [s]) = (plain ns.length ++ (numsL ns ++ (plain (ts ++ [s]).length ++ (textsL ts ++ plain s.size)))) ++ s.data.toList := by
    unfold bytesL
    rw [textsL_snoc]
    unfold textL
    simp only [List.append_assoc]
  rw [e, List.length_append, list_size, Nat.add_sub_cancel, List.drop_left]

/-! ### the relation -/

/-- no old block is written, or the text is laid behind the row, where there is room -/
def GK (b0 N : Nat) (s : ByteArray) (W W' : World) : Prop :=
  Below W.heap.size W W' ∨ ∃ (g : Nat) (cur : Array Value), b0 ≤ g ∧ 1 ≤ N ∧ W.heap[g]? = some (.cells cur 9 (0, 0)) ∧ N + 1 ≤ cur.size ∧ W' = W.setRow g (cur.toList.take N ++ [Value.string s] ++ cur.toList.drop (N + 1)).toArray

def T31 (b0 : Nat) (v : Value) (W : World) : Prop := ∃ g, b0 ≤ g ∧ v = .slice (some ⟨g, 0, none⟩) 0 0 ∧ W.heap[g]? = some (.cells #[] 9 (0, 0))
def T34 (b0 : Nat) (ts : List ByteArray) (v : Value) (W : World) : Prop := W.ownsRow b0 9 1 v ts.length (strV ts) ∧ ∃ g cap, v = .slice (some ⟨g, 0, none⟩) ts.length cap ∧ (ts.length = 0 → cap = 0)
def T36 (b0 : Nat) (s : ByteArray) (v : Value) (W : World) : Prop := ∃ g, b0 ≤ g ∧ v = .slice (some ⟨g, 0, none⟩) 1 1 ∧ W.heap[g]? = some (.cells #[.string s] 9 (0, 0))
def T37 (b0 : Nat) (ts : List ByteArray) (s : ByteArray) (v : Value) (W : World) : Prop := W.ownsRow b0 9 1 v (ts.length + 1) (strV ts ++ [.string s]) ∧ ∃ g cap, v = .slice (some ⟨g, 0, none⟩) (ts.length + 1) cap
def T38 (b0 : Nat) (A : Option Addr) (n c : Nat) (ts : List ByteArray) (s : ByteArray) (v : Value) (W : World) : Prop := ∃ v', v = .agg #[.slice A n c, v'] ∧ T37 b0 ts s v' W
def T7 (b0 : Nat) (v : Value) (W : World) : Prop := ∃ o, b0 ≤ o ∧ v = .pointer (some ⟨o, 0, none⟩) ∧ W.heap[o]? = some (.cells #[.slice none 0 0, .slice none 0 0] 25 (0, 0))

theorem far {W : World} {g k : Nat} {cs : Array Value} {o : Obj} (h : W.heap[k]? = some o) (hne : k ≠ g) : (W.setRow g cs).heap[k]? = some o := (setRow_other W g k cs hne).trans h

theorem T31.keep {b0 N : Nat} {s : ByteArray} {v : Value} {W W' : World} (h : T31 b0 v W) (hk : GK b0 N s W W') : T31 b0 v W' := by
  obtain ⟨g, h1, h2, h3⟩ := h
  rcases hk with hb | ⟨g', cur, _, hN, hc, hz, rfl⟩
  · exact ⟨g, h1, h2, (hb.block g (Array.getElem?_eq_some_iff.1 h3).1).trans h3⟩
  · refine ⟨g, h1, h2, far h3 fun e => ?_⟩
    subst e
    rw [h3] at hc
    simp only [Option.some.injEq, Obj.cells.injEq] at hc
    rw [← hc.1] at hz
    simp at hz

theorem T36.keep {b0 N : Nat} {s : ByteArray} {v : Value} {W W' : World} (h : T36 b0 s v W) (hk : GK b0 N s W W') : T36 b0 s v W' := by
  obtain ⟨g, h1, h2, h3⟩ := h
  rcases hk with hb | ⟨g', cur, _, hN, hc, hz, rfl⟩
  · exact ⟨g, h1, h2, (hb.block g (Array.getElem?_eq_some_iff.1 h3).1).trans h3⟩
  · refine ⟨g, h1, h2, far h3 fun e => ?_⟩
    subst e
    rw [h3] at hc
    simp only [Option.some.injEq, Obj.cells.injEq] at hc
    rw [← hc.1] at hz
    simp at hz
    omega

theorem T7.keep {b0 N : Nat} {s : ByteArray} {v : Value} {W W' : World} (h : T7 b0 v W) (hk : GK b0 N s W W') : T7 b0 v W' := by
  obtain ⟨g, h1, h2, h3⟩ := h
  rcases hk with hb | ⟨g', cur, _, hN, hc, hz, rfl⟩
  · exact ⟨g, h1, h2, (hb.block g (Array.getElem?_eq_some_iff.1 h3).1).trans h3⟩
  · refine ⟨g, h1, h2, far h3 fun e => ?_⟩
    subst e
    rw [h3] at hc
    simp only [Option.some.injEq, Obj.cells.injEq] at hc
    exact absurd hc.2.1 (by decide)

theorem laid_size {N : Nat} {s : ByteArray} {cur : Array Value} (hz : N + 1 ≤ cur.size) : (cur.toList.take N ++ [Value.string s] ++ cur.toList.drop (N + 1)).toArray.size = cur.size := by
  simp only [List.size_toArray, List.length_append, List.length_take, List.length_drop, List.length_singleton, Array.length_toList]
  omega

/-- a row of n texts, under what is laid at N: it keeps its n if n ≤ N; and N + 1 if the last is just what is laid -/
theorem row_laid {b0 N n : Nat} {s : ByteArray} {v : Value} {W : World} {g : Nat} {cur : Array Value} {xs : List Value} (h : W.ownsRow b0 9 1 v n xs) (hc : W.heap[g]? = some (.cells cur 9 (0, 0))) (hz : N + 1 ≤ cur.size)
    (hx : ∀ k : List Value, k.take n = xs → (k.take N ++ [Value.string s] ++ k.drop (N + 1)).take n = xs) : (W.setRow g (cur.toList.take N ++ [Value.string s] ++ cur.toList.drop (N + 1)).toArray).ownsRow b0 9 1 v n xs := by
  refine ⟨h.1, ?_⟩
  rcases h.2 with h' | ⟨g1, cap, cur1, hv, h1, h2, h3, h4, h5, h6⟩
  · exact .inl h'
  · by_cases e : g1 = g
    · subst e
      rw [h2] at hc
      simp only [Option.some.injEq, Obj.cells.injEq] at hc
      obtain ⟨rfl, -⟩ := hc
      refine .inr ⟨g1, cap, _, hv, h1, setRow_heap W g1 _ _ _ _ h2, h3, h4, by rw [laid_size hz]; exact h5, ?_⟩
      rw [Nat.mul_one] at h6 ⊢
      exact hx _ h6
    · exact .inr ⟨g1, cap, cur1, hv, h1, far h2 e, h3, h4, h5, h6⟩

theorem T34.keep {b0 : Nat} {ts : List ByteArray} {s : ByteArray} {v : Value} {W W' : World} (h : T34 b0 ts v W) (hk : GK b0 ts.length s W W') : T34 b0 ts v W' := by
  refine ⟨?_, h.2⟩
  rcases hk with hb | ⟨g', cur, _, hN, hc, hz, rfl⟩
  · exact st_keep h.1 hb
  · refine row_laid h.1 hc hz fun k hk => ?_
    by_cases hl : ts.length ≤ k.length
    · rw [List.append_assoc, List.take_append_of_le_length (by rw [List.length_take]; omega), List.take_take, Nat.min_self]; exact hk
    · have := congrArg List.length hk
      rw [List.length_take, strV_len] at this
      omega

theorem T37.keep {b0 : Nat} {ts : List ByteArray} {s : ByteArray} {v : Value} {W W' : World} (h : T37 b0 ts s v W) (hk : GK b0 ts.length s W W') : T37 b0 ts s v W' := by
  refine ⟨?_, h.2⟩
  rcases hk with hb | ⟨g', cur, _, hN, hc, hz, rfl⟩
  · exact st_keep h.1 hb
  · refine row_laid h.1 hc hz fun k hk => ?_
    have hl : ts.length + 1 ≤ k.length := by
      have := congrArg List.length hk
      rw [List.length_take, List.length_append, List.length_singleton, strV_len] at this
      omega
    have h2 : k.take ts.length = strV ts := by
      have := congrArg (List.take ts.length) hk
      rw [List.take_take, Nat.min_eq_left (by omega), List.take_append_of_le_length (by rw [strV_len]; exact Nat.le_refl _)] at this
      exact this.trans (List.take_of_length_le (by rw [strV_len]; exact Nat.le_refl _))
    rw [h2, List.take_append_of_le_length (by rw [List.length_append, List.length_singleton, strV_len]; exact Nat.le_refl _), List.take_of_length_le (by rw [List.length_append, List.length_singleton, strV_len]; exact Nat.le_refl _)]

theorem T38.keep {b0 : Nat} {A : Option Addr} {n c : Nat} {ts : List ByteArray} {s : ByteArray} {v : Value} {W W' : World} (h : T38 b0 A n c ts s v W) (hk : GK b0 ts.length s W W') : T38 b0 A n c ts s v W' := by
  obtain ⟨v', h1, h2⟩ := h
  exact ⟨v', h1, h2.keep hk⟩

/-- the world of the region's start, below -/
theorem base_keep {b0 N : Nat} {s : ByteArray} {W0 W W' : World} (h : Below b0 W0 W) (hb0 : b0 ≤ W0.heap.size) (hk : GK b0 N s W W') : Below b0 W0 W' := by
  rcases hk with hb | ⟨g', cur, hg, hN, hc, hz, rfl⟩
  · exact h.trans (hb.mono (Nat.le_trans hb0 h.size))
  · exact ⟨h.os, h.tape, h.output, by simpa using h.size, fun k hk => (setRow_other W g' k _ (by omega)).trans (h.block k hk)⟩

/-- the text is appended -/
theorem run_grow {b0 : Nat} {ts : List ByteArray} {s : ByteArray} {v u : Value} {W : World} {i : TypeInfo} (hi : Try.prog.info? 9 = some i) (hz : i.zero = some (.string ⟨#[]⟩)) (hsize : i.size = 1) (hby : i.bytes = 16) (h : T34 b0 ts v W) (hu : T36 b0 s u W) (hn : ts.length < 127) :
    ∃ v' W', (Builtin.append_ #[23, 23] 23 #[v, u]).run Try.prog W = .ok v' W' ∧ T37 b0 ts s v' W' ∧ GK b0 ts.length s W W' := by
  obtain ⟨hown, g, cap, rfl, hcap⟩ := h
  obtain ⟨p, hp1, rfl, hp3⟩ := hu
  have hplt : p < W.heap.size := (Array.getElem?_eq_some_iff.1 hp3).1
  obtain ⟨v', w', hr, h2, h3, _, _⟩ := run_append_own_at (P := Try.prog) W b0 23 23 9 i (.string ⟨#[]⟩) 1 16 Try.underlying23 hi hz hsize hby rfl (by decide) _ ts.length (strV ts) hown ⟨p, 0, none⟩ 1 1 [.string s] rfl (str_one hp3) (fun u hu => by simp at hu; subst hu; rfl) (by unfold maxLen; omega) (by omega) (by omega)
  obtain ⟨g', cap', hv', _, _⟩ := World.ownsRow.form h2 (by omega)
  refine ⟨v', w', hr, ⟨h2, g', cap', hv'⟩, ?_⟩
  rcases hown.2 with ⟨h', _⟩ | ⟨g1, cap1, cur, hv, hbg, hg, hnc, hcm, hcs, htake⟩
  · cases h'
  · simp only [Value.slice.injEq, Option.some.injEq, Addr.mk.injEq, and_true, true_and] at hv
    obtain ⟨rfl, rfl⟩ := hv
    by_cases hroom : ts.length + 1 ≤ cap
    · have hr2 := run_append_room (P := Try.prog) W 23 23 9 i Try.underlying23 hi g ts.length cap cur hg ⟨p, 0, none⟩ 1 1 [.string s] (by rw [hsize]; rfl) (str_one hp3) (fun u hu => by simp at hu; subst hu; rfl) hroom (by rw [hsize]; simp; omega)
      rw [hr] at hr2
      simp only [Result.ok.injEq] at hr2
      right
      refine ⟨g, cur, hbg, ?_, hg, by omega, ?_⟩
      · rcases Nat.eq_zero_or_pos ts.length with e | e
        · have := hcap e; omega
        · exact e
      · rw [hr2.2, hsize, Nat.mul_one]; rfl
    · have hr2 := run_append_grow (P := Try.prog) W 23 23 9 i (.string ⟨#[]⟩) Try.underlying23 hi hz ⟨g, 0, none⟩ ts.length cap (strV ts) (by rw [hsize, strV_len, Nat.mul_one]) (hown.cells (g := g) rfl) ⟨p, 0, none⟩ 1 1 [.string s] (by rw [hsize]; rfl) (str_one hp3) (by omega) (by omega) (growslice_fits (by omega) (by rw [hby]; omega))
      rw [hr] at hr2
      simp only [Result.ok.injEq] at hr2
      left
      rw [hr2.2]
      exact (Below.refl _ W).drew.alloc (by simp) _

theorem satK_keep {b0 N : Nat} {s : ByteArray} {L : List (Value → World → Prop)} (h : ∀ S ∈ L, ∀ v W W', S v W → GK b0 N s W W' → S v W') : ∀ i v W W', satK L i v W → GK b0 N s W W' → satK L i v W' := by
  intro i v W W' h1 h2
  unfold satK at *
  rw [List.getD_eq_getElem?_getD] at *
  cases hi : L[i]? with
  | none => rw [hi] at h1; simp
  | some S => rw [hi] at h1; exact h S (List.mem_of_getElem? hi) v W W' h1 h2

def TIs (u v : Value) (_ : World) : Prop := v = u

set_option maxRecDepth 20000 in
set_option maxHeartbeats 4000000 in
theorem grows_main (HE : EncodeAll) (A B : Option Addr) (c d : Nat) (ns : List Int) (ts : List ByteArray) (s : ByteArray) (w : World) (ha : IntsAt w A ns) (hb : StrsAt w B ts) (harg : ArgOk c d ns ts) (hBn : B = none → ts = [] ∧ d = 0) (hm : MayBe ns ts) (hn : ts.length < 127) (hs : s.size ≤ 4096) (hd : Nat) (hhd : hd = (plain s.size).length) (hlong : (hd = 2 ∧ 127 < s.size) ∨ (hd = 1 ∧ s.size ≤ 127)) :
    Calls Try.prog 8 #[.agg #[.slice A ns.length c, .slice B ts.length d], .string s] w fun e w' => e = .returned (.bool true) ∧ Below w.heap.size w w' := by
  obtain ⟨i0, hi, hz0, hz1, hz2⟩ := info_parts Try.infoStr
  have HW := Lib.hid (pkworks HE)
  have HEnv := Lib.hid (PkEnv.start (c := c) (d := d) ha hb)
  have hE1 := fun W (h : PkEnv w W w.heap.size A B c d ns ts) => HE A B c d ns ts W h.1 h.2.1 harg
  rw [encV_ok hm] at hE1
  have hm2 := hm.more hn hs
  have hE2 := fun g cap W (h1 : IntsAt W A ns) (h2 : StrsAt W (some ⟨g, 0, none⟩) (ts ++ [s])) (h3 : ts.length + 1 ≤ cap) (h4 : cap ≤ maxLen) => HE A (some ⟨g, 0, none⟩) c cap ns (ts ++ [s]) W h1 h2 ⟨harg.n8, by rw [List.length_append, List.length_singleton]; omega, harg.nr, fun t ht => by have := hm2.2.2.2 t ht; omega, harg.nc, by rw [List.length_append, List.length_singleton]; exact h3, harg.c63, h4⟩
  rw [encV_ok hm2] at hE2
  have hl1 := more_len (ns := ns) (s := s) hn
  have hle := bytesL_le hm2
  have hX : (⟨(bytesL ns ts).toArray⟩ : ByteArray).size = (bytesL ns ts).length := cat_size _
  have hY : (⟨(bytesL ns (ts ++ [s])).toArray⟩ : ByteArray).size = (bytesL ns (ts ++ [s])).length := cat_size _
  have hfrom := fun W => str_from ⟨(bytesL ns (ts ++ [s])).toArray⟩ ((bytesL ns (ts ++ [s])).length - s.size) (by rw [hY]; omega) (((bytesL ns (ts ++ [s])).length : Int) - (s.size : Int)) (by omega) W
  rw [show (⟨(bytesL ns (ts ++ [s])).toArray⟩ : ByteArray).data.toList = bytesL ns (ts ++ [s]) from rfl, more_end] at hfrom
  have hss : (⟨s.data.toList.toArray⟩ : ByteArray) = s := rfl
  rw [hss, ← hY] at hfrom
  rw [← hX, ← hY, ← hhd] at hl1
  rw [← hY] at hle
  have t1 := text_eq s
  have hTb := strV_snoc2 ts s
  unfold packV at hE1 hE2
  rw [show (ts ++ [s]).length = ts.length + 1 by rw [List.length_append]; rfl] at hE2
  generalize (⟨(bytesL ns ts).toArray⟩ : ByteArray) = X at *
  generalize (⟨(bytesL ns (ts ++ [s])).toArray⟩ : ByteArray) = Y at *
  have HE1 := Lib.hid hE1
  have HE2 := Lib.hid hE2
  have HTb := Lib.hid hTb
  have HN := Lib.hid hn
  have HBn := Lib.hid hBn
  have HT16 := Lib.hid harg.t16
  have pN : (ts.length : Int) < 127 := by omega
  have ps : (s.size : Int) ≤ 4096 := by omega
  have pY : (Y.size : Int) = (X.size : Int) + (hd : Int) + (s.size : Int) := by omega
  have pY2 : (Y.size : Int) ≤ 5000000 := by omega
  clear hE1 hE2 hTb HE hX hY hss hm hm2 hl1 hle hs harg ha hb hn hBn hhd
  go_enter Try.func8, Try.ntmps8
  go_upto_region 1 with fail
  generalize w.alloc (.cells #[.slice A ns.length c, .slice B ts.length d] 25) = W1 at *
  go_wp2_with fail
  refine (HW.out _).mono ?_
  rintro e w1 ⟨rfl, hb⟩
  have P1 := Lib.hid (HEnv.out.step hb)
  have k0 := P1.out.c0
  have k1 := P1.out.c1
  clear hb HEnv HW
  go_wp2_with fail
  refine (HE1.out _ P1.out).mono ?_
  rintro e w2 ⟨rfl, hb⟩
  have P2 := Lib.hid (P1.out.step hb)
  clear hb k0 k1 P1 HE1
  go_upto_region 8 with fail
  refine wp_region_saidK 11 [29, 30, 31, 32, 33, 34, 35, 36, 37, 38, 7]
    [TIs (.pointer (some ⟨w.heap.size, 0, none⟩)), TIs (.slice A ns.length c), T31 w2.heap.size, TIs (.pointer (some ⟨w.heap.size, 1, none⟩)), TIs (.slice B ts.length d), T34 w2.heap.size ts, TIs (.string s), T36 w2.heap.size s, T37 w2.heap.size ts s, T38 w2.heap.size A ns.length c ts s, T7 w2.heap.size]
    (fun W => Below w2.heap.size w2 W) (GK w2.heap.size ts.length s) (by kernel_rfl) (by kernel_rfl) (by kernel_rfl) (by kernel_rfl) (by kernel_rfl)
    (satK_keep fun S hS v W W' h hk => by
      simp only [List.mem_cons, List.not_mem_nil, or_false] at hS
      rcases hS with rfl | rfl | rfl | rfl | rfl | rfl | rfl | rfl | rfl | rfl | rfl
      · exact h
      · exact h
      · exact h.keep hk
      · exact h
      · exact h
      · exact T34.keep h hk
      · exact h
      · exact h.keep hk
      · exact T37.keep h hk
      · exact T38.keep h hk
      · exact h.keep hk)
    (fun W W' h hk => base_keep h (Nat.le_refl _) hk) (fun W => .inl (Below.refl _ W).drew) (Below.refl _ _) ?steps ?last
  case steps =>
    simp only [List.take_succ_cons, List.take_zero]
    refine ⟨?_, ?_, ?_, ?_, ?_, ?_, ?_, ?_, ?_, ?_, ?_, trivial⟩
    all_goals
      intro vs W ρ hρ hc hf hg hI hd R' hR
      have PW := P2.out.step hI
      have k0 := PW.c0
      have k1 := PW.c1
      have HR := Lib.hid hR
      have HIe := Lib.hid hI
      have HP := Lib.hid PW
      simp [depsOf, Region.binds, satK, TIs] at hd
      clear hR hI PW
    case refine_3 =>
      go_simp
      exact HR.out _ _ ⟨W.heap.size, HIe.out.size, rfl, heap_alloc_new W _⟩ (.inl ((Below.refl _ _).alloc (Nat.le_refl _) _))
    case refine_6 =>
      obtain ⟨⟨g, hg1, hg2, hg3⟩, hv⟩ := hd
      obtain ⟨v', w', hr, h2, h3, h4⟩ := run_append_empty (P := Try.prog) W w2.heap.size 23 23 9 i0 (.string ⟨#[]⟩) 16 Try.underlying23 hi hz0 hz1 hz2 rfl g hg3 hg1 B ts.length d (strV ts) (strV_len ts) (fun e => ⟨by rw [(HBn.out e).1]; rfl, (HBn.out e).2⟩) (fun ad e => by subst e; exact StrsAt.news HP.out.2.1) (fun u hu => by obtain ⟨y, _, rfl⟩ := List.mem_map.1 hu; rfl) (by have := HN.out; unfold maxLen; omega) (by have := HT16.out; omega)
      have e0 : ρ (.tmp 31) = .slice (some ⟨g, 0, none⟩) 0 0 := by rw [hρ]; simp [pick, hg2]
      have e2 : ρ (.tmp 33) = .slice B ts.length d := by rw [hρ]; simp [pick, hv]
      rw [if_pos (by simp [Region.wanted])]
      unfold execOp
      simp only [resolve, invoke, builtin, Sem.run_bind, Sem.run_pure, Result.andThen_ok, List.map_toArray, List.map_cons, List.map_nil, e0, e2, hr, floatUpon]
      exact HR.out _ _ ⟨h2, h4⟩ (.inl h3)
    case refine_8 =>
      go_simp
      exact HR.out _ _ ⟨W.heap.size, HIe.out.size, rfl, heap_alloc_new W _⟩ (.inl ((Below.refl _ _).alloc (Nat.le_refl _) _))
    case refine_9 =>
      obtain ⟨hd1, hd2⟩ := hd
      obtain ⟨v', w', hr, h2, h3⟩ := run_grow hi hz0 hz1 hz2 hd1 hd2.1 HN.out
      have e0 : ρ (.tmp 34) = vs 5 := by rw [hρ]; simp [pick]
      have e2 : ρ (.tmp 36) = vs 7 := by rw [hρ]; simp [pick]
      rw [if_pos (by simp [Region.wanted])]
      unfold execOp
      simp only [resolve, invoke, builtin, Sem.run_bind, Sem.run_pure, Result.andThen_ok, List.map_toArray, List.map_cons, List.map_nil, e0, e2, hr, floatUpon]
      exact HR.out _ _ h2 h3
    case refine_10 =>
      obtain ⟨hd1, hd2⟩ := hd
      obtain ⟨r, g, cap, e⟩ := hd2
      rw [e] at r
      go_simp
      exact HR.out _ _ ⟨_, rfl, r, g, cap, rfl⟩ (.inl (Below.refl _ _))
    case refine_11 =>
      go_simp
      exact HR.out _ _ ⟨W.heap.size, HIe.out.size, rfl, heap_alloc_new W _⟩ (.inl ((Below.refl _ _).alloc (Nat.le_refl _) _))
    all_goals
      go_simp
      first
        | exact HR.out _ _ (by simp [satK, TIs]) (.inl (Below.refl _ _))
        | trace_state
  case last =>
    intro vs W hI hg
    obtain ⟨v', e38, r, g, cap, rfl⟩ := hg 9 (by omega)
    obtain ⟨o, ho1, e7, ho⟩ := hg 10 (by omega)
    simp only [List.take_succ_cons, List.take_zero, List.drop_succ_cons, List.drop_zero, putAll, Act.put, List.setIfInBounds_toArray, List.set_cons_succ, List.set_cons_zero, Nat.zero_add, Nat.reduceAdd]
    rw [e38, e7]
    have ko : Cel W o 25 [.slice none 0 0, .slice none 0 0] := ho
    have ks1 := ko.set (i := 0) (v := .slice A ns.length c)
    have ks := ks1.set (i := 1) (v := .slice (some ⟨g, 0, none⟩) (ts.length + 1) cap)
    have q0 := ko.cell (i := 0) rfl
    have q1 := ko.cell (i := 1) rfl
    have f0 := ko.free (i := 0)
    have f1 := ko.free (i := 1)
    have hbF : Below w2.heap.size w2 ((W.setCell ⟨o, 0, none⟩ (.slice A ns.length c)).setCell ⟨o, 1, none⟩ (.slice (some ⟨g, 0, none⟩) (ts.length + 1) cap)) := (hI.setCell ho1 _).setCell ho1 _
    have rF := row_far (row_far r ko (by decide) (i := 0) (u := .slice A ns.length c)) ks1 (by decide) (i := 1) (u := .slice (some ⟨g, 0, none⟩) (ts.length + 1) cap)
    have hcap := row_cap rF
    rw [← HTb.out] at rF
    have HC2 := Lib.hid (HE2.out g cap _ (P2.out.1.below hbF) (StrsAt.own rF (by rw [List.length_append]; rfl)) hcap.1 hcap.2)
    have HKs := Lib.hid ks
    have PF := Lib.hid (P2.out.2.2.2.trans (hbF.mono P2.out.2.2.2.size))
    clear e38 e7 hg hI ho ko ks1 ks r rF hcap hbF P2 HE2
    go_upto_region 9 with fail
    generalize (W.setCell ⟨o, 0, none⟩ (.slice A ns.length c)).setCell ⟨o, 1, none⟩ (.slice (some ⟨g, 0, none⟩) (ts.length + 1) cap) = W3 at *
    clear q0 q1 f0 f1
    have q0 := HKs.out.cell (i := 0) rfl
    have q1 := HKs.out.cell (i := 1) rfl
    go_wp2_with fail
    refine HC2.out.mono ?_
    rintro e w4 ⟨rfl, hb⟩
    have B4 := Lib.hid (PF.out.trans (hb.mono PF.out.size))
    clear hb PF HC2 HKs q0 q1
    rcases hlong with ⟨rfl, hl⟩ | ⟨rfl, hl⟩
    · have pl : (127 : Int) < (s.size : Int) := by omega
      have pX : (X.size : Int) ≤ 5000000 := by omega
      have pY' : (X.size : Int) + 2 + (s.size : Int) = (Y.size : Int) := pY.symm
      clear hl pY
      go_wp2_with fail
      go_ret
      exact ⟨rfl, B4.out⟩
    · have pl : (s.size : Int) ≤ 127 := by omega
      have pX : (X.size : Int) ≤ 5000000 := by omega
      have pY' : (X.size : Int) + 1 + (s.size : Int) = (Y.size : Int) := pY.symm
      clear hl pY
      go_wp2_with fail
      go_ret
      exact ⟨rfl, B4.out⟩

set_option maxRecDepth 20000 in
set_option maxHeartbeats 2000000 in
theorem grows_walk (HE : EncodeAll) (A B : Option Addr) (c d : Nat) (ns : List Int) (ts : List ByteArray) (s : ByteArray) (hreach : s.size ≤ reachBytes) (w : World) (ha : IntsAt w A ns) (hb : StrsAt w B ts) (harg : ArgOk c d ns ts) (hBn : B = none → ts = [] ∧ d = 0) :
    Calls Try.prog 8 #[.agg #[.slice A ns.length c, .slice B ts.length d], .string s] w fun e w' => e = .returned (.bool true) ∧ Below w.heap.size w w' := by
  have HW := Lib.hid (pkworks HE)
  have HEnv := Lib.hid (PkEnv.start (c := c) (d := d) ha hb)
  have pts : (ts.length : Int) ≤ 9223372036854775807 := by have := harg.t16; omega
  have pss : (s.size : Int) ≤ 9223372036854775807 := by unfold reachBytes at hreach; omega
  by_cases h1 : 127 ≤ ts.length
  · have p1 : (127 : Int) ≤ (ts.length : Int) := by omega
    clear h1 harg ha hb hBn HE hreach
    go_enter Try.func8, Try.ntmps8
    go_upto_region 1 with fail
    generalize w.alloc (.cells #[.slice A ns.length c, .slice B ts.length d] 25) = W1 at *
    go_wp2_with fail
    refine (HW.out _).mono ?_
    rintro e w1 ⟨rfl, hb⟩
    have P1 := Lib.hid (HEnv.out.step hb)
    have k0 := P1.out.c0
    have k1 := P1.out.c1
    clear hb HEnv HW
    go_wp2_with fail
    go_ret
    exact ⟨rfl, P1.out.2.2.2⟩
  by_cases h2 : 4096 < s.size
  · have p1 : (ts.length : Int) < 127 := by omega
    have p2 : (4096 : Int) < (s.size : Int) := by omega
    clear h1 h2 harg ha hb hBn HE hreach
    go_enter Try.func8, Try.ntmps8
    go_upto_region 1 with fail
    generalize w.alloc (.cells #[.slice A ns.length c, .slice B ts.length d] 25) = W1 at *
    go_wp2_with fail
    refine (HW.out _).mono ?_
    rintro e w1 ⟨rfl, hb⟩
    have P1 := Lib.hid (HEnv.out.step hb)
    have k0 := P1.out.c0
    have k1 := P1.out.c1
    clear hb HEnv HW
    go_wp2_with fail
    go_ret
    exact ⟨rfl, P1.out.2.2.2⟩
  by_cases hm : ckE ns ts = 0
  · clear HW HEnv pts pss
    by_cases h3 : 127 < s.size
    · exact grows_main HE A B c d ns ts s w ha hb harg hBn (ckE_zero.1 hm) (by omega) (by omega) 2 (plain_two (by omega) (by omega)).symm (.inl ⟨rfl, h3⟩)
    · exact grows_main HE A B c d ns ts s w ha hb harg hBn (ckE_zero.1 hm) (by omega) (by omega) 1 (plain_one (by omega)).symm (.inr ⟨rfl, by omega⟩)
  · have p1 : (ts.length : Int) < 127 := by omega
    have p2 : (s.size : Int) ≤ 4096 := by omega
    have hE1 := fun W (h : PkEnv w W w.heap.size A B c d ns ts) => HE A B c d ns ts W h.1 h.2.1 harg
    rw [encV_bad hm] at hE1
    have hne : (((ckE ns ts : Nat) : Int) != 0) = true := by simp; omega
    unfold packV at hE1
    generalize ckE ns ts = C at *
    have HE1 := Lib.hid hE1
    clear h1 h2 hm hE1 harg ha hb hBn HE hreach
    go_enter Try.func8, Try.ntmps8
    go_upto_region 1 with fail
    generalize w.alloc (.cells #[.slice A ns.length c, .slice B ts.length d] 25) = W1 at *
    go_wp2_with fail
    refine (HW.out _).mono ?_
    rintro e w1 ⟨rfl, hb⟩
    have P1 := Lib.hid (HEnv.out.step hb)
    have k0 := P1.out.c0
    have k1 := P1.out.c1
    clear hb HEnv HW
    go_wp2_with fail
    refine (HE1.out _ P1.out).mono ?_
    rintro e w2 ⟨rfl, hb⟩
    have B2 := Lib.hid ((P1.out.step hb).2.2.2)
    clear hb k0 k1 P1 HE1
    go_wp2_with fail
    go_ret
    exact ⟨rfl, B2.out⟩

end Pk
end Go.Proofs.Ytklbahagcdfccaa
