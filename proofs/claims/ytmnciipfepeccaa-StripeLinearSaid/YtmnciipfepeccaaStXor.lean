/- Two texts of one length, byte by byte: what the chapter's own law asks with; one contract, and three rows at once; no condition but the range. -/
import Derived.Test.YtmnciipfepeccaaStUnder
import Derived.Test.YtmnciipfepeccaaStEnc
import Derived.Test.YtmnciipfepeccaaMatGen
import Derived.Maps.AppendAt
namespace Go.Proofs.Ytmnciipfepeccaa
open Go.RowKit

attribute [local go_sem ↓] Go.wp_at_zero Go.wp_at_succ
attribute [local go_sem] floatUpon pick

/-- the block stands whole; its mark lies behind its cells -/
def CelM (w : World) (g : Nat) (t : TypeId) (xs : List Value) : Prop := ∃ lo hi, xs.length ≤ lo ∧ w.heap[g]? = some (.cells xs.toArray t (lo, hi))

section
variable {w w' : World} {g i : Nat} {t : TypeId} {xs : List Value} {v : Value}
theorem CelM.lt (h : CelM w g t xs) : g < w.heap.size := by obtain ⟨_, _, _, h⟩ := h; exact (Array.getElem?_eq_some_iff.1 h).1
theorem CelM.cell (h : CelM w g t xs) (hv : xs[i]? = some v) : w.cell? ⟨g, i, none⟩ = some v := by
  obtain ⟨lo, hi, _, h⟩ := h
  rw [cell_of_row w g i _ t (lo, hi) h, List.getElem?_toArray]; exact hv
theorem CelM.free (h : CelM w g t xs) (hi : i < xs.length) : w.frozen? ⟨g, i, none⟩ = false := by
  obtain ⟨lo, hi', h1, h⟩ := h
  simp only [World.frozen?, h, Bool.and_eq_false_iff, decide_eq_false_iff_not]
  left; omega
theorem CelM.set (h : CelM w g t xs) : CelM (w.setCell ⟨g, i, none⟩ v) g t (xs.set i v) := by
  obtain ⟨lo, hi, h1, h⟩ := h
  refine ⟨lo, hi, by rw [List.length_set]; exact h1, ?_⟩
  rw [setCell_eq_setRow w g i _ t (lo, hi) v h, setRow_heap w g _ _ t _ h, List.setIfInBounds_toArray]
theorem CelM.below (h : CelM w g t xs) (hb : Below w.heap.size w w') : CelM w' g t xs := by
  have hl := h.lt
  obtain ⟨lo, hi, h1, h⟩ := h
  exact ⟨lo, hi, h1, (hb.block g hl).trans h⟩
end

/-- two texts, byte by byte -/
def xorS (a b : ByteArray) : ByteArray := ⟨((List.range a.size).map fun p => byteAt a p ^^^ byteAt b p).toArray⟩

theorem xorS_size (a b : ByteArray) : (xorS a b).size = a.size := by
  show ((List.range a.size).map _).toArray.size = _
  simp

theorem xorS_at (a b : ByteArray) (p : Nat) (h : p < a.size) : byteAt (xorS a b) p = byteAt a p ^^^ byteAt b p := by
  unfold byteAt xorS
  simp only [List.getElem?_toArray]
  rw [List.getElem?_map, List.getElem?_range h]
  rfl

/-- the bytes when the first p are done -/
def xorP (a b : ByteArray) (p : Nat) : List UInt8 := (List.range a.size).map fun q => if q < p then byteAt a q ^^^ byteAt b q else byteAt a q

theorem xorP_len (a b : ByteArray) (p : Nat) : (xorP a b p).length = a.size := by simp [xorP]

theorem xorP_at (a b : ByteArray) (p : Nat) (rest : List Value) (h : p < a.size) : (Lib.byteCells (xorP a b p) ++ rest)[p]? = some (.int .u8 ((byteAt a p).toNat : Int)) := by
  rw [List.getElem?_append_left (by rw [Lib.byteCells_length, xorP_len]; exact h)]
  unfold Lib.byteCells xorP
  rw [List.getElem?_map, List.getElem?_map, List.getElem?_range h]
  simp

theorem xorP_set (a b : ByteArray) (p : Nat) (rest : List Value) (h : p < a.size) :
    (Lib.byteCells (xorP a b p) ++ rest).set p (.int .u8 ((byteAt a p ^^^ byteAt b p).toNat : Int)) = Lib.byteCells (xorP a b (p + 1)) ++ rest := by
  have hl : (Lib.byteCells (xorP a b p)).length = a.size := by rw [Lib.byteCells_length, xorP_len]
  rw [List.set_append_left _ _ (by rw [hl]; exact h)]
  congr 1
  apply List.ext_getElem?
  intro q
  rw [List.getElem?_set]
  by_cases hq : p = q
  · subst hq
    rw [if_pos rfl, if_pos (by rw [hl]; exact h)]
    unfold Lib.byteCells xorP
    rw [List.getElem?_map, List.getElem?_map, List.getElem?_range h]
    simp
  · rw [if_neg hq]
    unfold Lib.byteCells xorP
    rw [List.getElem?_map, List.getElem?_map, List.getElem?_map, List.getElem?_map]
    by_cases hqn : q < a.size
    · rw [List.getElem?_range hqn]
      simp only [Option.map_some]
      by_cases h2 : q < p
      · rw [if_pos h2, if_pos (by omega)]
      · rw [if_neg h2, if_neg (by omega)]
    · rw [List.getElem?_eq_none (by simp; omega)]; rfl

theorem xorP_end (a b : ByteArray) : (⟨(xorP a b a.size).toArray⟩ : ByteArray) = xorS a b := by
  unfold xorS xorP
  congr 2
  apply List.map_congr_left
  intro q hq
  rw [if_pos (List.mem_range.1 hq)]

theorem xorP_zero (a b : ByteArray) (cap : Nat) : ∃ rest : List Value, bytesRow a cap = (Lib.byteCells (xorP a b 0) ++ rest).toArray := by
  refine ⟨List.replicate (cap - a.size) (.int .u8 0), ?_⟩
  apply Array.ext'
  unfold bytesRow
  rw [Array.toList_append, Array.toList_map, Array.toList_replicate]
  congr 1
  unfold Lib.byteCells
  have e : a.data.toList = xorP a b 0 := by
    apply List.ext_getElem?
    intro q
    unfold xorP
    rw [List.getElem?_map]
    by_cases hq : q < a.size
    · have hq' : q < a.data.size := hq
      rw [List.getElem?_range hq, Array.getElem?_toList]
      simp only [Option.map_some, Nat.not_lt_zero, if_false]
      unfold byteAt
      rw [Array.getElem?_eq_getElem hq', Option.getD_some]
    · have hq' : ¬ q < a.data.size := hq
      rw [List.getElem?_eq_none (by simp; omega), List.getElem?_eq_none (by simp; omega)]; rfl
  rw [← e]

set_option maxRecDepth 20000 in
set_option maxHeartbeats 2000000 in
theorem xor_any (a b : ByteArray) (w : World) (hab : b.size = a.size) (hn : a.size ≤ 100000) :
    Calls Try.prog 34 #[.string a, .string b] w fun e w' => e = .returned (.string (xorS a b)) ∧ Below w.heap.size w w' := by
  have hcv := run_bytes_of_string (P := Try.prog) w 9 61 5 a Try.underlying9 Try.underlying61 Try.underlying5
  have hge := grownCap_ge w a.size 0 5
  have hle := grownCap_le_maxLen w a.size 0 5 (by unfold maxLen; omega)
  obtain ⟨rest, hr⟩ := xorP_zero a b (grownCap w a.size 0 5)
  rw [hr] at hcv
  have hC := Lib.hid (show CelM (w.drew.alloc (.cells (Lib.byteCells (xorP a b 0) ++ rest).toArray 5 ((Lib.byteCells (xorP a b 0) ++ rest).toArray.size, (Lib.byteCells (xorP a b 0) ++ rest).toArray.size + 1))) w.heap.size 5 (Lib.byteCells (xorP a b 0) ++ rest) from ⟨_, _, by simp, heap_alloc_new w.drew _⟩)
  have hB : Hid (Below w.heap.size w (w.drew.alloc (.cells (Lib.byteCells (xorP a b 0) ++ rest).toArray 5 ((Lib.byteCells (xorP a b 0) ++ rest).toArray.size, (Lib.byteCells (xorP a b 0) ++ rest).toArray.size + 1)))) := (Below.refl _ w).drew.alloc (Nat.le_refl _) _
  generalize (w.drew.alloc (.cells (Lib.byteCells (xorP a b 0) ++ rest).toArray 5 ((Lib.byteCells (xorP a b 0) ++ rest).toArray.size, (Lib.byteCells (xorP a b 0) ++ rest).toArray.size + 1))) = W2 at hcv hC hB
  generalize grownCap w a.size 0 5 = cap at hcv hge hle
  have HLE := Lib.hid hle
  have HAB := Lib.hid hab
  have hrl : Hid (∀ p, p < a.size → p < (Lib.byteCells (xorP a b p) ++ rest).length) := fun p hp => by rw [List.length_append, Lib.byteCells_length, xorP_len]; omega
  clear hr hab hle
  go_enter Try.func34, Try.ntmps34
  go_wp2_with fail
  go_loopw [11] (fun x wr => ∃ p : Nat, p ≤ a.size ∧ x = .int .i64 (p : Int) ∧ Hid (CelM wr w.heap.size 5 (Lib.byteCells (xorP a b p) ++ rest)) ∧ Hid (Below w.heap.size w wr)) (fun x _ => a.size - (intOf x).toNat)
  case atStart => exact ⟨0, by omega, rfl, hC.out, hB.out⟩
  case round =>
    obtain ⟨p, hp, rfl, hcel, hbel⟩ := hrel
    clear hC hB hcv
    by_cases hlt : p < a.size
    · have pp : (p : Int) < (a.size : Int) := by omega
      have hpb : p < b.size := by rw [HAB.out]; exact hlt
      have ppb : (p : Int) < (b.size : Int) := by omega
      have HK := Lib.hid (hcel.out.cell (xorP_at a b p rest hlt))
      have ba : (byteAt a p).toNat ≤ 255 := GfU.toNat_le _
      have bb : (b[p]'hpb).toNat ≤ 255 := GfU.toNat_le _
      have hx8 := u8_xor_nat (byteAt a p).toNat (b[p]'hpb).toNat (by omega) (by omega)
      rw [byteAt_get b p hpb, ← UInt8.toNat_xor, ← byteAt_get b p hpb] at hx8
      have HX := Lib.hid hx8
      have hbg := Lib.hid (byteAt_get b p hpb)
      generalize hav : (byteAt a p).toNat = av at HK HX ba
      generalize hbv : (b[p]'hpb).toNat = bv at HX bb
      have HBv := Lib.hid hbv
      have hixp : ∀ W, (Instr.index 9 (.string b) (.int .i64 (p : Int))).run Try.prog W = .ok (.int .u8 (bv : Int)) W := fun W => by
        rw [run_index_string W 9 b .i64 _ Try.underlying9, dif_pos (by omega)]
        simp only [Int.toNat_natCast, HBv.out]
      clear hx8 hav hbv
      go_upto_region 5 with fail
      refine wp_region_said 9 [14, 15, 16, 17, 18, 19, 20, 21, 22]
        [.is (.slice (some ⟨w.heap.size, 0, none⟩) a.size cap), .is (.int .i64 (p : Int)), .is (.pointer (some ⟨w.heap.size, p, none⟩)), .is (.int .u8 (av : Int)), .is (.string b), .is (.int .i64 (p : Int)), .is (.int .u8 (bv : Int)), .is (.int .u8 ((byteAt a p ^^^ b[p]'hpb).toNat : Int)), .is (.pointer (some ⟨w.heap.size, p, none⟩))]
        (fun W => CelM W w.heap.size 5 (Lib.byteCells (xorP a b p) ++ rest) ∧ W.cell? ⟨w.heap.size, p, none⟩ = some (.int .u8 (av : Int)) ∧ w.heap.size < W.heap.size) (by kernel_rfl) (by kernel_rfl) (by kernel_rfl) (by kernel_rfl) (by kernel_rfl)
        (fun W W' h hb => ⟨h.1.below hb, (hb.cell (p := ⟨w.heap.size, p, none⟩) h.2.2).trans h.2.1, Nat.lt_of_lt_of_le h.2.2 hb.size⟩) ⟨hcel.out, HK.out, hcel.out.lt⟩ ?steps ?last
      case steps =>
        simp only [List.take_succ_cons, List.take_zero]
        refine ⟨?_, ?_, ?_, ?_, ?_, ?_, ?_, ?_, ?_, trivial⟩
        all_goals
          intro vs W ρ hρ hc hf hg hI hH hd R' hR
          obtain ⟨_, hcp, _⟩ := hI
          have HR := Lib.hid hR
          have hxx := HX.out
          simp [depsOf, Region.binds, sayAt, Say.holds] at hd
          clear hR
          go_simp
          first
            | exact HR.out _ _ (by simp [sayAt, Say.holds]) (Below.refl _ _) (by simp [sayAt, Say.isBlk])
            | trace_state
      case last =>
        intro vs W hI hb hg hd
        have g7 := hg 7 (by omega)
        have g8 := hg 8 (by omega)
        simp only [sayAt, Say.holds, List.getD_cons_succ, List.getD_cons_zero] at g7 g8
        simp only [List.take_succ_cons, List.take_zero, List.drop_succ_cons, List.drop_zero, putAll, Act.put, List.setIfInBounds_toArray, List.set_cons_succ, List.set_cons_zero, Nat.zero_add, Nat.reduceAdd]
        rw [g7, g8]
        obtain ⟨hc1, hc2, _⟩ := hI
        have hfree := hc1.free (i := p) (hrl.out p hlt)
        have hset := hc1.set (i := p) (v := .int .u8 ((byteAt a p ^^^ b[p]'hpb).toNat : Int))
        rw [hbg.out, xorP_set a b p rest hlt, ← hbg.out] at hset
        have HSET2 := Lib.hid hset
        have B4 := Lib.hid (hbel.out.trans (hb.mono hbel.out.size))
        clear g7 g8 hg hd hb hc1 hset hcel hbel hixp hbg
        go_wp2_with fail
        go_roundw
        case rel => exact ⟨p + 1, by omega, by go_num, HSET2.out, B4.out.setCell (Nat.le_refl _) _⟩
        case measure => simp [intOf]; omega
    · obtain rfl : p = a.size := by omega
      have hcv := run_convert_bytes_back (P := Try.prog) wr 61 9 5 ⟨w.heap.size, 0, none⟩ cap (xorP a b a.size) Try.underlying61 Try.underlying5 Try.underlying9 (fun j hj => by
        have ha : (⟨w.heap.size, 0, none⟩ : Addr).add j = ⟨w.heap.size, j, none⟩ := by unfold Addr.add; split <;> simp_all
        rw [ha]
        refine hcel.out.cell ?_
        rw [List.getElem?_append_left (by rw [Lib.byteCells_length]; exact hj)]
        unfold Lib.byteCells
        rw [List.getElem?_map, List.getElem?_eq_getElem hj]; rfl)
      rw [xorP_len, xorP_end] at hcv
      clear hcel
      go_wp2_with fail
      go_ret
      exact ⟨rfl, hbel.out⟩

/-- two slices share no block -/
def Unlike (u v : Value) : Prop := ∀ j, u.ownBlock = some j → v.ownBlock = some j → False

theorem Unlike.symm {u v : Value} (h : Unlike u v) : Unlike v u := fun j h1 h2 => h j h2 h1

theorem Unlike.ne {u v : Value} (h : Unlike u v) : u.ownBlock = none ∨ u.ownBlock ≠ v.ownBlock := by
  cases e : u.ownBlock with
  | none => exact .inl rfl
  | some j => exact .inr fun e2 => h j e e2.symm

theorem Unlike.next {u v v' : Value} {n m : Nat} (h : Unlike u v) (hu : ∀ j, u.ownBlock = some j → j < n) (hat : v'.ownBlock = v.ownBlock ∨ v'.ownBlock = some m) (hm : n ≤ m) : Unlike u v' := fun j h1 h2 => by
  rcases hat with e | e
  · exact h j h1 (by rw [← e]; exact h2)
  · rw [e] at h2
    have := hu j h1
    simp only [Option.some.injEq] at h2
    omega

/-- three rows that the call owns, and that share no block -/
structure Three (H : Nat) (W : World) (v u1 u2 : Value) (n m1 m2 : Nat) (xs ys zs : List Value) : Prop where
  r0 : W.ownsRow H 9 1 v n xs
  r1 : W.ownsRow H 9 1 u1 m1 ys
  r2 : W.ownsRow H 9 1 u2 m2 zs
  d01 : Unlike v u1
  d02 : Unlike v u2
  d12 : Unlike u1 u2

theorem Three.rot {H : Nat} {W : World} {v u1 u2 : Value} {n m1 m2 : Nat} {xs ys zs : List Value} (h : Three H W v u1 u2 n m1 m2 xs ys zs) : Three H W u1 u2 v m1 m2 n ys zs xs :=
  ⟨h.r1, h.r2, h.r0, h.d12, h.d01.symm, h.d02.symm⟩

theorem Three.below {H : Nat} {W W' : World} {v u1 u2 : Value} {n m1 m2 : Nat} {xs ys zs : List Value} (h : Three H W v u1 u2 n m1 m2 xs ys zs) (hb : Below W.heap.size W W') : Three H W' v u1 u2 n m1 m2 xs ys zs :=
  ⟨st_keep h.r0 hb, st_keep h.r1 hb, st_keep h.r2 hb, h.d01, h.d02, h.d12⟩

theorem Three.step {H : Nat} {W W1 : World} {v u1 u2 v' : Value} {n m1 m2 n' : Nat} {xs ys zs xs' : List Value} (h : Three H W v u1 u2 n m1 m2 xs ys zs) (ho : W1.ownsRow H 9 1 v' n' xs') (hg : W.grownBy W1 v.ownBlock) (hat : v'.ownBlock = v.ownBlock ∨ v'.ownBlock = some W.heap.size) :
    Three H W1 v' u1 u2 n' m1 m2 xs' ys zs :=
  ⟨ho, h.r1.kept hg h.d01.symm.ne, h.r2.kept hg h.d02.symm.ne, (h.d01.symm.next (fun j hj => (h.r1.lt j hj).2) hat (Nat.le_refl _)).symm, (h.d02.symm.next (fun j hj => (h.r2.lt j hj).2) hat (Nat.le_refl _)).symm, h.d12⟩

end Go.Proofs.Ytmnciipfepeccaa
