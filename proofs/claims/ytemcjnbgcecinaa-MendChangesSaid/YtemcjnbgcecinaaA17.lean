/- Parts of the proof, joined: MatLandInv, MatRef3, MatInvs, MatLandInv2; their conditions stand with each. -/
import Derived.Deep.RegionWith
import Derived.Deep.RegionHeld3
import Derived.Deep.DeepCutAuto
import Derived.Deep.DrawnRows
import Derived.Test.YtemcjnbgcecinaaA3
import Derived.Test.YtemcjnbgcecinaaA6
import Derived.Test.YtemcjnbgcecinaaA16

/- What the landed package's Inverse does: its table made, and the inverse or why there is none; no condition but the form's reach. -/
namespace Go.Proofs.Ytemcjnbgcecinaa
open Go.RowKit

theorem Try.eg40 : ∀ args w, (callFunc 74 args).run Try.prog w = .ok (.enter 74 args) w := enters_of Try.func74 (by kernel_rfl) rfl

/-- the headers of which the first k stand -/
def hdrK (n m : Nat) (g : Nat → Nat) (k : Nat) : Array Value := ((List.range n).map fun i => if i < k then Value.slice (some ⟨g i, 0, none⟩) m m else .slice none 0 0).toArray

theorem hdrK_size (n m : Nat) (g : Nat → Nat) (k : Nat) : (hdrK n m g k).size = n := by simp [hdrK]

theorem hdrK_at (n m : Nat) (g : Nat → Nat) (k i : Nat) (h : i < n) : (hdrK n m g k)[i]? = some (if i < k then Value.slice (some ⟨g i, 0, none⟩) m m else .slice none 0 0) := by simp [hdrK, h]

theorem hdrK_zero (n m : Nat) (g : Nat → Nat) : madeCells (Value.slice none 0 0).cells (n * 1) = hdrK n m g 0 := by
  rw [Nat.mul_one, show (Value.slice none 0 0).cells = #[Value.slice none 0 0] from rfl]
  apply Array.ext'
  rw [toList_madeCells_one]
  unfold hdrK
  rw [List.toList_toArray]
  apply List.ext_getElem?
  intro p
  by_cases hp : p < n
  · simp [hp]
  · simp [hp]

theorem hdrK_end (n m : Nat) (g : Nat → Nat) : hdrK n m g n = hdrA n m g := by
  unfold hdrK hdrA
  rw [List.map_congr_left fun i hi => if_pos (List.mem_range.1 hi)]

theorem hdrK_set (n m : Nat) (g g' : Nat → Nat) (k : Nat) (hk : k < n) (h : ∀ i, i < k → g' i = g i) : (hdrK n m g k).setIfInBounds k (.slice (some ⟨g' k, 0, none⟩) m m) = hdrK n m g' (k + 1) := by
  apply Array.ext_getElem?
  intro p
  rw [Array.getElem?_setIfInBounds, hdrK_size]
  by_cases e : k = p
  · subst e; rw [if_pos rfl, if_pos hk, hdrK_at n m g' _ _ hk, if_pos (by omega)]
  · rw [if_neg e]
    by_cases hp : p < n
    · rw [hdrK_at n m g _ p hp, hdrK_at n m g' _ p hp]
      by_cases h2 : p < k
      · rw [if_pos h2, if_pos (by omega), h p h2]
      · rw [if_neg h2, if_neg (by omega)]
    · rw [Array.getElem?_eq_none (by rw [hdrK_size]; omega), Array.getElem?_eq_none (by rw [hdrK_size]; omega)]

/-- 'copy(b, s)', s a string, in a plain region -/
theorem wpList_copy_text {P : Program} {w : World} {ops : Array Oper} {rest : List Oper} {o : Oper} {a : Act} {Q : Exit → Act → World → Prop} (hgd : o.guard = none) (d s : Operand) (dT sT : TypeId)
    (ho : o.op = .call { callee := .builtin .copy, args := #[d, s], argTypes := #[dT, sT] }) (elem : TypeId) (hu : P.underlying dT = some (.slice elem)) (hsz : (P.info? elem).map (·.size) = some 1)
    (g dLen dCap : Nat) (S : ByteArray) (hd : a.eval d = .slice (some ⟨g, 0, none⟩) dLen dCap) (hs : a.eval s = .string S) (cur : Array Value) (t : TypeId) (hg : w.heap[g]? = some (.cells cur t (0, 0))) (hfit : dLen ≤ cur.size)
    (h : wpList P ops Q rest (a.put o.dst (goInt ((min S.size dLen : Nat) : Int))) (w.setRow g ((Lib.byteCells S.data.toList).take (min S.size dLen) ++ cur.toList.drop (min S.size dLen)).toArray)) :
    wpList P ops Q (o :: rest) a w := by
  refine wpList_plain hgd fun K hK => ?_
  have hrun := run_copy_text (P := P) w dT sT o.type elem g dLen dCap S cur t hu hsz hg hfit
  unfold Oper.wp execOp
  simp only [ho, resolve, invoke, builtin, Sem.run_bind, Sem.run_pure, Result.andThen_ok, List.map_toArray, List.map_cons, List.map_nil, hd, hs, hrun]
  exact hK _ _ h

theorem owns_blk {w : World} {H g n : Nat} {e : TypeId} {xs : List Value} (h : w.ownsRow H e 1 (.slice (some ⟨g, 0, none⟩) n n) n xs) : w.heap[g]? = some (.cells xs.toArray e (0, 0)) := by
  rcases h.2 with ⟨h', _⟩ | ⟨g', cap', cur, h', _, hg, _, _, hcs, htake⟩
  · simp at h'
  · simp only [Value.slice.injEq, Option.some.injEq, Addr.mk.injEq, and_true, true_and] at h'
    obtain ⟨rfl, rfl⟩ := h'
    rw [Nat.mul_one] at hcs htake
    rw [List.take_of_length_le (by rw [Array.length_toList, hcs]; exact Nat.le_refl _)] at htake
    rw [hg, ← htake]

theorem rowA_zero (m : Nat) : (madeCells (Value.int .u8 0).cells (m * 1)).toList.toArray = rowA m fun _ => 0 := by
  rw [Nat.mul_one, show (Value.int .u8 0).cells = #[Value.int .u8 0] from rfl, toList_madeCells_one]
  unfold rowA
  apply congrArg
  apply List.ext_getElem?
  intro p
  by_cases hp : p < m
  · simp [hp]
  · simp [hp]

/-- a row of the table: the matrix's, and the identity's behind it; the same, where that is not there yet -/
def rowX (n : Nat) (s : ByteArray) (i j : Nat) : UInt8 := if j < n then cel s n i j else GfU.one i (j - n)

def halfX (n : Nat) (s : ByteArray) (i j : Nat) : UInt8 := if j < n then cel s n i j else 0

theorem copied_half (n k : Nat) (s : ByteArray) (hk : k < n) (hs : s.size = n * n) :
    ((Lib.byteCells (rowS s n k).data.toList).take (min (rowS s n k).size (2 * n)) ++ (rowA (2 * n) fun _ => 0).toList.drop (min (rowS s n k).size (2 * n))).toArray = rowA (2 * n) (halfX n s k) := by
  have hz := rowS_size hk hs
  have hl : (Lib.byteCells (rowS s n k).data.toList).length = n := by rw [Lib.byteCells_length, ← Lib.size_eq]; exact hz
  rw [hz, Nat.min_eq_left (by omega), List.take_of_length_le (by omega)]
  apply Array.ext_getElem?
  intro p
  rw [List.getElem?_toArray, List.getElem?_append, hl]
  by_cases h1 : p < n
  · rw [if_pos h1, rowA_at (2 * n) _ p (by omega)]
    unfold Lib.byteCells
    rw [List.getElem?_map, Array.getElem?_toList, rowS_at hk h1 hs]
    unfold halfX
    rw [if_pos h1]; rfl
  · rw [if_neg h1, List.getElem?_drop, show n + (p - n) = p from by omega, Array.getElem?_toList]
    by_cases h2 : p < 2 * n
    · rw [rowA_at (2 * n) _ p h2, rowA_at (2 * n) _ p h2]
      unfold halfX
      rw [if_neg h1]
    · rw [Array.getElem?_eq_none (by rw [rowA_size]; omega), Array.getElem?_eq_none (by rw [rowA_size]; omega)]

/-- the table, of which k rows stand -/
structure TabK (H : Nat) (w : World) (tp B rb n : Nat) (g : Nat → Nat) (k : Nat) (X : Nat → Nat → UInt8) : Prop where
  tc : w.heap[tp]? = some (.cells #[.pointer (some ⟨B, 0, none⟩), .slice (some ⟨rb, 0, none⟩) n n] 113 (0, 0))
  fl : w.heap[B]? = some (.cells (Cf 255) 94 (0, 0))
  rc : w.heap[rb]? = some (.cells (hdrK n (2 * n) g k) 48 (0, 0))
  row : ∀ i, i < k → w.heap[g i]? = some (.cells (rowA (2 * n) (X i)) 5 (0, 0))
  inj : ∀ i j, i < k → j < k → g i = g j → i = j
  lo : H ≤ rb ∧ ∀ i, i < k → H ≤ g i

theorem TabK.whole {H tp B rb n : Nat} {w : World} {g : Nat → Nat} {X : Nat → Nat → UInt8} (h : TabK H w tp B rb n g n X) : Tab H w tp B rb n g X :=
  ⟨h.tc, h.fl, by rw [h.rc, hdrK_end], h.row, h.inj, h.lo⟩

theorem TabK.next {H tp B rb n k : Nat} {w W : World} {g : Nat → Nat} {X : Nat → Nat → UInt8} {half : Nat → UInt8} (h : TabK H w tp B rb n g k X) (hk : k < n) (hH : H ≤ w.heap.size) (hb : Below w.heap.size w W)
    (hr : W.heap[w.heap.size]? = some (.cells (rowA (2 * n) half) 5 (0, 0))) (hx : ∀ j, j < 2 * n → j ≠ n + k → X k j = half j) (hx1 : (1 : Int) = ((X k (n + k)).toNat : Int)) :
    TabK H ((W.setCell ⟨w.heap.size, n + k, none⟩ (.int .u8 1)).setCell ⟨rb, k, none⟩ (.slice (some ⟨w.heap.size, 0, none⟩) (2 * n) (2 * n))) tp B rb n (fun i => if i = k then w.heap.size else g i) (k + 1) X := by
  have lt1 := heap_lt h.tc
  have lt2 := heap_lt h.fl
  have lt3 := heap_lt h.rc
  have lt4 : ∀ i, i < k → g i < w.heap.size := fun i hi => heap_lt (h.row i hi)
  have hne : ∀ {b : Nat} {cs : Array Value} {T : TypeId}, w.heap[b]? = some (.cells cs T (0, 0)) → T ≠ 48 → b ≠ rb := by
    intro b cs T hb hT e
    rw [e, h.rc] at hb
    injection hb with hb
    injection hb with _ hb _
    exact hT hb.symm
  have old : ∀ {b : Nat}, b < w.heap.size → b ≠ rb → ((W.setCell ⟨w.heap.size, n + k, none⟩ (.int .u8 1)).setCell ⟨rb, k, none⟩ (.slice (some ⟨w.heap.size, 0, none⟩) (2 * n) (2 * n))).heap[b]? = w.heap[b]? := fun h1 h2 => by
    rw [heap_setCell_other _ _ _ _ h2, heap_setCell_other _ _ _ _ (by show _ ≠ w.heap.size; omega), hb.block _ h1]
  refine ⟨(old lt1 (hne h.tc (by decide))).trans h.tc, (old lt2 (hne h.fl (by decide))).trans h.fl, ?_, fun i hi => ?_, fun i j hi hj e => ?_, h.lo.1, fun i hi => ?_⟩
  · have e1 : (W.setCell ⟨w.heap.size, n + k, none⟩ (.int .u8 1)).heap[rb]? = some (.cells (hdrK n (2 * n) g k) 48 (0, 0)) := by
      rw [heap_setCell_other _ _ _ _ (by show rb ≠ w.heap.size; omega), hb.block _ lt3]; exact h.rc
    rw [heap_setCell_same _ _ _ _ _ _ e1]
    have e2 := hdrK_set n (2 * n) g (fun i => if i = k then w.heap.size else g i) k hk (fun i hi => if_neg (by omega))
    rw [show (if k = k then w.heap.size else g k) = w.heap.size from if_pos rfl] at e2
    rw [e2]
  · show _ = some (Obj.cells (rowA (2 * n) (X i)) 5 (0, 0))
    by_cases e : i = k
    · subst e
      rw [if_pos rfl, heap_setCell_other _ _ _ _ (by show w.heap.size ≠ rb; omega), heap_setCell_same _ _ _ _ _ _ hr, rowA_set (2 * n) half (X i) (n + i) (by omega) hx 1 hx1]
    · rw [if_neg e, old (lt4 i (by omega)) (hne (h.row i (by omega)) (by decide)), h.row i (by omega)]
  · by_cases e1 : i = k
    · by_cases e2 : j = k
      · omega
      · have e' : w.heap.size = g j := by simpa [e1, e2] using e
        have := lt4 j (by omega); omega
    · by_cases e2 : j = k
      · have e' : g i = w.heap.size := by simpa [e1, e2] using e
        have := lt4 i (by omega); omega
      · exact h.inj i j (by omega) (by omega) (by simpa [e1, e2] using e)
  · show H ≤ if i = k then w.heap.size else g i
    by_cases e : i = k
    · rw [if_pos e]; exact hH
    · rw [if_neg e]; exact h.lo.2 i (by omega)

theorem going_rows (n : Nat) (s : ByteArray) : GfU.Going n (cel s n) GfU.one (behind n (rowX n s)) (rowX n s) := by
  have h := GfU.going_start n (cel s n)
  have e1 : GfU.sq n GfU.one (behind n (rowX n s)) := fun i j _ _ => by
    unfold behind rowX; rw [if_neg (by omega), Nat.add_sub_cancel_left]
  have e2 : GfU.sq n (cel s n) (rowX n s) := fun i j _ hj => by unfold rowX; rw [if_pos hj]
  exact ⟨GfU.sq_trans (GfU.sq_mm (GfU.sq_refl n _) (GfU.sq_symm e1)) h.1, GfU.sq_trans (GfU.sq_mm (GfU.sq_symm e1) (GfU.sq_refl n _)) h.2.1, GfU.sq_trans h.2.2 (GfU.sq_mm (GfU.sq_refl n _) e2)⟩

set_option maxRecDepth 20000 in
set_option maxHeartbeats 4000000 in
theorem newTable_any (n : Nat) (s : ByteArray) (w : World) (h1 : 1 ≤ n) (h2 : n ≤ 255) (hs : s.size = n * n) :
    Calls Try.prog 72 #[.agg #[.int .i64 (n : Int), .int .i64 (n : Int), .string s]] w fun e w' =>
      ∃ tp B rb g X, e = .returned (.pointer (some ⟨tp, 0, none⟩)) ∧ Tab w.heap.size w' tp B rb n g X ∧ GfU.Going n (cel s n) GfU.one (behind n X) X ∧ Below w.heap.size w w' := by
  have i68 : (Try.prog.info? 48).map (fun i => (i.zero, i.size, i.bytes)) = some (some (.slice none 0 0), 1, 24) := by kernel_rfl
  obtain ⟨i1, hi1, ha0, ha1, ha2⟩ := info_parts i68
  have hmk : ∀ W : World, (Instr.makeSlice 111 (.int .i64 (n : Int)) (.int .i64 (n : Int))).run Try.prog W = .ok (.slice (some ⟨W.heap.size, 0, none⟩) n n) (W.alloc (.cells (hdrK n (2 * n) (fun _ => 0) 0) 48)) := fun W => by
    have h := run_make (P := Try.prog) W 111 48 i1 (.slice none 0 0) Try.underlying111 hi1 ha0 .i64 .i64 n n (by omega) (Int.le_refl _) (by rw [ha2]; omega) (by omega)
    rw [ha1, Int.toNat_natCast, hdrK_zero n (2 * n) (fun _ => 0)] at h
    exact h
  clear i68 hi1 ha0 ha1 ha2
  obtain ⟨i0, hi, hz0, hz1, hz2⟩ := info_parts Try.infoU8
  have HS := Lib.hid hs
  have HI := Lib.hid hi
  clear hs hi
  go_enter Try.func72, Try.ntmps72
  go_wp2_with fail
  have hk0 : ∀ W : World, W.cell? ⟨w.heap.size, 0, none⟩ = some (.int .i64 (n : Int)) → ∀ o, (W.alloc o).cell? ⟨w.heap.size, 0, none⟩ = some (.int .i64 (n : Int)) := fun W h o => (World.cell?_alloc_some W _ o (by rw [h]; rfl)).trans h
  go_region_held3 (fun w' => w'.cell? ⟨w.heap.size, 0, none⟩ = some (.int .i64 (n : Int)))
    (first | assumption | exact hk0 _ (by assumption) _ | simp)
    ((go_at_call 43; refine (new_any _).mono ?_; rintro e w1 ⟨rfl, rfl⟩))
  focus
    obtain ⟨s0, b0, bF, bR, bT⟩ := blk4 w (.cells #[.int .i64 (n : Int), .int .i64 (n : Int), .string s] 59) (.cells (Cf 255) 94) (.cells (hdrK n (2 * n) (fun _ => 0) 0) 48) (.cells #[.pointer (some ⟨w.heap.size + 1, 0, none⟩), .slice (some ⟨w.heap.size + 1 + 1, 0, none⟩) n n] 113)
    have HBW : Hid (Below w.heap.size w ((((w.alloc (.cells #[.int .i64 (n : Int), .int .i64 (n : Int), .string s] 59)).alloc (.cells (Cf 255) 94)).alloc (.cells (hdrK n (2 * n) (fun _ => 0) 0) 48)).alloc (.cells #[.pointer (some ⟨w.heap.size + 1, 0, none⟩), .slice (some ⟨w.heap.size + 1 + 1, 0, none⟩) n n] 113)).drew) := (((((Below.refl _ w).alloc (Nat.le_refl _) _).alloc (by simp) _).alloc (by simp; omega) _).alloc (by simp; omega) _).drew
    have hlo : w.heap.size ≤ w.heap.size + 1 + 1 := by omega
    generalize ((((w.alloc (.cells #[.int .i64 (n : Int), .int .i64 (n : Int), .string s] 59)).alloc (.cells (Cf 255) 94)).alloc (.cells (hdrK n (2 * n) (fun _ => 0) 0) 48)).alloc (.cells #[.pointer (some ⟨w.heap.size + 1, 0, none⟩), .slice (some ⟨w.heap.size + 1 + 1, 0, none⟩) n n] 113)) = w0 at s0 b0 bF bR bT HBW ⊢
    have hmb : w.heap.size < w.heap.size + 1 + 1 + 1 + 1 := by omega
    generalize w.heap.size + 1 + 1 + 1 = tp at *
    generalize w.heap.size + 1 + 1 = rb at *
    generalize w.heap.size + 1 = B at *
  rotate_left
  focus
    obtain ⟨s0, b0, bR, bF, bT⟩ := blk4 w (.cells #[.int .i64 (n : Int), .int .i64 (n : Int), .string s] 59) (.cells (hdrK n (2 * n) (fun _ => 0) 0) 48) (.cells (Cf 255) 94) (.cells #[.pointer (some ⟨w.heap.size + 1 + 1, 0, none⟩), .slice (some ⟨w.heap.size + 1, 0, none⟩) n n] 113)
    have HBW : Hid (Below w.heap.size w ((((w.alloc (.cells #[.int .i64 (n : Int), .int .i64 (n : Int), .string s] 59)).alloc (.cells (hdrK n (2 * n) (fun _ => 0) 0) 48)).alloc (.cells (Cf 255) 94)).alloc (.cells #[.pointer (some ⟨w.heap.size + 1 + 1, 0, none⟩), .slice (some ⟨w.heap.size + 1, 0, none⟩) n n] 113)).drew) := (((((Below.refl _ w).alloc (Nat.le_refl _) _).alloc (by simp) _).alloc (by simp; omega) _).alloc (by simp; omega) _).drew
    have hlo : w.heap.size ≤ w.heap.size + 1 := by omega
    generalize ((((w.alloc (.cells #[.int .i64 (n : Int), .int .i64 (n : Int), .string s] 59)).alloc (.cells (hdrK n (2 * n) (fun _ => 0) 0) 48)).alloc (.cells (Cf 255) 94)).alloc (.cells #[.pointer (some ⟨w.heap.size + 1 + 1, 0, none⟩), .slice (some ⟨w.heap.size + 1, 0, none⟩) n n] 113)) = w0 at s0 b0 bF bR bT HBW ⊢
    have hmb : w.heap.size < w.heap.size + 1 + 1 + 1 + 1 := by omega
    generalize w.heap.size + 1 + 1 + 1 = tp at *
    generalize w.heap.size + 1 + 1 = B at *
    generalize w.heap.size + 1 = rb at *
  all_goals
    have TK : Hid (∃ g, TabK w.heap.size w0.drew tp B rb n g 0 (rowX n s)) := ⟨fun _ => 0, bT, bF, bR, fun i hi => absurd hi (by omega), fun i j hi _ _ => absurd hi (by omega), hlo, fun i hi => absurd hi (by omega)⟩
    have MB : Hid (w0.drew.heap[w.heap.size]? = some (.cells #[.int .i64 (n : Int), .int .i64 (n : Int), .string s] 59 (0, 0))) := b0
    have c1 : w0.drew.cell? ⟨tp, 1, none⟩ = some (.slice (some ⟨rb, 0, none⟩) n n) := blk_cell (w := w0.drew) bT rfl
    rw [← s0] at hmb
    replace hmb : w.heap.size < w0.drew.heap.size := hmb
    clear hk0 hmk s0 b0 bF bR bT
    generalize w0.drew = W0 at TK MB c1 hmb HBW ⊢
    go_wp2_with fail
    clear c1
    go_loopw [17] (fun i wr => ∃ k : Nat, k ≤ n ∧ i = .int .i64 (k : Int) ∧ Hid (∃ g, TabK w.heap.size wr tp B rb n g k (rowX n s)) ∧ Hid (wr.heap[w.heap.size]? = some (.cells #[.int .i64 (n : Int), .int .i64 (n : Int), .string s] 59 (0, 0))) ∧ Hid (Below w.heap.size w wr)) (fun i _ => n - (intOf i).toNat)
    case atStart => exact ⟨0, by omega, rfl, TK.out, MB.out, HBW.out⟩
    case round =>
      obtain ⟨k, hk, rfl, hTK, hMB, hbel⟩ := hrel
      clear TK MB HBW
      obtain ⟨g, tk⟩ := hTK.out
      have TK := Lib.hid tk
      clear tk hTK
      by_cases hlt : k < n
      · have m0 := blk_cell (j := 0) hMB.out rfl
        have m1 := blk_cell (j := 1) hMB.out rfl
        have m2 := blk_cell (j := 2) hMB.out rfl
        have hz := hbel.out.size
        have hmr : w.heap.size < wr.heap.size := heap_lt hMB.out
        go_wp2_with (at_make; refine wpList_make_full _ rfl (.tmp 22) (.tmp 22) 48 rfl wr.heap.size 5 i0 (.int .u8 0) 1 Try.underlying48 HI.out hz0 hz1 .i64 .i64 _ _ (2 * n) rfl rfl (by omega) (by omega) (by rw [hz2]; omega) (by unfold maxLen; omega) (Nat.le_refl _) ?_; intro w1 hown hgrow; have hb1 : Below wr.heap.size wr w1 := (Below.refl _ _).grown hgrow (Nat.le_refl _) (fun k hk => by cases hk); have k0 := (hb1.cell (p := ⟨w.heap.size, 0, none⟩) hmr).trans m0; have k1 := (hb1.cell (p := ⟨w.heap.size, 1, none⟩) hmr).trans m1; have k2 := (hb1.cell (p := ⟨w.heap.size, 2, none⟩) hmr).trans m2)
        refine (cells_any n n k s _ h2 h2 hlt HS.out).mono ?_
        rintro e w2 ⟨rfl, hb2⟩
        have r1 := owns_blk hown
        rw [rowA_zero] at r1
        have r2 := (hb2.block wr.heap.size (heap_lt r1)).trans r1
        have hB2 : Below wr.heap.size wr w2 := hb1.trans (hb2.mono hb1.size)
        have hcp := run_copy_text (P := Try.prog) w2 48 9 3 5 wr.heap.size (2 * n) (2 * n) (rowS s n k) _ 5 Try.underlying48 (by rw [HI.out]; simp [hz1]) r2 (by rw [rowA_size]; exact Nat.le_refl _)
        rw [copied_half n k s hlt HS.out] at hcp
        have r3 : (w2.setRow wr.heap.size (rowA (2 * n) (halfX n s k))).heap[wr.heap.size]? = some (.cells (rowA (2 * n) (halfX n s k)) 5 (0, 0)) := setRow_heap _ _ _ _ _ _ r2
        have hB3 : Hid (Below wr.heap.size wr (w2.setRow wr.heap.size (rowA (2 * n) (halfX n s k)))) := below_setRow hB2 (Nat.le_refl _) _
        clear hb1 hb2 hown hgrow r1 r2 hB2 k0 k1 k2 m0 m1 m2
        generalize w2.setRow wr.heap.size (rowA (2 * n) (halfX n s k)) = w3 at hcp r3 hB3
        have lt1 := heap_lt TK.out.tc
        have lt3 := heap_lt TK.out.rc
        have n1 : tp ≠ wr.heap.size := by omega
        have n3 : rb ≠ wr.heap.size := by omega
        have m1 := (hB3.out.cell (p := ⟨w.heap.size, 1, none⟩) hmr).trans (blk_cell hMB.out rfl)
        have x1 := blk_cell r3 (rowA_at (2 * n) (halfX n s k) (n + k) (by omega))
        have xf := blk_free r3
        have t1 := (hB3.out.cell (p := ⟨tp, 1, none⟩) lt1).trans (blk_cell TK.out.tc rfl)
        have q1 := (hB3.out.cell (p := ⟨rb, k, none⟩) lt3).trans (blk_cell TK.out.rc (hdrK_at n (2 * n) g k k hlt))
        rw [if_neg (Nat.lt_irrefl k)] at q1
        have o1 : ∀ v, (w3.setCell ⟨wr.heap.size, n + k, none⟩ v).cell? ⟨tp, 1, none⟩ = some (.slice (some ⟨rb, 0, none⟩) n n) := fun v => (cell_other n1).trans t1
        have o2 : ∀ v, (w3.setCell ⟨wr.heap.size, n + k, none⟩ v).cell? ⟨rb, k, none⟩ = some (.slice none 0 0) := fun v => (cell_other n3).trans q1
        have o3 : ∀ v, (w3.setCell ⟨wr.heap.size, n + k, none⟩ v).frozen? ⟨rb, k, none⟩ = false := fun v => by
          refine frozen_of_row (t := 48) _ rb k (hdrK n (2 * n) g k) ?_
          rw [heap_setCell_other _ _ _ _ n3, hB3.out.block _ lt3]; exact TK.out.rc
        have s3 : ((n : Int) + (k : Int)).toNat = n + k := by omega
        have s4 : (n : Int) + (k : Int) < 2 * (n : Int) := by omega
        have R3 := Lib.hid r3
        clear r3 t1 q1
        go_wp2_with fail
        go_roundw
        case rel =>
          refine ⟨k + 1, by omega, by go_num, ⟨_, TK.out.next hlt hz hB3.out R3.out (fun j hj hjk => ?_) ?_⟩, ?_, ?_⟩
          · unfold rowX halfX
            by_cases e : j < n
            · rw [if_pos e, if_pos e]
            · rw [if_neg e, if_neg e]; unfold GfU.one; rw [if_neg (by omega)]
          · unfold rowX
            rw [if_neg (by omega), Nat.add_sub_cancel_left]; unfold GfU.one; rw [if_pos rfl]; rfl
          · show _ = _
            have hr1 : w.heap.size ≠ rb := fun z => by
              have h := hMB.out
              rw [z, TK.out.rc] at h
              injection h with h
              injection h with _ h _
              exact absurd h (by decide)
            rw [heap_setCell_other _ _ _ _ hr1, heap_setCell_other _ _ _ _ (by show w.heap.size ≠ wr.heap.size; omega), hB3.out.block _ hmr]
            exact hMB.out
          · exact ((hbel.out.trans (hB3.out.mono hz)).setCell hz _).setCell TK.out.lo.1 _
        case measure => simp [intOf]; omega
      · obtain rfl : k = n := by omega
        go_wp2_with fail
        go_ret
        exact ⟨tp, B, rb, g, rowX k s, rfl, TK.out.whole, going_rows k s, hbel.out⟩

set_option maxRecDepth 20000 in
set_option maxHeartbeats 2000000 in
theorem inv_yes : InvYes := by
  intro n s w h1 h2 hs
  have ka : ((chk (n : Int) (n : Int) s : Nat) : Int) = 0 := by rw [chk_yes h1 h2 h1 h2 hs]; rfl
  have HS := Lib.hid hs
  clear hs
  have hmf : ∀ (fn : Fn) (first cap : Array Value) (w : World), (Instr.makeFunc fn first cap).run Try.prog w = .ok (.func fn first cap) w := fun _ _ _ _ => rfl
  go_enter Try.func46, Try.ntmps46
  go_wp2_with fail
  obtain ⟨s0, bA, bZ⟩ := blk2 w (.cells #[.int .i64 (n : Int), .int .i64 (n : Int), .string s] 59) (.cells #[.int .i64 0, .int .i64 0, .string ⟨#[]⟩] 59)
  have BW : Hid (Below w.heap.size w ((w.alloc (.cells #[.int .i64 (n : Int), .int .i64 (n : Int), .string s] 59)).alloc (.cells #[.int .i64 0, .int .i64 0, .string ⟨#[]⟩] 59))) :=
    ((Below.refl _ w).alloc (Nat.le_refl _) _).alloc (by simp) _
  generalize (w.alloc (.cells #[.int .i64 (n : Int), .int .i64 (n : Int), .string s] 59)).alloc (.cells #[.int .i64 0, .int .i64 0, .string ⟨#[]⟩] 59) = w0 at s0 bA bZ BW ⊢
  refine (check_any _ _ _ _).mono ?_
  rintro e w1 ⟨rfl, hb1⟩
  have B1 : Hid (Below (w.heap.size + 2) w0 w1) := hb1.mono (by omega)
  have z1 := hb1.size
  clear hb1
  have cA0 := blk_cell (j := 0) ((B1.out.block w.heap.size (by omega)).trans bA) rfl
  have cA1 := blk_cell (j := 1) ((B1.out.block w.heap.size (by omega)).trans bA) rfl
  have cA2 := blk_cell (j := 2) ((B1.out.block w.heap.size (by omega)).trans bA) rfl
  go_wp2_with fail
  refine (newTable_any n s _ h1 h2 HS.out).mono ?_
  rintro e w2 ⟨tp, B, rb, g, X, rfl, hT, hG, hb2⟩
  have T2 := Lib.hid hT
  have G2 := Lib.hid hG
  have B2 : Hid (Below (w.heap.size + 2) w0 w2) := B1.out.trans (hb2.mono (by omega))
  have z2 := hb2.size
  clear hb2 hT hG cA0 cA1 cA2
  go_wp2_with fail
  refine (solve_any (cel s n) GfU.one T2.out h2 G2.out).mono ?_
  rintro e w3 ⟨hres, hb3⟩
  have B3 : Hid (Below (w.heap.size + 2) w0 w3) := B2.out.trans (hb3.mono (by omega))
  have z3 := hb3.size
  clear hb3
  have cA0 := blk_cell (j := 0) ((B3.out.block w.heap.size (by omega)).trans bA) rfl
  have cA1 := blk_cell (j := 1) ((B3.out.block w.heap.size (by omega)).trans bA) rfl
  have bZ3 := (B3.out.block (w.heap.size + 1) (by omega)).trans bZ
  rcases hres with ⟨g', X', rfl, hT3, y1, y2⟩ | ⟨rfl, hS⟩
  · have T3 := Lib.hid hT3
    have Y1 := Lib.hid y1
    have Y2 := Lib.hid y2
    clear hT3 y1 y2
    go_wp2_with fail
    have hg : Gives2 74 #[.pointer (some ⟨tp, 0, none⟩)] #[] w3 n n (behind n X') := fun i j W hi hj hb => beside_any i j (T3.out.below hb) hi hj h2
    refine Calls.mono (fill_any _ _ _ n n (behind n X') w3 h1 h2 h1 h2 Try.eg40 hg) ?_
    rintro e w4 ⟨rfl, hb4⟩
    have bZ4 := (hb4.block (w.heap.size + 1) (by omega)).trans bZ3
    have HB4 := Lib.hid hb4
    have d0 := blk_cell (j := 0) bZ4 rfl
    have d1 := blk_cell (j := 1) bZ4 rfl
    have d2 := blk_cell (j := 2) bZ4 rfl
    have df := blk_free bZ4
    have S3 : Hid (w.heap.size + 2 ≤ w3.heap.size) := by show _ ≤ _; omega
    clear hb4 hg bZ3 bZ4 bA bZ cA0 cA1 s0 z1 z2 z3
    go_wp2_with fail
    exact bodyPost_ret (v := .tuple #[.agg #[.int .i64 (n : Int), .int .i64 (n : Int), .string ⟨(tabL n n (behind n X')).toArray⟩], .int .i64 0]) (by simp [results, Try.results46, go_sem, d0, d1, d2]) rfl
      ⟨.inl ⟨_, rfl, Y1.out, Y2.out⟩, below_agg3 ((BW.out.trans (B3.out.mono (by omega))).trans (HB4.out.mono (by have := S3.out; omega))) (by omega) _ _ _⟩
  · have HS3 := Lib.hid hS
    have d0 := blk_cell (j := 0) bZ3 rfl
    have d1 := blk_cell (j := 1) bZ3 rfl
    have d2 := blk_cell (j := 2) bZ3 rfl
    have df := blk_free bZ3
    clear hS bZ3 bA bZ cA0 cA1 s0
    go_wp2_with fail
    exact bodyPost_ret (v := .tuple #[.agg #[.int .i64 0, .int .i64 0, .string ⟨#[]⟩], .int .i64 20]) (by simp [results, Try.results46, go_sem, d0, d1, d2]) rfl
      ⟨.inr ⟨rfl, HS3.out⟩, below_agg3 (BW.out.trans (B3.out.mono (by omega))) (by omega) _ _ _⟩

end Go.Proofs.Ytemcjnbgcecinaa

/- What the document's own inverse answers for what may not be, or is not square. -/
namespace Go.Proofs.Ytemcjnbgcecinaa
open Go.RowKit

theorem below_new2 {w w1 : World} {A B : Obj} (h : Below ((w.alloc A).alloc B).heap.size ((w.alloc A).alloc B) w1) : Below w.heap.size w w1 :=
  (((Below.refl _ w).alloc (Nat.le_refl _) _).alloc (by simp) _).trans (h.mono (by simp; omega))

set_option maxRecDepth 20000 in
set_option maxHeartbeats 2000000 in
theorem rinv_no (r c : Int) (s : ByteArray) (w : World) (h : ¬ may r c s ∨ r ≠ c) :
    Calls Try.prog 34 #[.agg #[.int .i64 r, .int .i64 c, .string s]] w fun e w' =>
      e = .returned (.tuple #[.agg #[.int .i64 0, .int .i64 0, .string ⟨#[]⟩], .int .i64 4]) ∧ Below w.heap.size w w' := by
  by_cases ma : may r c s
  · have ka : ((chk r c s : Nat) : Int) = 0 := by unfold chk; rw [if_pos ma]; rfl
    have hc : r ≠ c := h.resolve_left (fun x => x ma)
    have t1 : (r != c) = true := by simp [hc]
    have t2 : (r == c) = false := by simp [hc]
    clear h ma hc
    go_enter Try.func34, Try.ntmps34
    go_wp2_with fail
    refine (rcheck_any _ _ _ _).mono ?_
    rintro e w1 ⟨rfl, hb1⟩
    have B1 := Lib.hid hb1
    obtain ⟨hc1, hf1⟩ := bcell hb1
    have hz1 := hb1.size
    clear hb1
    simp at hz1
    have x0 : w.heap.size < w1.heap.size := by omega
    have x1 : w.heap.size + 1 < w1.heap.size := by omega
    go_wp2_with fail
    exact bodyPost_ret (v := .tuple #[.agg #[.int .i64 0, .int .i64 0, .string ⟨#[]⟩], .int .i64 4]) (by simp [results, Try.results34, go_sem, hc1]) rfl
      ⟨rfl, below_agg3 (below_new2 B1.out) (by omega) _ _ _⟩
  · have ka : ((chk r c s : Nat) : Int) = 4 := by rw [chk_no ma]; rfl
    clear h ma
    go_enter Try.func34, Try.ntmps34
    go_wp2_with fail
    refine (rcheck_any _ _ _ _).mono ?_
    rintro e w1 ⟨rfl, hb1⟩
    have B1 := Lib.hid hb1
    obtain ⟨hc1, hf1⟩ := bcell hb1
    clear hb1
    go_wp2_with fail
    exact bodyPost_ret (v := .tuple #[.agg #[.int .i64 0, .int .i64 0, .string ⟨#[]⟩], .int .i64 4]) (by simp [results, Try.results34, go_sem, hc1]) rfl
      ⟨rfl, below_agg3 (below_new2 B1.out) (by omega) _ _ _⟩

end Go.Proofs.Ytemcjnbgcecinaa

/- Inverses are those of the document: the law's walk, over what the package's Inverse and the document's answer. -/
namespace Go.Proofs.Ytemcjnbgcecinaa
open Go.RowKit

/-- an answer for the inverse of any matrix -/
def InvOut (r c : Int) (s : ByteArray) (v : Value) : Prop :=
  (∃ n : Nat, r = (n : Int) ∧ c = (n : Int) ∧ may r c s ∧ InvRes n s (.returned v)) ∨
  (¬ (may r c s ∧ r = c) ∧ v = .tuple #[.agg #[.int .i64 0, .int .i64 0, .string ⟨#[]⟩], .int .i64 4])

theorem invOut_form {r c : Int} {s : ByteArray} {v : Value} (h : InvOut r c s v) : ∃ x y z e, v = .tuple #[.agg #[.int .i64 x, .int .i64 y, .string z], .int .i64 e] := by
  rcases h with ⟨n, _, _, _, ⟨R, h, _⟩ | ⟨h, _⟩⟩ | ⟨_, h⟩
  · injection h with h; exact ⟨_, _, _, _, h⟩
  · injection h with h; exact ⟨_, _, _, _, h⟩
  · exact ⟨_, _, _, _, h⟩

theorem invOut_one {r c : Int} {s : ByteArray} {v v' : Value} (h : InvOut r c s v) (h' : InvOut r c s v') : v' = v := by
  rcases h with ⟨n, hr, hc, hm, h⟩ | ⟨hn, rfl⟩
  · rcases h' with ⟨n', hr', hc', _, h'⟩ | ⟨hn', _⟩
    · obtain rfl : n' = n := by omega
      rcases h with ⟨R, e, h1, h2⟩ | ⟨e, hs⟩
      · rcases h' with ⟨R', e', h1', h2'⟩ | ⟨_, hs'⟩
        · injection e with e; injection e' with e'
          have hR : tabL n' n' R' = tabL n' n' R := tab_congr n' n' fun i j hi hj => by
            have a1 := GfU.sq_symm (GfU.sq_one_mm n' R')
            have a2 := GfU.sq_mm (GfU.sq_symm h1) (GfU.sq_refl n' R')
            have a3 := GfU.sq_assoc n' R (cel s n') R'
            have a4 := GfU.sq_mm (GfU.sq_refl n' R) h2'
            have a5 := GfU.sq_mm_one n' R
            exact (GfU.sq_trans (GfU.sq_trans (GfU.sq_trans (GfU.sq_trans a1 a2) a3) a4) a5) i j hi hj
          rw [e, e', hR]
        · exact (GfU.sing_no_inv hs' h1).elim
      · rcases h' with ⟨R', e', h1', h2'⟩ | ⟨e', _⟩
        · exact (GfU.sing_no_inv hs h1').elim
        · injection e with e; injection e' with e'; rw [e, e']
    · exact absurd ⟨hm, by omega⟩ hn'
  · rcases h' with ⟨n', hr', hc', hm', h'⟩ | ⟨_, rfl⟩
    · exact absurd ⟨hm', by omega⟩ hn
    · rfl

def InvAll : Prop := ∀ (r c : Int) (s : ByteArray) (w : World), Calls Try.prog 46 #[.agg #[.int .i64 r, .int .i64 c, .string s]] w fun e w' => ∃ v, e = .returned v ∧ InvOut r c s v ∧ Below w.heap.size w w'

def RInvAll : Prop := ∀ (r c : Int) (s : ByteArray) (w : World), Calls Try.prog 34 #[.agg #[.int .i64 r, .int .i64 c, .string s]] w fun e w' => ∃ v, e = .returned v ∧ InvOut r c s v ∧ Below w.heap.size w w'

end Go.Proofs.Ytemcjnbgcecinaa

/- What the landed package's Inverse answers of any matrix. -/
namespace Go.Proofs.Ytemcjnbgcecinaa
open Go.RowKit

set_option maxRecDepth 20000 in
set_option maxHeartbeats 2000000 in
theorem inv_no (r c : Int) (s : ByteArray) (w : World) (h : ¬ may r c s ∨ r ≠ c) :
    Calls Try.prog 46 #[.agg #[.int .i64 r, .int .i64 c, .string s]] w fun e w' =>
      e = .returned (.tuple #[.agg #[.int .i64 0, .int .i64 0, .string ⟨#[]⟩], .int .i64 4]) ∧ Below w.heap.size w w' := by
  by_cases ma : may r c s
  · have ka : ((chk r c s : Nat) : Int) = 0 := by unfold chk; rw [if_pos ma]; rfl
    have hc : r ≠ c := h.resolve_left (fun x => x ma)
    have t1 : (r != c) = true := by simp [hc]
    have t2 : (r == c) = false := by simp [hc]
    clear h ma hc
    go_enter Try.func46, Try.ntmps46
    go_wp2_with fail
    refine (check_any _ _ _ _).mono ?_
    rintro e w1 ⟨rfl, hb1⟩
    have B1 := Lib.hid hb1
    obtain ⟨hc1, hf1⟩ := bcell hb1
    have hz1 := hb1.size
    clear hb1
    simp at hz1
    have x0 : w.heap.size < w1.heap.size := by omega
    have x1 : w.heap.size + 1 < w1.heap.size := by omega
    go_wp2_with fail
    exact bodyPost_ret (v := .tuple #[.agg #[.int .i64 0, .int .i64 0, .string ⟨#[]⟩], .int .i64 4]) (by simp [results, Try.results46, go_sem, hc1]) rfl
      ⟨rfl, below_agg3 (below_new2 B1.out) (by omega) _ _ _⟩
  · have ka : ((chk r c s : Nat) : Int) = 4 := by rw [chk_no ma]; rfl
    clear h ma
    go_enter Try.func46, Try.ntmps46
    go_wp2_with fail
    refine (check_any _ _ _ _).mono ?_
    rintro e w1 ⟨rfl, hb1⟩
    have B1 := Lib.hid hb1
    obtain ⟨hc1, hf1⟩ := bcell hb1
    clear hb1
    go_wp2_with fail
    exact bodyPost_ret (v := .tuple #[.agg #[.int .i64 0, .int .i64 0, .string ⟨#[]⟩], .int .i64 4]) (by simp [results, Try.results46, go_sem, hc1]) rfl
      ⟨rfl, below_agg3 (below_new2 B1.out) (by omega) _ _ _⟩

theorem invAll : InvAll := by
  intro r c s w
  by_cases h : may r c s ∧ r = c
  · obtain ⟨hm, rfl⟩ := h
    obtain ⟨m, n, hr, hc, h1, h2, _, _, hs⟩ := may_nat hm
    have e : m = n := by omega
    subst e
    subst hr
    refine (inv_yes m s w h1 h2 hs).mono ?_
    rintro e w' ⟨hres, hb⟩
    have hv : ∃ v, e = .returned v := by
      rcases hres with ⟨R, h, _⟩ | ⟨h, _⟩
      · exact ⟨_, h⟩
      · exact ⟨_, h⟩
    obtain ⟨v, rfl⟩ := hv
    exact ⟨v, rfl, .inl ⟨m, rfl, rfl, hm, hres⟩, hb⟩
  · refine (inv_no r c s w ?_).mono ?_
    · by_cases hm : may r c s
      · exact .inr fun he => h ⟨hm, he⟩
      · exact .inl hm
    · rintro e w' ⟨rfl, hb⟩
      exact ⟨_, rfl, .inr ⟨h, rfl⟩, hb⟩

end Go.Proofs.Ytemcjnbgcecinaa
