/- Parts of the proof, joined: StLand2, StCut, StJoin; their conditions stand with each. -/
import Derived.Lib.BufferWrite
import Derived.OneCell
import Derived.Lib.AppendStr
import Derived.Test.YtemcjnbgcecinaaA4

/- What the landed package stripe does: an object's plain bytes, and its data shards; no condition but the range. -/
namespace Go.Proofs.Ytemcjnbgcecinaa
open Go.RowKit

/-- the row's cells once the head stands, and the object behind it -/
theorem head_cells (k : Nat) (s : ByteArray) (hk : 1 ≤ k) :
    (preC (St.plainL k s) 4).take 4 ++ Lib.byteCells s.data.toList ++ (preC (St.plainL k s) 4).drop (4 + s.size) = preC (St.plainL k s) (St.plainL k s).length := by
  have hl := St.plain_len hk s
  have hg := St.sz_ge (n := s.size) hk
  have h4 : (St.plainL k s).take 4 = St.headL s.size := by
    unfold St.plainL
    rw [List.append_assoc, List.take_append_of_le_length (by rw [St.head_len]; omega), List.take_of_length_le (by rw [St.head_len]; omega)]
  have e1 : preC (St.plainL k s) 4 = Lib.byteCells (St.headL s.size) ++ List.replicate (k * St.szN k s.size - 4) (.int .u8 0) := by
    unfold preC
    rw [h4, hl]; rfl
  have e2 : preC (St.plainL k s) (St.plainL k s).length = Lib.byteCells (St.plainL k s) := by
    unfold preC
    rw [List.take_length, Nat.sub_self, List.replicate_zero, List.append_nil]; rfl
  have e3 : (Lib.byteCells (St.headL s.size)).length = 4 := by rw [Lib.byteCells_length, St.head_len]
  rw [e1, e2, List.take_append_of_le_length (by omega), List.take_of_length_le (by omega), List.drop_append, e3, List.drop_of_length_le (by omega), List.nil_append, List.drop_replicate]
  unfold St.plainL Lib.byteCells
  rw [List.map_append, List.map_append, List.map_replicate]
  congr 2
  omega

theorem owns_blk0 {w : World} {H g n : Nat} {e : TypeId} {xs : List Value} (h : w.ownsRow H e 1 (.slice (some ⟨g, 0, none⟩) n n) n xs) : w.heap[g]? = some (.cells xs.toArray e (0, 0)) := by
  rcases h.2 with ⟨h', _⟩ | ⟨g', cap', cur, h', _, hg, _, _, hcs, htake⟩
  · simp at h'
  · simp only [Value.slice.injEq, Option.some.injEq, Addr.mk.injEq, and_true, true_and] at h'
    obtain ⟨rfl, rfl⟩ := h'
    rw [Nat.mul_one] at hcs htake
    rw [List.take_of_length_le (by rw [Array.length_toList]; omega)] at htake
    rw [hg, ← htake]

theorem beN_at (k : Nat) (s : ByteArray) (i : Nat) (h : i < 4) (h2 : i < (St.plainL k s).length) : (((St.plainL k s)[i]'h2).toNat : Int) = ((St.beN s.size i : Nat) : Int) := by
  have e : (St.plainL k s)[i]? = some (UInt8.ofNat (St.beN s.size i)) := by
    unfold St.plainL
    rw [List.append_assoc, List.getElem?_append_left (by rw [St.head_len]; exact h)]
    unfold St.headL
    rw [List.getElem?_map, List.getElem?_range h]; rfl
  rw [List.getElem?_eq_getElem h2] at e
  rw [Option.some.inj e, GfU.toNat_ofNat (by unfold St.beN; omega)]

set_option maxRecDepth 20000 in
set_option maxHeartbeats 2000000 in
theorem plain_any (k : Nat) (s : ByteArray) (w : World) (hk : 1 ≤ k) (hk2 : k ≤ 255) (hs : s.size ≤ 2048) :
    Calls Try.prog 83 #[.int .i64 (k : Int), .string s] w fun e w' =>
      e = .returned (.slice (some ⟨w.heap.size, 0, none⟩) (k * St.szN k s.size) (k * St.szN k s.size)) ∧ w'.heap[w.heap.size]? = some (.cells (Lib.byteCells (St.plainL k s)).toArray 5 (0, 0)) ∧ Below w.heap.size w w' := by
  obtain ⟨i0, hi, hz0, hz1, hz2⟩ := info_parts Try.infoU8
  have hb := St.sz_bound (n := s.size) hk2 hs
  have hg := St.sz_ge (n := s.size) hk
  have hl := St.plain_len hk s
  have HC := Lib.hid (head_cells k s hk)
  obtain ⟨L, hL⟩ : ∃ L, L = St.plainL k s := ⟨_, rfl⟩
  rw [← hL] at hl HC ⊢
  obtain ⟨N, hN⟩ : ∃ N, N = k * St.szN k s.size := ⟨_, rfl⟩
  rw [← hN] at hb hg hl ⊢
  have p3 : (k : Int) * ((St.szN k s.size : Nat) : Int) = (N : Int) := by rw [hN, Int.natCast_mul]
  have p1 : (0 : Int) ≤ (k : Int) * ((St.szN k s.size : Nat) : Int) := by rw [p3]; omega
  have p2 : (k : Int) * ((St.szN k s.size : Nat) : Int) ≤ 2306 := by rw [p3]; omega
  have P3 := Lib.hid p3
  have HL := Lib.hid hL
  have HN := Lib.hid hl
  clear p3 hL hN hl
  go_enter Try.func83, Try.ntmps83
  go_wp2_with fail
  refine (size_any k s.size _ hk (by omega) (by omega)).mono ?_
  rintro e w1 ⟨rfl, rfl⟩
  go_wp2_with (at_make; refine wpList_make_full _ rfl (.tmp 12) (.tmp 12) 48 rfl w1.heap.size 5 i0 (.int .u8 0) 1 Try.underlying48 hi hz0 hz1 .i64 .i64 _ _ N rfl rfl P3.out P3.out (by rw [hz2]; omega) (by unfold maxLen; omega) (by simp) ?_; intro w2 hown hgrow)
  have hown0 : w2.ownsRow w1.heap.size 5 1 (.slice (some ⟨w1.heap.size, 0, none⟩) N N) N (preC L 0) := by
    rw [preC_zero L N HN.out] at hown; exact hown
  have hbel0 : Below w1.heap.size w1 w2 := (Below.refl _ _).grown hgrow (Nat.le_refl _) (fun k hk => by cases hk)
  clear hown hgrow p1 p2
  go_loopw [14] (fun i wr => ∃ j : Nat, j ≤ 4 ∧ i = .int .i64 (j : Int) ∧ Hid (wr.ownsRow w1.heap.size 5 1 (.slice (some ⟨w1.heap.size, 0, none⟩) N N) N (preC L j)) ∧ Hid (Below w1.heap.size w1 wr)) (fun i _ => 4 - (intOf i).toNat)
  case atStart => exact ⟨0, by omega, rfl, hown0, hbel0⟩
  case round =>
    obtain ⟨j, hj, rfl, hown, hbel⟩ := hrel
    clear hown0 hbel0
    by_cases hlt : j < 4
    · have hjL : j < L.length := by rw [HN.out]; omega
      obtain ⟨v, hv⟩ := preC_at L j hjL
      have hcell := (hown.out.cellAt j (by omega)).trans hv
      have hfro := hown.out.frozenAt j
      have E := beN_at k s j hlt (by rw [← HL.out]; exact hjL)
      have E2 : Hid ((((L[j]'hjL).toNat : Nat) : Int) = ((St.beN s.size j : Nat) : Int)) := by show _ = _; rw [← E]; congr 2; simp only [HL.out]
      have R := hown.out.stored j (.int .u8 ((St.beN s.size j : Nat) : Int))
      rw [preC_set L j hjL _ E2.out.symm] at R
      have HR := Lib.hid R.1
      have pj : (j : Int) < (N : Int) := by omega
      clear hv E R
      have hsz : (s.size : Int) ≤ 2048 := by omega
      have V0 := Lib.hid (show ((St.beN s.size 0 : Nat) : Int) = (s.size : Int) / 16777216 by unfold St.beN; simp only [Nat.reduceSub, Nat.reducePow]; omega)
      have V1 := Lib.hid (show ((St.beN s.size 1 : Nat) : Int) = (s.size : Int) / 65536 by unfold St.beN; simp only [Nat.reduceSub, Nat.reducePow]; omega)
      have V2 := Lib.hid (show ((St.beN s.size 2 : Nat) : Int) = (s.size : Int) / 256 by unfold St.beN; simp only [Nat.reduceSub, Nat.reducePow]; omega)
      have V3 := Lib.hid (show ((St.beN s.size 3 : Nat) : Int) = (s.size : Int) % 256 by unfold St.beN; simp only [Nat.reduceSub, Nat.pow_zero]; omega)
      obtain rfl | rfl | rfl | rfl : j = 0 ∨ j = 1 ∨ j = 2 ∨ j = 3 := by omega
      · try simp only [Int.natCast_zero, Int.natCast_one, Int.natCast_ofNat] at *
        go_wp2_with fail
        go_roundw
        case rel => exact ⟨1, by omega, rfl, by have h := HR.out; rw [V0.out] at h; exact h, hbel.out.setCell (Nat.le_refl _) _⟩
        case measure => simp [intOf]
      · try simp only [Int.natCast_zero, Int.natCast_one, Int.natCast_ofNat] at *
        go_wp2_with fail
        go_roundw
        case rel => exact ⟨2, by omega, rfl, by have h := HR.out; rw [V1.out] at h; exact h, hbel.out.setCell (Nat.le_refl _) _⟩
        case measure => simp [intOf]
      · try simp only [Int.natCast_zero, Int.natCast_one, Int.natCast_ofNat] at *
        go_wp2_with fail
        go_roundw
        case rel => exact ⟨3, by omega, rfl, by have h := HR.out; rw [V2.out] at h; exact h, hbel.out.setCell (Nat.le_refl _) _⟩
        case measure => simp [intOf]
      · try simp only [Int.natCast_zero, Int.natCast_one, Int.natCast_ofNat] at *
        go_wp2_with fail
        go_roundw
        case rel => exact ⟨4, by omega, rfl, by have h := HR.out; rw [V3.out] at h; exact h, hbel.out.setCell (Nat.le_refl _) _⟩
        case measure => simp [intOf]
    · obtain rfl : j = 4 := by omega
      have hg4 := owns_blk0 hown.out
      have hpl := preC_length L 4 (by rw [HN.out]; omega)
      have hend : Hid (preC L L.length = Lib.byteCells L) := by
        show _ = _
        unfold preC
        rw [List.take_length, Nat.sub_self, List.replicate_zero, List.append_nil]; rfl
      by_cases hn4 : N = 4
      · have hs0 : s.size = 0 := by omega
        have hcp := Lib.run_copy_empty_string (P := Try.prog) wr 48 9 3 5 (some ⟨w1.heap.size, 0, none⟩) 0 0 s Try.underlying48 (by rw [hi]; simp) hs0
        have hG : wr.heap[w1.heap.size]? = some (.cells (Lib.byteCells L).toArray 5 (0, 0)) := by
          rw [← hend.out, show L.length = 4 by rw [HN.out, hn4]]
          exact hg4
        have HG := Lib.hid hG
        have HS0 := Lib.hid hs0
        subst hn4
        clear hg4 hown hG hs0 hpl hg
        go_wp2_with fail
        go_ret
        exact ⟨rfl, HG.out, hbel.out⟩
      · have hcp := Lib.run_copy_row_string (P := Try.prog) wr 48 9 3 5 w1.heap.size 4 (N - 4) (N - 4) s (preC L 4).toArray 5 Try.underlying48 (by rw [hi]; simp [hz1]) hg4 (by omega) (by simp; rw [hpl, HN.out]; omega)
        rw [List.toList_toArray, HC.out, hend.out] at hcp
        have HG := Lib.hid (setRow_heap wr w1.heap.size (preC L 4).toArray (Lib.byteCells L).toArray 5 (0, 0) hg4)
        have HB : Hid (Below w1.heap.size w1 (wr.setRow w1.heap.size (Lib.byteCells L).toArray)) := hbel.out.trans ⟨rfl, rfl, rfl, by simp [World.setRow], fun k hk => setRow_other _ _ _ _ (by omega)⟩
        clear hg4 hown hbel hpl hend
        go_wp2_with fail
        go_ret
        exact ⟨rfl, HG.out, HB.out⟩

end Go.Proofs.Ytemcjnbgcecinaa

/- What the landed package stripe does: an object's data shards; no condition but the range. -/
namespace Go.Proofs.Ytemcjnbgcecinaa
open Go.RowKit

/-- a row of values of which the first j stand, behind them zeros -/
def preV (xs : List Value) (z : Value) (j : Nat) : List Value := xs.take j ++ List.replicate (xs.length - j) z

theorem preV_length (xs : List Value) (z : Value) (j : Nat) (h : j ≤ xs.length) : (preV xs z j).length = xs.length := by simp [preV]; omega

theorem preV_set (xs : List Value) (z v : Value) (j : Nat) (h : j < xs.length) (hv : xs[j]? = some v) : (preV xs z j).set j v = preV xs z (j + 1) := by
  have e : xs[j]'h = v := by rw [List.getElem?_eq_getElem h] at hv; exact Option.some.inj hv
  unfold preV
  rw [show xs.length - j = (xs.length - (j + 1)) + 1 from by omega, List.replicate_succ, List.take_succ_eq_append_getElem h, e]
  rw [List.set_append_right _ _ (by simp; omega)]
  simp only [List.length_take, Nat.min_eq_left (Nat.le_of_lt h), Nat.sub_self, List.set_cons_zero, List.append_assoc, List.cons_append, List.nil_append]

theorem preV_at (xs : List Value) (z : Value) (j i : Nat) (h : j ≤ xs.length) (hi : i < xs.length) : ∃ v, (preV xs z j)[i]? = some v :=
  ⟨_, List.getElem?_eq_getElem (by rw [preV_length _ _ _ h]; exact hi)⟩

theorem preV_end (xs : List Value) (z : Value) : preV xs z xs.length = xs := by
  unfold preV
  rw [List.take_length, Nat.sub_self, List.replicate_zero, List.append_nil]

theorem preV_zero (xs : List Value) (z : Value) (n : Nat) (h : xs.length = n) (hz : z.cells = #[z]) : (madeCells z.cells (n * 1)).toList = preV xs z 0 := by
  rw [Nat.mul_one, hz, toList_madeCells_one]
  simp [preV, h]

/-- 'b[lo:hi]' of a row that is known whole -/
theorem slice_mid (T : TypeId) (hT : Try.prog.underlying T = some (.slice (Try.prog.elem T))) (h1 : ∀ W, (sizeOf (Try.prog.elem T)).run Try.prog W = .ok 1 W) (g n cap lo hi : Nat) (h2 : lo ≤ hi) (h3 : hi ≤ cap) (h4 : lo < cap) (l h : Int) (hl : l = (lo : Int)) (hh : h = (hi : Int)) (W : World) :
    (Instr.slice T (.slice (some ⟨g, 0, none⟩) n cap) (some (.int .i64 l)) (some (.int .i64 h)) none).run Try.prog W = .ok (.slice (some ⟨g, lo, none⟩) (hi - lo) (cap - lo)) W := by
  subst hl hh
  rw [run_slice_lh W T _ n cap hT .i64 .i64 _ _ (by omega) (by omega) (by omega), h1]
  simp only [Result.andThen, sliced, Int.toNat_natCast, if_neg (show ¬ cap = lo by omega), Option.map_some, Nat.mul_one]
  rw [addr_head]

theorem bytes_size (W : World) : (sizeOf (Try.prog.elem 48)).run Try.prog W = .ok 1 W := by kernel_rfl

/-- 'string(b[lo:hi])' of a row of bytes that is known whole -/
theorem bytes_string {w : World} {g : Nat} {L : List UInt8} (hg : w.heap[g]? = some (.cells (Lib.byteCells L).toArray 5 (0, 0))) (lo n cap : Nat) (h : lo + n ≤ L.length) :
    (convert 48 9 (.slice (some ⟨g, lo, none⟩) n cap)).run Try.prog w = .ok (.string ⟨((L.drop lo).take n).toArray⟩) w := by
  have hlen : ((L.drop lo).take n).length = n := by rw [List.length_take, List.length_drop]; omega
  have := run_convert_bytes_back (P := Try.prog) w 48 9 5 ⟨g, lo, none⟩ cap ((L.drop lo).take n) Try.underlying48 Try.underlying5 Try.underlying9 (fun j hj => by
    have hj' : j < n := by rw [hlen] at hj; exact hj
    have hadd : (⟨g, lo, none⟩ : Addr).add j = ⟨g, lo + j, none⟩ := by unfold Addr.add; split <;> simp_all
    rw [hadd]
    refine blk_cell hg ?_
    rw [List.getElem?_toArray]
    unfold Lib.byteCells
    rw [List.getElem?_map, List.getElem?_eq_getElem (by omega), Option.map_some, List.getElem_take, List.getElem_drop])
  rwa [hlen] at this

theorem byteCells_len (L : List UInt8) : (Lib.byteCells L).length = L.length := Lib.byteCells_length L

/-- a made row of texts, whole -/
def StrBlk (w : World) (g : Nat) (l : List ByteArray) : Prop := w.heap[g]? = some (.cells (strV l).toArray 9 (0, 0))

set_option maxRecDepth 20000 in
set_option maxHeartbeats 2000000 in
theorem cut_any (k : Nat) (s : ByteArray) (w : World) (hk : 1 ≤ k) (hk2 : k ≤ 255) (hs : s.size ≤ 2048) :
    Calls Try.prog 60 #[.int .i64 (k : Int), .string s] w fun e w' =>
      ∃ g, e = .returned (.slice (some ⟨g, 0, none⟩) k k) ∧ w.heap.size ≤ g ∧ StrBlk w' g (St.shards k s) ∧ Below w.heap.size w w' := by
  obtain ⟨i0, hi, hz0, hz1, hz2⟩ := info_parts Try.infoStr
  have HP := Lib.hid (fun w => plain_any k s w hk hk2 hs)
  have hb := St.sz_bound (n := s.size) hk2 hs
  have hl := St.plain_len hk s
  have hpos := St.sz_pos (n := s.size) hk
  have hsl := St.shards_len k s
  obtain ⟨n, hn⟩ : ∃ n, n = St.szN k s.size := ⟨_, rfl⟩
  obtain ⟨L, hL⟩ : ∃ L, L = St.plainL k s := ⟨_, rfl⟩
  obtain ⟨S, hS⟩ : ∃ S, S = St.shards k s := ⟨_, rfl⟩
  have hSat : ∀ i, i < k → (strV S)[i]? = some (.string (St.piece L n i)) := fun i hi => by
    rw [hS]
    unfold strV St.shards
    rw [List.getElem?_map, St.pieces_at _ _ _ _ hi, ← hn, ← hL]; rfl
  rw [← hn] at hb hl hpos HP
  rw [← hL] at hl HP
  rw [← hS] at hsl ⊢
  obtain ⟨N, hN⟩ : ∃ N, N = k * n := ⟨_, rfl⟩
  have hnN : n ≤ N := by rw [hN]; exact Nat.le_mul_of_pos_left n hk
  rw [← hN] at hb hl HP
  have HN := Lib.hid hN
  have HL := Lib.hid hl
  have HS := Lib.hid hSat
  have HLen := Lib.hid hsl
  have D1 : (N : Int) / (k : Int) = (n : Int) := by rw [hN, Int.natCast_mul]; exact Int.mul_ediv_cancel_left _ (by omega)
  have hk0 : ((k : Int) == 0) = false := by simp; omega
  have hk1 : (1 : Int) ≤ (k : Int) := by omega
  clear hn hL hS hSat hN hl hsl hs
  go_enter Try.func60, Try.ntmps60
  go_wp2_with fail
  refine (HP.out _).mono ?_
  rintro e w1 ⟨rfl, hg1, hb1⟩
  have G1 := Lib.hid hg1
  have B1 := Lib.hid hb1
  have hlt1 : w.heap.size < w1.heap.size := (Array.getElem?_eq_some_iff.1 hg1).1
  clear hg1 hb1
  go_wp2_with (at_make; refine wpList_make_full _ rfl (.tmp 16) (.tmp 16) 32 rfl w1.heap.size 9 i0 (.string ⟨#[]⟩) 1 Try.underlying32 hi hz0 hz1 .i64 .i64 _ _ k rfl rfl rfl rfl (by rw [hz2]; omega) (by unfold maxLen; omega) (by simp) ?_; intro w2 hown hgrow)
  have hown0 : w2.ownsRow w1.heap.size 9 1 (.slice (some ⟨w1.heap.size, 0, none⟩) k k) k (preV (strV S) (.string ⟨#[]⟩) 0) := by
    rw [preV_zero (strV S) (.string ⟨#[]⟩) k (by rw [strV_len, HLen.out]) rfl] at hown; exact hown
  have hbel0 : Below w1.heap.size w1 w2 := (Below.refl _ _).grown hgrow (Nat.le_refl _) (fun k hk => by cases hk)
  clear hown hgrow
  go_loopw [20] (fun i wr => ∃ j : Nat, j ≤ k ∧ i = .int .i64 (j : Int) ∧ Hid (wr.ownsRow w1.heap.size 9 1 (.slice (some ⟨w1.heap.size, 0, none⟩) k k) k (preV (strV S) (.string ⟨#[]⟩) j)) ∧ Hid (Below w1.heap.size w1 wr)) (fun i _ => k - (intOf i).toNat)
  case atStart => exact ⟨0, by omega, rfl, hown0, hbel0⟩
  case round =>
    obtain ⟨j, hj, rfl, hown, hbel⟩ := hrel
    clear hown0 hbel0
    by_cases hlt : j < k
    · have hV : (strV S).length = k := by rw [strV_len, HLen.out]
      obtain ⟨v, hv⟩ := preV_at (strV S) (.string ⟨#[]⟩) j j (by omega) (by omega)
      have hcell := (hown.out.cellAt j (by omega)).trans hv
      have hfro := hown.out.frozenAt j
      have R := hown.out.stored j (.string (St.piece L n j))
      rw [preV_set (strV S) (.string ⟨#[]⟩) _ j (by omega) (HS.out j hlt)] at R
      have HR := Lib.hid R.1
      have pj : (j : Int) < (k : Int) := by omega
      have m1 : j * n ≤ N := by rw [HN.out]; exact Nat.mul_le_mul_right _ (by omega)
      have m2 : (j + 1) * n ≤ N := by rw [HN.out]; exact Nat.mul_le_mul_right _ (by omega)
      have m3 : (j + 1) * n = j * n + n := Nat.succ_mul _ _
      have c1 : (j : Int) * (n : Int) = ((j * n : Nat) : Int) := by rw [Int.natCast_mul]
      have c2 : ((j : Int) + 1) * (n : Int) = (((j + 1) * n : Nat) : Int) := by rw [Int.natCast_mul]; rfl
      have q1 : (0 : Int) ≤ (j : Int) * (n : Int) := by rw [c1]; omega
      have q2 : (j : Int) * (n : Int) ≤ 2306 := by rw [c1]; omega
      have q3 : (0 : Int) ≤ ((j : Int) + 1) * (n : Int) := by rw [c2]; omega
      have q4 : ((j : Int) + 1) * (n : Int) ≤ 2306 := by rw [c2]; omega
      have hsl := slice_mid 48 (by kernel_rfl) bytes_size w.heap.size N N (j * n) ((j + 1) * n) (by omega) m2 (by omega) _ _ c1 c2
      have hst := bytes_string ((hbel.out.block w.heap.size hlt1).trans G1.out) (j * n) ((j + 1) * n - j * n) (N - j * n) (by rw [HL.out]; omega)
      rw [show (⟨((L.drop (j * n)).take ((j + 1) * n - j * n)).toArray⟩ : ByteArray) = St.piece L n j by unfold St.piece; rw [show (j + 1) * n - j * n = n by omega]] at hst
      clear hv R c1 c2 hV m1 m2 m3
      go_wp2_with fail
      go_roundw
      case rel => exact ⟨j + 1, by omega, by go_num, HR.out, hbel.out.setCell (Nat.le_refl _) _⟩
      case measure => simp [intOf]; omega
    · obtain rfl : j = k := by omega
      have HG : Hid (StrBlk wr w1.heap.size S) := by
        have h := owns_blk0 hown.out
        have e : preV (strV S) (.string ⟨#[]⟩) j = strV S := by
          have h2 := preV_end (strV S) (.string ⟨#[]⟩)
          rw [strV_len, HLen.out] at h2
          exact h2
        rw [e] at h
        exact h
      have HB : Hid (Below w.heap.size w wr) := B1.out.trans (hbel.out.mono B1.out.size)
      have hge : w.heap.size ≤ w1.heap.size := B1.out.size
      clear hown hbel
      go_wp2_with fail
      go_ret
      exact ⟨_, rfl, hge, HG.out, HB.out⟩

/-- what Split answers -/
def SplitAns (H : Nat) (k : Int) (s : ByteArray) (e : Ending) (w' : World) : Prop :=
  if codeB k 0 = true then
    if s.size ≤ 2048 then ∃ g, e = .returned (.tuple #[.slice (some ⟨g, 0, none⟩) k.toNat k.toNat, .int .i64 0]) ∧ H ≤ g ∧ StrBlk w' g (St.shards k.toNat s)
    else e = .returned (.tuple #[.slice none 0 0, .int .i64 2])
  else e = .returned (.tuple #[.slice none 0 0, .int .i64 1])

set_option maxHeartbeats 1000000 in
theorem split_any (k : Int) (s : ByteArray) (w : World) (hreach : s.size ≤ 9223372036854775807) :
    Calls Try.prog 41 #[.int .i64 k, .string s] w fun e w' => SplitAns w.heap.size k s e w' ∧ Below w.heap.size w w' := by
  cases hc : codeB k 0
  · have E : Hid (∀ w' e, e = Ending.returned (.tuple #[.slice none 0 0, .int .i64 1]) → SplitAns w.heap.size k s e w') := fun w' e h => by unfold SplitAns; rw [if_neg (by simp [hc])]; exact h
    go_enter Try.func41, Try.ntmps41
    go_wp2_with (go_at_call 40; refine (isCode_any _ _ _).mono ?_; rintro e w' ⟨rfl, rfl⟩)
    go_ret2
    exact ⟨E.out _ _ rfl, Below.refl _ _⟩
  · obtain ⟨a, b, rfl, hb, h1, h2⟩ := codeB_nat hc
    obtain rfl : b = 0 := by omega
    clear hb
    by_cases h3 : s.size ≤ 2048
    · have h3' : (s.size : Int) ≤ 2048 := by omega
      have E : Hid (∀ w' e g, e = Ending.returned (.tuple #[.slice (some ⟨g, 0, none⟩) a a, .int .i64 0]) → w.heap.size ≤ g → StrBlk w' g (St.shards a s) → SplitAns w.heap.size (a : Int) s e w') := fun w' e g he hg hs => by
        unfold SplitAns
        rw [if_pos hc, if_pos h3, Int.toNat_natCast]
        exact ⟨g, he, hg, hs⟩
      have HC := Lib.hid (fun w => cut_any a s w h1 (by omega) h3)
      clear h3
      go_enter Try.func41, Try.ntmps41
      go_wp2_with fail
      refine (isCode_any _ _ _).mono ?_
      rintro e w' ⟨rfl, rfl⟩
      go_wp2_with fail
      refine (HC.out _).mono ?_
      rintro e w1 ⟨g, rfl, hg, hs, hb⟩
      have HS := Lib.hid hs
      have HB := Lib.hid hb
      clear hs hb
      go_wp2_with fail
      go_ret2
      exact ⟨E.out _ _ g rfl hg HS.out, HB.out⟩
    · have h4 : (2048 : Int) < (s.size : Int) := by omega
      have E : Hid (∀ w' e, e = Ending.returned (.tuple #[.slice none 0 0, .int .i64 2]) → SplitAns w.heap.size (a : Int) s e w') := fun w' e h => by unfold SplitAns; rw [if_pos hc, if_neg h3]; exact h
      clear h3
      go_enter Try.func41, Try.ntmps41
      go_wp2_with (go_at_call 40; refine (isCode_any _ _ _).mono ?_; rintro e w' ⟨rfl, rfl⟩)
      go_ret2
      exact ⟨E.out _ _ rfl, Below.refl _ _⟩

end Go.Proofs.Ytemcjnbgcecinaa

/- What the landed package stripe does: shards laid together, the length that stands ahead of an object; no condition but the range. -/
namespace Go.Proofs.Ytemcjnbgcecinaa
open Go.RowKit

theorem joinL_take_succ (l : List ByteArray) (j : Nat) (h : j < l.length) : St.joinL (l.take (j + 1)) = St.joinL (l.take j) ++ l[j].data.toList := by
  rw [List.take_add_one, List.getElem?_eq_getElem h, St.joinL_append]
  show _ ++ St.joinL [l[j]] = _
  rw [St.joinL_one]

theorem joinL_le (l : List ByteArray) (B : Nat) (h : ∀ s ∈ l, s.size ≤ B) : (St.joinL l).length ≤ l.length * B := by
  induction l with
  | nil => simp [St.joinL]
  | cons s r ih =>
    have h1 := ih fun x hx => h x (by simp [hx])
    have h2 := h s (by simp)
    show (s.data.toList ++ St.joinL r).length ≤ _
    rw [List.length_append, St.data_len, List.length_cons, Nat.succ_mul]
    omega

set_option maxRecDepth 20000 in
set_option maxHeartbeats 2000000 in
theorem lay_any (A : Option Addr) (c : Nat) (l : List ByteArray) (w : World) (h : StrsAt w A l) (hn : l.length ≤ 255) (hs : ∀ s ∈ l, s.size ≤ 2052) :
    Calls Try.prog 81 #[.slice A l.length c] w fun e w' =>
      ∃ v, e = .returned v ∧ w'.ownsRow w.heap.size 5 1 v (St.joinL l).length (Lib.byteCells (St.joinL l)) ∧ Below w.heap.size w w' := by
  obtain ⟨i0, hi, hz0, hz1, hz2⟩ := info_parts Try.infoU8
  have HA := Lib.hid h
  have HS := Lib.hid hs
  clear h hs
  go_enter Try.func81, Try.ntmps81
  go_wp2_with fail
  go_loopw [3, 8] (fun u i wr => ∃ j : Nat, j ≤ l.length ∧ i = .int .i64 (j : Int) ∧ Hid (wr.ownsRow w.heap.size 5 1 u (St.joinL (l.take j)).length (Lib.byteCells (St.joinL (l.take j)))) ∧ Hid (Below w.heap.size w wr)) (fun _ i _ => l.length - (intOf i).toNat)
  case atStart => exact ⟨0, by omega, rfl, World.ownsRow_nil _ _ _ _, Below.refl _ _⟩
  case round =>
    obtain ⟨j, hj, rfl, hown, hbel⟩ := hrel
    by_cases hlt : j < l.length
    · obtain ⟨ad, rfl, hab, hc⟩ := HA.out (Nat.lt_of_le_of_lt (Nat.zero_le _) hlt)
      have hcell := (cell_kept hbel.out (ad.add j) (by rw [st_block]; exact hab)).trans (hc j hlt)
      have hsz := HS.out l[j] (List.getElem_mem hlt)
      have pj : (j : Int) < (l.length : Int) := by omega
      have hl1 : (St.joinL (l.take j)).length ≤ 255 * 2052 := Nat.le_trans (joinL_le _ 2052 fun s hs => HS.out s (List.mem_of_mem_take hs)) (Nat.mul_le_mul_right _ (by rw [List.length_take]; omega))
      have hE := joinL_take_succ l j hlt
      have HE := Lib.hid hE
      have hlen : (St.joinL (l.take (j + 1))).length = (St.joinL (l.take j)).length + l[j].size := by rw [hE, List.length_append, St.data_len]
      have HLen := Lib.hid hlen
      clear hc hE hlen
      go_wp2_with (at_builtin; refine Lib.wpList_append_own_string _ rfl _ _ 48 9 rfl w.heap.size 5 i0 Try.underlying48 Try.underlying9 hi hz0 hz1 hz2 _ _ _ rfl hown.out l[j] rfl ?c1 ?c2 ?c3 ?_)
      case c1 => unfold maxLen; omega
      case c2 => omega
      case c3 => exact hbel.out.size
      intro v' w5 hown' hgrow _
      have HB : Hid (Below w.heap.size w w5) := hbel.out.grown hgrow hbel.out.size (fun k hk => (World.ownsRow.lt hown.out k hk).1)
      rw [← HLen.out] at hown'
      have HO : Hid (w5.ownsRow w.heap.size 5 1 v' (St.joinL (l.take (j + 1))).length (Lib.byteCells (St.joinL (l.take (j + 1))))) := by
        show World.ownsRow _ _ _ _ _ _ _
        have e : Lib.byteCells (St.joinL (l.take (j + 1))) = Lib.byteCells (St.joinL (l.take j)) ++ Lib.strCells l[j] := by
          rw [HE.out]; unfold Lib.byteCells Lib.strCells; rw [List.map_append]
        rw [e]; exact hown'
      clear hown' hgrow hown hbel hcell
      go_wp2_with fail
      go_roundw
      case rel => exact ⟨j + 1, by omega, by go_num, HO.out, HB.out⟩
      case measure => simp [intOf]; omega
    · obtain rfl : j = l.length := by omega
      have HO : Hid (wr.ownsRow w.heap.size 5 1 u3 (St.joinL l).length (Lib.byteCells (St.joinL l))) := by
        have := hown.out; rw [List.take_length] at this; exact this
      clear hown
      go_wp2_with fail
      go_ret
      exact ⟨_, rfl, HO.out, hbel.out⟩

/-- the number that the first j bytes are -/
def numK (L : List UInt8) (j : Nat) : Nat := (L.take j).foldl (fun a b => a * 256 + b.toNat) 0

theorem numK_succ (L : List UInt8) (j : Nat) (h : j < L.length) : numK L (j + 1) = numK L j * 256 + (L[j]'h).toNat := by
  unfold numK
  rw [List.take_add_one, List.getElem?_eq_getElem h, List.foldl_append]; rfl

theorem numK_lt (L : List UInt8) (j : Nat) : numK L j < 256 ^ j := by
  induction j with
  | zero => simp [numK]
  | succ j ih =>
    rcases Nat.lt_or_ge j L.length with h | h
    · rw [numK_succ L j h, Nat.pow_succ]
      have := (L[j]'h).toNat_lt
      omega
    · have : numK L (j + 1) = numK L j := by unfold numK; rw [List.take_of_length_le (by omega), List.take_of_length_le h]
      rw [this, Nat.pow_succ]
      omega

/-- the length ahead of an object, and whether there is one -/
def lenAns (L : List UInt8) : Value := if L.length < 4 ∨ 2048 < St.numL L ∨ L.length - 4 < St.numL L then .tuple #[.int .i64 0, .bool false] else .tuple #[.int .i64 (St.numL L : Int), .bool true]

set_option maxRecDepth 20000 in
set_option maxHeartbeats 2000000 in
theorem length_any (H : Nat) (v : Value) (L : List UInt8) (w : World) (h : w.ownsRow H 5 1 v L.length (Lib.byteCells L)) (hn : L.length ≤ 1000000000) :
    Calls Try.prog 82 #[v] w fun e w' => e = .returned (lenAns L) ∧ w' = w := by
  by_cases h4 : L.length < 4
  · have E := Lib.hid (show lenAns L = .tuple #[.int .i64 0, .bool false] by unfold lenAns; rw [if_pos (.inl h4)])
    have h4' : (L.length : Int) < 4 := by omega
    obtain ⟨A, c, rfl⟩ : ∃ A c, v = .slice A L.length c := by
      rcases h.2 with ⟨h1, h2⟩ | ⟨g, cap, cur, h1, _⟩
      · exact ⟨none, 0, by rw [h1, h2]⟩
      · exact ⟨_, _, h1⟩
    clear h
    go_enter Try.func82, Try.ntmps82
    go_wp2_with fail
    go_ret2
    exact ⟨by rw [E.out]; rfl, rfl⟩
  · obtain ⟨g, cap, rfl, _, hlt⟩ := World.ownsRow.form h (by omega)
    have hcap : L.length ≤ cap := by
      rcases h.2 with ⟨h1, h2⟩ | ⟨g', cap', cur, h1, _, _, h3, _⟩
      · simp at h1
      · simp only [Value.slice.injEq] at h1; omega
    have HC := Lib.hid (show ∀ j (hj : j < L.length), w.cell? ⟨g, j, none⟩ = some (.int .u8 ((L[j]'hj).toNat : Int)) from fun j hj => by
      rw [World.ownsRow.cellAt h j (by omega)]
      unfold Lib.byteCells
      rw [List.getElem?_map, List.getElem?_eq_getElem hj]; rfl)
    have h4' : ¬ (L.length : Int) < 4 := by omega
    have hc4 : (4 : Int) ≤ (cap : Int) := by omega
    have hc0 : ¬ cap = 0 := by omega
    clear h
    go_enter Try.func82, Try.ntmps82
    go_wp2_with fail
    go_loop [4, 13] (fun x i => ∃ j : Nat, j ≤ 4 ∧ i = .int .i64 (j : Int) ∧ x = .int .u32 ((numK L j : Nat) : Int)) (fun _ i => 4 - (intOf i).toNat)
    case atStart => exact ⟨0, by omega, rfl, rfl⟩
    case round =>
      obtain ⟨j, hj, rfl, rfl⟩ := hrel
      by_cases hlt4 : j < 4
      · have hjL : j < L.length := by omega
        have hcell := HC.out j hjL
        have pj : (j : Int) < 4 := by omega
        have hk := numK_lt L j
        have hk2 : numK L j < 16777216 := Nat.lt_of_lt_of_le hk (by have : 256 ^ j ≤ 256 ^ 3 := Nat.pow_le_pow_right (by omega) (by omega); omega)
        have hb := (L[j]'hjL).toNat_lt
        have HK := numK_succ L j hjL
        have hor : bits .or .u32 (((numK L j : Nat) : Int) * 256) ((L[j]'hjL).toNat : Int) = ((numK L (j + 1) : Nat) : Int) := by
          have e := u32_or_nat (numK L j * 256) (L[j]'hjL).toNat (by omega) (by omega)
          rw [Int.natCast_mul] at e
          have e2 := Nat.two_pow_add_eq_or_of_lt (i := 8) (show (L[j]'hjL).toNat < 2 ^ 8 by omega) (numK L j)
          rw [HK]
          refine e.trans ?_
          rw [show numK L j * 256 = 2 ^ 8 * numK L j by omega, ← e2]
        have HOR := Lib.hid hor
        clear hk HK hor
        go_wp2_with fail
        go_round
        case rel => exact ⟨j + 1, by omega, by go_num, by rw [HOR.out]⟩
        case measure => simp [intOf]; omega
      · obtain rfl : j = 4 := by omega
        have e4 : numK L 4 = St.numL L := rfl
        have hm := numK_lt L 4
        rw [e4] at hm ⊢
        generalize hM : St.numL L = M at hm ⊢
        have HM := Lib.hid hM
        clear e4 hM
        by_cases hbig : 2048 < M
        · have E := Lib.hid (show lenAns L = .tuple #[.int .i64 0, .bool false] by unfold lenAns; rw [HM.out, if_pos (.inr (.inl hbig))])
          have hb' : (2048 : Int) < (M : Int) := by omega
          go_wp2_with fail
          go_ret2
          exact ⟨by rw [E.out]; rfl, rfl⟩
        · have hb' : ¬ (2048 : Int) < (M : Int) := by omega
          by_cases hbig2 : L.length - 4 < M
          · have E := Lib.hid (show lenAns L = .tuple #[.int .i64 0, .bool false] by unfold lenAns; rw [HM.out, if_pos (.inr (.inr hbig2))])
            have hb2 : (L.length : Int) - 4 < (M : Int) := by omega
            clear hbig hbig2
            go_wp2_with fail
            go_ret2
            exact ⟨by rw [E.out]; rfl, rfl⟩
          · have E := Lib.hid (show lenAns L = .tuple #[.int .i64 (M : Int), .bool true] by unfold lenAns; rw [HM.out, if_neg (by omega)])
            have hb2 : ¬ (L.length : Int) - 4 < (M : Int) := by omega
            clear hbig hbig2
            go_wp2_with fail
            go_ret2
            exact ⟨by rw [E.out]; rfl, rfl⟩

end Go.Proofs.Ytemcjnbgcecinaa
