/- What the landed package stripe does: an object's data shards; no condition but the range. -/
import Derived.Test.YtmnciipfepeccaaStLand2
namespace Go.Proofs.Ytmnciipfepeccaa
open Go.RowKit

/-- a row of values of which the first j stand, behind them zeros -/
def preV (xs : List Value) (z : Value) (j : Nat) : List Value := xs.take j ++ List.replicate (xs.length - j) z

theorem preV_length (xs : List Value) (z : Value) (j : Nat) (h : j ≤ xs.length) : (preV xs z j).length = xs.length := by simp [preV]; omega

theorem preV_set (xs : List Value) (z v : Value) (j : Nat) (h : j < xs.length) (hv : xs[j]? = some v) : (preV xs z j).set j v = preV xs z (j + 1) := by
  have e : xs[j]'h = v := by rw [List.getElem?_eq_getElem h] at hv; exact Option.some.inj hv
  unfold preV
  rw [show xs.length - j = (xs.length - (j + 1)) + 1 from by omega, List.replicate_succ, List.take_succ_eq_append_getElem h, e]
  rw [List.set_append_right _ _ (by simp; omega)]
  simp only [List.length_take, Nat.min_eq_left (Nat.le_of_lt h), Nat.sub_self, List.set_cons_zero, List.append_assoc, List.cons_append, List.nil_append]

theorem preV_at (xs : List Value) (z : Value) (j i : Nat) (h : j ≤ xs.length) (hi : i < xs.length) : ∃ v, (preV xs z j)[i]? = some v :=
  ⟨_, List.getElem?_eq_getElem (by rw [preV_length _ _ _ h]; exact hi)⟩

theorem preV_end (xs : List Value) (z : Value) : preV xs z xs.length = xs := by
  unfold preV
  rw [List.take_length, Nat.sub_self, List.replicate_zero, List.append_nil]

theorem preV_zero (xs : List Value) (z : Value) (n : Nat) (h : xs.length = n) (hz : z.cells = #[z]) : (madeCells z.cells (n * 1)).toList = preV xs z 0 := by
  rw [Nat.mul_one, hz, toList_madeCells_one]
  simp [preV, h]

/-- 'b[lo:hi]' of a row that is known whole -/
theorem slice_mid (T : TypeId) (hT : Try.prog.underlying T = some (.slice (Try.prog.elem T))) (h1 : ∀ W, (sizeOf (Try.prog.elem T)).run Try.prog W = .ok 1 W) (g n cap lo hi : Nat) (h2 : lo ≤ hi) (h3 : hi ≤ cap) (h4 : lo < cap) (l h : Int) (hl : l = (lo : Int)) (hh : h = (hi : Int)) (W : World) :
    (Instr.slice T (.slice (some ⟨g, 0, none⟩) n cap) (some (.int .i64 l)) (some (.int .i64 h)) none).run Try.prog W = .ok (.slice (some ⟨g, lo, none⟩) (hi - lo) (cap - lo)) W := by
  subst hl hh
  rw [run_slice_lh W T _ n cap hT .i64 .i64 _ _ (by omega) (by omega) (by omega), h1]
  simp only [Result.andThen, sliced, Int.toNat_natCast, if_neg (show ¬ cap = lo by omega), Option.map_some, Nat.mul_one]
  rw [addr_head]

theorem bytes_size (W : World) : (sizeOf (Try.prog.elem 61)).run Try.prog W = .ok 1 W := by kernel_rfl

/-- 'string(b[lo:hi])' of a row of bytes that is known whole -/
theorem bytes_string {w : World} {g : Nat} {L : List UInt8} (hg : w.heap[g]? = some (.cells (Lib.byteCells L).toArray 5 (0, 0))) (lo n cap : Nat) (h : lo + n ≤ L.length) :
    (convert 61 9 (.slice (some ⟨g, lo, none⟩) n cap)).run Try.prog w = .ok (.string ⟨((L.drop lo).take n).toArray⟩) w := by
  have hlen : ((L.drop lo).take n).length = n := by rw [List.length_take, List.length_drop]; omega
  have := run_convert_bytes_back (P := Try.prog) w 61 9 5 ⟨g, lo, none⟩ cap ((L.drop lo).take n) Try.underlying61 Try.underlying5 Try.underlying9 (fun j hj => by
    have hj' : j < n := by rw [hlen] at hj; exact hj
    have hadd : (⟨g, lo, none⟩ : Addr).add j = ⟨g, lo + j, none⟩ := by unfold Addr.add; split <;> simp_all
    rw [hadd]
    refine blk_cell hg ?_
    rw [List.getElem?_toArray]
    unfold Lib.byteCells
    rw [List.getElem?_map, List.getElem?_eq_getElem (by omega), Option.map_some, List.getElem_take, List.getElem_drop])
  rwa [hlen] at this

theorem byteCells_len (L : List UInt8) : (Lib.byteCells L).length = L.length := Lib.byteCells_length L

/-- a made row of texts, whole -/
def StrBlk (w : World) (g : Nat) (l : List ByteArray) : Prop := w.heap[g]? = some (.cells (strV l).toArray 9 (0, 0))

set_option maxRecDepth 20000 in
set_option maxHeartbeats 2000000 in
theorem cut_any (k : Nat) (s : ByteArray) (w : World) (hk : 1 ≤ k) (hk2 : k ≤ 255) (hs : s.size ≤ 2048) :
    Calls Try.prog 48 #[.int .i64 (k : Int), .string s] w fun e w' =>
      ∃ g, e = .returned (.slice (some ⟨g, 0, none⟩) k k) ∧ w.heap.size ≤ g ∧ StrBlk w' g (St.shards k s) ∧ Below w.heap.size w w' := by
  obtain ⟨i0, hi, hz0, hz1, hz2⟩ := info_parts Try.infoStr
  have HP := Lib.hid (fun w => plain_any k s w hk hk2 hs)
  have hb := St.sz_bound (n := s.size) hk2 hs
  have hl := St.plain_len hk s
  have hpos := St.sz_pos (n := s.size) hk
  have hsl := St.shards_len k s
  obtain ⟨n, hn⟩ : ∃ n, n = St.szN k s.size := ⟨_, rfl⟩
  obtain ⟨L, hL⟩ : ∃ L, L = St.plainL k s := ⟨_, rfl⟩
  obtain ⟨S, hS⟩ : ∃ S, S = St.shards k s := ⟨_, rfl⟩
  have hSat : ∀ i, i < k → (strV S)[i]? = some (.string (St.piece L n i)) := fun i hi => by
    rw [hS]
    unfold strV St.shards
    rw [List.getElem?_map, St.pieces_at _ _ _ _ hi, ← hn, ← hL]; rfl
  rw [← hn] at hb hl hpos HP
  rw [← hL] at hl HP
  rw [← hS] at hsl ⊢
  obtain ⟨N, hN⟩ : ∃ N, N = k * n := ⟨_, rfl⟩
  have hnN : n ≤ N := by rw [hN]; exact Nat.le_mul_of_pos_left n hk
  rw [← hN] at hb hl HP
  have HN := Lib.hid hN
  have HL := Lib.hid hl
  have HS := Lib.hid hSat
  have HLen := Lib.hid hsl
  have D1 : (N : Int) / (k : Int) = (n : Int) := by rw [hN, Int.natCast_mul]; exact Int.mul_ediv_cancel_left _ (by omega)
  have hk0 : ((k : Int) == 0) = false := by simp; omega
  have hk1 : (1 : Int) ≤ (k : Int) := by omega
  clear hn hL hS hSat hN hl hsl hs
  go_enter Try.func48, Try.ntmps48
  go_wp2_with fail
  refine (HP.out _).mono ?_
  rintro e w1 ⟨rfl, hg1, hb1⟩
  have G1 := Lib.hid hg1
  have B1 := Lib.hid hb1
  have hlt1 : w.heap.size < w1.heap.size := (Array.getElem?_eq_some_iff.1 hg1).1
  clear hg1 hb1
  go_wp2_with (at_make; refine wpList_make_full _ rfl (.tmp 16) (.tmp 16) 40 rfl w1.heap.size 9 i0 (.string ⟨#[]⟩) 1 Try.underlying40 hi hz0 hz1 .i64 .i64 _ _ k rfl rfl rfl rfl (by rw [hz2]; omega) (by unfold maxLen; omega) (by simp) ?_; intro w2 hown hgrow)
  have hown0 : w2.ownsRow w1.heap.size 9 1 (.slice (some ⟨w1.heap.size, 0, none⟩) k k) k (preV (strV S) (.string ⟨#[]⟩) 0) := by
    rw [preV_zero (strV S) (.string ⟨#[]⟩) k (by rw [strV_len, HLen.out]) rfl] at hown; exact hown
  have hbel0 : Below w1.heap.size w1 w2 := (Below.refl _ _).grown hgrow (Nat.le_refl _) (fun k hk => by cases hk)
  clear hown hgrow
  go_loopw [20] (fun i wr => ∃ j : Nat, j ≤ k ∧ i = .int .i64 (j : Int) ∧ Hid (wr.ownsRow w1.heap.size 9 1 (.slice (some ⟨w1.heap.size, 0, none⟩) k k) k (preV (strV S) (.string ⟨#[]⟩) j)) ∧ Hid (Below w1.heap.size w1 wr)) (fun i _ => k - (intOf i).toNat)
  case atStart => exact ⟨0, by omega, rfl, hown0, hbel0⟩
  case round =>
    obtain ⟨j, hj, rfl, hown, hbel⟩ := hrel
    clear hown0 hbel0
    by_cases hlt : j < k
    · have hV : (strV S).length = k := by rw [strV_len, HLen.out]
      obtain ⟨v, hv⟩ := preV_at (strV S) (.string ⟨#[]⟩) j j (by omega) (by omega)
      have hcell := (hown.out.cellAt j (by omega)).trans hv
      have hfro := hown.out.frozenAt j
      have R := hown.out.stored j (.string (St.piece L n j))
      rw [preV_set (strV S) (.string ⟨#[]⟩) _ j (by omega) (HS.out j hlt)] at R
      have HR := Lib.hid R.1
      have pj : (j : Int) < (k : Int) := by omega
      have m1 : j * n ≤ N := by rw [HN.out]; exact Nat.mul_le_mul_right _ (by omega)
      have m2 : (j + 1) * n ≤ N := by rw [HN.out]; exact Nat.mul_le_mul_right _ (by omega)
      have m3 : (j + 1) * n = j * n + n := Nat.succ_mul _ _
      have c1 : (j : Int) * (n : Int) = ((j * n : Nat) : Int) := by rw [Int.natCast_mul]
      have c2 : ((j : Int) + 1) * (n : Int) = (((j + 1) * n : Nat) : Int) := by rw [Int.natCast_mul]; rfl
      have q1 : (0 : Int) ≤ (j : Int) * (n : Int) := by rw [c1]; omega
      have q2 : (j : Int) * (n : Int) ≤ 2306 := by rw [c1]; omega
      have q3 : (0 : Int) ≤ ((j : Int) + 1) * (n : Int) := by rw [c2]; omega
      have q4 : ((j : Int) + 1) * (n : Int) ≤ 2306 := by rw [c2]; omega
      have hsl := slice_mid 61 (by kernel_rfl) bytes_size w.heap.size N N (j * n) ((j + 1) * n) (by omega) m2 (by omega) _ _ c1 c2
      have hst := bytes_string ((hbel.out.block w.heap.size hlt1).trans G1.out) (j * n) ((j + 1) * n - j * n) (N - j * n) (by rw [HL.out]; omega)
      rw [show (⟨((L.drop (j * n)).take ((j + 1) * n - j * n)).toArray⟩ : ByteArray) = St.piece L n j by unfold St.piece; rw [show (j + 1) * n - j * n = n by omega]] at hst
      clear hv R c1 c2 hV m1 m2 m3
      go_wp2_with fail
      go_roundw
      case rel => exact ⟨j + 1, by omega, by go_num, HR.out, hbel.out.setCell (Nat.le_refl _) _⟩
      case measure => simp [intOf]; omega
    · obtain rfl : j = k := by omega
      have HG : Hid (StrBlk wr w1.heap.size S) := by
        have h := owns_blk0 hown.out
        have e : preV (strV S) (.string ⟨#[]⟩) j = strV S := by
          have h2 := preV_end (strV S) (.string ⟨#[]⟩)
          rw [strV_len, HLen.out] at h2
          exact h2
        rw [e] at h
        exact h
      have HB : Hid (Below w.heap.size w wr) := B1.out.trans (hbel.out.mono B1.out.size)
      have hge : w.heap.size ≤ w1.heap.size := B1.out.size
      clear hown hbel
      go_wp2_with fail
      go_ret
      exact ⟨_, rfl, hge, HG.out, HB.out⟩

/-- what Split answers -/
def SplitAns (H : Nat) (k : Int) (s : ByteArray) (e : Ending) (w' : World) : Prop :=
  if codeB k 0 = true then
    if s.size ≤ 2048 then ∃ g, e = .returned (.tuple #[.slice (some ⟨g, 0, none⟩) k.toNat k.toNat, .int .i64 0]) ∧ H ≤ g ∧ StrBlk w' g (St.shards k.toNat s)
    else e = .returned (.tuple #[.slice none 0 0, .int .i64 2])
  else e = .returned (.tuple #[.slice none 0 0, .int .i64 1])

set_option maxHeartbeats 1000000 in
theorem split_any (k : Int) (s : ByteArray) (w : World) (hreach : s.size ≤ 9223372036854775807) :
    Calls Try.prog 21 #[.int .i64 k, .string s] w fun e w' => SplitAns w.heap.size k s e w' ∧ Below w.heap.size w w' := by
  cases hc : codeB k 0
  · have E : Hid (∀ w' e, e = Ending.returned (.tuple #[.slice none 0 0, .int .i64 1]) → SplitAns w.heap.size k s e w') := fun w' e h => by unfold SplitAns; rw [if_neg (by simp [hc])]; exact h
    go_enter Try.func21, Try.ntmps21
    go_wp2_with (go_at_call 46; refine (isCode_any _ _ _).mono ?_; rintro e w' ⟨rfl, rfl⟩)
    go_ret2
    exact ⟨E.out _ _ rfl, Below.refl _ _⟩
  · obtain ⟨a, b, rfl, hb, h1, h2⟩ := codeB_nat hc
    obtain rfl : b = 0 := by omega
    clear hb
    by_cases h3 : s.size ≤ 2048
    · have h3' : (s.size : Int) ≤ 2048 := by omega
      have E : Hid (∀ w' e g, e = Ending.returned (.tuple #[.slice (some ⟨g, 0, none⟩) a a, .int .i64 0]) → w.heap.size ≤ g → StrBlk w' g (St.shards a s) → SplitAns w.heap.size (a : Int) s e w') := fun w' e g he hg hs => by
        unfold SplitAns
        rw [if_pos hc, if_pos h3, Int.toNat_natCast]
        exact ⟨g, he, hg, hs⟩
      have HC := Lib.hid (fun w => cut_any a s w h1 (by omega) h3)
      clear h3
      go_enter Try.func21, Try.ntmps21
      go_wp2_with fail
      refine (isCode_any _ _ _).mono ?_
      rintro e w' ⟨rfl, rfl⟩
      go_wp2_with fail
      refine (HC.out _).mono ?_
      rintro e w1 ⟨g, rfl, hg, hs, hb⟩
      have HS := Lib.hid hs
      have HB := Lib.hid hb
      clear hs hb
      go_wp2_with fail
      go_ret2
      exact ⟨E.out _ _ g rfl hg HS.out, HB.out⟩
    · have h4 : (2048 : Int) < (s.size : Int) := by omega
      have E : Hid (∀ w' e, e = Ending.returned (.tuple #[.slice none 0 0, .int .i64 2]) → SplitAns w.heap.size (a : Int) s e w') := fun w' e h => by unfold SplitAns; rw [if_pos hc, if_neg h3]; exact h
      clear h3
      go_enter Try.func21, Try.ntmps21
      go_wp2_with (go_at_call 46; refine (isCode_any _ _ _).mono ?_; rintro e w' ⟨rfl, rfl⟩)
      go_ret2
      exact ⟨E.out _ _ rfl, Below.refl _ _⟩

end Go.Proofs.Ytmnciipfepeccaa
