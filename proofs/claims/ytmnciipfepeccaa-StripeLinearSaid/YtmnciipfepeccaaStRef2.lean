/- What the document's own answers of layer 3 do: data shards, whether shards are as long, the object of plain bytes, Join; no condition but the range. -/
import Derived.Test.YtmnciipfepeccaaStRef
namespace Go.Proofs.Ytmnciipfepeccaa
open Go.RowKit

/-- what the document's Split answers -/
def RSplitAns (H : Nat) (k : Int) (s : ByteArray) (e : Ending) (w' : World) : Prop :=
  if codeB k 0 = true then
    if s.size ≤ 2048 then ∃ v, e = .returned (.tuple #[v, .int .i64 0]) ∧ w'.ownsRow H 9 1 v k.toNat (strV (St.shards k.toNat s))
    else e = .returned (.tuple #[.slice none 0 0, .int .i64 2])
  else e = .returned (.tuple #[.slice none 0 0, .int .i64 1])

theorem shards_take (k : Nat) (s : ByteArray) (j : Nat) (h : j < k) : strV ((St.shards k s).take j) ++ [.string (St.piece (St.plainL k s) (St.szN k s.size) j)] = strV ((St.shards k s).take (j + 1)) := by
  have e : (St.shards k s)[j]? = some (St.piece (St.plainL k s) (St.szN k s.size) j) := St.pieces_at _ _ _ _ h
  unfold strV
  rw [List.take_add_one, e, List.map_append]; rfl

theorem str_one {w : World} {g : Nat} {t : TypeId} {u : Value} (h : w.heap[g]? = some (.cells #[u] t (0, 0))) : ∀ j v, [u][j]? = some v → w.cell? ((⟨g, 0, none⟩ : Addr).add j) = some v := fun j v hv => by
  match j with
  | 0 => simp at hv; subst hv; rw [addr_head]; exact blk_cell h rfl
  | j + 1 => simp at hv

set_option maxRecDepth 20000 in
set_option maxHeartbeats 2000000 in
theorem rsplit_any (k : Int) (s : ByteArray) (w : World) (hreach : s.size ≤ 9223372036854775807) :
    Calls Try.prog 22 #[.int .i64 k, .string s] w fun e w' => RSplitAns w.heap.size k s e w' ∧ Below w.heap.size w w' := by
  obtain ⟨i0, hi, hz0, hz1, hz2⟩ := info_parts Try.infoStr
  cases hc : codeB k 0
  · have E : Hid (∀ w' e, e = Ending.returned (.tuple #[.slice none 0 0, .int .i64 1]) → RSplitAns w.heap.size k s e w') := fun w' e h => by unfold RSplitAns; rw [if_neg (by simp [hc])]; exact h
    go_enter Try.func22, Try.ntmps22
    go_wp2_with (go_at_call 29; refine (rcode_any _ _ _).mono ?_; rintro e w' ⟨rfl, rfl⟩)
    go_ret2
    exact ⟨E.out _ _ rfl, Below.refl _ _⟩
  · obtain ⟨k, b, rfl, hb, h1, h2⟩ := codeB_nat hc
    obtain rfl : b = 0 := by omega
    clear hb
    by_cases h3 : s.size ≤ 2048
    · have h3' : (s.size : Int) ≤ 2048 := by omega
      have E : Hid (∀ w' e v, e = Ending.returned (.tuple #[v, .int .i64 0]) → w'.ownsRow w.heap.size 9 1 v k (strV (St.shards k s)) → RSplitAns w.heap.size (k : Int) s e w') := fun w' e v he hs => by
        unfold RSplitAns
        rw [if_pos hc, if_pos h3, Int.toNat_natCast]
        exact ⟨v, he, hs⟩
      have HP := Lib.hid (fun w => rplain_any k s w h1 (by omega) h3)
      have hb := St.sz_bound (n := s.size) (k := k) (by omega) h3
      have hl := St.plain_len h1 s
      have hpos := St.sz_pos (n := s.size) h1
      have hsl := St.shards_len k s
      have HTk := Lib.hid (fun j h => shards_take k s j h)
      have hlsz : (⟨(St.plainL k s).toArray⟩ : ByteArray).size = (St.plainL k s).length := by show (St.plainL k s).toArray.size = _; simp
      have hpc : ∀ i, (⟨(St.plainL k s).toArray⟩ : ByteArray).extract (i * St.szN k s.size) (i * St.szN k s.size + St.szN k s.size) = St.piece (St.plainL k s) (St.szN k s.size) i := fun i => by
        unfold St.piece
        apply ByteArray.ext
        rw [ByteArray.data_extract]
        apply Array.ext'
        simp only [Array.toList_extract, List.toList_toArray, List.extract_eq_take_drop, Nat.add_sub_cancel_left]
      generalize St.szN k s.size = n at *
      generalize St.plainL k s = L at *
      generalize St.shards k s = S at *
      obtain ⟨N, hN⟩ : ∃ N, N = k * n := ⟨_, rfl⟩
      have hnN : n ≤ N := by rw [hN]; exact Nat.le_mul_of_pos_left n h1
      rw [← hN] at hb hl
      rw [hl] at hlsz
      have HN := Lib.hid hN
      have HSL := Lib.hid hsl
      have HPc := Lib.hid hpc
      have D1 : (N : Int) / (k : Int) = (n : Int) := by rw [hN, Int.natCast_mul]; exact Int.mul_ediv_cancel_left _ (by omega)
      have hk0 : ((k : Int) == 0) = false := by simp; omega
      have hk1 : (1 : Int) ≤ (k : Int) := by omega
      generalize (⟨L.toArray⟩ : ByteArray) = PS at *
      have HPS := Lib.hid hlsz
      have HC := Lib.hid hc
      clear hN hsl hpc hl hc h3 hlsz
      go_enter Try.func22, Try.ntmps22
      go_wp2_with fail
      refine (rcode_any _ _ _).mono ?_
      rintro e w1 ⟨rfl, rfl⟩
      rw [HC.out]
      go_wp2_with fail
      refine (HP.out _).mono ?_
      rintro e w2 ⟨rfl, hb⟩
      have B2 := Lib.hid hb
      clear hb
      have hps : (PS.size : Int) = (N : Int) := by rw [HPS.out]
      go_wp2_with fail
      clear hps
      go_loopw [8, 9] (fun u i wr => ∃ j : Nat, j ≤ k ∧ i = .int .i64 (j : Int) ∧ Hid (wr.ownsRow w1.heap.size 9 1 u j (strV (S.take j))) ∧ Hid (Below w1.heap.size w1 wr)) (fun _ i _ => k - (intOf i).toNat)
      case atStart => exact ⟨0, by omega, rfl, World.ownsRow_nil _ _ _ _, B2.out⟩
      case round =>
        obtain ⟨j, hj, rfl, hown, hbel⟩ := hrel
        clear B2
        by_cases hlt : j < k
        · have pj : (j : Int) < (k : Int) := by omega
          have m2 : (j + 1) * n ≤ N := by rw [HN.out]; exact Nat.mul_le_mul_right _ (by omega)
          have m3 : (j + 1) * n = j * n + n := Nat.succ_mul _ _
          have c1 : (j : Int) * (n : Int) = ((j * n : Nat) : Int) := by rw [Int.natCast_mul]
          have q1 : (0 : Int) ≤ (j : Int) * (n : Int) := by rw [c1]; omega
          have q2 : (j : Int) * (n : Int) ≤ 2306 := by rw [c1]; omega
          have q3 : (j : Int) * (n : Int) + (n : Int) ≤ 2306 := by rw [c1]; omega
          have hsl : ∀ W, (Instr.slice 9 (.string PS) (some (.int .i64 ((j : Int) * (n : Int)))) (some (.int .i64 ((j : Int) * (n : Int) + (n : Int)))) none).run Try.prog W = .ok (.string (St.piece L n j)) W := fun W => by
            rw [run_slice_string_if W 9 PS .i64 .i64 _ _ Try.underlying9, if_pos (by rw [c1, HPS.out]; omega), if_pos (by rw [c1]; omega), c1, Int.toNat_natCast, show (((j * n : Nat) : Int) + (n : Int)).toNat = j * n + n by omega, HPc.out]
          have hT := HTk.out j hlt
          have HT := Lib.hid hT
          clear c1 m2 m3 hT
          go_wp2_with (at_builtin; refine wpList_append_own _ rfl _ _ 40 rfl w1.heap.size 9 i0 (.string ⟨#[]⟩) 1 16 Try.underlying40 hi hz0 hz1 hz2 rfl (by decide) _ _ _ rfl (hown.out.alloc _) ⟨wr.heap.size, 0, none⟩ 1 1 [.string (St.piece L n j)] rfl rfl ?c1 ?c2 ?c3 ?c4 ?c5 ?_)
          case c1 => exact cell_one_new _ _ _
          case c2 => intro q hq; simp at hq; subst hq; rfl
          case c3 => unfold maxLen; omega
          case c4 => omega
          case c5 => have := hbel.out.size; simp; omega
          intro v' w5 hown' hgrow _
          have HB := Lib.hid (below_append hown.out hbel.out (Nat.le_refl _) hgrow)
          rw [HT.out] at hown'
          have HO := Lib.hid hown'
          clear hown' hgrow hown hbel hsl
          go_wp2_with fail
          go_roundw
          case rel => exact ⟨j + 1, by omega, by go_num, HO.out, HB.out⟩
          case measure => simp [intOf]; omega
        · obtain rfl : j = k := by omega
          have HO : Hid (wr.ownsRow w1.heap.size 9 1 u8 j (strV S)) := by
            have h := hown.out
            rw [List.take_of_length_le (by rw [HSL.out]; exact Nat.le_refl _)] at h
            exact h
          clear hown
          go_wp2_with fail
          go_ret2
          exact ⟨E.out _ _ _ rfl HO.out, hbel.out⟩
    · have h4 : (2048 : Int) < (s.size : Int) := by omega
      have E : Hid (∀ w' e, e = Ending.returned (.tuple #[.slice none 0 0, .int .i64 2]) → RSplitAns w.heap.size (k : Int) s e w') := fun w' e h => by unfold RSplitAns; rw [if_pos hc, if_neg h3]; exact h
      clear h3
      go_enter Try.func22, Try.ntmps22
      go_wp2_with (go_at_call 29; refine (rcode_any _ _ _).mono ?_; rintro e w' ⟨rfl, rfl⟩)
      go_ret2
      exact ⟨E.out _ _ rfl, Below.refl _ _⟩

end Go.Proofs.Ytmnciipfepeccaa
