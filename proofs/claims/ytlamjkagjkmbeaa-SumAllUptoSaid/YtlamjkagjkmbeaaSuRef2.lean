/- What the document's own frames and search answer; contracts; no condition but the range. -/
import Derived.Test.YtlamjkagjkmbeaaSuRef
import Derived.Test.YtlamjkagjkmbeaaFloat
namespace Go.Proofs.Ytlamjkagjkmbeaa
namespace Su
open Go.RowKit Bk

attribute [local go_sem ↓] Go.wp_at_zero Go.wp_at_succ
attribute [local go_sem] floatUpon pick

/-! ### pieces of a text -/

theorem extract_list (s : ByteArray) (a b : Nat) : s.extract a b = ⟨((s.data.toList.drop a).take (b - a)).toArray⟩ := by
  apply ByteArray.ext
  apply Array.toList_inj.1
  simp [ByteArray.data_extract, Array.toList_extract, List.extract_eq_take_drop]

theorem str_from (s : ByteArray) (a : Nat) (h : a ≤ s.size) (i : Int) (hi : i = (a : Int)) (W : World) :
    (Instr.slice 9 (.string s) (some (.int .i64 i)) none none).run Try.prog W = .ok (.string ⟨(s.data.toList.drop a).toArray⟩) W := by
  subst hi
  rw [run_slice_string_l W 9 s Try.underlying9 .i64 _ (by omega) (by omega), extract_list, Int.toNat_natCast, List.take_of_length_le (by rw [List.length_drop, Array.length_toList]; exact Nat.le_refl _)]

theorem str_to (s : ByteArray) (b : Nat) (h : b ≤ s.size) (j : Int) (hj : j = (b : Int)) (W : World) :
    (Instr.slice 9 (.string s) none (some (.int .i64 j)) none).run Try.prog W = .ok (.string ⟨(s.data.toList.take b).toArray⟩) W := by
  subst hj
  rw [run_slice_string_h W 9 s Try.underlying9 .i64 _ (by omega) (by omega), extract_list, Int.toNat_natCast, List.drop_zero, Nat.sub_zero]

theorem str_mid (s : ByteArray) (a b : Nat) (h1 : a ≤ b) (h : b ≤ s.size) (i j : Int) (hi : i = (a : Int)) (hj : j = (b : Int)) (W : World) :
    (Instr.slice 9 (.string s) (some (.int .i64 i)) (some (.int .i64 j)) none).run Try.prog W = .ok (.string ⟨((s.data.toList.drop a).take (b - a)).toArray⟩) W := by
  subst hi hj
  rw [run_slice_string W 9 s .i64 .i64 _ _ Try.underlying9 (by omega) (by omega) (by omega), extract_list, Int.toNat_natCast, Int.toNat_natCast]

theorem str_at (s : ByteArray) (a : Nat) (b : UInt8) (h : s.data.toList[a]? = some b) (i : Int) (hi : i = (a : Int)) (W : World) :
    (Instr.index 9 (.string s) (.int .i64 i)).run Try.prog W = .ok (.int .u8 (b.toNat : Int)) W := by
  subst hi
  have hl : a < s.data.toList.length := (List.getElem?_eq_some_iff.1 h).1
  have hl2 : a < s.size := by rw [Array.length_toList] at hl; exact hl
  rw [run_index_string W 9 s .i64 _ Try.underlying9, dif_pos (by omega)]
  congr 3
  rw [List.getElem?_eq_getElem hl] at h
  rw [← Option.some.inj h]
  simp only [Int.toNat_natCast]
  rfl

/-! ### frames -/

def frameL (t : List UInt8) : List UInt8 := (le 2 t.length ++ t) ++ le 4 (crc (le 2 t.length ++ t))

def frameB (s : ByteArray) : ByteArray := ⟨(frameL s.data.toList).toArray⟩

theorem frameL_len (t : List UInt8) : (frameL t).length = t.length + 6 := by
  unfold frameL
  rw [List.length_append, List.length_append, le_length, le_length]
  omega

theorem frameB_size (s : ByteArray) : (frameB s).size = s.size + 6 := by
  unfold frameB
  rw [cat_size, frameL_len, Array.length_toList]; rfl

theorem list_size (s : ByteArray) : s.data.toList.length = s.size := Array.length_toList

set_option maxRecDepth 20000 in
set_option maxHeartbeats 1000000 in
theorem rone_any (s : ByteArray) (w : World) (hs : s.size ≤ 1000000000000000) :
    Calls Try.prog 24 #[.string s] w fun e w' => e = .returned (.string (frameB s)) ∧ Below w.heap.size w w' := by
  have h1 := fun W => rbytes_any s.size 2 W (by omega) (by omega) (by omega)
  have HB1 := Lib.hid h1
  have e1 : (⟨(le 2 s.size).toArray⟩ : ByteArray) ++ s = ⟨(le 2 s.size ++ s.data.toList).toArray⟩ := by rw [← ByteArray.mk_append_mk]
  have z1 : (⟨(le 2 s.size).toArray⟩ : ByteArray).size = 2 := by rw [cat_size, le_length]
  have hadd := fun W => run_string_add_sum (P := Try.prog) W ⟨(le 2 s.size).toArray⟩ s (by rw [z1]; omega)
  rw [e1] at hadd
  obtain ⟨L1, hL1⟩ : ∃ L1, L1 = le 2 s.size ++ s.data.toList := ⟨_, rfl⟩
  have hF : frameB s = ⟨(L1 ++ le 4 (crc L1)).toArray⟩ := by unfold frameB frameL; rw [list_size, ← hL1]
  have hz : L1.length = s.size + 2 := by rw [hL1, List.length_append, le_length, list_size]; omega
  have hsm := fun W => rsum_any ⟨L1.toArray⟩ W (by rw [cat_size, hz]; omega)
  have HSm := Lib.hid hsm
  have h2 := fun W => rbytes_any (crc L1) 4 W (by have := crc_lt L1; omega) (by omega) (by omega)
  have HB2 := Lib.hid h2
  have e2 : (⟨L1.toArray⟩ : ByteArray) ++ ⟨(le 4 (crc L1)).toArray⟩ = frameB s := by rw [hF, ← ByteArray.mk_append_mk]
  have z2 : (⟨(le 4 (crc L1)).toArray⟩ : ByteArray).size = 4 := by rw [cat_size, le_length]
  have z3 : (⟨L1.toArray⟩ : ByteArray).size = s.size + 2 := by rw [cat_size, hz]
  have hadd2 := fun W => run_string_add_sum (P := Try.prog) W ⟨L1.toArray⟩ ⟨(le 4 (crc L1)).toArray⟩ (by rw [z2, z3]; omega)
  rw [e2] at hadd2
  rw [← hL1] at hadd e1
  clear e1 z1 hL1 hF hsm h2 e2 z2 h1 hz
  generalize (⟨(le 2 s.size).toArray⟩ : ByteArray) = B1 at HB1 hadd
  generalize (⟨(le 4 (crc L1)).toArray⟩ : ByteArray) = B2 at HB2 hadd2
  generalize hS1 : (⟨L1.toArray⟩ : ByteArray) = S1 at hadd hadd2 HSm z3
  have hS1l : S1.data.toList = L1 := by rw [← hS1]
  rw [hS1l] at HSm
  have hB : (s.size : Int) ≤ 1000000000000000 := by omega
  clear hS1 hS1l z3
  go_enter Try.func24, Try.ntmps24
  go_wp2_with fail
  refine (HB1.out _).mono ?_
  rintro e w1 ⟨rfl, hb⟩
  have W1 := Lib.hid hb
  clear hb
  go_wp2_with fail
  refine (HSm.out _).mono ?_
  rintro e w2 ⟨rfl, rfl⟩
  go_wp2_with fail
  refine (HB2.out _).mono ?_
  rintro e w3 ⟨rfl, hb⟩
  have W3 := Lib.hid (W1.out.trans (hb.mono W1.out.size))
  clear hb
  go_wp2_with fail
  go_ret
  exact ⟨rfl, W3.out⟩

/-- what Frame answers -/
def frameV (s : ByteArray) : Value := if 4096 < s.size then .tuple #[.string ⟨#[]⟩, .int .i64 2] else .tuple #[.string (frameB s), .int .i64 0]

set_option maxRecDepth 20000 in
set_option maxHeartbeats 1000000 in
theorem rframe_any (s : ByteArray) (w : World) (hs : s.size ≤ 9223372036854775807) :
    Calls Try.prog 12 #[.string s] w fun e w' => e = .returned (frameV s) ∧ Below w.heap.size w w' := by
  by_cases h : 4096 < s.size
  · have E := Lib.hid (show frameV s = .tuple #[.string ⟨#[]⟩, .int .i64 2] by unfold frameV; rw [if_pos h])
    have h' : (4096 : Int) < (s.size : Int) := by omega
    clear h
    go_enter Try.func12, Try.ntmps12
    go_wp2_with fail
    go_ret2
    exact ⟨by rw [E.out]; rfl, Below.refl _ _⟩
  · have E := Lib.hid (show frameV s = .tuple #[.string (frameB s), .int .i64 0] by unfold frameV; rw [if_neg h])
    have h' : (s.size : Int) ≤ 4096 := by omega
    have HO := Lib.hid (fun W => rone_any s W (by omega))
    clear h
    go_enter Try.func12, Try.ntmps12
    go_wp2_with fail
    refine (HO.out _).mono ?_
    rintro e w1 ⟨rfl, hb⟩
    go_wp2_with fail
    go_ret2
    exact ⟨by rw [E.out]; rfl, hb⟩

end Su
end Go.Proofs.Ytlamjkagjkmbeaa
