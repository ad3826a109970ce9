/- What gf's Dot and Scale do to texts of any bytes, and the document's own, and the walks of the two laws on texts; no condition but the arguments' range. -/
import Derived.Test.YtmnciipfepeccaaGfMore
import Derived.SizedLaws
namespace Go.Proofs.Ytmnciipfepeccaa
open Go.RowKit
open GfM (dbl pw lgA lg)

/-- the byte at place k, a number; behind the end 0 -/
def bt (s : ByteArray) (k : Nat) : Nat := (s.data[k]?.getD 0).toNat

theorem bt_le (s : ByteArray) (k : Nat) : bt s k ≤ 255 := by unfold bt; have := (s.data[k]?.getD 0).toNat_lt; omega

theorem bt_at (s : ByteArray) (k : Nat) (h : k < s.size) : (s[k]'h).toNat = bt s k := by
  unfold bt
  have h' : k < s.data.size := h
  rw [Array.getElem?_eq_getElem h']; rfl

/-- the sum of the products of the first k places -/
def dotk (s t : ByteArray) : Nat → Nat
  | 0 => 0
  | k + 1 => dotk s t k ^^^ GfM.mul (bt s k) (bt t k)

theorem dotk_le (s t : ByteArray) (k : Nat) : dotk s t k ≤ 255 := by
  induction k with
  | zero => simp [dotk]
  | succ k ih => exact GfM.xor_le ih (GfM.mul_le _ _)

theorem rmul_in (a b : Nat) (w : World) (ha : a ≤ 255) (hb : b ≤ 255) :
    Calls Try.prog 73 #[.int .u8 (a : Int), .int .u8 (b : Int)] w fun e w' => e = .returned (.int .u8 ((GfM.mul a b : Nat) : Int)) ∧ w' = w :=
  (rmul_any a b w ha hb).mono fun _ _ ⟨h1, h2⟩ => ⟨h1, h2.symm⟩

theorem add_in (a b : Nat) (w : World) (ha : a ≤ 255) (hb : b ≤ 255) :
    Calls Try.prog 61 #[.int .u8 (a : Int), .int .u8 (b : Int)] w fun e w' => e = .returned (.int .u8 ((a ^^^ b : Nat) : Int)) ∧ w' = w :=
  (add_at _ _ a b w rfl rfl ha hb).mono fun _ _ ⟨h1, h2⟩ => ⟨h1, h2.symm⟩

set_option maxRecDepth 20000 in
set_option maxHeartbeats 1000000 in
theorem dot_any (B : Nat) (s t : ByteArray) (w : World) (hF : FieldAt w B) (hs : s.size ≤ maxLen) (hst : s.size = t.size) :
    Calls Try.prog 41 #[.pointer (some ⟨B, 0, none⟩), .string s, .string t] w fun e w' =>
      e = .returned (.tuple #[.int .u8 ((dotk s t s.size : Nat) : Int), .int .i64 0]) ∧ ∃ n, w' = w.drewN n := by
  unfold maxLen at hs
  have HF := Lib.hid hF
  clear hF
  have hst1 : ((s.size : Int) == (t.size : Int)) = true := by simp; omega
  have hst2 : ((s.size : Int) != (t.size : Int)) = false := by simp; omega
  have hle : s.size ≤ t.size := by omega
  have HST := Lib.hid hst
  clear hst
  go_enter Try.func41, Try.ntmps41
  go_wp2_with fail
  go_loopw [8, 17] (fun os i wr => ∃ k d : Nat, k ≤ s.size ∧ i = .int .i64 (k : Int) ∧ os = .int .u8 ((dotk s t k : Nat) : Int) ∧ wr = w.drewN d) (fun _ i _ => s.size - (intOf i).toNat)
  case atStart => exact ⟨0, 0, by omega, rfl, rfl, rfl⟩
  case round =>
    obtain ⟨k, d, hk, rfl, rfl, rfl⟩ := hrel
    have hd := dotk_le s t k
    by_cases hlt : k < s.size
    · have ht : k < t.size := by omega
      have p1 : (k : Int) < (s.size : Int) := by omega
      have p2 : (k : Int) < (t.size : Int) := by omega
      have b1 : (s[k]'hlt).toNat ≤ 255 := by rw [bt_at]; exact bt_le _ _
      have b2 : (t[k]'ht).toNat ≤ 255 := by rw [bt_at]; exact bt_le _ _
      have E : Hid (dotk s t (k + 1) = dotk s t k ^^^ GfM.mul (s[k]'hlt).toNat (t[k]'ht).toNat) := by rw [bt_at, bt_at]; exact rfl
      have mm := GfM.mul_le (s[k]'hlt).toNat (t[k]'ht).toNat
      have HFd : Hid (FieldAt (w.drewN d) B) := HF.out.drewN d
      generalize hW : w.drewN d = W at HFd
      have HW := Lib.hid hW
      clear hW
      go_wp2_with fail
      go_quiet ((first | (go_at_call 62; exact Calls.quiet_of (mul_any _ _ _ _ (HFd.out.drewN _) b1 b2)) | (go_at_call 61; exact Calls.quiet_of_same (add_in _ _ _ hd mm))))
      go_wp2
      go_roundw
      case rel => exact ⟨k + 1, _, by omega, by go_num, by rw [E.out], by rw [← HW.out, World.drewN_drewN]⟩
      case measure => simp [intOf]; omega
    · obtain rfl : k = s.size := by omega
      go_wp2_with fail
      go_ret2
      exact ⟨rfl, _, rfl⟩

theorem FieldAt.lt {w : World} {B : Nat} (h : FieldAt w B) : B < w.heap.size := World.block_lt_of_cell? _ _ (h.1 0 (by omega))

theorem FieldAt.below {w w' : World} {B H : Nat} (h : FieldAt w B) (hb : Below H w w') (hH : B < H) : FieldAt w' B :=
  ⟨fun i hi => (hb.cell (p := ⟨B, i, none⟩) hH).trans (h.1 i hi), fun i hi => (hb.cell (p := ⟨B, 510 + i, none⟩) hH).trans (h.2 i hi)⟩

theorem addr_head (b j : Nat) : (⟨b, 0, none⟩ : Addr).add j = ⟨b, j, none⟩ := by unfold Addr.add; split <;> simp_all

/-- each byte times a -/
def scl (a : Nat) (s : ByteArray) : List UInt8 := s.data.toList.map fun b => UInt8.ofNat (GfM.mul a b.toNat)

theorem scl_length (a : Nat) (s : ByteArray) : (scl a s).length = s.size := by simp [scl]

theorem scl_at (a : Nat) (s : ByteArray) (k : Nat) (h : k < s.size) : ((scl a s)[k]'(by rw [scl_length]; exact h)).toNat = GfM.mul a (s[k]'h).toNat := by
  have := GfM.mul_le a (s[k]'h).toNat
  unfold scl
  rw [List.getElem_map]
  show (UInt8.ofNat (GfM.mul a (s[k]'h).toNat)).toNat = _
  rw [UInt8.toNat_ofNat_of_lt']
  show _ < 256
  omega

/-- the cells of the new text when k bytes stand in it -/
def sclC (a : Nat) (s : ByteArray) (k : Nat) : List Value := ((scl a s).take k).map (fun b => Value.int .u8 (b.toNat : Int)) ++ List.replicate (s.size - k) (.int .u8 0)

theorem sclC_length (a : Nat) (s : ByteArray) (k : Nat) (h : k ≤ s.size) : (sclC a s k).length = s.size := by
  simp [sclC, scl_length]; omega

theorem sclC_set (a : Nat) (s : ByteArray) (k : Nat) (h : k < s.size) : (sclC a s k).set k (.int .u8 ((GfM.mul a (s[k]'h).toNat : Nat) : Int)) = sclC a s (k + 1) := by
  have hl := scl_length a s
  unfold sclC
  rw [show s.size - k = (s.size - (k + 1)) + 1 from by omega, List.replicate_succ, List.take_succ_eq_append_getElem (by omega), List.map_append]
  rw [List.set_append_right _ _ (by simp; omega)]
  simp only [List.length_map, List.length_take, hl, Nat.min_eq_left (Nat.le_of_lt h), Nat.sub_self, List.set_cons_zero, List.append_assoc, List.map_cons, List.map_nil, List.cons_append, List.nil_append]
  rw [scl_at a s k h]

theorem sclC_at (a : Nat) (s : ByteArray) (k : Nat) (h : k < s.size) : ∃ v, (sclC a s k)[k]? = some v :=
  ⟨_, List.getElem?_eq_getElem (by rw [sclC_length _ _ _ (by omega)]; exact h)⟩

theorem sclC_end (a : Nat) (s : ByteArray) (j : Nat) (h : j < (scl a s).length) : (sclC a s s.size)[j]? = some (.int .u8 (((scl a s)[j]'h).toNat : Int)) := by
  unfold sclC
  rw [Nat.sub_self, List.replicate_zero, List.append_nil, List.take_of_length_le (by rw [scl_length]; omega), List.getElem?_map, List.getElem?_eq_getElem h]; rfl

theorem Try.infoU8 : (Try.prog.info? 5).map (fun i => (i.zero, i.size, i.bytes)) = some (some (.int .u8 0), 1, 1) := by kernel_rfl

/-- the cells of the first k bytes, each times a -/
def sclK (a : Nat) (s : ByteArray) (k : Nat) : List Value := ((scl a s).take k).map (fun b => Value.int .u8 (b.toNat : Int))

theorem sclK_succ (a : Nat) (s : ByteArray) (k : Nat) (h : k < s.size) : sclK a s k ++ [.int .u8 ((GfM.mul a (s[k]'h).toNat : Nat) : Int)] = sclK a s (k + 1) := by
  have hl := scl_length a s
  unfold sclK
  rw [List.take_succ_eq_append_getElem (by omega), List.map_append, List.map_cons, List.map_nil, scl_at a s k h]

theorem sclK_end (a : Nat) (s : ByteArray) (j : Nat) (h : j < (scl a s).length) : (sclK a s s.size)[j]? = some (.int .u8 (((scl a s)[j]'h).toNat : Int)) := by
  unfold sclK
  rw [List.take_of_length_le (by rw [scl_length]; omega), List.getElem?_map, List.getElem?_eq_getElem h]; rfl

theorem scl_empty (a : Nat) (s : ByteArray) (h : s.size = 0) : (⟨(scl a s).toArray⟩ : ByteArray) = ⟨#[]⟩ := by
  have := scl_length a s
  rw [h] at this
  rw [List.length_eq_zero_iff.1 this]

theorem run_nil_string {P : Program} (w : World) (src dst e : TypeId) (c : Nat) (hs : P.underlying src = some (.slice e)) (he : P.underlying e = some (.int .u8)) (hd : P.underlying dst = some .string) :
    (convert src dst (.slice none 0 c)).run P w = .ok (.string ⟨#[]⟩) w := by
  rw [run_convert_bytes_string w src dst e none 0 c hs he hd]
  simp [Conv.bytesToString]
  rfl

theorem below_append {H : Nat} {w wr w1 : World} {v : Value} {o : Obj} {e : TypeId} {n : Nat} {xs : List Value} (hown : wr.ownsRow H e 1 v n xs) (hb : Below H w wr) (hH : H ≤ w.heap.size) (hg : (wr.alloc o).grownBy w1 v.ownBlock) : Below H w w1 :=
  (hb.alloc (Nat.le_trans hH hb.size) o).grown hg (by have := hb.size; simp; omega) (fun j hj => (hown.lt j hj).1)

set_option maxRecDepth 20000 in
set_option maxHeartbeats 1000000 in
theorem rscale_any (a : Nat) (s : ByteArray) (w : World) (ha : a ≤ 255) (hs : s.size ≤ 140737488351232) :
    Calls Try.prog 68 #[.int .u8 (a : Int), .string s] w fun e w' =>
      e = .returned (.string ⟨(scl a s).toArray⟩) ∧ Below w.heap.size w w' := by
  obtain ⟨i0, hi, hz0, hz1, hz2⟩ := info_parts Try.infoU8
  go_enter Try.func68, Try.ntmps68
  go_wp2_with fail
  go_loopw [5, 6] (fun v i wr => ∃ k : Nat, k ≤ s.size ∧ i = .int .i64 (k : Int) ∧ Hid (wr.ownsRow w.heap.size 5 1 v k (sclK a s k)) ∧ Hid (Below w.heap.size w wr) ∧ Hid (k = 0 → v = .slice none 0 0)) (fun _ i _ => s.size - (intOf i).toNat)
  case atStart => exact ⟨0, by omega, rfl, World.ownsRow_nil _ _ _ _, Below.refl _ _, fun _ => rfl⟩
  case round =>
    obtain ⟨k, hk, rfl, hown, hbel, hnil⟩ := hrel
    by_cases hlt : k < s.size
    · have p1 : (k : Int) < (s.size : Int) := by omega
      have b1 : (s[k]'hlt).toNat ≤ 255 := by rw [bt_at]; exact bt_le _ _
      clear hnil
      go_wp2_with fail
      refine (rmul_any a (s[k]'hlt).toNat _ ha b1).mono ?_
      rintro e w2 ⟨rfl, rfl⟩
      go_wp2_with (at_builtin; refine wpList_append_own _ rfl _ _ 61 rfl w.heap.size 5 i0 (.int .u8 0) 1 1 Try.underlying61 hi hz0 hz1 hz2 rfl (by decide) _ _ _ rfl (hown.out.alloc _) ⟨wr.heap.size, 0, none⟩ 1 1 [.int .u8 ((GfM.mul a (s[k]'hlt).toNat : Nat) : Int)] rfl rfl ?c1 ?c2 ?c3 ?c4 ?c5 ?_)
      case c1 => exact cell_one_new _ _ _
      case c2 => intro u hu; simp at hu; subst hu; rfl
      case c3 => unfold maxLen; omega
      case c4 => omega
      case c5 => have := hbel.out.size; simp; omega
      intro v' w1 hown' hgrow _
      have HB := Lib.hid (below_append hown.out hbel.out (Nat.le_refl _) hgrow)
      rw [sclK_succ a s k hlt] at hown'
      have HO := Lib.hid hown'
      clear hown' hgrow
      go_wp2_with fail
      go_roundw
      case rel => exact ⟨k + 1, by omega, by go_num, HO.out, HB.out, fun h => absurd h (by omega)⟩
      case measure => simp [intOf]; omega
    · obtain rfl : k = s.size := by omega
      by_cases h0 : s.size = 0
      · obtain rfl := hnil.out h0
        have hcv := run_nil_string (P := Try.prog) wr 61 9 5 0 Try.underlying61 Try.underlying5 Try.underlying9
        have E := Lib.hid (scl_empty a s h0)
        clear h0 hown hnil
        go_wp2_with fail
        go_ret
        exact ⟨by rw [E.out]; rfl, hbel.out⟩
      · rcases hown.out.2 with ⟨_, h⟩ | ⟨g, cap, cur, rfl, _⟩
        · exact absurd h h0
        · have hcv := run_convert_bytes_back (P := Try.prog) wr 61 9 5 ⟨g, 0, none⟩ cap (scl a s) Try.underlying61 Try.underlying5 Try.underlying9 (fun j hj => by
            have h1 := hown.out.cellAt j (by rw [scl_length] at hj; omega)
            rw [sclK_end a s j hj] at h1
            rw [addr_head]; exact h1)
          rw [scl_length] at hcv
          clear hown hnil
          go_wp2_with fail
          go_ret
          exact ⟨rfl, hbel.out⟩

set_option maxHeartbeats 400000 in
theorem dot_shape (B : Nat) (s t : ByteArray) (w : World) (hst : s.size ≠ t.size) :
    Calls Try.prog 41 #[.pointer (some ⟨B, 0, none⟩), .string s, .string t] w fun e w' => e = .returned (.tuple #[.int .u8 0, .int .i64 4]) ∧ w = w' := by
  have hst1 : ((s.size : Int) == (t.size : Int)) = false := by simp; omega
  have hst2 : ((s.size : Int) != (t.size : Int)) = true := by simp; omega
  go_enter Try.func41, Try.ntmps41
  go_wp2_with fail
  go_ret2
  exact ⟨rfl, rfl⟩

/-- the answer of Dot: its sum, its error -/
def dotv (s t : ByteArray) : Nat := if s.size = t.size then dotk s t s.size else 0

def dote (s t : ByteArray) : Nat := if s.size = t.size then 0 else 4

theorem dotv_le (s t : ByteArray) : dotv s t ≤ 255 := by
  unfold dotv; split
  · exact dotk_le _ _ _
  · omega

theorem dot_to (B : Nat) (s t : ByteArray) (w : World) (hF : FieldAt w B) (hs : s.size ≤ maxLen) :
    Calls Try.prog 41 #[.pointer (some ⟨B, 0, none⟩), .string s, .string t] w fun e w' =>
      e = .returned (.tuple #[.int .u8 ((dotv s t : Nat) : Int), .int .i64 ((dote s t : Nat) : Int)]) ∧ ∃ n, w' = w.drewN n := by
  by_cases h : s.size = t.size
  · refine (dot_any B s t w hF hs h).mono ?_
    rintro e w' ⟨rfl, hw⟩
    exact ⟨ret_pair (by simp [dotv, h]) (by simp [dote, h]), hw⟩
  · refine (dot_shape B s t w h).mono ?_
    rintro e w' ⟨rfl, rfl⟩
    exact ⟨ret_pair (by simp [dotv, h]) (by simp [dote, h]), 0, rfl⟩

theorem new_below (w : World) :
    Calls Try.prog 37 #[] w fun e w' => e = .returned (.pointer (some ⟨w.heap.size, 0, none⟩)) ∧ FieldAt w' w.heap.size ∧ Below w.heap.size w w' := by
  refine (new_any w).mono ?_
  rintro e w' ⟨rfl, rfl⟩
  exact ⟨rfl, FieldAt.new w, (Below.refl _ w).alloc (Nat.le_refl _) _⟩

theorem below_step {H : Nat} {w w1 w2 : World} (h : Below H w w1) (h2 : Below w1.heap.size w1 w2) (hH : H ≤ w1.heap.size) : Below H w w2 := h.trans (h2.mono hH)

end Go.Proofs.Ytmnciipfepeccaa
