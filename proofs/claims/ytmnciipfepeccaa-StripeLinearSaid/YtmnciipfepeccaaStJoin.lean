/- What the landed package stripe does: shards laid together, the length that stands ahead of an object; no condition but the range. -/
import Derived.Test.YtmnciipfepeccaaStCut
import Derived.Lib.AppendStr
namespace Go.Proofs.Ytmnciipfepeccaa
open Go.RowKit

theorem joinL_take_succ (l : List ByteArray) (j : Nat) (h : j < l.length) : St.joinL (l.take (j + 1)) = St.joinL (l.take j) ++ l[j].data.toList := by
  rw [List.take_add_one, List.getElem?_eq_getElem h, St.joinL_append]
  show _ ++ St.joinL [l[j]] = _
  rw [St.joinL_one]

theorem joinL_le (l : List ByteArray) (B : Nat) (h : ∀ s ∈ l, s.size ≤ B) : (St.joinL l).length ≤ l.length * B := by
  induction l with
  | nil => simp [St.joinL]
  | cons s r ih =>
    have h1 := ih fun x hx => h x (by simp [hx])
    have h2 := h s (by simp)
    show (s.data.toList ++ St.joinL r).length ≤ _
    rw [List.length_append, St.data_len, List.length_cons, Nat.succ_mul]
    omega

set_option maxRecDepth 20000 in
set_option maxHeartbeats 2000000 in
theorem lay_any (A : Option Addr) (c : Nat) (l : List ByteArray) (w : World) (h : StrsAt w A l) (hn : l.length ≤ 255) (hs : ∀ s ∈ l, s.size ≤ 2052) :
    Calls Try.prog 64 #[.slice A l.length c] w fun e w' =>
      ∃ v, e = .returned v ∧ w'.ownsRow w.heap.size 5 1 v (St.joinL l).length (Lib.byteCells (St.joinL l)) ∧ Below w.heap.size w w' := by
  obtain ⟨i0, hi, hz0, hz1, hz2⟩ := info_parts Try.infoU8
  have HA := Lib.hid h
  have HS := Lib.hid hs
  clear h hs
  go_enter Try.func64, Try.ntmps64
  go_wp2_with fail
  go_loopw [3, 8] (fun u i wr => ∃ j : Nat, j ≤ l.length ∧ i = .int .i64 (j : Int) ∧ Hid (wr.ownsRow w.heap.size 5 1 u (St.joinL (l.take j)).length (Lib.byteCells (St.joinL (l.take j)))) ∧ Hid (Below w.heap.size w wr)) (fun _ i _ => l.length - (intOf i).toNat)
  case atStart => exact ⟨0, by omega, rfl, World.ownsRow_nil _ _ _ _, Below.refl _ _⟩
  case round =>
    obtain ⟨j, hj, rfl, hown, hbel⟩ := hrel
    by_cases hlt : j < l.length
    · obtain ⟨ad, rfl, hab, hc⟩ := HA.out (Nat.lt_of_le_of_lt (Nat.zero_le _) hlt)
      have hcell := (cell_kept hbel.out (ad.add j) (by rw [st_block]; exact hab)).trans (hc j hlt)
      have hsz := HS.out l[j] (List.getElem_mem hlt)
      have pj : (j : Int) < (l.length : Int) := by omega
      have hl1 : (St.joinL (l.take j)).length ≤ 255 * 2052 := Nat.le_trans (joinL_le _ 2052 fun s hs => HS.out s (List.mem_of_mem_take hs)) (Nat.mul_le_mul_right _ (by rw [List.length_take]; omega))
      have hE := joinL_take_succ l j hlt
      have HE := Lib.hid hE
      have hlen : (St.joinL (l.take (j + 1))).length = (St.joinL (l.take j)).length + l[j].size := by rw [hE, List.length_append, St.data_len]
      have HLen := Lib.hid hlen
      clear hc hE hlen
      go_wp2_with (at_builtin; refine Lib.wpList_append_own_string _ rfl _ _ 61 9 rfl w.heap.size 5 i0 Try.underlying61 Try.underlying9 hi hz0 hz1 hz2 _ _ _ rfl hown.out l[j] rfl ?c1 ?c2 ?c3 ?_)
      case c1 => unfold maxLen; omega
      case c2 => omega
      case c3 => exact hbel.out.size
      intro v' w5 hown' hgrow _
      have HB : Hid (Below w.heap.size w w5) := hbel.out.grown hgrow hbel.out.size (fun k hk => (World.ownsRow.lt hown.out k hk).1)
      rw [← HLen.out] at hown'
      have HO : Hid (w5.ownsRow w.heap.size 5 1 v' (St.joinL (l.take (j + 1))).length (Lib.byteCells (St.joinL (l.take (j + 1))))) := by
        show World.ownsRow _ _ _ _ _ _ _
        have e : Lib.byteCells (St.joinL (l.take (j + 1))) = Lib.byteCells (St.joinL (l.take j)) ++ Lib.strCells l[j] := by
          rw [HE.out]; unfold Lib.byteCells Lib.strCells; rw [List.map_append]
        rw [e]; exact hown'
      clear hown' hgrow hown hbel hcell
      go_wp2_with fail
      go_roundw
      case rel => exact ⟨j + 1, by omega, by go_num, HO.out, HB.out⟩
      case measure => simp [intOf]; omega
    · obtain rfl : j = l.length := by omega
      have HO : Hid (wr.ownsRow w.heap.size 5 1 u3 (St.joinL l).length (Lib.byteCells (St.joinL l))) := by
        have := hown.out; rw [List.take_length] at this; exact this
      clear hown
      go_wp2_with fail
      go_ret
      exact ⟨_, rfl, HO.out, hbel.out⟩

/-- the number that the first j bytes are -/
def numK (L : List UInt8) (j : Nat) : Nat := (L.take j).foldl (fun a b => a * 256 + b.toNat) 0

theorem numK_succ (L : List UInt8) (j : Nat) (h : j < L.length) : numK L (j + 1) = numK L j * 256 + (L[j]'h).toNat := by
  unfold numK
  rw [List.take_add_one, List.getElem?_eq_getElem h, List.foldl_append]; rfl

theorem numK_lt (L : List UInt8) (j : Nat) : numK L j < 256 ^ j := by
  induction j with
  | zero => simp [numK]
  | succ j ih =>
    rcases Nat.lt_or_ge j L.length with h | h
    · rw [numK_succ L j h, Nat.pow_succ]
      have := (L[j]'h).toNat_lt
      omega
    · have : numK L (j + 1) = numK L j := by unfold numK; rw [List.take_of_length_le (by omega), List.take_of_length_le h]
      rw [this, Nat.pow_succ]
      omega

/-- the length ahead of an object, and whether there is one -/
def lenAns (L : List UInt8) : Value := if L.length < 4 ∨ 2048 < St.numL L ∨ L.length - 4 < St.numL L then .tuple #[.int .i64 0, .bool false] else .tuple #[.int .i64 (St.numL L : Int), .bool true]

set_option maxRecDepth 20000 in
set_option maxHeartbeats 2000000 in
theorem length_any (H : Nat) (v : Value) (L : List UInt8) (w : World) (h : w.ownsRow H 5 1 v L.length (Lib.byteCells L)) (hn : L.length ≤ 1000000000) :
    Calls Try.prog 65 #[v] w fun e w' => e = .returned (lenAns L) ∧ w' = w := by
  by_cases h4 : L.length < 4
  · have E := Lib.hid (show lenAns L = .tuple #[.int .i64 0, .bool false] by unfold lenAns; rw [if_pos (.inl h4)])
    have h4' : (L.length : Int) < 4 := by omega
    obtain ⟨A, c, rfl⟩ : ∃ A c, v = .slice A L.length c := by
      rcases h.2 with ⟨h1, h2⟩ | ⟨g, cap, cur, h1, _⟩
      · exact ⟨none, 0, by rw [h1, h2]⟩
      · exact ⟨_, _, h1⟩
    clear h
    go_enter Try.func65, Try.ntmps65
    go_wp2_with fail
    go_ret2
    exact ⟨by rw [E.out]; rfl, rfl⟩
  · obtain ⟨g, cap, rfl, _, hlt⟩ := World.ownsRow.form h (by omega)
    have hcap : L.length ≤ cap := by
      rcases h.2 with ⟨h1, h2⟩ | ⟨g', cap', cur, h1, _, _, h3, _⟩
      · simp at h1
      · simp only [Value.slice.injEq] at h1; omega
    have HC := Lib.hid (show ∀ j (hj : j < L.length), w.cell? ⟨g, j, none⟩ = some (.int .u8 ((L[j]'hj).toNat : Int)) from fun j hj => by
      rw [World.ownsRow.cellAt h j (by omega)]
      unfold Lib.byteCells
      rw [List.getElem?_map, List.getElem?_eq_getElem hj]; rfl)
    have h4' : ¬ (L.length : Int) < 4 := by omega
    have hc4 : (4 : Int) ≤ (cap : Int) := by omega
    have hc0 : ¬ cap = 0 := by omega
    clear h
    go_enter Try.func65, Try.ntmps65
    go_wp2_with fail
    go_loop [4, 13] (fun x i => ∃ j : Nat, j ≤ 4 ∧ i = .int .i64 (j : Int) ∧ x = .int .u32 ((numK L j : Nat) : Int)) (fun _ i => 4 - (intOf i).toNat)
    case atStart => exact ⟨0, by omega, rfl, rfl⟩
    case round =>
      obtain ⟨j, hj, rfl, rfl⟩ := hrel
      by_cases hlt4 : j < 4
      · have hjL : j < L.length := by omega
        have hcell := HC.out j hjL
        have pj : (j : Int) < 4 := by omega
        have hk := numK_lt L j
        have hk2 : numK L j < 16777216 := Nat.lt_of_lt_of_le hk (by have : 256 ^ j ≤ 256 ^ 3 := Nat.pow_le_pow_right (by omega) (by omega); omega)
        have hb := (L[j]'hjL).toNat_lt
        have HK := numK_succ L j hjL
        have hor : bits .or .u32 (((numK L j : Nat) : Int) * 256) ((L[j]'hjL).toNat : Int) = ((numK L (j + 1) : Nat) : Int) := by
          have e := u32_or_nat (numK L j * 256) (L[j]'hjL).toNat (by omega) (by omega)
          rw [Int.natCast_mul] at e
          have e2 := Nat.two_pow_add_eq_or_of_lt (i := 8) (show (L[j]'hjL).toNat < 2 ^ 8 by omega) (numK L j)
          rw [HK]
          refine e.trans ?_
          rw [show numK L j * 256 = 2 ^ 8 * numK L j by omega, ← e2]
        have HOR := Lib.hid hor
        clear hk HK hor
        go_wp2_with fail
        go_round
        case rel => exact ⟨j + 1, by omega, by go_num, by rw [HOR.out]⟩
        case measure => simp [intOf]; omega
      · obtain rfl : j = 4 := by omega
        have e4 : numK L 4 = St.numL L := rfl
        have hm := numK_lt L 4
        rw [e4] at hm ⊢
        generalize hM : St.numL L = M at hm ⊢
        have HM := Lib.hid hM
        clear e4 hM
        by_cases hbig : 2048 < M
        · have E := Lib.hid (show lenAns L = .tuple #[.int .i64 0, .bool false] by unfold lenAns; rw [HM.out, if_pos (.inr (.inl hbig))])
          have hb' : (2048 : Int) < (M : Int) := by omega
          go_wp2_with fail
          go_ret2
          exact ⟨by rw [E.out]; rfl, rfl⟩
        · have hb' : ¬ (2048 : Int) < (M : Int) := by omega
          by_cases hbig2 : L.length - 4 < M
          · have E := Lib.hid (show lenAns L = .tuple #[.int .i64 0, .bool false] by unfold lenAns; rw [HM.out, if_pos (.inr (.inr hbig2))])
            have hb2 : (L.length : Int) - 4 < (M : Int) := by omega
            clear hbig hbig2
            go_wp2_with fail
            go_ret2
            exact ⟨by rw [E.out]; rfl, rfl⟩
          · have E := Lib.hid (show lenAns L = .tuple #[.int .i64 (M : Int), .bool true] by unfold lenAns; rw [HM.out, if_neg (by omega)])
            have hb2 : ¬ (L.length : Int) - 4 < (M : Int) := by omega
            clear hbig hbig2
            go_wp2_with fail
            go_ret2
            exact ⟨by rw [E.out]; rfl, rfl⟩

end Go.Proofs.Ytmnciipfepeccaa
