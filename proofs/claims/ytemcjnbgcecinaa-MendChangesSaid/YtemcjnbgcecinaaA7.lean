/- Parts of the proof, joined: MatGen, MatGens, MatLandGen, MatLandMul; their conditions stand with each. -/
import Derived.Deep.RegionHeld3
import Derived.Deep.DeepCutAuto
import Derived.Deep.DrawnRows
import Derived.Test.YtemcjnbgcecinaaA3
import Derived.Test.YtemcjnbgcecinaaA6

/- What the document's own generator is; one contract; no condition but the form's reach. -/
namespace Go.Proofs.Ytemcjnbgcecinaa
open Go.RowKit

theorem bytes_to {P : Program} (w : World) (src dst e : TypeId) (s : ByteArray) (hs : P.underlying src = some .string) (hd : P.underlying dst = some (.slice e)) (he : P.underlying e = some (.int .u8)) (base : Nat) (hb : base ≤ w.heap.size) (n : Nat) (hn : s.size = n) (hm : n ≤ maxLen) :
    ∃ v w', (convert src dst (.string s)).run P w = .ok v w' ∧ OwnsM w' base e v n (cellsU s.data.toList) ∧ Below w.heap.size w w' := by
  subst hn
  exact ⟨_, _, run_bytes_of_string w src dst e s hs hd he, ownsM_new w e s base hb hm, (Below.refl _ w).drew.alloc (Nat.le_refl _) _⟩

theorem gen_head (k m : Nat) : (tabL (k + m) k (GfU.gen k)).take (k * k) = tabL k k GfU.one := by
  apply List.ext_getElem?
  intro p
  rw [List.getElem?_take]
  by_cases h : p < k * k
  · have hd : p / k < k := Nat.div_lt_of_lt_mul h
    rw [if_pos h, tab_at (k + m) k _ p (Nat.lt_of_lt_of_le h (Nat.mul_le_mul_right k (by omega))), tab_at k k _ p h]
    unfold GfU.gen
    rw [if_pos hd]
  · rw [if_neg h, List.getElem?_eq_none (by rw [tab_length]; omega)]

theorem gen_low (k n j : Nat) (h1 : k + n < 256) (hj : j < 256) : ((GfM.divv 1 ((k + n) ^^^ j) : Nat) : Int) = ((GfU.gen k (k + n) j).toNat : Int) := by
  have hx : (k + n) ^^^ j < 2 ^ 8 := Nat.xor_lt_two_pow (by omega) (by omega)
  unfold GfU.gen
  rw [if_neg (by omega), GfU.iv_toNat, GfU.toNat_ofNat (by omega)]

theorem Try.cellsOf (a b c : Value) (w : World) : (Instr.field 59 (.agg #[a, b, c]) 2).run Try.prog w = .ok c w := by kernel_rfl

set_option maxRecDepth 20000 in
set_option maxHeartbeats 2000000 in
theorem rmade_any (k m : Nat) (w : World) (h1 : 1 ≤ k) (h2 : k + m ≤ 255) :
    Calls Try.prog 33 #[.int .i64 (k : Int), .int .i64 (m : Int)] w fun e w' =>
      e = .returned (.agg #[.int .i64 ((k : Int) + (m : Int)), .int .i64 (k : Int), .string ⟨(tabL (k + m) k (GfU.gen k)).toArray⟩]) ∧ Below w.heap.size w w' := by
  obtain ⟨i0, hi, hz0, hz1, hz2⟩ := info_parts Try.infoU8
  have hkk : k * k ≤ 65025 := Nat.mul_le_mul (show k ≤ 255 by omega) (show k ≤ 255 by omega)
  go_enter Try.func33, Try.ntmps33
  go_wp2_with fail
  obtain ⟨s0, bZ⟩ := blk1 w (.cells #[.int .i64 0, .int .i64 0, .string ⟨#[]⟩] 59)
  have BW : Hid (Below w.heap.size w (w.alloc (.cells #[.int .i64 0, .int .i64 0, .string ⟨#[]⟩] 59))) := (Below.refl _ w).alloc (Nat.le_refl _) _
  generalize w.alloc (.cells #[.int .i64 0, .int .i64 0, .string ⟨#[]⟩] 59) = w0 at s0 bZ BW ⊢
  have S0 := Lib.hid s0
  have BZ := Lib.hid bZ
  clear bZ
  refine (rone_any k _ h1 (by omega)).mono ?_
  rintro e w1 ⟨rfl, hb1⟩
  obtain ⟨v0, W2, hcv, ho, hb2⟩ := bytes_to (P := Try.prog) w1 9 48 5 ⟨(tabL k k GfU.one).toArray⟩ Try.underlying9 Try.underlying48 Try.underlying5 (w.heap.size + 1) (by have := hb1.size; omega) (k * k) (size_tab k k _) (by unfold maxLen; omega)
  have HO := Lib.hid ho
  have hfd := Try.cellsOf
  have HB : Hid (Below (w.heap.size + 1) w0 W2) := (hb1.mono (by omega)).trans (hb2.mono (by have := hb1.size; omega))
  clear ho hb1 hb2 s0
  go_wp2_with fail
  go_loopw [5, 6, 7, 8, 9] (fun v i _ _ _ wr => ∃ n : Nat, n ≤ m ∧ i = .int .i64 (n : Int) ∧ Hid (OwnsM wr (w.heap.size + 1) 5 v ((k + n) * k) (cellsU ((tabL (k + m) k (GfU.gen k)).take ((k + n) * k)))) ∧ Hid (Below (w.heap.size + 1) w0 wr)) (fun _ i _ _ _ _ => m - (intOf i).toNat)
  case atStart => exact ⟨0, by omega, rfl, by have h := HO.out; rw [← gen_head k m] at h; exact h, HB.out⟩
  case round =>
    obtain ⟨n, hn, rfl, hown, hbel⟩ := hrel
    clear HO HB hcv hfd
    by_cases hlt : n < m
    · go_wp2_with fail
      obtain ⟨wn, rfl⟩ : ∃ wn : World, wn = wr := ⟨_, rfl⟩
      go_loopw [5, 7, 8, 9] (fun v i _ _ wr => ∃ j : Nat, j ≤ k ∧ i = .int .i64 (j : Int) ∧ Hid (OwnsM wr (w.heap.size + 1) 5 v ((k + n) * k + j) (cellsU ((tabL (k + m) k (GfU.gen k)).take ((k + n) * k + j)))) ∧ Hid (Below (w.heap.size + 1) w0 wr)) (fun _ i _ _ _ => k - (intOf i).toNat)
      case atStart => exact ⟨0, by omega, rfl, hown, hbel⟩
      case round =>
        clear hown hbel
        obtain ⟨j, hj, rfl, hown, hbel⟩ := hrel
        by_cases hlt2 : j < k
        · have y0 : (k + n) * k + j < 65025 := Nat.lt_of_lt_of_le (place_lt (r := 255) (show k + n < 255 by omega) hlt2) (Nat.mul_le_mul (Nat.le_refl 255) (show k ≤ 255 by omega))
          have hx : (k + n) ^^^ j < 256 := Nat.xor_lt_two_pow (n := 8) (by omega) (by omega)
          have s1 : IntKind.i64.wrap ((k : Int) + (n : Int)) = (k : Int) + (n : Int) := i64_wrap (by omega) (by omega)
          have s2 : bits .xor .i64 ((k : Int) + (n : Int)) (j : Int) = (((k + n) ^^^ j : Nat) : Int) := by rw [← Int.natCast_add]; exact i64_xor_nat _ _ (by omega) (by omega)
          have E := Lib.hid (gen_low k n j (by omega) (by omega))
          have HX := Lib.hid hx
          go_wp2_with fail
          refine (rinv_at _ ((k + n) ^^^ j) _ ?e1 (by have := HX.out; omega)).mono ?_
          case e1 => rfl
          rintro e w' ⟨rfl, rfl⟩
          rw [E.out]
          go_wp2_with (at_builtin; refine wpList_append_mark _ rfl _ _ 48 rfl (w.heap.size + 1) 5 i0 Try.underlying48 hi hz0 hz1 hz2 _ _ _ rfl (hown.out.alloc _) ⟨wr.heap.size, 0, none⟩ 1 (.int .u8 ((GfU.gen k (k + n) j).toNat : Int)) rfl ?c1 rfl ?c2 ?c3 ?_)
          case c1 => exact (World.cell?_alloc_mark _ _ _ _ 0).trans rfl
          case c2 => omega
          case c3 => have := hbel.out.size; have := S0.out; simp; omega
          intro v' w1 hown' hgrow
          have HBl := Lib.hid (below_mark hown.out hbel.out (by have := S0.out; omega) hgrow)
          rw [take_tab (k + m) k (GfU.gen k) (k + n) j (by omega) hlt2] at hown'
          have HO := Lib.hid hown'
          clear hown' hgrow
          go_wp2_with fail
          go_roundw
          case rel => exact ⟨j + 1, by omega, by go_num, HO.out, HBl.out⟩
          case measure => simp [intOf]; omega
        · obtain rfl : j = k := by omega
          go_wp2_with fail
          go_roundw
          case rel => exact ⟨n + 1, by omega, by go_num, by rw [← Nat.add_assoc, Nat.add_mul (j + n) 1, Nat.one_mul]; exact hown.out, hbel.out⟩
          case measure => simp [intOf]; omega
    · obtain rfl : n = m := by omega
      obtain ⟨g, cap, rfl, hcells⟩ := hown.out.cells (Nat.mul_pos (by omega) (by omega))
      have hL : (tabL (k + n) k (GfU.gen k)).length = (k + n) * k := tab_length _ _ _
      have hcv := run_convert_bytes_back (P := Try.prog) wr 48 9 5 ⟨g, 0, none⟩ cap (tabL (k + n) k (GfU.gen k)) Try.underlying48 Try.underlying5 Try.underlying9 (fun j hj => by
        have ha : (⟨g, 0, none⟩ : Addr).add j = ⟨g, j, none⟩ := by unfold Addr.add; split <;> simp_all
        rw [ha]
        refine hcells j _ ?_
        unfold cellsU
        rw [List.take_of_length_le (by omega), List.getElem?_map, List.getElem?_eq_getElem hj]; rfl)
      rw [hL] at hcv
      have bZr := (hbel.out.block w.heap.size (by omega)).trans BZ.out
      have c0 := blk_cell (j := 0) bZr rfl
      have c1 := blk_cell (j := 1) bZr rfl
      have c2 := blk_cell (j := 2) bZr rfl
      have cf := blk_free bZr
      clear bZr hL hcells
      go_wp2_with fail
      exact bodyPost_ret (v := .agg #[.int .i64 ((k : Int) + (n : Int)), .int .i64 (k : Int), .string ⟨(tabL (k + n) k (GfU.gen k)).toArray⟩]) (by simp [results, Try.results33, go_sem, c0, c1, c2]) rfl
        ⟨rfl, below_agg3 (BW.out.trans (hbel.out.mono (by omega))) (by omega) _ _ _⟩

end Go.Proofs.Ytemcjnbgcecinaa

/- Generators are those of the document: the law's walk, over what the package's Generator answers. -/
namespace Go.Proofs.Ytemcjnbgcecinaa
open Go.RowKit

/-- a generator's rows, columns, bytes and number, or why there is none -/
def genAns (k m : Int) : Value :=
  if 1 ≤ k ∧ k ≤ 255 ∧ 0 ≤ m ∧ m ≤ 255 - k then .tuple #[.agg #[.int .i64 (k + m), .int .i64 k, .string ⟨(tabL (k.toNat + m.toNat) k.toNat (GfU.gen k.toNat)).toArray⟩], .int .i64 0]
  else .tuple #[.agg #[.int .i64 0, .int .i64 0, .string ⟨#[]⟩], .int .i64 1]

theorem genAns_form (k m : Int) : ∃ x y z e, genAns k m = .tuple #[.agg #[.int .i64 x, .int .i64 y, .string z], .int .i64 e] := by
  unfold genAns
  split
  · exact ⟨_, _, _, _, rfl⟩
  · exact ⟨_, _, _, _, rfl⟩

def GenAll : Prop := ∀ (k m : Int) (w : World), Calls Try.prog 44 #[.int .i64 k, .int .i64 m] w fun e w' => e = .returned (genAns k m) ∧ Below w.heap.size w w'

end Go.Proofs.Ytemcjnbgcecinaa

/- What the landed package matrix makes out of two numbers: identities and generators; no condition but the range. -/
namespace Go.Proofs.Ytemcjnbgcecinaa
open Go.RowKit

theorem blk4 (w : World) (A B C D : Obj) : ((((w.alloc A).alloc B).alloc C).alloc D).heap.size = w.heap.size + 1 + 1 + 1 + 1 ∧ ((((w.alloc A).alloc B).alloc C).alloc D).heap[w.heap.size]? = some A ∧
    ((((w.alloc A).alloc B).alloc C).alloc D).heap[w.heap.size + 1]? = some B ∧ ((((w.alloc A).alloc B).alloc C).alloc D).heap[w.heap.size + 1 + 1]? = some C ∧ ((((w.alloc A).alloc B).alloc C).alloc D).heap[w.heap.size + 1 + 1 + 1]? = some D := by
  obtain ⟨s1, b1, b2, b3⟩ := blk3 w A B C
  obtain ⟨s2, b4⟩ := blk1 (((w.alloc A).alloc B).alloc C) D
  refine ⟨by omega, ?_, ?_, ?_, by rw [s1] at b4; exact b4⟩
  · rw [heap_alloc_old _ _ (by omega)]; exact b1
  · rw [heap_alloc_old _ _ (by omega)]; exact b2
  · rw [heap_alloc_old _ _ (by omega)]; exact b3

theorem fieldAt_blk {w : World} {B : Nat} (h : w.heap[B]? = some (.cells (Cf 255) 94 (0, 0))) : FieldAt w B := by
  obtain ⟨h1, h2⟩ := Cf_at 255 (by omega)
  constructor
  · intro i hi
    refine blk_cell h ?_
    by_cases e : i < 255
    · exact (h1 i e).1
    · have := (h1 (i - 255) (by omega)).2
      rw [show i - 255 + 255 = i from by omega] at this
      rw [this, ← GfM.pw_per (i - 255), show i - 255 + 255 = i from by omega]
  · intro i hi
    exact blk_cell h (h2 i hi)

theorem Try.eg30 : ∀ args w, (callFunc 67 args).run Try.prog w = .ok (.enter 67 args) w := enters_of Try.func67 (by kernel_rfl) rfl

theorem Try.eg46 : ∀ args w, (callFunc 66 args).run Try.prog w = .ok (.enter 66 args) w := enters_of Try.func66 (by kernel_rfl) rfl

theorem unit_gives (W : World) (n : Nat) (hn : n ≤ 255) : Gives2 67 #[] #[] W n n GfU.one := by
  intro i j w hi hj _
  exact (unit_any i j w (by omega) (by omega)).mono fun e w' ⟨h1, h2⟩ => ⟨h1, by rw [h2]; exact Below.refl _ _⟩

set_option maxRecDepth 20000 in
set_option maxHeartbeats 1000000 in
theorem gen_cell (k B fb kb i j : Nat) (w : World) (hk : k ≤ 255) (hi : i ≤ 255) (hj : j < k) (hF : FieldAt w B) (hfb : w.cell? ⟨fb, 0, none⟩ = some (.pointer (some ⟨B, 0, none⟩))) (hkb : w.cell? ⟨kb, 0, none⟩ = some (.int .i64 (k : Int))) :
    Calls Try.prog 66 #[.int .i64 (i : Int), .int .i64 (j : Int), .pointer (some ⟨kb, 0, none⟩), .pointer (some ⟨fb, 0, none⟩)] w fun e w' => e = .returned (.int .u8 ((GfU.gen k i j).toNat : Int)) ∧ ∃ q, w' = w.drewN q := by
  have HF := Lib.hid hF
  clear hF
  by_cases hlt : i < k
  · have E : Hid (GfU.gen k i j = GfU.one i j) := if_pos hlt
    go_enter Try.func66, Try.ntmps66
    go_wp2_with fail
    refine (unit_any i j _ (by omega) (by omega)).mono ?_
    rintro e w1 ⟨rfl, rfl⟩
    go_wp2_with fail
    go_ret
    exact ⟨by rw [E.out]; rfl, 0, rfl⟩
  · have hx : i ^^^ j < 256 := Nat.xor_lt_two_pow (n := 8) (by omega) (by omega)
    have s2 : bits .xor .i64 (i : Int) (j : Int) = ((i ^^^ j : Nat) : Int) := i64_xor_nat _ _ (by omega) (by omega)
    have E : Hid (((GfM.divv 1 (i ^^^ j) : Nat) : Int) = ((GfU.gen k i j).toNat : Int)) := by
      obtain ⟨n, rfl⟩ : ∃ n, i = k + n := ⟨i - k, by omega⟩
      exact gen_low k n j (by omega) (by omega)
    have HX := Lib.hid hx
    go_enter Try.func66, Try.ntmps66
    go_wp2_with fail
    refine (inv_at B _ (i ^^^ j) _ HF.out ?e1 (by have := HX.out; omega)).mono ?_
    case e1 => first | rfl | (have := HX.out; simp [IntKind.wrap, IntKind.bits, IntKind.signed]; omega)
    rintro e w1 ⟨rfl, q, rfl⟩
    rw [E.out]
    go_wp2_with fail
    go_ret
    exact ⟨rfl, q, rfl⟩

set_option maxRecDepth 20000 in
set_option maxHeartbeats 1000000 in
theorem gen_yes (k m : Nat) (w : World) (h1 : 1 ≤ k) (h2 : k + m ≤ 255) :
    Calls Try.prog 44 #[.int .i64 (k : Int), .int .i64 (m : Int)] w fun e w' =>
      e = .returned (.tuple #[.agg #[.int .i64 ((k : Int) + (m : Int)), .int .i64 (k : Int), .string ⟨(tabL (k + m) k (GfU.gen k)).toArray⟩], .int .i64 0]) ∧ Below w.heap.size w w' := by
  have h3 : k ≤ 255 := by omega
  have t1 : IntKind.i64.wrap (255 - (k : Int)) = 255 - (k : Int) := i64_wrap (by omega) (by omega)
  have t2 : (m : Int) ≤ 255 - (k : Int) := by omega
  have hd : decide (1 ≤ (k : Int) ∧ (k : Int) ≤ 255) = true := by simp; omega
  have HD := Lib.hid hd
  clear hd
  go_enter Try.func44, Try.ntmps44
  go_wp2_with fail
  refine (isSide_v _ true _ HD.out).mono ?_
  rintro e w1 ⟨rfl, rfl⟩
  go_wp2_with fail
  refine (new_any _).mono ?_
  rintro e w1 ⟨rfl, rfl⟩
  go_wp2_with fail
  obtain ⟨s0, b0, b1, b2, b3⟩ := blk4 w (.cells #[.int .i64 (k : Int)] 3) (.cells #[.int .i64 0, .int .i64 0, .string ⟨#[]⟩] 59) (.cells (Cf 255) 94) (.cells #[.pointer (some ⟨w.heap.size + 1 + 1, 0, none⟩)] 70)
  have HBW : Hid (Below w.heap.size w ((((w.alloc (.cells #[.int .i64 (k : Int)] 3)).alloc (.cells #[.int .i64 0, .int .i64 0, .string ⟨#[]⟩] 59)).alloc (.cells (Cf 255) 94)).alloc (.cells #[.pointer (some ⟨w.heap.size + 1 + 1, 0, none⟩)] 70))) :=
    ((((Below.refl _ w).alloc (Nat.le_refl _) _).alloc (by simp) _).alloc (by simp; omega) _).alloc (by simp; omega) _
  generalize ((((w.alloc (.cells #[.int .i64 (k : Int)] 3)).alloc (.cells #[.int .i64 0, .int .i64 0, .string ⟨#[]⟩] 59)).alloc (.cells (Cf 255) 94)).alloc (.cells #[.pointer (some ⟨w.heap.size + 1 + 1, 0, none⟩)] 70)) = w0 at s0 b0 b1 b2 b3 HBW ⊢
  have hF : FieldAt w0 (w.heap.size + 1 + 1) := fieldAt_blk b2
  have hg : Gives2 66 #[] #[.pointer (some ⟨w.heap.size, 0, none⟩), .pointer (some ⟨w.heap.size + 1 + 1 + 1, 0, none⟩)] w0 (k + m) k (GfU.gen k) := by
    intro i j W hi hj hb
    refine Calls.mono (gen_cell k (w.heap.size + 1 + 1) (w.heap.size + 1 + 1 + 1) w.heap.size i j W h3 (by omega) hj (hF.below hb (by omega)) ((hb.cell (p := ⟨w.heap.size + 1 + 1 + 1, 0, none⟩) (by show w.heap.size + 1 + 1 + 1 < _; omega)).trans (blk_cell b3 rfl)) ((hb.cell (p := ⟨w.heap.size, 0, none⟩) (by show w.heap.size < _; omega)).trans (blk_cell b0 rfl))) ?_
    rintro e w' ⟨h1, q, rfl⟩
    exact ⟨h1, below_drewN (Below.refl _ _) q⟩
  have c0 := blk_cell (j := 0) b1 rfl
  have c1 := blk_cell (j := 1) b1 rfl
  have c2 := blk_cell (j := 2) b1 rfl
  have cf := blk_free b1
  refine Calls.mono (fill_any _ _ _ (k + m) k (GfU.gen k) w0 (by omega) h2 h1 h3 Try.eg46 hg) ?_
  rintro e w1 ⟨rfl, hb⟩
  have HB := Lib.hid hb
  have d0 : w1.cell? ⟨w.heap.size + 1, 0, none⟩ = some (.int .i64 0) := (hb.cell (p := ⟨w.heap.size + 1, 0, none⟩) (by show w.heap.size + 1 < _; omega)).trans c0
  have d1 : w1.cell? ⟨w.heap.size + 1, 1, none⟩ = some (.int .i64 0) := (hb.cell (p := ⟨w.heap.size + 1, 1, none⟩) (by show w.heap.size + 1 < _; omega)).trans c1
  have d2 : w1.cell? ⟨w.heap.size + 1, 2, none⟩ = some (.string ⟨#[]⟩) := (hb.cell (p := ⟨w.heap.size + 1, 2, none⟩) (by show w.heap.size + 1 < _; omega)).trans c2
  have df : ∀ o, w1.frozen? ⟨w.heap.size + 1, o, none⟩ = false := fun o => (hb.frozen (p := ⟨w.heap.size + 1, o, none⟩) (by show w.heap.size + 1 < _; omega)).trans (cf o)
  have S0 := Lib.hid s0
  clear hb hg hF b0 b1 b2 b3 c0 c1 c2 cf s0
  go_wp2_with fail
  exact bodyPost_ret (v := .tuple #[.agg #[.int .i64 ((k : Int) + (m : Int)), .int .i64 (k : Int), .string ⟨(tabL (k + m) k (GfU.gen k)).toArray⟩], .int .i64 0]) (by simp [results, Try.results44, go_sem, d0, d1, d2]) rfl
    ⟨rfl, below_agg3 (HBW.out.trans (HB.out.mono (by have := S0.out; omega))) (by omega) _ _ _⟩

set_option maxRecDepth 20000 in
set_option maxHeartbeats 1000000 in
theorem gen_no (k m : Int) (w : World) (h : k < 1 ∨ 255 < k ∨ m < 0 ∨ 255 - k < m) :
    Calls Try.prog 44 #[.int .i64 k, .int .i64 m] w fun e w' =>
      e = .returned (.tuple #[.agg #[.int .i64 0, .int .i64 0, .string ⟨#[]⟩], .int .i64 1]) ∧ Below w.heap.size w w' := by
  have hm : ∀ w : World, Below w.heap.size w ((w.alloc (.cells #[.int .i64 k] 3)).alloc (.cells #[.int .i64 0, .int .i64 0, .string ⟨#[]⟩] 59)) := fun w => ((Below.refl _ w).alloc (Nat.le_refl _) _).alloc (by simp) _
  have HM := Lib.hid hm
  clear hm
  by_cases a1 : 1 ≤ k ∧ k ≤ 255
  · obtain ⟨a2, a3⟩ := a1
    have HD : Hid (decide (1 ≤ k ∧ k ≤ 255) = true) := by show _ = _; simp; omega
    have t1 : IntKind.i64.wrap (255 - k) = 255 - k := i64_wrap (by omega) (by omega)
    by_cases a4 : m < 0
    · clear h
      go_enter Try.func44, Try.ntmps44
      go_wp2_with fail
      refine (isSide_v _ true _ HD.out).mono ?_
      rintro e w1 ⟨rfl, rfl⟩
      go_wp2_with fail
      exact bodyPost_ret (v := .tuple #[.agg #[.int .i64 0, .int .i64 0, .string ⟨#[]⟩], .int .i64 1]) (by simp [results, Try.results44, go_sem]) rfl
        ⟨rfl, by first | exact HM.out _ | exact below_agg3 (HM.out _) (by simp) _ _ _⟩
    · have a5 : 255 - k < m := by omega
      clear h
      go_enter Try.func44, Try.ntmps44
      go_wp2_with fail
      refine (isSide_v _ true _ HD.out).mono ?_
      rintro e w1 ⟨rfl, rfl⟩
      go_wp2_with fail
      exact bodyPost_ret (v := .tuple #[.agg #[.int .i64 0, .int .i64 0, .string ⟨#[]⟩], .int .i64 1]) (by simp [results, Try.results44, go_sem]) rfl
        ⟨rfl, by first | exact HM.out _ | exact below_agg3 (HM.out _) (by simp) _ _ _⟩
  · have HD : Hid (decide (1 ≤ k ∧ k ≤ 255) = false) := by show _ = _; simpa using a1
    clear h a1
    go_enter Try.func44, Try.ntmps44
    go_wp2_with fail
    refine (isSide_v _ false _ HD.out).mono ?_
    rintro e w1 ⟨rfl, rfl⟩
    go_wp2_with fail
    exact bodyPost_ret (v := .tuple #[.agg #[.int .i64 0, .int .i64 0, .string ⟨#[]⟩], .int .i64 1]) (by simp [results, Try.results44, go_sem]) rfl
      ⟨rfl, by first | exact HM.out _ | exact below_agg3 (HM.out _) (by simp) _ _ _⟩

theorem gen_all : GenAll := by
  intro k m w
  by_cases h : 1 ≤ k ∧ k ≤ 255 ∧ 0 ≤ m ∧ m ≤ 255 - k
  · obtain ⟨K, rfl⟩ := Int.eq_ofNat_of_zero_le (a := k) (by omega)
    obtain ⟨M, rfl⟩ := Int.eq_ofNat_of_zero_le (a := m) (by omega)
    unfold genAns
    rw [if_pos h]
    exact gen_yes K M w (by omega) (by omega)
  · unfold genAns
    rw [if_neg h]
    exact gen_no k m w (by omega)

theorem gen_example : GenExample := by
  intro w
  have h := gen_yes 2 1 w (by omega) (by omega)
  have e : (tabL (2 + 1) 2 (GfU.gen 2)).toArray = #[1, 0, 0, 1, 142, 244] := by decide +kernel
  rw [e] at h
  exact h


end Go.Proofs.Ytemcjnbgcecinaa

/- What the landed package's Mul does: a matrix turned, sums of products of its rows, the product, or why there is none; no condition but the form's reach. -/
namespace Go.Proofs.Ytemcjnbgcecinaa
open Go.RowKit

theorem Try.eg50 : ∀ args w, (callFunc 98 args).run Try.prog w = .ok (.enter 98 args) w := enters_of Try.func98 (by kernel_rfl) rfl

theorem Try.eg34 : ∀ args w, (callFunc 95 args).run Try.prog w = .ok (.enter 95 args) w := enters_of Try.func95 (by kernel_rfl) rfl

theorem rowS_size {r c i : Nat} {s : ByteArray} (hi : i < r) (hs : s.size = r * c) : (rowS s c i).size = c := by
  have h1 : (i + 1) * c ≤ r * c := Nat.mul_le_mul_right c hi
  have h2 : (i + 1) * c = i * c + c := Nat.succ_mul i c
  unfold rowS
  rw [ByteArray.size_extract]
  omega

theorem rowS_at {r c i j : Nat} {s : ByteArray} (hi : i < r) (hj : j < c) (hs : s.size = r * c) : (rowS s c i).data[j]? = some (cel s c i j) := by
  have h1 : i * c + j < r * c := place_lt hi hj
  have h2 : (i + 1) * c = i * c + c := Nat.succ_mul i c
  have h3 : i * c + j < s.data.size := by show _ < s.size; omega
  have h4 : (rowS s c i).data = s.data.extract (i * c) ((i + 1) * c) := by unfold rowS; exact ByteArray.data_extract
  rw [h4, Array.getElem?_extract, if_pos (by have : s.data.size = r * c := hs; omega), Array.getElem?_eq_getElem h3]
  unfold cel
  rw [Array.getElem?_eq_getElem h3]; rfl

theorem rowS_bt {r c i j : Nat} {s : ByteArray} (hi : i < r) (hj : j < c) (hs : s.size = r * c) : bt (rowS s c i) j = (cel s c i j).toNat := by
  unfold bt; rw [rowS_at hi hj hs]; rfl

theorem rowS_get {r c i j : Nat} {s : ByteArray} (hi : i < r) (hj : j < c) (hs : s.size = r * c) (h : j < (rowS s c i).size) : ((rowS s c i)[j]'h) = cel s c i j := by
  have e := rowS_at hi hj hs
  have h' : j < (rowS s c i).data.size := h
  rw [Array.getElem?_eq_getElem h', Option.some.injEq] at e
  exact e

theorem dotk_sum (s t : ByteArray) (f g : Nat → UInt8) (n : Nat) (hs : ∀ l, l < n → bt s l = (f l).toNat) (ht : ∀ l, l < n → bt t l = (g l).toNat) : dotk s t n = (GfU.sum n fun l => GfU.ml (f l) (g l)).toNat := by
  induction n with
  | zero => rfl
  | succ n ih =>
    unfold dotk
    rw [ih (fun l hl => hs l (by omega)) (fun l hl => ht l (by omega)), hs n (by omega), ht n (by omega), GfU.sum_succ, UInt8.toNat_xor, GfU.ml_toNat]

/-- a matrix's bytes, turned -/
def turnT (r c : Nat) (s : ByteArray) : ByteArray := ⟨(tabL c r fun i j => cel s c j i).toArray⟩

theorem turnT_size (r c : Nat) (s : ByteArray) : (turnT r c s).size = c * r := size_tab c r _

set_option maxRecDepth 20000 in
set_option maxHeartbeats 1000000 in
theorem turn_cell (r c i j mb : Nat) (s : ByteArray) (w : World) (hr : r ≤ 255) (hc : c ≤ 255) (hi : i < c) (hj : j < r) (hs : s.size = r * c) (hM : MatAt w mb (r : Int) (c : Int) s) :
    Calls Try.prog 98 #[.int .i64 (i : Int), .int .i64 (j : Int), .pointer (some ⟨mb, 0, none⟩)] w fun e w' => e = .returned (.int .u8 ((cel s c j i).toNat : Int)) ∧ Below w.heap.size w w' := by
  obtain ⟨m0, m1, m2, _⟩ := hM
  have hz := rowS_size (i := j) hj hs
  obtain ⟨R, hR⟩ : ∃ R, R = rowS s c j := ⟨_, rfl⟩
  have hlt : i < R.size := by rw [hR, hz]; exact hi
  have E : Hid ((R[i]'hlt).toNat = (cel s c j i).toNat) := by
    show _ = _
    subst hR
    rw [rowS_get hj hi hs]
  have C : Hid (∀ w : World, Calls Try.prog 71 #[.agg #[.int .i64 (r : Int), .int .i64 (c : Int), .string s], .int .i64 (j : Int)] w fun e w' => e = .returned (.string R) ∧ Below w.heap.size w w') := by
    subst hR; exact fun w => cells_any r c j s w hr hc hj hs
  clear hR hz hs
  go_enter Try.func98, Try.ntmps98
  go_wp2_with fail
  refine (C.out _).mono ?_
  rintro e w1 ⟨rfl, hb⟩
  have HB := Lib.hid hb
  clear hb
  go_wp2_with fail
  go_ret
  exact ⟨by rw [← E.out]; rfl, HB.out⟩

set_option maxRecDepth 20000 in
set_option maxHeartbeats 1000000 in
theorem turn_any (r c : Nat) (s : ByteArray) (w : World) (h1 : 1 ≤ r) (h2 : r ≤ 255) (h3 : 1 ≤ c) (h4 : c ≤ 255) (hs : s.size = r * c) :
    Calls Try.prog 94 #[.agg #[.int .i64 (r : Int), .int .i64 (c : Int), .string s]] w fun e w' =>
      e = .returned (.agg #[.int .i64 (c : Int), .int .i64 (r : Int), .string (turnT r c s)]) ∧ Below w.heap.size w w' := by
  have HS := Lib.hid hs
  clear hs
  go_enter Try.func94, Try.ntmps94
  go_wp2_with fail
  obtain ⟨s0, b0, b1⟩ := blk2 w (.cells #[.int .i64 (r : Int), .int .i64 (c : Int), .string s] 59) (.cells #[.int .i64 0, .int .i64 0, .string ⟨#[]⟩] 59)
  have HBW : Hid (Below w.heap.size w ((w.alloc (.cells #[.int .i64 (r : Int), .int .i64 (c : Int), .string s] 59)).alloc (.cells #[.int .i64 0, .int .i64 0, .string ⟨#[]⟩] 59))) :=
    ((Below.refl _ w).alloc (Nat.le_refl _) _).alloc (by simp) _
  generalize ((w.alloc (.cells #[.int .i64 (r : Int), .int .i64 (c : Int), .string s] 59)).alloc (.cells #[.int .i64 0, .int .i64 0, .string ⟨#[]⟩] 59)) = w0 at s0 b0 b1 HBW ⊢
  have hM : MatAt w0 w.heap.size (r : Int) (c : Int) s := ⟨blk_cell b0 rfl, blk_cell b0 rfl, blk_cell b0 rfl, by omega⟩
  have hg : Gives2 98 #[] #[.pointer (some ⟨w.heap.size, 0, none⟩)] w0 c r (fun i j => cel s c j i) := fun i j W hi hj hb => turn_cell r c i j w.heap.size s W h2 h4 hi hj HS.out (matAt_below hM hb)
  have c0 := blk_cell (j := 0) b1 rfl
  have c1 := blk_cell (j := 1) b1 rfl
  have c2 := blk_cell (j := 2) b1 rfl
  have cf := blk_free b1
  refine Calls.mono (fill_any _ _ _ c r (fun i j => cel s c j i) w0 h3 h4 h1 h2 Try.eg50 hg) ?_
  rintro e w1 ⟨rfl, hb⟩
  have HB := Lib.hid hb
  have d0 : w1.cell? ⟨w.heap.size + 1, 0, none⟩ = some (.int .i64 0) := (hb.cell (p := ⟨w.heap.size + 1, 0, none⟩) (by show w.heap.size + 1 < _; omega)).trans c0
  have d1 : w1.cell? ⟨w.heap.size + 1, 1, none⟩ = some (.int .i64 0) := (hb.cell (p := ⟨w.heap.size + 1, 1, none⟩) (by show w.heap.size + 1 < _; omega)).trans c1
  have d2 : w1.cell? ⟨w.heap.size + 1, 2, none⟩ = some (.string ⟨#[]⟩) := (hb.cell (p := ⟨w.heap.size + 1, 2, none⟩) (by show w.heap.size + 1 < _; omega)).trans c2
  have df : ∀ o, w1.frozen? ⟨w.heap.size + 1, o, none⟩ = false := fun o => (hb.frozen (p := ⟨w.heap.size + 1, o, none⟩) (by show w.heap.size + 1 < _; omega)).trans (cf o)
  have S0 := Lib.hid s0
  clear hb hg hM b0 b1 c0 c1 c2 cf s0
  go_wp2_with fail
  exact bodyPost_ret (v := .agg #[.int .i64 (c : Int), .int .i64 (r : Int), .string (turnT r c s)]) (by simp [results, Try.results94, go_sem, d0, d1, d2, turnT]) rfl
    ⟨rfl, below_agg3 (HBW.out.trans (HB.out.mono (by have := S0.out; omega))) (by omega) _ _ _⟩

/-- what a cell of a product is reckoned from -/
def MEnv (W0 : World) (B fb ab tb : Nat) (ra ca cb : Nat) (a T : ByteArray) (W : World) : Prop :=
  Below W0.heap.size W0 W ∧ FieldAt W B ∧ (W.cell? ⟨fb, 0, none⟩ = some (.pointer (some ⟨B, 0, none⟩)) ∧ fb < W.heap.size) ∧ MatAt W ab (ra : Int) (ca : Int) a ∧ MatAt W tb (cb : Int) (ca : Int) T

theorem MEnv.step {W0 W W' : World} {B fb ab tb ra ca cb : Nat} {a T : ByteArray} (h : MEnv W0 B fb ab tb ra ca cb a T W) (hb : Below W.heap.size W W') : MEnv W0 B fb ab tb ra ca cb a T W' :=
  ⟨h.1.trans (hb.mono h.1.size), h.2.1.below hb h.2.1.lt, ⟨(hb.cell (p := ⟨fb, 0, none⟩) h.2.2.1.2).trans h.2.2.1.1, Nat.lt_of_lt_of_le h.2.2.1.2 hb.size⟩, matAt_below h.2.2.2.1 hb, matAt_below h.2.2.2.2 hb⟩

theorem MEnv.drew {W0 W : World} {B fb ab tb ra ca cb : Nat} {a T : ByteArray} (h : MEnv W0 B fb ab tb ra ca cb a T W) : MEnv W0 B fb ab tb ra ca cb a T W.drew :=
  ⟨h.1.drew, h.2.1, h.2.2.1, h.2.2.2.1, h.2.2.2.2⟩

theorem MEnv.drewN {W0 W : World} {B fb ab tb ra ca cb : Nat} {a T : ByteArray} (h : MEnv W0 B fb ab tb ra ca cb a T W) (n : Nat) : MEnv W0 B fb ab tb ra ca cb a T (W.drewN n) :=
  ⟨below_drewN h.1 n, h.2.1, h.2.2.1, h.2.2.2.1, h.2.2.2.2⟩

theorem MEnv.fst {W0 W : World} {B fb ab tb ra ca cb : Nat} {a T : ByteArray} {p : Prop} (h : MEnv W0 B fb ab tb ra ca cb a T W ∧ p) : MEnv W0 B fb ab tb ra ca cb a T W := h.1

theorem MEnv.all {W0 W : World} {B fb ab tb ra ca cb : Nat} {a T : ByteArray} (h : MEnv W0 B fb ab tb ra ca cb a T W) :
    MEnv W0 B fb ab tb ra ca cb a T W ∧ W.cell? ⟨fb, 0, none⟩ = some (.pointer (some ⟨B, 0, none⟩)) ∧ W.cell? ⟨ab, 0, none⟩ = some (.int .i64 (ra : Int)) ∧ W.cell? ⟨ab, 1, none⟩ = some (.int .i64 (ca : Int)) ∧ W.cell? ⟨ab, 2, none⟩ = some (.string a) ∧ W.cell? ⟨tb, 0, none⟩ = some (.int .i64 (cb : Int)) ∧ W.cell? ⟨tb, 1, none⟩ = some (.int .i64 (ca : Int)) ∧ W.cell? ⟨tb, 2, none⟩ = some (.string T) :=
  ⟨h, h.2.2.1.1, h.2.2.2.1.1, h.2.2.2.1.2.1, h.2.2.2.1.2.2.1, h.2.2.2.2.1, h.2.2.2.2.2.1, h.2.2.2.2.2.2.1⟩

theorem MEnv.base {W0 W : World} {B fb ab tb ra ca cb : Nat} {a T : ByteArray} (h : MEnv W0 B fb ab tb ra ca cb a T W) : MEnv W B fb ab tb ra ca cb a T W := ⟨Below.refl _ _, h.2⟩

theorem MEnv.field {W0 W : World} {B fb ab tb ra ca cb : Nat} {a T : ByteArray} (h : MEnv W0 B fb ab tb ra ca cb a T W) : FieldAt W B := h.2.1

set_option maxRecDepth 20000 in
set_option maxHeartbeats 2000000 in
theorem mul_cell (ra ca cb B fb ab tb i j : Nat) (a T : ByteArray) (w : World) (h1 : ra ≤ 255) (h2 : ca ≤ 255) (h3 : cb ≤ 255) (hi : i < ra) (hj : j < cb) (ha : a.size = ra * ca) (hT : T.size = cb * ca) (hM : MEnv w B fb ab tb ra ca cb a T w) :
    Calls Try.prog 95 #[.int .i64 (i : Int), .int .i64 (j : Int), .pointer (some ⟨fb, 0, none⟩), .pointer (some ⟨ab, 0, none⟩), .pointer (some ⟨tb, 0, none⟩)] w fun e w' =>
      e = .returned (.int .u8 ((dotk (rowS a ca i) (rowS T ca j) ca : Nat) : Int)) ∧ Below w.heap.size w w' := by
  have e1 := rowS_size (i := i) hi ha
  have e2 := rowS_size (i := j) hj hT
  obtain ⟨S, hS⟩ : ∃ S, S = rowS a ca i := ⟨_, rfl⟩
  obtain ⟨R, hR⟩ : ∃ R, R = rowS T ca j := ⟨_, rfl⟩
  have C1 : Hid (∀ w : World, Calls Try.prog 71 #[.agg #[.int .i64 (ra : Int), .int .i64 (ca : Int), .string a], .int .i64 (i : Int)] w fun e w' => e = .returned (.string S) ∧ Below w.heap.size w w') := by
    subst hS; exact fun w => cells_any ra ca i a w h1 h2 hi ha
  have C2 : Hid (∀ w : World, Calls Try.prog 71 #[.agg #[.int .i64 (cb : Int), .int .i64 (ca : Int), .string T], .int .i64 (j : Int)] w fun e w' => e = .returned (.string R) ∧ Below w.heap.size w w') := by
    subst hR; exact fun w => cells_any cb ca j T w h3 h2 hj hT
  rw [← hS, ← hR]
  have D : Hid (∀ w : World, FieldAt w B → Calls Try.prog 85 #[.pointer (some ⟨B, 0, none⟩), .string S, .string R] w fun e w' => e = .returned (.tuple #[.int .u8 ((dotk S R ca : Nat) : Int), .int .i64 0]) ∧ ∃ n, w' = w.drewN n) := by
    intro w hF
    have h := dot_any B S R w hF (by rw [hS, e1]; unfold maxLen; omega) (by rw [hS, hR, e1, e2])
    rw [show S.size = ca from by rw [hS, e1]] at h
    exact h
  have M0 := Lib.hid hM
  obtain ⟨_, _, ⟨cf, _⟩, ⟨a0, a1, a2, _⟩, ⟨t0, t1, t2, _⟩⟩ := hM
  clear hS hR e1 e2 ha hT
  go_enter Try.func95, Try.ntmps95
  go_wp2_with fail
  go_region_held3 (fun w' => MEnv w B fb ab tb ra ca cb a T w' ∧ w'.cell? ⟨fb, 0, none⟩ = some (.pointer (some ⟨B, 0, none⟩)) ∧ w'.cell? ⟨ab, 0, none⟩ = some (.int .i64 (ra : Int)) ∧ w'.cell? ⟨ab, 1, none⟩ = some (.int .i64 (ca : Int)) ∧ w'.cell? ⟨ab, 2, none⟩ = some (.string a) ∧ w'.cell? ⟨tb, 0, none⟩ = some (.int .i64 (cb : Int)) ∧ w'.cell? ⟨tb, 1, none⟩ = some (.int .i64 (ca : Int)) ∧ w'.cell? ⟨tb, 2, none⟩ = some (.string T))
    (first | exact M0.out.drew.all | exact MEnv.all (by assumption))
    (first
    | (go_at_call_of 71 a; refine (C1.out _).mono ?_; rintro e w5 ⟨rfl, hb5⟩; have M5 := MEnv.step (MEnv.fst (by assumption)) hb5; clear hb5)
    | (go_at_call_of 71 T; refine (C2.out _).mono ?_; rintro e w6 ⟨rfl, hb6⟩; have M6 := MEnv.step (MEnv.fst (by assumption)) hb6; clear hb6)
    | (go_at_call 85; refine (D.out _ (MEnv.fst (by assumption)).field).mono ?_; rintro e w7 ⟨rfl, nq, rfl⟩; have M7 := MEnv.drewN (MEnv.fst (by assumption)) nq))
  all_goals go_wp2
  all_goals go_ret
  all_goals exact ⟨rfl, (MEnv.fst (by assumption)).1⟩

theorem mul_gives (ra ca cb : Nat) (a b : ByteArray) (i j : Nat) (hi : i < ra) (hj : j < cb) (ha : a.size = ra * ca) :
    dotk (rowS a ca i) (rowS (turnT ca cb b) ca j) ca = (timesF ca cb a b i j).toNat := by
  rw [dotk_sum _ _ (fun l => cel a ca i l) (fun l => cel b cb l j) ca (fun l hl => rowS_bt hi hl ha) ?_]
  · rfl
  · intro l hl
    rw [rowS_bt hj hl (turnT_size ca cb b)]
    show (cel ⟨(tabL cb ca fun i j => cel b cb j i).toArray⟩ ca j l).toNat = _
    rw [cel_tab cb ca _ j l hj hl]

set_option maxRecDepth 20000 in
set_option maxHeartbeats 2000000 in
theorem mul_yes : MulYes := by
  intro ra ca cb a b w h1 h2 h3 h4 h5 h6 ha hb
  have ka : ((chk (ra : Int) (ca : Int) a : Nat) : Int) = 0 := by rw [chk_yes h1 h2 h3 h4 ha]; rfl
  have kb : ((chk (ca : Int) (cb : Int) b : Nat) : Int) = 0 := by rw [chk_yes h3 h4 h5 h6 hb]; rfl
  have HA := Lib.hid ha
  have HB := Lib.hid hb
  clear ha hb
  go_enter Try.func78, Try.ntmps78
  go_wp2_with fail
  obtain ⟨s0, bA, bB, bZ⟩ := blk3 w (.cells #[.int .i64 (ra : Int), .int .i64 (ca : Int), .string a] 59) (.cells #[.int .i64 (ca : Int), .int .i64 (cb : Int), .string b] 59) (.cells #[.int .i64 0, .int .i64 0, .string ⟨#[]⟩] 59)
  have BW : Hid (Below w.heap.size w (((w.alloc (.cells #[.int .i64 (ra : Int), .int .i64 (ca : Int), .string a] 59)).alloc (.cells #[.int .i64 (ca : Int), .int .i64 (cb : Int), .string b] 59)).alloc (.cells #[.int .i64 0, .int .i64 0, .string ⟨#[]⟩] 59))) :=
    (((Below.refl _ w).alloc (Nat.le_refl _) _).alloc (by simp) _).alloc (by simp; omega) _
  generalize (((w.alloc (.cells #[.int .i64 (ra : Int), .int .i64 (ca : Int), .string a] 59)).alloc (.cells #[.int .i64 (ca : Int), .int .i64 (cb : Int), .string b] 59)).alloc (.cells #[.int .i64 0, .int .i64 0, .string ⟨#[]⟩] 59)) = w0 at s0 bA bB bZ BW ⊢
  refine (check_any _ _ _ _).mono ?_
  rintro e w1 ⟨rfl, hb1⟩
  have B1 : Hid (Below (w.heap.size + 3) w0 w1) := hb1.mono (by omega)
  clear hb1
  have cB0 := blk_cell (j := 0) ((B1.out.block (w.heap.size + 1) (by omega)).trans bB) rfl
  have cB1 := blk_cell (j := 1) ((B1.out.block (w.heap.size + 1) (by omega)).trans bB) rfl
  have cB2 := blk_cell (j := 2) ((B1.out.block (w.heap.size + 1) (by omega)).trans bB) rfl
  go_wp2_with fail
  refine (check_any _ _ _ _).mono ?_
  rintro e w2 ⟨rfl, hb2⟩
  have B2 : Hid (Below (w.heap.size + 3) w0 w2) := B1.out.trans (hb2.mono (by have := B1.out.size; omega))
  clear hb2 cB0 cB1 cB2
  have cA1 := blk_cell (j := 1) ((B2.out.block w.heap.size (by omega)).trans bA) rfl
  have cB0 := blk_cell (j := 0) ((B2.out.block (w.heap.size + 1) (by omega)).trans bB) rfl
  go_wp2_with fail
  refine (new_any _).mono ?_
  rintro e w3 ⟨rfl, rfl⟩
  clear cA1 cB0
  have hz2 := B2.out.size
  obtain ⟨s4, b40, b41⟩ := blk2 w2 (.cells (Cf 255) 94) (.cells #[.pointer (some ⟨w2.heap.size, 0, none⟩)] 70)
  have B4 : Hid (Below (w.heap.size + 3) w0 ((w2.alloc (.cells (Cf 255) 94)).alloc (.cells #[.pointer (some ⟨w2.heap.size, 0, none⟩)] 70))) :=
    (B2.out.alloc (by omega) _).alloc (by simp; omega) _
  have eb : ((w2.alloc (.cells (Cf 255) 94)).alloc (.cells #[.pointer (some ⟨w2.heap.size, 0, none⟩)] 70)).cell? ⟨w.heap.size + 1, 0, none⟩ = some (.int .i64 (ca : Int)) := blk_cell (j := 0) ((B4.out.block (w.heap.size + 1) (by omega)).trans bB) rfl
  have eb1 : ((w2.alloc (.cells (Cf 255) 94)).alloc (.cells #[.pointer (some ⟨w2.heap.size, 0, none⟩)] 70)).cell? ⟨w.heap.size + 1, 1, none⟩ = some (.int .i64 (cb : Int)) := blk_cell (j := 1) ((B4.out.block (w.heap.size + 1) (by omega)).trans bB) rfl
  have eb2 : ((w2.alloc (.cells (Cf 255) 94)).alloc (.cells #[.pointer (some ⟨w2.heap.size, 0, none⟩)] 70)).cell? ⟨w.heap.size + 1, 2, none⟩ = some (.string b) := blk_cell (j := 2) ((B4.out.block (w.heap.size + 1) (by omega)).trans bB) rfl
  go_wp2_with fail
  clear eb eb1 eb2
  generalize ((w2.alloc (.cells (Cf 255) 94)).alloc (.cells #[.pointer (some ⟨w2.heap.size, 0, none⟩)] 70)) = w4 at s4 b40 b41 B4 ⊢
  refine (turn_any ca cb b _ h3 h4 h5 h6 HB.out).mono ?_
  rintro e w5 ⟨rfl, hb5⟩
  obtain ⟨s6, b6⟩ := blk1 w5 (.cells #[.int .i64 (cb : Int), .int .i64 (ca : Int), .string (turnT ca cb b)] 59)
  have hz5 := hb5.size
  have B6 : Hid (Below w4.heap.size w4 (w5.alloc (.cells #[.int .i64 (cb : Int), .int .i64 (ca : Int), .string (turnT ca cb b)] 59))) := hb5.alloc hz5 _
  have C6 : Hid (Below (w.heap.size + 3) w0 (w5.alloc (.cells #[.int .i64 (cb : Int), .int .i64 (ca : Int), .string (turnT ca cb b)] 59))) := B4.out.trans (B6.out.mono (by omega))
  have bA6 := (C6.out.block w.heap.size (by omega)).trans bA
  have bB6 := (C6.out.block (w.heap.size + 1) (by omega)).trans bB
  have bZ6 := (C6.out.block (w.heap.size + 2) (by omega)).trans bZ
  have cA0 := blk_cell (j := 0) bA6 rfl
  have cB1 := blk_cell (j := 1) bB6 rfl
  go_wp2_with fail
  have HE : Hid (MEnv (w5.alloc (.cells #[.int .i64 (cb : Int), .int .i64 (ca : Int), .string (turnT ca cb b)] 59)) w2.heap.size (w2.heap.size + 1) w.heap.size w5.heap.size ra ca cb a (turnT ca cb b) (w5.alloc (.cells #[.int .i64 (cb : Int), .int .i64 (ca : Int), .string (turnT ca cb b)] 59))) := by
    refine ⟨Below.refl _ _, fieldAt_blk ((B6.out.block w2.heap.size (by omega)).trans b40), ⟨blk_cell ((B6.out.block (w2.heap.size + 1) (by omega)).trans b41) rfl, by omega⟩, ⟨cA0, blk_cell bA6 rfl, blk_cell bA6 rfl, by omega⟩, ⟨blk_cell b6 rfl, blk_cell b6 rfl, blk_cell b6 rfl, by omega⟩⟩
  clear cA0 cB1 bA6 bB6 b6
  generalize (w5.alloc (.cells #[.int .i64 (cb : Int), .int .i64 (ca : Int), .string (turnT ca cb b)] 59)) = w6 at s6 B6 C6 bZ6 HE ⊢
  have hg : Gives2 95 #[] #[.pointer (some ⟨w2.heap.size + 1, 0, none⟩), .pointer (some ⟨w.heap.size, 0, none⟩), .pointer (some ⟨w5.heap.size, 0, none⟩)] w6 ra cb (timesF ca cb a b) := by
    intro i j W hi hj hb
    have h := mul_cell ra ca cb w2.heap.size (w2.heap.size + 1) w.heap.size w5.heap.size i j a (turnT ca cb b) W h2 h4 h6 hi hj HA.out (turnT_size ca cb b) (MEnv.base (HE.out.step hb))
    rw [mul_gives ra ca cb a b i j hi hj HA.out] at h
    exact h
  refine Calls.mono (fill_any _ _ _ ra cb (timesF ca cb a b) w6 h1 h2 h5 h6 Try.eg34 hg) ?_
  rintro e w7 ⟨rfl, hb7⟩
  have bZ7 := (hb7.block (w.heap.size + 2) (by omega)).trans bZ6
  have HB7 := Lib.hid hb7
  have d0 := blk_cell (j := 0) bZ7 rfl
  have d1 := blk_cell (j := 1) bZ7 rfl
  have d2 := blk_cell (j := 2) bZ7 rfl
  have df := blk_free bZ7
  have S0 := Lib.hid s0
  have S6 : Hid (w.heap.size + 3 ≤ w6.heap.size) := by show _ ≤ _; omega
  clear hb7 hg HE bZ6 bZ7 B6 s6 hb5 hz5 hz2 b40 b41 B4 s4 B1 B2 bA bB bZ s0
  go_wp2_with fail
  exact bodyPost_ret (v := .tuple #[.agg #[.int .i64 (ra : Int), .int .i64 (cb : Int), .string ⟨(tabL ra cb (timesF ca cb a b)).toArray⟩], .int .i64 0]) (by simp [results, Try.results78, go_sem, d0, d1, d2]) rfl
    ⟨rfl, below_agg3 ((BW.out.trans (C6.out.mono (by omega))).trans (HB7.out.mono (by have := S6.out; omega))) (by omega) _ _ _⟩

set_option maxRecDepth 20000 in
set_option maxHeartbeats 2000000 in
theorem mul_no (ra ca rb cb : Int) (a b : ByteArray) (w : World) (h : ¬ may ra ca a ∨ ¬ may rb cb b ∨ ca ≠ rb) :
    Calls Try.prog 78 #[.agg #[.int .i64 ra, .int .i64 ca, .string a], .agg #[.int .i64 rb, .int .i64 cb, .string b]] w fun e w' =>
      e = .returned (.tuple #[.agg #[.int .i64 0, .int .i64 0, .string ⟨#[]⟩], .int .i64 4]) ∧ Below w.heap.size w w' := by
  by_cases ma : may ra ca a
  · have ka : ((chk ra ca a : Nat) : Int) = 0 := by unfold chk; rw [if_pos ma]; rfl
    have hne : ¬ may rb cb b ∨ ca ≠ rb := h.resolve_left (fun x => x ma)
    clear h
    by_cases mb : may rb cb b
    · have kb : ((chk rb cb b : Nat) : Int) = 0 := by unfold chk; rw [if_pos mb]; rfl
      have hc : ca ≠ rb := hne.resolve_left (fun x => x mb)
      have t1 : (ca != rb) = true := by simp [hc]
      have t2 : (ca == rb) = false := by simp [hc]
      clear hne ma mb hc
      go_enter Try.func78, Try.ntmps78
      go_wp2_with fail
      refine (check_any _ _ _ _).mono ?_
      rintro e w1 ⟨rfl, hb1⟩
      have B1 := Lib.hid hb1
      obtain ⟨hc1, hf1⟩ := bcell hb1
      have hz1 := hb1.size
      clear hb1
      go_wp2_with fail
      refine (check_any _ _ _ _).mono ?_
      rintro e w2 ⟨rfl, hb2⟩
      have B2 := Lib.hid hb2
      obtain ⟨hc2, hf2⟩ := bcell hb2
      have hz2 := hb2.size
      clear hb2
      simp at hz1
      have x0 : w.heap.size < w1.heap.size := by omega
      have x1 : w.heap.size + 1 < w1.heap.size := by omega
      have x2 : w.heap.size + 1 + 1 < w1.heap.size := by omega
      go_wp2_with fail
      exact bodyPost_ret (v := .tuple #[.agg #[.int .i64 0, .int .i64 0, .string ⟨#[]⟩], .int .i64 4]) (by simp [results, Try.results78, go_sem, hc2, hc1, x2]) rfl
        ⟨rfl, below_agg3 ((below_new3 B1.out).trans (B2.out.mono (by omega))) (by omega) _ _ _⟩
    · have kb : ((chk rb cb b : Nat) : Int) = 4 := by rw [chk_no mb]; rfl
      clear hne ma mb
      go_enter Try.func78, Try.ntmps78
      go_wp2_with fail
      refine (check_any _ _ _ _).mono ?_
      rintro e w1 ⟨rfl, hb1⟩
      have B1 := Lib.hid hb1
      obtain ⟨hc1, hf1⟩ := bcell hb1
      have hz1 := hb1.size
      clear hb1
      go_wp2_with fail
      refine (check_any _ _ _ _).mono ?_
      rintro e w2 ⟨rfl, hb2⟩
      have B2 := Lib.hid hb2
      obtain ⟨hc2, hf2⟩ := bcell hb2
      have hz2 := hb2.size
      clear hb2
      simp at hz1
      have x2 : w.heap.size + 1 + 1 < w1.heap.size := by omega
      go_wp2_with fail
      exact bodyPost_ret (v := .tuple #[.agg #[.int .i64 0, .int .i64 0, .string ⟨#[]⟩], .int .i64 4]) (by simp [results, Try.results78, go_sem, hc2, hc1, x2]) rfl
        ⟨rfl, below_agg3 ((below_new3 B1.out).trans (B2.out.mono (by omega))) (by omega) _ _ _⟩
  · have ka : ((chk ra ca a : Nat) : Int) = 4 := by rw [chk_no ma]; rfl
    clear h ma
    go_enter Try.func78, Try.ntmps78
    go_wp2_with fail
    refine (check_any _ _ _ _).mono ?_
    rintro e w1 ⟨rfl, hb1⟩
    have B1 := Lib.hid hb1
    obtain ⟨hc1, hf1⟩ := bcell hb1
    clear hb1
    go_wp2_with fail
    exact bodyPost_ret (v := .tuple #[.agg #[.int .i64 0, .int .i64 0, .string ⟨#[]⟩], .int .i64 4]) (by simp [results, Try.results78, go_sem, hc1]) rfl
      ⟨rfl, below_agg3 (below_new3 B1.out) (by omega) _ _ _⟩

end Go.Proofs.Ytemcjnbgcecinaa
