/- Parts of the proof, joined: MatLandPick, MatShell, MatPicks, StShell, StLend, StKept, StJoins, StXor; their conditions stand with each. -/
import Derived.Test.YtemcjnbgcecinaaRows
import Derived.WalkKit
import Derived.ProofKit
import Derived.SizedLaws
import Derived.ChangeSlices
import Derived.Carry
import Derived.Laws.OwnMore
import Derived.SliceStrings
import Derived.Maps.AppendAt
import Derived.Test.YtemcjnbgcecinaaA4
import Derived.Test.YtemcjnbgcecinaaA7
import Derived.Test.YtemcjnbgcecinaaA8
import Derived.Test.YtemcjnbgcecinaaA9
import Derived.Test.YtemcjnbgcecinaaA10

/- What the landed package's Pick does: contracts; no condition but the form's reach. -/
namespace Go.Proofs.Ytemcjnbgcecinaa
open Go.RowKit

theorem Try.eg45 : ∀ args w, (callFunc 70 args).run Try.prog w = .ok (.enter 70 args) w := enters_of Try.func70 (by kernel_rfl) rfl

theorem add_block (a : Addr) (k : Nat) : (a.add k).block = a.block := by unfold Addr.add; split <;> rfl

/-- what a cell of picked rows is read from -/
def PEnv (W0 : World) (mb rb r c n cap : Nat) (s : ByteArray) (a : Addr) (b : Addr) (p : Int) (W : World) : Prop :=
  Below W0.heap.size W0 W ∧ MatAt W mb (r : Int) (c : Int) s ∧ (W.cell? ⟨rb, 0, none⟩ = some (.slice (some a) n cap) ∧ rb < W.heap.size) ∧ (W.cell? b = some (.int .i64 p) ∧ b.block < W.heap.size)

theorem PEnv.step {W0 W W' : World} {mb rb r c n cap : Nat} {s : ByteArray} {a b : Addr} {p : Int} (h : PEnv W0 mb rb r c n cap s a b p W) (hb : Below W.heap.size W W') : PEnv W0 mb rb r c n cap s a b p W' :=
  ⟨h.1.trans (hb.mono h.1.size), matAt_below h.2.1 hb, ⟨(hb.cell (p := ⟨rb, 0, none⟩) h.2.2.1.2).trans h.2.2.1.1, Nat.lt_of_lt_of_le h.2.2.1.2 hb.size⟩, ⟨(cell_kept hb b h.2.2.2.2).trans h.2.2.2.1, Nat.lt_of_lt_of_le h.2.2.2.2 hb.size⟩⟩

theorem PEnv.drew {W0 W : World} {mb rb r c n cap : Nat} {s : ByteArray} {a b : Addr} {p : Int} (h : PEnv W0 mb rb r c n cap s a b p W) : PEnv W0 mb rb r c n cap s a b p W.drew := ⟨h.1.drew, h.2⟩

theorem PEnv.fst {W0 W : World} {mb rb r c n cap : Nat} {s : ByteArray} {a b : Addr} {p : Int} {q : Prop} (h : PEnv W0 mb rb r c n cap s a b p W ∧ q) : PEnv W0 mb rb r c n cap s a b p W := h.1

theorem PEnv.all {W0 W : World} {mb rb r c n cap : Nat} {s : ByteArray} {a b : Addr} {p : Int} (h : PEnv W0 mb rb r c n cap s a b p W) :
    PEnv W0 mb rb r c n cap s a b p W ∧ W.cell? ⟨mb, 0, none⟩ = some (.int .i64 (r : Int)) ∧ W.cell? ⟨mb, 1, none⟩ = some (.int .i64 (c : Int)) ∧ W.cell? ⟨mb, 2, none⟩ = some (.string s) ∧ W.cell? ⟨rb, 0, none⟩ = some (.slice (some a) n cap) ∧ W.cell? b = some (.int .i64 p) :=
  ⟨h, h.2.1.1, h.2.1.2.1, h.2.1.2.2.1, h.2.2.1.1, h.2.2.2.1⟩

set_option maxRecDepth 20000 in
set_option maxHeartbeats 2000000 in
theorem pick_cell (r c n cap mb rb i j p : Nat) (s : ByteArray) (a : Addr) (w : World) (hr : r ≤ 255) (hc : c ≤ 255) (hi : i < n) (hj : j < c) (hp : p < r) (hs : s.size = r * c) (hM : PEnv w mb rb r c n cap s a (a.add i) (p : Int) w) :
    Calls Try.prog 70 #[.int .i64 (i : Int), .int .i64 (j : Int), .pointer (some ⟨mb, 0, none⟩), .pointer (some ⟨rb, 0, none⟩)] w fun e w' =>
      e = .returned (.int .u8 ((cel s c p j).toNat : Int)) ∧ Below w.heap.size w w' := by
  have hz := rowS_size (i := p) hp hs
  obtain ⟨R, hR⟩ : ∃ R, R = rowS s c p := ⟨_, rfl⟩
  have hlt : j < R.size := by rw [hR, hz]; exact hj
  have E : Hid ((R[j]'hlt).toNat = (cel s c p j).toNat) := by
    show _ = _
    subst hR
    rw [rowS_get hp hj hs]
  have C : Hid (∀ w : World, Calls Try.prog 71 #[.agg #[.int .i64 (r : Int), .int .i64 (c : Int), .string s], .int .i64 (p : Int)] w fun e w' => e = .returned (.string R) ∧ Below w.heap.size w w') := by
    subst hR; exact fun w => cells_any r c p s w hr hc hp hs
  have M0 := Lib.hid hM
  obtain ⟨_, ⟨a0, a1, a2, _⟩, ⟨cr, _⟩, ⟨cp, _⟩⟩ := hM
  have pi : (i : Int) < (n : Int) := by omega
  have pj : (j : Int) < (R.size : Int) := by omega
  clear hR hz hs
  go_enter Try.func70, Try.ntmps70
  go_wp2_with fail
  go_region_held3 (fun w' => PEnv w mb rb r c n cap s a (a.add i) (p : Int) w' ∧ w'.cell? ⟨mb, 0, none⟩ = some (.int .i64 (r : Int)) ∧ w'.cell? ⟨mb, 1, none⟩ = some (.int .i64 (c : Int)) ∧ w'.cell? ⟨mb, 2, none⟩ = some (.string s) ∧ w'.cell? ⟨rb, 0, none⟩ = some (.slice (some a) n cap) ∧ w'.cell? (a.add i) = some (.int .i64 (p : Int)))
    (first | exact M0.out.drew.all | exact PEnv.all (by assumption))
    (first
    | (go_at_call 71; refine (C.out _).mono ?_; rintro e w5 ⟨rfl, hb5⟩; have M5 := PEnv.step (PEnv.fst (by assumption)) hb5; clear hb5))
  all_goals go_wp2
  all_goals go_ret
  all_goals exact ⟨by rw [← E.out]; rfl, (PEnv.fst (by assumption)).1⟩

set_option maxRecDepth 20000 in
set_option maxHeartbeats 1000000 in
theorem pick_shape (r c : Int) (s : ByteArray) (a : Addr) (n cap : Nat) (w : World) (h : ¬ may r c s) :
    Calls Try.prog 45 #[.agg #[.int .i64 r, .int .i64 c, .string s], .slice (some a) n cap] w fun e w' =>
      e = .returned (.tuple #[.agg #[.int .i64 0, .int .i64 0, .string ⟨#[]⟩], .int .i64 4]) ∧ Below w.heap.size w w' := by
  have ka : ((chk r c s : Nat) : Int) = 4 := by rw [chk_no h]; rfl
  clear h
  go_enter Try.func45, Try.ntmps45
  go_wp2_with fail
  refine (check_any _ _ _ _).mono ?_
  rintro e w1 ⟨rfl, hb1⟩
  have B1 := Lib.hid hb1
  obtain ⟨hc1, hf1⟩ := bcell hb1
  clear hb1
  go_wp2_with fail
  exact bodyPost_ret (v := .tuple #[.agg #[.int .i64 0, .int .i64 0, .string ⟨#[]⟩], .int .i64 4]) (by simp [results, Try.results45, go_sem, hc1]) rfl
    ⟨rfl, below_agg3 (below_new3 B1.out) (by omega) _ _ _⟩

set_option maxRecDepth 20000 in
set_option maxHeartbeats 2000000 in
theorem pick_some (r c : Nat) (s : ByteArray) (a : Addr) (cap : Nat) (L : List Int) (w : World) (h1 : 1 ≤ r) (h2 : r ≤ 255) (h3 : 1 ≤ c) (h4 : c ≤ 255) (hs : s.size = r * c)
    (ha : a.block < w.heap.size) (hL : ∀ i (h : i < L.length), w.cell? (a.add i) = some (.int .i64 L[i])) (hm : L.length ≤ 1152921504606846976) :
    Calls Try.prog 45 #[.agg #[.int .i64 (r : Int), .int .i64 (c : Int), .string s], .slice (some a) L.length cap] w fun e w' =>
      e = .returned (pickAns r c s L) ∧ Below w.heap.size w w' := by
  have ka : ((chk (r : Int) (c : Int) s : Nat) : Int) = 0 := by rw [chk_yes h1 h2 h3 h4 hs]; rfl
  have HS := Lib.hid hs
  have HL := Lib.hid hL
  have HA := Lib.hid ha
  clear hs hL ha
  obtain ⟨n, hn⟩ : ∃ n, n = L.length := ⟨_, rfl⟩
  have HN := Lib.hid hn
  rw [← hn] at hm ⊢
  clear hn
  go_enter Try.func45, Try.ntmps45
  go_wp2_with fail
  obtain ⟨s0, bA, bR, bZ⟩ := blk3 w (.cells #[.int .i64 (r : Int), .int .i64 (c : Int), .string s] 59) (.cells #[.slice (some a) n cap] 43) (.cells #[.int .i64 0, .int .i64 0, .string ⟨#[]⟩] 59)
  have BW : Hid (Below w.heap.size w (((w.alloc (.cells #[.int .i64 (r : Int), .int .i64 (c : Int), .string s] 59)).alloc (.cells #[.slice (some a) n cap] 43)).alloc (.cells #[.int .i64 0, .int .i64 0, .string ⟨#[]⟩] 59))) :=
    (((Below.refl _ w).alloc (Nat.le_refl _) _).alloc (by simp) _).alloc (by simp; omega) _
  generalize ((w.alloc (.cells #[.int .i64 (r : Int), .int .i64 (c : Int), .string s] 59)).alloc (.cells #[.slice (some a) n cap] 43)).alloc (.cells #[.int .i64 0, .int .i64 0, .string ⟨#[]⟩] 59) = w0 at s0 bA bR bZ BW ⊢
  have S0 := Lib.hid s0
  have BA := Lib.hid bA
  have BZ := Lib.hid bZ
  have BR := Lib.hid bR
  clear s0 bA bR bZ
  refine (check_any _ _ _ _).mono ?_
  rintro e w1 ⟨rfl, hb1⟩
  have HB1 : Hid (Below (w.heap.size + 3) w0 w1) := hb1.mono (by have := S0.out; omega)
  clear hb1
  have cR0 := blk_cell (j := 0) ((HB1.out.block (w.heap.size + 1) (by omega)).trans BR.out) rfl
  go_wp2_with fail
  clear cR0
  go_loopw [17] (fun i wr => ∃ k : Nat, k ≤ n ∧ i = .int .i64 (k : Int) ∧ Hid (∀ i (h : i < L.length), i < k → 0 ≤ L[i] ∧ L[i] < (r : Int)) ∧ Hid (Below (w.heap.size + 3) w0 wr)) (fun i _ => n - (intOf i).toNat)
  case atStart => exact ⟨0, by omega, rfl, fun i _ h => absurd h (by omega), HB1.out⟩
  case round =>
    obtain ⟨k, hk, rfl, hin, hbel⟩ := hrel
    clear HB1
    have hw := BW.out.trans (hbel.out.mono (by omega))
    have cA0 := blk_cell (j := 0) ((hbel.out.block w.heap.size (by omega)).trans BA.out) rfl
    have cA1 := blk_cell (j := 1) ((hbel.out.block w.heap.size (by omega)).trans BA.out) rfl
    have cA2 := blk_cell (j := 2) ((hbel.out.block w.heap.size (by omega)).trans BA.out) rfl
    have cR0 := blk_cell (j := 0) ((hbel.out.block (w.heap.size + 1) (by omega)).trans BR.out) rfl
    by_cases hlt : k < n
    · have hkL : k < L.length := by have := HN.out; omega
      have cell := (cell_kept hw (a.add k) (by rw [show (a.add k).block = a.block by unfold Addr.add; split <;> rfl]; exact HA.out)).trans (HL.out k hkL)
      have pk : (k : Int) < (n : Int) := by omega
      have HW := Lib.hid hw
      clear hw
      obtain ⟨x, hx⟩ : ∃ x, x = L[k] := ⟨_, rfl⟩
      rw [← hx] at cell
      have HX := Lib.hid hx
      clear hx
      by_cases hx0 : x < 0
      · have bZr := (hbel.out.block (w.heap.size + 2) (by omega)).trans BZ.out
        have c0 := blk_cell (j := 0) bZr rfl
        have c1 := blk_cell (j := 1) bZr rfl
        have c2 := blk_cell (j := 2) bZr rfl
        have cf := blk_free bZr
        have hans : Hid (pickAns r c s L = .tuple #[.agg #[.int .i64 0, .int .i64 0, .string ⟨#[]⟩], .int .i64 1]) := by show _ = _; unfold pickAns; rw [if_neg fun H => by have := H k hkL; rw [← HX.out] at this; omega]
        clear bZr
        go_wp2_with fail
        exact bodyPost_ret (v := .tuple #[.agg #[.int .i64 0, .int .i64 0, .string ⟨#[]⟩], .int .i64 1]) (by simp [results, Try.results45, go_sem, c0, c1, c2]) rfl
          ⟨by rw [hans.out], below_agg3 (BW.out.trans (hbel.out.mono (by omega))) (by omega) _ _ _⟩
      · by_cases hxr : (r : Int) ≤ x
        · have bZr := (hbel.out.block (w.heap.size + 2) (by omega)).trans BZ.out
          have c0 := blk_cell (j := 0) bZr rfl
          have c1 := blk_cell (j := 1) bZr rfl
          have c2 := blk_cell (j := 2) bZr rfl
          have cf := blk_free bZr
          have hans : Hid (pickAns r c s L = .tuple #[.agg #[.int .i64 0, .int .i64 0, .string ⟨#[]⟩], .int .i64 1]) := by show _ = _; unfold pickAns; rw [if_neg fun H => by have := H k hkL; rw [← HX.out] at this; omega]
          clear bZr
          go_wp2_with fail
          exact bodyPost_ret (v := .tuple #[.agg #[.int .i64 0, .int .i64 0, .string ⟨#[]⟩], .int .i64 1]) (by simp [results, Try.results45, go_sem, c0, c1, c2]) rfl
            ⟨by rw [hans.out], below_agg3 (BW.out.trans (hbel.out.mono (by omega))) (by omega) _ _ _⟩
        · go_wp2_with fail
          go_roundw
          case rel => exact ⟨k + 1, by omega, by go_num, fun i h hi => by
            by_cases e : i = k
            · subst e; rw [← HX.out]; omega
            · exact hin.out i h (by omega), hbel.out⟩
          case measure => simp [intOf]; omega
    · obtain rfl : k = n := by omega
      have HIN : Hid (∀ i (h : i < L.length), 0 ≤ L[i] ∧ L[i] < (r : Int)) := fun i h => hin.out i h (by have := HN.out; omega)
      clear hin
      by_cases hbig : 255 < k
      · have t1 : (255 : Int) < (k : Int) := by omega
        have bZr := (hbel.out.block (w.heap.size + 2) (by omega)).trans BZ.out
        have c0 := blk_cell (j := 0) bZr rfl
        have c1 := blk_cell (j := 1) bZr rfl
        have c2 := blk_cell (j := 2) bZr rfl
        have cf := blk_free bZr
        have hans : Hid (pickAns r c s L = .tuple #[.agg #[.int .i64 0, .int .i64 0, .string ⟨#[]⟩], .int .i64 2]) := by show _ = _; unfold pickAns; rw [if_pos HIN.out, if_pos (by rw [← HN.out]; omega)]
        clear bZr
        go_wp2_with fail
        exact bodyPost_ret (v := .tuple #[.agg #[.int .i64 0, .int .i64 0, .string ⟨#[]⟩], .int .i64 2]) (by simp [results, Try.results45, go_sem, c0, c1, c2]) rfl
          ⟨by rw [hans.out], below_agg3 (BW.out.trans (hbel.out.mono (by omega))) (by omega) _ _ _⟩
      · by_cases hzero : k = 0
        · obtain rfl := hzero
          have bZr := (hbel.out.block (w.heap.size + 2) (by omega)).trans BZ.out
          have c0 := blk_cell (j := 0) bZr rfl
          have c1 := blk_cell (j := 1) bZr rfl
          have c2 := blk_cell (j := 2) bZr rfl
          have cf := blk_free bZr
          have hans : Hid (pickAns r c s L = .tuple #[.agg #[.int .i64 0, .int .i64 0, .string ⟨#[]⟩], .int .i64 1]) := by show _ = _; unfold pickAns; rw [if_pos HIN.out, if_neg (by rw [← HN.out]; omega), if_pos HN.out.symm]
          clear bZr
          go_wp2_with fail
          exact bodyPost_ret (v := .tuple #[.agg #[.int .i64 0, .int .i64 0, .string ⟨#[]⟩], .int .i64 1]) (by simp [results, Try.results45, go_sem, c0, c1, c2]) rfl
            ⟨by rw [hans.out], below_agg3 (BW.out.trans (hbel.out.mono (by omega))) (by omega) _ _ _⟩
        · have t1 : ((k : Int) == 0) = false := by simp; omega
          have t2 : (k : Int) ≤ 255 := by omega
          go_wp2_with fail
          have hz := hbel.out.size
          have hz0 := S0.out
          have hw := BW.out.trans (hbel.out.mono (by omega))
          have bA6 := (hbel.out.block w.heap.size (by omega)).trans BA.out
          have bR6 := (hbel.out.block (w.heap.size + 1) (by omega)).trans BR.out
          have bZ6 := (hbel.out.block (w.heap.size + 2) (by omega)).trans BZ.out
          have hg : Gives2 70 #[] #[.pointer (some ⟨w.heap.size, 0, none⟩), .pointer (some ⟨w.heap.size + 1, 0, none⟩)] wr k c (pickF L (cel s c)) := by
            intro i j W hi hj hb
            have hiL : i < L.length := by have := HN.out; omega
            have hx := HIN.out i hiL
            obtain ⟨p, hp⟩ : ∃ p : Nat, L[i] = (p : Int) := ⟨L[i].toNat, by omega⟩
            have hrow : pickF L (cel s c) i j = cel s c p j := by unfold pickF; rw [List.getD_eq_getElem?_getD, List.getElem?_eq_getElem hiL, Option.getD_some, hp]; rfl
            rw [hrow]
            have hcell := (cell_kept hw (a.add i) (by rw [add_block]; exact HA.out)).trans (HL.out i hiL)
            rw [hp] at hcell
            have hE : PEnv wr w.heap.size (w.heap.size + 1) r c k cap s a (a.add i) (p : Int) wr := ⟨Below.refl _ _, ⟨blk_cell bA6 rfl, blk_cell bA6 rfl, blk_cell bA6 rfl, by omega⟩, ⟨blk_cell bR6 rfl, by omega⟩, ⟨hcell, by rw [add_block]; have := HA.out; have := hw.size; omega⟩⟩
            exact pick_cell r c k cap w.heap.size (w.heap.size + 1) i j p s a W h2 h4 hi hj (by omega) HS.out ⟨Below.refl _ _, (hE.step hb).2⟩
          refine Calls.mono (fill_any _ _ _ k c (pickF L (cel s c)) wr (by omega) (by omega) h3 h4 Try.eg45 hg) ?_
          rintro e w7 ⟨rfl, hb7⟩
          have bZ7 := (hb7.block (w.heap.size + 2) (by omega)).trans bZ6
          have HB7 := Lib.hid hb7
          have d0 := blk_cell (j := 0) bZ7 rfl
          have d1 := blk_cell (j := 1) bZ7 rfl
          have d2 := blk_cell (j := 2) bZ7 rfl
          have df := blk_free bZ7
          have hans : Hid (pickAns r c s L = .tuple #[.agg #[.int .i64 (k : Int), .int .i64 (c : Int), .string ⟨(tabL k c (pickF L (cel s c))).toArray⟩], .int .i64 0]) := by
            show _ = _; unfold pickAns; rw [if_pos HIN.out, if_neg (by rw [← HN.out]; omega), if_neg (by rw [← HN.out]; omega), ← HN.out]
          have HW := Lib.hid hw
          clear hb7 hg bA6 bR6 bZ6 bZ7 hw
          go_wp2_with fail
          exact bodyPost_ret (v := .tuple #[.agg #[.int .i64 (k : Int), .int .i64 (c : Int), .string ⟨(tabL k c (pickF L (cel s c))).toArray⟩], .int .i64 0]) (by simp [results, Try.results45, go_sem, d0, d1, d2]) rfl
            ⟨by rw [hans.out], below_agg3 (HW.out.trans (HB7.out.mono (by have := HW.out.size; omega))) (by omega) _ _ _⟩

end Go.Proofs.Ytemcjnbgcecinaa

/- A slice of whole numbers as a law's argument: what its reading says. -/
namespace Go.Proofs.Ytemcjnbgcecinaa
open Go.ChangeShapes Go.WideShapes Go.ChangeAt Go.RowKit

/-- the slice v holds the numbers L, in blocks that are there -/
def SliceOf (w : World) (v : Value) (L : List Int) : Prop :=
  (v = .slice none 0 0 ∧ L = []) ∨
  ∃ (a : Addr) (cap : Nat), v = .slice (some a) L.length cap ∧ (0 < L.length → a.block < w.heap.size) ∧ (∀ i (h : i < L.length), w.cell? (a.add i) = some (.int .i64 L[i])) ∧ L.length * 8 ≤ 140737488351232

set_option maxRecDepth 20000 in
theorem open_sliceOf {H : Type} {enc : TypeId × Value → H} {W : World} {base : Nat} {t e : TypeId} {v : Value} {d : DataW H} {p : List MemPlace} {ts : List TypeId} {ds : List (DataW H)} {j : Nat}
    (ht : Try.prog.underlying t = some (.slice e)) (he : Try.prog.underlying e = some (.int .i64)) (hc : Try.prog.cellsOf e = 1)
    (hsz : (DataW.weightsEach Try.prog ts ds).all (· ≤ reachBytes) = true) (hj : ts[j]? = some t) (hd : ds[j]? = some d) (hb8 : Try.prog.bytesOf e = 8)
    (hv : Value.okWide Try.prog W .any base t v) (h : DataW.Trod enc Try.prog W 0 (fun _ => true) true t v d p) (hl : ∀ x ∈ p, x.block < W.heap.size) : ∃ L, SliceOf W v L := by
  obtain ⟨a0, len, cap, rfl⟩ := okWide_slice ht hv
  obtain ⟨fuel, hf⟩ := h
  rcases open_ints ht he hc hf with ⟨hcs, hx⟩ | ⟨a, len', cap', zs, hcs, _, hl', hm, hz, hx, hcell, hwz⟩
  · simp [Value.cells] at hcs
    obtain ⟨rfl, rfl, rfl⟩ := hcs
    exact ⟨[], .inl ⟨rfl, rfl⟩⟩
  · simp [Value.cells] at hcs
    obtain ⟨rfl, rfl, rfl⟩ := hcs
    simp only [Prod.mk.injEq] at hx
    obtain ⟨rfl, rfl⟩ := hx
    simp only [if_true] at hz
    have hlen : (zs.take len).length = len := by rw [List.length_take]; omega
    have hs := sized_slice hsz hj hd ht
    rw [hb8] at hs
    have hs2 : (zs.take len).length * 8 ≤ reachBytes := by
      refine Nat.le_trans (Nat.mul_le_mul_right 8 ?_) hs
      simp only [lits, List.length_map]
      omega
    refine ⟨zs.take len, .inr ⟨a, cap, by rw [hlen], fun hpos => ?_, fun i hi => ?_, hs2⟩⟩
    · obtain ⟨b, off, spot⟩ := a
      exact hl (.cell b off) (MemPlace.mem_row.2 ⟨0, by omega, by simp⟩)
    · have h1 := hcell i (by omega)
      rw [h1]
      congr 2
      rw [List.getElem_take, List.getD_eq_getElem?_getD, List.getElem?_eq_getElem (by omega), Option.getD_some]

end Go.Proofs.Ytemcjnbgcecinaa

/- The walk of the law that what is picked is as the document has it; no condition but the form's reach. -/
namespace Go.Proofs.Ytemcjnbgcecinaa
open Go.RowKit

theorem Try.infoInt : (Try.prog.info? 3).map (fun i => (i.zero, i.size, i.bytes)) = some (some (.int .i64 0), 1, 8) := by kernel_rfl

/-- what is picked of any matrix -/
def pAns (r c : Int) (s : ByteArray) (L : List Int) : Value :=
  if may r c s then pickAns r.toNat c.toNat s L else .tuple #[.agg #[.int .i64 0, .int .i64 0, .string ⟨#[]⟩], .int .i64 4]

theorem pickAns_form (r c : Nat) (s : ByteArray) (L : List Int) : ∃ x y z e, pickAns r c s L = .tuple #[.agg #[.int .i64 x, .int .i64 y, .string z], .int .i64 e] := by
  unfold pickAns
  split
  · split
    · exact ⟨_, _, _, _, rfl⟩
    · split
      · exact ⟨_, _, _, _, rfl⟩
      · exact ⟨_, _, _, _, rfl⟩
  · exact ⟨_, _, _, _, rfl⟩

theorem pAns_form (r c : Int) (s : ByteArray) (L : List Int) : ∃ x y z e, pAns r c s L = .tuple #[.agg #[.int .i64 x, .int .i64 y, .string z], .int .i64 e] := by
  unfold pAns
  split
  · exact pickAns_form _ _ _ _
  · exact ⟨_, _, _, _, rfl⟩

theorem lp_any (r c : Int) (s : ByteArray) (a : Addr) (cap : Nat) (L : List Int) (w : World) (ha : a.block < w.heap.size) (hL : ∀ i (h : i < L.length), w.cell? (a.add i) = some (.int .i64 L[i])) (hm : L.length ≤ 1152921504606846976) :
    Calls Try.prog 45 #[.agg #[.int .i64 r, .int .i64 c, .string s], .slice (some a) L.length cap] w fun e w' => e = .returned (pAns r c s L) ∧ Below w.heap.size w w' := by
  by_cases h : may r c s
  · obtain ⟨m, n, rfl, rfl, h1, h2, h3, h4, hs⟩ := may_nat h
    have := pick_some m n s a cap L w h1 h2 h3 h4 hs ha hL hm
    unfold pAns
    rw [if_pos h]
    exact this
  · unfold pAns
    rw [if_neg h]
    exact pick_shape r c s a _ cap w h

set_option maxRecDepth 20000 in
set_option maxHeartbeats 1000000 in
theorem rpick_zero (a0 : Option Addr) (cap : Nat) (r c : Nat) (s : ByteArray) (w : World) (h1 : 1 ≤ r) (h2 : r ≤ 255) (h3 : 1 ≤ c) (h4 : c ≤ 255) (hs : s.size = r * c) :
    Calls Try.prog 32 #[.agg #[.int .i64 (r : Int), .int .i64 (c : Int), .string s], .slice a0 0 cap] w fun e w' =>
      e = .returned (pickAns r c s []) ∧ Below w.heap.size w w' := by
  have ka : ((chk (r : Int) (c : Int) s : Nat) : Int) = 0 := by rw [chk_yes h1 h2 h3 h4 hs]; rfl
  clear hs
  go_enter Try.func32, Try.ntmps32
  go_wp2_with fail
  obtain ⟨s0, bA, bZ⟩ := blk2 w (.cells #[.int .i64 (r : Int), .int .i64 (c : Int), .string s] 59) (.cells #[.int .i64 0, .int .i64 0, .string ⟨#[]⟩] 59)
  have BW : Hid (Below w.heap.size w ((w.alloc (.cells #[.int .i64 (r : Int), .int .i64 (c : Int), .string s] 59)).alloc (.cells #[.int .i64 0, .int .i64 0, .string ⟨#[]⟩] 59))) :=
    ((Below.refl _ w).alloc (Nat.le_refl _) _).alloc (by simp) _
  generalize (w.alloc (.cells #[.int .i64 (r : Int), .int .i64 (c : Int), .string s] 59)).alloc (.cells #[.int .i64 0, .int .i64 0, .string ⟨#[]⟩] 59) = w0 at s0 bA bZ BW ⊢
  have S0 := Lib.hid s0
  have BZ := Lib.hid bZ
  clear s0 bA bZ
  refine (rcheck_any _ _ _ _).mono ?_
  rintro e w1 ⟨rfl, hb1⟩
  have HB1 : Hid (Below (w.heap.size + 2) w0 w1) := hb1.mono (by have := S0.out; omega)
  clear hb1
  go_wp2_with fail
  go_loopw [6] (fun i wr => i = .int .i64 0 ∧ Hid (Below (w.heap.size + 2) w0 wr)) (fun _ _ => 0)
  case atStart => exact ⟨rfl, HB1.out⟩
  case round =>
    obtain ⟨rfl, hbel⟩ := hrel
    have bZr := (hbel.out.block (w.heap.size + 1) (by omega)).trans BZ.out
    have c0 := blk_cell (j := 0) bZr rfl
    have c1 := blk_cell (j := 1) bZr rfl
    have c2 := blk_cell (j := 2) bZr rfl
    have cf := blk_free bZr
    have hans : Hid (pickAns r c s [] = .tuple #[.agg #[.int .i64 0, .int .i64 0, .string ⟨#[]⟩], .int .i64 1]) := by
      show _ = _; unfold pickAns; rw [if_pos (fun i h => absurd h (by simp)), if_neg (by simp)]; exact if_pos rfl
    clear bZr
    go_wp2_with fail
    exact bodyPost_ret (v := .tuple #[.agg #[.int .i64 0, .int .i64 0, .string ⟨#[]⟩], .int .i64 1]) (by simp [results, Try.results32, go_sem, c0, c1, c2]) rfl
      ⟨by rw [hans.out], below_agg3 (BW.out.trans (hbel.out.mono (by omega))) (by omega) _ _ _⟩

theorem sliceOf_below {w w' : World} {v : Value} {L : List Int} (h : SliceOf w v L) (hb : Below w.heap.size w w') : SliceOf w' v L := by
  rcases h with h | ⟨a, cap, h1, h2, h3, h4⟩
  · exact .inl h
  · refine .inr ⟨a, cap, h1, fun hp => Nat.lt_of_lt_of_le (h2 hp) hb.size, fun i hi => ?_, h4⟩
    rw [cell_kept hb (a.add i) (by rw [add_block]; exact h2 (by omega))]
    exact h3 i hi

theorem sliceOf_alloc {w : World} {v : Value} {L : List Int} (h : SliceOf w v L) (o : Obj) : SliceOf (w.alloc o) v L := sliceOf_below h ((Below.refl _ w).alloc (Nat.le_refl _) o)

theorem rp_any (r c : Int) (s : ByteArray) (v : Value) (L : List Int) (w : World) (hv : SliceOf w v L) :
    Calls Try.prog 32 #[.agg #[.int .i64 r, .int .i64 c, .string s], v] w fun e w' => e = .returned (pAns r c s L) ∧ Below w.heap.size w w' := by
  by_cases h : may r c s
  · obtain ⟨m, n, rfl, rfl, h1, h2, h3, h4, hs⟩ := may_nat h
    unfold pAns
    rw [if_pos h]
    rcases hv with ⟨rfl, rfl⟩ | ⟨a, cap, rfl, hb, hL, hm⟩
    · exact rpick_zero none 0 m n s w h1 h2 h3 h4 hs
    · by_cases h0 : 0 < L.length
      · exact rpick_some m n s a cap L w h1 h2 h3 h4 hs (hb h0) hL (by omega)
      · have e : L = [] := List.length_eq_zero_iff.1 (by omega)
        subst e
        exact rpick_zero (some a) cap m n s w h1 h2 h3 h4 hs
  · unfold pAns
    rw [if_neg h]
    exact rpick_shape r c s v w h

end Go.Proofs.Ytemcjnbgcecinaa

/- A slice of texts as a law's argument: what its reading says. -/
namespace Go.Proofs.Ytemcjnbgcecinaa
open Go.ChangeShapes Go.WideShapes Go.ChangeAt Go.RowKit

/-- the slice v holds the texts l, in blocks that are there -/
def TextsOf (w : World) (v : Value) (l : List ByteArray) : Prop :=
  ∃ (A : Option Addr) (c : Nat), v = .slice A l.length c ∧ StrsAt w A l ∧ (A = none → l = [] ∧ c = 0) ∧ l.length * 16 ≤ 140737488351232 ∧ ∀ s ∈ l, s.size ≤ 140737488351232

theorem weights_strs {H : Type} (P : Program) (e : TypeId) : ∀ (ss : List ByteArray) (s : ByteArray), s ∈ ss → s.size ∈ DataW.weightsAll (H := H) P e (strs ss)
  | [], _, h => by simp at h
  | x :: r, s, h => by
    show s.size ∈ (DataW.lit (H := H) (.string x.data.toList)).weights P e ++ DataW.weightsAll P e (strs r)
    rw [List.mem_append]
    rcases List.mem_cons.1 h with rfl | h
    · left
      show s.size ∈ [s.data.toList.length]
      simp
    · exact .inr (weights_strs P e r s h)

set_option maxRecDepth 20000 in
theorem open_textsOf {H : Type} {enc : TypeId × Value → H} {W : World} {base : Nat} {t e : TypeId} {v : Value} {d : DataW H} {p : List MemPlace} {ts : List TypeId} {ds : List (DataW H)} {j : Nat}
    (ht : Try.prog.underlying t = some (.slice e)) (he : Try.prog.underlying e = some .string) (hc : Try.prog.cellsOf e = 1)
    (hsz : (DataW.weightsEach Try.prog ts ds).all (· ≤ reachBytes) = true) (hj : ts[j]? = some t) (hd : ds[j]? = some d) (hb16 : Try.prog.bytesOf e = 16)
    (hv : Value.okWide Try.prog W .any base t v) (h : DataW.Trod enc Try.prog W 0 (fun _ => true) true t v d p) (hl : ∀ x ∈ p, x.block < W.heap.size) : ∃ L, TextsOf W v L := by
  obtain ⟨a0, len, cap, rfl⟩ := okWide_slice ht hv
  obtain ⟨fuel, hf⟩ := h
  rcases open_strings ht he hc hf with ⟨hcs, hx⟩ | ⟨a, len', cap', zs, hcs, _, hl', hm, hz, hx, hcell, hwz⟩
  · simp [Value.cells] at hcs
    obtain ⟨rfl, rfl, rfl⟩ := hcs
    exact ⟨[], none, 0, rfl, fun h => absurd h (by simp), fun _ => ⟨rfl, rfl⟩, by simp, by simp⟩
  · simp [Value.cells] at hcs
    obtain ⟨rfl, rfl, rfl⟩ := hcs
    simp only [Prod.mk.injEq] at hx
    obtain ⟨rfl, rfl⟩ := hx
    simp only [if_true] at hz
    have hlen : (zs.take len).length = len := by rw [List.length_take]; omega
    have hs := sized_slice hsz hj hd ht
    rw [hb16] at hs
    have hs2 : (zs.take len).length * 16 ≤ reachBytes := by
      refine Nat.le_trans (Nat.mul_le_mul_right 16 ?_) hs
      simp only [strs, List.length_map]
      omega
    refine ⟨zs.take len, some a, cap, by rw [hlen], fun hpos => ⟨a, rfl, ?_, fun i hi => ?_⟩, fun h => (by cases h), hs2, fun s hs' => ?_⟩
    · obtain ⟨b, off, spot⟩ := a
      exact hl (.cell b off) (MemPlace.mem_row.2 ⟨0, by omega, by simp⟩)
    · have h1 := hcell i (by omega)
      rw [h1]
      congr 2
      rw [List.getElem_take, List.getD_eq_getElem?_getD, List.getElem?_eq_getElem (by omega), Option.getD_some]
    · have h1 := List.all_eq_true.1 hsz _ (DataW.weights_mem_each hj hd s.size (by
        simp only [DataW.weights, ht, List.mem_cons, List.mem_append]
        exact .inr (.inl (weights_strs _ _ _ _ hs'))))
      have h2 : s.size ≤ reachBytes := by simpa using h1
      exact h2

end Go.Proofs.Ytemcjnbgcecinaa

/- Copies that are lent, with room of their own behind the end, and whether they are as they were; no condition but the range. -/
namespace Go.Proofs.Ytemcjnbgcecinaa
open Go.RowKit

def markS : ByteArray := ⟨#[109, 97, 114, 107]⟩

theorem StrsAt.news {w : World} {ad : Addr} {l : List ByteArray} (h : StrsAt w (some ad) l) : ∀ j u, (strV l)[j]? = some u → w.cell? (ad.add j) = some u := fun j u hu => by
  have hj : j < l.length := by
    have := (List.getElem?_eq_some_iff.1 hu).1
    rwa [strV_len] at this
  obtain ⟨a', e, _, h3⟩ := h (by omega)
  obtain rfl := Option.some.inj e
  rw [strV_at hj] at hu
  rw [← hu]
  exact h3 j hj

end Go.Proofs.Ytemcjnbgcecinaa

/- Whether what was lent is as it was; the document's Join; the walk of the law that what any shards are, joined, is as the document has it. -/
namespace Go.Proofs.Ytemcjnbgcecinaa
open Go.RowKit

theorem lent_strs {w : World} {H g cap : Nat} {l : List ByteArray} (h : w.ownsRow H 9 1 (.slice (some ⟨g, 0, none⟩) (l.length + 1) cap) (l.length + 1) (strV l ++ [.string markS])) : StrsAt w (some ⟨g, 0, none⟩) l := fun _ => by
  have hf := World.ownsRow.cellAt h
  refine ⟨_, rfl, ?_, fun i hi => ?_⟩
  · obtain ⟨g', cap', hv, _, hlt⟩ := World.ownsRow.form h (by omega)
    simp only [Value.slice.injEq, Option.some.injEq, Addr.mk.injEq] at hv
    obtain ⟨⟨rfl, -⟩, -⟩ := hv
    exact hlt
  · rw [addr_head, hf i (by omega), List.getElem?_append_left (by rw [strV_len]; exact hi)]
    exact strV_at hi

theorem lent_mark {w : World} {H g cap : Nat} {l : List ByteArray} (h : w.ownsRow H 9 1 (.slice (some ⟨g, 0, none⟩) (l.length + 1) cap) (l.length + 1) (strV l ++ [.string markS])) : w.cell? ⟨g, l.length, none⟩ = some (.string ⟨#[109, 97, 114, 107]⟩) := by
  rw [World.ownsRow.cellAt h l.length (by omega), List.getElem?_append_right (by rw [strV_len]; exact Nat.le_refl _), strV_len, Nat.sub_self]
  rfl

end Go.Proofs.Ytemcjnbgcecinaa

/- The document's Join, and the walk of the law that what any shards are, joined, is as the document has it; no condition but the form's reach. -/
namespace Go.Proofs.Ytemcjnbgcecinaa
open Go.RowKit

theorem joined_text (l : List ByteArray) (j : Nat) (h : j < l.length) : (⟨(St.joinL (l.take j)).toArray⟩ : ByteArray) ++ l[j] = ⟨(St.joinL (l.take (j + 1))).toArray⟩ := by
  rw [joinL_take_succ l j h]
  apply ByteArray.ext
  rw [ByteArray.data_append]
  apply Array.ext'
  simp

set_option maxRecDepth 20000 in
set_option maxHeartbeats 2000000 in
theorem rjoin_any (A : Option Addr) (c : Nat) (l : List ByteArray) (w : World) (h : StrsAt w A l) (hn : l.length ≤ 1000000000000000000) (hmax : ∀ s ∈ l, s.size ≤ 140737488351232) :
    Calls Try.prog 37 #[.slice A l.length c] w fun e w' => e = .returned (joinV l) ∧ Below w.heap.size w w' := by
  by_cases hz : l.length < 1
  · have E := Lib.hid (show joinV l = .tuple #[.string ⟨#[]⟩, .int .i64 1] by unfold joinV St.joinAns; rw [if_pos (.inl hz)]; rfl)
    have hz' : (l.length : Int) < 1 := by omega
    clear hz h hmax
    go_enter Try.func37, Try.ntmps37
    go_wp2_with fail
    go_ret2
    exact ⟨by rw [E.out]; rfl, Below.refl _ _⟩
  · have hz' : ¬ (l.length : Int) < 1 := by omega
    by_cases hb : 255 < l.length
    · have E := Lib.hid (show joinV l = .tuple #[.string ⟨#[]⟩, .int .i64 1] by unfold joinV St.joinAns; rw [if_pos (.inr hb)]; rfl)
      have hb' : (255 : Int) < (l.length : Int) := by omega
      clear hz h hmax hb
      go_enter Try.func37, Try.ntmps37
      go_wp2_with fail
      go_ret2
      exact ⟨by rw [E.out]; rfl, Below.refl _ _⟩
    · have hb' : ¬ (255 : Int) < (l.length : Int) := by omega
      have hr : ¬ (l.length < 1 ∨ 255 < l.length) := by omega
      have he := reven_any A c l w h (by omega) (by omega)
      have HA := Lib.hid h
      have HMx := Lib.hid hmax
      by_cases hE : St.Even l
      · rw [show decide (St.Even l) = true by simpa using hE] at he
        have HEv := Lib.hid he
        have E : Hid (∀ S e, S = (⟨(St.joinL l).toArray⟩ : ByteArray) → WholeAns l.length S e → ∃ o b, e = .returned (.tuple #[.string o, .bool b]) ∧ ((b = true ∧ joinV l = .tuple #[.string o, .int .i64 0]) ∨ (b = false ∧ joinV l = .tuple #[.string ⟨#[]⟩, .int .i64 41]))) := fun S e hS he => by
          subst hS
          unfold WholeAns at he
          unfold joinV St.joinAns
          rw [if_neg hr, if_neg (fun z => z hE)]
          have e1 : (⟨(St.joinL l).toArray⟩ : ByteArray).data.toList = St.joinL l := by simp
          rw [e1] at he
          cases hx : St.uncut l.length (St.joinL l) with
          | some s => rw [hx] at he; exact ⟨s, true, he, .inl ⟨rfl, rfl⟩⟩
          | none => rw [hx] at he; obtain ⟨o, ho⟩ := he; exact ⟨o, false, ho, .inr ⟨rfl, rfl⟩⟩
        have hbound : ∀ j, (St.joinL (l.take j)).length ≤ 255 * 140737488351232 := fun j => Nat.le_trans (joinL_le _ 140737488351232 fun s hs => hmax s (List.mem_of_mem_take hs)) (Nat.mul_le_mul_right _ (by rw [List.length_take]; omega))
        have HBd := Lib.hid hbound
        have hpos : 1 ≤ l.length := by omega
        have h255 : l.length ≤ 255 := by omega
        clear hz hb hr h hmax he hE hbound
        go_enter Try.func37, Try.ntmps37
        go_wp2_with fail
        refine HEv.out.mono ?_
        rintro e w1 ⟨rfl, d, rfl⟩
        go_wp2_with fail
        go_loop [4, 5] (fun x i => ∃ j : Nat, j ≤ l.length ∧ i = .int .i64 (j : Int) ∧ x = .string ⟨(St.joinL (l.take j)).toArray⟩) (fun _ i => l.length - (intOf i).toNat)
        case atStart => exact ⟨0, by omega, rfl, rfl⟩
        case round =>
          obtain ⟨j, hj, rfl, rfl⟩ := hrel
          by_cases hlt : j < l.length
          · obtain ⟨ad, rfl, hab, hc⟩ := HA.out (by omega)
            have hcell : (w.drewN d).cell? (ad.add j) = some (.string l[j]) := hc j hlt
            have pj : (j : Int) < (l.length : Int) := by omega
            have hsz : (⟨(St.joinL (l.take j)).toArray⟩ : ByteArray).size ≤ 255 * 140737488351232 := by
              show (St.joinL (l.take j)).toArray.size ≤ _
              rw [List.size_toArray]; exact HBd.out j
            have hlj := HMx.out l[j] (List.getElem_mem hlt)
            have hT := joined_text l j hlt
            generalize (⟨(St.joinL (l.take j)).toArray⟩ : ByteArray) = X at hsz hT ⊢
            have hadd : ∀ W, (Op.stringOp .add X l[j]).run Try.prog W = .ok (.string (X ++ l[j])) W := fun W => run_string_add_sum W _ _ (by omega)
            have hadd2 : (X.size : Int) + (l[j].size : Int) ≤ 9223372036854775807 := by omega
            have HT := Lib.hid hT
            clear hT hc
            go_wp2_with fail
            go_round
            case rel => exact ⟨j + 1, by omega, by go_num, by rw [HT.out]⟩
            case measure => simp [intOf]; omega
          · obtain rfl : j = l.length := by omega
            rw [List.take_length]
            obtain ⟨S, hS⟩ : ∃ S : ByteArray, S = ⟨(St.joinL l).toArray⟩ := ⟨_, rfl⟩
            have hSz : S.size ≤ 9223372036854775807 := by
              rw [hS]
              show (St.joinL l).toArray.size ≤ _
              rw [List.size_toArray]
              have := HBd.out l.length
              rw [List.take_length] at this
              omega
            rw [← hS]
            have HS := Lib.hid hS
            clear hS
            go_wp2_with fail
            refine (rwhole_any l.length S _ hpos h255 hSz).mono ?_
            rintro e w2 ⟨hans, hb⟩
            have HB := Lib.hid ((below_drewN (Below.refl w.heap.size w) d).trans (hb.mono (by simp)))
            obtain ⟨o, b, rfl, ⟨rfl, hj⟩ | ⟨rfl, hj⟩⟩ := E.out S e HS.out hans
            · have HJ := Lib.hid hj
              clear hans hb hj
              go_wp2_with fail
              go_ret2
              exact ⟨by rw [HJ.out]; rfl, HB.out⟩
            · have HJ := Lib.hid hj
              clear hans hb hj
              go_wp2_with fail
              go_ret2
              exact ⟨by rw [HJ.out]; rfl, HB.out⟩
      · rw [show decide (St.Even l) = false by simpa using hE] at he
        have HEv := Lib.hid he
        have E := Lib.hid (show joinV l = .tuple #[.string ⟨#[]⟩, .int .i64 4] by unfold joinV St.joinAns; rw [if_neg hr, if_pos hE]; rfl)
        clear hz hb hr h hmax he hE
        go_enter Try.func37, Try.ntmps37
        go_wp2_with fail
        refine HEv.out.mono ?_
        rintro e w' ⟨rfl, d, rfl⟩
        go_wp2_with fail
        go_ret2
        exact ⟨by rw [E.out]; rfl, below_drewN (Below.refl _ _) d⟩

theorem TextsOf.below {w w' : World} {v : Value} {l : List ByteArray} (h : TextsOf w v l) (hb : Below w.heap.size w w') : TextsOf w' v l := by
  obtain ⟨A, c, h1, h2, h3⟩ := h
  exact ⟨A, c, h1, h2.below hb, h3⟩

end Go.Proofs.Ytemcjnbgcecinaa

/- Two texts of one length, byte by byte: what the chapter's own law asks with; one contract, and three rows at once; no condition but the range. -/
namespace Go.Proofs.Ytemcjnbgcecinaa
open Go.RowKit

attribute [local go_sem ↓] Go.wp_at_zero Go.wp_at_succ
attribute [local go_sem] floatUpon pick

/-- the block stands whole; its mark lies behind its cells -/
def CelM (w : World) (g : Nat) (t : TypeId) (xs : List Value) : Prop := ∃ lo hi, xs.length ≤ lo ∧ w.heap[g]? = some (.cells xs.toArray t (lo, hi))

section
variable {w w' : World} {g i : Nat} {t : TypeId} {xs : List Value} {v : Value}
theorem CelM.lt (h : CelM w g t xs) : g < w.heap.size := by obtain ⟨_, _, _, h⟩ := h; exact (Array.getElem?_eq_some_iff.1 h).1
theorem CelM.cell (h : CelM w g t xs) (hv : xs[i]? = some v) : w.cell? ⟨g, i, none⟩ = some v := by
  obtain ⟨lo, hi, _, h⟩ := h
  rw [cell_of_row w g i _ t (lo, hi) h, List.getElem?_toArray]; exact hv
theorem CelM.free (h : CelM w g t xs) (hi : i < xs.length) : w.frozen? ⟨g, i, none⟩ = false := by
  obtain ⟨lo, hi', h1, h⟩ := h
  simp only [World.frozen?, h, Bool.and_eq_false_iff, decide_eq_false_iff_not]
  left; omega
theorem CelM.set (h : CelM w g t xs) : CelM (w.setCell ⟨g, i, none⟩ v) g t (xs.set i v) := by
  obtain ⟨lo, hi, h1, h⟩ := h
  refine ⟨lo, hi, by rw [List.length_set]; exact h1, ?_⟩
  rw [setCell_eq_setRow w g i _ t (lo, hi) v h, setRow_heap w g _ _ t _ h, List.setIfInBounds_toArray]
theorem CelM.below (h : CelM w g t xs) (hb : Below w.heap.size w w') : CelM w' g t xs := by
  have hl := h.lt
  obtain ⟨lo, hi, h1, h⟩ := h
  exact ⟨lo, hi, h1, (hb.block g hl).trans h⟩
end

/-- two texts, byte by byte -/
def xorS (a b : ByteArray) : ByteArray := ⟨((List.range a.size).map fun p => byteAt a p ^^^ byteAt b p).toArray⟩

theorem xorS_size (a b : ByteArray) : (xorS a b).size = a.size := by
  show ((List.range a.size).map _).toArray.size = _
  simp

theorem xorS_at (a b : ByteArray) (p : Nat) (h : p < a.size) : byteAt (xorS a b) p = byteAt a p ^^^ byteAt b p := by
  unfold byteAt xorS
  simp only [List.getElem?_toArray]
  rw [List.getElem?_map, List.getElem?_range h]
  rfl

/-- the bytes when the first p are done -/
def xorP (a b : ByteArray) (p : Nat) : List UInt8 := (List.range a.size).map fun q => if q < p then byteAt a q ^^^ byteAt b q else byteAt a q

theorem xorP_len (a b : ByteArray) (p : Nat) : (xorP a b p).length = a.size := by simp [xorP]

theorem xorP_at (a b : ByteArray) (p : Nat) (rest : List Value) (h : p < a.size) : (Lib.byteCells (xorP a b p) ++ rest)[p]? = some (.int .u8 ((byteAt a p).toNat : Int)) := by
  rw [List.getElem?_append_left (by rw [Lib.byteCells_length, xorP_len]; exact h)]
  unfold Lib.byteCells xorP
  rw [List.getElem?_map, List.getElem?_map, List.getElem?_range h]
  simp

theorem xorP_set (a b : ByteArray) (p : Nat) (rest : List Value) (h : p < a.size) :
    (Lib.byteCells (xorP a b p) ++ rest).set p (.int .u8 ((byteAt a p ^^^ byteAt b p).toNat : Int)) = Lib.byteCells (xorP a b (p + 1)) ++ rest := by
  have hl : (Lib.byteCells (xorP a b p)).length = a.size := by rw [Lib.byteCells_length, xorP_len]
  rw [List.set_append_left _ _ (by rw [hl]; exact h)]
  congr 1
  apply List.ext_getElem?
  intro q
  rw [List.getElem?_set]
  by_cases hq : p = q
  · subst hq
    rw [if_pos rfl, if_pos (by rw [hl]; exact h)]
    unfold Lib.byteCells xorP
    rw [List.getElem?_map, List.getElem?_map, List.getElem?_range h]
    simp
  · rw [if_neg hq]
    unfold Lib.byteCells xorP
    rw [List.getElem?_map, List.getElem?_map, List.getElem?_map, List.getElem?_map]
    by_cases hqn : q < a.size
    · rw [List.getElem?_range hqn]
      simp only [Option.map_some]
      by_cases h2 : q < p
      · rw [if_pos h2, if_pos (by omega)]
      · rw [if_neg h2, if_neg (by omega)]
    · rw [List.getElem?_eq_none (by simp; omega)]; rfl

theorem xorP_end (a b : ByteArray) : (⟨(xorP a b a.size).toArray⟩ : ByteArray) = xorS a b := by
  unfold xorS xorP
  congr 2
  apply List.map_congr_left
  intro q hq
  rw [if_pos (List.mem_range.1 hq)]

theorem xorP_zero (a b : ByteArray) (cap : Nat) : ∃ rest : List Value, bytesRow a cap = (Lib.byteCells (xorP a b 0) ++ rest).toArray := by
  refine ⟨List.replicate (cap - a.size) (.int .u8 0), ?_⟩
  apply Array.ext'
  unfold bytesRow
  rw [Array.toList_append, Array.toList_map, Array.toList_replicate]
  congr 1
  unfold Lib.byteCells
  have e : a.data.toList = xorP a b 0 := by
    apply List.ext_getElem?
    intro q
    unfold xorP
    rw [List.getElem?_map]
    by_cases hq : q < a.size
    · have hq' : q < a.data.size := hq
      rw [List.getElem?_range hq, Array.getElem?_toList]
      simp only [Option.map_some, Nat.not_lt_zero, if_false]
      unfold byteAt
      rw [Array.getElem?_eq_getElem hq', Option.getD_some]
    · have hq' : ¬ q < a.data.size := hq
      rw [List.getElem?_eq_none (by simp; omega), List.getElem?_eq_none (by simp; omega)]; rfl
  rw [← e]

/-- two slices share no block -/
def Unlike (u v : Value) : Prop := ∀ j, u.ownBlock = some j → v.ownBlock = some j → False

theorem Unlike.symm {u v : Value} (h : Unlike u v) : Unlike v u := fun j h1 h2 => h j h2 h1

theorem Unlike.ne {u v : Value} (h : Unlike u v) : u.ownBlock = none ∨ u.ownBlock ≠ v.ownBlock := by
  cases e : u.ownBlock with
  | none => exact .inl rfl
  | some j => exact .inr fun e2 => h j e e2.symm

theorem Unlike.next {u v v' : Value} {n m : Nat} (h : Unlike u v) (hu : ∀ j, u.ownBlock = some j → j < n) (hat : v'.ownBlock = v.ownBlock ∨ v'.ownBlock = some m) (hm : n ≤ m) : Unlike u v' := fun j h1 h2 => by
  rcases hat with e | e
  · exact h j h1 (by rw [← e]; exact h2)
  · rw [e] at h2
    have := hu j h1
    simp only [Option.some.injEq] at h2
    omega

/-- three rows that the call owns, and that share no block -/
structure Three (H : Nat) (W : World) (v u1 u2 : Value) (n m1 m2 : Nat) (xs ys zs : List Value) : Prop where
  r0 : W.ownsRow H 9 1 v n xs
  r1 : W.ownsRow H 9 1 u1 m1 ys
  r2 : W.ownsRow H 9 1 u2 m2 zs
  d01 : Unlike v u1
  d02 : Unlike v u2
  d12 : Unlike u1 u2

theorem Three.rot {H : Nat} {W : World} {v u1 u2 : Value} {n m1 m2 : Nat} {xs ys zs : List Value} (h : Three H W v u1 u2 n m1 m2 xs ys zs) : Three H W u1 u2 v m1 m2 n ys zs xs :=
  ⟨h.r1, h.r2, h.r0, h.d12, h.d01.symm, h.d02.symm⟩

theorem Three.below {H : Nat} {W W' : World} {v u1 u2 : Value} {n m1 m2 : Nat} {xs ys zs : List Value} (h : Three H W v u1 u2 n m1 m2 xs ys zs) (hb : Below W.heap.size W W') : Three H W' v u1 u2 n m1 m2 xs ys zs :=
  ⟨st_keep h.r0 hb, st_keep h.r1 hb, st_keep h.r2 hb, h.d01, h.d02, h.d12⟩

theorem Three.step {H : Nat} {W W1 : World} {v u1 u2 v' : Value} {n m1 m2 n' : Nat} {xs ys zs xs' : List Value} (h : Three H W v u1 u2 n m1 m2 xs ys zs) (ho : W1.ownsRow H 9 1 v' n' xs') (hg : W.grownBy W1 v.ownBlock) (hat : v'.ownBlock = v.ownBlock ∨ v'.ownBlock = some W.heap.size) :
    Three H W1 v' u1 u2 n' m1 m2 xs' ys zs :=
  ⟨ho, h.r1.kept hg h.d01.symm.ne, h.r2.kept hg h.d02.symm.ne, (h.d01.symm.next (fun j hj => (h.r1.lt j hj).2) hat (Nat.le_refl _)).symm, (h.d02.symm.next (fun j hj => (h.r2.lt j hj).2) hat (Nat.le_refl _)).symm, h.d12⟩

end Go.Proofs.Ytemcjnbgcecinaa
