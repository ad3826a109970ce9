/- What the landed package's Pick does: contracts; no condition but the form's reach. -/
import Derived.Test.YtmnciipfepeccaaMatLandMul
import Derived.Test.YtmnciipfepeccaaMatPick
namespace Go.Proofs.Ytmnciipfepeccaa
open Go.RowKit

theorem Try.eg45 : ∀ args w, (callFunc 45 args).run Try.prog w = .ok (.enter 45 args) w := enters_of Try.func45 (by kernel_rfl) rfl

theorem add_block (a : Addr) (k : Nat) : (a.add k).block = a.block := by unfold Addr.add; split <;> rfl

/-- what a cell of picked rows is read from -/
def PEnv (W0 : World) (mb rb r c n cap : Nat) (s : ByteArray) (a : Addr) (b : Addr) (p : Int) (W : World) : Prop :=
  Below W0.heap.size W0 W ∧ MatAt W mb (r : Int) (c : Int) s ∧ (W.cell? ⟨rb, 0, none⟩ = some (.slice (some a) n cap) ∧ rb < W.heap.size) ∧ (W.cell? b = some (.int .i64 p) ∧ b.block < W.heap.size)

theorem PEnv.step {W0 W W' : World} {mb rb r c n cap : Nat} {s : ByteArray} {a b : Addr} {p : Int} (h : PEnv W0 mb rb r c n cap s a b p W) (hb : Below W.heap.size W W') : PEnv W0 mb rb r c n cap s a b p W' :=
  ⟨h.1.trans (hb.mono h.1.size), matAt_below h.2.1 hb, ⟨(hb.cell (p := ⟨rb, 0, none⟩) h.2.2.1.2).trans h.2.2.1.1, Nat.lt_of_lt_of_le h.2.2.1.2 hb.size⟩, ⟨(cell_kept hb b h.2.2.2.2).trans h.2.2.2.1, Nat.lt_of_lt_of_le h.2.2.2.2 hb.size⟩⟩

theorem PEnv.drew {W0 W : World} {mb rb r c n cap : Nat} {s : ByteArray} {a b : Addr} {p : Int} (h : PEnv W0 mb rb r c n cap s a b p W) : PEnv W0 mb rb r c n cap s a b p W.drew := ⟨h.1.drew, h.2⟩

theorem PEnv.fst {W0 W : World} {mb rb r c n cap : Nat} {s : ByteArray} {a b : Addr} {p : Int} {q : Prop} (h : PEnv W0 mb rb r c n cap s a b p W ∧ q) : PEnv W0 mb rb r c n cap s a b p W := h.1

theorem PEnv.all {W0 W : World} {mb rb r c n cap : Nat} {s : ByteArray} {a b : Addr} {p : Int} (h : PEnv W0 mb rb r c n cap s a b p W) :
    PEnv W0 mb rb r c n cap s a b p W ∧ W.cell? ⟨mb, 0, none⟩ = some (.int .i64 (r : Int)) ∧ W.cell? ⟨mb, 1, none⟩ = some (.int .i64 (c : Int)) ∧ W.cell? ⟨mb, 2, none⟩ = some (.string s) ∧ W.cell? ⟨rb, 0, none⟩ = some (.slice (some a) n cap) ∧ W.cell? b = some (.int .i64 p) :=
  ⟨h, h.2.1.1, h.2.1.2.1, h.2.1.2.2.1, h.2.2.1.1, h.2.2.2.1⟩

set_option maxRecDepth 20000 in
set_option maxHeartbeats 2000000 in
theorem pick_cell (r c n cap mb rb i j p : Nat) (s : ByteArray) (a : Addr) (w : World) (hr : r ≤ 255) (hc : c ≤ 255) (hi : i < n) (hj : j < c) (hp : p < r) (hs : s.size = r * c) (hM : PEnv w mb rb r c n cap s a (a.add i) (p : Int) w) :
    Calls Try.prog 45 #[.int .i64 (i : Int), .int .i64 (j : Int), .pointer (some ⟨mb, 0, none⟩), .pointer (some ⟨rb, 0, none⟩)] w fun e w' =>
      e = .returned (.int .u8 ((cel s c p j).toNat : Int)) ∧ Below w.heap.size w w' := by
  have hz := rowS_size (i := p) hp hs
  obtain ⟨R, hR⟩ : ∃ R, R = rowS s c p := ⟨_, rfl⟩
  have hlt : j < R.size := by rw [hR, hz]; exact hj
  have E : Hid ((R[j]'hlt).toNat = (cel s c p j).toNat) := by
    show _ = _
    subst hR
    rw [rowS_get hp hj hs]
  have C : Hid (∀ w : World, Calls Try.prog 42 #[.agg #[.int .i64 (r : Int), .int .i64 (c : Int), .string s], .int .i64 (p : Int)] w fun e w' => e = .returned (.string R) ∧ Below w.heap.size w w') := by
    subst hR; exact fun w => cells_any r c p s w hr hc hp hs
  have M0 := Lib.hid hM
  obtain ⟨_, ⟨a0, a1, a2, _⟩, ⟨cr, _⟩, ⟨cp, _⟩⟩ := hM
  have pi : (i : Int) < (n : Int) := by omega
  have pj : (j : Int) < (R.size : Int) := by omega
  clear hR hz hs
  go_enter Try.func45, Try.ntmps45
  go_wp2_with fail
  go_region_held3 (fun w' => PEnv w mb rb r c n cap s a (a.add i) (p : Int) w' ∧ w'.cell? ⟨mb, 0, none⟩ = some (.int .i64 (r : Int)) ∧ w'.cell? ⟨mb, 1, none⟩ = some (.int .i64 (c : Int)) ∧ w'.cell? ⟨mb, 2, none⟩ = some (.string s) ∧ w'.cell? ⟨rb, 0, none⟩ = some (.slice (some a) n cap) ∧ w'.cell? (a.add i) = some (.int .i64 (p : Int)))
    (first | exact M0.out.drew.all | exact PEnv.all (by assumption))
    (first
    | (go_at_call 42; refine (C.out _).mono ?_; rintro e w5 ⟨rfl, hb5⟩; have M5 := PEnv.step (PEnv.fst (by assumption)) hb5; clear hb5))
  all_goals go_wp2
  all_goals go_ret
  all_goals exact ⟨by rw [← E.out]; rfl, (PEnv.fst (by assumption)).1⟩

set_option maxRecDepth 20000 in
set_option maxHeartbeats 1000000 in
theorem pick_shape (r c : Int) (s : ByteArray) (a : Addr) (n cap : Nat) (w : World) (h : ¬ may r c s) :
    Calls Try.prog 18 #[.agg #[.int .i64 r, .int .i64 c, .string s], .slice (some a) n cap] w fun e w' =>
      e = .returned (.tuple #[.agg #[.int .i64 0, .int .i64 0, .string ⟨#[]⟩], .int .i64 4]) ∧ Below w.heap.size w w' := by
  have ka : ((chk r c s : Nat) : Int) = 4 := by rw [chk_no h]; rfl
  clear h
  go_enter Try.func18, Try.ntmps18
  go_wp2_with fail
  refine (check_any _ _ _ _).mono ?_
  rintro e w1 ⟨rfl, hb1⟩
  have B1 := Lib.hid hb1
  obtain ⟨hc1, hf1⟩ := bcell hb1
  clear hb1
  go_wp2_with fail
  exact bodyPost_ret (v := .tuple #[.agg #[.int .i64 0, .int .i64 0, .string ⟨#[]⟩], .int .i64 4]) (by simp [results, Try.results18, go_sem, hc1]) rfl
    ⟨rfl, below_agg3 (below_new3 B1.out) (by omega) _ _ _⟩

set_option maxRecDepth 20000 in
set_option maxHeartbeats 2000000 in
theorem pick_some (r c : Nat) (s : ByteArray) (a : Addr) (cap : Nat) (L : List Int) (w : World) (h1 : 1 ≤ r) (h2 : r ≤ 255) (h3 : 1 ≤ c) (h4 : c ≤ 255) (hs : s.size = r * c)
    (ha : a.block < w.heap.size) (hL : ∀ i (h : i < L.length), w.cell? (a.add i) = some (.int .i64 L[i])) (hm : L.length ≤ 1152921504606846976) :
    Calls Try.prog 18 #[.agg #[.int .i64 (r : Int), .int .i64 (c : Int), .string s], .slice (some a) L.length cap] w fun e w' =>
      e = .returned (pickAns r c s L) ∧ Below w.heap.size w w' := by
  have ka : ((chk (r : Int) (c : Int) s : Nat) : Int) = 0 := by rw [chk_yes h1 h2 h3 h4 hs]; rfl
  have HS := Lib.hid hs
  have HL := Lib.hid hL
  have HA := Lib.hid ha
  clear hs hL ha
  obtain ⟨n, hn⟩ : ∃ n, n = L.length := ⟨_, rfl⟩
  have HN := Lib.hid hn
  rw [← hn] at hm ⊢
  clear hn
  go_enter Try.func18, Try.ntmps18
  go_wp2_with fail
  obtain ⟨s0, bA, bR, bZ⟩ := blk3 w (.cells #[.int .i64 (r : Int), .int .i64 (c : Int), .string s] 26) (.cells #[.slice (some a) n cap] 34) (.cells #[.int .i64 0, .int .i64 0, .string ⟨#[]⟩] 26)
  have BW : Hid (Below w.heap.size w (((w.alloc (.cells #[.int .i64 (r : Int), .int .i64 (c : Int), .string s] 26)).alloc (.cells #[.slice (some a) n cap] 34)).alloc (.cells #[.int .i64 0, .int .i64 0, .string ⟨#[]⟩] 26))) :=
    (((Below.refl _ w).alloc (Nat.le_refl _) _).alloc (by simp) _).alloc (by simp; omega) _
  generalize ((w.alloc (.cells #[.int .i64 (r : Int), .int .i64 (c : Int), .string s] 26)).alloc (.cells #[.slice (some a) n cap] 34)).alloc (.cells #[.int .i64 0, .int .i64 0, .string ⟨#[]⟩] 26) = w0 at s0 bA bR bZ BW ⊢
  have S0 := Lib.hid s0
  have BA := Lib.hid bA
  have BZ := Lib.hid bZ
  have BR := Lib.hid bR
  clear s0 bA bR bZ
  refine (check_any _ _ _ _).mono ?_
  rintro e w1 ⟨rfl, hb1⟩
  have HB1 : Hid (Below (w.heap.size + 3) w0 w1) := hb1.mono (by have := S0.out; omega)
  clear hb1
  have cR0 := blk_cell (j := 0) ((HB1.out.block (w.heap.size + 1) (by omega)).trans BR.out) rfl
  go_wp2_with fail
  clear cR0
  go_loopw [17] (fun i wr => ∃ k : Nat, k ≤ n ∧ i = .int .i64 (k : Int) ∧ Hid (∀ i (h : i < L.length), i < k → 0 ≤ L[i] ∧ L[i] < (r : Int)) ∧ Hid (Below (w.heap.size + 3) w0 wr)) (fun i _ => n - (intOf i).toNat)
  case atStart => exact ⟨0, by omega, rfl, fun i _ h => absurd h (by omega), HB1.out⟩
  case round =>
    obtain ⟨k, hk, rfl, hin, hbel⟩ := hrel
    clear HB1
    have hw := BW.out.trans (hbel.out.mono (by omega))
    have cA0 := blk_cell (j := 0) ((hbel.out.block w.heap.size (by omega)).trans BA.out) rfl
    have cA1 := blk_cell (j := 1) ((hbel.out.block w.heap.size (by omega)).trans BA.out) rfl
    have cA2 := blk_cell (j := 2) ((hbel.out.block w.heap.size (by omega)).trans BA.out) rfl
    have cR0 := blk_cell (j := 0) ((hbel.out.block (w.heap.size + 1) (by omega)).trans BR.out) rfl
    by_cases hlt : k < n
    · have hkL : k < L.length := by have := HN.out; omega
      have cell := (cell_kept hw (a.add k) (by rw [show (a.add k).block = a.block by unfold Addr.add; split <;> rfl]; exact HA.out)).trans (HL.out k hkL)
      have pk : (k : Int) < (n : Int) := by omega
      have HW := Lib.hid hw
      clear hw
      obtain ⟨x, hx⟩ : ∃ x, x = L[k] := ⟨_, rfl⟩
      rw [← hx] at cell
      have HX := Lib.hid hx
      clear hx
      by_cases hx0 : x < 0
      · have bZr := (hbel.out.block (w.heap.size + 2) (by omega)).trans BZ.out
        have c0 := blk_cell (j := 0) bZr rfl
        have c1 := blk_cell (j := 1) bZr rfl
        have c2 := blk_cell (j := 2) bZr rfl
        have cf := blk_free bZr
        have hans : Hid (pickAns r c s L = .tuple #[.agg #[.int .i64 0, .int .i64 0, .string ⟨#[]⟩], .int .i64 1]) := by show _ = _; unfold pickAns; rw [if_neg fun H => by have := H k hkL; rw [← HX.out] at this; omega]
        clear bZr
        go_wp2_with fail
        exact bodyPost_ret (v := .tuple #[.agg #[.int .i64 0, .int .i64 0, .string ⟨#[]⟩], .int .i64 1]) (by simp [results, Try.results18, go_sem, c0, c1, c2]) rfl
          ⟨by rw [hans.out], below_agg3 (BW.out.trans (hbel.out.mono (by omega))) (by omega) _ _ _⟩
      · by_cases hxr : (r : Int) ≤ x
        · have bZr := (hbel.out.block (w.heap.size + 2) (by omega)).trans BZ.out
          have c0 := blk_cell (j := 0) bZr rfl
          have c1 := blk_cell (j := 1) bZr rfl
          have c2 := blk_cell (j := 2) bZr rfl
          have cf := blk_free bZr
          have hans : Hid (pickAns r c s L = .tuple #[.agg #[.int .i64 0, .int .i64 0, .string ⟨#[]⟩], .int .i64 1]) := by show _ = _; unfold pickAns; rw [if_neg fun H => by have := H k hkL; rw [← HX.out] at this; omega]
          clear bZr
          go_wp2_with fail
          exact bodyPost_ret (v := .tuple #[.agg #[.int .i64 0, .int .i64 0, .string ⟨#[]⟩], .int .i64 1]) (by simp [results, Try.results18, go_sem, c0, c1, c2]) rfl
            ⟨by rw [hans.out], below_agg3 (BW.out.trans (hbel.out.mono (by omega))) (by omega) _ _ _⟩
        · go_wp2_with fail
          go_roundw
          case rel => exact ⟨k + 1, by omega, by go_num, fun i h hi => by
            by_cases e : i = k
            · subst e; rw [← HX.out]; omega
            · exact hin.out i h (by omega), hbel.out⟩
          case measure => simp [intOf]; omega
    · obtain rfl : k = n := by omega
      have HIN : Hid (∀ i (h : i < L.length), 0 ≤ L[i] ∧ L[i] < (r : Int)) := fun i h => hin.out i h (by have := HN.out; omega)
      clear hin
      by_cases hbig : 255 < k
      · have t1 : (255 : Int) < (k : Int) := by omega
        have bZr := (hbel.out.block (w.heap.size + 2) (by omega)).trans BZ.out
        have c0 := blk_cell (j := 0) bZr rfl
        have c1 := blk_cell (j := 1) bZr rfl
        have c2 := blk_cell (j := 2) bZr rfl
        have cf := blk_free bZr
        have hans : Hid (pickAns r c s L = .tuple #[.agg #[.int .i64 0, .int .i64 0, .string ⟨#[]⟩], .int .i64 2]) := by show _ = _; unfold pickAns; rw [if_pos HIN.out, if_pos (by rw [← HN.out]; omega)]
        clear bZr
        go_wp2_with fail
        exact bodyPost_ret (v := .tuple #[.agg #[.int .i64 0, .int .i64 0, .string ⟨#[]⟩], .int .i64 2]) (by simp [results, Try.results18, go_sem, c0, c1, c2]) rfl
          ⟨by rw [hans.out], below_agg3 (BW.out.trans (hbel.out.mono (by omega))) (by omega) _ _ _⟩
      · by_cases hzero : k = 0
        · obtain rfl := hzero
          have bZr := (hbel.out.block (w.heap.size + 2) (by omega)).trans BZ.out
          have c0 := blk_cell (j := 0) bZr rfl
          have c1 := blk_cell (j := 1) bZr rfl
          have c2 := blk_cell (j := 2) bZr rfl
          have cf := blk_free bZr
          have hans : Hid (pickAns r c s L = .tuple #[.agg #[.int .i64 0, .int .i64 0, .string ⟨#[]⟩], .int .i64 1]) := by show _ = _; unfold pickAns; rw [if_pos HIN.out, if_neg (by rw [← HN.out]; omega), if_pos HN.out.symm]
          clear bZr
          go_wp2_with fail
          exact bodyPost_ret (v := .tuple #[.agg #[.int .i64 0, .int .i64 0, .string ⟨#[]⟩], .int .i64 1]) (by simp [results, Try.results18, go_sem, c0, c1, c2]) rfl
            ⟨by rw [hans.out], below_agg3 (BW.out.trans (hbel.out.mono (by omega))) (by omega) _ _ _⟩
        · have t1 : ((k : Int) == 0) = false := by simp; omega
          have t2 : (k : Int) ≤ 255 := by omega
          go_wp2_with fail
          have hz := hbel.out.size
          have hz0 := S0.out
          have hw := BW.out.trans (hbel.out.mono (by omega))
          have bA6 := (hbel.out.block w.heap.size (by omega)).trans BA.out
          have bR6 := (hbel.out.block (w.heap.size + 1) (by omega)).trans BR.out
          have bZ6 := (hbel.out.block (w.heap.size + 2) (by omega)).trans BZ.out
          have hg : Gives2 45 #[] #[.pointer (some ⟨w.heap.size, 0, none⟩), .pointer (some ⟨w.heap.size + 1, 0, none⟩)] wr k c (pickF L (cel s c)) := by
            intro i j W hi hj hb
            have hiL : i < L.length := by have := HN.out; omega
            have hx := HIN.out i hiL
            obtain ⟨p, hp⟩ : ∃ p : Nat, L[i] = (p : Int) := ⟨L[i].toNat, by omega⟩
            have hrow : pickF L (cel s c) i j = cel s c p j := by unfold pickF; rw [List.getD_eq_getElem?_getD, List.getElem?_eq_getElem hiL, Option.getD_some, hp]; rfl
            rw [hrow]
            have hcell := (cell_kept hw (a.add i) (by rw [add_block]; exact HA.out)).trans (HL.out i hiL)
            rw [hp] at hcell
            have hE : PEnv wr w.heap.size (w.heap.size + 1) r c k cap s a (a.add i) (p : Int) wr := ⟨Below.refl _ _, ⟨blk_cell bA6 rfl, blk_cell bA6 rfl, blk_cell bA6 rfl, by omega⟩, ⟨blk_cell bR6 rfl, by omega⟩, ⟨hcell, by rw [add_block]; have := HA.out; have := hw.size; omega⟩⟩
            exact pick_cell r c k cap w.heap.size (w.heap.size + 1) i j p s a W h2 h4 hi hj (by omega) HS.out ⟨Below.refl _ _, (hE.step hb).2⟩
          refine Calls.mono (fill_any _ _ _ k c (pickF L (cel s c)) wr (by omega) (by omega) h3 h4 Try.eg45 hg) ?_
          rintro e w7 ⟨rfl, hb7⟩
          have bZ7 := (hb7.block (w.heap.size + 2) (by omega)).trans bZ6
          have HB7 := Lib.hid hb7
          have d0 := blk_cell (j := 0) bZ7 rfl
          have d1 := blk_cell (j := 1) bZ7 rfl
          have d2 := blk_cell (j := 2) bZ7 rfl
          have df := blk_free bZ7
          have hans : Hid (pickAns r c s L = .tuple #[.agg #[.int .i64 (k : Int), .int .i64 (c : Int), .string ⟨(tabL k c (pickF L (cel s c))).toArray⟩], .int .i64 0]) := by
            show _ = _; unfold pickAns; rw [if_pos HIN.out, if_neg (by rw [← HN.out]; omega), if_neg (by rw [← HN.out]; omega), ← HN.out]
          have HW := Lib.hid hw
          clear hb7 hg bA6 bR6 bZ6 bZ7 hw
          go_wp2_with fail
          exact bodyPost_ret (v := .tuple #[.agg #[.int .i64 (k : Int), .int .i64 (c : Int), .string ⟨(tabL k c (pickF L (cel s c))).toArray⟩], .int .i64 0]) (by simp [results, Try.results18, go_sem, d0, d1, d2]) rfl
            ⟨by rw [hans.out], below_agg3 (HW.out.trans (HB7.out.mono (by have := HW.out.size; omega))) (by omega) _ _ _⟩

end Go.Proofs.Ytmnciipfepeccaa
