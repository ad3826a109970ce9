/- What the document's own answers for matrices do: checks, the identity, products; one contract a function; no condition but the form's reach. -/
import Derived.Test.YtlmcpnlnbjloaaaMatSpec
namespace Go.Proofs.Ytlmcpnlnbjloaaa
open Go.RowKit

set_option maxRecDepth 20000 in
set_option maxHeartbeats 1000000 in
theorem rcheck_any (r c : Int) (s : ByteArray) (w : World) :
    Calls Try.prog 14 #[.agg #[.int .i64 r, .int .i64 c, .string s]] w fun e w' => e = .returned (.int .i64 ((chk r c s : Nat) : Int)) ∧ Below w.heap.size w w' := by
  by_cases h1 : r < 1
  · have E : Hid (chk r c s = 4) := if_neg (fun h => by unfold may at h; omega)
    go_enter Try.func14, Try.ntmps14
    go_wp2
    go_ret
    exact ⟨by rw [E.out]; rfl, (Below.refl _ _).alloc (Nat.le_refl _) _⟩
  by_cases h2 : 255 < r
  · have E : Hid (chk r c s = 4) := if_neg (fun h => by unfold may at h; omega)
    go_enter Try.func14, Try.ntmps14
    go_wp2
    go_ret
    exact ⟨by rw [E.out]; rfl, (Below.refl _ _).alloc (Nat.le_refl _) _⟩
  by_cases h3 : c < 1
  · have E : Hid (chk r c s = 4) := if_neg (fun h => by unfold may at h; omega)
    go_enter Try.func14, Try.ntmps14
    go_wp2
    go_ret
    exact ⟨by rw [E.out]; rfl, (Below.refl _ _).alloc (Nat.le_refl _) _⟩
  by_cases h4 : 255 < c
  · have E : Hid (chk r c s = 4) := if_neg (fun h => by unfold may at h; omega)
    go_enter Try.func14, Try.ntmps14
    go_wp2
    go_ret
    exact ⟨by rw [E.out]; rfl, (Below.refl _ _).alloc (Nat.le_refl _) _⟩
  obtain ⟨p1, p2⟩ := prod_rng (r := r) (c := c) (by omega) (by omega) (by omega) (by omega)
  by_cases h5 : (s.size : Int) = r * c
  · have E : Hid (chk r c s = 0) := if_pos ⟨by omega, by omega, by omega, by omega, h5⟩
    have t5 : ((s.size : Int) != r * c) = false := by simp [h5]
    clear h5
    go_enter Try.func14, Try.ntmps14
    go_wp2
    go_ret
    exact ⟨by rw [E.out]; rfl, (Below.refl _ _).alloc (Nat.le_refl _) _⟩
  · have E : Hid (chk r c s = 4) := if_neg (fun h => h5 h.2.2.2.2)
    have t5 : ((s.size : Int) != r * c) = true := by simpa using h5
    clear h5
    go_enter Try.func14, Try.ntmps14
    go_wp2
    go_ret
    exact ⟨by rw [E.out]; rfl, (Below.refl _ _).alloc (Nat.le_refl _) _⟩

set_option maxRecDepth 20000 in
set_option maxHeartbeats 1000000 in
theorem rone_any (n : Nat) (w : World) (h1 : 1 ≤ n) (h2 : n ≤ 255) :
    Calls Try.prog 31 #[.int .i64 (n : Int)] w fun e w' => e = .returned (.agg #[.int .i64 (n : Int), .int .i64 (n : Int), .string ⟨(tabL n n GfU.one).toArray⟩]) ∧ Below w.heap.size w w' := by
  obtain ⟨p1, p2⟩ := prod_rng (r := (n : Int)) (c := (n : Int)) (by omega) (by omega) (by omega) (by omega)
  obtain ⟨i0, hi, hz0, hz1, hz2⟩ := info_parts Try.infoU8
  have hN : n * n ≤ 65025 := by have : ((n * n : Nat) : Int) ≤ 65025 := by rw [Int.natCast_mul]; exact p2
                                omega
  go_enter Try.func31, Try.ntmps31
  go_wp2_with (at_make; refine wpList_make_full _ rfl (.tmp 7) (.tmp 7) 68 rfl (w.heap.size + 1) 5 i0 (.int .u8 0) 1 Try.underlying68 hi hz0 hz1 .i64 .i64 _ _ (n * n) rfl rfl (Int.natCast_mul n n).symm (Int.natCast_mul n n).symm (by rw [hz2]; omega) (by unfold maxLen; omega) (by simp) ?_; intro w1 hown hgrow)
  have HO : Hid (w1.ownsRow (w.heap.size + 1) 5 1 (.slice (some ⟨w.heap.size + 1, 0, none⟩) (n * n) (n * n)) (n * n) (cellsU (tabL n n (oneUp 0)))) := by
    rw [cellsU_zero n n (n * n) rfl] at hown
    have e : tabL n n (fun _ _ => 0) = tabL n n (oneUp 0) := tab_congr n n fun _ _ _ _ => rfl
    rw [e] at hown
    have hs : (w.alloc (.cells #[.int .i64 0, .int .i64 0, .string ⟨#[]⟩] 23)).heap.size = w.heap.size + 1 := by simp
    rw [hs] at hown
    exact hown
  have HB : Hid (Below (w.heap.size + 1) (w.alloc (.cells #[.int .i64 0, .int .i64 0, .string ⟨#[]⟩] 23)) w1) := (Below.refl _ _).grown hgrow (by simp) (fun k hk => by cases hk)
  clear hown hgrow
  go_loopw [4] (fun i wr => ∃ k : Nat, k ≤ n ∧ i = .int .i64 (k : Int) ∧ Hid (wr.ownsRow (w.heap.size + 1) 5 1 (.slice (some ⟨w.heap.size + 1, 0, none⟩) (n * n) (n * n)) (n * n) (cellsU (tabL n n (oneUp k)))) ∧ Hid (Below (w.heap.size + 1) (w.alloc (.cells #[.int .i64 0, .int .i64 0, .string ⟨#[]⟩] 23)) wr)) (fun i _ => n - (intOf i).toNat)
  case atStart => exact ⟨0, by omega, rfl, HO, HB⟩
  case round =>
    obtain ⟨k, hk, rfl, hown, hbel⟩ := hrel
    clear HO HB
    by_cases hlt : k < n
    · have hpl := place_lt (r := n) (c := n) (i := k) (j := k) hlt hlt
      have q0 : 0 ≤ (k : Int) * (n : Int) := by rw [← Int.natCast_mul]; omega
      have q1 : (k : Int) * (n : Int) + (k : Int) < (n : Int) * (n : Int) := by rw [← Int.natCast_mul, ← Int.natCast_mul]; omega
      have q2 : ((k : Int) * (n : Int) + (k : Int)).toNat = k * n + k := by rw [← Int.natCast_mul]; omega
      have hcell := (hown.out.cellAt (k * n + k) (by omega)).trans (cellsU_at n n k k (oneUp k) hlt hlt)
      have hfro := hown.out.frozenAt (k * n + k)
      go_wp2_with fail
      go_roundw
      case rel =>
        have R := hown.out.stored (k * n + k) (.int .u8 1)
        rw [cellsU_set n n k k (oneUp k) (oneUp (k + 1)) hlt hlt (oneUp_off k) 1 (by unfold oneUp GfU.one; rw [if_pos (by omega), if_pos rfl]; rfl)] at R
        exact ⟨k + 1, by omega, by go_num, R.1, hbel.out.setCell (by simp) _⟩
      case measure => simp [intOf]; omega
    · obtain rfl : k = n := by omega
      have hcv := run_own_text (P := Try.prog) (w := wr) (src := 68) (dst := 9) hown.out (by rw [tab_length]) Try.underlying68 Try.underlying5 Try.underlying9
      rw [tab_congr k k (f := oneUp k) (g := GfU.one) fun i j hi _ => if_pos hi] at hcv
      have c0 : wr.cell? ⟨w.heap.size, 0, none⟩ = some (.int .i64 0) := (hbel.out.cell (p := ⟨w.heap.size, 0, none⟩) (by simp)).trans (by simp)
      have c1 : wr.cell? ⟨w.heap.size, 1, none⟩ = some (.int .i64 0) := (hbel.out.cell (p := ⟨w.heap.size, 1, none⟩) (by simp)).trans (by simp)
      have c2 : wr.cell? ⟨w.heap.size, 2, none⟩ = some (.string ⟨#[]⟩) := (hbel.out.cell (p := ⟨w.heap.size, 2, none⟩) (by simp)).trans (by simp)
      have cf : ∀ o, wr.frozen? ⟨w.heap.size, o, none⟩ = false := fun o => (hbel.out.frozen (p := ⟨w.heap.size, o, none⟩) (by simp)).trans (by simp)
      clear hown
      go_wp2_with fail
      exact bodyPost_ret (v := .agg #[.int .i64 (k : Int), .int .i64 (k : Int), .string ⟨(tabL k k GfU.one).toArray⟩]) (by simp [results, Try.results31, go_sem, c0, c1, c2]) rfl
        ⟨rfl, (((((Below.refl _ w).alloc (Nat.le_refl _) _).trans (hbel.out.mono (by omega))).setCell (Nat.le_refl _) _).setCell (Nat.le_refl _) _).setCell (Nat.le_refl _) _⟩

set_option maxRecDepth 20000 in
set_option maxHeartbeats 1000000 in
theorem rident_no (n : Int) (w : World) (h : n < 1 ∨ 255 < n) :
    Calls Try.prog 12 #[.int .i64 n] w fun e w' => e = .returned (.tuple #[.agg #[.int .i64 0, .int .i64 0, .string ⟨#[]⟩], .int .i64 1]) ∧ Below w.heap.size w w' := by
  rcases h with h | h
  all_goals
    go_enter Try.func12, Try.ntmps12
    go_wp2_with fail
    exact bodyPost_ret (v := .tuple #[.agg #[.int .i64 0, .int .i64 0, .string ⟨#[]⟩], .int .i64 1]) (by simp [results, Try.results12, go_sem]) rfl
      ⟨rfl, by first | exact (Below.refl _ w).alloc (Nat.le_refl _) _ | exact ((((Below.refl _ w).alloc (Nat.le_refl _) _).setCell (Nat.le_refl _) _).setCell (Nat.le_refl _) _).setCell (Nat.le_refl _) _⟩

set_option maxRecDepth 20000 in
set_option maxHeartbeats 1000000 in
theorem rident_yes (n : Nat) (w : World) (h1 : 1 ≤ n) (h2 : n ≤ 255) :
    Calls Try.prog 12 #[.int .i64 (n : Int)] w fun e w' => e = .returned (.tuple #[.agg #[.int .i64 (n : Int), .int .i64 (n : Int), .string ⟨(tabL n n GfU.one).toArray⟩], .int .i64 0]) ∧ Below w.heap.size w w' := by
  go_enter Try.func12, Try.ntmps12
  go_wp2_with fail
  refine (rone_any n _ h1 h2).mono ?_
  rintro e w1 ⟨rfl, hb⟩
  have HB := Lib.hid hb
  obtain ⟨hc, hf⟩ := bcell hb
  clear hb
  go_wp2_with fail
  exact bodyPost_ret (v := .tuple #[.agg #[.int .i64 (n : Int), .int .i64 (n : Int), .string ⟨(tabL n n GfU.one).toArray⟩], .int .i64 0]) (by simp [results, Try.results12, go_sem, hc]) rfl
    ⟨rfl, below_agg3 (below_new HB.out) (Nat.le_refl _) _ _ _⟩

/-- the product's bytes of a and b when n places stand in it, whole rows first -/
def timesF (ca cb : Nat) (a b : ByteArray) (i j : Nat) : UInt8 := GfU.mm ca (cel a ca) (cel b cb) i j

theorem cel_at (s : ByteArray) (c i j : Nat) (h : i * c + j < s.size) : (s[i * c + j]'h) = cel s c i j := by
  unfold cel
  have h' : i * c + j < s.data.size := h
  rw [Array.getElem?_eq_getElem h']; rfl

/-- the first k products of a row and a column -/
def dotF (ca cb : Nat) (a b : ByteArray) (i j k : Nat) : UInt8 := GfU.sum k fun l => GfU.ml (cel a ca i l) (cel b cb l j)

theorem dotF_succ (ca cb : Nat) (a b : ByteArray) (i j k : Nat) (h1 : i * ca + k < a.size) (h2 : k * cb + j < b.size) :
    (dotF ca cb a b i j (k + 1)).toNat = (dotF ca cb a b i j k).toNat ^^^ GfM.mul (a[i * ca + k]'h1).toNat (b[k * cb + j]'h2).toNat := by
  unfold dotF
  rw [GfU.sum_succ, UInt8.toNat_xor, GfU.ml_toNat, cel_at, cel_at]

theorem take_tab (r c : Nat) (f : Nat → Nat → UInt8) (i j : Nat) (hi : i < r) (hj : j < c) : cellsU ((tabL r c f).take (i * c + j)) ++ [.int .u8 ((f i j).toNat : Int)] = cellsU ((tabL r c f).take (i * c + j + 1)) := by
  have h : i * c + j < (tabL r c f).length := by rw [tab_length]; exact place_lt hi hj
  unfold cellsU
  rw [List.take_succ_eq_append_getElem h, List.map_append, List.map_cons, List.map_nil]
  have e := tab_place r c f i j hi hj
  rw [List.getElem?_eq_getElem h, Option.some.injEq] at e
  rw [e]

set_option maxRecDepth 20000 in
set_option maxHeartbeats 2000000 in
theorem rtimes_any (ra ca cb : Nat) (a b : ByteArray) (w : World) (h1 : 1 ≤ ra) (h2 : ra ≤ 255) (h3 : 1 ≤ ca) (h4 : ca ≤ 255) (h5 : 1 ≤ cb) (h6 : cb ≤ 255) (ha : a.size = ra * ca) (hb : b.size = ca * cb) :
    Calls Try.prog 37 #[.agg #[.int .i64 (ra : Int), .int .i64 (ca : Int), .string a], .agg #[.int .i64 (ca : Int), .int .i64 (cb : Int), .string b]] w fun e w' =>
      e = .returned (.agg #[.int .i64 (ra : Int), .int .i64 (cb : Int), .string ⟨(tabL ra cb (timesF ca cb a b)).toArray⟩]) ∧ Below w.heap.size w w' := by
  obtain ⟨i0, hi, hz0, hz1, hz2⟩ := info_parts Try.infoU8
  have HA := Lib.hid ha
  have HB := Lib.hid hb
  clear ha hb
  go_enter Try.func37, Try.ntmps37
  go_wp2_with fail
  obtain ⟨s0, bA, bB, bZ⟩ := blk3 w (.cells #[.int .i64 (ra : Int), .int .i64 (ca : Int), .string a] 23) (.cells #[.int .i64 (ca : Int), .int .i64 (cb : Int), .string b] 23) (.cells #[.int .i64 0, .int .i64 0, .string ⟨#[]⟩] 23)
  have BW : Hid (Below w.heap.size w (((w.alloc (.cells #[.int .i64 (ra : Int), .int .i64 (ca : Int), .string a] 23)).alloc (.cells #[.int .i64 (ca : Int), .int .i64 (cb : Int), .string b] 23)).alloc (.cells #[.int .i64 0, .int .i64 0, .string ⟨#[]⟩] 23))) :=
    (((Below.refl _ w).alloc (Nat.le_refl _) _).alloc (by simp) _).alloc (by simp; omega) _
  generalize (((w.alloc (.cells #[.int .i64 (ra : Int), .int .i64 (ca : Int), .string a] 23)).alloc (.cells #[.int .i64 (ca : Int), .int .i64 (cb : Int), .string b] 23)).alloc (.cells #[.int .i64 0, .int .i64 0, .string ⟨#[]⟩] 23)) = w0 at s0 bA bB bZ BW ⊢
  have S0 := Lib.hid s0
  have BA := Lib.hid bA
  have BB := Lib.hid bB
  have BZ := Lib.hid bZ
  clear s0 bA bB bZ
  go_loopw [5, 6, 7, 8, 9] (fun v i _ _ _ wr => ∃ n : Nat, n ≤ ra ∧ i = .int .i64 (n : Int) ∧ Hid (wr.ownsRow (w.heap.size + 3) 5 1 v (n * cb) (cellsU ((tabL ra cb (timesF ca cb a b)).take (n * cb)))) ∧ Hid (Below (w.heap.size + 3) w0 wr)) (fun _ i _ _ _ _ => ra - (intOf i).toNat)
  case atStart => exact ⟨0, by omega, rfl, by rw [Nat.zero_mul]; exact World.ownsRow_nil _ _ _ _, Below.refl _ _⟩
  case round =>
    obtain ⟨n, hn, rfl, hown, hbel⟩ := hrel
    have hq := hbel.out.size
    have cA0 := blk_cell (j := 0) ((hbel.out.block w.heap.size (by omega)).trans BA.out) rfl
    have cB1 := blk_cell (j := 1) ((hbel.out.block (w.heap.size + 1) (by omega)).trans BB.out) rfl
    by_cases hlt : n < ra
    · go_wp2_with fail
      obtain ⟨wn, rfl⟩ : ∃ wn : World, wn = wr := ⟨_, rfl⟩
      clear cA0 cB1
      go_loopw [5, 7, 8, 9] (fun v i _ _ wr => ∃ m : Nat, m ≤ cb ∧ i = .int .i64 (m : Int) ∧ Hid (wr.ownsRow (w.heap.size + 3) 5 1 v (n * cb + m) (cellsU ((tabL ra cb (timesF ca cb a b)).take (n * cb + m)))) ∧ Hid (Below (w.heap.size + 3) w0 wr)) (fun _ i _ _ _ => cb - (intOf i).toNat)
      case atStart => exact ⟨0, by omega, rfl, hown, hbel⟩
      case round =>
        clear hown hbel
        obtain ⟨m, hm, rfl, hown, hbel⟩ := hrel
        have hq := hbel.out.size
        have cA0 := blk_cell (j := 0) ((hbel.out.block w.heap.size (by omega)).trans BA.out) rfl
        have cA1 := blk_cell (j := 1) ((hbel.out.block w.heap.size (by omega)).trans BA.out) rfl
        have cA2 := blk_cell (j := 2) ((hbel.out.block w.heap.size (by omega)).trans BA.out) rfl
        have cB1 := blk_cell (j := 1) ((hbel.out.block (w.heap.size + 1) (by omega)).trans BB.out) rfl
        have cB2 := blk_cell (j := 2) ((hbel.out.block (w.heap.size + 1) (by omega)).trans BB.out) rfl
        by_cases hlt2 : m < cb
        · go_wp2_with fail
          obtain ⟨wm, rfl⟩ : ∃ wm : World, wm = wr := ⟨_, rfl⟩
          go_loopw [8, 9] (fun o i wr => ∃ k d : Nat, k ≤ ca ∧ i = .int .i64 (k : Int) ∧ o = .int .u8 ((dotF ca cb a b n m k).toNat : Int) ∧ wr = wm.drewN d) (fun _ i _ => ca - (intOf i).toNat)
          case atStart => exact ⟨0, 0, by omega, rfl, rfl, rfl⟩
          case round =>
            obtain ⟨k, d, hk, rfl, rfl, rfl⟩ := hrel
            by_cases hlt3 : k < ca
            · have x1 : n * ca + k < a.size := by rw [HA.out]; exact place_lt hlt hlt3
              have x2 : k * cb + m < b.size := by rw [HB.out]; exact place_lt hlt3 hlt2
              have y1 : n * ca + k < 65025 := Nat.lt_of_lt_of_le (place_lt hlt hlt3) (Nat.mul_le_mul h2 h4)
              have y2 : k * cb + m < 65025 := Nat.lt_of_lt_of_le (place_lt hlt3 hlt2) (Nat.mul_le_mul h4 h6)
              have E := Lib.hid (dotF_succ ca cb a b n m k x1 x2)
              have z1 : 0 ≤ (n : Int) * (ca : Int) := by rw [← Int.natCast_mul]; omega
              have z2 : 0 ≤ (k : Int) * (cb : Int) := by rw [← Int.natCast_mul]; omega
              have z3 : (n : Int) * (ca : Int) + (k : Int) < (a.size : Int) := by rw [← Int.natCast_mul]; omega
              have z4 : (k : Int) * (cb : Int) + (m : Int) < (b.size : Int) := by rw [← Int.natCast_mul]; omega
              have z5 : (n : Int) * (ca : Int) + (k : Int) < 65025 := by rw [← Int.natCast_mul]; omega
              have z6 : (k : Int) * (cb : Int) + (m : Int) < 65025 := by rw [← Int.natCast_mul]; omega
              have s1 : IntKind.i64.wrap ((n : Int) * (ca : Int)) = (n : Int) * (ca : Int) := i64_wrap z1 (by omega)
              have s2 : IntKind.i64.wrap ((n : Int) * (ca : Int) + (k : Int)) = (n : Int) * (ca : Int) + (k : Int) := i64_wrap (by omega) (by omega)
              have s3 : IntKind.i64.wrap ((k : Int) * (cb : Int)) = (k : Int) * (cb : Int) := i64_wrap z2 (by omega)
              have s4 : IntKind.i64.wrap ((k : Int) * (cb : Int) + (m : Int)) = (k : Int) * (cb : Int) + (m : Int) := i64_wrap (by omega) (by omega)
              have s5 : 0 ≤ (n : Int) * (ca : Int) + (k : Int) := by omega
              have s6 : 0 ≤ (k : Int) * (cb : Int) + (m : Int) := by omega
              have s7 : ((n : Int) * (ca : Int) + (k : Int)).toNat = n * ca + k := by rw [← Int.natCast_mul]; omega
              have s8 : ((k : Int) * (cb : Int) + (m : Int)).toNat = k * cb + m := by rw [← Int.natCast_mul]; omega
              have b1 : (a[n * ca + k]'x1).toNat ≤ 255 := GfU.toNat_le _
              have b2 : (b[k * cb + m]'x2).toNat ≤ 255 := GfU.toNat_le _
              have b3 : (dotF ca cb a b n m k).toNat ≤ 255 := GfU.toNat_le _
              have mm := GfM.mul_le (a[n * ca + k]'x1).toNat (b[k * cb + m]'x2).toNat
              have e1 : bits .xor .u8 ((dotF ca cb a b n m k).toNat : Int) ((GfM.mul (a[n * ca + k]'x1).toNat (b[k * cb + m]'x2).toNat : Nat) : Int) = (((dotF ca cb a b n m k).toNat ^^^ GfM.mul (a[n * ca + k]'x1).toNat (b[k * cb + m]'x2).toNat : Nat) : Int) := u8_xor_nat _ _ (by omega) (by omega)
              go_wp2_with fail
              go_quiet ((go_at_call 53; exact quiet_plus (rmul_in _ _ _ b1 b2)))
              go_wp2_with fail
              go_roundw
              case rel => exact ⟨k + 1, _, by omega, by go_num, by rw [E.out], rfl⟩
              case measure => simp [intOf]; omega
            · have y0 : n * cb + m < 65025 := Nat.lt_of_lt_of_le (place_lt hlt hlt2) (Nat.mul_le_mul h2 h6)
              obtain rfl : k = ca := by omega
              go_wp2_with (at_builtin; refine wpList_append_own _ rfl _ _ 68 rfl (w.heap.size + 3) 5 i0 (.int .u8 0) 1 1 Try.underlying68 hi hz0 hz1 hz2 rfl (by decide) _ _ _ rfl ((show World.ownsRow (wm.drewN d) _ _ _ _ _ _ from hown.out).alloc _) ⟨wm.heap.size, 0, none⟩ 1 1 [.int .u8 ((dotF k cb a b n m k).toNat : Int)] rfl rfl ?c1 ?c2 ?c3 ?c4 ?c5 ?_)
              case c1 => exact cell_one_new (wm.drewN d) _ _
              case c2 => intro u hu; simp at hu; subst hu; rfl
              case c3 => unfold maxLen; omega
              case c4 => omega
              case c5 => simp; have := S0.out; omega
              intro v' w1 hown' hgrow _
              have HBl := Lib.hid (below_append (show World.ownsRow (wm.drewN d) _ _ _ _ _ _ from hown.out) (below_drewN hbel.out d) (by have := S0.out; omega) hgrow)
              rw [show dotF k cb a b n m k = timesF k cb a b n m from rfl, take_tab ra cb (timesF k cb a b) n m hlt hlt2] at hown'
              have HO := Lib.hid hown'
              clear hown' hgrow
              go_wp2_with fail
              go_roundw
              case rel => exact ⟨m + 1, by omega, by go_num, HO.out, HBl.out⟩
              case measure => simp [intOf]; omega
        · obtain rfl : m = cb := by omega
          go_wp2_with fail
          go_roundw
          case rel => exact ⟨n + 1, by omega, by go_num, by rw [Nat.add_mul, Nat.one_mul]; exact hown.out, hbel.out⟩
          case measure => simp [intOf]; omega
    · obtain rfl : n = ra := by omega
      have hL : (tabL n cb (timesF ca cb a b)).length = n * cb := tab_length _ _ _
      rcases hown.out.2 with ⟨_, h⟩ | ⟨g, cap, cur, rfl, _⟩
      · exact absurd h (Nat.ne_of_gt (Nat.mul_pos h1 h5))
      · have HO : Hid (wr.ownsRow (w.heap.size + 3) 5 1 (.slice (some ⟨g, 0, none⟩) (n * cb) cap) (n * cb) (cellsU (tabL n cb (timesF ca cb a b)))) := by
          have h := hown.out
          rw [List.take_of_length_le (by omega)] at h; exact h
        have hcv := run_own_text (P := Try.prog) (w := wr) (src := 68) (dst := 9) HO.out hL Try.underlying68 Try.underlying5 Try.underlying9
        have bZr := (hbel.out.block (w.heap.size + 1 + 1) (by omega)).trans BZ.out
        have c0 := blk_cell (j := 0) bZr rfl
        have c1 := blk_cell (j := 1) bZr rfl
        have c2 := blk_cell (j := 2) bZr rfl
        have cf := blk_free bZr
        clear bZr hL hown
        go_wp2_with fail
        exact bodyPost_ret (v := .agg #[.int .i64 (n : Int), .int .i64 (cb : Int), .string ⟨(tabL n cb (timesF ca cb a b)).toArray⟩]) (by simp [results, Try.results37, go_sem, c0, c1, c2]) rfl
          ⟨rfl, below_agg3 (BW.out.trans (hbel.out.mono (by omega))) (by omega) _ _ _⟩

end Go.Proofs.Ytlmcpnlnbjloaaa
