/- What the landed package stripe does, its small functions: codes, sizes, whether shards are as long, an object's plain bytes; no condition but the range. -/
import Derived.Test.YtmnciipfepeccaaStMath
import Derived.Test.YtmnciipfepeccaaBook
import Derived.Test.YtmnciipfepeccaaGfLinear
import Derived.Test.YtmnciipfepeccaaMatLaw0
import Derived.Test.YtmnciipfepeccaaMatPick
import Derived.Deep.RegionWith
import Derived.Laws.CopyOwn
namespace Go.Proofs.Ytmnciipfepeccaa
open Go.RowKit

/-- is it a code? -/
def codeB (k m : Int) : Bool := decide (1 ≤ k ∧ k ≤ 255 ∧ 0 ≤ m ∧ m ≤ 255 - k)

theorem codeB_yes {k m : Nat} (h1 : 1 ≤ k) (h2 : k + m ≤ 255) : codeB (k : Int) (m : Int) = true := by unfold codeB; simp; omega

theorem codeB_nat {k m : Int} (h : codeB k m = true) : ∃ a b : Nat, k = (a : Int) ∧ m = (b : Int) ∧ 1 ≤ a ∧ a + b ≤ 255 := by
  unfold codeB at h
  simp at h
  exact ⟨k.toNat, m.toNat, by omega, by omega, by omega, by omega⟩

set_option maxHeartbeats 1000000 in
theorem isCode_any (k m : Int) (w : World) : Calls Try.prog 46 #[.int .i64 k, .int .i64 m] w fun e w' => e = .returned (.bool (codeB k m)) ∧ w' = w := by
  by_cases h1 : 1 ≤ k
  · by_cases h2 : k ≤ 255
    · by_cases h3 : 0 ≤ m
      · by_cases h4 : m ≤ 255 - k
        · have E := Lib.hid (show codeB k m = true by unfold codeB; simp; omega)
          have hw : IntKind.i64.wrap (255 - k) = 255 - k := i64_wrap (by omega) (by omega)
          go_enter Try.func46, Try.ntmps46
          go_wp2
          go_ret
          exact ⟨by rw [E.out]; rfl, rfl⟩
        · have E := Lib.hid (show codeB k m = false by unfold codeB; simp; omega)
          have h5 : 255 - k < m := by omega
          have hw : IntKind.i64.wrap (255 - k) = 255 - k := i64_wrap (by omega) (by omega)
          go_enter Try.func46, Try.ntmps46
          go_wp2
          go_ret
          exact ⟨by rw [E.out]; rfl, rfl⟩
      · have E := Lib.hid (show codeB k m = false by unfold codeB; simp; omega)
        go_enter Try.func46, Try.ntmps46
        go_wp2
        go_ret
        exact ⟨by rw [E.out]; rfl, rfl⟩
    · have E := Lib.hid (show codeB k m = false by unfold codeB; simp; omega)
      go_enter Try.func46, Try.ntmps46
      go_wp2
      go_ret
      exact ⟨by rw [E.out]; rfl, rfl⟩
  · have E := Lib.hid (show codeB k m = false by unfold codeB; simp; omega)
    go_enter Try.func46, Try.ntmps46
    go_wp2
    go_ret
    exact ⟨by rw [E.out]; rfl, rfl⟩

theorem size_any (k n : Nat) (w : World) (h1 : 1 ≤ k) (h2 : k ≤ 100000) (h3 : n ≤ 100000) :
    Calls Try.prog 47 #[.int .i64 (k : Int), .int .i64 (n : Int)] w fun e w' => e = .returned (.int .i64 ((St.szN k n : Nat) : Int)) ∧ w' = w := by
  have E := Lib.hid (show (4 + (n : Int) + (k : Int) - 1) / (k : Int) = ((St.szN k n : Nat) : Int) by
    unfold St.szN
    rw [Int.natCast_ediv]
    congr 1
    omega)
  have hk : ((k : Int) == 0) = false := by simp; omega
  have e2 : (0 : Int) ≤ 4 + (n : Int) + (k : Int) - 1 := by omega
  have e3 : (1 : Int) ≤ (k : Int) := by omega
  go_enter Try.func47, Try.ntmps47
  go_wp2
  go_ret
  exact ⟨by rw [← E.out]; go_num, rfl⟩

/-- what Size answers -/
def sizeAns (k n : Int) : Value := if codeB k 0 = true ∧ 0 ≤ n ∧ n ≤ 2048 then .tuple #[.int .i64 ((St.szN k.toNat n.toNat : Nat) : Int), .int .i64 0] else .tuple #[.int .i64 0, .int .i64 1]

theorem sizeAns_yes {k n : Nat} (h1 : 1 ≤ k) (h2 : k ≤ 255) (h3 : n ≤ 2048) : sizeAns (k : Int) (n : Int) = .tuple #[.int .i64 ((St.szN k n : Nat) : Int), .int .i64 0] := by
  unfold sizeAns
  rw [if_pos ⟨codeB_yes h1 (by omega), by omega, by omega⟩, Int.toNat_natCast, Int.toNat_natCast]

set_option maxHeartbeats 1000000 in
theorem Size_any (k n : Int) (w : World) :
    Calls Try.prog 19 #[.int .i64 k, .int .i64 n] w fun e w' => e = .returned (sizeAns k n) ∧ w' = w := by
  cases hc : codeB k 0
  · have E := Lib.hid (show sizeAns k n = .tuple #[.int .i64 0, .int .i64 1] by unfold sizeAns; rw [if_neg (by simp [hc])])
    go_enter Try.func19, Try.ntmps19
    go_wp2_with (go_at_call 46; refine (isCode_any _ _ _).mono ?_; rintro e w' ⟨rfl, rfl⟩)
    go_ret2
    exact ⟨by rw [E.out]; rfl, rfl⟩
  · obtain ⟨a, b, rfl, hb, h1, h2⟩ := codeB_nat hc
    obtain rfl : b = 0 := by omega
    clear hb
    by_cases h3 : 0 ≤ n
    · by_cases h4 : n ≤ 2048
      · obtain ⟨m, rfl⟩ : ∃ m : Nat, n = (m : Int) := ⟨n.toNat, by omega⟩
        have E := Lib.hid (sizeAns_yes h1 (by omega) (show m ≤ 2048 by omega))
        go_enter Try.func19, Try.ntmps19
        go_wp2_with (first | (go_at_call 46; refine (isCode_any _ _ _).mono ?_; rintro e w' ⟨rfl, rfl⟩) | (go_at_call 47; refine (size_any _ _ _ h1 (by omega) (by omega)).mono ?_; rintro e w' ⟨rfl, rfl⟩))
        go_ret2
        exact ⟨by rw [E.out]; rfl, rfl⟩
      · have E := Lib.hid (show sizeAns a n = .tuple #[.int .i64 0, .int .i64 1] by unfold sizeAns; rw [if_neg (by omega)])
        go_enter Try.func19, Try.ntmps19
        go_wp2_with (go_at_call 46; refine (isCode_any _ _ _).mono ?_; rintro e w' ⟨rfl, rfl⟩)
        go_ret2
        exact ⟨by rw [E.out]; rfl, rfl⟩
    · have E := Lib.hid (show sizeAns a n = .tuple #[.int .i64 0, .int .i64 1] by unfold sizeAns; rw [if_neg (by omega)])
      go_enter Try.func19, Try.ntmps19
      go_wp2_with (go_at_call 46; refine (isCode_any _ _ _).mono ?_; rintro e w' ⟨rfl, rfl⟩)
      go_ret2
      exact ⟨by rw [E.out]; rfl, rfl⟩

/-! ### slices of texts -/

def strV (l : List ByteArray) : List Value := l.map Value.string

theorem strV_len (l : List ByteArray) : (strV l).length = l.length := by simp [strV]

theorem strV_at {l : List ByteArray} {i : Nat} (h : i < l.length) : (strV l)[i]? = some (.string l[i]) := by
  unfold strV
  rw [List.getElem?_map, List.getElem?_eq_getElem h]; rfl

theorem st_block (a : Addr) (n : Nat) : (a.add n).block = a.block := by unfold Addr.add; split <;> rfl

/-- the slice v holds the texts l -/
def StrsAt (w : World) (A : Option Addr) (l : List ByteArray) : Prop :=
  0 < l.length → ∃ ad, A = some ad ∧ ad.block < w.heap.size ∧ ∀ i (h : i < l.length), w.cell? (ad.add i) = some (.string l[i])

theorem StrsAt.below {w w' : World} {A : Option Addr} {l : List ByteArray} (h : StrsAt w A l) (hb : Below w.heap.size w w') : StrsAt w' A l := fun hp => by
  obtain ⟨ad, h1, h2, h3⟩ := h hp
  exact ⟨ad, h1, Nat.lt_of_lt_of_le h2 hb.size, fun i hi => (cell_kept hb _ (by rw [st_block]; exact h2)).trans (h3 i hi)⟩

theorem StrsAt.alloc {w : World} {A : Option Addr} {l : List ByteArray} (h : StrsAt w A l) (o : Obj) : StrsAt (w.alloc o) A l := h.below ((Below.refl _ w).alloc (Nat.le_refl _) o)

theorem StrsAt.drewN {w : World} {A : Option Addr} {l : List ByteArray} (h : StrsAt w A l) (n : Nat) : StrsAt (w.drewN n) A l := h

theorem StrsAt.blk {w : World} {g : Nat} {t : TypeId} {l : List ByteArray} (h : w.heap[g]? = some (.cells (strV l).toArray t (0, 0))) : StrsAt w (some ⟨g, 0, none⟩) l := fun _ =>
  ⟨_, rfl, (Array.getElem?_eq_some_iff.1 h).1, fun i hi => by rw [addr_head]; exact blk_cell h (by rw [List.getElem?_toArray]; exact strV_at hi)⟩

theorem StrsAt.own {w : World} {H g n cap : Nat} {e : TypeId} {l : List ByteArray} (h : w.ownsRow H e 1 (.slice (some ⟨g, 0, none⟩) n cap) n (strV l)) (hl : n = l.length) : StrsAt w (some ⟨g, 0, none⟩) l := fun hp => by
  have hf := World.ownsRow.cellAt h
  refine ⟨_, rfl, ?_, fun i hi => ?_⟩
  · obtain ⟨g', cap', hv, _, hlt⟩ := World.ownsRow.form h (by omega)
    simp only [Value.slice.injEq, Option.some.injEq, Addr.mk.injEq] at hv
    obtain ⟨⟨rfl, -⟩, -⟩ := hv
    exact hlt
  · rw [addr_head, hf i (by omega)]
    exact strV_at hi

theorem add_zero' (ad : Addr) : ad.add 0 = ad := by simp [Addr.add]

set_option maxRecDepth 20000 in
set_option maxHeartbeats 1000000 in
theorem even_any (A : Option Addr) (c : Nat) (l : List ByteArray) (w : World) (h : StrsAt w A l) (hpos : 1 ≤ l.length) (hn : l.length ≤ 9223372036854775807) :
    Calls Try.prog 50 #[.slice A l.length c] w fun e w' => e = .returned (.bool (decide (St.Even l))) ∧ w' = w := by
  obtain ⟨ad, rfl, hab, hc⟩ := h hpos
  have HC := Lib.hid hc
  have c0 : w.cell? ad = some (.string (l[0]'hpos)) := by have := hc 0 (by omega); rwa [add_zero'] at this
  have hd0 : l.headD ⟨#[]⟩ = l[0] := by cases l with | nil => simp at hpos | cons x r => rfl
  have HD := Lib.hid hd0
  have p0 : (0 : Int) < (l.length : Int) := by omega
  clear h hc hd0
  go_enter Try.func50, Try.ntmps50
  go_wp2_with fail
  go_loop [7] (fun i => ∃ k : Nat, k ≤ l.length ∧ i = .int .i64 (k : Int) ∧ Hid (∀ j (hj : j < l.length), j < k → l[j].size = l[0].size)) (fun i => l.length - (intOf i).toNat)
  case atStart => exact ⟨0, by omega, rfl, fun j hj h => absurd h (by omega)⟩
  case round =>
    obtain ⟨k, hk, rfl, hev⟩ := hrel
    by_cases hlt : k < l.length
    · have ck := HC.out k hlt
      have pk : (k : Int) < (l.length : Int) := by omega
      by_cases he : l[k].size = l[0].size
      · have t1 : ((l[k].size : Int) != (l[0].size : Int)) = false := by simp [he]
        have HE := Lib.hid he
        clear he
        go_wp2_with fail
        go_round
        case rel => exact ⟨k + 1, by omega, by go_num, fun j hj hjk => by
          by_cases e : j = k
          · subst e; exact HE.out
          · exact hev.out j hj (by omega)⟩
        case measure => simp [intOf]; omega
      · have t1 : ((l[k].size : Int) != (l[0].size : Int)) = true := by simp; omega
        have E := Lib.hid (show decide (St.Even l) = false by
          rw [decide_eq_false_iff_not]
          intro hE
          have := hE l[k] (List.getElem_mem hlt)
          rw [HD.out] at this
          exact he this)
        clear he
        go_wp2_with fail
        go_ret
        exact ⟨by rw [E.out]; rfl, rfl⟩
    · have E := Lib.hid (show decide (St.Even l) = true by
        rw [decide_eq_true_eq]
        intro x hx
        obtain ⟨j, hj, rfl⟩ := List.getElem_of_mem hx
        rw [HD.out]
        exact hev.out j hj (by omega))
      go_wp2_with fail
      go_ret
      exact ⟨by rw [E.out]; rfl, rfl⟩

end Go.Proofs.Ytmnciipfepeccaa
