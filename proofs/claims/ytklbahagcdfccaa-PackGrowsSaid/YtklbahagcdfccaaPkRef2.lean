/- What the document's own Check of packs answers; contract; no condition but the range. -/
import Derived.Test.YtklbahagcdfccaaPkRef
namespace Go.Proofs.Ytklbahagcdfccaa
namespace Pk
open Go.RowKit Bk

attribute [local go_sem ↓] Go.wp_at_zero Go.wp_at_succ
attribute [local go_sem] floatUpon pick

/-- the value of a pack -/
def packV (A B : Option Addr) (c d : Nat) (ns : List Int) (ts : List ByteArray) : Value := .agg #[.slice A ns.length c, .slice B ts.length d]

/-- .. that holds these -/
def Holds (w : World) (v : Value) (ns : List Int) (ts : List ByteArray) : Prop :=
  ∃ (A B : Option Addr) (c d : Nat), v = packV A B c d ns ts ∧ IntsAt w A ns ∧ StrsAt w B ts

theorem Holds.below {w w' : World} {v : Value} {ns : List Int} {ts : List ByteArray} (h : Holds w v ns ts) (hb : Below w.heap.size w w') : Holds w' v ns ts := by
  obtain ⟨A, B, c, d, h1, h2, h3⟩ := h
  exact ⟨A, B, c, d, h1, h2.below hb, h3.below hb⟩

theorem ckE_long {ns : List Int} {ts : List ByteArray} (h : 1024 < ns.length ∨ 1024 < ts.length) : ckE ns ts = 2 := by unfold ckE; rw [if_pos h]

theorem ckE_num {ns : List Int} {ts : List ByteArray} (h : ¬ (1024 < ns.length ∨ 1024 < ts.length)) {z : Int} (hz : z ∈ ns) (hn : ¬ numOk z) : ckE ns ts = 1 := by
  unfold ckE
  rw [if_neg h, if_pos (fun hh => hn (hh z hz))]

theorem ckE_text {ns : List Int} {ts : List ByteArray} (h : ¬ (1024 < ns.length ∨ 1024 < ts.length)) (h2 : ∀ n ∈ ns, numOk n) {t : ByteArray} (ht : t ∈ ts) (hn : 4096 < t.size) : ckE ns ts = 2 := by
  unfold ckE
  rw [if_neg h, if_neg (fun hh => hh h2), if_pos (fun hh => by have := hh t ht; omega)]

theorem ckE_ok {ns : List Int} {ts : List ByteArray} (h : ¬ (1024 < ns.length ∨ 1024 < ts.length)) (h2 : ∀ n ∈ ns, numOk n) (h3 : ∀ t ∈ ts, t.size ≤ 4096) : ckE ns ts = 0 := ckE_zero.2 ⟨by omega, by omega, h2, h3⟩

theorem mem_take_succ {α : Type} {l : List α} {j : Nat} (h : j < l.length) {p : α → Prop} (h1 : ∀ x ∈ l.take j, p x) (h2 : p l[j]) : ∀ x ∈ l.take (j + 1), p x := by
  intro x hx
  rw [List.take_add_one, List.getElem?_eq_getElem h] at hx
  rcases List.mem_append.1 hx with hx | hx
  · exact h1 x hx
  · rw [Option.toList_some, List.mem_singleton] at hx
    rw [hx]; exact h2

set_option maxRecDepth 20000 in
set_option maxHeartbeats 1000000 in
theorem check_any (A B : Option Addr) (c d : Nat) (ns : List Int) (ts : List ByteArray) (w : World) (ha : IntsAt w A ns) (hb : StrsAt w B ts) (hn : ns.length ≤ 9223372036854775807) (ht : ts.length ≤ 9223372036854775807) (hnr : ∀ n ∈ ns, -9223372036854775808 ≤ n ∧ n ≤ 9223372036854775807) (htr : ∀ t ∈ ts, t.size ≤ 9223372036854775807) :
    Calls Try.prog 15 #[packV A B c d ns ts] w fun e w' => e = .returned (.int .i64 (ckE ns ts : Int)) ∧ Below w.heap.size w w' := by
  unfold packV
  have hbel : Below w.heap.size w (w.alloc (.cells #[.slice A ns.length c, .slice B ts.length d] 25)) := (Below.refl _ w).alloc (Nat.le_refl _) _
  have HBl := Lib.hid hbel
  by_cases hlong : 1024 < ns.length ∨ 1024 < ts.length
  · have E := Lib.hid (ckE_long hlong)
    clear hbel ha hb hnr htr
    by_cases h1 : 1024 < ns.length
    · have p1 : (1024 : Int) < (ns.length : Int) := by omega
      clear hlong
      go_enter Try.func15, Try.ntmps15
      go_wp2_with fail
      go_ret
      exact ⟨by rw [E.out]; rfl, HBl.out⟩
    · have p1 : (ns.length : Int) ≤ 1024 := by omega
      have p2 : (1024 : Int) < (ts.length : Int) := by omega
      clear hlong
      go_enter Try.func15, Try.ntmps15
      go_wp2_with fail
      go_ret
      exact ⟨by rw [E.out]; rfl, HBl.out⟩
  · have p1 : (ns.length : Int) ≤ 1024 := by omega
    have p2 : (ts.length : Int) ≤ 1024 := by omega
    have hblk := (blk1 w (.cells #[.slice A ns.length c, .slice B ts.length d] 25)).2
    have c0 : (w.alloc (.cells #[.slice A ns.length c, .slice B ts.length d] 25)).cell? ⟨w.heap.size, 0, none⟩ = some (.slice A ns.length c) := blk_cell hblk rfl
    have c1 : (w.alloc (.cells #[.slice A ns.length c, .slice B ts.length d] 25)).cell? ⟨w.heap.size, 1, none⟩ = some (.slice B ts.length d) := blk_cell hblk rfl
    have HA := Lib.hid (ha.alloc (.cells #[.slice A ns.length c, .slice B ts.length d] 25))
    have HB := Lib.hid (hb.alloc (.cells #[.slice A ns.length c, .slice B ts.length d] 25))
    have HNR := Lib.hid hnr
    have HTR := Lib.hid htr
    have HL := Lib.hid hlong
    clear hbel hlong hblk ha hb hnr htr
    go_enter Try.func15, Try.ntmps15
    go_upto_region 3 with fail
    generalize w.alloc (.cells #[.slice A ns.length c, .slice B ts.length d] 25) = W1 at *
    go_wp2_with fail
    go_loopw [3] (fun i wr => ∃ j : Nat, j ≤ ns.length ∧ i = .int .i64 (j : Int) ∧ Hid (∀ n ∈ ns.take j, numOk n) ∧ wr = W1) (fun i _ => ns.length - (intOf i).toNat)
    case atStart => exact ⟨0, by omega, rfl, fun n hn => absurd hn (by simp), rfl⟩
    case round =>
      obtain ⟨j, hj, rfl, hall, rfl⟩ := hrel
      by_cases hlt : j < ns.length
      · have pj : (j : Int) < (ns.length : Int) := by omega
        obtain ⟨ad, rfl, hab, hcl⟩ := HA.out (by omega)
        have x1 := hcl j hlt
        have hmem : ns[j] ∈ ns := List.getElem_mem hlt
        have HN := Lib.hid (fun W => num_any ns[j] W (HNR.out _ hmem))
        by_cases hz : numOk ns[j]
        · have hall2 := mem_take_succ hlt hall.out hz
          have HA2 := Lib.hid hall2
          rw [show decide (numOk ns[j]) = true by simpa using hz] at HN
          generalize ns[j] = z at x1 HN
          clear hcl hmem hz hall2 hall
          go_wp2_with fail
          refine (HN.out _).mono ?_
          rintro e w' ⟨rfl, rfl⟩
          go_wp2_with fail
          go_roundw
          case rel => exact ⟨j + 1, by omega, by go_num, HA2.out, trivial⟩
          case measure => simp [intOf]; omega
        · have E := Lib.hid (ckE_num HL.out hmem hz)
          rw [show decide (numOk ns[j]) = false by simpa using hz] at HN
          generalize ns[j] = z at x1 HN
          clear hcl hmem hz hall
          go_wp2_with fail
          refine (HN.out _).mono ?_
          rintro e w' ⟨rfl, rfl⟩
          go_wp2_with fail
          go_ret
          exact ⟨by rw [E.out]; rfl, HBl.out⟩
      · obtain rfl : j = ns.length := by omega
        have hall2 := hall.out
        rw [List.take_length] at hall2
        have HAll := Lib.hid hall2
        clear hall hall2
        go_wp2_with fail
        obtain ⟨wo, rfl⟩ : ∃ wo : World, wo = wr := ⟨_, rfl⟩
        go_loopw [4] (fun i wr => ∃ j : Nat, j ≤ ts.length ∧ i = .int .i64 (j : Int) ∧ Hid (∀ t ∈ ts.take j, t.size ≤ 4096) ∧ wr = wo) (fun i _ => ts.length - (intOf i).toNat)
        case atStart => exact ⟨0, by omega, rfl, fun n hn => absurd hn (by simp), rfl⟩
        case round =>
          obtain ⟨j, hj, rfl, hall, rfl⟩ := hrel
          by_cases hlt : j < ts.length
          · have pj : (j : Int) < (ts.length : Int) := by omega
            obtain ⟨bd, rfl, hbb, hcl⟩ := HB.out (by omega)
            have x1 := hcl j hlt
            have hmem : ts[j] ∈ ts := List.getElem_mem hlt
            by_cases hz : ts[j].size ≤ 4096
            · have hall2 := mem_take_succ hlt hall.out hz
              have HA2 := Lib.hid hall2
              have hz' : (ts[j].size : Int) ≤ 4096 := by omega
              generalize ts[j] = z at x1 hz'
              clear hcl hmem hz hall2 hall
              go_wp2_with fail
              go_roundw
              case rel => exact ⟨j + 1, by omega, by go_num, HA2.out, trivial⟩
              case measure => simp [intOf]; omega
            · have E := Lib.hid (ckE_text HL.out HAll.out hmem (by omega))
              have hz' : (4096 : Int) < (ts[j].size : Int) := by omega
              generalize ts[j] = z at x1 hz'
              clear hcl hmem hz hall
              go_wp2_with fail
              go_ret
              exact ⟨by rw [E.out]; rfl, HBl.out⟩
          · obtain rfl : j = ts.length := by omega
            have hall2 := hall.out
            rw [List.take_length] at hall2
            have E := Lib.hid (ckE_ok HL.out HAll.out hall2)
            clear hall hall2
            go_wp2_with fail
            go_ret
            exact ⟨by rw [E.out]; rfl, HBl.out⟩

end Pk
end Go.Proofs.Ytklbahagcdfccaa
