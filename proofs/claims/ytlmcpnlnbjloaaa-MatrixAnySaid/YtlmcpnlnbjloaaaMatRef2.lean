/- What the document's own answers for matrices do: products with their checks, rows, what is picked, generators; one contract a function; no condition but the form's reach. -/
import Derived.Test.YtlmcpnlnbjloaaaMatRef
namespace Go.Proofs.Ytlmcpnlnbjloaaa
open Go.RowKit

set_option maxRecDepth 20000 in
set_option maxHeartbeats 2000000 in
theorem rmulm_yes (ra ca cb : Nat) (a b : ByteArray) (w : World) (h1 : 1 ≤ ra) (h2 : ra ≤ 255) (h3 : 1 ≤ ca) (h4 : ca ≤ 255) (h5 : 1 ≤ cb) (h6 : cb ≤ 255) (ha : a.size = ra * ca) (hb : b.size = ca * cb) :
    Calls Try.prog 18 #[.agg #[.int .i64 (ra : Int), .int .i64 (ca : Int), .string a], .agg #[.int .i64 (ca : Int), .int .i64 (cb : Int), .string b]] w fun e w' =>
      e = .returned (.tuple #[.agg #[.int .i64 (ra : Int), .int .i64 (cb : Int), .string ⟨(tabL ra cb (timesF ca cb a b)).toArray⟩], .int .i64 0]) ∧ Below w.heap.size w w' := by
  have ka : ((chk (ra : Int) (ca : Int) a : Nat) : Int) = 0 := by rw [chk_yes h1 h2 h3 h4 ha]; rfl
  have kb : ((chk (ca : Int) (cb : Int) b : Nat) : Int) = 0 := by rw [chk_yes h3 h4 h5 h6 hb]; rfl
  have HA := Lib.hid ha
  have HB := Lib.hid hb
  clear ha hb
  go_enter Try.func18, Try.ntmps18
  go_wp2_with fail
  refine (rcheck_any _ _ _ _).mono ?_
  rintro e w1 ⟨rfl, hb1⟩
  have B1 := Lib.hid hb1
  obtain ⟨hc1, hf1⟩ := bcell hb1
  have hz1 := hb1.size
  clear hb1
  go_wp2_with fail
  refine (rcheck_any _ _ _ _).mono ?_
  rintro e w2 ⟨rfl, hb2⟩
  have B2 := Lib.hid hb2
  obtain ⟨hc2, hf2⟩ := bcell hb2
  have hz2 := hb2.size
  clear hb2
  simp at hz1
  have x0 : w.heap.size < w1.heap.size := by omega
  have x1 : w.heap.size + 1 < w1.heap.size := by omega
  have x2 : w.heap.size + 1 + 1 < w1.heap.size := by omega
  have y0 : w.heap.size < w2.heap.size := by omega
  have y1 : w.heap.size + 1 < w2.heap.size := by omega
  have y2 : w.heap.size + 1 + 1 < w2.heap.size := by omega
  go_wp2_with fail
  refine (rtimes_any ra ca cb a b _ h1 h2 h3 h4 h5 h6 HA.out HB.out).mono ?_
  rintro e w3 ⟨rfl, hb3⟩
  have B3 := Lib.hid hb3
  obtain ⟨hc3, hf3⟩ := bcell hb3
  clear hb3
  go_wp2_with fail
  exact bodyPost_ret (v := .tuple #[.agg #[.int .i64 (ra : Int), .int .i64 (cb : Int), .string ⟨(tabL ra cb (timesF ca cb a b)).toArray⟩], .int .i64 0]) (by simp [results, Try.results18, go_sem, hc3, hc2, hc1, y2, x2]) rfl
    ⟨rfl, below_agg3 (((below_new3 B1.out).trans (B2.out.mono (by omega))).trans (B3.out.mono (by omega))) (by omega) _ _ _⟩

set_option maxRecDepth 20000 in
set_option maxHeartbeats 2000000 in
theorem rmulm_no (ra ca rb cb : Int) (a b : ByteArray) (w : World) (h : ¬ may ra ca a ∨ ¬ may rb cb b ∨ ca ≠ rb) :
    Calls Try.prog 18 #[.agg #[.int .i64 ra, .int .i64 ca, .string a], .agg #[.int .i64 rb, .int .i64 cb, .string b]] w fun e w' =>
      e = .returned (.tuple #[.agg #[.int .i64 0, .int .i64 0, .string ⟨#[]⟩], .int .i64 4]) ∧ Below w.heap.size w w' := by
  by_cases ma : may ra ca a
  · have ka : ((chk ra ca a : Nat) : Int) = 0 := by unfold chk; rw [if_pos ma]; rfl
    have hne : ¬ may rb cb b ∨ ca ≠ rb := h.resolve_left (fun x => x ma)
    clear h
    by_cases mb : may rb cb b
    · have kb : ((chk rb cb b : Nat) : Int) = 0 := by unfold chk; rw [if_pos mb]; rfl
      have hc : ca ≠ rb := hne.resolve_left (fun x => x mb)
      have t1 : (ca != rb) = true := by simp [hc]
      have t2 : (ca == rb) = false := by simp [hc]
      clear hne ma mb hc
      go_enter Try.func18, Try.ntmps18
      go_wp2_with fail
      refine (rcheck_any _ _ _ _).mono ?_
      rintro e w1 ⟨rfl, hb1⟩
      have B1 := Lib.hid hb1
      obtain ⟨hc1, hf1⟩ := bcell hb1
      have hz1 := hb1.size
      clear hb1
      go_wp2_with fail
      refine (rcheck_any _ _ _ _).mono ?_
      rintro e w2 ⟨rfl, hb2⟩
      have B2 := Lib.hid hb2
      obtain ⟨hc2, hf2⟩ := bcell hb2
      have hz2 := hb2.size
      clear hb2
      simp at hz1
      have x0 : w.heap.size < w1.heap.size := by omega
      have x1 : w.heap.size + 1 < w1.heap.size := by omega
      have x2 : w.heap.size + 1 + 1 < w1.heap.size := by omega
      go_wp2_with fail
      exact bodyPost_ret (v := .tuple #[.agg #[.int .i64 0, .int .i64 0, .string ⟨#[]⟩], .int .i64 4]) (by simp [results, Try.results18, go_sem, hc2, hc1, x2]) rfl
        ⟨rfl, below_agg3 ((below_new3 B1.out).trans (B2.out.mono (by omega))) (by omega) _ _ _⟩
    · have kb : ((chk rb cb b : Nat) : Int) = 4 := by rw [chk_no mb]; rfl
      clear hne ma mb
      go_enter Try.func18, Try.ntmps18
      go_wp2_with fail
      refine (rcheck_any _ _ _ _).mono ?_
      rintro e w1 ⟨rfl, hb1⟩
      have B1 := Lib.hid hb1
      obtain ⟨hc1, hf1⟩ := bcell hb1
      have hz1 := hb1.size
      clear hb1
      go_wp2_with fail
      refine (rcheck_any _ _ _ _).mono ?_
      rintro e w2 ⟨rfl, hb2⟩
      have B2 := Lib.hid hb2
      obtain ⟨hc2, hf2⟩ := bcell hb2
      have hz2 := hb2.size
      clear hb2
      simp at hz1
      have x2 : w.heap.size + 1 + 1 < w1.heap.size := by omega
      go_wp2_with fail
      exact bodyPost_ret (v := .tuple #[.agg #[.int .i64 0, .int .i64 0, .string ⟨#[]⟩], .int .i64 4]) (by simp [results, Try.results18, go_sem, hc2, hc1, x2]) rfl
        ⟨rfl, below_agg3 ((below_new3 B1.out).trans (B2.out.mono (by omega))) (by omega) _ _ _⟩
  · have ka : ((chk ra ca a : Nat) : Int) = 4 := by rw [chk_no ma]; rfl
    clear h ma
    go_enter Try.func18, Try.ntmps18
    go_wp2_with fail
    refine (rcheck_any _ _ _ _).mono ?_
    rintro e w1 ⟨rfl, hb1⟩
    have B1 := Lib.hid hb1
    obtain ⟨hc1, hf1⟩ := bcell hb1
    clear hb1
    go_wp2_with fail
    exact bodyPost_ret (v := .tuple #[.agg #[.int .i64 0, .int .i64 0, .string ⟨#[]⟩], .int .i64 4]) (by simp [results, Try.results18, go_sem, hc1]) rfl
      ⟨rfl, below_agg3 (below_new3 B1.out) (by omega) _ _ _⟩

end Go.Proofs.Ytlmcpnlnbjloaaa
