/- What is asked of the landed package, and the laws that hold over it: the example, Pieces, Next, All, Cut. -/
import Derived.Test.YtlamjkagjkmbeaaSuRef4
namespace Go.Proofs.Ytlamjkagjkmbeaa
namespace Su
open Go.RowKit Bk

attribute [local go_sem ↓] Go.wp_at_zero Go.wp_at_succ
attribute [local go_sem] floatUpon pick

/-- what is asked of sum.Of -/
def OfAll : Prop := ∀ (A : Option Addr) (c : Nat) (l : List ByteArray) (w : World), StrsAt w A l → l.length ≤ c → l.length ≤ 9223372036854775807 → (catL l).length ≤ 9223372036854775807 →
  Calls Try.prog 13 #[.slice A l.length c] w fun e w' => e = .returned (.int .i64 ((crc (catL l) : Nat) : Int)) ∧ Below w.heap.size w w'

/-- what is asked of sum.Frame -/
def FrameAll : Prop := ∀ (s : ByteArray) (w : World), s.size ≤ 140737488351232 → Calls Try.prog 11 #[.string s] w fun e w' => e = .returned (frameV s) ∧ Below w.heap.size w w'

/-- what is asked of sum.Next -/
def NextAll : Prop := ∀ (s : ByteArray) (i : Int) (w : World), s.size ≤ 1000000000000000 → -9223372036854775808 ≤ i ∧ i ≤ 9223372036854775807 → Calls Try.prog 17 #[.string s, .int .i64 i] w fun e w' => e = .returned (nextV s i) ∧ Below w.heap.size w w'

/-- what is asked of sum.All -/
def AllAll : Prop := ∀ (s : ByteArray) (w : World), s.size ≤ 50000000000000 → Calls Try.prog 19 #[.string s] w (AllAns s w)

theorem nine : crc [49, 50, 51, 52, 53, 54, 55, 56, 57] = 3421780262 := by decide +kernel

theorem none0 : crc [] = 0 := by decide +kernel

set_option maxRecDepth 20000 in
set_option maxHeartbeats 1000000 in
theorem suworks (HO : OfAll) (w : World) : Calls Try.prog 16 #[] w fun e w' => e = .returned (.bool true) ∧ Below w.heap.size w w' := by
  have h1 := HO (some ⟨w.heap.size, 0, none⟩) 2 [⟨#[49, 50, 51, 52]⟩, ⟨#[53, 54, 55, 56, 57]⟩] (w.alloc (.cells #[.string ⟨#[49, 50, 51, 52]⟩, .string ⟨#[53, 54, 55, 56, 57]⟩] 9)) (StrsAt.blk (heap_alloc_new w _)) (by decide) (by decide) (by decide)
  rw [show catL [⟨#[49, 50, 51, 52]⟩, ⟨#[53, 54, 55, 56, 57]⟩] = [49, 50, 51, 52, 53, 54, 55, 56, 57] from rfl, nine] at h1
  have H1 := Lib.hid h1
  have h2 := fun W => HO none 0 [] W (fun h => absurd h (by decide)) (by decide) (by decide) (by decide)
  rw [show catL [] = [] from rfl, none0] at h2
  have H2 := Lib.hid h2
  clear h1 h2
  go_enter Try.func16, Try.ntmps16
  go_wp2_with fail
  refine H1.out.mono ?_
  rintro e w1 ⟨rfl, hb⟩
  have HB := Lib.hid (below_new hb)
  clear hb H1
  go_wp2_with fail
  refine (H2.out _).mono ?_
  rintro e w2 ⟨rfl, hb⟩
  have HB2 := Lib.hid (HB.out.trans (hb.mono HB.out.size))
  clear hb H2
  go_wp2_with fail
  go_ret
  exact ⟨rfl, HB2.out⟩

theorem nextV_form (s : ByteArray) (i : Int) : ∃ (t : ByteArray) (n e : Int), nextV s i = .tuple #[.string t, .int .i64 n, .int .i64 e] := by
  unfold nextV
  split
  · exact ⟨_, _, _, rfl⟩
  · cases restR (s.data.toList.drop i.toNat) with
    | error e => exact ⟨_, _, _, rfl⟩
    | ok t => exact ⟨_, _, _, rfl⟩

theorem frameV_form (s : ByteArray) : ∃ (t : ByteArray) (e : Int), frameV s = .tuple #[.string t, .int .i64 e] := by
  unfold frameV
  split
  · exact ⟨_, _, rfl⟩
  · exact ⟨_, _, rfl⟩

set_option maxRecDepth 20000 in
set_option maxHeartbeats 1000000 in
theorem next_walk (HO : OfAll) (HN : NextAll) (s : ByteArray) (i : Int) (hreach : s.size ≤ reachBytes) (hi : -9223372036854775808 ≤ i ∧ i ≤ 9223372036854775807) (w : World) :
    Calls Try.prog 4 #[.string s, .int .i64 i] w fun e w' => e = .returned (.bool true) ∧ Below w.heap.size w w' := by
  have hs : s.size ≤ 1000000000000000 := by unfold reachBytes at hreach; omega
  have h1 := fun W => HN s i W hs hi
  have h2 := fun W => rnext_any s i W hs hi
  obtain ⟨t, n, e, he⟩ := nextV_form s i
  rw [he] at h1 h2
  have H1 := Lib.hid h1
  have H2 := Lib.hid h2
  have HW := Lib.hid (suworks HO)
  have t1 := text_eq t
  clear h1 h2 he hreach hs HN HO
  go_enter Try.func4, Try.ntmps4
  go_wp2_with fail
  refine (H1.out _).mono ?_
  rintro e w1 ⟨rfl, hb⟩
  have HB := Lib.hid hb
  clear hb H1
  go_wp2_with fail
  refine (H2.out _).mono ?_
  rintro e w2 ⟨rfl, hb⟩
  have HB2 := Lib.hid (HB.out.trans (hb.mono HB.out.size))
  clear hb H2 HB
  go_wp2_with fail
  refine (HW.out _).mono ?_
  rintro e w3 ⟨rfl, hb⟩
  have HB3 := Lib.hid (HB2.out.trans (hb.mono HB2.out.size))
  clear hb HB2
  go_wp2_with fail
  go_ret
  exact ⟨rfl, HB3.out⟩

theorem walkR_len : ∀ (f : Nat) (r : List UInt8) (a : Nat), (walkR f r a).1.length * 6 ≤ r.length
  | 0, r, a => by simp [walkR]
  | f + 1, r, a => by
    by_cases hr : r = []
    · subst hr; rw [walkR_nil]; simp
    · cases h : restR r with
      | error e => rw [walkR_err hr h]; simp
      | ok t =>
        have h2 := (restR_ok h).2.1
        have ih := walkR_len f (r.drop (t.length + 6)) (a + t.length + 6)
        rw [List.length_drop] at ih
        rw [walkR_ok hr h, List.length_cons]
        omega

theorem allR_len (s : ByteArray) : (allR s).1.length * 6 ≤ s.size := by
  have := walkR_len s.size s.data.toList 0
  rwa [list_size] at this

set_option maxRecDepth 20000 in
set_option maxHeartbeats 1000000 in
theorem all_walk (HO : OfAll) (HL : AllAll) (s : ByteArray) (hs : s.size ≤ 50000000000000) (w : World) :
    Calls Try.prog 5 #[.string s] w fun e w' => e = .returned (.bool true) ∧ Below w.heap.size w w' := by
  have hlen : (allR s).1.length ≤ 9223372036854775807 := by have := allR_len s; omega
  have H1 := Lib.hid (fun W => HL s W hs)
  have H2 := Lib.hid (fun W => rall_any s W hs)
  have HW := Lib.hid (suworks HO)
  clear HL HO
  unfold AllAns at H1 H2
  generalize (allR s).1 = l at *
  generalize (allR s).2.1 = at_ at *
  generalize (allR s).2.2 = er at *
  go_enter Try.func5, Try.ntmps5
  go_wp2_with fail
  refine (H1.out _).mono ?_
  rintro e w1 ⟨A, c, rfl, hst, hb⟩
  have HB := Lib.hid hb
  have HS := Lib.hid hst
  clear hb hst H1
  go_wp2_with fail
  refine (H2.out _).mono ?_
  rintro e w2 ⟨A2, c2, rfl, hst, hb⟩
  have HB2 := Lib.hid (HB.out.trans (hb.mono HB.out.size))
  have HSm := Lib.hid (same_any A A2 c c2 l l w2 (HS.out.below hb) hst hlen)
  clear hb hst H2 HB HS
  have hdd : decide (l = l) = true := by simp
  rw [hdd] at HSm
  go_wp2_with fail
  refine HSm.out.mono ?_
  rintro e w3 ⟨rfl, d, rfl⟩
  go_wp2_with fail
  refine (HW.out _).mono ?_
  rintro e w4 ⟨rfl, hb⟩
  have HB3 := Lib.hid ((below_drewN HB2.out d).trans (hb.mono (below_drewN HB2.out d).size))
  clear hb HB2
  go_wp2_with fail
  go_ret
  exact ⟨rfl, HB3.out⟩

theorem lent_capS {w : World} {H g cap : Nat} {l : List ByteArray} (h : w.ownsRow H 9 1 (.slice (some ⟨g, 0, none⟩) (l.length + 1) cap) (l.length + 1) (strV l ++ [.string markS])) : l.length ≤ cap := by
  rcases h.2 with ⟨h1, h2⟩ | ⟨g', cap', cur, h1, _, _, h3, _⟩
  · simp at h1
  · simp only [Value.slice.injEq] at h1; omega

set_option maxRecDepth 20000 in
set_option maxHeartbeats 1000000 in
theorem pieces_walk (HO : OfAll) (HF : FrameAll) (v : Value) (l : List ByteArray) (t : ByteArray) (w : World) (hv : TextsOf w v l) (hreach : t.size ≤ reachBytes) (hcat : (catL l).length ≤ 9223372036854775807) :
    Calls Try.prog 3 #[v, .string t] w fun e w' => e = .returned (.bool true) ∧ Below w.heap.size w w' := by
  have ht : t.size ≤ 140737488351232 := by unfold reachBytes at hreach; omega
  obtain ⟨A, c, rfl, hst, hnil, hn16, hmax⟩ := id hv
  have HV := Lib.hid hv
  have HSt := Lib.hid hst
  have hn : l.length ≤ 9223372036854775807 := by omega
  have hF1 := fun W => HF t W ht
  have hF2 := fun W => rframe_any t W (by omega)
  obtain ⟨fs, fe, hfv⟩ := frameV_form t
  rw [hfv] at hF1 hF2
  have F1 := Lib.hid hF1
  have F2 := Lib.hid hF2
  have HW := Lib.hid (suworks HO)
  have HOh := Lib.hid HO
  have HL := Lib.hid (lend_any _ l w hv)
  have t1 := text_eq fs
  clear hF1 hF2 hfv ht hreach hmax hnil hst HF hv HO
  go_enter Try.func3, Try.ntmps3
  go_wp2_with fail
  refine HL.out.mono ?_
  rintro e w1 ⟨g, cap, rfl, hown, hb⟩
  have B1 := Lib.hid hb
  have OW := Lib.hid hown
  have hcap := lent_capS hown
  clear hb hown HL
  go_wp2_with fail
  refine (F1.out _).mono ?_
  rintro e w2 ⟨rfl, hb⟩
  have B2 := Lib.hid (B1.out.trans (hb.mono B1.out.size))
  have OW2 := Lib.hid (st_keep OW.out hb)
  clear hb F1 B1 OW
  go_wp2_with fail
  refine (F2.out _).mono ?_
  rintro e w3 ⟨rfl, hb⟩
  have B3 := Lib.hid (B2.out.trans (hb.mono B2.out.size))
  have OW3 := Lib.hid (st_keep OW2.out hb)
  clear hb F2 B2 OW2
  go_upto_region 3 with fail
  refine (HOh.out (some ⟨g, 0, none⟩) cap l w3 (lent_strs OW3.out) hcap hn hcat).mono ?_
  rintro e w4 ⟨rfl, hb⟩
  have B4 := Lib.hid (B3.out.trans (hb.mono B3.out.size))
  have OW4 := Lib.hid (st_keep OW3.out hb)
  have HRef := Lib.hid (rof_any A c l w4 (HSt.out.below B4.out) hn hcat)
  have HV4 : Hid (TextsOf w4 (Value.slice A l.length c) l) := Lib.hid (by
    obtain ⟨A', c', he, hst', h3⟩ := HV.out
    exact ⟨A', c', he, hst'.below B4.out, h3⟩)
  have HKp := Lib.hid (kept_any _ g cap _ l w4 HV4.out OW4.out)
  clear hb B3 OW3 HOh HV HSt HV4 hcat hcap hn
  generalize crc (catL l) = C at HRef ⊢
  go_upto_region 3 with fail
  refine HRef.out.mono ?_
  rintro e w5 ⟨rfl, he5⟩
  obtain rfl := he5
  clear HRef
  go_upto_region 3 with fail
  refine HKp.out.mono ?_
  rintro e w6 ⟨rfl, d, rfl⟩
  have B6 := Lib.hid (below_drewN B4.out d)
  clear HKp B4 OW4
  go_upto_region 3 with fail
  refine (HW.out _).mono ?_
  rintro e w7 ⟨rfl, hb⟩
  have B7 := Lib.hid (B6.out.trans (hb.mono B6.out.size))
  clear hb B6 HW
  go_wp2_with fail
  go_ret
  exact ⟨rfl, B7.out⟩

end Su
end Go.Proofs.Ytlamjkagjkmbeaa
