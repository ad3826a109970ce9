/- The chapter's example, and what is read of a time: contracts over the landed chain; no condition but the range. -/
import Derived.Test.YtpdojkfjgfeijaaChL6
import Derived.Test.YtpdojkfjgfeijaaChSpoil
namespace Go.Proofs.Ytpdojkfjgfeijaa
namespace Ch
open Go.RowKit Bk

attribute [local go_sem ↓] Go.wp_at_zero Go.wp_at_succ
attribute [local go_sem] floatUpon pick

def exA : Vr := ⟨2, ⟨#[97]⟩, false⟩
def exB : Vr := ⟨5, ⟨#[98]⟩, false⟩
def exC : Vr := ⟨9, ⟨#[]⟩, true⟩

theorem ex_at : atP [exA, exB, exC] 6 = (exB, true, 0) := by decide
theorem ex_sw6 : sweepP [exA, exB, exC] 6 = ([exB, exC], 0) := by decide
theorem ex_sw9 : sweepP [exA, exB, exC] 9 = ([], 0) := by decide

theorem ex_row (w : World) : VrsAt (w.alloc (.cells #[.int .i64 2, .string ⟨#[97]⟩, .bool false, .int .i64 5, .string ⟨#[98]⟩, .bool false, .int .i64 9, .string ⟨#[]⟩, .bool true] 24)) (some ⟨w.heap.size, 0, none⟩) [exA, exB, exC] := fun _ => by
  refine ⟨_, rfl, by simp, fun i hi => ?_⟩
  have h := fun j u (hu : _) => blk_cell (w := w.alloc (.cells #[.int .i64 2, .string ⟨#[97]⟩, .bool false, .int .i64 5, .string ⟨#[98]⟩, .bool false, .int .i64 9, .string ⟨#[]⟩, .bool true] 24)) (g := w.heap.size) (j := j) (v := u) (blk1 w _).2 hu
  simp only [addr_head]
  match i, hi with
  | 0, _ => exact ⟨h 0 _ rfl, h 1 _ rfl, h 2 _ rfl⟩
  | 1, _ => exact ⟨h 3 _ rfl, h 4 _ rfl, h 5 _ rfl⟩
  | 2, _ => exact ⟨h 6 _ rfl, h 7 _ rfl, h 8 _ rfl⟩

theorem ex_rng : ∀ x ∈ [exA, exB, exC], VrRng x := fun x hx => by
  have rb : reachBytes = 140737488351232 := rfl
  simp only [List.mem_cons, List.not_mem_nil, or_false] at hx
  rcases hx with rfl | rfl | rfl
  · exact ⟨by decide, by rw [rb]; decide⟩
  · exact ⟨by decide, by rw [rb]; decide⟩
  · exact ⟨by decide, by rw [rb]; decide⟩

set_option maxRecDepth 20000 in
set_option maxHeartbeats 4000000 in
theorem works_any (w : World) : Calls Try.prog 16 #[] w fun e w' => e = .returned (.bool true) ∧ Below w.heap.size w w' := by
  have hb0 : Below w.heap.size w (w.alloc (.cells #[.int .i64 2, .string ⟨#[97]⟩, .bool false, .int .i64 5, .string ⟨#[98]⟩, .bool false, .int .i64 9, .string ⟨#[]⟩, .bool true] 24)) := (Below.refl _ w).alloc (Nat.le_refl _) _
  have hv0 := ex_row w
  go_enter Try.func16, Try.ntmps16
  go_upto_region 2 with fail
  generalize w.alloc (.cells #[.int .i64 2, .string ⟨#[97]⟩, .bool false, .int .i64 5, .string ⟨#[98]⟩, .bool false, .int .i64 9, .string ⟨#[]⟩, .bool true] 24) = W0 at hb0 hv0 ⊢
  have HAt := fun W (h : VrsAt W (some ⟨w.heap.size, 0, none⟩) [exA, exB, exC]) => lat_any (some ⟨w.heap.size, 0, none⟩) 3 [exA, exB, exC] 6 W h (by decide) ex_rng (by decide)
  have HS6 := fun W (h : VrsAt W (some ⟨w.heap.size, 0, none⟩) [exA, exB, exC]) => lsweep_any (some ⟨w.heap.size, 0, none⟩) 3 [exA, exB, exC] 6 W h (by decide) ex_rng (fun e => by cases e) (by decide)
  have HS9 := fun W (h : VrsAt W (some ⟨w.heap.size, 0, none⟩) [exA, exB, exC]) => lsweep_any (some ⟨w.heap.size, 0, none⟩) 3 [exA, exB, exC] 9 W h (by decide) ex_rng (fun e => by cases e) (by decide)
  rw [ex_at] at HAt
  rw [ex_sw6] at HS6
  rw [ex_sw9] at HS9
  have HAt : Hid (∀ W : World, VrsAt W (some ⟨w.heap.size, 0, none⟩) [exA, exB, exC] → Calls Try.prog 17 #[.slice (some ⟨w.heap.size, 0, none⟩) 3 3, .int .i64 6] W fun e w' => e = .returned (.tuple #[.agg #[.int .i64 5, .string ⟨#[98]⟩, .bool false], .bool true, .int .i64 0]) ∧ Below W.heap.size W w') := Lib.hid HAt
  have HS6 := Lib.hid HS6
  have HS9 := Lib.hid HS9
  have HV := Lib.hid hv0
  have HB := Lib.hid hb0
  clear hv0 hb0
  go_wp2_with fail
  refine (HAt.out _ HV.out).mono ?_
  rintro e1 w1 ⟨rfl, hb⟩
  have hB1 := HB.out.trans (hb.mono HB.out.size)
  have hV1 := HV.out.below hb
  clear hb HV HB HAt
  have hF := (blk1 w1 (.cells #[.int .i64 5, .string ⟨#[98]⟩, .bool false] 24)).2
  have hF : Cel (w1.alloc (.cells #[.int .i64 5, .string ⟨#[98]⟩, .bool false] 24)) w1.heap.size 24 [.int .i64 5, .string ⟨#[98]⟩, .bool false] := hF
  have hbF : Below w1.heap.size w1 (w1.alloc (.cells #[.int .i64 5, .string ⟨#[98]⟩, .bool false] 24)) := (Below.refl _ w1).alloc (Nat.le_refl _) _
  have HF := Lib.hid hF
  have HB2 := Lib.hid (hB1.trans (hbF.mono hB1.size))
  have HV2 := Lib.hid (hV1.below hbF)
  clear hF hbF hB1 hV1
  go_upto_region 3 with fail
  generalize w1.alloc (.cells #[.int .i64 5, .string ⟨#[98]⟩, .bool false] 24) = W2 at HF HB2 HV2 ⊢
  go_wp2_with fail
  refine (show Calls _ _ #[.slice (some ⟨w.heap.size, 0, none⟩) 3 3, .int .i64 6] W2 _ from HS6.out _ HV2.out).mono ?_
  rintro e3 w3 ⟨v3, rfl, ho3, hb⟩
  have HB3 := Lib.hid (HB2.out.trans (hb.mono HB2.out.size))
  have HV3 := Lib.hid (HV2.out.below hb)
  have HF3 := Lib.hid (HF.out.below hb)
  obtain ⟨A3, c3, rfl, hr3, hc3, _, -⟩ := vrs_own ho3 rfl
  have HR3 := Lib.hid hr3
  clear hb ho3 hr3 HB2 HV2 HF HS6
  go_wp2_with fail
  refine (show Calls _ _ #[.slice (some ⟨w.heap.size, 0, none⟩) 3 3, .int .i64 9] w3 _ from HS9.out _ HV3.out).mono ?_
  rintro e4 w4 ⟨v4, rfl, ho4, hb⟩
  have HB4 := Lib.hid (HB3.out.trans (hb.mono HB3.out.size))
  have hF4 := HF3.out.below hb
  obtain ⟨a3, rfl, hab, hcl⟩ := (HR3.out.below hb) (by decide)
  obtain ⟨y0, -, -⟩ := hcl 0 (by decide)
  have y0' : w4.cell? a3 = some (.int .i64 5) := by
    have e : a3.add (0 * 3) = a3 := by unfold Addr.add; rfl
    rw [e] at y0; exact y0
  obtain ⟨A4, c4, rfl, -⟩ := vrs_own ho4 rfl
  have f1 := hF4.cell (i := 1) rfl
  have t1 := text_eq ⟨#[98]⟩
  clear hb ho4 hcl y0 HB3 HV3 HF3 HS9 HR3 hF4
  go_wp2_with fail
  go_ret
  exact ⟨rfl, HB4.out⟩

/-- what is read of a time by the law's own words -/
theorem there_any (A : Option Addr) (c : Nat) (l : List Vr) (t : Int) (w : World) (h : VrsAt w A l) (hok : ChOk l) (hn : l.length * 32 ≤ 140737488351232) (hr : ∀ x ∈ l, VrRng x) (hc : l.length ≤ c) :
    Calls Try.prog 23 #[.slice A l.length c, .int .i64 t] w fun e w' => e = .returned (.tuple #[.string (there l t).1, .bool (there l t).2]) ∧ Below w.heap.size w w' := by
  have hat := lat_any A c l t w h hn hr hc
  have E : atP l t = ((atV l t).1, (atV l t).2, 0) := by unfold atP; rw [if_neg (by simp [chk_zero hok])]
  rw [E] at hat
  have ET := Lib.hid (show there l t = ((atV l t).1.shard, (atV l t).2 && !(atV l t).1.dead) from rfl)
  obtain ⟨⟨xt, xs, xd⟩, b, hv⟩ : ∃ x b, atV l t = (x, b) := ⟨_, _, rfl⟩
  rw [hv] at hat ET
  simp only at ET
  have HAt : Hid (Calls Try.prog 17 #[.slice A l.length c, .int .i64 t] w fun e w' => e = .returned (.tuple #[.agg #[.int .i64 xt, .string xs, .bool xd], .bool b, .int .i64 0]) ∧ Below w.heap.size w w') := Lib.hid hat
  clear hat hv E h hok hn hr hc
  go_enter Try.func23, Try.ntmps23
  go_wp2_with fail
  refine HAt.out.mono ?_
  rintro e1 w1 ⟨rfl, hb⟩
  have hF := (blk1 w1 (.cells #[.int .i64 xt, .string xs, .bool xd] 24)).2
  have hF : Cel (w1.alloc (.cells #[.int .i64 xt, .string xs, .bool xd] 24)) w1.heap.size 24 [.int .i64 xt, .string xs, .bool xd] := hF
  have hbF : Below w1.heap.size w1 (w1.alloc (.cells #[.int .i64 xt, .string xs, .bool xd] 24)) := (Below.refl _ w1).alloc (Nat.le_refl _) _
  have HB2 := Lib.hid (hb.trans (hbF.mono hb.size))
  have f1 := hF.cell (i := 1) rfl
  have f2 := hF.cell (i := 2) rfl
  clear hF hbF hb HAt
  go_upto_region 2 with fail
  generalize w1.alloc (.cells #[.int .i64 xt, .string xs, .bool xd] 24) = W2 at HB2 f1 f2 ⊢
  have hlast : ∀ nq, there l t = (xs, b && !xd) → Below w.heap.size w (W2.drewN nq) := fun nq _ => HB2.out.trans ((below_drew W2.heap.size W2 nq).mono HB2.out.size)
  have HLast := Lib.hid hlast
  clear hlast
  cases b with
  | true =>
    go_quiet (fail)
    rename_i nq
    have HBn := Lib.hid (HLast.out nq ET.out)
    generalize W2.drewN nq = W3 at HBn ⊢
    go_wp2_with fail
    go_ret2
    exact ⟨by rw [ET.out]; rfl, HBn.out⟩
  | false =>
    go_quiet (fail)
    rename_i nq
    have HBn := Lib.hid (HLast.out nq ET.out)
    generalize W2.drewN nq = W3 at HBn ⊢
    go_wp2_with fail
    go_ret2
    exact ⟨by rw [ET.out]; rfl, HBn.out⟩

end Ch
end Go.Proofs.Ytpdojkfjgfeijaa
