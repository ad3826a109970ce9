/- Versions added one by one: the walk of the law; no condition but the range. -/
import Derived.Test.YtpdojkfjgfeijaaChSweeps
namespace Go.Proofs.Ytpdojkfjgfeijaa
namespace Ch
open Go.RowKit Bk

attribute [local go_sem ↓] Go.wp_at_zero Go.wp_at_succ
attribute [local go_sem] floatUpon pick

theorem chok_nil : ChOk [] := ⟨by simp, by simp, List.Pairwise.nil⟩

set_option maxRecDepth 20000 in
set_option maxHeartbeats 16000000 in
theorem order_walk (v : Value) (l : List Vr) (w : World) (hv : VrsOf w v l) :
    Calls Try.prog 6 #[v] w fun e w' => e = .returned (.bool true) ∧ Below w.heap.size w w' := by
  obtain ⟨A, c, rfl, hst, h32, hrng, hnil, hlc, hcm⟩ := hv
  have rb : reachBytes = 140737488351232 := rfl
  rw [rb] at h32
  have hlen : (l.length : Int) ≤ 4398046511104 := by omega
  have HWk := Lib.hid (fun W => works_any W)
  have HV := Lib.hid (fun W (hb : Below w.heap.size w W) => hst.below hb)
  have HRg := Lib.hid hrng
  clear hst hrng hnil rb hlc hcm h32
  go_enter Try.func6, Try.ntmps6
  go_wp2_with fail
  refine (HWk.out _).mono ?_
  rintro e1 w1 ⟨rfl, hb⟩
  have HB1 := Lib.hid hb
  clear hb HWk
  go_wp2_with fail
  go_loopw [3, 4] (fun vv iv wr => ∃ (j : Nat) (L : List Vr), j ≤ l.length ∧ iv = .int .i64 (j : Int) ∧ Hid (wr.ownsRow w.heap.size 24 3 vv L.length (vrV L)) ∧ Hid (ChOk L) ∧ Hid (Below w.heap.size w wr)) (fun _ iv _ => l.length - (intOf iv).toNat)
  case atStart => exact ⟨0, [], Nat.zero_le _, rfl, Lib.hid (World.ownsRow_nil _ _ _ _), Lib.hid chok_nil, HB1⟩
  case round =>
    obtain ⟨j, L, hj, rfl, hown, hokL, hb⟩ := hrel
    clear HB1
    by_cases hlt : j < l.length
    case neg =>
      have pj : ¬ (j : Int) < (l.length : Int) := by omega
      obtain ⟨wo, rfl⟩ : ∃ wo, wo = wr := ⟨_, rfl⟩
      obtain ⟨A1, c1, rfl, hr1, hlc1, hcm1, hnil1⟩ := vrs_own hown.out rfl
      have HR1 := Lib.hid hr1
      have HLc1 := Lib.hid hlc1
      have hL1 : (L.length : Int) ≤ 1024 := by have := hokL.out.len; omega
      have HAt := Lib.hid (fun t W (hh : VrsAt W A1 L) => lat_any A1 c1 L t W hh (by have := hokL.out.len; omega) (ok_rng hokL.out) HLc1.out)
      clear hr1 hlc1 hcm1 hnil1 hown
      go_wp2_with fail
      go_loopw [116] (fun iv wr => ∃ k : Nat, k ≤ L.length ∧ iv = .int .i64 (k : Int) ∧ Hid (VrsAt wr A1 L) ∧ Hid (Below w.heap.size w wr)) (fun iv _ => L.length - (intOf iv).toNat)
      case atStart => exact ⟨0, Nat.zero_le _, rfl, HR1, hb⟩
      case round =>
        obtain ⟨k, hk, rfl, hr2, hb2⟩ := hrel
        clear HR1 hb
        by_cases hkl : k < L.length
        · have pk : (k : Int) < (L.length : Int) := by omega
          have hmem := at_mem hokL.out.rise (List.getElem_mem hkl)
          have hatp : atP L L[k].ts = (L[k], true, 0) := by unfold atP; rw [if_neg (by rw [chk_zero hokL.out]; simp), hmem]
          obtain ⟨ad, rfl, hab, hcl⟩ := hr2.out (by omega)
          obtain ⟨x0, x1, x2⟩ := hcl k hkl
          rw [← add_field _ _ _ (by omega)] at x1 x2
          have HA2 := HAt.out L[k].ts
          rw [hatp] at HA2
          generalize L[k] = Z at x0 x1 x2 HA2
          obtain ⟨zt, zs, zd⟩ := Z
          simp only at x0 x1 x2 HA2
          have HA2 : Hid (∀ W : World, VrsAt W (some ad) L → Calls Try.prog 17 #[.slice (some ad) L.length c1, .int .i64 zt] W fun e w' => e = .returned (.tuple #[.agg #[.int .i64 zt, .string zs, .bool zd], .bool true, .int .i64 0]) ∧ Below W.heap.size W w') := Lib.hid HA2
          have hF2 : Cel (wr.alloc (.cells #[.int .i64 zt, .string zs, .bool zd] 24)) wr.heap.size 24 [.int .i64 zt, .string zs, .bool zd] := (blk1 wr _).2
          have hbF : Below wr.heap.size wr (wr.alloc (.cells #[.int .i64 zt, .string zs, .bool zd] 24)) := (Below.refl _ wr).alloc (Nat.le_refl _) _
          have HB3 := Lib.hid (hb2.out.trans (hbF.mono hb2.out.size))
          have HV3 := Lib.hid (hr2.out.below hbF)
          have tz := text_eq zs
          clear hmem hatp hab hcl
          go_upto_region 20 with fail
          have q0 := hF2.cell (i := 0) rfl
          have HF2 := Lib.hid hF2
          generalize hG : wr.heap.size = G at q0 HF2 hF2 hbF ⊢
          generalize wr.alloc (.cells #[.int .i64 zt, .string zs, .bool zd] 24) = W3 at q0 HF2 HB3 HV3 hF2 hbF ⊢
          clear hF2 hbF x0 x1 x2 hr2 hb2 hG
          go_wp2_with fail
          refine (HA2.out _ HV3.out).mono ?_
          rintro e4 w4 ⟨rfl, hb⟩
          have hF4 : Cel (w4.alloc (.cells #[.int .i64 zt, .string zs, .bool zd] 24)) w4.heap.size 24 [.int .i64 zt, .string zs, .bool zd] := (blk1 w4 _).2
          have hbF : Below w4.heap.size w4 (w4.alloc (.cells #[.int .i64 zt, .string zs, .bool zd] 24)) := (Below.refl _ w4).alloc (Nat.le_refl _) _
          have hbb := hb.trans (hbF.mono hb.size)
          have HB5 := Lib.hid (HB3.out.trans (hbb.mono HB3.out.size))
          have HV5 := Lib.hid (HV3.out.below hbb)
          have hx5 := HF2.out.below hbb
          clear hb HB3 HV3 HA2 HF2 hbb q0
          go_upto_region 21 with fail
          have x0 := hx5.cell (i := 0) rfl
          have x1 := hx5.cell (i := 1) rfl
          have x2 := hx5.cell (i := 2) rfl
          have y0 := hF4.cell (i := 0) rfl
          have y1 := hF4.cell (i := 1) rfl
          have y2 := hF4.cell (i := 2) rfl
          generalize hG4 : w4.heap.size = G4 at y0 y1 y2 hF4 hbF ⊢
          generalize w4.alloc (.cells #[.int .i64 zt, .string zs, .bool zd] 24) = W5 at x0 x1 x2 y0 y1 y2 HB5 HV5 hF4 hx5 hbF ⊢
          clear hF4 hx5 hbF hG4
          go_wp2_with fail
          go_roundw
          case rel => exact ⟨k + 1, by omega, by go_num, HV5, HB5⟩
          case measure => simp [intOf]; omega
        · have pk : ¬ (k : Int) < (L.length : Int) := by omega
          have hz := at_zero hokL.out.each
          have hatp : atP L 0 = (noVr, false, 0) := by unfold atP; rw [if_neg (by rw [chk_zero hokL.out]; simp), hz]
          have HA2 := HAt.out 0
          rw [hatp] at HA2
          have HA2 : Hid (∀ W : World, VrsAt W A1 L → Calls Try.prog 17 #[.slice A1 L.length c1, .int .i64 0] W fun e w' => e = .returned (.tuple #[.agg #[.int .i64 0, .string ⟨#[]⟩, .bool false], .bool false, .int .i64 0]) ∧ Below W.heap.size W w') := Lib.hid HA2
          clear hz hatp
          go_wp2_with fail
          refine (HA2.out _ hr2.out).mono ?_
          rintro e4 w4 ⟨rfl, hb⟩
          have HB5 := Lib.hid (hb2.out.trans (hb.mono hb2.out.size))
          have HBF := Lib.hid (HB5.out.alloc HB5.out.size (.cells #[.int .i64 0, .string ⟨#[]⟩, .bool false] 24))
          clear hb hb2 hr2 HA2
          go_wp2_with fail
          go_ret
          exact ⟨rfl, HBF.out⟩
    have pj : (j : Int) < (l.length : Int) := by omega
    by_cases h60 : j < 60
    case neg =>
      have p60 : ¬ (j : Int) < 60 := by omega
      obtain ⟨wo, rfl⟩ : ∃ wo, wo = wr := ⟨_, rfl⟩
      obtain ⟨A1, c1, rfl, hr1, hlc1, hcm1, hnil1⟩ := vrs_own hown.out rfl
      have HR1 := Lib.hid hr1
      have HLc1 := Lib.hid hlc1
      have hL1 : (L.length : Int) ≤ 1024 := by have := hokL.out.len; omega
      have HAt := Lib.hid (fun t W (hh : VrsAt W A1 L) => lat_any A1 c1 L t W hh (by have := hokL.out.len; omega) (ok_rng hokL.out) HLc1.out)
      clear hr1 hlc1 hcm1 hnil1 hown
      go_wp2_with fail
      go_loopw [116] (fun iv wr => ∃ k : Nat, k ≤ L.length ∧ iv = .int .i64 (k : Int) ∧ Hid (VrsAt wr A1 L) ∧ Hid (Below w.heap.size w wr)) (fun iv _ => L.length - (intOf iv).toNat)
      case atStart => exact ⟨0, Nat.zero_le _, rfl, HR1, hb⟩
      case round =>
        obtain ⟨k, hk, rfl, hr2, hb2⟩ := hrel
        clear HR1 hb
        by_cases hkl : k < L.length
        · have pk : (k : Int) < (L.length : Int) := by omega
          have hmem := at_mem hokL.out.rise (List.getElem_mem hkl)
          have hatp : atP L L[k].ts = (L[k], true, 0) := by unfold atP; rw [if_neg (by rw [chk_zero hokL.out]; simp), hmem]
          obtain ⟨ad, rfl, hab, hcl⟩ := hr2.out (by omega)
          obtain ⟨x0, x1, x2⟩ := hcl k hkl
          rw [← add_field _ _ _ (by omega)] at x1 x2
          have HA2 := HAt.out L[k].ts
          rw [hatp] at HA2
          generalize L[k] = Z at x0 x1 x2 HA2
          obtain ⟨zt, zs, zd⟩ := Z
          simp only at x0 x1 x2 HA2
          have HA2 : Hid (∀ W : World, VrsAt W (some ad) L → Calls Try.prog 17 #[.slice (some ad) L.length c1, .int .i64 zt] W fun e w' => e = .returned (.tuple #[.agg #[.int .i64 zt, .string zs, .bool zd], .bool true, .int .i64 0]) ∧ Below W.heap.size W w') := Lib.hid HA2
          have hF2 : Cel (wr.alloc (.cells #[.int .i64 zt, .string zs, .bool zd] 24)) wr.heap.size 24 [.int .i64 zt, .string zs, .bool zd] := (blk1 wr _).2
          have hbF : Below wr.heap.size wr (wr.alloc (.cells #[.int .i64 zt, .string zs, .bool zd] 24)) := (Below.refl _ wr).alloc (Nat.le_refl _) _
          have HB3 := Lib.hid (hb2.out.trans (hbF.mono hb2.out.size))
          have HV3 := Lib.hid (hr2.out.below hbF)
          have tz := text_eq zs
          clear hmem hatp hab hcl
          go_upto_region 20 with fail
          have q0 := hF2.cell (i := 0) rfl
          have HF2 := Lib.hid hF2
          generalize hG : wr.heap.size = G at q0 HF2 hF2 hbF ⊢
          generalize wr.alloc (.cells #[.int .i64 zt, .string zs, .bool zd] 24) = W3 at q0 HF2 HB3 HV3 hF2 hbF ⊢
          clear hF2 hbF x0 x1 x2 hr2 hb2 hG
          go_wp2_with fail
          refine (HA2.out _ HV3.out).mono ?_
          rintro e4 w4 ⟨rfl, hb⟩
          have hF4 : Cel (w4.alloc (.cells #[.int .i64 zt, .string zs, .bool zd] 24)) w4.heap.size 24 [.int .i64 zt, .string zs, .bool zd] := (blk1 w4 _).2
          have hbF : Below w4.heap.size w4 (w4.alloc (.cells #[.int .i64 zt, .string zs, .bool zd] 24)) := (Below.refl _ w4).alloc (Nat.le_refl _) _
          have hbb := hb.trans (hbF.mono hb.size)
          have HB5 := Lib.hid (HB3.out.trans (hbb.mono HB3.out.size))
          have HV5 := Lib.hid (HV3.out.below hbb)
          have hx5 := HF2.out.below hbb
          clear hb HB3 HV3 HA2 HF2 hbb q0
          go_upto_region 21 with fail
          have x0 := hx5.cell (i := 0) rfl
          have x1 := hx5.cell (i := 1) rfl
          have x2 := hx5.cell (i := 2) rfl
          have y0 := hF4.cell (i := 0) rfl
          have y1 := hF4.cell (i := 1) rfl
          have y2 := hF4.cell (i := 2) rfl
          generalize hG4 : w4.heap.size = G4 at y0 y1 y2 hF4 hbF ⊢
          generalize w4.alloc (.cells #[.int .i64 zt, .string zs, .bool zd] 24) = W5 at x0 x1 x2 y0 y1 y2 HB5 HV5 hF4 hx5 hbF ⊢
          clear hF4 hx5 hbF hG4
          go_wp2_with fail
          go_roundw
          case rel => exact ⟨k + 1, by omega, by go_num, HV5, HB5⟩
          case measure => simp [intOf]; omega
        · have pk : ¬ (k : Int) < (L.length : Int) := by omega
          have hz := at_zero hokL.out.each
          have hatp : atP L 0 = (noVr, false, 0) := by unfold atP; rw [if_neg (by rw [chk_zero hokL.out]; simp), hz]
          have HA2 := HAt.out 0
          rw [hatp] at HA2
          have HA2 : Hid (∀ W : World, VrsAt W A1 L → Calls Try.prog 17 #[.slice A1 L.length c1, .int .i64 0] W fun e w' => e = .returned (.tuple #[.agg #[.int .i64 0, .string ⟨#[]⟩, .bool false], .bool false, .int .i64 0]) ∧ Below W.heap.size W w') := Lib.hid HA2
          clear hz hatp
          go_wp2_with fail
          refine (HA2.out _ hr2.out).mono ?_
          rintro e4 w4 ⟨rfl, hb⟩
          have HB5 := Lib.hid (hb2.out.trans (hb.mono hb2.out.size))
          have HBF := Lib.hid (HB5.out.alloc HB5.out.size (.cells #[.int .i64 0, .string ⟨#[]⟩, .bool false] 24))
          clear hb hb2 hr2 HA2
          go_wp2_with fail
          go_ret
          exact ⟨rfl, HBF.out⟩
    have p60 : (j : Int) < 60 := by omega
    obtain ⟨ad, rfl, hab, hcl⟩ := HV.out _ hb.out (by omega)
    have hCl : ∀ W, Below w.heap.size w W → W.cell? (ad.add (j * 3)) = some (.int .i64 l[j].ts) ∧ W.cell? ⟨(ad.add (j * 3)).block, (ad.add (j * 3)).off + 1, none⟩ = some (.string l[j].shard) ∧ W.cell? ⟨(ad.add (j * 3)).block, (ad.add (j * 3)).off + 2, none⟩ = some (.bool l[j].dead) := fun W hW => by
      obtain ⟨ad', e1, _, hca⟩ := HV.out W hW (by omega)
      obtain rfl := Option.some.inj e1
      obtain ⟨x0, x1, x2⟩ := hca j hlt
      rw [add_field _ _ _ (by omega), add_field _ _ _ (by omega)]
      exact ⟨x0, x1, x2⟩
    have hXr := HRg.out _ (List.getElem_mem hlt)
    obtain ⟨X, hX⟩ : ∃ X, l[j] = X := ⟨_, rfl⟩
    rw [hX] at hCl hXr
    clear hX hab hcl
    obtain ⟨A1, c1, rfl, hr1, hlc1, hcm1, hnil1⟩ := vrs_own hown.out rfl
    have HR1 := Lib.hid hr1
    have HLc1 := Lib.hid hlc1
    have hL1 : (L.length : Int) ≤ 1024 := by have := hokL.out.len; omega
    have HAd := fun W (hh : VrsAt W A1 L) => ladd_any A1 c1 L X W hh (by have := hokL.out.len; omega) (ok_rng hokL.out) hXr hnil1 hlc1
    have HLa := fun W (hh : VrsAt W A1 L) => llast_any A1 c1 L W hh (by have := hokL.out.len; omega) (ok_rng hokL.out) hlc1
    have hla : lastP L = (lastT L, 0) := by unfold lastP; rw [if_neg (by rw [chk_zero hokL.out]; simp)]
    rw [hla] at HLa
    simp only at HLa
    have HLa := Lib.hid HLa
    obtain ⟨R, f, hrf⟩ : ∃ R f, addP L X = (R, f) := ⟨_, _, rfl⟩
    rw [hrf] at HAd
    have HRf := Lib.hid hrf
    have HAd := Lib.hid HAd
    obtain ⟨xt, xs, xd⟩ := X
    simp only at hCl
    have HCl := Lib.hid hCl
    obtain ⟨x0, x1, x2⟩ := hCl _ hb.out
    have HOwn := hown
    clear hr1 hlc1 hcm1 hnil1 hla hrf hXr hCl hown
    go_wp2_with fail
    refine (show Calls _ _ #[_, .agg #[.int .i64 xt, .string xs, .bool xd]] _ _ from HAd.out _ HR1.out).mono ?_
    rintro e2 w2 ⟨v2, rfl, ho2, hb2⟩
    have HB2 := Lib.hid (hb.out.trans (hb2.mono hb.out.size))
    have HR2 := Lib.hid (HR1.out.below hb2)
    have HOw2 := Lib.hid (row_form HOwn.out hb2)
    have HO2 := Lib.hid (own_base ho2 hb.out.size)
    clear hb hb2 HR1 HAd ho2 HOwn x0 x1 x2
    go_wp2_with fail
    refine (HLa.out _ HR2.out).mono ?_
    rintro e3 w3 ⟨rfl, hb⟩
    have HB3 := Lib.hid (HB2.out.trans (hb.mono HB2.out.size))
    have HOw3 := Lib.hid (row_form HOw2.out hb)
    have HO3 := Lib.hid (row_form HO2.out hb)
    obtain ⟨x0, x1, x2⟩ := HCl.out _ HB3.out
    clear hb HB2 HR2 HLa HOw2 HO2
    by_cases hf : f = 0
    case neg =>
      have hz : (f == 0) = false := by simpa using hf
      go_wp2_with fail
      go_roundw
      case rel => exact ⟨j + 1, L, by omega, by go_num, HOw3, hokL, HB3⟩
      case measure => simp [intOf]; omega
    subst hf
    obtain ⟨had, hRe⟩ := added (l := L) (v := ⟨xt, xs, xd⟩) (by rw [HRf.out])
    rw [HRf.out] at hRe
    obtain rfl : R = L ++ [⟨xt, xs, xd⟩] := (Prod.mk.injEq _ _ _ _ ▸ hRe).1
    have hlast : ¬ xt ≤ lastT L := by have := had.last; simp only at this; omega
    have hxt : xt ≤ 1125899906842624 := had.one.2.1
    have hat1 : atP (L ++ [⟨xt, xs, xd⟩]) xt = (⟨xt, xs, xd⟩, true, 0) := by
      unfold atP
      rw [if_neg (by rw [chk_zero had.more]; simp), at_last (fun y hy => Int.le_of_lt (had.all y hy)) (Int.le_refl _)]
    have hat2 : atP (L ++ [⟨xt, xs, xd⟩]) 4611686018427387904 = (⟨xt, xs, xd⟩, true, 0) := by
      unfold atP
      rw [if_neg (by rw [chk_zero had.more]; simp), at_last (fun y hy => by have := had.all y hy; simp only at this; omega) (by simp only; omega)]
    have HMore := Lib.hid had.more
    obtain ⟨A3, c3, rfl, hr3, hlc3, hcm3, hnil3⟩ := vrs_own HO3.out rfl
    have hT1 := fun W (hh : VrsAt W A3 (L ++ [⟨xt, xs, xd⟩])) => lat_any A3 c3 (L ++ [⟨xt, xs, xd⟩]) xt W hh (by have := had.more.len; omega) (ok_rng had.more) hlc3
    have hT2 := fun W (hh : VrsAt W A3 (L ++ [⟨xt, xs, xd⟩])) => lat_any A3 c3 (L ++ [⟨xt, xs, xd⟩]) 4611686018427387904 W hh (by have := had.more.len; omega) (ok_rng had.more) hlc3
    rw [hat1] at hT1
    rw [hat2] at hT2
    clear had hRe hat1 hat2 HRf hlc3 hcm3 hnil3
    generalize lastT L = lt at hlast ⊢
    generalize (L ++ [⟨xt, xs, xd⟩] : List Vr) = R at hT1 hT2 HMore HO3 hr3 ⊢
    have HT1 : Hid (∀ W : World, VrsAt W A3 R → Calls Try.prog 17 #[.slice A3 R.length c3, .int .i64 xt] W fun e w' => e = .returned (.tuple #[.agg #[.int .i64 xt, .string xs, .bool xd], .bool true, .int .i64 0]) ∧ Below W.heap.size W w') := Lib.hid hT1
    have HT2 : Hid (∀ W : World, VrsAt W A3 R → Calls Try.prog 17 #[.slice A3 R.length c3, .int .i64 4611686018427387904] W fun e w' => e = .returned (.tuple #[.agg #[.int .i64 xt, .string xs, .bool xd], .bool true, .int .i64 0]) ∧ Below W.heap.size W w') := Lib.hid hT2
    have HR3 := Lib.hid hr3
    clear hT1 hT2 hr3 HOw3
    go_wp2_with fail
    refine (HT1.out _ HR3.out).mono ?_
    rintro e4 w4 ⟨rfl, hb⟩
    have hF4 : Cel (w4.alloc (.cells #[.int .i64 xt, .string xs, .bool xd] 24)) w4.heap.size 24 [.int .i64 xt, .string xs, .bool xd] := (blk1 w4 _).2
    have hbF : Below w4.heap.size w4 (w4.alloc (.cells #[.int .i64 xt, .string xs, .bool xd] 24)) := (Below.refl _ w4).alloc (Nat.le_refl _) _
    have hbb := hb.trans (hbF.mono hb.size)
    have HB4 := Lib.hid (HB3.out.trans (hbb.mono HB3.out.size))
    have HR4 := Lib.hid (HR3.out.below hbb)
    have HO4 := Lib.hid (row_form HO3.out hbb)
    have HF4 := Lib.hid hF4
    clear hb hbb HB3 HR3 HO3 HT1 x0 x1 x2
    go_upto_region 14 with fail
    generalize hG4 : w4.heap.size = G4 at HF4 hF4 hbF ⊢
    generalize w4.alloc (.cells #[.int .i64 xt, .string xs, .bool xd] 24) = W4 at HF4 HB4 HR4 HO4 hF4 hbF ⊢
    clear hF4 hbF hG4
    go_wp2_with fail
    refine (HT2.out _ HR4.out).mono ?_
    rintro e5 w5 ⟨rfl, hb⟩
    have hF5 : Cel (w5.alloc (.cells #[.int .i64 xt, .string xs, .bool xd] 24)) w5.heap.size 24 [.int .i64 xt, .string xs, .bool xd] := (blk1 w5 _).2
    have hbF : Below w5.heap.size w5 (w5.alloc (.cells #[.int .i64 xt, .string xs, .bool xd] 24)) := (Below.refl _ w5).alloc (Nat.le_refl _) _
    have hbb := hb.trans (hbF.mono hb.size)
    have HB5 := Lib.hid (HB4.out.trans (hbb.mono HB4.out.size))
    have HO5 := Lib.hid (row_form HO4.out hbb)
    have HF45 := Lib.hid (HF4.out.below hbb)
    have HF5 := Lib.hid hF5
    clear hb hbb HB4 HR4 HO4 HT2 HF4
    go_upto_region 15 with fail
    generalize hG5 : w5.heap.size = G5 at HF5 hF5 hbF ⊢
    generalize w5.alloc (.cells #[.int .i64 xt, .string xs, .bool xd] 24) = W5 at HF5 HF45 HB5 HO5 hF5 hbF ⊢
    clear hF5 hbF hG5
    have tx := text_eq xs
    refine wp_region_said 30 [84, 85, 86, 87, 88, 89, 90, 91, 92, 93, 94, 95, 96, 97, 98, 99, 100, 101, 102, 103, 104, 105, 106, 107, 108, 109, 110, 111, 112, 113]
      [.is (.int .i64 0), .is (.bool false), .is (.bool false), .is (.int .i64 0), .is (.bool false), .is (.bool false), .is (.bool false), .is (.bool true), .is (.bool false), .is (.bool false), .is (.bool false), .is (.bool true), .is (.bool false), .is (.bool false), .is (.bool false), .is (.agg #[.int .i64 xt, .string xs, .bool xd]), .is (.slice (some ad) l.length c), .is (.int .i64 (j : Int)), .is (.pointer (some (ad.add (j * 3)))), .is (.agg #[.int .i64 xt, .string xs, .bool xd]), .is (.bool false), .is (.bool false), .is (.bool false), .is (.agg #[.int .i64 xt, .string xs, .bool xd]), .is (.slice (some ad) l.length c), .is (.int .i64 (j : Int)), .is (.pointer (some (ad.add (j * 3)))), .is (.agg #[.int .i64 xt, .string xs, .bool xd]), .is (.bool false), .is (.bool false)]
      (fun W => Below W5.heap.size W5 W) (by kernel_rfl) (by kernel_rfl) (by kernel_rfl) (by kernel_rfl) (by kernel_rfl) (fun W W' h hb => h.trans (hb.mono h.size)) (Below.refl _ _) ?steps ?last
    case steps =>
      simp only [List.take_succ_cons, List.take_zero]
      refine ⟨?_, ?_, ?_, ?_, ?_, ?_, ?_, ?_, ?_, ?_, ?_, ?_, ?_, ?_, ?_, ?_, ?_, ?_, ?_, ?_, ?_, ?_, ?_, ?_, ?_, ?_, ?_, ?_, ?_, ?_, trivial⟩
      all_goals
        intro vs W ρ hρ hc hf hg hI hH hd R' hR
        have kc := HF45.out.below hI
        have q0 := kc.cell (i := 0) rfl
        have q1 := kc.cell (i := 1) rfl
        have q2 := kc.cell (i := 2) rfl
        have kd := HF5.out.below hI
        have r0 := kd.cell (i := 0) rfl
        have r1 := kd.cell (i := 1) rfl
        have r2 := kd.cell (i := 2) rfl
        obtain ⟨x0, x1, x2⟩ := HCl.out W (HB5.out.trans (Below.mono hI HB5.out.size))
        have HR := Lib.hid hR
        simp [depsOf, Region.binds, sayAt, Say.holds] at hd
        clear hR hI kc kd
        try simp only [Region.wanted, hd, boolOf]
        go_simp
        first
          | exact HR.out _ _ (by simp [sayAt, Say.holds]) (Below.refl _ _) (by simp [sayAt, Say.isBlk])
          | trace_state
    case last =>
      intro vs W hI hb hg hd
      have g29 := hg 29 (by omega)
      simp only [sayAt, Say.holds, List.getD_cons_succ, List.getD_cons_zero] at g29
      simp only [List.take_succ_cons, List.take_zero, List.drop_succ_cons, List.drop_zero, putAll, Act.put, List.setIfInBounds_toArray, List.set_cons_succ, List.set_cons_zero, Nat.zero_add, Nat.reduceAdd]
      rw [g29]
      have HBW := Lib.hid (HB5.out.trans (Below.mono hI HB5.out.size))
      have HOW := Lib.hid (row_form HO5.out hI)
      clear g29 hg hd hI hb HB5 HO5
      go_wp2_with fail
      go_roundw
      case rel => exact ⟨j + 1, R, by omega, by go_num, HOW, HMore, HBW⟩
      case measure => simp [intOf]; omega

end Ch
end Go.Proofs.Ytpdojkfjgfeijaa
