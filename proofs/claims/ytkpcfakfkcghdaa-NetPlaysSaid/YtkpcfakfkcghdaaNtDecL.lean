/- What the landed package's Decode answers, its lists rows of its own; no condition but the range. -/
import Derived.Test.YtkpcfakfkcghdaaA11
import Derived.Test.YtkpcfakfkcghdaaNtFrom
namespace Go.Proofs.Ytkpcfakfkcghdaa
namespace Nt
open Go.RowKit Bk Lt
set_option linter.unusedVariables false

attribute [local go_sem ↓] Go.wp_at_zero Go.wp_at_succ
attribute [local go_sem] floatUpon pick

/-- what a Decode answers -/
def DecOwn (s : ByteArray) (w : World) : Ending → World → Prop := fun e w' => ∃ (A B : Option Addr) (c d : Nat),
    e = .returned (.tuple #[letV (decX s).1 A B c d, .int .i64 ((decX s).2 : Int)]) ∧ LOwn w' w.heap.size ⟨(decX s).1, A, B, c, d⟩ ∧ Below w.heap.size w w'

set_option maxRecDepth 20000 in
set_option maxHeartbeats 8000000 in
theorem ldecode2_any (s : ByteArray) (w : World) (hs : s.size ≤ 1000000000000000) : Calls Try.prog 21 #[.string s] w (DecOwn s w) := by
  have HD := Lib.hid (fun W => Pk.decodeAll s W hs)
  unfold Pk.DecAns2 at HD
  have HMk : Hid (∀ (v : Value) (w' : World), NoLet s → Below w.heap.size w w' → v = letV noLet none none 0 0 → DecOwn s w (.returned (.tuple #[v, .int .i64 70])) w') := Lib.hid (fun v w' h1 h2 h3 => by
    unfold DecOwn
    rw [decX_no h1]
    exact ⟨none, none, 0, 0, by rw [h3]; rfl, noLet_own _ _, h2⟩)
  have HMo : Hid (∀ (l : Let) (A B : Option Addr) (c d : Nat) (w' : World), LetOk l → s.data.toList = letL l → Below w.heap.size w w' → LOwn w' w.heap.size ⟨l, A, B, c, d⟩ → DecOwn s w (.returned (.tuple #[letV l A B c d, .int .i64 0])) w') := Lib.hid (fun l A B c d w' h1 h2 h3 h4 => by
    unfold DecOwn
    rw [decX_ok h1 h2]
    exact ⟨A, B, c, d, rfl, h4, h3⟩)
  go_enter Try.func21, Try.ntmps21
  go_upto_region 1 with fail
  have hR0 := zero_cells w
  have hBW : Below w.heap.size w (w.alloc (.cells #[.int .i64 0, .int .i64 0, .int .i64 0, .int .i64 0, .int .i64 0, .int .i64 0, .string ⟨#[]⟩, .slice none 0 0, .slice none 0 0] 35)) := (Below.refl _ w).alloc (Nat.le_refl _) _
  generalize w.alloc (.cells #[.int .i64 0, .int .i64 0, .int .i64 0, .int .i64 0, .int .i64 0, .int .i64 0, .string ⟨#[]⟩, .slice none 0 0, .slice none 0 0] 35) = W1 at hR0 hBW ⊢
  have HR0 := Lib.hid hR0
  have HBW := Lib.hid hBW
  clear hR0 hBW
  cases hdec : Pk.decL s.data.toList with
  | error er =>
    have hd1 : Pk.decR s = ([], [], er.place s.size, er.code) := by unfold Pk.decR; rw [hdec]
    rw [hd1] at HD
    have hne := Pk.decL_code hdec
    have HN := Lib.hid (NoLet.err hdec)
    have pne : ((er.code : Int) != 0) = true := by simp; exact hne
    simp only [Pk.packV] at HD
    generalize er.place s.size = pl at HD
    generalize er.code = cd at HD pne
    clear hdec hd1 hne
    go_wp2_with fail
    refine (HD.out _).mono ?_
    rintro e w2 ⟨A, B, c, d, rfl, -, -, hb, -, -, -, -⟩
    have hal : Below w2.heap.size w2 (w2.alloc (.cells #[.slice A 0 c, .slice B 0 d] 71)) := (Below.refl _ w2).alloc (Nat.le_refl _) _
    have HR3 := Lib.hid ((HR0.out.below hb).below hal)
    have HB3 := Lib.hid ((HBW.out.trans (hb.mono HBW.out.size)).trans (hal.mono (HBW.out.trans (hb.mono HBW.out.size)).size))
    clear hb hal HD HR0 HBW
    go_upto_region 2 with fail
    generalize w2.alloc (.cells #[.slice A 0 c, .slice B 0 d] 71) = w3 at HR3 HB3 ⊢
    have zq := fun i => HR3.out.free (i := i)
    have y0 := HR3.out.cell (i := 0) rfl
    have y1 := HR3.out.cell (i := 1) rfl
    have y2 := HR3.out.cell (i := 2) rfl
    have y3 := HR3.out.cell (i := 3) rfl
    have y4 := HR3.out.cell (i := 4) rfl
    have y5 := HR3.out.cell (i := 5) rfl
    have y6 := HR3.out.cell (i := 6) rfl
    have y7 := HR3.out.cell (i := 7) rfl
    have y8 := HR3.out.cell (i := 8) rfl
    go_wp2_with fail
    have HF := Lib.hid (set9_cel (v0 := .int .i64 0) (v1 := .int .i64 0) (v2 := .int .i64 0) (v3 := .int .i64 0) (v4 := .int .i64 0) (v5 := .int .i64 0) (v6 := .string ⟨#[]⟩) (v7 := .slice none 0 0) (v8 := .slice none 0 0) HR3.out)
    have z0 := HF.out.cell (i := 0) rfl
    have z1 := HF.out.cell (i := 1) rfl
    have z2 := HF.out.cell (i := 2) rfl
    have z3 := HF.out.cell (i := 3) rfl
    have z4 := HF.out.cell (i := 4) rfl
    have z5 := HF.out.cell (i := 5) rfl
    have z6 := HF.out.cell (i := 6) rfl
    have z7 := HF.out.cell (i := 7) rfl
    have z8 := HF.out.cell (i := 8) rfl
    unfold set9 at z0 z1 z2 z3 z4 z5 z6 z7 z8
    exact bodyPost_ret (v := .tuple #[letV noLet none none 0 0, .int .i64 70]) (by simp [results, Try.results21, go_sem, letV, noLet, z0, z1, z2, z3, z4, z5, z6, z7, z8]) rfl (HMk.out _ _ HN.out (set9_below HB3.out (Nat.le_refl _)) rfl)
  | ok x =>
    obtain ⟨ns, ts⟩ := x
    have hd1 : Pk.decR s = (ns, ts, 0, 0) := by unfold Pk.decR; rw [hdec]
    rw [hd1] at HD
    have HMb := Lib.hid (Pk.decL_ok hdec).1
    have HDec := Lib.hid hdec
    simp only [Pk.packV] at HD
    clear hdec hd1
    go_wp2_with fail
    refine (HD.out _).mono ?_
    rintro e w2 ⟨A, B, c, d, rfl, hI2, hS2, hb, g1, g2, g3, g4⟩
    have hal : Below w2.heap.size w2 (w2.alloc (.cells #[.slice A ns.length c, .slice B ts.length d] 71)) := (Below.refl _ w2).alloc (Nat.le_refl _) _
    have HP3 : Hid (Cel (w2.alloc (.cells #[.slice A ns.length c, .slice B ts.length d] 71)) w2.heap.size 71 [.slice A ns.length c, .slice B ts.length d]) := Lib.hid (blk1 w2 _).2
    have HR3 := Lib.hid ((HR0.out.below hb).below hal)
    have HB3 := Lib.hid ((HBW.out.trans (hb.mono HBW.out.size)).trans (hal.mono (HBW.out.trans (hb.mono HBW.out.size)).size))
    have hFp := fromPack2_any A B c d ns ts _ (hI2.below hal) (hS2.below hal) HMb.out g1 g2 g3 g4
    unfold Pk.packV at hFp
    have HFp := Lib.hid hFp
    clear hb hal HD HR0 HBW hI2 hS2 g1 g2 g3 g4 hFp
    go_upto_region 2 with fail
    generalize w2.alloc (.cells #[.slice A ns.length c, .slice B ts.length d] 71) = w3 at HR3 HB3 HFp HP3 ⊢
    generalize w2.heap.size = g at HP3 ⊢
    have k0 := HP3.out.cell (i := 0) rfl
    have k1 := HP3.out.cell (i := 1) rfl
    clear HP3
    by_cases hsh : Shape ns ts
    case neg =>
      have HN := Lib.hid (NoLet.shape HDec.out hsh)
      have HFn := Lib.hid (HFp.out.mono (fun e W' hA => show e = .returned (.tuple #[letV noLet none none 0 0, .bool false]) ∧ Below w3.heap.size w3 W' from by
        rcases hA with ⟨h1, _⟩ | ⟨_, h2, h3⟩
        · exact absurd h1 hsh
        · exact ⟨h2, h3⟩))
      unfold letV noLet at HFn
      simp only [List.length_nil] at HFn
      clear hsh HFp
      go_wp2_with fail
      refine HFn.out.mono ?_
      rintro e w4 ⟨rfl, hb⟩
      have hal : Below w4.heap.size w4 (w4.alloc (.cells #[.int .i64 0, .int .i64 0, .int .i64 0, .int .i64 0, .int .i64 0, .int .i64 0, .string ⟨#[]⟩, .slice none 0 0, .slice none 0 0] 35)) := (Below.refl _ w4).alloc (Nat.le_refl _) _
      have HR5 := Lib.hid ((HR3.out.below hb).below hal)
      have HB5 := Lib.hid ((HB3.out.trans (hb.mono HB3.out.size)).trans (hal.mono (HB3.out.trans (hb.mono HB3.out.size)).size))
      clear hb hal HR3 HB3 k0 k1 HFn
      go_upto_region 5 with fail
      generalize w4.alloc (.cells #[.int .i64 0, .int .i64 0, .int .i64 0, .int .i64 0, .int .i64 0, .int .i64 0, .string ⟨#[]⟩, .slice none 0 0, .slice none 0 0] 35) = w5 at HR5 HB5 ⊢
      have zq := fun i => HR5.out.free (i := i)
      have y0 := HR5.out.cell (i := 0) rfl
      have y1 := HR5.out.cell (i := 1) rfl
      have y2 := HR5.out.cell (i := 2) rfl
      have y3 := HR5.out.cell (i := 3) rfl
      have y4 := HR5.out.cell (i := 4) rfl
      have y5 := HR5.out.cell (i := 5) rfl
      have y6 := HR5.out.cell (i := 6) rfl
      have y7 := HR5.out.cell (i := 7) rfl
      have y8 := HR5.out.cell (i := 8) rfl
      go_wp2_with fail
      have HF := Lib.hid (set9_cel (v0 := .int .i64 0) (v1 := .int .i64 0) (v2 := .int .i64 0) (v3 := .int .i64 0) (v4 := .int .i64 0) (v5 := .int .i64 0) (v6 := .string ⟨#[]⟩) (v7 := .slice none 0 0) (v8 := .slice none 0 0) HR5.out)
      have z0 := HF.out.cell (i := 0) rfl
      have z1 := HF.out.cell (i := 1) rfl
      have z2 := HF.out.cell (i := 2) rfl
      have z3 := HF.out.cell (i := 3) rfl
      have z4 := HF.out.cell (i := 4) rfl
      have z5 := HF.out.cell (i := 5) rfl
      have z6 := HF.out.cell (i := 6) rfl
      have z7 := HF.out.cell (i := 7) rfl
      have z8 := HF.out.cell (i := 8) rfl
      unfold set9 at z0 z1 z2 z3 z4 z5 z6 z7 z8
      exact bodyPost_ret (v := .tuple #[letV noLet none none 0 0, .int .i64 70]) (by simp [results, Try.results21, go_sem, letV, noLet, z0, z1, z2, z3, z4, z5, z6, z7, z8]) rfl (HMk.out _ _ HN.out (set9_below HB5.out (Nat.le_refl _)) rfl)
    have HFy := Lib.hid (HFp.out.mono (fun e W' hA => show ∃ (A1 B1 : Option Addr) (c1 d1 : Nat), e = .returned (.tuple #[letV (cand ns ts) A1 B1 c1 d1, .bool true]) ∧ LOwn W' w3.heap.size ⟨cand ns ts, A1, B1, c1, d1⟩ ∧ Below w3.heap.size w3 W' from by
      rcases hA with ⟨_, A1, B1, c1, d1, h2, h3, h4⟩ | ⟨h1, _⟩
      · exact ⟨A1, B1, c1, d1, h2, h3, h4⟩
      · exact absurd hsh h1))
    have HCb := Lib.hid (cand_bytes HDec.out hsh)
    have HNb := Lib.hid (fun hm => NoLet.bad (s := s) HDec.out hm)
    generalize cand ns ts = L at HFy HCb HNb
    unfold letV at HFy
    clear hsh HFp
    go_wp2_with fail
    refine HFy.out.mono ?_
    rintro e w4 ⟨A1, B1, c1, d1, rfl, hval, hb⟩
    have hlt3 : w.heap.size < w3.heap.size := HR3.out.lt
    have hal : Below w4.heap.size w4 (w4.alloc (.cells #[.int .i64 L.kind, .int .i64 L.src, .int .i64 L.dst, .int .i64 L.txn, .int .i64 L.ts, .int .i64 L.code, .string L.text, .slice A1 L.keys.length c1, .slice B1 L.ws.length d1] 35)) := (Below.refl _ w4).alloc (Nat.le_refl _) _
    have HC5 : Hid (Cel (w4.alloc (.cells #[.int .i64 L.kind, .int .i64 L.src, .int .i64 L.dst, .int .i64 L.txn, .int .i64 L.ts, .int .i64 L.code, .string L.text, .slice A1 L.keys.length c1, .slice B1 L.ws.length d1] 35)) w4.heap.size 35 [.int .i64 L.kind, .int .i64 L.src, .int .i64 L.dst, .int .i64 L.txn, .int .i64 L.ts, .int .i64 L.code, .string L.text, .slice A1 L.keys.length c1, .slice B1 L.ws.length d1]) := Lib.hid (blk1 w4 _).2
    have HR5 := Lib.hid ((HR3.out.below hb).below hal)
    have HB5 := Lib.hid ((HB3.out.trans (hb.mono HB3.out.size)).trans (hal.mono (HB3.out.trans (hb.mono HB3.out.size)).size))
    have HV5 := Lib.hid (hval.below hal)
    have HAn : Hid (∀ k, Lb ⟨L, A1, B1, c1, d1⟩ k → k ≠ w.heap.size) := Lib.hid (fun k hk => by have := (hval.lt hk).2; omega)
    have HLt := Lib.hid hlt3
    clear hb hal HR3 HB3 k0 k1 HFy hval hlt3
    go_upto_region 5 with fail
    generalize w4.alloc (.cells #[.int .i64 L.kind, .int .i64 L.src, .int .i64 L.dst, .int .i64 L.txn, .int .i64 L.ts, .int .i64 L.code, .string L.text, .slice A1 L.keys.length c1, .slice B1 L.ws.length d1] 35) = w5 at HR5 HB5 HV5 HC5 ⊢
    generalize w4.heap.size = g2 at HC5 ⊢
    have hMy := mayBe_any A1 B1 c1 d1 L w5 HV5.out.val.ks HV5.out.val.ws HV5.out.rng
    unfold letV at hMy
    have HMy := Lib.hid hMy
    clear hMy
    have k0 := HC5.out.cell (i := 0) rfl
    have k1 := HC5.out.cell (i := 1) rfl
    have k2 := HC5.out.cell (i := 2) rfl
    have k3 := HC5.out.cell (i := 3) rfl
    have k4 := HC5.out.cell (i := 4) rfl
    have k5 := HC5.out.cell (i := 5) rfl
    have k6 := HC5.out.cell (i := 6) rfl
    have k7 := HC5.out.cell (i := 7) rfl
    have k8 := HC5.out.cell (i := 8) rfl
    by_cases hm : LetOk L
    · rw [okB_true hm] at HMy
      have HOk := Lib.hid hm
      clear hm
      go_wp2_with fail
      refine HMy.out.mono ?_
      rintro e w6 ⟨rfl, hb⟩
      have HC6 := Lib.hid (HC5.out.below hb)
      have HR6 := Lib.hid (HR5.out.below hb)
      have HV6 := Lib.hid (HV5.out.below hb)
      have HB6 := Lib.hid (HB5.out.trans (hb.mono HB5.out.size))
      clear hb k0 k1 k2 k3 k4 k5 k6 k7 k8 HC5 HR5 HV5 HB5 HMy
      have k0 := HC6.out.cell (i := 0) rfl
      have k1 := HC6.out.cell (i := 1) rfl
      have k2 := HC6.out.cell (i := 2) rfl
      have k3 := HC6.out.cell (i := 3) rfl
      have k4 := HC6.out.cell (i := 4) rfl
      have k5 := HC6.out.cell (i := 5) rfl
      have k6 := HC6.out.cell (i := 6) rfl
      have k7 := HC6.out.cell (i := 7) rfl
      have k8 := HC6.out.cell (i := 8) rfl
      have zq := fun i => HR6.out.free (i := i)
      have y0 := HR6.out.cell (i := 0) rfl
      have y1 := HR6.out.cell (i := 1) rfl
      have y2 := HR6.out.cell (i := 2) rfl
      have y3 := HR6.out.cell (i := 3) rfl
      have y4 := HR6.out.cell (i := 4) rfl
      have y5 := HR6.out.cell (i := 5) rfl
      have y6 := HR6.out.cell (i := 6) rfl
      have y7 := HR6.out.cell (i := 7) rfl
      have y8 := HR6.out.cell (i := 8) rfl
      go_wp2_with fail
      have HF := Lib.hid (set9_cel (v0 := .int .i64 L.kind) (v1 := .int .i64 L.src) (v2 := .int .i64 L.dst) (v3 := .int .i64 L.txn) (v4 := .int .i64 L.ts) (v5 := .int .i64 L.code) (v6 := .string L.text) (v7 := .slice A1 L.keys.length c1) (v8 := .slice B1 L.ws.length d1) HR6.out)
      have z0 := HF.out.cell (i := 0) rfl
      have z1 := HF.out.cell (i := 1) rfl
      have z2 := HF.out.cell (i := 2) rfl
      have z3 := HF.out.cell (i := 3) rfl
      have z4 := HF.out.cell (i := 4) rfl
      have z5 := HF.out.cell (i := 5) rfl
      have z6 := HF.out.cell (i := 6) rfl
      have z7 := HF.out.cell (i := 7) rfl
      have z8 := HF.out.cell (i := 8) rfl
      unfold set9 at z0 z1 z2 z3 z4 z5 z6 z7 z8
      refine bodyPost_ret (v := .tuple #[letV L A1 B1 c1 d1, .int .i64 0]) (by simp [results, Try.results21, go_sem, letV, z0, z1, z2, z3, z4, z5, z6, z7, z8]) rfl (HMo.out L A1 B1 c1 d1 _ HOk.out HCb.out (set9_below HB6.out (Nat.le_refl _)) ?_)
      exact ⟨row_mono (set9_own HV6.out.ks (fun e => HAn.out _ (.inl e) rfl)) (by have := HLt.out; omega), row_mono (set9_own HV6.out.ws (fun e => HAn.out _ (.inr e) rfl)) (by have := HLt.out; omega), HV6.out.rng⟩
    · rw [okB_false hm] at HMy
      have HN := Lib.hid (HNb.out hm)
      clear hm
      go_wp2_with fail
      refine HMy.out.mono ?_
      rintro e w6 ⟨rfl, hb⟩
      have HR6 := Lib.hid (HR5.out.below hb)
      have HB6 := Lib.hid (HB5.out.trans (hb.mono HB5.out.size))
      clear hb k0 k1 k2 k3 k4 k5 k6 k7 k8 HC5 HR5 HV5 HB5 HMy
      have zq := fun i => HR6.out.free (i := i)
      have y0 := HR6.out.cell (i := 0) rfl
      have y1 := HR6.out.cell (i := 1) rfl
      have y2 := HR6.out.cell (i := 2) rfl
      have y3 := HR6.out.cell (i := 3) rfl
      have y4 := HR6.out.cell (i := 4) rfl
      have y5 := HR6.out.cell (i := 5) rfl
      have y6 := HR6.out.cell (i := 6) rfl
      have y7 := HR6.out.cell (i := 7) rfl
      have y8 := HR6.out.cell (i := 8) rfl
      go_wp2_with fail
      have HF := Lib.hid (set9_cel (v0 := .int .i64 0) (v1 := .int .i64 0) (v2 := .int .i64 0) (v3 := .int .i64 0) (v4 := .int .i64 0) (v5 := .int .i64 0) (v6 := .string ⟨#[]⟩) (v7 := .slice none 0 0) (v8 := .slice none 0 0) HR6.out)
      have z0 := HF.out.cell (i := 0) rfl
      have z1 := HF.out.cell (i := 1) rfl
      have z2 := HF.out.cell (i := 2) rfl
      have z3 := HF.out.cell (i := 3) rfl
      have z4 := HF.out.cell (i := 4) rfl
      have z5 := HF.out.cell (i := 5) rfl
      have z6 := HF.out.cell (i := 6) rfl
      have z7 := HF.out.cell (i := 7) rfl
      have z8 := HF.out.cell (i := 8) rfl
      unfold set9 at z0 z1 z2 z3 z4 z5 z6 z7 z8
      exact bodyPost_ret (v := .tuple #[letV noLet none none 0 0, .int .i64 70]) (by simp [results, Try.results21, go_sem, letV, noLet, z0, z1, z2, z3, z4, z5, z6, z7, z8]) rfl (HMk.out _ _ HN.out (set9_below HB6.out (Nat.le_refl _)) rfl)

end Nt
end Go.Proofs.Ytkpcfakfkcghdaa
