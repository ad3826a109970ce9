/- The law of records that are written; no condition but the range. -/
import Derived.Test.YtibekhigpamnjaaRcLaw
import Derived.Test.YtibekhigpamnjaaRcEnc
namespace Go.Proofs.Ytibekhigpamnjaa
namespace Rc
open Go.RowKit Bk Lt

attribute [local go_sem ↓] Go.wp_at_zero Go.wp_at_succ
attribute [local go_sem] floatUpon pick

/-- what the walk keeps: the record that came in, and its copy in block o -/
structure CpEnv (w W : World) (o : Nat) (A B A1 B1 : Option Addr) (c d c1 d1 : Nat) (l : Rec) : Prop where
  env : RcEnv w W w.heap.size A B c d l
  cel : Cel W o 25 [.int .i64 l.kind, .int .i64 l.txn, .int .i64 l.ts, .int .i64 l.coord, .string l.key, .string l.text, .bool l.dead, .slice A1 l.keys.length c1, .slice B1 l.ws.length d1]
  val : RecVal W A1 B1 c1 d1 l

theorem CpEnv.step {w W W' : World} {o : Nat} {A B A1 B1 : Option Addr} {c d c1 d1 : Nat} {l : Rec} (h : CpEnv w W o A B A1 B1 c d c1 d1 l) (hb : Below W.heap.size W W') : CpEnv w W' o A B A1 B1 c d c1 d1 l :=
  ⟨h.env.step hb, h.cel.below hb, h.val.below hb⟩

set_option maxRecDepth 20000 in
set_option maxHeartbeats 8000000 in
theorem writes_walk (HC : CheckAll) (HE : EncodeAll) (v : Value) (l : Rec) (w : World) (hv : RecArg w v l) :
    Calls Try.prog 3 #[v] w fun e w' => e = .returned (.bool true) ∧ Below w.heap.size w w' := by
  obtain ⟨A, B, c, d, rfl, h1, h2, h3, h4, h5⟩ := hv
  have hw : RecVal w A B c d l := ⟨h1, h2, h3, h4, h5⟩
  have w40 : l.ws.length * 40 ≤ 140737488351232 := by have := h3.w40; unfold reachBytes at this; exact this
  have hrg := h3.toRecRng
  have r1 : l.keys.length ≤ 9223372036854775807 := by have := hrg.k16; unfold reachBytes at this; omega
  have r2 : l.ws.length ≤ 9223372036854775807 := by omega
  have HWk := Lib.hid (fun W => rcworks HE W)
  have HCp := Lib.hid (fun W (hb : Below w.heap.size w W) => copy_any A B c d l W (hw.below hb))
  obtain ⟨X, E, hXE⟩ := encV_form l
  have HE1 := Lib.hid (fun A c B d W (h : RecVal W A B c d l) => HE A B c d l W h)
  have HE2 := Lib.hid (fun W (hb : Below w.heap.size w W) => encode_any A B c d l W (hw.ks.below hb) (hw.ws.below hb) (fun e => (hw.kn e).2) hrg)
  rw [hXE] at HE1 HE2
  have HC1 := Lib.hid (fun A c B d W (h : RecVal W A B c d l) => HC A B c d l W h)
  have HC2 := Lib.hid (fun W (hb : Below w.heap.size w W) => check_any A B c d l W (hw.ks.below hb) (hw.ws.below hb) hrg)
  have HS := Lib.hid (fun A1 c1 B1 d1 W (h : RecVal W A1 B1 c1 d1 l) (hb : Below w.heap.size w W) => sameRec_any A1 B1 A B c1 d1 c d l l W h.ks h.ws (hw.ks.below hb) (hw.ws.below hb) r1 r2)
  rw [sameB_self] at HS
  have henv := RcEnv.start (c := c) (d := d) hw.ks hw.ws
  have t1 := text_eq X
  generalize ((ckN l : Nat) : Int) = K at *
  unfold recV at HCp HE1 HE2 HC1 HC2 HS ⊢
  clear hXE h1 h2 h3 h4 h5 hw hrg HC HE  r1 r2 w40
  go_enter Try.func3, Try.ntmps3
  go_upto_region 1 with fail
  generalize w.alloc (.cells #[.int .i64 l.kind, .int .i64 l.txn, .int .i64 l.ts, .int .i64 l.coord, .string l.key, .string l.text, .bool l.dead, .slice A l.keys.length c, .slice B l.ws.length d] 25) = W1 at henv ⊢
  have HEn := Lib.hid henv
  have k0 := henv.cel.cell (i := 0) rfl
  have k1 := henv.cel.cell (i := 1) rfl
  have k2 := henv.cel.cell (i := 2) rfl
  have k3 := henv.cel.cell (i := 3) rfl
  have k4 := henv.cel.cell (i := 4) rfl
  have k5 := henv.cel.cell (i := 5) rfl
  have k6 := henv.cel.cell (i := 6) rfl
  have k7 := henv.cel.cell (i := 7) rfl
  have k8 := henv.cel.cell (i := 8) rfl
  clear henv
  go_wp2_with fail
  refine (HCp.out _ HEn.out.bel).mono ?_
  rintro e w2 ⟨A1, B1, c1, d1, rfl, hval, hb⟩
  have hE2 := HEn.out.step hb
  have HEn2 := Lib.hid hE2
  have HVl := Lib.hid hval
  clear k0 k1 k2 k3 k4 k5 k6 k7 k8 hb hval hE2 HEn HCp
  go_upto_region 2 with fail
  have hC : Cel (w2.alloc (.cells #[.int .i64 l.kind, .int .i64 l.txn, .int .i64 l.ts, .int .i64 l.coord, .string l.key, .string l.text, .bool l.dead, .slice A1 l.keys.length c1, .slice B1 l.ws.length d1] 25)) w2.heap.size 25 [.int .i64 l.kind, .int .i64 l.txn, .int .i64 l.ts, .int .i64 l.coord, .string l.key, .string l.text, .bool l.dead, .slice A1 l.keys.length c1, .slice B1 l.ws.length d1] := (blk1 _ _).2
  have hbA : Below w2.heap.size w2 (w2.alloc (.cells #[.int .i64 l.kind, .int .i64 l.txn, .int .i64 l.ts, .int .i64 l.coord, .string l.key, .string l.text, .bool l.dead, .slice A1 l.keys.length c1, .slice B1 l.ws.length d1] 25)) := (Below.refl _ w2).alloc (Nat.le_refl _) _
  have E3 := Lib.hid (show CpEnv w _ w2.heap.size A B A1 B1 c d c1 d1 l from ⟨HEn2.out.step hbA, hC, HVl.out.below hbA⟩)
  clear hC hbA HEn2 HVl
  generalize w2.alloc (.cells #[.int .i64 l.kind, .int .i64 l.txn, .int .i64 l.ts, .int .i64 l.coord, .string l.key, .string l.text, .bool l.dead, .slice A1 l.keys.length c1, .slice B1 l.ws.length d1] 25) = W3 at E3 ⊢
  generalize w2.heap.size = o at E3 ⊢
  have q0 := E3.out.cel.cell (i := 0) rfl
  have q1 := E3.out.cel.cell (i := 1) rfl
  have q2 := E3.out.cel.cell (i := 2) rfl
  have q3 := E3.out.cel.cell (i := 3) rfl
  have q4 := E3.out.cel.cell (i := 4) rfl
  have q5 := E3.out.cel.cell (i := 5) rfl
  have q6 := E3.out.cel.cell (i := 6) rfl
  have q7 := E3.out.cel.cell (i := 7) rfl
  have q8 := E3.out.cel.cell (i := 8) rfl
  go_wp2_with fail
  refine (HE1.out A1 c1 B1 d1 _ E3.out.val).mono ?_
  rintro e w4 ⟨rfl, hb⟩
  have E4 := Lib.hid (E3.out.step hb)
  clear hb q0 q1 q2 q3 q4 q5 q6 q7 q8 E3
  have k0 := E4.out.env.cel.cell (i := 0) rfl
  have k1 := E4.out.env.cel.cell (i := 1) rfl
  have k2 := E4.out.env.cel.cell (i := 2) rfl
  have k3 := E4.out.env.cel.cell (i := 3) rfl
  have k4 := E4.out.env.cel.cell (i := 4) rfl
  have k5 := E4.out.env.cel.cell (i := 5) rfl
  have k6 := E4.out.env.cel.cell (i := 6) rfl
  have k7 := E4.out.env.cel.cell (i := 7) rfl
  have k8 := E4.out.env.cel.cell (i := 8) rfl
  go_wp2_with fail
  refine (HE2.out _ E4.out.env.bel).mono ?_
  rintro e w5 ⟨rfl, hb⟩
  have E5 := Lib.hid (E4.out.step hb)
  clear hb k0 k1 k2 k3 k4 k5 k6 k7 k8 E4
  go_upto_region 5 with fail
  refine wp_region_said 26 [21, 22, 23, 24, 25, 26, 27, 28, 29, 30, 31, 32, 33, 34, 35, 36, 37, 38, 39, 40, 41, 42, 43, 44, 45, 46]
    [.is (.bool true), .is (.bool true), .is (.string X), .is (.string X), .is (.bool true), .is (.bool true), .is (.bool true), .is (.int .i64 E), .is (.int .i64 E), .is (.bool true), .is (.bool true), .is (.bool true), .is (.agg #[.int .i64 l.kind, .int .i64 l.txn, .int .i64 l.ts, .int .i64 l.coord, .string l.key, .string l.text, .bool l.dead, .slice A1 l.keys.length c1, .slice B1 l.ws.length d1]), .is (.int .i64 K), .is (.agg #[.int .i64 l.kind, .int .i64 l.txn, .int .i64 l.ts, .int .i64 l.coord, .string l.key, .string l.text, .bool l.dead, .slice A l.keys.length c, .slice B l.ws.length d]), .is (.int .i64 K), .is (.bool true), .is (.bool true), .is (.bool true), .is (.agg #[.int .i64 l.kind, .int .i64 l.txn, .int .i64 l.ts, .int .i64 l.coord, .string l.key, .string l.text, .bool l.dead, .slice A1 l.keys.length c1, .slice B1 l.ws.length d1]), .is (.agg #[.int .i64 l.kind, .int .i64 l.txn, .int .i64 l.ts, .int .i64 l.coord, .string l.key, .string l.text, .bool l.dead, .slice A l.keys.length c, .slice B l.ws.length d]), .is (.bool true), .is (.bool true), .is (.bool true), .is (.bool true), .is (.bool true)]
    (fun W => CpEnv w W o A B A1 B1 c d c1 d1 l) (by kernel_rfl) (by kernel_rfl) (by kernel_rfl) (by kernel_rfl) (by kernel_rfl) (fun W W' h hb => h.step hb) E5.out ?steps ?last
  case steps =>
    simp only [List.take_succ_cons, List.take_zero]
    refine ⟨?_, ?_, ?_, ?_, ?_, ?_, ?_, ?_, ?_, ?_, ?_, ?_, ?_, ?_, ?_, ?_, ?_, ?_, ?_, ?_, ?_, ?_, ?_, ?_, ?_, ?_, trivial⟩
    all_goals
      intro vs W ρ hρ hc hf hg hI hH hd R' hR
      have k0 := hI.env.cel.cell (i := 0) rfl
      have k1 := hI.env.cel.cell (i := 1) rfl
      have k2 := hI.env.cel.cell (i := 2) rfl
      have k3 := hI.env.cel.cell (i := 3) rfl
      have k4 := hI.env.cel.cell (i := 4) rfl
      have k5 := hI.env.cel.cell (i := 5) rfl
      have k6 := hI.env.cel.cell (i := 6) rfl
      have k7 := hI.env.cel.cell (i := 7) rfl
      have k8 := hI.env.cel.cell (i := 8) rfl
      have q0 := hI.cel.cell (i := 0) rfl
      have q1 := hI.cel.cell (i := 1) rfl
      have q2 := hI.cel.cell (i := 2) rfl
      have q3 := hI.cel.cell (i := 3) rfl
      have q4 := hI.cel.cell (i := 4) rfl
      have q5 := hI.cel.cell (i := 5) rfl
      have q6 := hI.cel.cell (i := 6) rfl
      have q7 := hI.cel.cell (i := 7) rfl
      have q8 := hI.cel.cell (i := 8) rfl
      have HR := Lib.hid hR
      have HIe := Lib.hid hI
      simp [depsOf, Region.binds, sayAt, Say.holds] at hd
      clear hR hI
      simp only [Region.wanted, hd, boolOf]
      go_simp
    case refine_14 =>
      refine (HC1.out A1 c1 B1 d1 _ HIe.out.val).mono ?_
      rintro e w' ⟨rfl, hb⟩
      exact ⟨_, rfl, HR.out _ _ (by simp [sayAt, Say.holds]) hb (by simp [sayAt, Say.isBlk])⟩
    case refine_16 =>
      refine (HC2.out _ HIe.out.env.bel).mono ?_
      rintro e w' ⟨rfl, hb⟩
      exact ⟨_, rfl, HR.out _ _ (by simp [sayAt, Say.holds]) hb (by simp [sayAt, Say.isBlk])⟩
    case refine_22 =>
      refine (HS.out A1 c1 B1 d1 _ HIe.out.val HIe.out.env.bel).mono ?_
      rintro e w' ⟨rfl, hb⟩
      exact ⟨_, rfl, HR.out _ _ (by simp [sayAt, Say.holds]) hb (by simp [sayAt, Say.isBlk])⟩
    case refine_25 =>
      refine (HWk.out _).mono ?_
      rintro e w' ⟨rfl, hb⟩
      exact ⟨_, rfl, HR.out _ _ (by simp [sayAt, Say.holds]) hb (by simp [sayAt, Say.isBlk])⟩
    all_goals
      first
        | exact HR.out _ _ (by simp [sayAt, Say.holds]) (Below.refl _ _) (by simp [sayAt, Say.isBlk])
        | trace_state
  case last =>
    intro vs W hI hb hg hd
    have g25 := hg 25 (by omega)
    simp only [sayAt, Say.holds, List.getD_cons_succ, List.getD_cons_zero] at g25
    simp only [List.take_succ_cons, List.take_zero, List.drop_succ_cons, List.drop_zero, putAll, Act.put, List.setIfInBounds_toArray, List.set_cons_succ, List.set_cons_zero, Nat.zero_add, Nat.reduceAdd]
    rw [g25]
    have HB := Lib.hid hI.env.bel
    clear g25 hg hd hb hI
    go_wp2_with fail
    go_ret
    exact ⟨rfl, HB.out⟩

end Rc
end Go.Proofs.Ytibekhigpamnjaa
