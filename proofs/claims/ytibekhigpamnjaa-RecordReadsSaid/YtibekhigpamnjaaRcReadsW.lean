/- The law of records that are read; no condition but the range. -/
import Derived.Test.YtibekhigpamnjaaRcLaw
import Derived.Test.YtibekhigpamnjaaRcDec
namespace Go.Proofs.Ytibekhigpamnjaa
namespace Rc
open Go.RowKit Bk Lt

attribute [local go_sem ↓] Go.wp_at_zero Go.wp_at_succ
attribute [local go_sem] floatUpon pick

set_option maxRecDepth 20000 in
set_option maxHeartbeats 4000000 in
theorem reads_walk (HE : EncodeAll) (HD : DecodeAll) (s : ByteArray) (hs : s.size ≤ reachBytes) (w : World) :
    Calls Try.prog 4 #[.string s] w fun e w' => e = .returned (.bool true) ∧ Below w.heap.size w w' := by
  have hs2 : s.size ≤ 1000000000000000 := by unfold reachBytes at hs; omega
  have HWk := Lib.hid (fun W => rcworks HE W)
  have HD1 := Lib.hid (fun W => HD s W hs2)
  have HD2 := Lib.hid (fun W => decode_any s W hs2)
  unfold RDec at HD2
  generalize decX s = X at HD1 HD2
  obtain ⟨l, y⟩ := X
  simp only at HD1 HD2
  unfold recV at HD1 HD2
  generalize ((y : Nat) : Int) = z at *
  clear HE HD  hs hs2
  go_enter Try.func4, Try.ntmps4
  go_wp2_with fail
  refine (HD1.out _).mono ?_
  rintro e w1 ⟨A, B, c, d, rfl, hval, hb⟩
  have hbA : Below w1.heap.size w1 (w1.alloc (.cells #[.int .i64 l.kind, .int .i64 l.txn, .int .i64 l.ts, .int .i64 l.coord, .string l.key, .string l.text, .bool l.dead, .slice A l.keys.length c, .slice B l.ws.length d] 25)) := (Below.refl _ w1).alloc (Nat.le_refl _) _
  have hC : Cel (w1.alloc (.cells #[.int .i64 l.kind, .int .i64 l.txn, .int .i64 l.ts, .int .i64 l.coord, .string l.key, .string l.text, .bool l.dead, .slice A l.keys.length c, .slice B l.ws.length d] 25)) w1.heap.size 25 [.int .i64 l.kind, .int .i64 l.txn, .int .i64 l.ts, .int .i64 l.coord, .string l.key, .string l.text, .bool l.dead, .slice A l.keys.length c, .slice B l.ws.length d] := (blk1 _ _).2
  have HV1 := Lib.hid (hval.below hbA)
  have HB1 := Lib.hid (hb.trans (hbA.mono hb.size))
  have HC1 := Lib.hid hC
  clear hval hb hbA hC HD1
  go_upto_region 2 with fail
  generalize w1.alloc (.cells #[.int .i64 l.kind, .int .i64 l.txn, .int .i64 l.ts, .int .i64 l.coord, .string l.key, .string l.text, .bool l.dead, .slice A l.keys.length c, .slice B l.ws.length d] 25) = W1 at HV1 HB1 HC1 ⊢
  generalize w1.heap.size = g1 at HC1 ⊢
  go_wp2_with fail
  refine (HD2.out _).mono ?_
  rintro e w2 ⟨A2, B2, c2, d2, rfl, hk2, hw2, hb⟩
  have hbA : Below w2.heap.size w2 (w2.alloc (.cells #[.int .i64 l.kind, .int .i64 l.txn, .int .i64 l.ts, .int .i64 l.coord, .string l.key, .string l.text, .bool l.dead, .slice A2 l.keys.length c2, .slice B2 l.ws.length d2] 25)) := (Below.refl _ w2).alloc (Nat.le_refl _) _
  have hC : Cel (w2.alloc (.cells #[.int .i64 l.kind, .int .i64 l.txn, .int .i64 l.ts, .int .i64 l.coord, .string l.key, .string l.text, .bool l.dead, .slice A2 l.keys.length c2, .slice B2 l.ws.length d2] 25)) w2.heap.size 25 [.int .i64 l.kind, .int .i64 l.txn, .int .i64 l.ts, .int .i64 l.coord, .string l.key, .string l.text, .bool l.dead, .slice A2 l.keys.length c2, .slice B2 l.ws.length d2] := (blk1 _ _).2
  have hb1 := hb.trans (hbA.mono hb.size)
  have HV2 := Lib.hid (HV1.out.below hb1)
  have HB2 := Lib.hid (HB1.out.trans (hb1.mono HB1.out.size))
  have HC2 := Lib.hid (HC1.out.below hb1)
  have HC3 := Lib.hid hC
  have HK2 := Lib.hid (hk2.below hbA)
  have HW2 := Lib.hid (hw2.below hbA)
  clear hk2 hw2 hb hbA hC hb1 HD2 HV1 HB1 HC1
  go_upto_region 3 with fail
  generalize w2.alloc (.cells #[.int .i64 l.kind, .int .i64 l.txn, .int .i64 l.ts, .int .i64 l.coord, .string l.key, .string l.text, .bool l.dead, .slice A2 l.keys.length c2, .slice B2 l.ws.length d2] 25) = W2 at HV2 HB2 HC2 HC3 HK2 HW2 ⊢
  generalize w2.heap.size = g2 at HC3 ⊢
  have k0 := HC2.out.cell (i := 0) rfl
  have k1 := HC2.out.cell (i := 1) rfl
  have k2 := HC2.out.cell (i := 2) rfl
  have k3 := HC2.out.cell (i := 3) rfl
  have k4 := HC2.out.cell (i := 4) rfl
  have k5 := HC2.out.cell (i := 5) rfl
  have k6 := HC2.out.cell (i := 6) rfl
  have k7 := HC2.out.cell (i := 7) rfl
  have k8 := HC2.out.cell (i := 8) rfl
  have q0 := HC3.out.cell (i := 0) rfl
  have q1 := HC3.out.cell (i := 1) rfl
  have q2 := HC3.out.cell (i := 2) rfl
  have q3 := HC3.out.cell (i := 3) rfl
  have q4 := HC3.out.cell (i := 4) rfl
  have q5 := HC3.out.cell (i := 5) rfl
  have q6 := HC3.out.cell (i := 6) rfl
  have q7 := HC3.out.cell (i := 7) rfl
  have q8 := HC3.out.cell (i := 8) rfl
  have hS := sameRec_any A B A2 B2 c d c2 d2 l l W2 HV2.out.ks HV2.out.ws HK2.out HW2.out (by have := HV2.out.rng.k16; unfold reachBytes at this; omega) (by have := HV2.out.rng.w40; unfold reachBytes at this; omega)
  rw [sameB_self] at hS
  unfold recV at hS
  have HS := Lib.hid hS
  clear hS HV2 HC2 HC3 HK2 HW2
  go_wp2_with fail
  refine HS.out.mono ?_
  rintro e w3 ⟨rfl, hb⟩
  have HB3 := Lib.hid (HB2.out.trans (hb.mono HB2.out.size))
  clear hb HB2 HS
  go_wp2_with fail
  refine (HWk.out _).mono ?_
  rintro e w4 ⟨rfl, hb⟩
  have HB4 := Lib.hid (HB3.out.trans (hb.mono HB3.out.size))
  clear hb HB3
  go_wp2_with fail
  go_ret
  exact ⟨rfl, HB4.out⟩

end Rc
end Go.Proofs.Ytibekhigpamnjaa
