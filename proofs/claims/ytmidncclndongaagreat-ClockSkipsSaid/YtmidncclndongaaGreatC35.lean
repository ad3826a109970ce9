/- Parts of the proof, joined: CkEnds, ScInts, CkSkips; their conditions stand with each. -/
import Derived.Deep.SlicePairs
import Derived.Deep.RegionWith
import Derived.Test.YtmidncclndongaaGreatC2
import Derived.Test.YtmidncclndongaaGreatC32

set_option maxRecDepth 20000
set_option maxHeartbeats 8000000
namespace Go.Proofs.YtmidncclndongaaGreat
namespace Ck
open Go.RowKit Bk Sc Rd Rc Lt
attribute [local go_sem ↓] Go.wp_at_zero Go.wp_at_succ
attribute [local go_sem] floatUpon pick
theorem ends_any (a0 a1:Int) (w:World) :
  Calls Tryz.prog 6 #[.int .i64 a0,.int .i64 a1] w fun e w'=>e = .returned (.bool true) ∧ Below w.heap.size w w':=by
 have HMx:Hid ((1125899906842624:Int) = mxS):=Lib.hid rfl
 have HM1:=Lib.hid (fun V=>among_any a0 30 V (by omega) (by omega))
 have HM2:=Lib.hid (fun V=>among_any a1 20 V (by omega) (by omega))
 have n1:=amongV_lt a0 30 (by omega)
 have n2:=amongV_lt a1 20 (by omega)
 generalize amongV a0 30 = N1 at HM1 n1
 generalize amongV a1 20 = L at HM2 n2
 have HWk:=Lib.hid (fun V=>cworks_any V)
 obtain ⟨blk,hblk⟩:∃ blk:Int,blk = 1 + (N1:Int):=⟨_,rfl⟩
 have wb:IntKind.i64.wrap (1 + (N1:Int)) = blk:=by rw [hblk];exact i64_wrap (by omega) (by omega)
 have b1:1 ≤ blk:=by omega
 have b2:blk ≤ 4096:=by omega
 have wl:IntKind.i64.wrap (1125899906842624 - (L:Int)) = 1125899906842624 - (L:Int):=i64_wrap (by omega) (by omega)
 obtain ⟨D1,ho1,v1⟩:=fresh_wi (n:=8) (blk:=blk) (by omega) (by omega) b1 b2
 have H1:=Lib.hid ho1
 have HV:=Lib.hid v1
 have HB:=Lib.hid (And.intro b1 b2)
 have HBl:=Lib.hid hblk
 clear ho1 v1 b1 b2 hblk n1
 go_enter Tryz.func6,Tryz.ntmps6
 go_wp2_with fail
 refine (devBase.new 8 w ⟨by omega,by omega⟩).mono ?_
 rintro e w1 (⟨_,_,F1,g,rfl,hr1,hF1,hb1⟩ | ⟨hno,_,_⟩)
 case inr=>exact absurd ⟨by omega,by omega⟩ hno
 have O1:Hid (Ow w w1 F1):=Lib.hid ⟨hF1,hb1⟩
 have HR1:=Lib.hid hr1
 clear hr1 hF1 hb1
 go_wp2_with fail
 refine (HWk.out _).mono ?_
 rintro e w2 ⟨rfl,hb2⟩
 have O2:=Lib.hid (O1.out.step hb2)
 have R2:=Lib.hid (lopen_any (w:=w2) (F:=F1) (g:=g) (D:=new0 8) none ((devF_of devBase).kept HR1.out (fun k hk=>hb2.block k ((devF_of devBase).lt HR1.out k hk))) blk)
 clear hb2 O1 HR1 HWk
 go_wp2_with fail
 refine (HM1.out _).mono ?_
 rintro e W ⟨rfl,rfl⟩
 go_wp2_with fail
 refine (HM2.out _).mono ?_
 rintro e W3 ⟨rfl,rfl⟩
 go_wp2_with fail
 refine R2.out.mono ?_
 rintro e w3 hp
 obtain ⟨F3,b,p,rfl,hv3,hf3⟩:=opn_some hp H1.out
 have O3:=Lib.hid (O2.out.act hf3)
 have HS:=Lib.hid (skip_run hv3 HV.out (by omega) (by omega) (m:=1125899906842624 - (L:Int)) (by show (0:Int) ≤ _;omega) (by rw [← HMx.out];omega))
 clear hp hv3 hf3 O2 R2 HV HM1 HM2
 go_wp2_with fail
 refine HS.out.mono ?_
 rintro e w4 ⟨rfl,D4,l4,b4,F4,hw4,hv4,hf4⟩
 have HI4:Hid (∃ D l b4 F,Wi 8 D ⟨l,1125899906842624 - (L:Int) + ((0:Nat):Int),b4⟩ (2 + 0) ∧ LC w4 F b g p D blk ⟨l,1125899906842624 - (L:Int) + ((0:Nat):Int),b4⟩ ∧ Ow w w4 (Tc F b)):=Lib.hid ⟨D4,l4,b4,F4,by simpa using hw4,by simpa using hv4,O3.out.act hf4⟩
 clear hw4 hv4 hf4 O3 HS
 go_wp2_with fail
 go_loopw [53] (fun iv wr=>∃ j:Nat,j ≤ L ∧ iv = .int .i64 (j:Int) ∧ Hid (∃ D l b4 F,Wi 8 D ⟨l,1125899906842624 - (L:Int) + (j:Int),b4⟩ (2 + j) ∧ LC wr F b g p D blk ⟨l,1125899906842624 - (L:Int) + (j:Int),b4⟩ ∧ Ow w wr (Tc F b))) (fun iv _=>L - (RowKit.intOf iv).toNat)
 case atStart=>exact ⟨0,Nat.zero_le _,rfl,HI4⟩
 case round =>
  obtain ⟨j,hj,rfl,hi⟩:=hrel
  clear HI4
  by_cases hlt:j < L
  ·have pj:(j:Int) < (L:Int):=by omega
   obtain ⟨D,l,b5,F,hw,hv,ho⟩:=hi.out
   have HN:=Lib.hid (next_run hv hw (by omega) (by omega) HB.out.1 HB.out.2 (by rw [← HMx.out];show 1125899906842624 - (L:Int) + (j:Int) < 1125899906842624;omega))
   have O5:=Lib.hid ho
   clear hw hv ho hi
   have w1':IntKind.i64.wrap (1125899906842624 - (L:Int) + 1) = 1125899906842624 - (L:Int) + 1:=i64_wrap (by omega) (by omega)
   have w2':IntKind.i64.wrap (1125899906842624 - (L:Int) + 1 + (j:Int)) = 1125899906842624 - (L:Int) + 1 + (j:Int):=i64_wrap (by omega) (by omega)
   have w3':((1125899906842624 - (L:Int) + (j:Int) + 1) != (1125899906842624 - (L:Int) + 1 + (j:Int))) = false:=by
    rw [show 1125899906842624 - (L:Int) + (j:Int) + 1 = 1125899906842624 - (L:Int) + 1 + (j:Int) by omega]
    simp
   have HEq:=Lib.hid (show 1125899906842624 - (L:Int) + (j:Int) + 1 = 1125899906842624 - (L:Int) + ((j + 1:Nat):Int) by omega)
   simp only at HN
   generalize 1125899906842624 - (L:Int) + (j:Int) + 1 = q at HN w3' HEq
   go_wp2_with fail
   refine HN.out.mono ?_
   rintro e w5 ⟨rfl,D5,l5,b6,F5,hw5,hv5,hf5,-⟩
   rw [HEq.out] at hw5 hv5
   have HI5:Hid (∃ D l b4 F,Wi 8 D ⟨l,1125899906842624 - (L:Int) + ((j + 1:Nat):Int),b4⟩ (2 + (j + 1)) ∧ LC w5 F b g p D blk ⟨l,1125899906842624 - (L:Int) + ((j + 1:Nat):Int),b4⟩ ∧ Ow w w5 (Tc F b)):=Lib.hid ⟨D5,l5,b6,F5,hw5,hv5,O5.out.act hf5⟩
   clear hw5 hv5 hf5 O5 HN HEq
   go_wp2_with fail
   go_roundw
   case rel=>exact ⟨j + 1,by omega,by go_num,HI5⟩
   case measure=>simp [RowKit.intOf];omega
  ·obtain rfl:j = L:=by omega
   obtain ⟨D,l,b5,F,hw,hv,ho⟩:=hi.out
   have hx:1125899906842624 - (j:Int) + (j:Int) = mxS:=by rw [← HMx.out];omega
   rw [hx] at hw hv
   have hb5:b5 = mxS:=by
    have h1:=hw.ck.lb
    have h2:=hw.ck.bm
    simp only at h1 h2
    omega
   subst hb5
   have HW:=Lib.hid hw
   have HN:=Lib.hid (spent_run hv hw HB.out.1 HB.out.2 rfl)
   have O5:=Lib.hid ho
   clear hw hv ho hi hx
   go_wp2_with fail
   refine HN.out.mono ?_
   rintro e w5 ⟨rfl,F5,hv5,hf5⟩
   have O6:=Lib.hid ((O5.out.act hf5).less (Q:=F5) (fun k hk=>.inl hk))
   have HC:=Lib.hid (Side.crash (devF_of devBase) hv5.sd none 0 [] (fun h=>absurd h (by simp)) (fun h=>absurd h (by simp)) (by decide) (fun x hx=>by cases hx))
   obtain ⟨l6,ho6,hw6⟩:=crash_wi (blk:=blk) HW.out (by omega) HB.out.1 HB.out.2 []
   have HO6:=Lib.hid (And.intro ho6 hw6)
   clear hv5 hf5 O5 HN HW ho6 hw6
   go_wp2_with fail
   refine HC.out.mono ?_
   rintro e w6 ⟨rfl,F6,hs6,hf6⟩
   have O7:=Lib.hid (O6.out.act hf6)
   have R7:=Lib.hid (lopen_any (w:=w6) (F:=F6) (g:=g) (D:=crD D []) none hs6 blk)
   clear hs6 hf6 O6 HC
   go_wp2_with fail
   refine R7.out.mono ?_
   rintro e w7 hp
   obtain ⟨F7,b7,p7,rfl,hv7,hf7⟩:=opn_some hp HO6.out.1
   have O8:=Lib.hid (O7.out.act hf7)
   have HN2:=Lib.hid (spent_run hv7 HO6.out.2 HB.out.1 HB.out.2 rfl)
   clear hp hv7 hf7 O7 R7 HO6
   go_wp2_with fail
   refine HN2.out.mono ?_
   rintro e w8 ⟨rfl,F8,hv8,hf8⟩
   have HLa:=Lib.hid (llast_any hv8)
   have O9:=Lib.hid (O8.out.act hf8)
   clear hv8 hf8 O8 HN2
   rw [show (mxS:Int) = 1125899906842624 from rfl] at HLa
   go_wp2_with fail
   refine HLa.out.mono ?_
   rintro e W9 ⟨rfl,rfl⟩
   go_wp2_with fail
   go_ret
   exact ⟨rfl,O9.out.bel⟩
end Ck
end Go.Proofs.YtmidncclndongaaGreat
namespace Go.Proofs.YtmidncclndongaaGreat
namespace Sc
open Go.ChangeShapes Go.WideShapes Go.ChangeAt Go.RowKit Go.Joins Go.Deep Bk
def IntsOf (w:World) (v:Value) (l:List Int):Prop :=
 ∃ (A:Option Addr) (c:Nat),v = .slice A l.length c ∧ IntsAt w A l ∧ l.length * 8 ≤ reachBytes ∧ ∀ n ∈ l,-9223372036854775808 ≤ n ∧ n ≤ 9223372036854775807
section
variable {H:Type} {enc:TypeId × Value → H} {W:World}
theorem open_intsOf {base:Nat} {v:Value} {d:DataW H} {p:List MemPlace} {ts:List TypeId} {ds:List (DataW H)} {j:Nat}
  (hsz:(DataW.weightsEach Tryz.prog ts ds).all (· ≤ reachBytes) = true) (hj:ts[j]? = some 41) (hd:ds[j]? = some d)
  (hv:Value.okWide Tryz.prog W .any base 41 v) (h:DataW.Trod enc Tryz.prog W 0 (fun _=>true) true 41 v d p) (hl:∀ x ∈ p,x.block < W.heap.size):∃ l,IntsOf W v l:=by
 obtain ⟨a0,len,cap,rfl⟩:=okWide_slice Tryz.underlying41 hv
 obtain ⟨fuel,hf⟩:=h
 obtain ⟨A,c,L,e,q1,q2,_,_,q5,_⟩:=field_ints Tryz.underlying41 Tryz.underlying3 (by kernel_rfl) (by kernel_rfl) hf (arg_weights hsz hj hd) hl
 exact ⟨L,A,c,e,q1,q2,q5⟩
end
end Sc
end Go.Proofs.YtmidncclndongaaGreat
namespace Go.Proofs.YtmidncclndongaaGreat
namespace Ck
open Go.RowKit Bk Sc Rd Rc Lt
attribute [local go_sem ↓] Go.wp_at_zero Go.wp_at_succ
attribute [local go_sem] floatUpon pick
theorem i64_both {x : Int} (h0 : -9223372036854775808 ≤ x) (h1 : x < 9223372036854775808) : IntKind.i64.wrap x = x := by
  simp only [IntKind.wrap, IntKind.bits, IntKind.signed]; simp; omega
theorem back_run {w : World} {F : Nat → Prop} {b g p n N : Nat} {D : Dev} {blk : Int} {k : Cl} (h : LC w F b g p D blk k) (hw : Wi n D k N) {m : Int} (h1 : m < k.last) :
    Calls Tryz.prog 27 #[.pointer (some ⟨b, 0, none⟩), .int .i64 m] w fun e w' => e = .returned (.int .i64 1) ∧ ∃ F', LC w' F' b g p D blk k ∧ Fr (Tc F b) (Tc F' b) w w' := by
  have := lskip_any h hw.lg hw.id.2 hw.ck m
  rw [skip_back h1] at this
  exact this
theorem skips_any (v : Value) (L : List Int) (w : World) (hv : Sc.IntsOf w v L) :
    Calls Tryz.prog 7 #[v] w fun e w' => e = .returned (.bool true) ∧ Below w.heap.size w w' := by
  obtain ⟨A, c, rfl, hat, hl8, hrng⟩ := hv
  have HMx : Hid ((1125899906842624 : Int) = mxS) := Lib.hid rfl
  have HWk := Lib.hid (fun V => cworks_any V)
  have HAm := Lib.hid (fun x V => among_any x 40 V (by omega) (by omega))
  have HAt := Lib.hid (fun V (hb : Below w.heap.size w V) => hat.below hb)
  have rb : reachBytes = 140737488351232 := by unfold reachBytes; rfl
  have hlen : (L.length : Int) ≤ 9223372036854775807 := by omega
  obtain ⟨D1, ho1, v1⟩ := fresh_wi (n := 8) (blk := 5) (by omega) (by omega) (by omega) (by omega)
  have H1 := Lib.hid ho1
  have HV := Lib.hid v1
  clear ho1 v1 hat hl8 hrng rb
  go_enter Tryz.func7, Tryz.ntmps7
  go_wp2_with fail
  refine (devBase.new 8 w ⟨by omega, by omega⟩).mono ?_
  rintro e w1 (⟨_, _, F1, g, rfl, hr1, hF1, hb1⟩ | ⟨hno, _, _⟩)
  case inr => exact absurd ⟨by omega, by omega⟩ hno
  have O1 : Hid (Ow w w1 F1) := Lib.hid ⟨hF1, hb1⟩
  have HR1 := Lib.hid hr1
  clear hr1 hF1 hb1
  go_wp2_with fail
  refine (HWk.out _).mono ?_
  rintro e w2 ⟨rfl, hb2⟩
  have O2 := Lib.hid (O1.out.step hb2)
  have R2 := Lib.hid (lopen_any (w := w2) (F := F1) (g := g) (D := new0 8) none ((devF_of devBase).kept HR1.out (fun k hk => hb2.block k ((devF_of devBase).lt HR1.out k hk))) 5)
  clear hb2 O1 HR1 HWk
  go_wp2_with fail
  refine R2.out.mono ?_
  rintro e w3 hp
  obtain ⟨F3, b, p, rfl, hv3, hf3⟩ := opn_some hp H1.out
  have HI3 : Hid (∃ D l x y F, Wi 8 D ⟨l, x, y⟩ (2 * 0 + 1) ∧ x ≤ 40 * ((0 : Nat) : Int) ∧ LC w3 F b g p D 5 ⟨l, x, y⟩ ∧ Ow w w3 (Tc F b)) := Lib.hid ⟨D1, _, 0, 0, F3, HV.out, by simp, hv3, O2.out.act hf3⟩
  clear hp hv3 hf3 O2 R2 HV H1
  go_wp2_with fail
  go_loopw [6] (fun iv wr => ∃ j : Nat, j ≤ L.length ∧ j ≤ 30 ∧ iv = .int .i64 (j : Int) ∧ Hid (∃ D l x y F, Wi 8 D ⟨l, x, y⟩ (2 * j + 1) ∧ x ≤ 40 * (j : Int) ∧ LC wr F b g p D 5 ⟨l, x, y⟩ ∧ Ow w wr (Tc F b))) (fun iv _ => L.length - (RowKit.intOf iv).toNat)
  case atStart => exact ⟨0, Nat.zero_le _, Nat.zero_le _, rfl, HI3⟩
  case round =>
    obtain ⟨j, hj, hj2, rfl, hi⟩ := hrel
    clear HI3
    by_cases hlt : j < L.length
    case neg =>
      have pj : ¬ (j : Int) < (L.length : Int) := by omega
      have HO := Lib.hid (show Below w.heap.size w wr by obtain ⟨_, _, _, _, _, _, _, _, ho⟩ := hi.out; exact ho.bel)
      clear hi
      go_wp2_with fail
      go_ret
      exact ⟨rfl, HO.out⟩
    have pj : (j : Int) < (L.length : Int) := by omega
    by_cases hlt2 : j < 30
    case neg =>
      have pj2 : ¬ (j : Int) < 30 := by omega
      have HO := Lib.hid (show Below w.heap.size w wr by obtain ⟨_, _, _, _, _, _, _, _, ho⟩ := hi.out; exact ho.bel)
      clear hi
      go_wp2_with fail
      go_ret
      exact ⟨rfl, HO.out⟩
    have pj2 : (j : Int) < 30 := by omega
    obtain ⟨D, l, x, y, F, hw, hx, hc, ho⟩ := hi.out
    obtain ⟨ad, rfl, -, hcl⟩ := HAt.out _ ho.bel (by omega)
    have x0 := hcl j hlt
    generalize L[j] = z at x0
    have n1 := amongV_lt z 40 (by omega)
    have HAmz := Lib.hid (fun V => HAm.out z V)
    generalize amongV z 40 = m at n1 HAmz
    have hx0 : 0 ≤ x := hw.ck.l0
    have HW := Lib.hid hw
    have HC := Lib.hid hc
    have HO := Lib.hid ho
    have HLa := Lib.hid (fun V (t : LC V F b g p D 5 ⟨l, x, y⟩) => llast_any t)
    have HX := Lib.hid (And.intro hx0 hx)
    have wa : IntKind.i64.wrap (x + (m : Int)) = x + (m : Int) := i64_wrap (by omega) (by omega)
    obtain ⟨q, hq⟩ : ∃ q, q = x + (m : Int) - 10 := ⟨_, rfl⟩
    have ws : IntKind.i64.wrap (x + (m : Int) - 10) = q := by rw [hq]; exact i64_both (by omega) (by omega)
    have HQ := Lib.hid (show q < x + 30 ∧ x - 11 < q by omega)
    clear hi hw hc ho hcl hq hx hx0
    go_upto_region 10 with fail
    go_region_with (first
      | (refine (HLa.out _ (HC.out.below (devF_of devBase) logF (Below.refl _ _).drew)).mono ?_
         rintro e W4 ⟨rfl, rfl⟩)
      | (refine (HAmz.out _).mono ?_
         rintro e W4 ⟨rfl, rfl⟩))
    all_goals
      have HC1 := Lib.hid (HC.out.below (devF_of devBase) logF (Below.refl _ wr).drew)
      have HO1 := Lib.hid (HO.out.step (Below.refl _ wr).drew)
      have x1 : wr.drew.cell? (ad.add j) = some (.int .i64 z) := x0
      generalize wr.drew = W1 at HC1 HO1 x1 ⊢
      clear HC HO x0
      by_cases hqx : q < x
      · have HSk := Lib.hid (fun V (t : LC V F b g p D 5 ⟨l, x, y⟩) => back_run t HW.out (m := q) hqx)
        have wt : IntKind.i64.wrap (x + 1) = x + 1 := i64_both (by have := HX.out; have := HQ.out; omega) (by have := HX.out; have := HQ.out; omega)
        go_wp2_with fail
        refine (HLa.out _ HC1.out).mono ?_
        rintro e W5 ⟨rfl, rfl⟩
        go_wp2_with fail
        refine (HLa.out _ HC1.out).mono ?_
        rintro e W6 ⟨rfl, rfl⟩
        have HAt5 := Lib.hid x1
        go_upto_region 14 with fail
        go_region_with (first
          | (refine (HLa.out _ (HC1.out.below (devF_of devBase) logF (Below.refl _ _).drew)).mono ?_
             rintro e W7 ⟨rfl, rfl⟩)
          | (refine (HAmz.out _).mono ?_
             rintro e W7 ⟨rfl, rfl⟩)
          | (refine (HSk.out _ (HC1.out.below (devF_of devBase) logF (Below.refl _ _).drew)).mono ?_
             rintro e W8 ⟨rfl, F8, hc8, hf8⟩
             have HC8 := Lib.hid hc8
             have HW8 := HW
             have HO8 := Lib.hid ((HO1.out.step (Below.refl _ _).drew).act hf8)
             clear hc8 hf8 x1)
          | (refine (llast_any HC8.out).mono ?_
             rintro e W9 ⟨rfl, rfl⟩))
        all_goals
          have HN := Lib.hid (next_run HC8.out HW8.out (by omega) (by omega) (by omega) (by omega) (by have := HX.out; have := HQ.out; rw [← HMx.out]; show x < _; omega))
          clear HC8 HW8
          go_wp2_with fail
          refine HN.out.mono ?_
          rintro e W10 ⟨rfl, D10, l10, b10, F10, hw10, hc10, hf10, -⟩
          have HLe := Lib.hid (show ¬ b10 < x + 1 by have := hw10.ck.lb; simp only at this; omega)
          have HBm := Lib.hid (lboundm_any hc10)
          have HI : Hid (∃ D l x y F, Wi 8 D ⟨l, x, y⟩ (2 * (j + 1) + 1) ∧ x ≤ 40 * ((j + 1 : Nat) : Int) ∧ LC W10 F b g p D 5 ⟨l, x, y⟩ ∧ Ow w W10 (Tc F b)) := Lib.hid ⟨D10, l10, x + 1, b10, F10, hw10.more (by omega), by have := HX.out; have := HQ.out; omega, hc10, HO8.out.act hf10⟩
          have z10 := HLe.out
          clear hw10 hc10 hf10 HO8 HN
          go_wp2_with fail
          refine HBm.out.mono ?_
          rintro e W11 ⟨rfl, rfl⟩
          go_wp2_with fail
          go_roundw
          case rel => exact ⟨j + 1, by omega, by omega, by go_num, HI⟩
          case measure => simp [RowKit.intOf]; omega
      · have HSk := Lib.hid (fun V (t : LC V F b g p D 5 ⟨l, x, y⟩) => skip_run t HW.out (by omega) (by omega) (m := q) (by show x ≤ q; omega) (by have := HX.out.2; have := HQ.out.1; rw [← HMx.out]; omega))
        have wt : IntKind.i64.wrap (q + 1) = q + 1 := i64_both (by have := HX.out; have := HQ.out; omega) (by have := HX.out; have := HQ.out; omega)
        go_wp2_with fail
        refine (HLa.out _ HC1.out).mono ?_
        rintro e W5 ⟨rfl, rfl⟩
        have HAt5 := Lib.hid x1
        go_upto_region 14 with fail
        go_region_with (first
          | (refine (HLa.out _ (HC1.out.below (devF_of devBase) logF (Below.refl _ _).drew)).mono ?_
             rintro e W7 ⟨rfl, rfl⟩)
          | (refine (HAmz.out _).mono ?_
             rintro e W7 ⟨rfl, rfl⟩)
          | (refine (HSk.out _ (HC1.out.below (devF_of devBase) logF (Below.refl _ _).drew)).mono ?_
             rintro e W8 ⟨rfl, D8, l8, b8, F8, hw8, hc8, hf8⟩
             have HC8 := Lib.hid hc8
             have HW8 := Lib.hid hw8
             have HO8 := Lib.hid ((HO1.out.step (Below.refl _ _).drew).act hf8)
             clear hw8
             clear hc8 hf8 x1)
          | (refine (llast_any HC8.out).mono ?_
             rintro e W9 ⟨rfl, rfl⟩))
        all_goals
          have HN := Lib.hid (next_run HC8.out HW8.out (by omega) (by omega) (by omega) (by omega) (by have := HX.out; have := HQ.out; rw [← HMx.out]; show q < _; omega))
          clear HC8 HW8
          go_wp2_with fail
          refine HN.out.mono ?_
          rintro e W10 ⟨rfl, D10, l10, b10, F10, hw10, hc10, hf10, -⟩
          have HLe := Lib.hid (show ¬ b10 < q + 1 by have := hw10.ck.lb; simp only at this; omega)
          have HBm := Lib.hid (lboundm_any hc10)
          have HI : Hid (∃ D l x y F, Wi 8 D ⟨l, x, y⟩ (2 * (j + 1) + 1) ∧ x ≤ 40 * ((j + 1 : Nat) : Int) ∧ LC W10 F b g p D 5 ⟨l, x, y⟩ ∧ Ow w W10 (Tc F b)) := Lib.hid ⟨D10, l10, q + 1, b10, F10, hw10.more (by omega), by have := HX.out; have := HQ.out; omega, hc10, HO8.out.act hf10⟩
          have z10 := HLe.out
          clear hw10 hc10 hf10 HO8 HN
          go_wp2_with fail
          refine HBm.out.mono ?_
          rintro e W11 ⟨rfl, rfl⟩
          go_wp2_with fail
          go_roundw
          case rel => exact ⟨j + 1, by omega, by omega, by go_num, HI⟩
          case measure => simp [RowKit.intOf]; omega
end Ck
end Go.Proofs.YtmidncclndongaaGreat
