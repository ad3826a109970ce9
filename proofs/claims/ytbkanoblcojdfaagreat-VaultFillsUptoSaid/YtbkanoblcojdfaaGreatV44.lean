/- Parts of the proof, joined: VtSame, VtFills, VtFew; their conditions stand with each. -/
import Derived.Test.YtbkanoblcojdfaaGreatRows
import Derived.Deep.Slices
import Derived.Test.YtbkanoblcojdfaaGreatV19
import Derived.Test.YtbkanoblcojdfaaGreatV43

set_option maxRecDepth 20000
set_option maxHeartbeats 8000000
namespace Go.Proofs.YtbkanoblcojdfaaGreat
namespace Vt
open Go.RowKit Bk Ch Lt Rc Tr Sh
attribute [local go_sem ↓] Go.wp_at_zero Go.wp_at_succ
attribute [local go_sem] floatUpon pick
theorem sameShelf_any {w:World} {F G:Nat → Prop} {ga gb:Nat} {s:Shf} (ha:Sh.LRep w F ga s) (hb:Sh.LRep w G gb s) (ho:ShOk s) :
  Calls Tryz.prog 27 #[.pointer (some ⟨ga,0,none⟩),.pointer (some ⟨gb,0,none⟩)] w fun e w'=>e = .returned (.bool true) ∧ Below w.heap.size w w':=by
 have HA:=Lib.hid (ha.recs_c ho)
 have HBr:=Lib.hid (fun V (h:Below w.heap.size w V)=>(hb.below h).recs_c ho)
 have HRl:=Lib.hid (recs_len ho)
 clear ha hb ho
 go_enter Tryz.func27,Tryz.ntmps27
 go_wp2_with fail
 refine HA.out.mono ?_
 rintro e1 w1 ⟨A,c,X,rfl,hxr,hox,hb1⟩
 have HB1:=Lib.hid hb1
 have HOx:=Lib.hid hox
 have HXr:=Lib.hid hxr
 clear hxr hox hb1 HA
 go_wp2_with fail
 refine (HBr.out _ HB1.out).mono ?_
 rintro e2 w2 ⟨B,d,Y,rfl,hyr,hoy,hb2⟩
 have HB2:=Lib.hid (HB1.out.trans (hb2.mono HB1.out.size))
 have hX:=(HOx.out.below hb2).rowOf
 have hY:=hoy.rowOf
 have he:X.map (·.l) = Y.map (·.l):=HXr.out.trans hyr.symm
 have hlen:Y.length = X.length:=by have:=congrArg List.length he;simpa using this.symm
 have pl:(X.length:Int) ≤ 9223372036854775807:=by
  have h1:=HRl.out
  rw [← HXr.out,List.length_map] at h1
  omega
 rw [hlen]
 have HX:=Lib.hid (fun V (hb:Below w2.heap.size w2 V)=>hX.below hb)
 have HY:=Lib.hid (fun V (hb:Below w2.heap.size w2 V)=>hY.below hb)
 have HE:=Lib.hid (fun (i:Nat) (h1:i < X.length) (h2:i < Y.length)=>show X[i].l = Y[i].l by
  have h3:(X.map (·.l))[i]? = (Y.map (·.l))[i]?:=by rw [he]
  rw [List.getElem?_map,List.getElem?_map,List.getElem?_eq_getElem h1,List.getElem?_eq_getElem h2] at h3
  simpa using h3)
 have HLen:=Lib.hid hlen
 clear hX hY he hlen hyr hoy hb2 HOx HXr HBr HB1 HRl
 go_wp2_with fail
 go_loopw [19] (fun iv wr=>∃ j:Nat,j ≤ X.length ∧ iv = .int .i64 (j:Int) ∧ Hid (Below w2.heap.size w2 wr)) (fun iv _=>X.length - (RowKit.intOf iv).toNat)
 case atStart=>exact ⟨0,by omega,rfl,Lib.hid (Below.refl _ _)⟩
 case round =>
  obtain ⟨j,hj,rfl,hb⟩:=hrel
  by_cases hlt:j < X.length
  ·have pj:(j:Int) < (X.length:Int):=by omega
   have hlt2:j < Y.length:=by rw [HLen.out];exact hlt
   obtain ⟨ad,rfl,-,hcx⟩:=(HX.out _ hb.out).at' (by omega)
   obtain ⟨bd,rfl,-,hcy⟩:=(HY.out _ hb.out).at' (by omega)
   have hex:=HE.out j hlt hlt2
   have HCx:=Lib.hid (fun V (hV:Below wr.heap.size wr V) (q:Nat) (u:Value) (hq:(rcs X[j])[q]? = some u)=>show V.cell? (ad.add (j * 9 + q)) = some u from by
    obtain ⟨ad',e',-,h3⟩:=(HX.out V (hb.out.trans (hV.mono hb.out.size))).at' (by omega)
    obtain rfl:=Option.some.inj e'
    exact h3 j hlt q u hq)
   have HCy:=Lib.hid (fun V (hV:Below wr.heap.size wr V) (q:Nat) (u:Value) (hq:(rcs Y[j])[q]? = some u)=>show V.cell? (bd.add (j * 9 + q)) = some u from by
    obtain ⟨ad',e',-,h3⟩:=(HY.out V (hb.out.trans (hV.mono hb.out.size))).at' (by omega)
    obtain rfl:=Option.some.inj e'
    exact h3 j hlt2 q u hq)
   have HVx:=Lib.hid (fun V (hV:Below wr.heap.size wr V)=>(HX.out V (hb.out.trans (hV.mono hb.out.size))).val _ (List.getElem_mem hlt))
   have HVy:=Lib.hid (fun V (hV:Below wr.heap.size wr V)=>(HY.out V (hb.out.trans (hV.mono hb.out.size))).val _ (List.getElem_mem hlt2))
   clear hcx hcy
   generalize X[j] = x at hex HCx HVx
   generalize Y[j] = y at hex HCy HVy
   obtain ⟨xr,xA,xB,xc,xd⟩:=x
   obtain ⟨yr,yA,yB,yc,yd⟩:=y
   simp only at hex
   subst hex
   have HSm:Hid (∀ V,Below wr.heap.size wr V → Calls Tryz.prog 14 #[.agg #[.int .i64 xr.kind,.int .i64 xr.txn,.int .i64 xr.ts,.int .i64 xr.coord,.string xr.key,.string xr.text,.bool xr.dead,.slice xA xr.keys.length xc,.slice xB xr.ws.length xd],.agg #[.int .i64 xr.kind,.int .i64 xr.txn,.int .i64 xr.ts,.int .i64 xr.coord,.string xr.key,.string xr.text,.bool xr.dead,.slice yA xr.keys.length yc,.slice yB xr.ws.length yd]] V fun e w'=>e = .returned (.bool true) ∧ Below V.heap.size V w'):=Lib.hid (fun V hV=>by
    have h1:=HVx.out V hV
    have h2:=HVy.out V hV
    have h3:=sameRec_any xA xB yA yB xc xd yc yd xr xr V h1.ks h1.ws h2.ks h2.ws (by have h:xr.keys.length * 16 ≤ reachBytes:=h1.rng.k16;unfold reachBytes at h;omega) (by have h:xr.ws.length * 40 ≤ reachBytes:=h1.rng.w40;unfold reachBytes at h;omega)
    rw [Rc.sameB_self] at h3
    exact h3)
   clear HVx HVy
   go_upto_region 7 with fail
   refine wp_region_said 10 [22,23,24,25,26,27,28,29,30,31]
    [.is (.slice (some ad) X.length c),.is (.int .i64 (j:Int)),.is (.pointer (some (ad.add (j * 9)))),.is (.agg #[.int .i64 xr.kind,.int .i64 xr.txn,.int .i64 xr.ts,.int .i64 xr.coord,.string xr.key,.string xr.text,.bool xr.dead,.slice xA xr.keys.length xc,.slice xB xr.ws.length xd]),.is (.slice (some bd) X.length d),.is (.int .i64 (j:Int)),.is (.pointer (some (bd.add (j * 9)))),.is (.agg #[.int .i64 xr.kind,.int .i64 xr.txn,.int .i64 xr.ts,.int .i64 xr.coord,.string xr.key,.string xr.text,.bool xr.dead,.slice yA xr.keys.length yc,.slice yB xr.ws.length yd]),.is (.bool true),.is (.bool false)]
    (fun V=>Below wr.heap.size wr V) (by kernel_rfl) (by kernel_rfl) (by kernel_rfl) (by kernel_rfl) (by kernel_rfl) (fun V V' h hb=>h.trans (hb.mono h.size)) (Below.refl _ _) ?steps ?last
   case steps =>
    simp only [List.take_succ_cons,List.take_zero]
    refine ⟨?_,?_,?_,?_,?_,?_,?_,?_,?_,?_,trivial⟩
    all_goals
     intro vs V ρ hρ hc hf hg hI hH hd R' hR
     have x0:=HCx.out V hI 0 _ rfl
     have x1:=HCx.out V hI 1 _ rfl
     have x2:=HCx.out V hI 2 _ rfl
     have x3:=HCx.out V hI 3 _ rfl
     have x4:=HCx.out V hI 4 _ rfl
     have x5:=HCx.out V hI 5 _ rfl
     have x6:=HCx.out V hI 6 _ rfl
     have x7:=HCx.out V hI 7 _ rfl
     have x8:=HCx.out V hI 8 _ rfl
     have y0:=HCy.out V hI 0 _ rfl
     have y1:=HCy.out V hI 1 _ rfl
     have y2:=HCy.out V hI 2 _ rfl
     have y3:=HCy.out V hI 3 _ rfl
     have y4:=HCy.out V hI 4 _ rfl
     have y5:=HCy.out V hI 5 _ rfl
     have y6:=HCy.out V hI 6 _ rfl
     have y7:=HCy.out V hI 7 _ rfl
     have y8:=HCy.out V hI 8 _ rfl
     rw [← Lt.add_field _ _ _ (by omega)] at x1 x2 x3 x4 x5 x6 x7 x8 y1 y2 y3 y4 y5 y6 y7 y8
     rw [Nat.add_zero] at x0 y0
     have HR:=Lib.hid hR
     have HI:=Lib.hid hI
     simp [depsOf,Region.binds,sayAt,Say.holds] at hd
     clear hR hI
     go_simp
     first
      | exact HR.out _ _ (by simp [sayAt,Say.holds]) (Below.refl _ _) (by simp [sayAt,Say.isBlk])
      | (refine (HSm.out V HI.out).mono ?_;rintro e w' ⟨rfl,hb⟩;exact ⟨_,rfl,HR.out _ _ (by simp [sayAt,Say.holds]) hb (by simp [sayAt,Say.isBlk])⟩)
      | (refine (HSm.out V HI.out).mono ?_;rintro e w' ⟨rfl,hb⟩;exact HR.out _ _ (by simp [sayAt,Say.holds]) hb (by simp [sayAt,Say.isBlk]))
      | trace_state
   case last =>
    intro vs V hI hbb hg hd
    have g9:=hg 9 (by omega)
    simp only [sayAt,Say.holds,List.getD_cons_succ,List.getD_cons_zero] at g9
    simp only [List.take_succ_cons,List.take_zero,List.drop_succ_cons,List.drop_zero,putAll,Act.put,List.setIfInBounds_toArray,List.set_cons_succ,List.set_cons_zero,Nat.zero_add,Nat.reduceAdd]
    rw [g9]
    have HB3:=Lib.hid (hb.out.trans (Below.mono hI hb.out.size))
    clear hI hb hg hd g9
    go_wp2_with fail
    go_roundw
    case rel=>exact ⟨j + 1,by omega,by go_num,HB3⟩
    case measure=>simp [RowKit.intOf];omega
  ·obtain rfl:j = X.length:=by omega
   go_wp2_with fail
   go_ret
   exact ⟨rfl,HB2.out.trans (hb.out.mono HB2.out.size)⟩
end Vt
end Go.Proofs.YtbkanoblcojdfaaGreat
namespace Go.Proofs.YtbkanoblcojdfaaGreat
namespace Vt
open Go.RowKit Bk Ch Lt Rc Tr Sc Rd
attribute [local go_sem ↓] Go.wp_at_zero Go.wp_at_succ
attribute [local go_sem] floatUpon pick
structure Sk (W:World) (P G:Nat → Prop) (g:Nat) (s:Sh.Shf):Prop where
 rep:Sh.LRep W G g s
 ok:Sh.ShOk s
 dis:∀ k,G k → ¬ P k
section
variable {W W':World} {P Q G:Nat → Prop} {g:Nat} {s:Sh.Shf}
theorem Sk.act (h:Sk W P G g s) (hf:Fr P Q W W'):Sk W' Q G g s :=
 ⟨h.rep.kept hf.size (fun k hk=>hf.block k (h.rep.lt k hk) (h.dis k hk)),h.ok,fun k hk hq=>(hf.foot k hq).elim (h.dis k hk) (fun hs=>by have:=h.rep.lt k hk;omega)⟩
theorem Sk.step (h:Sk W P G g s) (hb:Below W.heap.size W W'):Sk W' P G g s:=⟨h.rep.below hb,h.ok,h.dis⟩
theorem Sk.less (h:Sk W P G g s) (hs:∀ k,Q k → P k):Sk W Q G g s:=⟨h.rep,h.ok,fun k hk hq=>h.dis k hk (hs k hq)⟩
end
theorem row_of {w:World} {v:Value} {L:List RI} (h:RecsOf w v L):∃ (A:Option Addr) (c:Nat),v = .slice A L.length c ∧ Row w A L ∧ (L.length:Int) ≤ 9223372036854775807:=by
 obtain ⟨A,c,rfl,h1,h2,h3⟩:=h
 exact ⟨A,c,rfl,⟨h1,h3⟩,by rw [show reachBytes = 140737488351232 from rfl] at h2;omega⟩
theorem vfills_any (w:World) (v0 v1:Value) (L0 L1:List RI) (hv0:RecsOf w v0 L0) (hv1:RecsOf w v1 L1) (hn:L1.length ≤ 20000000) :
  Calls Tryz.prog 5 #[v0,v1] w fun e w'=>e = .returned (.bool true) ∧ Below w.heap.size w w':=by
 obtain ⟨A0,c0,rfl,hr0,hl0⟩:=row_of hv0
 obtain ⟨A1,c1,rfl,hr1,hl1⟩:=row_of hv1
 obtain ⟨D1,ho1,v1⟩:=fresh_vi (n:=200) (by omega) (by omega)
 have HO:=Lib.hid ho1
 have HV:=Lib.hid v1
 have HR0:=Lib.hid (fun V (hb:Below w.heap.size w V) j (hj:j < L0.length)=>hr0.one hb hj)
 have HR1:=Lib.hid (fun V (hb:Below w.heap.size w V) j (hj:j < L1.length)=>hr1.one hb hj)
 have HRw:=Lib.hid (fun V (hb:Below w.heap.size w V)=>hr1.below hb)
 have HTk:=Lib.hid (fun j (hj:j < L1.length)=>show (L1.map (·.l)).take (j + 1) = (L1.map (·.l)).take j ++ [L1[j].l] by
  rw [List.take_succ_eq_append_getElem (by rw [List.length_map];exact hj),List.getElem_map])
 have HAll:=Lib.hid (show (L1.map (·.l)).take L1.length = L1.map (·.l) from List.take_of_length_le (by rw [List.length_map];exact Nat.le_refl _))
 have HNn:=Lib.hid hn
 clear hv0 hv1 hr0 hr1 ho1 v1 hn
 go_enter Tryz.func5,Tryz.ntmps5
 go_wp2_with fail
 refine (devBase.new 200 w ⟨by omega,by omega⟩).mono ?_
 rintro e w1 (⟨_,_,F1,g,rfl,hr1,hF1,hb1⟩ | ⟨hno,_,_⟩)
 case inr=>exact absurd ⟨by omega,by omega⟩ hno
 have O1:Hid (Ow w w1 F1):=Lib.hid ⟨hF1,hb1⟩
 have H1:Hid (Side Sc.Rep Rd.LRep w1 F1 g (new0 200) none):=Lib.hid hr1
 clear hr1 hF1 hb1
 go_wp2_with fail
 refine (vworks_any w1).mono ?_
 rintro e w2 ⟨rfl,hb2⟩
 have O2:=Lib.hid (O1.out.step hb2)
 have R2:=Lib.hid (vopen_any none (sideKept H1.out (fun k hk=>hb2.block k (sideLt H1.out k hk))))
 clear hb2 O1 H1
 go_wp2_with fail
 refine R2.out.mono ?_
 rintro e w3 hp
 obtain ⟨F3,S3,b,p,gs,rfl,hv3,hf3⟩:=opn_some hp HO.out
 have H3:Hid (∃ (F S:Nat → Prop) (gs:Nat) (D:Dev) (l:Lg) (s:Sh.Shf),VAt w3 F S b g p gs D l s ∧ Vi 200 D l s (1 + 2 * 0) ∧ Ow w w3 (Tt F S b)):=Lib.hid ⟨F3,S3,gs,D1,_,_,hv3,HV.out,O2.out.act hf3⟩
 clear hp hv3 hf3 O2 R2 HV
 go_wp2_with fail
 go_loopw [8] (fun iv wr=>∃ (j:Nat),j ≤ L0.length ∧ j ≤ 12 ∧ iv = .int .i64 (j:Int) ∧ Hid (∃ (F S:Nat → Prop) (gs:Nat) (D:Dev) (l:Lg) (s:Sh.Shf),VAt wr F S b g p gs D l s ∧ Vi 200 D l s (1 + 2 * j) ∧ Ow w wr (Tt F S b))) (fun iv _=>L0.length - (RowKit.intOf iv).toNat)
 case atStart=>exact ⟨0,by omega,by omega,rfl,H3⟩
 case round =>
  obtain ⟨j,hj,hj12,rfl,hH⟩:=hrel
  clear H3
  by_cases hlt:j < L0.length ∧ j < 12
  ·obtain ⟨F,S,gs,D,l,s,hv,hvi,how⟩:=hH.out
   have pj:(j:Int) < (L0.length:Int):=by omega
   have pj2:(j:Int) < 12:=by omega
   obtain ⟨ad,rfl,hc2,hval⟩:=HR0.out _ how.bel j hlt.1
   generalize L0[j] = x at hc2 hval
   obtain ⟨r,B0,C0,d0,d1⟩:=x
   simp only at hval
   have x0:=hc2 0 _ rfl
   have x1:=hc2 1 _ rfl
   have x2:=hc2 2 _ rfl
   have x3:=hc2 3 _ rfl
   have x4:=hc2 4 _ rfl
   have x5:=hc2 5 _ rfl
   have x6:=hc2 6 _ rfl
   have x7:=hc2 7 _ rfl
   have x8:=hc2 8 _ rfl
   rw [← Lt.add_field _ _ _ (by omega)] at x1 x2 x3 x4 x5 x6 x7 x8
   rw [Nat.add_zero] at x0
   have hd:=vdo_any hv hvi.w.lg hvi.w.id.2 (by have:=hvi.w.cnt;omega) ⟨r,B0,C0,d0,d1⟩ hval
   simp only [rcs] at hd
   have HD:=Lib.hid hd
   have HOw:=Lib.hid how
   have HVi:=Lib.hid ((do_vi hvi hv.ok (by omega) r).more (M:=1 + 2 * (j + 1)) (by omega))
   clear hd hv hvi how hval hc2 hH hlt
   go_wp2_with fail
   refine HD.out.mono ?_
   rintro e4 w4 ⟨rfl,F',S',gs',hv',hf'⟩
   have H4:Hid (∃ (F S:Nat → Prop) (gs:Nat) (D:Dev) (l:Lg) (s:Sh.Shf),VAt w4 F S b g p gs D l s ∧ Vi 200 D l s (1 + 2 * (j + 1)) ∧ Ow w w4 (Tt F S b)):=Lib.hid ⟨F',S',gs',_,_,_,hv',HVi.out,HOw.out.act hf'⟩
   clear hv' hf' HD HOw HVi x0 x1 x2 x3 x4 x5 x6 x7 x8
   go_wp2_with fail
   go_roundw
   case rel=>exact ⟨j + 1,by omega,by omega,by go_num,H4⟩
   case measure=>simp [RowKit.intOf];omega
  ·have hor:j = L0.length ∨ (j = 12 ∧ 12 < L0.length):=by omega
   have H5:Hid (∃ (F S:Nat → Prop) (gs:Nat) (D:Dev) (l:Lg) (s:Sh.Shf),VAt wr F S b g p gs D l s ∧ Vi 200 D l s 25 ∧ Ow w wr (Tt F S b)):=Lib.hid (by
    obtain ⟨F,S,gs,D,l,s,hv,hvi,how⟩:=hH.out
    exact ⟨F,S,gs,D,l,s,hv,hvi.more (by omega),how⟩)
   clear hH hlt
   rcases hor with rfl | ⟨rfl,h12⟩
   case' inr=>have p12:(12:Int) < (L0.length:Int):=by omega
   all_goals
    obtain ⟨F,S,gs,D,l,s,hv,hvi,how⟩:=H5.out
    clear H5
    have HVi:=Lib.hid hvi
    have HAt:=Lib.hid hv
    have HOw:=Lib.hid how
    have HS:=Lib.hid (vshelf_any hv)
    clear hv hvi how
    go_wp2_with fail
    refine HS.out.mono ?_
    rintro e6 w6 ⟨g6,G6,rfl,h6,hn6,hb6⟩
    have HA6:=Lib.hid (HAt.out.below hb6)
    have HO6:=Lib.hid (HOw.out.step hb6)
    have HS6:Hid (Sk w6 (Tt F S b) G6 g6 s):=Lib.hid ⟨h6,HAt.out.ok,fun k hk ht=>by have h1:=hn6 k hk;have h2:=HAt.out.lt k ht;omega⟩
    clear h6 hn6 hb6 HAt HOw HS
    go_wp2_with fail
    refine (Sh.lnew_any w6).mono ?_
    rintro e7 w7 ⟨g7,G7,rfl,h7,hn7,hb7⟩
    have HL7:Hid (Sh.Live w6 w7 g7 G7 Sh.empty):=Lib.hid ⟨h7,Sh.ok_empty,hn7,hb7⟩
    clear h7 hn7 hb7
    go_wp2_with fail
    go_loopw [11,12] (fun gv iv wr=>∃ (j:Nat) (B:Bool) (G:Nat → Prop) (s3:Sh.Shf),j ≤ L1.length ∧ gv = .bool B ∧ iv = .int .i64 (j:Int) ∧ Hid (Sh.Live w6 wr g7 G s3) ∧ Hid (B = true ↔ (goE ((L1.map (·.l)).take j) Sh.empty).2 = 0) ∧ Hid ((goE ((L1.map (·.l)).take j) Sh.empty).2 = 0 → s3 = (goE ((L1.map (·.l)).take j) Sh.empty).1)) (fun _ iv _=>L1.length - (RowKit.intOf iv).toNat)
    case atStart=>exact ⟨0,true,G7,Sh.empty,by omega,rfl,rfl,HL7,Lib.hid ⟨fun _=>rfl,fun _=>rfl⟩,Lib.hid (fun _=>rfl)⟩
    case round =>
     obtain ⟨j,B,G3,s3,hj,rfl,rfl,hL,hB,hG⟩:=hrel
     clear HL7
     by_cases hlt:j < L1.length
     ·have pj:(j:Int) < (L1.length:Int):=by omega
      obtain ⟨ad,rfl,hc2,hval⟩:=HR1.out _ (HO6.out.bel.trans (hL.out.bel.mono HO6.out.bel.size)) j hlt
      have HTj:=Lib.hid (HTk.out j hlt)
      generalize L1[j] = x at hc2 hval HTj
      obtain ⟨r,B0,C0,d0,d1⟩:=x
      simp only at hval HTj
      have x0:=hc2 0 _ rfl
      have x1:=hc2 1 _ rfl
      have x2:=hc2 2 _ rfl
      have x3:=hc2 3 _ rfl
      have x4:=hc2 4 _ rfl
      have x5:=hc2 5 _ rfl
      have x6:=hc2 6 _ rfl
      have x7:=hc2 7 _ rfl
      have x8:=hc2 8 _ rfl
      rw [← Lt.add_field _ _ _ (by omega)] at x1 x2 x3 x4 x5 x6 x7 x8
      rw [Nat.add_zero] at x0
      have hap:=hL.out.rep.apply_c hL.out.ok ⟨r,B0,C0,d0,d1⟩ hval
      simp only [rcs] at hap
      have HAp:=Lib.hid hap
      clear hap hval hc2
      cases B with
      | true =>
       have HSn:=Lib.hid (show goE ((L1.map (·.l)).take (j + 1)) Sh.empty = if (Sh.applyP s3 r).2 = 0 then ((Sh.applyP s3 r).1,0) else (s3,(Sh.applyP s3 r).2) by
        have h0:=hB.out.1 rfl
        rw [HTj.out]
        exact goE_snoc r (Prod.ext (hG.out h0).symm h0))
       clear hB hG HTj
       go_wp2_with fail
       refine HAp.out.mono ?_
       rintro e8 w8 ⟨rfl,hl,hf⟩
       have HL8:=Lib.hid (hL.out.step hl (Sh.apply_ok hL.out.ok _) hf)
       clear hl hf HAp x0 x1 x2 x3 x4 x5 x6 x7 x8 hL
       obtain ⟨n,er,her⟩:∃ n er,Sh.applyP s3 r = (n,er):=⟨_,_,rfl⟩
       rw [her] at HL8 HSn ⊢
       simp only at HL8 HSn ⊢
       by_cases h0:er = 0
       ·subst h0
        have HSn2:=Lib.hid (show goE ((L1.map (·.l)).take (j + 1)) Sh.empty = (n,0) by rw [HSn.out,if_pos rfl])
        clear HSn her
        go_wp2_with fail
        go_roundw
        case rel=>exact ⟨j + 1,true,_,_,by omega,rfl,by go_num,HL8,Lib.hid ⟨fun _=>by rw [HSn2.out],fun _=>rfl⟩,Lib.hid (fun _=>by rw [HSn2.out])⟩
        case measure=>simp [RowKit.intOf];omega
       ·have z:(er == 0) = false:=by simpa using h0
        have HSn2:=Lib.hid (show (goE ((L1.map (·.l)).take (j + 1)) Sh.empty).2 ≠ 0 by rw [HSn.out,if_neg h0];exact h0)
        clear HSn her h0
        go_wp2_with fail
        go_roundw
        case rel=>exact ⟨j + 1,false,_,_,by omega,rfl,by go_num,HL8,Lib.hid ⟨fun h=>(by cases h),fun h=>absurd h HSn2.out⟩,Lib.hid (fun h=>absurd h HSn2.out)⟩
        case measure=>simp [RowKit.intOf];omega
      | false =>
       have HSn2:=Lib.hid (show (goE ((L1.map (·.l)).take (j + 1)) Sh.empty).2 ≠ 0 by
        have h0:¬ (goE ((L1.map (·.l)).take j) Sh.empty).2 = 0:=fun h=>by cases hB.out.2 h
        rw [HTj.out,goE_app,if_neg h0]
        exact h0)
       clear hB hG HTj HAp x0 x1 x2 x3 x4 x5 x6 x7 x8
       go_wp2_with fail
       go_roundw
       case rel=>exact ⟨j + 1,false,_,_,by omega,rfl,by go_num,hL,Lib.hid ⟨fun h=>(by cases h),fun h=>absurd h HSn2.out⟩,Lib.hid (fun h=>absurd h HSn2.out)⟩
       case measure=>simp [RowKit.intOf];omega
     ·obtain rfl:j = L1.length:=by omega
      have HB:=Lib.hid (show B = true ↔ (goE (L1.map (·.l)) Sh.empty).2 = 0 by have:=hB.out;rw [HAll.out] at this;exact this)
      have HG:=Lib.hid (show (goE (L1.map (·.l)) Sh.empty).2 = 0 → s3 = (goE (L1.map (·.l)) Sh.empty).1 by have:=hG.out;rw [HAll.out] at this;exact this)
      have HSw:Hid (Sk wr (Tt F S b) G3 g7 s3):=Lib.hid ⟨hL.out.rep,hL.out.ok,fun k hk ht=>by have h1:=hL.out.new k hk;have h2:=HA6.out.lt k ht;omega⟩
      have HSb:=Lib.hid (HS6.out.step hL.out.bel)
      have HO8:=Lib.hid (HO6.out.step hL.out.bel)
      have hF:=vfill_any (HA6.out.below hL.out.bel) HVi.out.w.lg HVi.out.w.id.2 A1 c1 L1 (HRw.out _ HO8.out.bel) HNn.out
      have HF:=Lib.hid hF
      have HFv:=Lib.hid (fill_vi HVi.out (by omega) (L1.map (·.l)))
      clear hB hG hL hF HA6 HO6 HS6 HVi HTk HAll HR0 HR1 HRw HNn
      go_wp2_with fail
      refine HF.out.mono ?_
      rintro e9 w9 ⟨rfl,F9,S9,gs9,hv9,hf9⟩
      have HA9:=Lib.hid hv9
      have HO9:=Lib.hid (HO8.out.act hf9)
      have HSw9:=Lib.hid (HSw.out.act hf9)
      have HSb9:=Lib.hid (HSb.out.act hf9)
      clear hv9 hf9 HF HSw HSb HO8
      generalize fillV D l s (L1.map (·.l)) = R9 at HA9 HFv ⊢
      obtain ⟨D9,l9,s9,er⟩:=R9
      simp only at HA9 HFv ⊢
      generalize goE (L1.map (·.l)) Sh.empty = R at HB HG HFv
      obtain ⟨hv9,hcase⟩:=HFv.out
      have HV9:=Lib.hid hv9
      clear hv9 HFv
      rcases hcase with ⟨h0,⟨rfl,rfl⟩ | ⟨rfl | rfl,rfl⟩⟩ | ⟨h0,h1,rfl⟩
      case' inl.inl =>
       obtain rfl:=HB.out.2 h0
       have HX:Hid (Sk w9 (Tt F9 S9 b) G3 g7 R.1):=Lib.hid (by have:=HG.out h0;rw [← this];exact HSw9.out)
      case' inl.inr.inl =>
       obtain rfl:=HB.out.2 h0
       have HX:=HSb9
      case' inl.inr.inr =>
       obtain rfl:=HB.out.2 h0
       have HX:=HSb9
      case' inr =>
       obtain rfl:B = false:=by
        cases B with
        | true=>exact absurd (HB.out.1 rfl) h0
        | false=>rfl
       have HX:=HSb9
       have z1:(er != 0) = true:=by rw [h1];simpa using h0
       have z2:(er == 0) = false:=by rw [h1];simpa using h0
       clear h1
      all_goals
       clear h0 HB HG HSw9 HSb9
       have HS9:=Lib.hid (vshelf_any HA9.out)
       go_wp2_with fail
       refine HS9.out.mono ?_
       rintro e10 w10 ⟨g10,G10,rfl,h10,-,hb10⟩
       have HA10:=Lib.hid (HA9.out.below hb10)
       have HO10:=Lib.hid (HO9.out.step hb10)
       have HX10:=Lib.hid (HX.out.step hb10)
       have HSm:=Lib.hid (sameShelf_any h10 HX10.out.rep HX10.out.ok)
       clear h10 hb10 HS9 HA9 HO9 HX
       go_wp2_with fail
       refine HSm.out.mono ?_
       rintro e11 w11 ⟨rfl,hb11⟩
       have HO11:=Lib.hid ((HO10.out.step hb11).less (Q:=F9) (fun k hk=>.inl hk))
       have HX11:=Lib.hid ((HX10.out.step hb11).less (Q:=F9) (fun k hk=>.inl hk))
       have HC:=Lib.hid (Side.crash (devF_of devBase) (HA10.out.below hb11).sd none 0 [] (fun h=>absurd h (by simp)) (fun h=>absurd h (by simp)) (by decide) (fun x hx=>by cases hx))
       clear hb11 HA10 HO10 HX10 HSm
       go_wp2_with fail
       refine HC.out.mono ?_
       rintro e12 w12 ⟨rfl,F12,hs12,hf12⟩
       have HO12:=Lib.hid (HO11.out.act hf12)
       have HX12:=Lib.hid (HX11.out.act hf12)
       have HOp:=Lib.hid (vopen_any none hs12)
       obtain ⟨l12,ho12⟩:=crash_vi HV9.out (by omega) []
       have HO12v:=Lib.hid ho12
       clear hs12 hf12 ho12 HO11 HX11 HC HV9
       go_wp2_with fail
       refine HOp.out.mono ?_
       rintro e13 w13 hp
       obtain ⟨F13,S13,b13,p13,gs13,rfl,hv13,hf13⟩:=opn_some hp HO12v.out
       have HO13:=Lib.hid (HO12.out.act hf13)
       have HX13:=Lib.hid (HX12.out.act hf13)
       have HS13:=Lib.hid (vshelf_any hv13)
       clear hp hv13 hf13 HO12 HX12 HOp HO12v
       go_wp2_with fail
       refine HS13.out.mono ?_
       rintro e14 w14 ⟨g14,G14,rfl,h14,-,hb14⟩
       have HO14:=Lib.hid (HO13.out.step hb14)
       have HX14:=Lib.hid (HX13.out.step hb14)
       have HSm:=Lib.hid (sameShelf_any h14 HX14.out.rep HX14.out.ok)
       clear h14 hb14 HS13 HO13 HX13 HX14
       go_wp2_with fail
       refine HSm.out.mono ?_
       rintro e15 w15 ⟨rfl,hb15⟩
       have HB15:=Lib.hid (HO14.out.bel.trans (hb15.mono HO14.out.bel.size))
       clear hb15 HSm HO14
       go_wp2_with fail
       go_ret
       exact ⟨rfl,HB15.out⟩
end Vt
end Go.Proofs.YtbkanoblcojdfaaGreat
namespace Go.Proofs.YtbkanoblcojdfaaGreat
namespace Vt
open Go.ChangeShapes Go.WideShapes Go.ChangeAt Go.RowKit Go.Joins Go.Deep Tr
section
variable {H:Type} {enc:TypeId × Value → H} {W:World}
theorem bulk_pos (d:DataW H):1 ≤ Rows.uptoBulk d:=by
 unfold Rows.uptoBulk
 split <;> omega
theorem bulk_many:∀ (l:List (DataW H)),l.length ≤ Rows.uptoBulkAll l
 | []=>Nat.zero_le _
 | d :: r=>by
  have h1:=bulk_pos d
  have h2:=bulk_many r
  simp only [Rows.uptoBulkAll,List.length_cons]
  omega
theorem few_of {v:Value} {d:DataW H} {p:List MemPlace} {L:List RI} {n:Nat} (hv:RecsOf W v L) (h:DataW.Trod enc Tryz.prog W 0 (fun _=>true) true 22 v d p) (hn:Rows.uptoBulk d ≤ n):L.length ≤ n:=by
 obtain ⟨fuel,hf⟩:=h
 obtain ⟨A,c,rfl,-⟩:=hv
 rcases open_slice Tryz.underlying22 hf with ⟨hcs,_⟩ | ⟨a,len,cap,m,k,D,Pl,hcs,_,hl',hm,hmm,hx,hall⟩
 ·have h2:Value.slice A L.length c = .slice none 0 0:=(List.cons.inj (show [Value.slice A L.length c] = [.slice none 0 0] from hcs)).1
  injection h2 with _ h3 _
  omega
 ·have h2:Value.slice A L.length c = .slice (some a) len cap:=(List.cons.inj (show [Value.slice A L.length c] = [.slice (some a) len cap] from hcs)).1
  injection h2 with _ h3 _
  have h4:d = .slice ((List.range len).map D) ((List.range (m - len)).map fun j=>D (len + j)):=by
   have:=congrArg Prod.fst hx
   simpa using this
  rw [h4] at hn
  simp only [Rows.uptoBulk] at hn
  have h5:=bulk_many ((List.range len).map D)
  rw [List.length_map,List.length_range] at h5
  omega
end
end Vt
end Go.Proofs.YtbkanoblcojdfaaGreat
