/- Parts of the proof, joined: RlPut, RlStart, BkBuild, BkLen, RlBytes, SuLaw, SuDone3, SuDone4; their conditions stand with each. -/
import Derived.Shelf.Strings.BuilderK
import Derived.Test.YtlfkhlfkckfbpaaGreatRows
import Derived.WalkKit
import Derived.Test.YtlfkhlfkckfbpaaGreatC0
import Derived.Test.YtlfkhlfkckfbpaaGreatC4
import Derived.Test.YtlfkhlfkckfbpaaGreatC9
import Derived.Test.YtlfkhlfkckfbpaaGreatC11
import Derived.Test.YtlfkhlfkckfbpaaGreatC12

set_option maxRecDepth 20000
set_option maxHeartbeats 8000000
namespace Go.Proofs.YtlfkhlfkckfbpaaGreat
namespace Rd
open Go.RowKit Sc Bk
attribute [local go_sem ↓] Go.wp_at_zero Go.wp_at_succ
attribute [local go_sem] floatUpon pick
def putP (D:Dev) (c a n:Nat):Dev × Int:=andD (wrD D ((c % 2:Nat):Int) (headB c a n)) flD
section
variable {Rep:RepT} {w:World} {F:Nat → Prop} {p g c0 a0 n0 c a n m mn:Nat} {A B:Value} {l:Lg} {D:Dev}
theorem setL_cel {W:World} {R:Nat} {t:TypeId} {u0 u1 u2 u3 u4 u5 u6 v0 v1 v2:Value} (h:Cel W R t [u0,u1,u2,u3,u4,u5,u6]):Cel (setL W R v0 v1 v2) R t [u0,v0,v1,v2,u4,u5,u6]:=((h.set (i:=1) (v:=v0)).set (i:=2) (v:=v1)).set (i:=3) (v:=v2)
theorem putHead_any (HRt:RepTxt) (HB:DevBase Rep) (H:DevQ Rep) (hr:Rep w F g D) (hc:LC w p g c0 a0 n0 A mn B) (hpF:¬ F p) (hcc:c ≤ 4611686018427388001) (ha:a ≤ 1) (hn:n ≤ 9223372036854775807) :
  Calls Tryz.prog 79 #[.pointer (some ⟨p,0,none⟩),hdV c a n] w (PutPost Rep w F p g c0 a0 n0 A mn B c a n (putP D c a n)):=by
 have hal:=alloc3 w (.int .i64 (c:Int)) (.int .i64 (a:Int)) (.int .i64 (n:Int)) 115
 have hFl:=H.lt hr
 have hSec:=fun V=>sec_any HRt c a n V (by omega) ha hn
 unfold hdV at hSec
 have HSec:=Lib.hid hSec
 obtain ⟨rm,hrm⟩:∃ rm,rm = c % 2:=⟨_,rfl⟩
 have v1:(c:Int).tmod 2 = (rm:Int):=by rw [Int.tmod_eq_emod_of_nonneg (by omega),hrm];omega
 have v2:(c:Int) % 2 = (rm:Int):=by rw [hrm];omega
 have HP:=Lib.hid (show putP D c a n = andD (wrD D (rm:Int) (headB c a n)) flD from by unfold putP;rw [hrm])
 have hpl:=hc.lt
 have hr1:=H.step hr hal.1
 have hc1:=Cel.below hc hal.1
 generalize hPst:PutPost Rep w F p g c0 a0 n0 A mn B c a n (putP D c a n) = Pst
 have HPst:=Lib.hid hPst
 have hhs:=headB_size c a n
 clear hPst hSec hrm hr hc
 generalize headB c a n = hdB at HSec HP hhs
 unfold hdV
 go_enter Tryz.func79,Tryz.ntmps79
 go_upto_region 1 with fail
 have hFb:∀ W':World,True:=fun _=>trivial
 have HB1:=Lib.hid hal.1
 have HX1:=Lib.hid hal.2
 have HR1:=Lib.hid hr1
 have HC1:=Lib.hid hc1
 clear hal hr1 hc1 hFb
 generalize w.alloc (.cells #[.int .i64 (c:Int),.int .i64 (a:Int),.int .i64 (n:Int)] 115) = W1 at *
 have hkF:¬ F w.heap.size:=fun hf=>by have:=hFl _ hf;omega
 generalize hk:w.heap.size = k at HX1 hkF ⊢
 clear hFl
 refine wp_region_said 9 [7,8,9,10,11,12,13,14,15]
  [.is (.pointer (some ⟨p,0,none⟩)),.is (.pointer (some ⟨p,0,none⟩)),.is (.pointer (some ⟨p,0,none⟩)),.is (.pointer (some ⟨g,0,none⟩)),.is (.pointer (some ⟨k,0,none⟩)),.is (.int .i64 (c:Int)),.is (.int .i64 (rm:Int)),.is (.agg #[.int .i64 (c:Int),.int .i64 (a:Int),.int .i64 (n:Int)]),.is (.string hdB)]
  (fun W=>Rep W F g D ∧ LC W p g c0 a0 n0 A mn B ∧ Cel W k 115 [.int .i64 (c:Int),.int .i64 (a:Int),.int .i64 (n:Int)]) (by kernel_rfl) (by kernel_rfl) (by kernel_rfl) (by kernel_rfl) (by kernel_rfl) (fun W W' h hb=>⟨H.step h.1 hb,Cel.below h.2.1 hb,h.2.2.below hb⟩) ⟨HR1.out,HC1.out,HX1.out⟩ ?steps ?last
 case steps =>
  simp only [List.take_succ_cons,List.take_zero]
  refine ⟨?_,?_,?_,?_,?_,?_,?_,?_,?_,trivial⟩
  all_goals
   intro vs W ρ hρ hc hf hg hI hH hd R' hR
   have y0:=hI.2.1.cell (i:=0) rfl
   have z0:=hI.2.2.cell (i:=0) rfl
   have z1:=hI.2.2.cell (i:=1) rfl
   have z2:=hI.2.2.cell (i:=2) rfl
   have HR:=Lib.hid hR
   simp [depsOf,Region.binds,sayAt,Say.holds] at hd
   clear hR hI
   go_simp
   first
    | exact HR.out _ _ (by simp [sayAt,Say.holds]) (Below.refl _ _) (by simp [sayAt,Say.isBlk])
    | (refine (HSec.out _).mono ?_;rintro e w' ⟨rfl,hb⟩;exact ⟨_,rfl,HR.out _ _ (by simp [sayAt,Say.holds]) hb (by simp [sayAt,Say.isBlk])⟩)
    | trace_state
 case last =>
  intro vs W hI hb hg hd
  have e3:=hg 3 (by omega)
  have e6:=hg 6 (by omega)
  have e8:=hg 8 (by omega)
  simp only [sayAt,Say.holds,List.getD_cons_succ,List.getD_cons_zero] at e3 e6 e8
  simp only [List.take_succ_cons,List.take_zero,List.drop_succ_cons,List.drop_zero,putAll,Act.put,List.setIfInBounds_toArray,List.set_cons_succ,List.set_cons_zero,Nat.zero_add,Nat.reduceAdd]
  rw [e3,e6,e8]
  have hwr:=HB.write (rm:Int) hdB W hI.1 ⟨by omega,by omega⟩ (by rw [hhs];unfold reachBytes;omega)
  have HI:=Lib.hid hI
  have hBW:Below w.heap.size w W:=HB1.out.trans (hb.mono HB1.out.size)
  have HBW:=Lib.hid hBW
  generalize wrD D (rm:Int) hdB = rr at hwr HP
  obtain ⟨D3,e3'⟩:=rr
  have HWr:=Lib.hid hwr
  clear e3 e6 e8 hg hd hb hI hwr hBW
  go_wp2_with fail
  refine HWr.out.mono ?_
  rintro e w7 ⟨rfl,F1,hr7,hf7⟩
  have hC7:=cel_fr HI.out.2.1 hf7 hpF
  have hX7:=cel_fr HI.out.2.2 hf7 hkF
  have hp7:=foot_not hf7 hpF HI.out.2.1.lt
  have hk7:=foot_not hf7 hkF HI.out.2.2.lt
  have HF7:=Lib.hid (below_fr HBW.out hf7)
  have HR7:=Lib.hid hr7
  have HC7:=Lib.hid hC7
  have HX7:=Lib.hid hX7
  have y0:=hC7.cell (i:=0) rfl
  clear hr7 hf7 hC7 hX7 HWr HI HBW
  by_cases h0:e3' = 0
  rotate_left
  ·have hne:(e3' != 0) = true:=by simpa using h0
   go_wp2_with fail
   rw [← HPst.out,HP.out,and_stop h0]
   exact ⟨rfl,F1,HR7.out,hp7,fun h=>absurd h h0,fun _=>HC7.out,fr_p HF7.out⟩
  subst h0
  have hfl:=HB.flush w7 HR7.out
  generalize hfd:flD D3 = r2 at hfl
  obtain ⟨D4,e4⟩:=r2
  have HFd:=Lib.hid hfd
  have HFl:=Lib.hid hfl
  clear hfl hfd
  go_wp2_with fail
  refine HFl.out.mono ?_
  rintro e w8 ⟨rfl,F2,hr8,hf8⟩
  have hC8:=cel_fr HC7.out hf8 hp7
  have hX8:=cel_fr HX7.out hf8 hk7
  have hp8:=foot_not hf8 hp7 HC7.out.lt
  have HF8:=Lib.hid (HF7.out.trans hf8)
  have HR8:=Lib.hid hr8
  have HC8:=Lib.hid hC8
  have HX8:=Lib.hid hX8
  clear hr8 hf8 hC8 hX8 HFl HC7 HX7 HF7 HR7 y0
  by_cases h0:e4 = 0
  rotate_left
  ·have hne:(e4 != 0) = true:=by simpa using h0
   go_wp2_with fail
   rw [← HPst.out,HP.out,and_go rfl,HFd.out]
   exact ⟨rfl,F2,HR8.out,hp8,fun h=>absurd h h0,fun _=>HC8.out,fr_p HF8.out⟩
  subst h0
  have y0:=HX8.out.cell (i:=0) rfl
  have y1:=HX8.out.cell (i:=1) rfl
  have y2:=HX8.out.cell (i:=2) rfl
  have zq:=fun i=>HC8.out.free (i:=i)
  have z1:=HC8.out.cell (i:=1) rfl
  have z2:=HC8.out.cell (i:=2) rfl
  have z3:=HC8.out.cell (i:=3) rfl
  go_wp2_with fail
  rw [← HPst.out,HP.out,and_go rfl,HFd.out]
  have hfr:=setL_fr (R:=p) (v0:=.int .i64 (c:Int)) (v1:=.int .i64 (a:Int)) (v2:=.int .i64 (n:Int)) (fr_p (p:=p) HF8.out) (.inr rfl)
  refine ⟨rfl,F2,H.kept HR8.out fun j hj=>setL_other (fun e=>hp8 (e ▸ hj)),hp8,fun _=>setL_cel HC8.out,fun h=>absurd rfl h,hfr⟩
end
def startP (D:Dev):(Dev × Int) × (Nat × Nat × Nat) :=
 if D.down = true then ((D,90),(0,0,0)) else if (nwP D).1 = 0 then (putP D 1 0 0,(1,0,0)) else ((D,0),nwP D)
section
variable {Rep:RepT} {w:World} {F:Nat → Prop} {p g c0 a0 n0 c a n m mn:Nat} {A B:Value} {l:Lg} {D:Dev}
theorem fr_refl_below {G:Nat → Prop} {w W:World} (h:Below w.heap.size w W):Fr G G w W:=(Fr.refl G w).below h
theorem start_any (HRt:RepTxt) (HB:DevBase Rep) (H:DevQ Rep) (hr:Rep w F g D) (hc:LC w p g c0 a0 n0 A mn B) (hpF:¬ F p) (h4:4 ≤ D.on.length) :
  Calls Tryz.prog 49 #[.pointer (some ⟨p,0,none⟩)] w (PutPost Rep w F p g c0 a0 n0 A mn B (startP D).2.1 (startP D).2.2.1 (startP D).2.2.2 (startP D).1):=by
 have hFl:=H.lt hr
 by_cases hu:D.down = true
 ·have HN:=Lib.hid (newest_down H hr hc hu)
  have HS:=Lib.hid (show startP D = ((D,90),(0,0,0)) from by unfold startP;rw [if_pos hu])
  have HR0:=Lib.hid hr
  have HC0:=Lib.hid hc
  clear hr hc
  generalize hPst:PutPost Rep w F p g c0 a0 n0 A mn B (startP D).2.1 (startP D).2.2.1 (startP D).2.2.2 (startP D).1 = Pst
  have HPst:=Lib.hid hPst
  clear hPst
  unfold hdV at HN
  go_enter Tryz.func49,Tryz.ntmps49
  go_wp2_with fail
  refine HN.out.mono ?_
  rintro e w2 ⟨rfl,hb⟩
  have hal2:=alloc3 w2 (.int .i64 0) (.int .i64 0) (.int .i64 0) 115
  have HB2:=Lib.hid (hb.trans (hal2.1.mono hb.size))
  clear hb hal2
  go_wp2_with fail
  rw [← HPst.out,HS.out]
  exact ⟨rfl,F,H.step HR0.out HB2.out,hpF,fun h=>absurd h (show ¬ ((90:Int) = 0) by decide),fun _=>Cel.below HC0.out HB2.out,fr_refl_below HB2.out⟩
 ·have hu2:D.down = false:=by simpa using hu
  have HN:=Lib.hid (newest_up HRt H hr hc h4 hu2)
  have HR0:=Lib.hid hr
  have HC0:=Lib.hid hc
  by_cases hz:(nwP D).1 = 0
  ·have HS:=Lib.hid (show startP D = (putP D 1 0 0,(1,0,0)) from by unfold startP;rw [if_neg hu,if_pos hz])
   have HPut:=Lib.hid (fun W (h:Below w.heap.size w W)=>show Calls Tryz.prog 79 #[.pointer (some ⟨p,0,none⟩),.agg #[.int .i64 1,.int .i64 0,.int .i64 0]] W (PutPost Rep W F p g c0 a0 n0 A mn B 1 0 0 (putP D 1 0 0)) from putHead_any (c:=1) (a:=0) (n:=0) HRt HB H (H.step hr h) (Cel.below hc h) hpF (by omega) (by omega) (by omega))
   generalize hPst:PutPost Rep w F p g c0 a0 n0 A mn B (startP D).2.1 (startP D).2.2.1 (startP D).2.2.2 (startP D).1 = Pst
   have HPst:=Lib.hid hPst
   clear hPst hr hc
   unfold hdW hdV at HN
   generalize nwP D = q at HN hz
   obtain ⟨x0,x1,x2⟩:=q
   simp only at hz HN
   subst hz
   go_enter Tryz.func49,Tryz.ntmps49
   go_wp2_with fail
   refine HN.out.mono ?_
   rintro e w2 ⟨rfl,hb⟩
   have hal2:=alloc3 w2 (.int .i64 0) (.int .i64 (x1:Int)) (.int .i64 (x2:Int)) 115
   have HB2:=Lib.hid (hb.trans (hal2.1.mono hb.size))
   have HX2:=Lib.hid hal2.2
   clear hb hal2 HN
   go_upto_region 2 with fail
   generalize w2.alloc _ = w3 at HB2 HX2 ⊢
   generalize w2.heap.size = k at HX2 ⊢
   have y0:=HX2.out.cell (i:=0) rfl
   go_wp2_with fail
   refine (HPut.out _ HB2.out).mono ?_
   intro e w5 hp
   obtain ⟨rfl,F',h1,h2,h3,h5,h6⟩:=hp
   have HE:=Lib.hid (And.intro h1 (And.intro h2 (And.intro h3 (And.intro h5 h6))))
   clear h1 h2 h3 h5 h6
   go_wp2_with fail
   rw [← HPst.out,HS.out]
   obtain ⟨h1,h2,h3,h5,h6⟩:=HE.out
   exact ⟨rfl,F',h1,h2,h3,h5,below_fr HB2.out h6⟩
  ·have HS:=Lib.hid (show startP D = ((D,0),nwP D) from by unfold startP;rw [if_neg hu,if_neg hz])
   generalize hPst:PutPost Rep w F p g c0 a0 n0 A mn B (startP D).2.1 (startP D).2.2.1 (startP D).2.2.2 (startP D).1 = Pst
   have HPst:=Lib.hid hPst
   clear hPst hr hc
   unfold hdW hdV at HN
   generalize nwP D = q at HN hz HS
   obtain ⟨x0,x1,x2⟩:=q
   simp only at hz HN
   have hne:¬ ((x0:Int) = 0):=by omega
   have hne2:((x0:Int) == 0) = false:=by simpa using hz
   clear hz
   go_enter Tryz.func49,Tryz.ntmps49
   go_wp2_with fail
   refine HN.out.mono ?_
   rintro e w2 ⟨rfl,hb⟩
   have hal2:=alloc3 w2 (.int .i64 (x0:Int)) (.int .i64 (x1:Int)) (.int .i64 (x2:Int)) 115
   have HB2:=Lib.hid (hb.trans (hal2.1.mono hb.size))
   have HX2:=Lib.hid hal2.2
   clear hb hal2 HN
   go_upto_region 2 with fail
   generalize w2.alloc _ = w3 at HB2 HX2 ⊢
   generalize w2.heap.size = k at HX2 ⊢
   have HC3:=Lib.hid (Cel.below HC0.out HB2.out)
   have y0:=HX2.out.cell (i:=0) rfl
   have y1:=HX2.out.cell (i:=1) rfl
   have y2:=HX2.out.cell (i:=2) rfl
   have zq:=fun i=>HC3.out.free (i:=i)
   have z1:=HC3.out.cell (i:=1) rfl
   have z2:=HC3.out.cell (i:=2) rfl
   have z3:=HC3.out.cell (i:=3) rfl
   go_wp2_with fail
   rw [← HPst.out,HS.out]
   have hr3:=H.step HR0.out HB2.out
   exact ⟨rfl,F,H.kept hr3 fun j hj=>setL_other (fun e=>hpF (e ▸ hj)),hpF,fun _=>setL_cel HC3.out,fun h=>absurd rfl h,setL_fr (fr_refl_below HB2.out) (.inr rfl)⟩
theorem hds_nw (D:Dev):hdsP D 2 = if (nwP D).1 = 0 then none else some (nwP D):=by
 have h0:hdsP D 1 = if okH (areaN D) (flushF D 0).data.toList then some (hd1 D 0) else none:=by
  unfold hdsP hd1
  by_cases h:okH (areaN D) (flushF D 0).data.toList
  ·rw [if_pos ⟨h,fun h e=>by cases e⟩,if_pos h,if_pos h]
  ·rw [if_neg (fun e=>h e.1),if_neg h];rfl
 have e2:hdsP D 2 = if okH (areaN D) (flushF D 1).data.toList ∧ (∀ h,hdsP D 1 = some h → h.1 < cOf (flushF D 1).data.toList) then some (cOf (flushF D 1).data.toList,aOf (flushF D 1).data.toList,lOf (flushF D 1).data.toList) else hdsP D 1:=rfl
 rw [e2,h0]
 unfold nwP
 by_cases k0:okH (areaN D) (flushF D 0).data.toList
 ·have p0:hd1 D 0 = (cOf (flushF D 0).data.toList,aOf (flushF D 0).data.toList,lOf (flushF D 0).data.toList):=by unfold hd1;rw [if_pos k0]
  have q0:=k0.1
  rw [if_pos k0]
  by_cases k1:okH (areaN D) (flushF D 1).data.toList
  ·have p1:hd1 D 1 = (cOf (flushF D 1).data.toList,aOf (flushF D 1).data.toList,lOf (flushF D 1).data.toList):=by unfold hd1;rw [if_pos k1]
   have q1:=k1.1
   rw [p0,p1]
   by_cases hlt:cOf (flushF D 0).data.toList < cOf (flushF D 1).data.toList
   ·rw [if_pos ⟨k1,fun h e=>by rw [← Option.some.inj e];exact hlt⟩,if_pos hlt,if_neg (by show ¬ cOf (flushF D 1).data.toList = 0;omega)]
   ·rw [if_neg (fun e=>hlt (e.2 _ rfl)),if_neg hlt,if_neg (by show ¬ cOf (flushF D 0).data.toList = 0;omega)]
  ·have p1:hd1 D 1 = (0,0,0):=by unfold hd1;rw [if_neg k1]
   rw [p1,if_neg (fun e=>k1 e.1),p0,if_neg (show ¬ cOf (flushF D 0).data.toList < 0 by omega),if_neg (by show ¬ cOf (flushF D 0).data.toList = 0;omega)]
 ·have p0:hd1 D 0 = (0,0,0):=by unfold hd1;rw [if_neg k0]
  rw [if_neg k0,p0]
  by_cases k1:okH (areaN D) (flushF D 1).data.toList
  ·have p1:hd1 D 1 = (cOf (flushF D 1).data.toList,aOf (flushF D 1).data.toList,lOf (flushF D 1).data.toList):=by unfold hd1;rw [if_pos k1]
   have q1:=k1.1
   rw [p1,if_pos ⟨k1,fun h e=>by cases e⟩,if_pos (show 0 < cOf (flushF D 1).data.toList by omega),if_neg (by show ¬ cOf (flushF D 1).data.toList = 0;omega)]
  ·have p1:hd1 D 1 = (0,0,0):=by unfold hd1;rw [if_neg k1]
   rw [p1,if_neg (fun e=>k1 e.1)];rfl
end
end Rd
end Go.Proofs.YtlfkhlfkckfbpaaGreat
namespace Go.Proofs.YtlfkhlfkckfbpaaGreat
namespace Bk
open Go.RowKit Go.Shelf
def ren:Go.Shelf.Ren:=⟨fun | 240=>171 | 276=>199 | 167=>180 | 166=>117 | 169=>118 | n=>n,fun | 0=>0 | 3=>3 | 4=>4 | 5=>5 | 9=>9 | 20=>20 | 37=>41 | 70=>180 | 72=>182 | 75=>185 | 80=>179 | 127=>212 | 164=>266 | n=>n,fun n=>n⟩
theorem lays167:Go.Proofs.Lays.n167 Tryz.prog ren:={
 mixed:=by kernel_rfl
 f167:=Tryz.func180.trans (congrArg some (by kernel_rfl))
 f240:=Tryz.func171.trans (congrArg some (by kernel_rfl))
 f276:=Tryz.func199.trans (congrArg some (by kernel_rfl))
 t0:=Tryz.underlying0
 a0:=Tryz.isAgg0
 z0:=Tryz.sizeOf0
 v0:=Tryz.zeroValue0
 t4:=Tryz.underlying4
 a4:=Tryz.isAgg4
 z4:=Tryz.sizeOf4
 v4:=Tryz.zeroValue4
 t5:=Tryz.underlying5
 a5:=Tryz.isAgg5
 z5:=Tryz.sizeOf5
 v5:=Tryz.zeroValue5
 t9:=Tryz.underlying9
 a9:=Tryz.isAgg9
 z9:=Tryz.sizeOf9
 v9:=Tryz.zeroValue9
 t20:=Tryz.underlying20
 a20:=Tryz.isAgg20
 z20:=Tryz.sizeOf20
 v20:=Tryz.zeroValue20
 t37:=Tryz.underlying41
 a37:=Tryz.isAgg41
 z37:=Tryz.sizeOf41
 v37:=Tryz.zeroValue41
 t70:=Tryz.underlying180
 a70:=Tryz.isAgg180
 z70:=Tryz.sizeOf180
 v70:=Tryz.zeroValue180
 t72:=Tryz.underlying182
 a72:=Tryz.isAgg182
 z72:=Tryz.sizeOf182
 v72:=Tryz.zeroValue182
 t75:=Tryz.underlying185
 a75:=Tryz.isAgg185
 z75:=Tryz.sizeOf185
 v75:=Tryz.zeroValue185
 t164:=Tryz.underlying266
 a164:=Tryz.isAgg266
 z164:=Tryz.sizeOf266
 v164:=Tryz.zeroValue266 }
theorem lays166:Go.Proofs.Lays.n166 Tryz.prog ren:={
 mixed:=by kernel_rfl
 f166:=Tryz.func117.trans (congrArg some (by kernel_rfl))
 f240:=Tryz.func171.trans (congrArg some (by kernel_rfl))
 f276:=Tryz.func199.trans (congrArg some (by kernel_rfl))
 t0:=Tryz.underlying0
 a0:=Tryz.isAgg0
 z0:=Tryz.sizeOf0
 v0:=Tryz.zeroValue0
 t3:=Tryz.underlying3
 a3:=Tryz.isAgg3
 z3:=Tryz.sizeOf3
 v3:=Tryz.zeroValue3
 t4:=Tryz.underlying4
 a4:=Tryz.isAgg4
 z4:=Tryz.sizeOf4
 v4:=Tryz.zeroValue4
 t9:=Tryz.underlying9
 a9:=Tryz.isAgg9
 z9:=Tryz.sizeOf9
 v9:=Tryz.zeroValue9
 t20:=Tryz.underlying20
 a20:=Tryz.isAgg20
 z20:=Tryz.sizeOf20
 v20:=Tryz.zeroValue20
 t37:=Tryz.underlying41
 a37:=Tryz.isAgg41
 z37:=Tryz.sizeOf41
 v37:=Tryz.zeroValue41
 t70:=Tryz.underlying180
 a70:=Tryz.isAgg180
 z70:=Tryz.sizeOf180
 v70:=Tryz.zeroValue180
 t72:=Tryz.underlying182
 a72:=Tryz.isAgg182
 z72:=Tryz.sizeOf182
 v72:=Tryz.zeroValue182
 t75:=Tryz.underlying185
 a75:=Tryz.isAgg185
 z75:=Tryz.sizeOf185
 v75:=Tryz.zeroValue185
 t164:=Tryz.underlying266
 a164:=Tryz.isAgg266
 z164:=Tryz.sizeOf266
 v164:=Tryz.zeroValue266 }
theorem lays169:Go.Proofs.Lays.n169 Tryz.prog ren:={
 mixed:=by kernel_rfl
 f169:=Tryz.func118.trans (congrArg some (by kernel_rfl))
 t0:=Tryz.underlying0
 a0:=Tryz.isAgg0
 z0:=Tryz.sizeOf0
 v0:=Tryz.zeroValue0
 t3:=Tryz.underlying3
 a3:=Tryz.isAgg3
 z3:=Tryz.sizeOf3
 v3:=Tryz.zeroValue3
 t9:=Tryz.underlying9
 a9:=Tryz.isAgg9
 z9:=Tryz.sizeOf9
 v9:=Tryz.zeroValue9
 t37:=Tryz.underlying41
 a37:=Tryz.isAgg41
 z37:=Tryz.sizeOf41
 v37:=Tryz.zeroValue41
 t70:=Tryz.underlying180
 a70:=Tryz.isAgg180
 z70:=Tryz.sizeOf180
 v70:=Tryz.zeroValue180
 t72:=Tryz.underlying182
 a72:=Tryz.isAgg182
 z72:=Tryz.sizeOf182
 v72:=Tryz.zeroValue182
 t127:=Tryz.underlying212
 a127:=Tryz.isAgg212
 z127:=Tryz.sizeOf212
 v127:=Tryz.zeroValue212 }
theorem bldExtra:Go.Proofs.Builder.Extra Tryz.prog ren:={
 sizeBuilder:=by kernel_rfl
 liesBuilder:=by kernel_rfl
 t5:=Tryz.underlying5
 a5:=Tryz.isAgg5
 z5:=Tryz.sizeOf5
 v5:=Tryz.zeroValue5
 infoByte:=by kernel_rfl
 cellsByte:=by kernel_rfl
 sizeByte:=by kernel_rfl
 neB5:=by decide }
def Bld (b:Nat) (l:List UInt8) (w:World):Prop:=Lib.IsBuilderF 182 5 b b (Lib.byteCells l) w
theorem Bld.lt {b:Nat} {l:List UInt8} {w:World} (h:Bld b l w):b < w.heap.size:=by
 rcases h with h | h
 ·exact h.lt
 ·exact h.lt
theorem Bld.new (w:World):Bld w.heap.size [] (w.alloc (.cells #[.pointer none,.slice none 0 0] 182)):=Lib.IsBuilderF.of (Lib.fresh_isBuilder _ _ w)
theorem bld_byte {b:Nat} {l:List UInt8} {w:World} (c:Nat) (h:Bld b l w) (hc:c < 256) (hl:l.length + 1 ≤ 140737488355328) :
  Calls Tryz.prog 180 #[.pointer (some ⟨b,0,none⟩),.int .u8 (c:Int)] w fun e w'=>e = .returned .nilIface ∧ Bld b (l ++ [UInt8.ofNat c]) w' ∧ Below b w w':=by
 refine (Any.Builder_WriteByte_k lays167 bldExtra b b (Lib.byteCells l) (c:Int) w h (by rw [Lib.byteCells_length];exact hl) (Nat.le_of_lt h.lt)).mono ?_
 rintro e w' ⟨rfl,h1,h2,_⟩
 refine ⟨rfl,.inr ?_,h2⟩
 have e1:Lib.byteCells l ++ [.int .u8 (c:Int)] = Lib.byteCells (l ++ [UInt8.ofNat c]):=by
  unfold Lib.byteCells
  rw [List.map_append,List.map_cons,UInt8.toNat_ofNat_of_lt' (by show c < 256;exact hc)];rfl
 rw [← e1];exact h1
theorem bld_string {b:Nat} {l:List UInt8} {w:World} (s:ByteArray) (h:Bld b l w) (hl:l.length + s.size ≤ 140737488355328) :
  Calls Tryz.prog 117 #[.pointer (some ⟨b,0,none⟩),.string s] w fun e w'=>e = .returned (.tuple #[.int .i64 (s.size:Int),.nilIface]) ∧ Bld b (l ++ s.data.toList) w' ∧ Below b w w':=by
 refine (Any.Builder_WriteString_k lays166 bldExtra b b (Lib.byteCells l) s w h (by rw [Lib.byteCells_length];exact hl) (Nat.le_of_lt h.lt)).mono ?_
 rintro e w' ⟨rfl,h1,h2,_⟩
 refine ⟨rfl,.inr ?_,h2⟩
 have e1:Lib.byteCells l ++ Lib.strCells s = Lib.byteCells (l ++ s.data.toList):=by
  unfold Lib.byteCells Lib.strCells
  rw [List.map_append]
 rw [← e1];exact h1
theorem bld_text {b:Nat} {l:List UInt8} {w:World} (h:Bld b l w) :
  Calls Tryz.prog 118 #[.pointer (some ⟨b,0,none⟩)] w fun e w'=>e = .returned (.string ⟨l.toArray⟩) ∧ Bld b l w' ∧ Below b w w':=by
 refine (Any.Builder_String_any_k lays169 bldExtra b b l w h (Nat.le_of_lt h.lt)).mono ?_
 rintro e w' ⟨rfl,h1,h2,_⟩
 exact ⟨rfl,h1,h2⟩
end Bk
end Go.Proofs.YtlfkhlfkckfbpaaGreat
namespace Go.Proofs.YtlfkhlfkckfbpaaGreat
namespace Bk
open Go.RowKit
theorem bld_cells {b:Nat} {l:List UInt8} {w:World} (h:Bld b l w):∃ (A:Option Addr) (c:Nat),w.cell? ⟨b,1,none⟩ = some (.slice A l.length c):=by
 have key:∀ p,Lib.BuilderAtF 182 5 b b p (Lib.byteCells l) w → ∃ (A:Option Addr) (c:Nat),w.cell? ⟨b,1,none⟩ = some (.slice A l.length c):=fun p h=>by
  obtain ⟨_,v,hb,hown,_⟩:=h
  have hc:w.cell? ⟨b,1,none⟩ = some v:=by simp [World.cell?,hb]
  rcases hown.2 with ⟨rfl,hn⟩ | ⟨g,cap,cur,fz,rfl,_⟩
  ·refine ⟨none,0,?_⟩
   rw [hc]
   rw [Lib.byteCells_length] at hn
   rw [hn]
  ·exact ⟨some ⟨g,0,none⟩,cap,by rw [hc,Lib.byteCells_length]⟩
 rcases h with h | h
 ·exact key _ h
 ·exact key _ h
theorem bld_len {b:Nat} {l:List UInt8} {w:World} (h:Bld b l w):Calls Tryz.prog 115 #[.pointer (some ⟨b,0,none⟩)] w fun e w'=>e = .returned (.int .i64 (l.length:Int)) ∧ w' = w:=by
 obtain ⟨A,c,hc⟩:=bld_cells h
 clear h
 go_enter Tryz.func115,Tryz.ntmps115
 go_wp2_with fail
 go_ret
 exact ⟨rfl,rfl⟩
end Bk
end Go.Proofs.YtlfkhlfkckfbpaaGreat
namespace Go.Proofs.YtlfkhlfkckfbpaaGreat
namespace Rd
open Go.RowKit Sc Bk
attribute [local go_sem ↓] Go.wp_at_zero Go.wp_at_succ
attribute [local go_sem] floatUpon pick
theorem bld_kept {b : Nat} {l : List UInt8} {w w' : World} (h : Bld b l w) (hb : Below w.heap.size w w') : Bld b l w' := by
  have key : ∀ p, Lib.BuilderAtF 182 5 b b p (Lib.byteCells l) w → Lib.BuilderAtF 182 5 b b p (Lib.byteCells l) w' := fun p h => by
    obtain ⟨h0, v, h1, h2, h3⟩ := h
    refine ⟨h0, v, (hb.block b (Array.getElem?_eq_some_iff.1 h1).1).trans h1, ?_, h3⟩
    refine ⟨h2.1, ?_⟩
    rcases h2.2 with h4 | ⟨g, cap, cur, fz, e1, e2, e3, e4⟩
    · exact .inl h4
    · exact .inr ⟨g, cap, cur, fz, e1, e2, (hb.block g (Array.getElem?_eq_some_iff.1 e3).1).trans e3, e4⟩
  rcases h with h | h
  · exact .inl (key _ h)
  · exact .inr (key _ h)
section
variable {Rep : RepT} {w : World} {F : Nat → Prop} {p g c a n m mn : Nat} {A B : Value} {l : Lg} {D : Dev}
theorem bytes_any (H : DevQ Rep) (hr : Rep w F g D) (hc : LC w p g c a n A mn B) (h4 : 4 ≤ D.on.length) (ha : a ≤ 1) (hn : n ≤ areaN D) (hu : n ≠ 0 → D.down = false) :
    Calls Tryz.prog 80 #[.pointer (some ⟨p, 0, none⟩)] w fun e w' => e = .returned (.tuple #[.string ⟨(storedL D a n).toArray⟩, .int .i64 0]) ∧ Below w.heap.size w w' := by
  have hok := H.ok hr
  have hmx := hok.max
  have hal : Below w.heap.size w (w.alloc (.cells #[.pointer none, .slice none 0 0] 182)) := (Below.refl _ w).alloc (Nat.le_refl _) _
  have hbl := Bld.new w
  have HR := Lib.hid (fun W (h : Below w.heap.size w W) => H.step hr h)
  have HC := Lib.hid (fun W (h : Below w.heap.size w W) => Cel.below hc h)
  have HFi := Lib.hid (fun W (h : Below w.heap.size w W) => first_any H (H.step hr h) (Cel.below hc h) h4 a ha)
  have hab : areaN D ≤ 65536 := by unfold areaN; omega
  have hm64 : areaN D = 64 * (areaN D / 64) := by unfold areaN; omega
  obtain ⟨mm, hmm⟩ : ∃ mm, mm = areaN D / 64 := ⟨_, rfl⟩
  rw [← hmm] at hm64
  have hm1 : mm ≤ 1024 := by omega
  have HSt := Lib.hid (show ∀ i, n ≤ 64 * i → 64 * i < n + 64 → (catS D a i).take n = storedL D a n from fun i h1 h2 => by
    unfold storedL
    rw [show (n + 63) / 64 = i by omega])
  have HLen := Lib.hid (fun i (hi : i ≤ mm) => catS_len hok h4 ha i (by rw [← hmm]; exact hi))
  have HCat := Lib.hid (fun i => catS_succ D a i)
  have h0 : areaAt D a ≤ 1026 := by
    unfold areaAt areaN
    have : a = 0 ∨ a = 1 := by omega
    rcases this with rfl | rfl <;> omega
  have HRd := Lib.hid (fun W (h : Below w.heap.size w W) i (hi : i < mm) (h0 : n ≠ 0) => show Calls Tryz.prog 116 #[.pointer (some ⟨g, 0, none⟩), .int .i64 ((areaAt D a : Int) + (i : Int))] W fun e w' => e = .returned (.tuple #[.string (flushF D (areaAt D a + i)), .int .i64 0]) ∧ Below W.heap.size W w' from by
    have h2 := H.read (((areaAt D a + i : Nat)) : Int) W (H.step hr h) ⟨by omega, by omega⟩
    rw [rd_up (hu h0) (area_fit h4 ha (by rw [← hmm]; exact hi))] at h2
    exact h2)
  have HF64 := Lib.hid (fun i (hi : i < mm) => show (flushF D (areaAt D a + i)).size = 64 from flush64 hok (area_fit h4 ha (by rw [← hmm]; exact hi)))
  generalize storedL D a n = res at HSt ⊢
  generalize areaAt D a = at0 at *
  clear hr hc hok hmx hmm
  go_enter Tryz.func80, Tryz.ntmps80
  go_upto_region 2 with fail
  generalize w.alloc (.cells #[.pointer none, .slice none 0 0] 182) = W1 at *
  have HB1 := Lib.hid hal
  have HL1 := Lib.hid hbl
  have k2 := (HC.out W1 hal).cell (i := 2) rfl
  clear hal hbl
  go_wp2_with fail
  refine (HFi.out _ HB1.out).mono ?_
  rintro e w2 ⟨rfl, rfl⟩
  clear k2
  go_wp2_with fail
  go_loopw [5] (fun u wr => ∃ (i : Nat), i ≤ mm ∧ u = .int .i64 ((at0 : Int) + (i : Int)) ∧ Hid (64 * i < n + 64) ∧ Hid (Bld w.heap.size (catS D a i) wr) ∧ Hid (Below w.heap.size w wr)) (fun u _ => 3000 - (intOf u).toNat)
  case atStart => exact ⟨0, by omega, by simp, Lib.hid (by omega), HL1.out, HB1.out⟩
  case round =>
    obtain ⟨i, hi, rfl, hj, hbld, hbel⟩ := hrel
    have HI0 : Hid (Bld w.heap.size (catS D a i) wr ∧ LC wr p g c a n A mn B) := Lib.hid ⟨hbld.out, HC.out _ hbel.out⟩
    have HBl := Lib.hid (fun W (h : Bld w.heap.size (catS D a i) W) => bld_len h)
    have hlen := HLen.out i hi
    rw [hlen] at HBl
    generalize hkk : 64 * i = q at HBl hlen
    by_cases hlt : q < n
    · have pl : (q : Int) < (n : Int) := by omega
      go_upto_region 3 with fail
      refine wp_region_said 7 [15, 16, 17, 18, 19, 20, 21]
        [.is (.int .i64 (q : Int)), .is (.pointer (some ⟨p, 0, none⟩)), .is (.pointer (some ⟨p, 0, none⟩)), .is (.pointer (some ⟨p, 1, none⟩)), .is (.pointer (some ⟨p, 3, none⟩)), .is (.int .i64 (n : Int)), .is (.bool true)]
        (fun W => Bld w.heap.size (catS D a i) W ∧ LC W p g c a n A mn B) (by kernel_rfl) (by kernel_rfl) (by kernel_rfl) (by kernel_rfl) (by kernel_rfl) (fun W W' h hb => ⟨bld_kept h.1 hb, Cel.below h.2 hb⟩) HI0.out ?steps ?last
      case steps =>
        simp only [List.take_succ_cons, List.take_zero]
        refine ⟨?_, ?_, ?_, ?_, ?_, ?_, ?_, trivial⟩
        all_goals
          intro vs W ρ hρ hc hf hg hI hH hd R' hR
          have y3 := hI.2.cell (i := 3) rfl
          have HI := Lib.hid hI
          have HR := Lib.hid hR
          simp [depsOf, Region.binds, sayAt, Say.holds] at hd
          clear hR hI
          go_simp
          first
            | exact HR.out _ _ (by simp [sayAt, Say.holds]) (Below.refl _ _) (by simp [sayAt, Say.isBlk])
            | (refine (HBl.out _ HI.out.1).mono ?_; rintro e w' ⟨rfl, rfl⟩; exact ⟨_, rfl, HR.out _ _ (by simp [sayAt, Say.holds]) (Below.refl _ _) (by simp [sayAt, Say.isBlk])⟩)
            | trace_state
      case last =>
        intro vs W hI hb hg hd
        have e6 := hg 6 (by omega)
        simp only [sayAt, Say.holds, List.getD_cons_succ, List.getD_cons_zero] at e6
        simp only [List.take_succ_cons, List.take_zero, List.drop_succ_cons, List.drop_zero, putAll, Act.put, List.setIfInBounds_toArray, List.set_cons_succ, List.set_cons_zero, Nat.zero_add, Nat.reduceAdd]
        rw [e6]
        have him : i < mm := by omega
        have HB2 := Lib.hid (hbel.out.trans (hb.mono hbel.out.size))
        have HL2 := Lib.hid hI.1
        have y0 := hI.2.cell (i := 0) rfl
        have HRd2 := Lib.hid (HRd.out W HB2.out i him (by omega))
        have h64 := HF64.out i him
        have hcs := HCat.out i
        generalize flushF D (at0 + i) = t at HRd2 h64 hcs
        have HCs := Lib.hid hcs
        clear e6 hg hd hb hI hcs
        go_wp2_with fail
        refine HRd2.out.mono ?_
        rintro e w3 ⟨rfl, hb⟩
        have HB3 := Lib.hid (HB2.out.trans (hb.mono HB2.out.size))
        have HL3 := Lib.hid (bld_kept HL2.out hb)
        clear hb HL2 y0 HRd2
        go_wp2_with fail
        refine (bld_string t HL3.out (by rw [hlen, h64]; omega)).mono ?_
        rintro e w4 ⟨rfl, hl4, hb⟩
        rw [← HCs.out] at hl4
        have HL4 := Lib.hid hl4
        have HB4 := Lib.hid (HB3.out.trans hb)
        clear hl4 hb HL3
        go_wp2_with fail
        go_roundw
        case rel => exact ⟨i + 1, by omega, by go_num, Lib.hid (by omega), HL4.out, HB4.out⟩
        case measure => simp [intOf]; omega
    · have pl : ¬ (q : Int) < (n : Int) := by omega
      go_upto_region 3 with fail
      refine wp_region_said 7 [15, 16, 17, 18, 19, 20, 21]
        [.is (.int .i64 (q : Int)), .is (.pointer (some ⟨p, 0, none⟩)), .is (.pointer (some ⟨p, 0, none⟩)), .is (.pointer (some ⟨p, 1, none⟩)), .is (.pointer (some ⟨p, 3, none⟩)), .is (.int .i64 (n : Int)), .is (.bool false)]
        (fun W => Bld w.heap.size (catS D a i) W ∧ LC W p g c a n A mn B) (by kernel_rfl) (by kernel_rfl) (by kernel_rfl) (by kernel_rfl) (by kernel_rfl) (fun W W' h hb => ⟨bld_kept h.1 hb, Cel.below h.2 hb⟩) HI0.out ?steps2 ?last2
      case steps2 =>
        simp only [List.take_succ_cons, List.take_zero]
        refine ⟨?_, ?_, ?_, ?_, ?_, ?_, ?_, trivial⟩
        all_goals
          intro vs W ρ hρ hc hf hg hI hH hd R' hR
          have y3 := hI.2.cell (i := 3) rfl
          have HI := Lib.hid hI
          have HR := Lib.hid hR
          simp [depsOf, Region.binds, sayAt, Say.holds] at hd
          clear hR hI
          go_simp
          first
            | exact HR.out _ _ (by simp [sayAt, Say.holds]) (Below.refl _ _) (by simp [sayAt, Say.isBlk])
            | (refine (HBl.out _ HI.out.1).mono ?_; rintro e w' ⟨rfl, rfl⟩; exact ⟨_, rfl, HR.out _ _ (by simp [sayAt, Say.holds]) (Below.refl _ _) (by simp [sayAt, Say.isBlk])⟩)
            | trace_state
      case last2 =>
        intro vs W hI hb hg hd
        have e6 := hg 6 (by omega)
        simp only [sayAt, Say.holds, List.getD_cons_succ, List.getD_cons_zero] at e6
        simp only [List.take_succ_cons, List.take_zero, List.drop_succ_cons, List.drop_zero, putAll, Act.put, List.setIfInBounds_toArray, List.set_cons_succ, List.set_cons_zero, Nat.zero_add, Nat.reduceAdd]
        rw [e6]
        have HB2 := Lib.hid (hbel.out.trans (hb.mono hbel.out.size))
        have HI2 := Lib.hid hI
        have hst := HSt.out i (by omega) (by have := hj.out; omega)
        have hsl := fun W => str_to (⟨(catS D a i).toArray⟩ : ByteArray) n (by rw [text_size]; omega) (n : Int) rfl W
        rw [show ((⟨(catS D a i).toArray⟩ : ByteArray).data.toList.take n) = res from hst] at hsl
        have HTx := Lib.hid (fun W (h : Bld w.heap.size (catS D a i) W) => bld_text h)
        generalize (⟨(catS D a i).toArray⟩ : ByteArray) = cs at hsl HTx
        clear e6 hg hd hb hI hst
        go_upto_region 9 with fail
        have y3 := HI2.out.2.cell (i := 3) rfl
        go_region_with
          ((refine (HTx.out _ (bld_kept HI2.out.1 (Below.refl _ _).drew)).mono ?_
            rintro e w5 ⟨rfl, _, hb⟩
            have HB5 := Lib.hid (HB2.out.drew.trans hb)
            have y5 := (HC.out _ HB5.out).cell (i := 3) rfl
            clear hb))
        all_goals
          go_wp2_with fail
          go_ret2
          exact ⟨rfl, HB5.out⟩
end
end Rd
end Go.Proofs.YtlfkhlfkckfbpaaGreat
namespace Go.Proofs.YtlfkhlfkckfbpaaGreat
namespace Su
open Go.RowKit Bk
attribute [local go_sem ↓] Go.wp_at_zero Go.wp_at_succ
attribute [local go_sem] floatUpon pick
theorem walkR_len:∀ (f:Nat) (r:List UInt8) (a:Nat),(walkR f r a).1.length * 6 ≤ r.length
 | 0,r,a=>by simp [walkR]
 | f + 1,r,a=>by
  by_cases hr:r = []
  ·subst hr;rw [walkR_nil];simp
  ·cases h:restR r with
   | error e=>rw [walkR_err hr h];simp
   | ok t =>
    have h2:=(restR_ok h).2.1
    have ih:=walkR_len f (r.drop (t.length + 6)) (a + t.length + 6)
    rw [List.length_drop] at ih
    rw [walkR_ok hr h,List.length_cons]
    omega
theorem allR_len (s:ByteArray):(allR s).1.length * 6 ≤ s.size:=by
 have:=walkR_len s.size s.data.toList 0
 rwa [list_size] at this
theorem le_num:∀ (L:List UInt8),le L.length (num L) = L
 | []=>rfl
 | b :: L=>by
  have hb:b.toNat < 256:=b.toNat_lt
  show UInt8.ofNat ((b.toNat + 256 * num L) % 256) :: le L.length ((b.toNat + 256 * num L) / 256) = b :: L
  rw [show (b.toNat + 256 * num L) % 256 = b.toNat by omega,show (b.toNat + 256 * num L) / 256 = num L by omega,le_num L,UInt8.ofNat_toNat]
theorem frame_iff (R:List UInt8) (n:Nat) (hn:num (R.take 2) = n) (h:n + 6 ≤ R.length) :
  R.take (n + 6) = frameL ((R.drop 2).take n) ↔ num ((R.drop (2 + n)).take 4) = crc (R.take (2 + n)):=by
 have h2:le 2 n = R.take 2:=by
  have:=le_num (R.take 2)
  rw [List.length_take,Nat.min_eq_left (by omega),hn] at this
  exact this
 have h3:((R.drop 2).take n).length = n:=by rw [List.length_take,List.length_drop];omega
 have h4:R.take 2 ++ (R.drop 2).take n = R.take (2 + n):=by rw [List.take_add]
 have h5:R.take (n + 6) = R.take (2 + n) ++ (R.drop (2 + n)).take 4:=by rw [show n + 6 = (2 + n) + 4 by omega,List.take_add]
 have h6:((R.drop (2 + n)).take 4).length = 4:=by rw [List.length_take,List.length_drop];omega
 have h7:=le_num ((R.drop (2 + n)).take 4)
 rw [h6] at h7
 unfold frameL
 rw [h3,h2,h4,h5]
 constructor
 ·intro e
  have e2:=List.append_cancel_left e
  rw [e2,num_le 4 _ (crc_lt _)]
 ·intro e
  rw [← h7,e]
theorem next_any (s:ByteArray) (i:Int) (w:World) (hs:s.size ≤ 1000000000000000) (hi:-9223372036854775808 ≤ i ∧ i ≤ 9223372036854775807) :
  Calls Tryz.prog 119 #[.string s,.int .i64 i] w fun e w'=>e = .returned (nextV s i) ∧ Below w.heap.size w w':=by
 have hB:(s.size:Int) ≤ 1000000000000000:=by omega
 by_cases hbad:i < 0 ∨ (s.size:Int) < i
 ·have E:=Lib.hid (nextV_bad hbad)
  rcases hbad with h | h
  ·go_enter Tryz.func119,Tryz.ntmps119
   go_wp2_with fail
   go_ret3
   exact ⟨by rw [E.out];rfl,Below.refl _ _⟩
  ·have h0:0 ≤ i:=by omega
   go_enter Tryz.func119,Tryz.ntmps119
   go_wp2_with fail
   go_ret3
   exact ⟨by rw [E.out];rfl,Below.refl _ _⟩
 ·obtain ⟨a,rfl⟩:∃ a:Nat,i = (a:Int):=⟨i.toNat,by omega⟩
  have ha:a ≤ s.size:=by omega
  have E:=Lib.hid (nextV_at ha)
  have hfrom:=fun W=>str_from s a ha (a:Int) rfl W
  obtain ⟨R,hR⟩:∃ R,R = s.data.toList.drop a:=⟨_,rfl⟩
  have hRl:R.length = s.size - a:=by rw [hR,List.length_drop,list_size]
  rw [← hR] at hfrom E
  have z:(⟨R.toArray⟩:ByteArray).size = R.length:=cat_size R
  have hSl:(⟨R.toArray⟩:ByteArray).data.toList = R:=rfl
  clear hR hbad
  generalize (⟨R.toArray⟩:ByteArray) = S at hfrom z hSl
  have pa:(a:Int) ≤ (s.size:Int):=by omega
  by_cases h2:R.length < 2
  ·have E2:=Lib.hid (show restR R = .error 50 by unfold restR;rw [if_pos h2])
   have q:(S.size:Int) < 2:=by omega
   clear z hSl h2
   go_enter Tryz.func119,Tryz.ntmps119
   go_wp2_with fail
   go_ret3
   exact ⟨by rw [E.out,E2.out];rfl,Below.refl _ _⟩
  ·obtain ⟨n,hn⟩:∃ n,n = num (R.take 2):=⟨_,rfl⟩
   have hn256:n < 65536:=by
    have:=num_lt (R.take 2)
    rw [List.length_take,Nat.min_eq_left (by omega),← hn] at this
    exact this
   have h2f:=fun W=>str_to S 2 (by omega) 2 rfl W
   rw [hSl] at h2f
   have hN1:=fun W=>number_any ⟨(R.take 2).toArray⟩ W (by rw [cat_size,List.length_take];omega)
   have hN1':∀ W,Calls Tryz.prog 172 #[.string ⟨(R.take 2).toArray⟩] W fun e w'=>e = .returned (.int .i64 ((n:Nat):Int)) ∧ w' = W:=by
    rw [hn];exact hN1
   have HN1:=Lib.hid hN1'
   have q2:(2:Int) ≤ (S.size:Int):=by omega
   clear hN1 hN1' hn256
   generalize (⟨(R.take 2).toArray⟩:ByteArray) = S2 at h2f HN1
   by_cases hlong:4096 < n
   ·have E2:=Lib.hid (show restR R = .error 2 by unfold restR;rw [if_neg h2,← hn,if_pos hlong])
    have pl:(4096:Int) < (n:Int):=by omega
    clear h2 z hRl hSl hn
    go_enter Tryz.func119,Tryz.ntmps119
    go_wp2_with fail
    refine (HN1.out _).mono ?_
    rintro e w' ⟨rfl,rfl⟩
    go_wp2_with fail
    go_ret3
    exact ⟨by rw [E.out,E2.out];rfl,Below.refl _ _⟩
   ·have pl:(n:Int) ≤ 4096:=by omega
    by_cases hshort:R.length < n + 6
    ·have E2:=Lib.hid (show restR R = .error 50 by unfold restR;rw [if_neg h2,← hn,if_neg hlong,if_pos hshort])
     have q3:(S.size:Int) < (n:Int) + 6:=by omega
     clear h2 z hRl hSl hn hshort
     go_enter Tryz.func119,Tryz.ntmps119
     go_wp2_with fail
     refine (HN1.out _).mono ?_
     rintro e w' ⟨rfl,rfl⟩
     go_wp2_with fail
     go_ret3
     exact ⟨by rw [E.out,E2.out];rfl,Below.refl _ _⟩
    ·have q3:(n:Int) + 6 ≤ (S.size:Int):=by omega
     have hiff:=frame_iff R n hn.symm (by omega)
     have hmid:=fun W=>str_mid S 2 (2 + n) (by omega) (by omega) 2 (2 + (n:Int)) rfl (by omega) W
     have hend:=fun W=>str_mid S (2 + n) (2 + n + 4) (by omega) (by omega) (2 + (n:Int)) (2 + (n:Int) + 4) (by omega) (by omega) W
     have hto:=fun W=>str_to S (2 + n) (by omega) (2 + (n:Int)) (by omega) W
     rw [hSl,show 2 + n - 2 = n by omega] at hmid
     rw [hSl,show 2 + n + 4 - (2 + n) = 4 by omega] at hend
     rw [hSl] at hto
     obtain ⟨t,ht⟩:∃ t,t = (R.drop 2).take n:=⟨_,rfl⟩
     rw [← ht] at hmid
     have htl:t.length = n:=by rw [ht,List.length_take,List.length_drop];omega
     have hN4:=fun W=>number_any ⟨((R.drop (2 + n)).take 4).toArray⟩ W (by rw [cat_size,List.length_take];omega)
     obtain ⟨X,hX⟩:∃ X,X = num ((R.drop (2 + n)).take 4):=⟨_,rfl⟩
     obtain ⟨C,hC⟩:∃ C,C = crc (R.take (2 + n)):=⟨_,rfl⟩
     have hN4':∀ W,Calls Tryz.prog 172 #[.string ⟨((R.drop (2 + n)).take 4).toArray⟩] W fun e w'=>e = .returned (.int .i64 ((X:Nat):Int)) ∧ w' = W:=by
      rw [hX];exact hN4
     have HN4:=Lib.hid hN4'
     have hO:∀ (p:Nat) (W:World),W.heap[p]? = some (.cells #[.string ⟨(R.take (2 + n)).toArray⟩] 9 (0,0)) → Calls Tryz.prog 173 #[.slice (some ⟨p,0,none⟩) 1 1] W fun e w'=>e = .returned (.int .i64 ((C:Nat):Int)) ∧ w' = W:=fun p W hp=>by
      have hcat:catL [⟨(R.take (2 + n)).toArray⟩] = R.take (2 + n):=by simp [catL]
      have h:=of_any (some ⟨p,0,none⟩) 1 [⟨(R.take (2 + n)).toArray⟩] W (StrsAt.blk hp) (by simp) (by rw [hcat,List.length_take];omega)
      rw [hcat,← hC] at h
      exact h
     have HO:=Lib.hid hO
     rw [← hX,← hC,← ht] at hiff
     have htz:(⟨t.toArray⟩:ByteArray).size ≤ 281474976710656:=by rw [cat_size,htl];omega
     have HCl:=Lib.hid (fun W=>clone_any ⟨t.toArray⟩ W htz)
     clear hN4 hN4' hO htz
     generalize (⟨(R.take (2 + n)).toArray⟩:ByteArray) = S3 at hto HO
     generalize (⟨((R.drop (2 + n)).take 4).toArray⟩:ByteArray) = S4 at hend HN4
     have E2:Hid (restR R = if X = C then .ok t else .error 51):=Lib.hid (by
      unfold restR;rw [if_neg h2,← hn,if_neg hlong,if_neg hshort,← ht]
      by_cases hx:X = C
      ·rw [if_pos hx,if_pos (hiff.2 hx)]
      ·rw [if_neg hx,if_neg (fun h=>hx (hiff.1 h))])
     have HT:=Lib.hid htl
     clear h2 z hRl hSl hn hshort hX hC hiff htl ht
     go_enter Tryz.func119,Tryz.ntmps119
     go_wp2_with fail
     refine (HN1.out _).mono ?_
     rintro e w' ⟨rfl,rfl⟩
     have hadd2:IntKind.i64.wrap (2 + (n:Int)) = 2 + (n:Int):=i64_wrap (by omega) (by omega)
     have hadd6:IntKind.i64.wrap (2 + (n:Int) + 4) = 2 + (n:Int) + 4:=i64_wrap (by omega) (by omega)
     go_wp2_with fail
     refine wp_region_said 12 [36,37,38,39,40,41,42,43,44,45,46,47]
      [.is (.string S),.is (.int .i64 (2 + (n:Int))),.is (.int .i64 (2 + (n:Int))),.is (.int .i64 (2 + (n:Int) + 4)),.is (.string S4),.is (.int .i64 (X:Int)),.is (.string S),.is (.int .i64 (2 + (n:Int))),.is (.string S3),.arr 9 #[.string S3] 1 1,.is (.int .i64 (C:Int)),.is (.bool ((X:Int) != (C:Int)))]
      (fun _=>True) (by kernel_rfl) (by kernel_rfl) (by kernel_rfl) (by kernel_rfl) (by kernel_rfl) (fun _ _ _ _=>trivial) trivial ?steps ?last
     case steps =>
      simp only [List.take_succ_cons,List.take_zero]
      refine ⟨?_,?_,?_,?_,?_,?_,?_,?_,?_,?_,?_,?_,trivial⟩
      all_goals
       intro vs W ρ hρ hc hf hg hI hH hd R' hR
       have HR:=Lib.hid hR
       simp [depsOf,Region.binds,sayAt,Say.holds] at hd
       clear hR
      case refine_10 =>
       go_simp
       exact HR.out _ _ ⟨W.heap.size,hH,by simp,rfl,heap_alloc_new W _⟩ ((Below.refl _ _).alloc (Nat.le_refl _) _) (fun h=>by cases h)
      case refine_11 =>
       obtain ⟨⟨p,hp1,hp2,hp3,hp4⟩,h5⟩:=hd
       go_simp
       refine (HO.out p _ hp4).mono ?_
       rintro e w' ⟨rfl,rfl⟩
       exact ⟨_,rfl,HR.out _ _ (by simp [sayAt,Say.holds]) (Below.refl _ _) (by simp [sayAt,Say.isBlk])⟩
      case refine_6 =>
       go_simp
       refine (HN4.out _).mono ?_
       rintro e w' ⟨rfl,rfl⟩
       exact ⟨_,rfl,HR.out _ _ (by simp [sayAt,Say.holds]) (Below.refl _ _) (by simp [sayAt,Say.isBlk])⟩
      all_goals
       go_simp
       first
        | exact HR.out _ _ (by simp [sayAt,Say.holds]) (Below.refl _ _) (by simp [sayAt,Say.isBlk])
        | trace_state
     case last =>
      intro vs W hI hb hg hd
      have g:=hg 11 (by omega)
      simp only [sayAt,Say.holds,List.getD_cons_succ,List.getD_cons_zero] at g
      simp only [List.take_succ_cons,List.take_zero,List.drop_succ_cons,List.drop_zero,putAll,Act.put,List.setIfInBounds_toArray,List.set_cons_succ,List.set_cons_zero,Nat.zero_add,Nat.reduceAdd]
      rw [g]
      have HB:=Lib.hid hb
      clear g hg hd hb hI
      by_cases hx:X = C
      ·have hne:((X:Int) != (C:Int)) = false:=by simp [hx]
       have E3:=E2.out
       rw [if_pos hx] at E3
       have E4:=Lib.hid E3
       clear E2 E3 hx
       have hs1:IntKind.i64.wrap ((a:Int) + (2 + (n:Int))) = (a:Int) + (2 + (n:Int)):=i64_wrap (by omega) (by omega)
       have hs2:IntKind.i64.wrap ((a:Int) + (2 + (n:Int)) + 4) = (a:Int) + (2 + (n:Int)) + 4:=i64_wrap (by omega) (by omega)
       generalize hT:(⟨t.toArray⟩:ByteArray) = T at hmid HCl
       have HTT:=Lib.hid hT
       clear hT
       go_wp2_with fail
       refine (HCl.out _).mono ?_
       rintro e w1 ⟨rfl,hb1⟩
       have HB1:=Lib.hid (HB.out.trans (hb1.mono HB.out.size))
       clear hb1 HB
       go_wp2_with fail
       go_ret3
       exact ⟨by rw [E.out,E4.out];show _ = Ending.returned (Value.tuple #[.string ⟨t.toArray⟩,.int .i64 ((a + t.length + 6:Nat):Int),.int .i64 0]);rw [HTT.out,HT.out,show ((a + n + 6:Nat):Int) = (a:Int) + (2 + (n:Int)) + 4 by omega];rfl,HB1.out⟩
      ·have hne:((X:Int) != (C:Int)) = true:=by simp;omega
       have E3:=E2.out
       rw [if_neg hx] at E3
       have E4:=Lib.hid E3
       clear E2 E3 hx
       go_wp2_with fail
       go_ret3
       exact ⟨by rw [E.out,E4.out];rfl,HB.out⟩
theorem frame_any (s:ByteArray) (w:World) (hs:s.size ≤ 140737488351232) :
  Calls Tryz.prog 135 #[.string s] w fun e w'=>e = .returned (frameV s) ∧ Below w.heap.size w w':=by
 by_cases h:4096 < s.size
 ·have E:=Lib.hid (show frameV s = .tuple #[.string ⟨#[]⟩,.int .i64 2] by unfold frameV;rw [if_pos h])
  have h':(4096:Int) < (s.size:Int):=by omega
  clear h
  go_enter Tryz.func135,Tryz.ntmps135
  go_wp2_with fail
  go_ret2
  exact ⟨by rw [E.out];rfl,Below.refl _ _⟩
 ·have E:=Lib.hid (show frameV s = .tuple #[.string (frameB s),.int .i64 0] by unfold frameV;rw [if_neg h])
  have h':(s.size:Int) ≤ 4096:=by omega
  have H1:=Lib.hid (fun W=>low_any s.size 2 W (by omega) (by omega) (by omega))
  obtain ⟨L1,hL1⟩:∃ L1,L1 = le 2 s.size ++ s.data.toList:=⟨_,rfl⟩
  have hz:L1.length = s.size + 2:=by rw [hL1,List.length_append,le_length,list_size];omega
  have hF:frameB s = ⟨(L1 ++ le 4 (crc L1)).toArray⟩:=by unfold frameB frameL;rw [list_size,← hL1]
  have H2:=Lib.hid (fun W=>low_any (crc L1) 4 W (by have:=crc_lt L1;omega) (by omega) (by omega))
  have hO:∀ (p:Nat) (W:World),W.heap[p]? = some (.cells #[.string ⟨(le 2 s.size).toArray⟩,.string s] 9 (0,0)) → Calls Tryz.prog 173 #[.slice (some ⟨p,0,none⟩) 2 2] W fun e w'=>e = .returned (.int .i64 ((crc L1:Nat):Int)) ∧ w' = W:=fun p W hp=>by
   have hcat:catL [⟨(le 2 s.size).toArray⟩,s] = L1:=by rw [hL1];simp [catL]
   have h:=of_any (some ⟨p,0,none⟩) 2 [⟨(le 2 s.size).toArray⟩,s] W (StrsAt.blk hp) (by simp) (by rw [hcat,hz];omega)
   rw [hcat] at h
   exact h
  have HO:=Lib.hid hO
  have e1:(⟨(le 2 s.size).toArray⟩:ByteArray) ++ s = ⟨L1.toArray⟩:=by rw [hL1,← ByteArray.mk_append_mk]
  have z1:(⟨(le 2 s.size).toArray⟩:ByteArray).size = 2:=by rw [cat_size,le_length]
  have hadd:=fun W=>run_string_add_sum (P:=Tryz.prog) W ⟨(le 2 s.size).toArray⟩ s (by rw [z1];omega)
  rw [e1] at hadd
  have e2:(⟨L1.toArray⟩:ByteArray) ++ ⟨(le 4 (crc L1)).toArray⟩ = frameB s:=by rw [hF,← ByteArray.mk_append_mk]
  have z2:(⟨(le 4 (crc L1)).toArray⟩:ByteArray).size = 4:=by rw [cat_size,le_length]
  have z3:(⟨L1.toArray⟩:ByteArray).size = s.size + 2:=by rw [cat_size,hz]
  have hadd2:=fun W=>run_string_add_sum (P:=Tryz.prog) W ⟨L1.toArray⟩ ⟨(le 4 (crc L1)).toArray⟩ (by rw [z2,z3];omega)
  rw [e2] at hadd2
  have hC:=crc_lt L1
  clear hO e1 z1 e2 z2 z3 h hF hz hL1
  generalize (⟨(le 2 s.size).toArray⟩:ByteArray) = B1 at H1 HO hadd
  generalize (⟨(le 4 (crc L1)).toArray⟩:ByteArray) = B2 at H2 hadd2
  generalize (⟨L1.toArray⟩:ByteArray) = S1 at hadd hadd2
  generalize crc L1 = C at H2 HO hC
  go_enter Tryz.func135,Tryz.ntmps135
  go_wp2_with fail
  refine (H1.out _).mono ?_
  rintro e w1 ⟨rfl,hb⟩
  have W1:=Lib.hid hb
  clear hb
  go_wp2_with fail
  refine (HO.out _ _ (heap_alloc_new _ _)).mono ?_
  rintro e w2 ⟨rfl,rfl⟩
  have W2:=Lib.hid (W1.out.alloc (o:=.cells #[.string B1,.string s] 9) W1.out.size)
  clear W1
  go_wp2_with fail
  refine (H2.out _).mono ?_
  rintro e w3 ⟨rfl,hb⟩
  have W3:=Lib.hid (W2.out.trans (hb.mono W2.out.size))
  clear hb W2
  go_wp2_with fail
  go_ret2
  exact ⟨by rw [E.out];rfl,W3.out⟩
end Su
end Go.Proofs.YtlfkhlfkckfbpaaGreat
