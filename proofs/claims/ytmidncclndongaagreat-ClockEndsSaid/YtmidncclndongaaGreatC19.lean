/- Parts of the proof, joined: ScLand5, ScSorted, ScLand6, ScLand7, ScDoneB, RlDone; their conditions stand with each. -/
import Derived.Shelf.SlIterI.Nil
import Derived.Shelf.SortM.Plain
import Derived.Shelf.SortM.SortNone
import Derived.Test.YtmidncclndongaaGreatC2
import Derived.Test.YtmidncclndongaaGreatC8
import Derived.Test.YtmidncclndongaaGreatC11
import Derived.Test.YtmidncclndongaaGreatC17
import Derived.Test.YtmidncclndongaaGreatC18

set_option maxRecDepth 20000
set_option maxHeartbeats 8000000
namespace Go.Proofs.YtmidncclndongaaGreat
namespace Sc
open Go.RowKit Bk
attribute [local go_sem ↓] Go.wp_at_zero Go.wp_at_succ
attribute [local go_sem] floatUpon pick
section
variable {w w':World} {g a b:Nat} {D:Dev}
structure FlMid (w W:World) (g a b r vb:Nat) (D D1:Dev) (DM:DataW Unit) (left left':Lit → Bool) (cnt:Nat) (c:ByteArray):Prop where
 rg:W.ranges Tryz.prog 3 rdSec b r D.new.length DM left' cnt
 d:LAt W g a b ⟨flL D left,D.new,D1.left,D1.down⟩
 f:Fr (LFoot g a b) (LFoot g a b) w W
 c:Cel W vb 117 (secC c)
theorem FlMid.step {W W':World} {r vb:Nat} {D1:Dev} {DM:DataW Unit} {left left':Lit → Bool} {cnt:Nat} {c:ByteArray} (h:FlMid w W g a b r vb D D1 DM left left' cnt c) (hb:Below W.heap.size W W'):FlMid w W' g a b r vb D D1 DM left left' cnt c :=
 ⟨h.rg.kept (below_grown hb) (by simp) (by simp),h.d.step hb,h.f.below hb,h.c.below hb⟩
theorem lflush_any (h:LAt w g a b D) (hok:DevOk D) :
  Calls Tryz.prog 237 #[.pointer (some ⟨g,0,none⟩)] w fun e w'=>e = .returned (.int .i64 (flD D).2) ∧ LAt w' g a b (flD D).1 ∧ Fr (LFoot g a b) (LFoot g a b) w w':=by
 have HBn:=Lib.hid (lburn_any h hok)
 have k3:=h.cel.cell (i:=3) rfl
 have H:=Lib.hid h
 by_cases hd:D.down = true
 ·have E:=Lib.hid (show flD D = (D,90) from by unfold flD;rw [if_pos hd])
  rw [hd] at k3
  clear h hd hok
  go_enter Tryz.func237,Tryz.ntmps237
  go_wp2_with fail
  go_ret
  exact ⟨by rw [E.out];rfl,by rw [E.out];exact H.out,Fr.refl _ _⟩
 have hd':D.down = false:=by simpa using hd
 rw [hd'] at k3
 have ew:flD D = if (burn D).2 = true then ((burn D).1,90) else (⟨upd D.on D.on.length (flushF D),upd D.new D.on.length (fun _=>nil0),(burn D).1.left,(burn D).1.down⟩,0):=by
  unfold flD;rw [if_neg hd]
 obtain ⟨b1,b2,b3⟩:=burn_parts D
 have hlen:=hok.len
 generalize burn D = Q at HBn ew b1 b2
 obtain ⟨D1,bb⟩:=Q
 simp only at HBn ew b1 b2
 cases bb with
 | true =>
  have E:=Lib.hid (show flD D = (D1,90) from by rw [ew,if_pos rfl])
  clear h hok ew hd hd'
  go_enter Tryz.func237,Tryz.ntmps237
  go_wp2_with fail
  refine HBn.out.mono ?_
  rintro e w2 ⟨rfl,hb⟩
  have HB:=Lib.hid hb
  clear hb
  go_wp2_with fail
  go_ret
  exact ⟨by rw [E.out];rfl,by rw [E.out];exact HB.out.1,HB.out.2⟩
 | false =>
  have E:=Lib.hid (show flD D = (⟨upd D.on D.on.length (flushF D),List.replicate D.on.length nil0,D1.left,D1.down⟩,0) from by
   rw [ew,if_neg (by simp),← hlen,upd_all])
  have HOk:=Lib.hid hok
  have HBs:=Lib.hid (And.intro b1 b2)
  have hzs:=zero_sec
  obtain ⟨Z,hZ⟩:∃ Z,Z = secC zero64:=⟨_,rfl⟩
  have hZl:Z.length = 64:=by rw [hZ,secC_len];rfl
  unfold secV at hzs
  rw [← hZ] at hzs
  clear h hok ew hd hd' b1 b2 b3 hlen hZ
  go_enter Tryz.func237,Tryz.ntmps237
  go_wp2_with fail
  refine HBn.out.mono ?_
  rintro e w2 ⟨rfl,hb⟩
  have k1:=hb.1.cel.cell (i:=1) rfl
  have HB:=Lib.hid hb
  obtain ⟨DM,hown,hsays⟩:=hb.1.mp
  rw [HBs.out.2] at hown hsays
  have HSs:=Lib.hid (And.intro hown hsays)
  have hra:w2.heap.size ≠ a:=fun e=>by have:=hb.1.ro.lt;omega
  have hrg':w2.heap.size ≠ g:=fun e=>by have:=hb.1.cel.lt;omega
  have hra2:=Lib.hid (And.intro hra (And.intro hrg' hb.2.size))
  clear hb k3 hra hrg'
  go_wp2_with (at_range;refine wpList_range_own _ rfl _ 96 rfl 3 117 Tryz.keyedInt Tryz.underlying96 rdSec b D.new.length DM rfl hown ?_;intro w3 hrg0 hg0 hs0)
  go_frame
  have HE0:Hid (FlEnv w w3 g a b w2.heap.size D D1 DM (Maps.has DM) (Maps.size DM)):=Lib.hid (by
   refine ⟨hrg0,?_,?_,hra2.out.1,hra2.out.2.1,hra2.out.2.2⟩
   ·rw [flL_start HOk.out hsays.has]
    have:=HB.out.1.kept (w':=w3) (fun k hk=>hg0.block k (HB.out.1.lt k hk) (by simp))
    rw [← HBs.out.1,← HBs.out.2]
    exact this
   ·exact ⟨hg0.os.trans HB.out.2.os,hg0.tape.trans HB.out.2.tape,hg0.output.trans HB.out.2.output,Nat.le_trans HB.out.2.size hg0.size,fun i hi hn=>(hg0.block i (Nat.lt_of_lt_of_le hi HB.out.2.size) (by simp)).trans (HB.out.2.block i hi hn),HB.out.2.foot⟩)
  clear hrg0 hg0 hs0 hown hsays k1 HBn HB
  generalize w2.heap.size = r at HE0 hra2 ⊢
  go_loopw [3,4] (fun _ _ wr=>∃ (left:Lit → Bool) (cnt:Nat),Hid (FlEnv w wr g a b r D D1 DM left cnt)) (fun _ _ wr=>wr.rangeLeft b r)
  case atStart=>exact ⟨_,_,HE0.out⟩
  case round =>
   obtain ⟨left,cnt,hr⟩:=hrel
   have hrg:=hr.out.rg
   go_wp2_with (at_next;refine wpList_next_ranges _ rfl _ rfl 3 Tryz.keyedInt rdSec (Value.int .i64) secV (fun key kl hk=>by obtain ⟨x,hx,_⟩:=Maps.keyOf_i64 Tryz.underlying3 hk;exact ⟨x,hx⟩) (fun v y hv=>by obtain ⟨s,_,hs,_⟩:=rdSec_inv hv;exact ⟨s,hs⟩) b r D.new.length _ _ _ rfl hrg ?_ ?_)
   ·intro hc0 hl0
    have k1:=hr.out.d.cel.cell (i:=1) rfl
    obtain ⟨W5,hcl,hm5,hg5,hz5⟩:=hr.out.d.mp.clear 0 D.on.length
    have HA:=Lib.hid (And.intro (hr.out.d.setMap hm5 hg5) (hr.out.f.grown (.inl lfoot_b) hg5))
    have HL:=Lib.hid (flL_end (D:=D) hl0)
    clear hr hrg hm5 hg5 hz5 hc0 hl0 HE0
    go_wp2_with fail
    go_ret
    refine ⟨by rw [E.out];rfl,?_,HA.out.2⟩
    rw [E.out]
    have:=HA.out.1
    rw [HL.out] at this
    exact this
   ·intro x c kl yd yp w4 cnt4 hkey hlk hv hat hrg4 hlt hg4 hs4 hen
    obtain ⟨i,rfl,rfl,hi,hw,hc,hc64⟩:=entry_is HSs.out.1 HSs.out.2 hkey hv hat
    have hn:i < D.on.length:=by rw [← HOk.out.len];exact hi
    have hrb:=hrg.ne
    have HM:Hid (FlMid w (w4.alloc (.cells (secC c).toArray 117)) g a b r w4.heap.size D D1 DM left (fun z=>left z && !z.sameKey (.int .i64 (i:Int))) cnt4 c):=Lib.hid (by
     have hb4:=(Below.refl w4.heap.size w4).alloc (Nat.le_refl _) (.cells (secC c).toArray 117)
     refine ⟨hrg4.alloc _,?_,?_,heap_alloc_new w4 _⟩
     ·refine LAt.step (hr.out.d.kept fun k hk=>hg4.block k (hr.out.d.lt k hk) (fun e=>?_)) hb4
      simp only [Option.some.injEq] at e
      subst e
      rcases hk with e | e | e
      ·exact hr.out.rg' e
      ·exact hr.out.ra e
      ·exact hrb e
     ·exact (hr.out.f.grown (.inr hr.out.wr) hg4).below hb4)
    have Hlt:=Lib.hid hlt
    have Hlc:=Lib.hid hrg.left_eq
    have Hr:=Lib.hid (And.intro hr.out.ra (And.intro hr.out.rg' (And.intro hr.out.wr hrb)))
    have HI:=Lib.hid (And.intro hi (And.intro hw (And.intro hc (And.intro hc64 hn))))
    have pn:(i:Int) < (D.on.length:Int):=by omega
    have hs1:=put_cells w4 Z hZl hc64
    have hcl:(secC c).length = 64:=by rw [secC_len,hc64]
    unfold secV at hen ⊢
    clear hkey hlk hv hat hrg4 hlt hg4 hs4 hrg hr hrb hi hw hc hc64 hn HE0
    obtain ⟨C1,hC⟩:∃ C1,secC c = C1:=⟨_,rfl⟩
    have HC:=Lib.hid hC
    rw [hC] at hs1 hen hcl HM ⊢
    clear hC
    go_upto_region 6 with fail
    generalize w4.alloc (.cells C1.toArray 117) = W5 at HM ⊢
    generalize w4.heap.size = vb at HM ⊢
    clear hs1 hen hcl
    refine wp_region_said 7 [23,24,25,26,27,28,29]
     [.is (.pointer (some ⟨g,0,none⟩)),.is (.pointer (some ⟨g,0,none⟩)),.is (.pointer (some ⟨g,0,none⟩)),.is (.slice (some ⟨a,0,none⟩) D.on.length D.on.length),.is (.int .i64 (i:Int)),.is (secV c),.is (.pointer (some ⟨a,i * 64,none⟩))]
     (fun W=>FlMid w W g a b r vb D D1 DM left (fun z=>left z && !z.sameKey (.int .i64 (i:Int))) cnt4 c) (by kernel_rfl) (by kernel_rfl) (by kernel_rfl) (by kernel_rfl) (by kernel_rfl) (fun W W' h hb=>h.step hb) HM.out ?steps ?last
    case steps =>
     simp only [List.take_succ_cons,List.take_zero]
     refine ⟨?_,?_,?_,?_,?_,?_,?_,trivial⟩
     all_goals
      intro vs W ρ hρ hc hf hg hI hH hd R' hR
      have z0:=hI.d.cel.cell (i:=0) rfl
      simp only [flL_len] at z0
      have hld:=sec_own hI.c HI.out.2.2.2.1
      have HR:=Lib.hid hR
      simp [depsOf,Region.binds,sayAt,Say.holds] at hd
      clear hR hI
     case refine_6 =>
      have e0:ρ (.tmp 4) = .pointer (some ⟨vb,0,none⟩):=by rw [hρ];simp [pick];rfl
      rw [if_pos (by simp [Region.wanted])]
      unfold execOp
      simp only [Sem.run_bind,Sem.run_pure,Result.andThen_ok,e0,hld,floatUpon]
      exact HR.out _ _ (by simp [sayAt,Say.holds]) (Below.refl _ _) (by simp [sayAt,Say.isBlk])
     all_goals
      clear hld
      go_simp
      first
       | exact HR.out _ _ (by simp [sayAt,Say.holds]) (Below.refl _ _) (by simp [sayAt,Say.isBlk])
       | trace_state
    case last =>
     intro vs W hI hb hg hd
     have e5:=hg 5 (by omega)
     have e6:=hg 6 (by omega)
     simp only [sayAt,Say.holds,List.getD_cons_succ,List.getD_cons_zero] at e5 e6
     simp only [List.take_succ_cons,List.take_zero,List.drop_succ_cons,List.drop_zero,putAll,Act.put,List.setIfInBounds_toArray,List.set_cons_succ,List.set_cons_zero,Nat.zero_add,Nat.reduceAdd]
     rw [e5,e6]
     refine wpList_secStore W rfl (.tmp 29) (.tmp 28) rfl a (flL D left) hI.d.ro (flL_64 HOk.out left) i (by rw [flL_len];exact HI.out.2.2.2.2) c HI.out.2.2.2.1 rfl rfl ?_
     have HA:=Lib.hid (FlEnv.put HI.out.2.2.2.2 HI.out.2.1 hI.d hI.f Hr.out.1 Hr.out.2.1 Hr.out.2.2.1 hI.rg HI.out.2.2.1)
     generalize W.setRow a (onC ((flL D left).set i c)).toArray = W6 at HA ⊢
     clear e5 e6 hg hd hb hI HM HC
     simp only [Act.put]
     go_wp2_with fail
     go_roundw
     case rel=>exact ⟨_,cnt4,HA.out⟩
     case measure=>rw [HA.out.rg.left_eq,Hlc.out];exact Hlt.out
end
end Sc
end Go.Proofs.YtmidncclndongaaGreat
namespace Go.Proofs.YtmidncclndongaaGreat
namespace Sc
open Go.RowKit Go.Maps Go.Sort Go.Shelf Bk
def keysA_ren:Go.Shelf.Ren:=⟨fun | 7=>56 | 10=>103 | n=>n,fun | 23=>96 | 26=>3 | 3=>117 | 28=>127 | 0=>0 | 27=>126 | 33=>187 | 4=>4 | n=>n,fun | n=>n⟩
theorem keysA:Go.Proofs.SlLaysZI.n7 Tryz.prog keysA_ren:={
 mixed:=by kernel_rfl
 f7:=⟨Tryz.f56.name,by decide,Tryz.func56.trans (congrArg some (by kernel_rfl))⟩
 f10:=⟨Tryz.f103.name,by decide,Tryz.func103.trans (congrArg some (by kernel_rfl))⟩
 t0:=Tryz.underlying0
 a0:=Tryz.isAgg0
 z0:=Tryz.sizeOf0
 v0:=Tryz.zeroValue0
 t4:=Tryz.underlying4
 a4:=Tryz.isAgg4
 z4:=Tryz.sizeOf4
 v4:=Tryz.zeroValue4
 t23:=Tryz.underlying96
 a23:=Tryz.isAgg96
 z23:=Tryz.sizeOf96
 v23:=Tryz.zeroValue96
 t26:=Tryz.underlying3
 a26:=Tryz.isAgg3
 z26:=Tryz.sizeOf3
 v26:=Tryz.zeroValue3
 t27:=Tryz.underlying126
 a27:=Tryz.isAgg126
 z27:=Tryz.sizeOf126
 v27:=Tryz.zeroValue126
 t28:=Tryz.underlying127
 a28:=Tryz.isAgg127
 z28:=Tryz.sizeOf127
 v28:=Tryz.zeroValue127
 t33:=Tryz.underlying187
 a33:=Tryz.isAgg187
 z33:=Tryz.sizeOf187
 v33:=Tryz.zeroValue187
}
def sortedA_ren:Go.Shelf.Ren:=⟨fun | 6=>55 | 8=>101 | 9=>102 | 11=>168 | 13=>170 | 12=>169 | 23=>267 | 24=>268 | 14=>258 | 15=>259 | 16=>260 | 17=>261 | 18=>262 | 19=>263 | 20=>264 | 21=>265 | 22=>266 | 25=>319 | 26=>320 | 27=>321 | 28=>322 | 29=>323 | 30=>324 | 31=>349 | n=>n,fun | 26=>3 | 28=>127 | 24=>41 | 0=>0 | 3=>3 | 37=>250 | 48=>333 | 50=>322 | 4=>4 | 40=>327 | 39=>326 | 45=>122 | 5=>5 | 9=>9 | 51=>364 | 55=>368 | 57=>390 | 58=>100 | 33=>187 | n=>n,fun | n=>n⟩
theorem sortedA:Go.Proofs.SlLaysZI.n6 Tryz.prog sortedA_ren:={
 mixed:=by kernel_rfl
 f6:=⟨Tryz.f55.name,by decide,Tryz.func55.trans (congrArg some (by kernel_rfl))⟩
 f8:=⟨Tryz.f101.name,by decide,Tryz.func101.trans (congrArg some (by kernel_rfl))⟩
 f11:=⟨Tryz.f168.name,by decide,Tryz.func168.trans (congrArg some (by kernel_rfl))⟩
 t0:=Tryz.underlying0
 a0:=Tryz.isAgg0
 z0:=Tryz.sizeOf0
 v0:=Tryz.zeroValue0
 t24:=Tryz.underlying41
 a24:=Tryz.isAgg41
 z24:=Tryz.sizeOf41
 v24:=Tryz.zeroValue41
 t26:=Tryz.underlying3
 a26:=Tryz.isAgg3
 z26:=Tryz.sizeOf3
 v26:=Tryz.zeroValue3
 t28:=Tryz.underlying127
 a28:=Tryz.isAgg127
 z28:=Tryz.sizeOf127
 v28:=Tryz.zeroValue127
 i26:=by kernel_rfl
}
def sortA_ren:Go.Shelf.Ren:=⟨fun | 5=>102 | 8=>170 | 7=>169 | 19=>267 | 20=>268 | 10=>258 | 11=>259 | 12=>260 | 13=>261 | 14=>262 | 15=>263 | 16=>264 | 17=>265 | 18=>266 | 30=>319 | 31=>320 | 32=>321 | 33=>322 | 34=>323 | 35=>324 | 40=>349 | n=>n,fun | 23=>41 | 25=>3 | 3=>3 | 32=>250 | 22=>41 | 0=>0 | 44=>333 | 46=>322 | 4=>4 | 36=>327 | 35=>326 | 41=>122 | 5=>5 | 9=>9 | 53=>364 | 57=>368 | 63=>390 | 64=>100 | n=>n,fun | n=>n⟩
theorem sortA:Go.Proofs.SlLaysM.n5 Tryz.prog sortA_ren:={
 mixed:=by kernel_rfl
 f5:=⟨Tryz.f102.name,by decide,Tryz.func102.trans (congrArg some (by kernel_rfl))⟩
 f7:=⟨Tryz.f169.name,by decide,Tryz.func169.trans (congrArg some (by kernel_rfl))⟩
 f8:=Tryz.func170.trans (congrArg some (by kernel_rfl))
 f10:=⟨Tryz.f258.name,by decide,Tryz.func258.trans (congrArg some (by kernel_rfl))⟩
 f11:=⟨Tryz.f259.name,by decide,Tryz.func259.trans (congrArg some (by kernel_rfl))⟩
 f12:=⟨Tryz.f260.name,by decide,Tryz.func260.trans (congrArg some (by kernel_rfl))⟩
 f13:=⟨Tryz.f261.name,by decide,Tryz.func261.trans (congrArg some (by kernel_rfl))⟩
 f14:=⟨Tryz.f262.name,by decide,Tryz.func262.trans (congrArg some (by kernel_rfl))⟩
 f15:=⟨Tryz.f263.name,by decide,Tryz.func263.trans (congrArg some (by kernel_rfl))⟩
 f16:=⟨Tryz.f264.name,by decide,Tryz.func264.trans (congrArg some (by kernel_rfl))⟩
 f17:=⟨Tryz.f265.name,by decide,Tryz.func265.trans (congrArg some (by kernel_rfl))⟩
 f18:=⟨Tryz.f266.name,by decide,Tryz.func266.trans (congrArg some (by kernel_rfl))⟩
 f19:=Tryz.func267.trans (congrArg some (by kernel_rfl))
 f20:=Tryz.func268.trans (congrArg some (by kernel_rfl))
 f30:=⟨Tryz.f319.name,by decide,Tryz.func319.trans (congrArg some (by kernel_rfl))⟩
 f31:=Tryz.func320.trans (congrArg some (by kernel_rfl))
 f32:=Tryz.func321.trans (congrArg some (by kernel_rfl))
 f33:=⟨Tryz.f322.name,by decide,Tryz.func322.trans (congrArg some (by kernel_rfl))⟩
 f34:=⟨Tryz.f323.name,by decide,Tryz.func323.trans (congrArg some (by kernel_rfl))⟩
 f35:=⟨Tryz.f324.name,by decide,Tryz.func324.trans (congrArg some (by kernel_rfl))⟩
 f40:=⟨Tryz.f349.name,by decide,Tryz.func349.trans (congrArg some (by kernel_rfl))⟩
 t0:=Tryz.underlying0
 a0:=Tryz.isAgg0
 z0:=Tryz.sizeOf0
 v0:=Tryz.zeroValue0
 t3:=Tryz.underlying3
 a3:=Tryz.isAgg3
 z3:=Tryz.sizeOf3
 v3:=Tryz.zeroValue3
 t4:=Tryz.underlying4
 a4:=Tryz.isAgg4
 z4:=Tryz.sizeOf4
 v4:=Tryz.zeroValue4
 t5:=Tryz.underlying5
 a5:=Tryz.isAgg5
 z5:=Tryz.sizeOf5
 v5:=Tryz.zeroValue5
 t9:=Tryz.underlying9
 a9:=Tryz.isAgg9
 z9:=Tryz.sizeOf9
 v9:=Tryz.zeroValue9
 t22:=Tryz.underlying41
 a22:=Tryz.isAgg41
 z22:=Tryz.sizeOf41
 v22:=Tryz.zeroValue41
 t23:=Tryz.underlying41
 a23:=Tryz.isAgg41
 z23:=Tryz.sizeOf41
 v23:=Tryz.zeroValue41
 t25:=Tryz.underlying3
 a25:=Tryz.isAgg3
 z25:=Tryz.sizeOf3
 v25:=Tryz.zeroValue3
 t32:=Tryz.underlying250
 a32:=Tryz.isAgg250
 z32:=Tryz.sizeOf250
 v32:=Tryz.zeroValue250
 t35:=Tryz.underlying326
 a35:=Tryz.isAgg326
 z35:=Tryz.sizeOf326
 v35:=Tryz.zeroValue326
 t36:=Tryz.underlying327
 a36:=Tryz.isAgg327
 z36:=Tryz.sizeOf327
 v36:=Tryz.zeroValue327
 t41:=Tryz.underlying122
 a41:=Tryz.isAgg122
 z41:=Tryz.sizeOf122
 v41:=Tryz.zeroValue122
 t44:=Tryz.underlying333
 a44:=Tryz.isAgg333
 z44:=Tryz.sizeOf333
 v44:=Tryz.zeroValue333
 t46:=Tryz.underlying322
 a46:=Tryz.isAgg322
 z46:=Tryz.sizeOf322
 v46:=Tryz.zeroValue322
 t53:=Tryz.underlying364
 a53:=Tryz.isAgg364
 z53:=Tryz.sizeOf364
 v53:=Tryz.zeroValue364
 t57:=Tryz.underlying368
 a57:=Tryz.isAgg368
 z57:=Tryz.sizeOf368
 v57:=Tryz.zeroValue368
 t63:=Tryz.underlying390
 a63:=Tryz.isAgg390
 z63:=Tryz.sizeOf390
 v63:=Tryz.zeroValue390
 t64:=Tryz.underlying100
 a64:=Tryz.isAgg100
 z64:=Tryz.sizeOf100
 v64:=Tryz.zeroValue100
}
theorem sortsA (m:Nat):AnyZI.SortsIn Tryz.prog sortedA_ren Fence.wide m :=
 ⟨fun blk off cap ss W hH hblk hsz=>callsIn_wide.2 (AnyM.slices_Sort_int sortA blk off cap ss W hH hblk hsz),
  fun p cap W=>callsIn_wide.2 (AnyM.slices_Sort_int_none sortA p cap W)⟩
theorem keys_call (mb:Option Nat) (W:World):Calls Tryz.prog 56 #[.map mb] W fun e w' =>
  e = .returned (.func (.func 103) #[] #[.pointer (some ⟨W.heap.size,0,none⟩)]) ∧ w' = W.alloc (.cells #[.map mb] 96) :=
 (callsIn_wide (n:=5)).1 (AnyZI.keys_in keysA Fence.wide 5 trivial rfl mb W)
theorem sorted_call {H:Type} (b nn:Nat) (D0:DataW H) (R:Value → Option (DataW H × List MemPlace)) (w:World) (hown:w.ownsMap Tryz.prog 3 R b nn D0) (hmax:Maps.size D0 ≤ maxLen) (hbytes:Maps.size D0 * 8 ≤ 140737488355328) :
  Calls Tryz.prog 55 #[.func (.func 103) #[] #[.pointer (some ⟨w.heap.size,0,none⟩)]] (w.alloc (.cells #[.map (some b)] 96)) fun e w' =>
   ∃ (v:Value) (ss:List Int),e = .returned v ∧ ss.Perm (intKeys D0) ∧
   w'.ownsRow (w.alloc (.cells #[.map (some b)] 96)).heap.size 3 1 v ss.length ((ss.mergeSort (fun x y=>decide (x ≤ y))).map encZ) ∧ (v = .slice none 0 0 ↔ ss = []) ∧ Below (w.alloc (.cells #[.map (some b)] 96)).heap.size (w.alloc (.cells #[.map (some b)] 96)) w':=by
 have hbl:=hown.lt
 have hseq:SeqGives Fence.wide 2 Tryz.prog 103 #[.pointer (some ⟨w.heap.size,0,none⟩)] encZ (fun ss=>ss.Perm (intKeys D0)) (Maps.size D0) (w.alloc (.cells #[.map (some b)] 96)) :=
  AnyZI.keys_gives (ρ:=keysA_ren) { keysA with } Fence.wide _ trivial rfl (by omega) w.heap.size b nn D0 _ (by simp) (by simp) (by
   obtain ⟨es,clock,hb,Ft,hs,hD⟩:=hown
   exact ⟨es,clock,(Below.heap_alloc _ _ b hbl).trans hb,Ft,hs,hD⟩)
 have cS:=AnyZI.sorted_in sortedA Fence.wide 5 trivial trivial trivial trivial rfl (by omega) (sortsA _) (enters_of Tryz.func102 (by kernel_rfl) rfl) 103 #[.pointer (some ⟨w.heap.size,0,none⟩)] trivial (enters_of Tryz.func103 (by kernel_rfl) rfl) _ _ hmax hbytes _ hseq
 exact (callsIn_wide (n:=5)).1 cS
theorem sorted_keys {w:World} {b:Nat} {new:List ByteArray} (h:SecMap w b new) (hn:new.length ≤ 2048) :
  Calls Tryz.prog 55 #[.func (.func 103) #[] #[.pointer (some ⟨w.heap.size,0,none⟩)]] (w.alloc (.cells #[.map (some b)] 96)) fun e w' =>
   ∃ (A:Option Addr) (c:Nat),e = .returned (.slice A (cnt new new.length) c) ∧ IntsAt w' A (dirtyK new new.length) ∧ (∀ ad,A = some ad → w.heap.size ≤ ad.block) ∧ Below w.heap.size w w':=by
 obtain ⟨DM,hown,hsays⟩:=h
 have hsz:=size_cnt hown hsays
 have hle:=cnt_le new new.length
 refine (sorted_call b new.length DM rdSec w hown (by unfold maxLen;omega) (by omega)).mono ?_
 rintro e w' ⟨v,ss,rfl,hp,hrow,_,hb⟩
 have hlen:ss.length = cnt new new.length:=by
  rw [hp.length_eq,← (keys_perm hown hsays).length_eq,dirtyK_cnt (Nat.le_refl _)]
 have hsort:ss.mergeSort (fun x y=>decide (x ≤ y)) = dirtyK new new.length:=by
  have h1:=mergeSort_of_perm_i (hp.trans (keys_perm hown hsays).symm)
  have h2:(dirtyK new new.length).mergeSort leI = dirtyK new new.length:=List.mergeSort_of_pairwise (dirtyK_sorted _ _)
  exact h1.trans h2
 rw [hsort] at hrow
 have hrow':w'.ownsRow (w.alloc (.cells #[.map (some b)] 96)).heap.size 3 1 v ss.length (intV (dirtyK new new.length)):=hrow
 have hbl:Below w.heap.size w w':=((Below.refl _ w).alloc (Nat.le_refl _) _).trans (hb.mono (by simp))
 obtain ⟨A,c,rfl,hi⟩:=ints_of_own hrow' (by rw [hlen,dirtyK_cnt (Nat.le_refl _)])
 refine ⟨A,c,by rw [hlen],hi,fun ad had=>?_,hbl⟩
 rcases hrow'.2 with ⟨h1,_⟩ | ⟨g',cap',cur,h1,hg,_⟩
 ·simp only [Value.slice.injEq] at h1
  rw [h1.1] at had;cases had
 ·simp only [Value.slice.injEq] at h1
  rw [h1.1] at had
  cases had
  have:(w.alloc (.cells #[.map (some b)] 96)).heap.size = w.heap.size + 1:=(blk1 w _).1
  show w.heap.size ≤ g'
  omega
end Sc
end Go.Proofs.YtmidncclndongaaGreat
namespace Go.Proofs.YtmidncclndongaaGreat
namespace Sc
open Go.RowKit Bk
attribute [local go_sem ↓] Go.wp_at_zero Go.wp_at_succ
attribute [local go_sem] floatUpon pick
theorem cnt_mono {new:List ByteArray} {i:Nat}:∀ {k:Nat},i ≤ k → k ≤ new.length → cnt new i ≤ cnt new k
 | 0,h,_=>by rw [show i = 0 by omega];exact Nat.le_refl _
 | k + 1,h,hk=>by
  rcases Nat.eq_or_lt_of_le h with e | e
  ·rw [e];exact Nat.le_refl _
  ·have h1:=cnt_mono (new:=new) (i:=i) (k:=k) (by omega) (by omega)
   rw [cnt_succ (show k < new.length by omega)]
   omega
theorem cnt_lt {new:List ByteArray} {i k:Nat} (h:i < k) (hk:k ≤ new.length) (hw:new.getD i nil0 ≠ nil0):cnt new i < cnt new k:=by
 have hi:i < new.length:=by omega
 have h1:=cnt_mono (new:=new) (i:=i + 1) (k:=k) (by omega) hk
 rw [cnt_succ hi,if_neg (by rw [← getD_at hi];exact hw)] at h1
 omega
def crF (D:Dev) (ps:List Int) (j i:Nat):ByteArray:=if cnt D.new i < j then tearF D ps i else D.on.getD i nil0
def crL (D:Dev) (ps:List Int) (j:Nat):List ByteArray:=(List.range D.on.length).map (crF D ps j)
theorem crL_len (D:Dev) (ps:List Int) (j:Nat):(crL D ps j).length = D.on.length:=by simp [crL]
theorem crL_64 {D:Dev} (hok:DevOk D) (ps:List Int) (j:Nat):∀ s ∈ crL D ps j,s.size = 64:=fun s hs=>by
 unfold crL at hs
 obtain ⟨i,hi,rfl⟩:=List.mem_map.1 hs
 rw [List.mem_range] at hi
 unfold crF
 split
 ·exact tear64 hok ps hi
 ·exact hok.on64 _ (getD_mem hi)
theorem crL_start (D:Dev) (ps:List Int):crL D ps 0 = D.on:=by
 refine List.ext_getElem (crL_len D ps 0) fun i h1 h2=>?_
 simp only [crL,List.getElem_map,List.getElem_range]
 unfold crF
 rw [if_neg (by omega),getD_at h2]
theorem tear_calm {D:Dev} {ps:List Int} {i:Nat} (h:D.new.getD i nil0 = nil0):tearF D ps i = D.on.getD i nil0:=by unfold tearF;rw [if_pos h]
theorem crL_end {D:Dev} (hok:DevOk D) (ps:List Int):crL D ps (cnt D.new D.new.length) = upd D.on D.on.length (tearF D ps):=by
 unfold crL upd
 refine List.map_congr_left fun i hi=>?_
 rw [List.mem_range] at hi
 rw [if_pos hi]
 unfold crF
 split
 ·rfl
 next h =>
  have hw:D.new.getD i nil0 = nil0:=Classical.byContradiction fun hw=>h (cnt_lt (by rw [hok.len];exact hi) (Nat.le_refl _) hw)
  rw [tear_calm hw]
theorem crL_at {D:Dev} {ps:List Int} {j i:Nat} (hi:i < D.on.length) (hc:cnt D.new i = j) (h:i < (crL D ps j).length):(crL D ps j)[i] = D.on[i]:=by
 simp only [crL,List.getElem_map,List.getElem_range]
 unfold crF
 rw [if_neg (by omega),getD_at hi]
theorem crL_step {D:Dev} (hok:DevOk D) {ps:List Int} {j i:Nat} (hi:i < D.on.length) (hw:D.new.getD i nil0 ≠ nil0) (hc:cnt D.new i = j) :
  (crL D ps j).set i (torn D.on[i] (D.new.getD i nil0) (ps.getD j 0)) = crL D ps (j + 1):=by
 have hl:=hok.len
 refine List.ext_getElem (by rw [List.length_set,crL_len,crL_len]) fun k h1 h2=>?_
 rw [crL_len] at h2
 rw [List.getElem_set]
 simp only [crL,List.getElem_map,List.getElem_range]
 unfold crF
 by_cases e:i = k
 ·subst e
  rw [if_pos rfl,if_pos (by omega)]
  unfold tearF
  rw [if_neg hw,getD_at hi,hc]
 ·rw [if_neg e]
  by_cases hk:cnt D.new k = j
  ·have hk2:D.new.getD k nil0 = nil0:=Classical.byContradiction fun hk2=>by
    rcases Nat.lt_or_gt_of_ne e with h3 | h3
    ·have:=cnt_lt (new:=D.new) h3 (by omega) hw;omega
    ·have:=cnt_lt (new:=D.new) h3 (by omega) hk2;omega
   rw [if_neg (by omega),if_pos (by omega),tear_calm hk2]
  ·by_cases h3:cnt D.new k < j
   ·rw [if_pos h3,if_pos (by omega)]
   ·rw [if_neg h3,if_neg (by omega)]
theorem copy_part {w:World} {a vb i m:Nat} {l:List ByteArray} {n:ByteArray} (ty:TypeId) (h:Cel w a 117 (onC l)) (h64:∀ s ∈ l,s.size = 64) (hi:i < l.length) (hv:Cel w vb 117 (secC n)) (hn:n.size = 64) (hm:m ≤ 64)
  (t:ByteArray) (ht:secC t = (secC n).take m ++ (secC l[i]).drop m) :
  (Builtin.copy_ #[119,119] ty #[.slice (some ⟨a,i * 64,none⟩) 64 64,.slice (some ⟨vb,0,none⟩) m 64]).run Tryz.prog w = .ok (goInt m) (w.setRow a (onC (l.set i t)).toArray):=by
 obtain ⟨i0,hi0,hz0,hz1,hz2⟩:=info_parts Bk.Tryz.infoU8
 have hinfo:(Tryz.prog.info? 5).map (·.size) = some 1:=by rw [hi0];simp [hz1]
 have hnl:(secC n).length = 64:=by rw [secC_len,hn]
 have hcl:((secC n).take m).length = m:=by rw [List.length_take,hnl];omega
 have hl:=onC_len h64
 have hrun:=run_copy_row Tryz.prog w 119 119 ty 5 a (i * 64) 64 64 ⟨vb,0,none⟩ m 64 (onC l).toArray 117 ((secC n).take m) Tryz.underlying119 hinfo h (by rw [hcl];exact (Nat.min_eq_left hm).symm)
  (fun j v hj=>by
   rw [addr_head]
   refine hv.cell ?_
   have:j < m:=by have:=(List.getElem?_eq_some_iff.1 hj).1;rw [hcl] at this;exact this
   rw [List.getElem?_take_of_lt this] at hj
   exact hj)
  (by rw [hcl,List.size_toArray,hl];omega) (fun v hv=>secC_one n v (List.mem_of_mem_take hv))
 rw [hrun,hcl,List.toList_toArray]
 rw [onC_over h64 hi hcl hm,← ht,← onC_set hi]
section
variable {w w':World} {g a b:Nat} {D:Dev}
theorem ints_row {W:World} {A:Option Addr} {l:List Int} (h:IntsAt W A l) {k:Nat} (hk:∀ ad,A = some ad → ad.block ≠ k) (c:Array Value):IntsAt (W.setRow k c) A l:=fun hp=>by
 obtain ⟨ad,h1,h2,h3⟩:=h hp
 refine ⟨ad,h1,by simpa using h2,fun i hi=>?_⟩
 have e:(W.setRow k c).heap[(ad.add i).block]? = W.heap[(ad.add i).block]?:=by rw [st_block];exact row_far c (hk ad h1)
 rw [show (W.setRow k c).cell? (ad.add i) = W.cell? (ad.add i) from by unfold World.cell?;rw [e]]
 exact h3 i hi
structure CrEnv (w W:World) (g a b:Nat) (A:Option Addr) (D:Dev) (ps:List Int) (j:Nat):Prop where
 d:LAt W g a b ⟨crL D ps j,D.new,D.left,D.down⟩
 f:Fr (LFoot g a b) (LFoot g a b) w W
 ks:IntsAt W A (dirtyK D.new D.new.length)
 an:∀ ad,A = some ad → w.heap.size ≤ ad.block
theorem CrEnv.step {W W':World} {A:Option Addr} {ps:List Int} {j:Nat} (h:CrEnv w W g a b A D ps j) (hb:Below W.heap.size W W'):CrEnv w W' g a b A D ps j :=
 ⟨h.d.step hb,h.f.below hb,h.ks.below hb,h.an⟩
theorem CrEnv.put {W:World} {A:Option Addr} {ps:List Int} {j i:Nat} (hok:DevOk D) (hw0:a < w.heap.size) (hi:i < D.on.length) (hw:D.new.getD i nil0 ≠ nil0) (hc:cnt D.new i = j) (h:CrEnv w W g a b A D ps j) {n:ByteArray} {p:Int} (hn:n = D.new.getD i nil0) (hp:p = ps.getD j 0) :
  CrEnv w (W.setRow a (onC ((crL D ps j).set i (torn D.on[i] n p))).toArray) g a b A D ps (j + 1):=by
 subst hn
 subst hp
 have hd:=h.d.setRow (l:=(crL D ps j).set i (torn D.on[i] (D.new.getD i nil0) (ps.getD j 0))) (by simp)
 refine ⟨?_,h.f.row (.inl lfoot_a) _,ints_row h.ks (fun ad had e=>by have:=h.an ad had;omega) _,h.an⟩
 rw [crL_step hok hi hw hc] at hd ⊢
 exact hd
structure CrMid (w W:World) (g a b vb:Nat) (A:Option Addr) (D:Dev) (ps:List Int) (j:Nat) (n:ByteArray):Prop where
 e:CrEnv w W g a b A D ps j
 c:Cel W vb 117 (secC n)
end
section
variable {w w':World} {g a b:Nat} {D:Dev}
theorem CrMid.step {W W':World} {vb:Nat} {A:Option Addr} {ps:List Int} {j:Nat} {n:ByteArray} (h:CrMid w W g a b vb A D ps j n) (hb:Below W.heap.size W W'):CrMid w W' g a b vb A D ps j n:=⟨h.e.step hb,h.c.below hb⟩
theorem lcrash_any (h:LAt w g a b D) (hok:DevOk D) (A:Option Addr) (c:Nat) (ps:List Int) (hp:IntsAt w A ps) (hpd:0 < ps.length → ∀ x,A = some x → ¬ LFoot g a b x.block) (hpl:ps.length ≤ 140737488351232) :
  Calls Tryz.prog 26 #[.pointer (some ⟨g,0,none⟩),.slice A ps.length c] w fun e w'=>e = .returned (.tuple #[]) ∧ LAt w' g a b (crD D ps) ∧ Fr (LFoot g a b) (LFoot g a b) w w':=by
 have k1:=h.cel.cell (i:=1) rfl
 have hmx:=hok.max
 have HSk:=Lib.hid (sorted_keys h.mp (by rw [hok.len];exact hmx))
 have hlt0:=Lib.hid (And.intro h.ro.lt h.mp.lt)
 have HPs:=Lib.hid (fun wr (hf:Fr (LFoot g a b) (LFoot g a b) w wr) (k:Nat) (hk:k < ps.length)=>show ∃ ad,A = some ad ∧ wr.cell? (ad.add k) = some (.int .i64 ps[k]) from by
  obtain ⟨ad,e,hb,hc⟩:=hp (by omega)
  refine ⟨ad,e,?_⟩
  have hkp:wr.heap[(ad.add k).block]? = w.heap[(ad.add k).block]?:=by rw [st_block];exact hf.block _ hb (hpd (by omega) ad e)
  rw [show wr.cell? (ad.add k) = w.cell? (ad.add k) from by unfold World.cell?;rw [hkp]]
  exact hc k hk)
 have H:=Lib.hid h
 have HOk:=Lib.hid hok
 have hzs:=zero_sec
 obtain ⟨Z,hZ⟩:∃ Z,Z = secC zero64:=⟨_,rfl⟩
 have hZl:Z.length = 64:=by rw [hZ,secC_len];rfl
 unfold secV at hzs
 rw [← hZ] at hzs
 have HZ:=Lib.hid hZl
 have hle:cnt D.new D.new.length ≤ 2048:=by have:=cnt_le D.new D.new.length;rw [hok.len] at this ⊢;omega
 clear h hok hp hpd hZ hZl
 go_enter Tryz.func26,Tryz.ntmps26
 go_wp2_with fail
 refine (keys_call _ _).mono ?_
 rintro e w1 ⟨rfl,rfl⟩
 go_wp2_with fail
 refine HSk.out.mono ?_
 rintro e w2 ⟨B,cB,rfl,hB,hBn,hb2⟩
 have HE0:Hid (CrEnv w w2 g a b B D ps 0):=Lib.hid (by
  refine ⟨?_,(Fr.refl _ w).below hb2,hB,hBn⟩
  rw [crL_start]
  exact H.out.step hb2)
 obtain ⟨N,hN⟩:∃ N,N = cnt D.new D.new.length:=⟨_,rfl⟩
 rw [← hN] at hle ⊢
 have HN:=Lib.hid hN
 clear hB hBn hb2 HSk k1 hN
 have pN:(N:Int) ≤ 2048:=by omega
 go_wp2_with fail
 go_loopw [4,5,6,7,15] (fun _ _ _ _ i wr=>∃ j:Nat,j ≤ N ∧ i = .int .i64 (j:Int) ∧ Hid (CrEnv w wr g a b B D ps j)) (fun _ _ _ _ i _=>N - (intOf i).toNat)
 case atStart=>exact ⟨0,by omega,rfl,HE0.out⟩
 case round =>
  obtain ⟨j,hj,rfl,hr⟩:=hrel
  clear HE0
  by_cases hlt:j < N
  ·have hlk:j < (dirtyK D.new D.new.length).length:=by rw [dirtyK_cnt (Nat.le_refl _),← HN.out];exact hlt
   obtain ⟨i,hx,hi,hw,hc⟩:=dirtyK_at (Nat.le_refl _) (List.getElem?_eq_getElem hlk)
   obtain ⟨bd,hBe,hbl,hcell⟩:=hr.out.ks (by omega)
   have xk:=hcell j hlk
   rw [hx] at xk
   subst hBe
   have hn:i < D.on.length:=by rw [← HOk.out.len];exact hi
   have hn64:=(HOk.out.new64 _ (getD_mem hi)).resolve_left hw
   have hsl:=slot_nat hi
   rw [if_neg hw] at hsl
   have k1:=hr.out.d.cel.cell (i:=1) rfl
   have hgl:=hr.out.d.cel.lt
   have pn:(i:Int) < (D.on.length:Int):=by omega
   have pj:(j:Int) < (N:Int):=by omega
   have hn48:(i:Int) ≤ 2048:=by omega
   have hlk1:=hr.out.d.mp.look1 (x:=(i:Int)) (by omega) (by omega) hsl
   obtain ⟨n,hnv⟩:∃ n,n = D.new.getD i nil0:=⟨_,rfl⟩
   rw [← hnv] at hn64 hlk1
   obtain ⟨p,hpv⟩:∃ p,p = ps.getD j 0:=⟨_,rfl⟩
   obtain ⟨m,hm⟩:∃ m,cutN p = m:=⟨_,rfl⟩
   have hm64:m ≤ 64:=by rw [← hm];exact cut_le p
   have pm:(m:Int) ≤ 64:=by omega
   have HRe:=Lib.hid (fun W=>by have:=reached_any p W;rw [hm] at this;exact this)
   have htc:=torn_cells (HOk.out.on64 _ (List.getElem_mem hn)) hn64 p
   rw [hm] at htc
   have hs1:=put_cells wr Z HZ.out hn64
   have hcl:(secC n).length = 64:=by rw [secC_len,hn64]
   unfold secV at hlk1
   have HM:Hid (CrMid w (wr.alloc (.cells (secC n).toArray 117)) g a b wr.heap.size (some bd) D ps j n):=Lib.hid
    ⟨hr.out.step ((Below.refl _ wr).alloc (Nat.le_refl _) _),heap_alloc_new wr _⟩
   have HI:=Lib.hid (And.intro hi (And.intro hw (And.intro hc (And.intro hn (And.intro hn64 (And.intro hnv (And.intro hpv (And.intro htc hm64))))))))
   have hP:=HPs.out wr hr.out.f
   clear hlk hx hi hw hc hn64 hnv htc hm64 hsl hcell hle
   obtain ⟨C1,hC⟩:∃ C1,secC n = C1:=⟨_,rfl⟩
   have HC:=Lib.hid hC
   rw [hC] at hs1 hlk1 hcl HM
   clear hC
   by_cases hk:j < ps.length
   case neg =>
    have hp0:p = 0:=by rw [hpv,List.getD_eq_getElem?_getD,List.getElem?_eq_none (by omega)];rfl
    have pk:(ps.length:Int) ≤ (j:Int):=by omega
    have hmv:m = 0:=by rw [← hm,hp0];rfl
    subst hp0
    clear hm hpv hk hP hmv
    go_upto_region 7 with fail
    generalize wr.alloc (.cells C1.toArray 117) = W1 at HM ⊢
    generalize wr.heap.size = vb at HM ⊢
    clear hs1 hlk1 hcl k1 hgl xk
    refine wp_region_said 10 [34,35,36,37,38,39,40,41,42,43]
     [.is (.pointer (some ⟨g,0,none⟩)),.is (.pointer (some ⟨g,0,none⟩)),.is (.pointer (some ⟨g,0,none⟩)),.is (.slice (some ⟨a,0,none⟩) D.on.length D.on.length),.is (.int .i64 (i:Int)),.is (.pointer (some ⟨a,i * 64,none⟩)),.is (.slice (some ⟨a,i * 64,none⟩) 64 64),.is (.int .i64 0),.is (.int .i64 (m:Int)),.is (.slice (some ⟨vb,0,none⟩) m 64)]
     (fun W=>CrMid w W g a b vb (some bd) D ps j n) (by kernel_rfl) (by kernel_rfl) (by kernel_rfl) (by kernel_rfl) (by kernel_rfl) (fun W W' h hb=>h.step hb) HM.out ?stepsa ?lasta
    case stepsa =>
     simp only [List.take_succ_cons,List.take_zero]
     refine ⟨?_,?_,?_,?_,?_,?_,?_,?_,?_,?_,trivial⟩
     all_goals
      intro vs W ρ hρ hc hf hg hI hH hd R' hR
      have z0:=hI.e.d.cel.cell (i:=0) rfl
      simp only [crL_len] at z0
      have HR:=Lib.hid hR
      simp [depsOf,Region.binds,sayAt,Say.holds] at hd
      clear hR hI
      go_simp
      first
       | exact HR.out _ _ (by simp [sayAt,Say.holds]) (Below.refl _ _) (by simp [sayAt,Say.isBlk])
       | (refine (HRe.out _).mono ?_;rintro e w' ⟨rfl,rfl⟩;exact ⟨_,rfl,HR.out _ _ (by simp [sayAt,Say.holds]) (Below.refl _ _) (by simp [sayAt,Say.isBlk])⟩)
       | trace_state
    case lasta =>
     intro vs W hI hb hg hd
     have e6:=hg 6 (by omega)
     have e9:=hg 9 (by omega)
     simp only [sayAt,Say.holds,List.getD_cons_succ,List.getD_cons_zero] at e6 e9
     simp only [List.take_succ_cons,List.take_zero,List.drop_succ_cons,List.drop_zero,putAll,Act.put,List.setIfInBounds_toArray,List.set_cons_succ,List.set_cons_zero,Nat.zero_add,Nat.reduceAdd]
     rw [e6,e9]
     have hcp:=fun ty=>copy_part ty hI.e.d.ro (crL_64 HOk.out ps j) (i:=i) (by rw [crL_len];exact HI.out.2.2.2.1) hI.c HI.out.2.2.2.2.1 HI.out.2.2.2.2.2.2.2.2 (torn D.on[i] n 0) (by
      rw [crL_at HI.out.2.2.2.1 HI.out.2.2.1];exact HI.out.2.2.2.2.2.2.2.1)
     have hA:=CrEnv.put HOk.out hlt0.out.1 HI.out.2.2.2.1 HI.out.2.1 HI.out.2.2.1 hI.e HI.out.2.2.2.2.2.1 HI.out.2.2.2.2.2.2.1
     have HA:=Lib.hid hA
     clear hA
     generalize W.setRow a (onC ((crL D ps j).set i (torn D.on[i] n 0))).toArray = W6 at HA hcp ⊢
     have wj:IntKind.i64.wrap ((j:Int) + 1) = (j:Int) + 1:=i64_wrap (by omega) (by omega)
     clear e6 e9 hg hd hb hI HM HC HI HRe
     go_wp2_with fail
     go_roundw
     case rel=>exact ⟨j + 1,by omega,by go_num,HA.out⟩
     case measure=>simp [intOf];omega
   case pos =>
    obtain ⟨ad,hAe,xp⟩:=hP j hk
    have hp1:ps[j] = p:=by rw [hpv,List.getD_eq_getElem?_getD,List.getElem?_eq_getElem hk];rfl
    rw [hp1] at xp
    have pk:(j:Int) < (ps.length:Int):=by omega
    subst hAe
    clear hm hpv hk hP hp1
    go_upto_region 7 with fail
    generalize wr.alloc (.cells C1.toArray 117) = W1 at HM ⊢
    generalize wr.heap.size = vb at HM ⊢
    clear hs1 hlk1 hcl k1 hgl xk
    refine wp_region_said 10 [34,35,36,37,38,39,40,41,42,43]
     [.is (.pointer (some ⟨g,0,none⟩)),.is (.pointer (some ⟨g,0,none⟩)),.is (.pointer (some ⟨g,0,none⟩)),.is (.slice (some ⟨a,0,none⟩) D.on.length D.on.length),.is (.int .i64 (i:Int)),.is (.pointer (some ⟨a,i * 64,none⟩)),.is (.slice (some ⟨a,i * 64,none⟩) 64 64),.is (.int .i64 p),.is (.int .i64 (m:Int)),.is (.slice (some ⟨vb,0,none⟩) m 64)]
     (fun W=>CrMid w W g a b vb (some bd) D ps j n) (by kernel_rfl) (by kernel_rfl) (by kernel_rfl) (by kernel_rfl) (by kernel_rfl) (fun W W' h hb=>h.step hb) HM.out ?stepsb ?lastb
    case stepsb =>
     simp only [List.take_succ_cons,List.take_zero]
     refine ⟨?_,?_,?_,?_,?_,?_,?_,?_,?_,?_,trivial⟩
     all_goals
      intro vs W ρ hρ hc hf hg hI hH hd R' hR
      have z0:=hI.e.d.cel.cell (i:=0) rfl
      simp only [crL_len] at z0
      have HR:=Lib.hid hR
      simp [depsOf,Region.binds,sayAt,Say.holds] at hd
      clear hR hI
      go_simp
      first
       | exact HR.out _ _ (by simp [sayAt,Say.holds]) (Below.refl _ _) (by simp [sayAt,Say.isBlk])
       | (refine (HRe.out _).mono ?_;rintro e w' ⟨rfl,rfl⟩;exact ⟨_,rfl,HR.out _ _ (by simp [sayAt,Say.holds]) (Below.refl _ _) (by simp [sayAt,Say.isBlk])⟩)
       | trace_state
    case lastb =>
     intro vs W hI hb hg hd
     have e6:=hg 6 (by omega)
     have e9:=hg 9 (by omega)
     simp only [sayAt,Say.holds,List.getD_cons_succ,List.getD_cons_zero] at e6 e9
     simp only [List.take_succ_cons,List.take_zero,List.drop_succ_cons,List.drop_zero,putAll,Act.put,List.setIfInBounds_toArray,List.set_cons_succ,List.set_cons_zero,Nat.zero_add,Nat.reduceAdd]
     rw [e6,e9]
     have hcp:=fun ty=>copy_part ty hI.e.d.ro (crL_64 HOk.out ps j) (i:=i) (by rw [crL_len];exact HI.out.2.2.2.1) hI.c HI.out.2.2.2.2.1 HI.out.2.2.2.2.2.2.2.2 (torn D.on[i] n p) (by
      rw [crL_at HI.out.2.2.2.1 HI.out.2.2.1];exact HI.out.2.2.2.2.2.2.2.1)
     have hA:=CrEnv.put HOk.out hlt0.out.1 HI.out.2.2.2.1 HI.out.2.1 HI.out.2.2.1 hI.e HI.out.2.2.2.2.2.1 HI.out.2.2.2.2.2.2.1
     have HA:=Lib.hid hA
     clear hA
     generalize W.setRow a (onC ((crL D ps j).set i (torn D.on[i] n p))).toArray = W6 at HA hcp ⊢
     have wj:IntKind.i64.wrap ((j:Int) + 1) = (j:Int) + 1:=i64_wrap (by omega) (by omega)
     clear e6 e9 hg hd hb hI HM HC HI HRe
     go_wp2_with fail
     go_roundw
     case rel=>exact ⟨j + 1,by omega,by go_num,HA.out⟩
     case measure=>simp [intOf];omega
  ·obtain rfl:j = N:=by omega
   have HR:=Lib.hid (lrestart_any hr.out.d D.on.length)
   have HF:=Lib.hid hr.out.f
   clear hr
   go_wp2_with fail
   refine HR.out.mono ?_
   rintro e w5 ⟨rfl,hb⟩
   have HB:=Lib.hid hb
   clear hb
   go_wp2_with fail
   refine bodyPost_end (results_none rfl _ _ _) rfl ?_
   refine ⟨rfl,?_,HF.out.trans HB.out.2⟩
   have e1:calm ⟨crL D ps j,D.new,D.left,D.down⟩ D.on.length = crD D ps:=by
    unfold calm crD
    rw [HN.out,crL_end HOk.out,← HOk.out.len,upd_all]
   rw [← e1]
   exact HB.out.1
end
end Sc
end Go.Proofs.YtmidncclndongaaGreat
namespace Go.Proofs.YtmidncclndongaaGreat
namespace Sc
open Go.RowKit Bk
theorem devBase:DevBase Rep where
 lt:=fun {W F g D} h=>by obtain ⟨a,b,rfl,h1,_⟩:=h;exact h1.lt
 ok:=fun {W F g D} h=>by obtain ⟨a,b,_,_,h2⟩:=h;exact h2
 kept:=fun {W W' F g D} h hk=>by obtain ⟨a,b,rfl,h1,h2⟩:=h;exact ⟨a,b,rfl,h1.kept hk,h2⟩
 new:=fun n w _=>lnew_any n w
 size:=fun {F g D} w h=>by
  obtain ⟨a,b,rfl,h1,h2⟩:=h
  refine (lsize_any h1).mono ?_
  rintro e w' ⟨rfl,rfl⟩
  exact ⟨rfl,_,⟨a,b,rfl,h1,h2⟩,Fr.refl _ _⟩
 read:=fun {F g D} i w h hi=>by
  obtain ⟨a,b,rfl,h1,h2⟩:=h
  refine (lread_any h1 h2 i hi).mono ?_
  rintro e w' ⟨rfl,hb⟩
  exact ⟨rfl,_,⟨a,b,rfl,h1.step hb,h2⟩,(Fr.refl _ _).below hb⟩
 write:=fun {F g D} i t w h hi _=>by
  obtain ⟨a,b,rfl,h1,h2⟩:=h
  refine (lwrite_any h1 h2 i hi t).mono ?_
  rintro e w' ⟨rfl,h3,h4⟩
  exact ⟨rfl,_,⟨a,b,rfl,h3,wrD_ok h2 i t⟩,h4⟩
 flush:=fun {F g D} w h=>by
  obtain ⟨a,b,rfl,h1,h2⟩:=h
  refine (lflush_any h1 h2).mono ?_
  rintro e w' ⟨rfl,h3,h4⟩
  exact ⟨rfl,_,⟨a,b,rfl,h3,flD_ok h2⟩,h4⟩
 fuse:=fun {F g D} n w h _=>by
  obtain ⟨a,b,rfl,h1,h2⟩:=h
  refine (lfuse_any h1 n).mono ?_
  rintro e w' ⟨rfl,h3,h4⟩
  exact ⟨rfl,_,⟨a,b,rfl,h3,fuD_ok h2 n⟩,h4⟩
 crash:=fun {F g D} A c ps w h hp hd hl _=>by
  obtain ⟨a,b,rfl,h1,h2⟩:=h
  refine (lcrash_any h1 h2 A c ps hp hd (by unfold reachBytes at hl;omega)).mono ?_
  rintro e w' ⟨rfl,h3,h4⟩
  exact ⟨rfl,_,⟨a,b,rfl,h3,crD_ok h2 ps⟩,h4⟩
end Sc
end Go.Proofs.YtmidncclndongaaGreat
namespace Go.Proofs.YtmidncclndongaaGreat
namespace Rd
open Go.RowKit Sc Bk
theorem devQ:DevQ Sc.Rep where
 lt:=fun h=>devBase.lt h
 ok:=fun h=>devBase.ok h
 kept:=fun h hk=>devBase.kept h hk
 size:=fun {F g D} w h=>by
  obtain ⟨a,b,rfl,h1,h2⟩:=h
  exact lsize_any h1
 read:=fun {F g D} i w h hi=>by
  obtain ⟨a,b,rfl,h1,h2⟩:=h
  exact lread_any h1 h2 i hi
theorem logF:LogF 51 84 86 149 156 Sc.Rep LRep where
 lt:=fun {W F p g n l} h=>by
  obtain ⟨A,B,rfl,h1⟩:=h
  exact h1.lt
 kept:=fun {W W' F p g n l} h hk=>by
  obtain ⟨A,B,rfl,h1⟩:=h
  exact ⟨A,B,rfl,h1.kept hk⟩
 opn:=fun {F g D} w h=>by
  refine (open_any repTxt devBase devQ h).mono ?_
  intro e w' hp
  exact hp
 app:=fun {F L g p D l} t w h hl hd hi _ ht=>by
  obtain ⟨A,B,rfl,h1⟩:=hl
  refine (append_any devQ h h1 hd hi t ht).mono ?_
  rintro e w' ⟨rfl,F',A',B',q1,q2,q3,q4⟩
  exact ⟨rfl,F',_,q1,⟨A',B',rfl,q2⟩,q3,q4⟩
 syn:=fun {F L g p D l} w h hl hd hi hu=>by
  obtain ⟨A,B,rfl,h1⟩:=hl
  refine (sync_any repTxt devBase devQ h h1 hd hi hu).mono ?_
  rintro e w' ⟨rfl,F',A',B',q1,q2,q3,q4⟩
  exact ⟨rfl,F',_,q1,⟨A',B',rfl,q2⟩,q3,q4⟩
 room:=fun {F L g p D l} w h hl hd hi _=>by
  obtain ⟨A,B,rfl,h1⟩:=hl
  refine (room_any devQ h h1 hi.ok).mono ?_
  rintro e w' ⟨rfl,hb⟩
  exact ⟨rfl,F,LFt p A B,devQ.step h hb,⟨A,B,rfl,h1.step hb⟩,hd,fr_refl_below hb⟩
 rst:=fun {F L g p D l} E cE ts w h hl hd hi hu hE hEn hEo hn hs hq=>by
  obtain ⟨A,B,rfl,h1⟩:=hl
  refine (restart_any repTxt devBase devQ h h1 hd hi hu E cE ts hE hEn hEo hn hs hq).mono ?_
  rintro e w' ⟨rfl,F',A',B',q1,q2,q3,q4⟩
  exact ⟨rfl,F',_,q1,⟨A',B',rfl,q2⟩,q3,q4⟩
end Rd
end Go.Proofs.YtmidncclndongaaGreat
