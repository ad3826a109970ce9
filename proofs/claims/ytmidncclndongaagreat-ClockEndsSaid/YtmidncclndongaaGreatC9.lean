/- Parts of the proof, joined: RdRef1, ScView, RdRef2, RdLog, RdRoom, RdSet, RdAll, RdOpenP; their conditions stand with each. -/
import Derived.Test.YtmidncclndongaaGreatC5
import Derived.Test.YtmidncclndongaaGreatC6
import Derived.Test.YtmidncclndongaaGreatC8

set_option maxRecDepth 20000
set_option maxHeartbeats 8000000
namespace Go.Proofs.YtmidncclndongaaGreat
namespace Rd
open Go.RowKit Sc Bk
attribute [local go_sem ↓] Go.wp_at_zero Go.wp_at_succ
attribute [local go_sem] floatUpon pick
def areaN (D:Dev):Nat:=(D.on.length - 2) / 2 * 64
theorem wrap_num {x:Nat} (h:x < 256 ^ 8):(IntKind.i64.wrap (x:Int) = (x:Int) ∧ x ≤ 9223372036854775807) ∨ (IntKind.i64.wrap (x:Int) < 0 ∧ 9223372036854775807 < x):=by
 simp only [IntKind.wrap,IntKind.bits,IntKind.signed];simp;omega
section
variable {w:World} {g:Nat} {ao an:Addr} {co cn:Nat} {so sn:List Value} {D:Dev}
theorem rarea_any (h:RAt w g ao an co cn so sn D) (hok:DevOk D) (h2:2 ≤ D.on.length) :
  Calls Tryz.prog 157 #[.pointer (some ⟨g,0,none⟩)] w fun e w'=>e = .returned (.int .i64 (areaN D:Int)) ∧ w' = w:=by
 have k0:=h.cel.cell (i:=0) rfl
 have hmx:=hok.max
 obtain ⟨x,hx⟩:∃ x,x = (D.on.length - 2) / 2:=⟨_,rfl⟩
 have e2:((D.on.length:Int) - 2).tdiv 2 = (x:Int):=by rw [Int.tdiv_eq_ediv_of_nonneg (by omega)];omega
 have e3:(x:Int) * 64 = (areaN D:Int):=by unfold areaN;omega
 have b1:x ≤ 1024:=by omega
 clear hx
 go_enter Tryz.func157,Tryz.ntmps157
 go_wp2_with fail
 go_ret
 exact ⟨by rw [← e3];rfl,rfl⟩
theorem results_tmp4 {fn:Func} {t u v x:Tmp} (h:fn.results = #[.tmp t,.tmp u,.tmp v,.tmp x]) (tmps:Array Value) (P:Program) (w:World) :
  (results fn tmps).run P w = .ok (.tuple #[tmps.getD t undef,tmps.getD u undef,tmps.getD v undef,tmps.getD x undef]) w:=by
 simp [results,h]
theorem u8_i64 (b:UInt8):IntKind.i64.wrap (b.toNat:Int) = (b.toNat:Int):=by
 have:=b.toNat_lt
 exact i64_wrap (by omega) (by omega)
theorem rhd_any (h:RAt w g ao an co cn so sn D) (hok:DevOk D) (h2:2 ≤ D.on.length) (s:ByteArray) (hs:s.size = 64) :
  Calls Tryz.prog 129 #[.pointer (some ⟨g,0,none⟩),.string s] w fun e w'=>e = .returned (.tuple #[.int .i64 (IntKind.i64.wrap (cOf s.data.toList:Int)),.int .i64 (aOf s.data.toList:Int),.int .i64 (IntKind.i64.wrap (lOf s.data.toList:Int)),.bool (decide (okH (areaN D) s.data.toList))]) ∧ Below w.heap.size w w':=by
 have hsl:s.data.toList.length = 64:=by rw [Array.length_toList];exact hs
 have HAr:=Lib.hid (fun V (hv:RAt V g ao an co cn so sn D)=>rarea_any hv hok h2)
 have hm1:=fun W=>str_mid s 4 12 (by omega) (by omega) 4 12 rfl rfl W
 have hm2:=fun W=>str_mid s 13 21 (by omega) (by omega) 13 21 rfl rfl W
 obtain ⟨b,hb⟩:∃ b,s.data.toList[12]? = some b:=⟨_,List.getElem?_eq_getElem (by omega)⟩
 have hix:=fun W=>str_at s 12 b hb 12 rfl W
 have hcl:cOf s.data.toList < 256 ^ 8:=numB_lt 8 _ (by rw [List.length_take,List.length_drop];omega)
 have hll:lOf s.data.toList < 256 ^ 8:=numB_lt 8 _ (by rw [List.length_take,List.length_drop];omega)
 have hab:areaN D ≤ 65536:=by have:=hok.max;unfold areaN;omega
 have haO:aOf s.data.toList = b.toNat:=by unfold aOf;rw [List.getD_eq_getElem?_getD,hb];rfl
 have hn1:=fun W=>rnumber_any ⟨((s.data.toList.drop 4).take (12 - 4)).toArray⟩ W (by rw [text_size,List.length_take,List.length_drop];omega)
 have hn2:=fun W=>rnumber_any ⟨((s.data.toList.drop 13).take (21 - 13)).toArray⟩ W (by rw [text_size,List.length_take,List.length_drop];omega)
 have q1:numB ((⟨((s.data.toList.drop 4).take (12 - 4)).toArray⟩:ByteArray).data.toList) = cOf s.data.toList:=rfl
 have q2:numB ((⟨((s.data.toList.drop 13).take (21 - 13)).toArray⟩:ByteArray).data.toList) = lOf s.data.toList:=rfl
 rw [q1] at hn1
 rw [q2] at hn2
 have HOk:=Lib.hid (show okH (areaN D) s.data.toList ↔ 1 ≤ cOf s.data.toList ∧ cOf s.data.toList ≤ 4611686018427387904 ∧ aOf s.data.toList ≤ 1 ∧ lOf s.data.toList ≤ areaN D ∧ s = headB (cOf s.data.toList) (aOf s.data.toList) (lOf s.data.toList) from by
  unfold okH
  have:s.data.toList = headL (cOf s.data.toList) (aOf s.data.toList) (lOf s.data.toList) ↔ s = headB (cOf s.data.toList) (aOf s.data.toList) (lOf s.data.toList):=by
   constructor
   ·intro e
    unfold headB
    apply ByteArray.ext
    apply Array.toList_inj.1
    simpa using e
   ·intro e
    have:=congrArg (fun t:ByteArray=>t.data.toList) e
    simpa [headB] using this
  rw [this])
 have hcw:=wrap_num hcl
 have hlw:=wrap_num hll
 have hbl:=b.toNat_lt
 have hb8:=u8_i64 b
 obtain ⟨z,hz⟩:∃ z,z = decide (okH (areaN D) s.data.toList):=⟨_,rfl⟩
 rw [← hz]
 have HZ:=Lib.hid (show z = decide (1 ≤ cOf s.data.toList ∧ cOf s.data.toList ≤ 4611686018427387904 ∧ aOf s.data.toList ≤ 1 ∧ lOf s.data.toList ≤ areaN D ∧ s = headB (cOf s.data.toList) (aOf s.data.toList) (lOf s.data.toList)) from by rw [hz];exact decide_eq_decide.2 HOk.out)
 clear HOk hz
 rw [haO] at HZ ⊢
 have HN1:=Lib.hid hn1
 have HN2:=Lib.hid hn2
 clear hn1 hn2 q1 q2 hb hcl hll haO
 generalize cOf s.data.toList = c at *
 generalize lOf s.data.toList = l at *
 generalize (⟨((s.data.toList.drop 4).take (12 - 4)).toArray⟩:ByteArray) = S1 at hm1 HN1
 generalize (⟨((s.data.toList.drop 13).take (21 - 13)).toArray⟩:ByteArray) = S2 at hm2 HN2
 generalize areaN D = ab at *
 generalize IntKind.i64.wrap (c:Int) = cI at hcw HN1 ⊢
 generalize IntKind.i64.wrap (l:Int) = lI at hlw HN2 ⊢
 have HCw:=Lib.hid hcw
 have HLw:=Lib.hid hlw
 have hbl2:b.toNat ≤ 255:=by omega
 have HM:=Lib.hid (And.intro hm1 (And.intro hm2 (And.intro hix hb8)))
 clear hcw hlw hbl hm1 hm2 hix hb8 hsl
 go_enter Tryz.func129,Tryz.ntmps129
 go_upto_region 1 with fail
 refine wp_region_said 12 [12,13,14,15,16,17,18,19,20,8,9,10]
  [.is (.string s),.is (.string S1),.is (.int .i64 cI),.is (.string s),.is (.int .u8 (b.toNat:Int)),.is (.int .i64 (b.toNat:Int)),.is (.string s),.is (.string S2),.is (.int .i64 lI),.is (.int .i64 cI),.is (.int .i64 (b.toNat:Int)),.is (.int .i64 lI)]
  (fun W=>RAt W g ao an co cn so sn D) (by kernel_rfl) (by kernel_rfl) (by kernel_rfl) (by kernel_rfl) (by kernel_rfl) (fun W W' hI hb=>hI.step hb) h ?steps ?last
 case steps =>
  simp only [List.take_succ_cons,List.take_zero]
  refine ⟨?_,?_,?_,?_,?_,?_,?_,?_,?_,?_,?_,?_,trivial⟩
  all_goals
   intro vs W ρ hρ hc hf hg hI hH hd R' hR
   obtain ⟨hm1,hm2,hix,hb8⟩:=HM.out
   have HR:=Lib.hid hR
   simp [depsOf,Region.binds,sayAt,Say.holds] at hd
   clear hR
  case refine_3 =>
   go_simp
   refine (HN1.out _).mono ?_
   rintro e w' ⟨rfl,rfl⟩
   exact ⟨_,rfl,HR.out _ _ (by simp [sayAt,Say.holds]) (Below.refl _ _) (by simp [sayAt,Say.isBlk])⟩
  case refine_9 =>
   go_simp
   refine (HN2.out _).mono ?_
   rintro e w' ⟨rfl,rfl⟩
   exact ⟨_,rfl,HR.out _ _ (by simp [sayAt,Say.holds]) (Below.refl _ _) (by simp [sayAt,Say.isBlk])⟩
  all_goals
   go_simp
   first
    | exact HR.out _ _ (by simp [sayAt,Say.holds]) (Below.refl _ _) (by simp [sayAt,Say.isBlk])
    | trace_state
 case last =>
  intro vs W hI hb hg hd
  have g2:=hg 9 (by omega)
  have g5:=hg 10 (by omega)
  have g8:=hg 11 (by omega)
  simp only [sayAt,Say.holds,List.getD_cons_succ,List.getD_cons_zero] at g2 g5 g8
  simp only [List.take_succ_cons,List.take_zero,List.drop_succ_cons,List.drop_zero,putAll,Act.put,List.setIfInBounds_toArray,List.set_cons_succ,List.set_cons_zero,Nat.zero_add,Nat.reduceAdd]
  simp only [g2,g5,g8]
  have HB:=Lib.hid hb
  have HI:=Lib.hid hI
  clear g2 g5 g8 hg hd hb hI h HN1 HN2 HM
  go_upto_region 2 with fail
  by_cases c1:1 ≤ cI
  rotate_left
  ·have hz:z = false:=by
    rw [HZ.out];refine decide_eq_false fun hh=>?_
    have q1:=HCw.out;have q2:=HLw.out
    omega
   subst hz
   go_wp2_with (first | (refine (HAr.out _ HI.out).mono ?_;rintro e w1 ⟨rfl,rfl⟩) | fail)
   (try simp only [Exit.inBlock,Exit.then])
   refine bodyPost_ret (results_tmp4 rfl _ _ _) rfl ?_
   exact ⟨rfl,HB.out⟩
  by_cases c2:cI ≤ 4611686018427387904
  rotate_left
  ·have hz:z = false:=by
    rw [HZ.out];refine decide_eq_false fun hh=>?_
    have q1:=HCw.out;have q2:=HLw.out
    omega
   subst hz
   go_wp2_with (first | (refine (HAr.out _ HI.out).mono ?_;rintro e w1 ⟨rfl,rfl⟩) | fail)
   (try simp only [Exit.inBlock,Exit.then])
   refine bodyPost_ret (results_tmp4 rfl _ _ _) rfl ?_
   exact ⟨rfl,HB.out⟩
  by_cases c3:(b.toNat:Int) ≤ 1
  rotate_left
  ·have hz:z = false:=by
    rw [HZ.out];refine decide_eq_false fun hh=>?_
    have q1:=HCw.out;have q2:=HLw.out
    omega
   subst hz
   go_wp2_with (first | (refine (HAr.out _ HI.out).mono ?_;rintro e w1 ⟨rfl,rfl⟩) | fail)
   (try simp only [Exit.inBlock,Exit.then])
   refine bodyPost_ret (results_tmp4 rfl _ _ _) rfl ?_
   exact ⟨rfl,HB.out⟩
  by_cases c4:0 ≤ lI
  rotate_left
  ·have hz:z = false:=by
    rw [HZ.out];refine decide_eq_false fun hh=>?_
    have q1:=HCw.out;have q2:=HLw.out
    omega
   subst hz
   go_wp2_with (first | (refine (HAr.out _ HI.out).mono ?_;rintro e w1 ⟨rfl,rfl⟩) | fail)
   (try simp only [Exit.inBlock,Exit.then])
   refine bodyPost_ret (results_tmp4 rfl _ _ _) rfl ?_
   exact ⟨rfl,HB.out⟩
  by_cases c5:lI ≤ (ab:Int)
  rotate_left
  ·have hz:z = false:=by
    rw [HZ.out];refine decide_eq_false fun hh=>?_
    have q1:=HCw.out;have q2:=HLw.out
    omega
   subst hz
   go_wp2_with (first | (refine (HAr.out _ HI.out).mono ?_;rintro e w1 ⟨rfl,rfl⟩) | fail)
   (try simp only [Exit.inBlock,Exit.then])
   refine bodyPost_ret (results_tmp4 rfl _ _ _) rfl ?_
   exact ⟨rfl,HB.out⟩
  obtain rfl:cI = (c:Int):=by have:=HCw.out;omega
  obtain rfl:lI = (l:Int):=by have:=HLw.out;omega
  have hrh:=fun V=>rhead_any c b.toNat l V (by omega) (by omega) (by omega)
  have HRh:=Lib.hid hrh
  have hz:z = decide (s = headB c b.toNat l):=by
   rw [HZ.out];exact decide_eq_decide.2 ⟨fun hh=>hh.2.2.2.2,fun hh=>⟨by omega,by omega,by omega,by omega,hh⟩⟩
  by_cases he:s = headB c b.toNat l
  ·rw [decide_eq_true he] at hz
   subst hz
   rw [← he] at HRh
   have q:=text_eq s
   clear he HZ hrh HCw HLw
   go_wp2_with fail
   refine (HAr.out _ HI.out).mono ?_
   rintro e w1 ⟨rfl,rfl⟩
   go_wp2_with fail
   refine (HRh.out _).mono ?_
   rintro e w2 ⟨rfl,hb⟩
   have HB2:=Lib.hid (HB.out.trans (hb.mono HB.out.size))
   clear hb
   go_wp2_with fail
   (try simp only [Exit.inBlock,Exit.then])
   refine bodyPost_ret (results_tmp4 rfl _ _ _) rfl ?_
   exact ⟨rfl,HB2.out⟩
  ·rw [decide_eq_false he] at hz
   subst hz
   have q:=text_ne he
   generalize headB c b.toNat l = hd at HRh q
   clear he HZ hrh HCw HLw
   go_wp2_with fail
   refine (HAr.out _ HI.out).mono ?_
   rintro e w1 ⟨rfl,rfl⟩
   go_wp2_with fail
   refine (HRh.out _).mono ?_
   rintro e w2 ⟨rfl,hb⟩
   have HB2:=Lib.hid (HB.out.trans (hb.mono HB.out.size))
   clear hb
   go_wp2_with fail
   (try simp only [Exit.inBlock,Exit.then])
   refine bodyPost_ret (results_tmp4 rfl _ _ _) rfl ?_
   exact ⟨rfl,HB2.out⟩
end
end Rd
end Go.Proofs.YtmidncclndongaaGreat
namespace Go.Proofs.YtmidncclndongaaGreat
namespace Sc
def Idle (D:Dev):Prop:=D.left = 0 ∧ D.down = false
theorem new0_idle (n:Nat):Idle (new0 n):=⟨rfl,rfl⟩
theorem burn_idle {D:Dev} (h:Idle D):burn D = (D,false):=by unfold burn;rw [if_pos h.1]
theorem rd_up {D:Dev} (hd:D.down = false) {k:Nat} (hk:k < D.on.length):rdV D (k:Int) = (flushF D k,0):=by
 unfold rdV flushF
 rw [if_neg (by rw [hd];simp),if_neg (by omega),Int.toNat_natCast]
theorem wr_up {D:Dev} (hd:D.down = false) {k:Nat} (hk:k < D.on.length) {t:ByteArray} (ht:t.size = 64) :
  wrD D (k:Int) t = if (burn D).2 = true then ((burn D).1,90) else (⟨D.on,D.new.set k t,(burn D).1.left,(burn D).1.down⟩,0):=by
 unfold wrD
 rw [rd_up hd hk,if_neg (by simp),if_neg (by simpa using ht),Int.toNat_natCast]
theorem wr_idle {D:Dev} (h:Idle D) {k:Nat} (hk:k < D.on.length) {t:ByteArray} (ht:t.size = 64):wrD D (k:Int) t = (⟨D.on,D.new.set k t,0,false⟩,0):=by
 rw [wr_up h.2 hk ht,burn_idle h,if_neg (by simp),h.1,h.2]
theorem fl_idle {D:Dev} (h:Idle D):flD D = (⟨upd D.on D.on.length (flushF D),upd D.new D.on.length (fun _=>nil0),0,false⟩,0):=by
 unfold flD
 rw [if_neg (by rw [h.2];simp),burn_idle h,if_neg (by simp),h.1,h.2]
theorem not_nil {t:ByteArray} (ht:t.size = 64):t ≠ nil0:=fun e=>by rw [e] at ht;cases ht
theorem view_set {D:Dev} {k i:Nat} (hk:k < D.new.length) {t:ByteArray} (ht:t.size = 64) (l:Nat) (b:Bool):flushF ⟨D.on,D.new.set k t,l,b⟩ i = if i = k then t else flushF D i:=by
 unfold flushF
 simp only
 by_cases e:i = k
 ·subst e
  rw [if_pos rfl,List.getD_eq_getElem?_getD,List.getElem?_set_self hk]
  simp only [Option.getD_some]
  rw [if_neg (not_nil ht)]
 ·rw [if_neg e,List.getD_eq_getElem?_getD,List.getElem?_set_ne (Ne.symm e),← List.getD_eq_getElem?_getD]
theorem upd_getD {l:List ByteArray} {f:Nat → ByteArray} {i:Nat} (h:i < l.length):(upd l l.length f).getD i nil0 = f i:=by
 rw [getD_at (by rw [upd_len];exact h),upd_at _ h,if_pos h]
theorem nil_getD (l:List ByteArray) (i:Nat):(upd l l.length (fun _=>nil0)).getD i nil0 = nil0:=by
 rw [upd_all,List.getD_eq_getElem?_getD,List.getElem?_replicate]
 split <;> rfl
theorem view_clean {on new:List ByteArray} (hl:new.length = on.length) {f:Nat → ByteArray} {i:Nat} (h:i < on.length) (l:Nat) (b:Bool):flushF ⟨upd on on.length f,upd new on.length (fun _=>nil0),l,b⟩ i = f i:=by
 unfold flushF
 simp only
 rw [← hl,nil_getD,if_pos rfl,hl,upd_getD h]
def Clean (D:Dev):Prop:=∀ i,D.new.getD i nil0 = nil0
theorem fl_clean {D:Dev} (hl:D.new.length = D.on.length) (l:Nat) (b:Bool):Clean ⟨upd D.on D.on.length (flushF D),upd D.new D.on.length (fun _=>nil0),l,b⟩:=fun i=>by
 show (upd D.new D.on.length _).getD i nil0 = nil0
 rw [← hl];exact nil_getD _ _
theorem cr_clean {D:Dev} (hl:D.new.length = D.on.length) (ps:List Int):Clean (crD D ps):=fun i=>by
 show (upd D.new D.on.length _).getD i nil0 = nil0
 rw [← hl];exact nil_getD _ _
theorem cr_view {D:Dev} (hl:D.new.length = D.on.length) (hc:Clean D) (ps:List Int) {i:Nat} (h:i < D.on.length):flushF (crD D ps) i = flushF D i:=by
 unfold crD
 rw [view_clean hl h]
 unfold tearF flushF
 rw [hc i,if_pos rfl,if_pos rfl]
theorem cr_tear {D:Dev} (hl:D.new.length = D.on.length) (ps:List Int) {i:Nat} (h:i < D.on.length):flushF (crD D ps) i = tearF D ps i:=by
 unfold crD
 exact view_clean hl h _ _
theorem cr_len (D:Dev) (ps:List Int):(crD D ps).on.length = D.on.length:=upd_len _ _ _
theorem cr_idle (D:Dev) (ps:List Int):Idle (crD D ps):=⟨rfl,rfl⟩
theorem fuse_up {D:Dev} (h:D.down = false) {m:Nat} (hm:m ≤ 1048576):fuD D (m:Int) = (⟨D.on,D.new,m,D.down⟩,0):=by
 unfold fuD
 rw [if_neg (by rw [h];simp),if_neg (by omega),Int.toNat_natCast]
end Sc
end Go.Proofs.YtmidncclndongaaGreat
namespace Go.Proofs.YtmidncclndongaaGreat
namespace Rd
open Go.RowKit Sc Bk
attribute [local go_sem ↓] Go.wp_at_zero Go.wp_at_succ
attribute [local go_sem] floatUpon pick
theorem list_sum2 (X Y:List UInt8) (h:X.length + Y.length ≤ 1000000000) (W:World):(Op.stringOp .add ⟨X.toArray⟩ ⟨Y.toArray⟩).run Tryz.prog W = .ok (.string ⟨(X ++ Y).toArray⟩) W:=by
 have h1:(⟨X.toArray⟩:ByteArray).size = X.length:=text_size X
 have h2:(⟨Y.toArray⟩:ByteArray).size = Y.length:=text_size Y
 rw [run_string_add_sum W _ _ (by omega),ByteArray.mk_append_mk]
def areaAt (D:Dev) (a:Nat):Nat:=2 + a * (areaN D / 64)
def catS (D:Dev) (a i:Nat):List UInt8:=(List.range i).flatMap fun k=>(flushF D (areaAt D a + k)).data.toList
def storedL (D:Dev) (a l:Nat):List UInt8:=(catS D a ((l + 63) / 64)).take l
theorem catS_succ (D:Dev) (a i:Nat):catS D a (i + 1) = catS D a i ++ (flushF D (areaAt D a + i)).data.toList:=by
 unfold catS;rw [List.range_succ,List.flatMap_append];simp
theorem area_fit {D:Dev} (h:4 ≤ D.on.length) {a k:Nat} (ha:a ≤ 1) (hk:k < areaN D / 64):areaAt D a + k < D.on.length:=by
 unfold areaAt areaN at *
 rw [Nat.mul_div_cancel _ (by omega)] at *
 have:a = 0 ∨ a = 1:=by omega
 rcases this with rfl | rfl <;> omega
theorem catS_len {D:Dev} (hok:DevOk D) (h:4 ≤ D.on.length) {a:Nat} (ha:a ≤ 1):∀ i,i ≤ areaN D / 64 → (catS D a i).length = 64 * i
 | 0,_=>rfl
 | i + 1,hi=>by
  have h64:(flushF D (areaAt D a + i)).data.toList.length = 64:=by rw [Array.length_toList];exact flush64 hok (area_fit h ha (by omega))
  rw [catS_succ,List.length_append,catS_len hok h ha i (by omega),h64]
  omega
section
variable {w:World} {g:Nat} {ao an:Addr} {co cn:Nat} {so sn:List Value} {D:Dev}
theorem rstored_any (h:RAt w g ao an co cn so sn D) (hok:DevOk D) (h4:4 ≤ D.on.length) (hup:D.down = false) (a l:Nat) (ha:a ≤ 1) (hl:l ≤ areaN D) :
  Calls Tryz.prog 133 #[.pointer (some ⟨g,0,none⟩),.int .i64 (a:Int),.int .i64 (l:Int)] w fun e w'=>e = .returned (.string ⟨(storedL D a l).toArray⟩) ∧ w' = w:=by
 have har:=rarea_any h hok (by omega)
 have hab:areaN D ≤ 65536:=by have:=hok.max;unfold areaN;omega
 have hdv:areaN D / 64 * 64 = areaN D:=by unfold areaN;omega
 obtain ⟨m,hm⟩:∃ m,m = areaN D / 64:=⟨_,rfl⟩
 obtain ⟨x,hx0⟩:∃ x,x = a * m:=⟨_,rfl⟩
 obtain ⟨n,hn⟩:∃ n,n = (l + 63) / 64:=⟨_,rfl⟩
 have hat:areaAt D a = 2 + x:=by rw [hx0,hm];rfl
 have HRd:=Lib.hid (fun (i:Nat) (hi:i < m)=>show Calls Tryz.prog 21 #[.pointer (some ⟨g,0,none⟩),.int .i64 (2 + (x:Int) + (i:Int))] w fun e w'=>e = .returned (.tuple #[.string (flushF D (areaAt D a + i)),.int .i64 0]) ∧ w' = w from by
  have:=rread_any h hok (((areaAt D a + i:Nat):Int))
  rw [rd_up hup (area_fit h4 ha (by rw [← hm];exact hi))] at this
  have e:((areaAt D a + i:Nat):Int) = 2 + (x:Int) + (i:Int):=by rw [hat];omega
  rw [e] at this
  exact this)
 have HLen:=Lib.hid (fun i (hi:i ≤ m)=>catS_len hok h4 ha i (by rw [← hm];exact hi))
 have HFl:=Lib.hid (fun i (hi:i < m)=>show (flushF D (areaAt D a + i)).data.toList.length = 64 from by rw [Array.length_toList];exact flush64 hok (area_fit h4 ha (by rw [← hm];exact hi)))
 have hb0:0 ≤ (a:Int) * (areaN D:Int):=Int.mul_nonneg (by omega) (by omega)
 have ha2:a = 0 ∨ a = 1:=by omega
 have hb1:(a:Int) * (areaN D:Int) ≤ 65536:=by
  rcases ha2 with rfl | rfl <;> omega
 have hq:((a:Int) * (areaN D:Int)).tdiv 64 = (x:Int):=by
  rw [Int.tdiv_eq_ediv_of_nonneg hb0,hx0,hm]
  rcases ha2 with rfl | rfl <;> omega
 have hx:x ≤ 1024:=by
  rw [hx0,hm]
  rcases ha2 with rfl | rfl <;> omega
 have HAr:=Lib.hid har
 have HCat:=Lib.hid (fun i=>catS_succ D a i)
 have HSt:=Lib.hid (show storedL D a l = (catS D a n).take l from by rw [hn];rfl)
 have hnm:n ≤ m:=by rw [hn,hm];omega
 have hm1024:m ≤ 1024:=by omega
 have HLn:=Lib.hid (fun (i:Nat)=>show (64 * i < l ↔ i < n) from by omega)
 have HN:=Lib.hid (show l ≤ 64 * n from by omega)
 generalize storedL D a l = res at HSt ⊢
 generalize areaN D = ab at *
 clear hx0 hat ha2 hup
 clear har hm hn h hok h4 hdv
 go_enter Tryz.func133,Tryz.ntmps133
 go_wp2_with fail
 go_loopw [7,8] (fun u c wr=>∃ (i:Nat) (s:ByteArray),i ≤ n ∧ u = .string s ∧ c = .int .i64 (i:Int) ∧ wr = w ∧ Hid (s = ⟨(catS D a i).toArray⟩)) (fun _ c _=>n - (intOf c).toNat)
 case atStart=>exact ⟨0,⟨#[]⟩,by omega,rfl,rfl,rfl,rfl⟩
 case round =>
  obtain ⟨i,s,hi,rfl,rfl,rfl,hs⟩:=hrel
  have hz:s.size = 64 * i:=by rw [hs.out,text_size,HLen.out i (by omega)]
  by_cases hlt:i < n
  ·have plt:(s.size:Int) < (l:Int):=by have:=(HLn.out i).2 hlt;omega
   have hi2:i ≤ 1024:=by omega
   have hrd:=HRd.out i (by omega)
   have hadd:=fun W=>list_sum2 (catS D a i) (flushF D (areaAt D a + i)).data.toList (by rw [HLen.out i (by omega),HFl.out i (by omega)];omega) W
   rw [← HCat.out i,← hs.out] at hadd
   have hT:(⟨(flushF D (areaAt D a + i)).data.toList.toArray⟩:ByteArray) = flushF D (areaAt D a + i):=rfl
   rw [hT] at hadd
   generalize flushF D (areaAt D a + i) = t at hrd hadd
   obtain ⟨s2,hs2⟩:∃ s2:ByteArray,s2 = ⟨(catS D a (i + 1)).toArray⟩:=⟨_,rfl⟩
   rw [← hs2] at hadd
   have HS2:=Lib.hid hs2
   have HRd2:=Lib.hid hrd
   clear hs2 hT hrd
   go_wp2_with fail
   refine HAr.out.mono ?_
   rintro e w1 ⟨rfl,rfl⟩
   go_wp2_with fail
   refine HRd2.out.mono ?_
   rintro e w2 ⟨rfl,rfl⟩
   go_wp2_with fail
   go_roundw
   case rel=>exact ⟨i + 1,s2,by omega,rfl,by go_num,trivial,HS2.out⟩
   case measure=>simp [intOf];omega
  ·obtain rfl:i = n:=by omega
   have plt:¬ (s.size:Int) < (l:Int):=by have:=HN.out;omega
   have hto:=fun W=>str_to s l (by have:=HN.out;omega) (l:Int) rfl W
   have e:(⟨(s.data.toList.take l).toArray⟩:ByteArray) = ⟨res.toArray⟩:=by rw [HSt.out,hs.out]
   rw [e] at hto
   clear e
   go_wp2_with fail
   go_ret
   exact ⟨rfl,rfl⟩
end
structure Lg where
 cnt:Nat
 ar:Nat
 bs:List UInt8
 ts:List ByteArray
 mn:Nat
def frs (ts:List ByteArray) (a b:Nat):List UInt8:=((ts.take b).drop a).flatMap fun s=>Su.frameL s.data.toList
def waitL (l:Lg):List UInt8:=frs l.ts l.mn l.ts.length
theorem frs_same (ts:List ByteArray) (a:Nat):frs ts a a = []:=by
 unfold frs
 rw [List.drop_of_length_le (by rw [List.length_take];omega)];rfl
theorem frs_succ {ts:List ByteArray} {a b:Nat} (h:a ≤ b) (hb:b < ts.length):frs ts a (b + 1) = frs ts a b ++ Su.frameL ts[b].data.toList:=by
 unfold frs
 rw [List.take_add_one,List.getElem?_eq_getElem hb,List.drop_append_of_le_length (by rw [List.length_take];omega),List.flatMap_append]
 simp
theorem frs_le {ts:List ByteArray} {a b:Nat} (h:a ≤ b):∀ n,b + n ≤ ts.length → (frs ts a b).length ≤ (frs ts a (b + n)).length
 | 0,_=>Nat.le_refl _
 | n + 1,hn=>by
  have h1:=frs_le (ts:=ts) h n (by omega)
  have h2:=frs_succ (ts:=ts) (a:=a) (b:=b + n) (by omega) (by omega)
  rw [show b + (n + 1) = b + n + 1 by omega,h2,List.length_append]
  omega
structure LAt (w:World) (k g:Nat) (A:Option Addr) (c:Nat) (l:Lg):Prop where
 cel:Cel w k 161 [.pointer (some ⟨g,0,none⟩),.int .i64 (l.cnt:Int),.int .i64 (l.ar:Int),.string ⟨l.bs.toArray⟩,.slice A l.ts.length c,.int .i64 (l.mn:Int)]
 strs:StrsAt w A l.ts
 nk:0 < l.ts.length → ∀ a,A = some a → a.block ≠ k
section
variable {w w':World} {k g:Nat} {A:Option Addr} {c:Nat} {l:Lg}
theorem LAt.below (h:LAt w k g A c l) (hb:Below w.heap.size w w'):LAt w' k g A c l:=⟨h.cel.below hb,h.strs.below hb,h.nk⟩
theorem LAt.fr {F G:Nat → Prop} (h:LAt w k g A c l) (hf:Fr F G w w') (hk:¬ F k) (hA:0 < l.ts.length → ∀ a,A = some a → ¬ F a.block):LAt w' k g A c l:=by
 refine ⟨(hf.block k h.cel.lt hk).trans h.cel,fun hp=>?_,h.nk⟩
 obtain ⟨ad,e,hl,hc⟩:=h.strs hp
 refine ⟨ad,e,Nat.lt_of_lt_of_le hl hf.size,fun i hi=>?_⟩
 have hkp:w'.heap[(ad.add i).block]? = w.heap[(ad.add i).block]?:=by rw [st_block];exact hf.block _ hl (hA hp ad e)
 rw [show w'.cell? (ad.add i) = w.cell? (ad.add i) from by unfold World.cell?;rw [hkp]]
 exact hc i hi
theorem rwaiting_any (h:LAt w k g A c l) (hm:l.mn ≤ l.ts.length) (hn:l.ts.length ≤ 1000000000) (hz:(waitL l).length ≤ 10000000) :
  Calls Tryz.prog 154 #[.pointer (some ⟨k,0,none⟩)] w fun e w'=>e = .returned (.string ⟨(waitL l).toArray⟩) ∧ Below w.heap.size w w':=by
 have H:=Lib.hid h
 have k4:=h.cel.cell (i:=4) rfl
 have k5:=h.cel.cell (i:=5) rfl
 have HOne:=Lib.hid (fun s V (hs:s.size ≤ 1000000000000000)=>Su.rone_any s V hs)
 have HLe:=Lib.hid (fun b (h1:l.mn ≤ b) (h2:b ≤ l.ts.length)=>show (frs l.ts l.mn b).length ≤ 10000000 from by
  have:=frs_le (ts:=l.ts) h1 (l.ts.length - b) (by omega)
  rw [show b + (l.ts.length - b) = l.ts.length by omega] at this
  exact Nat.le_trans this hz)
 have HSu:=Lib.hid (fun b (h1:l.mn ≤ b) (h2:b < l.ts.length)=>frs_succ (ts:=l.ts) h1 h2)
 have HW:=Lib.hid (show frs l.ts l.mn l.ts.length = waitL l from rfl)
 generalize waitL l = WL at HW ⊢
 clear h hz
 go_enter Tryz.func154,Tryz.ntmps154
 go_wp2_with fail
 go_loopw [3,4] (fun u i wr=>∃ (j:Nat) (s:ByteArray),l.mn ≤ j ∧ j ≤ l.ts.length ∧ u = .string s ∧ i = .int .i64 (j:Int) ∧ Hid (s = ⟨(frs l.ts l.mn j).toArray⟩) ∧ Hid (Below w.heap.size w wr)) (fun _ i _=>l.ts.length - (intOf i).toNat)
 case atStart=>exact ⟨l.mn,⟨#[]⟩,Nat.le_refl _,hm,rfl,rfl,Lib.hid (by rw [frs_same]),Below.refl _ _⟩
 case round =>
  obtain ⟨j,s,hj,hj2,rfl,rfl,hs,hb0⟩:=hrel
  clear k4 k5
  have HL:=Lib.hid (H.out.below hb0.out)
  have k4:=HL.out.cel.cell (i:=4) rfl
  by_cases hlt:j < l.ts.length
  ·have pj:(j:Int) < (l.ts.length:Int):=by omega
   obtain ⟨ad,rfl,hab,hcl⟩:=HL.out.strs (by omega)
   have x1:=hcl j hlt
   have hsu:=HSu.out j hj hlt
   have hle:=HLe.out (j + 1) (by omega) (by omega)
   have hadd:=fun W=>list_sum2 (frs l.ts l.mn j) (Su.frameL l.ts[j].data.toList) (by rw [hsu,List.length_append] at hle;omega) W
   rw [← hsu,← hs.out] at hadd
   have hT:(⟨(Su.frameL l.ts[j].data.toList).toArray⟩:ByteArray) = Su.frameB l.ts[j]:=rfl
   rw [hT] at hadd
   have hsz:l.ts[j].size ≤ 1000000000000000:=by
    rw [hsu,List.length_append,Su.frameL_len] at hle
    have:l.ts[j].data.toList.length = l.ts[j].size:=Array.length_toList
    omega
   have hone:=fun V=>HOne.out l.ts[j] V hsz
   generalize l.ts[j] = t at x1 hadd hone
   generalize Su.frameB t = ft at hadd hone
   obtain ⟨s2,hs2⟩:∃ s2:ByteArray,s2 = ⟨(frs l.ts l.mn (j + 1)).toArray⟩:=⟨_,rfl⟩
   rw [← hs2] at hadd
   have HS2:=Lib.hid hs2
   have HO2:=Lib.hid hone
   clear hs2 hT hone hsu hle hcl hsz
   go_wp2_with fail
   refine (HO2.out _).mono ?_
   rintro e w1 ⟨rfl,hb⟩
   have HB2:=Lib.hid (hb0.out.trans (hb.mono hb0.out.size))
   clear hb
   go_wp2_with fail
   go_roundw
   case rel=>exact ⟨j + 1,s2,by omega,by omega,rfl,by go_num,HS2.out,HB2.out⟩
   case measure=>simp [intOf];omega
  ·obtain rfl:j = l.ts.length:=by omega
   obtain rfl:s = ⟨WL.toArray⟩:=by rw [hs.out,HW.out]
   go_wp2_with fail
   go_ret
   exact ⟨rfl,hb0.out⟩
end
structure LgOk (D:Dev) (l:Lg):Prop where
 dev:4 ≤ D.on.length
 ar:l.ar ≤ 1
 mn:l.mn ≤ l.ts.length
 room:l.bs.length + (waitL l).length ≤ areaN D
 many:l.ts.length ≤ 1000000
def roomN (D:Dev) (l:Lg):Nat:=areaN D - l.bs.length - (waitL l).length
section
variable {w:World} {k g:Nat} {ao an:Addr} {co cn:Nat} {so sn:List Value} {A:Option Addr} {c:Nat} {l:Lg} {D:Dev}
theorem rroom_any (hr:RAt w g ao an co cn so sn D) (hL:LAt w k g A c l) (hok:DevOk D) (hlo:LgOk D l) :
  Calls Tryz.prog 151 #[.pointer (some ⟨k,0,none⟩)] w fun e w'=>e = .returned (.int .i64 (roomN D l:Int)) ∧ Below w.heap.size w w':=by
 have hrm:=hlo.room
 have hab:areaN D ≤ 65536:=by have:=hok.max;unfold areaN;omega
 have HAr:=Lib.hid (fun W (hW:RAt W g ao an co cn so sn D)=>rarea_any hW hok (by have:=hlo.dev;omega))
 have HWt:=Lib.hid (fun W (hW:LAt W k g A c l)=>rwaiting_any hW hlo.mn (by have:=hlo.many;omega) (by omega))
 obtain ⟨WS,hWS⟩:∃ WS:ByteArray,WS = ⟨(waitL l).toArray⟩:=⟨_,rfl⟩
 obtain ⟨BS,hBS⟩:∃ BS:ByteArray,BS = ⟨l.bs.toArray⟩:=⟨_,rfl⟩
 have zW:WS.size = (waitL l).length:=by rw [hWS];exact text_size _
 have zB:BS.size = l.bs.length:=by rw [hBS];exact text_size _
 rw [← hWS] at HWt
 have HC3:=Lib.hid (fun W (h:LAt W k g A c l)=>show W.cell? ⟨k,3,none⟩ = some (.string BS) from by rw [hBS];exact h.cel.cell (i:=3) rfl)
 have HR:=Lib.hid (show (roomN D l:Int) = (areaN D:Int) - (BS.size:Int) - (WS.size:Int) from by rw [zB,zW];unfold roomN;omega)
 have HWp:=Lib.hid (And.intro (i64_wrap (x:=(areaN D:Int) - (BS.size:Int)) (by omega) (by omega)) (i64_wrap (x:=(areaN D:Int) - (BS.size:Int) - (WS.size:Int)) (by omega) (by omega)))
 have bB:BS.size ≤ 65536:=by omega
 have bW:WS.size ≤ 65536:=by omega
 have HE:=Lib.hid (And.intro hr hL)
 generalize (roomN D l:Int) = res at HR ⊢
 clear hWS hBS hr hL zW zB
 go_enter Tryz.func151,Tryz.ntmps151
 go_upto_region 1 with fail
 refine wp_region_said 15 [3,4,5,6,7,8,9,10,11,12,13,14,15,16,17]
  [.is (.pointer (some ⟨k,0,none⟩)),.is (.pointer (some ⟨k,0,none⟩)),.is (.pointer (some ⟨k,0,none⟩)),.is (.pointer (some ⟨g,0,none⟩)),.is (.int .i64 (areaN D:Int)),.is (.pointer (some ⟨k,0,none⟩)),.is (.pointer (some ⟨k,0,none⟩)),.is (.pointer (some ⟨k,3,none⟩)),.is (.string BS),.is (.int .i64 (BS.size:Int)),.is (.int .i64 ((areaN D:Int) - (BS.size:Int))),.is (.pointer (some ⟨k,0,none⟩)),.is (.string WS),.is (.int .i64 (WS.size:Int)),.is (.int .i64 ((areaN D:Int) - (BS.size:Int) - (WS.size:Int)))]
  (fun W=>RAt W g ao an co cn so sn D ∧ LAt W k g A c l) (by kernel_rfl) (by kernel_rfl) (by kernel_rfl) (by kernel_rfl) (by kernel_rfl) (fun W W' h hb=>⟨h.1.step hb,h.2.below hb⟩) HE.out ?steps ?last
 case steps =>
  simp only [List.take_succ_cons,List.take_zero]
  refine ⟨?_,?_,?_,?_,?_,?_,?_,?_,?_,?_,?_,?_,?_,?_,?_,trivial⟩
  all_goals
   intro vs W ρ hρ hc hf hg hI hH hd R' hR'
   have z0:=hI.2.cel.cell (i:=0) rfl
   have z3:=HC3.out W hI.2
   obtain ⟨v1,v2⟩:=HWp.out
   have HRr:=Lib.hid hR'
   have HI:=Lib.hid hI
   simp [depsOf,Region.binds,sayAt,Say.holds] at hd
   clear hR' hI
   go_simp
   first
    | exact HRr.out _ _ (by simp [sayAt,Say.holds]) (Below.refl _ _) (by simp [sayAt,Say.isBlk])
    | (refine (HAr.out _ HI.out.1).mono ?_;rintro e w' ⟨rfl,rfl⟩;exact ⟨_,rfl,HRr.out _ _ (by simp [sayAt,Say.holds]) (Below.refl _ _) (by simp [sayAt,Say.isBlk])⟩)
    | (refine (HWt.out _ HI.out.2).mono ?_;rintro e w' ⟨rfl,hb⟩;exact ⟨_,rfl,HRr.out _ _ (by simp [sayAt,Say.holds]) hb (by simp [sayAt,Say.isBlk])⟩)
    | trace_state
 case last =>
  intro vs W hI hb hg hd
  have g14:=hg 14 (by omega)
  simp only [sayAt,Say.holds,List.getD_cons_succ,List.getD_cons_zero] at g14
  simp only [List.take_succ_cons,List.take_zero,List.drop_succ_cons,List.drop_zero,putAll,Act.put,List.setIfInBounds_toArray,List.set_cons_succ,List.set_cons_zero,Nat.zero_add,Nat.reduceAdd]
  rw [g14]
  have HB:=Lib.hid hb
  clear g14 hg hd hb hI
  go_wp2_with fail
  go_ret
  exact ⟨by rw [HR.out];rfl,HB.out⟩
end
end Rd
end Go.Proofs.YtmidncclndongaaGreat
namespace Go.Proofs.YtmidncclndongaaGreat
namespace Rd
open Go.RowKit Sc Bk
def rowB (all:List UInt8) (i k:Nat):List UInt8:=(all.drop (64 * i)).take k ++ List.replicate (64 - k) 0
def limB (all:List UInt8) (i:Nat):Nat:=min 64 (all.length - 64 * i)
def blkB (all:List UInt8) (i:Nat):ByteArray:=⟨(rowB all i (limB all i)).toArray⟩
theorem rowB_len {all:List UInt8} {i k:Nat} (h:k ≤ limB all i):(rowB all i k).length = 64:=by
 unfold limB at h
 unfold rowB
 rw [List.length_append,List.length_take,List.length_drop,List.length_replicate]
 omega
theorem blkB_size (all:List UInt8) (i:Nat):(blkB all i).size = 64:=by
 unfold blkB
 rw [text_size,rowB_len (Nat.le_refl _)]
theorem rowB_zero (all:List UInt8) (i:Nat):rowB all i 0 = List.replicate 64 0:=by
 unfold rowB;rw [List.take_zero];rfl
theorem rowB_set {all:List UInt8} {i k:Nat} (h:k < limB all i) {b:UInt8} (hb:all[64 * i + k]? = some b):(rowB all i k).set k b = rowB all i (k + 1):=by
 unfold limB at h
 have h1:((all.drop (64 * i)).take k).length = k:=by rw [List.length_take,List.length_drop];omega
 unfold rowB
 rw [List.set_append_right _ _ (by omega),h1,Nat.sub_self,show 64 - k = (64 - (k + 1)) + 1 by omega,List.replicate_succ,List.set_cons_zero,List.take_add_one,List.getElem?_drop,hb,Option.toList_some,List.append_assoc]
 rfl
def wrs (base:Nat) (all:List UInt8):Nat → Nat → Dev → Dev × Int
 | _,0,D=>(D,0)
 | i,n + 1,D=>if (wrD D ((base + i:Nat):Int) (blkB all i)).2 = 0 then wrs base all (i + 1) n (wrD D ((base + i:Nat):Int) (blkB all i)).1 else wrD D ((base + i:Nat):Int) (blkB all i)
def manyW (old more:List UInt8):Nat:=if more = [] then 0 else ((old ++ more).length + 63) / 64 - old.length / 64
def andD (r:Dev × Int) (f:Dev → Dev × Int):Dev × Int:=if r.2 = 0 then f r.1 else r
def settleP (D:Dev) (cnt a:Nat) (old more:List UInt8):Dev × Int :=
 andD (wrs (areaAt D a) (old ++ more) (old.length / 64) (manyW old more) D) fun D1 =>
 andD (if more = [] then (D1,0) else flD D1) fun D2 =>
 andD (wrD D2 (((cnt + 1) % 2:Nat):Int) (headB (cnt + 1) a (old ++ more).length)) fun D3=>flD D3
theorem wrD_on (D:Dev) (i:Int) (t:ByteArray):(wrD D i t).1.on = D.on:=by
 unfold wrD
 split
 ·rfl
 split
 ·rfl
 split
 ·exact (burn_parts D).1
 ·rfl
theorem areaN_on {D E:Dev} (h:E.on.length = D.on.length):areaN E = areaN D:=by unfold areaN;rw [h]
theorem areaAt_on {D E:Dev} (h:E.on.length = D.on.length) (a:Nat):areaAt E a = areaAt D a:=by unfold areaAt;rw [areaN_on h]
theorem flD_len (D:Dev):(flD D).1.on.length = D.on.length:=by
 unfold flD
 split
 ·rfl
 split
 ·rw [(burn_parts D).1]
 ·exact upd_len _ _ _
theorem wrs_len (base:Nat) (all:List UInt8):∀ n i D,(wrs base all i n D).1.on.length = D.on.length
 | 0,_,_=>rfl
 | n + 1,i,D=>by
  unfold wrs
  split
  ·rw [wrs_len base all n (i + 1),wrD_on]
  ·rw [wrD_on]
theorem wrs_ok (base:Nat) (all:List UInt8):∀ n i D,DevOk D → DevOk (wrs base all i n D).1
 | 0,_,_,h=>h
 | n + 1,i,D,h=>by
  unfold wrs
  split
  ·exact wrs_ok base all n (i + 1) _ (wrD_ok h _ _)
  ·exact wrD_ok h _ _
end Rd
end Go.Proofs.YtmidncclndongaaGreat
namespace Go.Proofs.YtmidncclndongaaGreat
namespace Rd
open Go.RowKit Su Bk
attribute [local go_sem ↓] Go.wp_at_zero Go.wp_at_succ
attribute [local go_sem] floatUpon pick
def AllNew (s:ByteArray) (w:World):Ending → World → Prop:=fun e w' =>
 ∃ (A:Option Addr) (c:Nat),e = .returned (.tuple #[.slice A (allR s).1.length c,.int .i64 ((allR s).2.1:Int),.int .i64 ((allR s).2.2:Int)]) ∧ StrsAt w' A (allR s).1 ∧ (∀ x,A = some x → w.heap.size ≤ x.block) ∧ (A = none → c = 0) ∧ Below w.heap.size w w'
theorem strs_own_new {w:World} {H n:Nat} {v:Value} {O:List ByteArray} {e:TypeId} (h:w.ownsRow H e 1 v n (strV O)) (hl:n = O.length):∃ (A:Option Addr) (c:Nat),v = .slice A n c ∧ StrsAt w A O ∧ (∀ x,A = some x → H ≤ x.block) ∧ (A = none → c = 0):=by
 have h2:=h.2
 rcases h2 with ⟨h1,h2,h3⟩ | ⟨g,cap,cur,h1,hH,_⟩
 ·exact ⟨none,0,h1,fun hp=>absurd hl (by omega),fun x hx=>(by cases hx),fun _=>rfl⟩
 ·subst h1
  exact ⟨_,_,rfl,StrsAt.own h hl,fun x hx=>by cases hx;exact hH,fun hx=>by cases hx⟩
theorem rall_new (s:ByteArray) (w:World) (hs:s.size ≤ 50000000000000) :
  Calls Tryz.prog 134 #[.string s] w (AllNew s w):=by
 obtain ⟨i0,hi,hz0,hz1,hz2⟩:=info_parts Tryz.infoStr
 have hB:(s.size:Int) ≤ 50000000000000:=by omega
 go_enter Tryz.func134,Tryz.ntmps134
 go_wp2_with fail
 go_loopw [5,6] (fun out i wr=>∃ (a:Nat) (O:List ByteArray),a ≤ s.size ∧ O.length * 6 ≤ a ∧ i = .int .i64 (a:Int) ∧ wr.ownsRow w.heap.size 9 1 out O.length (strV O) ∧ Upto s O a ∧ Below w.heap.size w wr) (fun _ i _=>s.size - (intOf i).toNat)
 case atStart=>exact ⟨0,[],by omega,by simp,rfl,⟨rfl,.inl ⟨rfl,rfl⟩⟩,Upto.start s,Below.refl _ _⟩
 case round =>
  obtain ⟨a,O,ha,hO,rfl,hown,hup,hbel⟩:=hrel
  by_cases hlt:a < s.size
  ·have pa:(a:Int) < (s.size:Int):=by omega
   have HN:=Lib.hid (rnext_any s (a:Int) wr (by omega) ⟨by omega,by omega⟩)
   have hv:=nextV_at (s:=s) (a:=a) (by omega)
   cases hr:restR (s.data.toList.drop a) with
   | error e =>
    have he:=restR_err hr
    have hall:=hup.err hlt hr
    rw [hr] at hv
    have hv2:nextV s (a:Int) = .tuple #[.string ⟨#[]⟩,.int .i64 0,.int .i64 (e:Int)]:=hv
    have hne:(((e:Nat):Int) != 0) = true:=by simp;omega
    rw [hv2] at HN
    have HA:=Lib.hid hall
    have HU:=Lib.hid hown
    have HBl:=Lib.hid hbel
    clear hr hup hv hv2 hall hown hbel he
    go_wp2_with fail
    refine HN.out.mono ?_
    rintro e w1 ⟨rfl,hb⟩
    have HU1:=Lib.hid (st_keep HU.out hb)
    have HB1:=Lib.hid (HBl.out.trans (hb.mono HBl.out.size))
    clear hb HU HBl HN
    go_wp2_with fail
    go_ret3
    obtain ⟨A,c,hvv,hst,hnw,hnc⟩:=strs_own_new HU1.out rfl
    exact ⟨A,c,by rw [HA.out,hvv];rfl,by rw [HA.out];exact hst,hnw,hnc,HB1.out⟩
   | ok t =>
    obtain ⟨hk1,hk2,-⟩:=restR_ok hr
    have hup2:=hup.more hlt hr
    have hle:a + t.length + 6 ≤ s.size:=by rw [List.length_drop,list_size] at hk2;omega
    rw [hr] at hv
    have hv2:nextV s (a:Int) = .tuple #[.string ⟨t.toArray⟩,.int .i64 ((a + t.length + 6:Nat):Int),.int .i64 0]:=hv
    rw [hv2] at HN
    have HP:=Lib.hid hup2
    have HU:=Lib.hid hown
    have HBl:=Lib.hid hbel
    have hsn:=strV_snoc O ⟨t.toArray⟩
    generalize hT:(⟨t.toArray⟩:ByteArray) = T at HN HP hsn
    have HSn:=Lib.hid hsn
    generalize hnx:a + t.length + 6 = nx at HN HP hle
    have hnx2:a + 6 ≤ nx:=by omega
    have hOl:(strV O).length = O.length:=strV_len O
    clear hr hup hv hv2 hup2 hown hbel hk1 hk2 hT hnx hsn
    go_wp2_with fail
    refine HN.out.mono ?_
    rintro e w1 ⟨rfl,hb⟩
    have HU1:=Lib.hid (st_keep HU.out hb)
    have HB1:=Lib.hid (HBl.out.trans (hb.mono HBl.out.size))
    clear hb HU HBl HN
    go_wp2_with (at_builtin;refine wpList_append_own _ rfl _ _ 36 rfl w.heap.size 9 i0 (.string ⟨#[]⟩) 1 16 Tryz.underlying36 hi hz0 hz1 hz2 rfl (by decide) _ _ _ rfl (HU1.out.alloc _) ⟨w1.heap.size,0,none⟩ 1 1 [.string T] rfl rfl ?c1 ?c2 ?c3 ?c4 ?c5 ?_)
    case c1=>exact cell_one_new _ _ _
    case c2=>intro q hq;simp at hq;subst hq;rfl
    case c3=>unfold maxLen;omega
    case c4=>omega
    case c5=>have:=HB1.out.size;simp;omega
    intro v' w5 hown' hgrow _
    have HB5:=Lib.hid (below_append HU1.out HB1.out (Nat.le_refl _) hgrow)
    rw [← HSn.out] at hown'
    have HO5:=Lib.hid hown'
    clear hown' hgrow HU1 HB1
    go_wp2_with fail
    go_roundw
    case rel=>exact ⟨nx,O ++ [T],hle,by rw [List.length_append,List.length_singleton];omega,rfl,by rw [List.length_append,List.length_singleton];exact HO5.out,HP.out,HB5.out⟩
    case measure=>simp [intOf];omega
  ·obtain rfl:a = s.size:=by omega
   have HA:=Lib.hid (hup.done (Nat.le_refl _))
   have HU:=Lib.hid hown
   have HBl:=Lib.hid hbel
   clear hup hown hbel
   go_wp2_with fail
   go_ret3
   obtain ⟨A,c,hvv,hst,hnw,hnc⟩:=strs_own_new HU.out rfl
   exact ⟨A,c,by rw [HA.out,hvv];rfl,by rw [HA.out];exact hst,hnw,hnc,HBl.out⟩
end Rd
end Go.Proofs.YtmidncclndongaaGreat
namespace Go.Proofs.YtmidncclndongaaGreat
namespace Rd
open Go.RowKit Sc Bk
def hdsP (D:Dev):Nat → Option (Nat × Nat × Nat)
 | 0=>none
 | i + 1 =>
  if okH (areaN D) (flushF D i).data.toList ∧ (∀ h,hdsP D i = some h → h.1 < cOf (flushF D i).data.toList) then
   some (cOf (flushF D i).data.toList,aOf (flushF D i).data.toList,lOf (flushF D i).data.toList)
  else hdsP D i
def openP (D:Dev):Dev × Option Lg × Int :=
 if D.on.length < 4 then (D,none,4) else
 if D.down = true then (D,none,90) else
 match hdsP D 2 with
 | none =>
  if (andD (wrD D 1 (headB 1 0 0)) flD).2 = 0 then ((andD (wrD D 1 (headB 1 0 0)) flD).1,some ⟨1,0,[],[],0⟩,0)
  else ((andD (wrD D 1 (headB 1 0 0)) flD).1,none,(andD (wrD D 1 (headB 1 0 0)) flD).2)
 | some (c,a,n) =>
  if (Su.allR ⟨(storedL D a n).toArray⟩).2.2 = 0 then (D,some ⟨c,a,storedL D a n,(Su.allR ⟨(storedL D a n).toArray⟩).1,(Su.allR ⟨(storedL D a n).toArray⟩).1.length⟩,0)
  else (D,none,101)
theorem hds_ok {D:Dev}:∀ {i:Nat} {h:Nat × Nat × Nat},hdsP D i = some h → 1 ≤ h.1 ∧ h.1 ≤ 4611686018427387904 ∧ h.2.1 ≤ 1 ∧ h.2.2 ≤ areaN D
 | 0,h,e=>by cases e
 | i + 1,h,e=>by
  unfold hdsP at e
  split at e
  next hc =>
   cases e
   obtain ⟨⟨h1,h2,h3,h4,_⟩,_⟩:=hc
   exact ⟨h1,h2,h3,h4⟩
  ·exact hds_ok e
theorem open_dev {D:Dev} (h:DevOk D):DevOk (openP D).1:=by
 unfold openP
 split
 ·exact h
 split
 ·exact h
 split
 ·have:DevOk (andD (wrD D 1 (headB 1 0 0)) flD).1:=by
   unfold andD
   split
   ·exact flD_ok (wrD_ok h _ _)
   ·exact wrD_ok h _ _
  split
  ·exact this
  ·exact this
 ·split
  ·exact h
  ·exact h
end Rd
end Go.Proofs.YtmidncclndongaaGreat
