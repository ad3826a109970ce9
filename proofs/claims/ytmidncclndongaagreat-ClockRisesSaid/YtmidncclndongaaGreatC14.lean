/- Parts of the proof, joined: RlSec, RlRead, RlNew, RlPut, RlStart; their conditions stand with each. -/
import Derived.Test.YtmidncclndongaaGreatC13

set_option maxRecDepth 20000
set_option maxHeartbeats 8000000
namespace Go.Proofs.YtmidncclndongaaGreat
namespace Rd
open Go.RowKit Sc Bk
attribute [local go_sem ↓] Go.wp_at_zero Go.wp_at_succ
attribute [local go_sem] floatUpon pick
def RepTxt:Prop:=∀ (s:ByteArray) (c:Nat) (w:World),c ≤ 1000 → s.size ≤ 1000 → Calls Tryz.prog 309 #[.string s,.int .i64 (c:Int)] w fun e w'=>e = .returned (.string ⟨(List.replicate c s.data.toList).flatten.toArray⟩) ∧ Below w.heap.size w w'
def hdV (c a n:Nat):Value:=.agg #[.int .i64 (c:Int),.int .i64 (a:Int),.int .i64 (n:Int)]
theorem sec_any (HRt:RepTxt) (c a l:Nat) (w:World) (hc:c ≤ 9223372036854775807) (ha:a ≤ 1) (hl:l ≤ 9223372036854775807) :
  Calls Tryz.prog 236 #[hdV c a l] w fun e w'=>e = .returned (.string (headB c a l)) ∧ Below w.heap.size w w':=by
 have HE1:=Lib.hid (fun W=>high_any c W hc)
 have HE2:=Lib.hid (fun W=>high_any l W hl)
 obtain ⟨b,hb⟩:∃ b,b = UInt8.ofNat (a % 256):=⟨_,rfl⟩
 have hbt:b.toNat = a:=by rw [hb,UInt8.toNat_ofNat_of_lt' (by show a % 256 < 256;omega)];omega
 have hcv:IntKind.u8.wrap (a:Int) = (b.toNat:Int):=by
  rw [hbt];simp [IntKind.wrap,IntKind.bits,IntKind.signed];omega
 have l1:=be8_len c
 have l2:=be8_len l
 have a1:=list_sum [82,69,68,79] (be8 c) (by rw [l1];decide)
 have a2:=list_sum ([82,69,68,79] ++ be8 c) [b] (by rw [List.length_append,l1];show 4 + 8 + 1 ≤ 1000;decide)
 have a3:=list_sum (([82,69,68,79] ++ be8 c) ++ [b]) (be8 l) (by rw [List.length_append,List.length_append,l1,l2];show 4 + 8 + 1 + 8 ≤ 1000;decide)
 have hP:(([82,69,68,79] ++ be8 c) ++ [b]) ++ be8 l = headP c a l:=by rw [hb];rfl
 rw [hP] at a3
 have l3:=headP_len c a l
 have hRt:=HRt ⟨(headP c a l).toArray⟩ 3
 have eR:(List.replicate 3 (⟨(headP c a l).toArray⟩:ByteArray).data.toList).flatten = (headP c a l ++ headP c a l) ++ headP c a l:=by
  show (List.replicate 3 (headP c a l)).flatten = _
  simp [List.replicate,List.append_assoc]
 rw [eR] at hRt
 have HRp:=Lib.hid (fun W=>hRt W (by omega) (by rw [text_size,l3];omega))
 have a6:=list_sum ((headP c a l ++ headP c a l) ++ headP c a l) [0] (by rw [List.length_append,List.length_append,l3];decide)
 rw [show ((headP c a l ++ headP c a l) ++ headP c a l) ++ [0] = headL c a l from rfl] at a6
 have HHB:=Lib.hid (show headB c a l = ⟨(headL c a l).toArray⟩ from rfl)
 generalize headB c a l = HB at HHB ⊢
 have HBk:=Lib.hid (fun (W:World) (p:Nat) (h:W.heap[p]? = some (.cells #[.int .u8 (b.toNat:Int)] 5 (0,0)))=>back_one h)
 clear l1 l2 l3 hb hbt hP hRt eR HRt
 have hR:(⟨([82,69,68,79]:List UInt8).toArray⟩:ByteArray) = ⟨#[82,69,68,79]⟩:=rfl
 have hZ:(⟨([0]:List UInt8).toArray⟩:ByteArray) = ⟨#[0]⟩:=rfl
 rw [hR] at a1
 rw [hZ] at a6
 clear hR hZ
 generalize (⟨(headL c a l).toArray⟩:ByteArray) = X6 at HHB a6
 generalize (⟨((headP c a l ++ headP c a l) ++ headP c a l).toArray⟩:ByteArray) = X5 at HRp a6
 generalize (⟨(headP c a l).toArray⟩:ByteArray) = X3 at a3 HRp
 generalize (⟨(([82,69,68,79] ++ be8 c) ++ [b]).toArray⟩:ByteArray) = X2 at a2 a3
 generalize (⟨([82,69,68,79] ++ be8 c).toArray⟩:ByteArray) = X1 at a1 a2
 generalize (⟨(be8 c).toArray⟩:ByteArray) = E1 at HE1 a1
 generalize (⟨(be8 l).toArray⟩:ByteArray) = E2 at HE2 a3
 generalize (⟨[b].toArray⟩:ByteArray) = B1 at a2 HBk
 generalize b.toNat = bt at hcv HBk
 have hal:Below w.heap.size w (w.alloc (.cells #[.int .i64 (c:Int),.int .i64 (a:Int),.int .i64 (l:Int)] 182)):=(Below.refl _ w).alloc (Nat.le_refl _) _
 have hcb:Cel (w.alloc (.cells #[.int .i64 (c:Int),.int .i64 (a:Int),.int .i64 (l:Int)] 182)) w.heap.size 182 [.int .i64 (c:Int),.int .i64 (a:Int),.int .i64 (l:Int)]:=(blk1 w _).2
 unfold hdV
 go_enter Tryz.func236,Tryz.ntmps236
 go_upto_region 1 with fail
 generalize w.alloc (.cells #[.int .i64 (c:Int),.int .i64 (a:Int),.int .i64 (l:Int)] 182) = W1 at *
 have HB1:=Lib.hid hal
 have HC1:=Lib.hid hcb
 have hlt:=hcb.lt
 clear hal hcb
 generalize hk:w.heap.size = k at HC1 hlt ⊢
 refine wp_region_said 15 [4,5,6,7,8,9,10,11,12,13,14,15,16,17,3]
  [.is (.pointer (some ⟨k,0,none⟩)),.is (.int .i64 (c:Int)),.is (.string E1),.is (.string X1),.is (.pointer (some ⟨k,1,none⟩)),.is (.int .i64 (a:Int)),.is (.int .u8 (bt:Int)),.arr 5 #[.int .u8 (bt:Int)] 1 1,.is (.string B1),.is (.string X2),.is (.pointer (some ⟨k,2,none⟩)),.is (.int .i64 (l:Int)),.is (.string E2),.is (.string X3),.is (.string X3)]
  (fun W=>Cel W k 182 [.int .i64 (c:Int),.int .i64 (a:Int),.int .i64 (l:Int)]) (by kernel_rfl) (by kernel_rfl) (by kernel_rfl) (by kernel_rfl) (by kernel_rfl) (fun _ _ h hb=>h.below hb) HC1.out ?steps ?last
 case steps =>
  simp only [List.take_succ_cons,List.take_zero]
  refine ⟨?_,?_,?_,?_,?_,?_,?_,?_,?_,?_,?_,?_,?_,?_,?_,trivial⟩
  all_goals
   intro vs W ρ hρ hc hf hg hI hH hd R' hR
   have z0:=hI.cell (i:=0) rfl
   have z1:=hI.cell (i:=1) rfl
   have z2:=hI.cell (i:=2) rfl
   have HR:=Lib.hid hR
   simp [depsOf,Region.binds,sayAt,Say.holds] at hd
   clear hR hI
  case refine_8 =>
   go_simp
   exact HR.out _ _ ⟨W.heap.size,hH,by simp,rfl,heap_alloc_new W _⟩ ((Below.refl _ _).alloc (Nat.le_refl _) _) (fun h=>by cases h)
  case refine_9 =>
   obtain ⟨p,hp1,hp2,hp3,hp4⟩:=hd
   have hbk:=HBk.out _ p hp4
   go_simp
   exact HR.out _ _ (by simp [sayAt,Say.holds]) (Below.refl _ _) (by simp [sayAt,Say.isBlk])
  case refine_3 =>
   go_simp
   refine (HE1.out _).mono ?_
   rintro e w' ⟨rfl,hb⟩
   exact ⟨_,rfl,HR.out _ _ (by simp [sayAt,Say.holds]) hb (by simp [sayAt,Say.isBlk])⟩
  case refine_13 =>
   go_simp
   refine (HE2.out _).mono ?_
   rintro e w' ⟨rfl,hb⟩
   exact ⟨_,rfl,HR.out _ _ (by simp [sayAt,Say.holds]) hb (by simp [sayAt,Say.isBlk])⟩
  all_goals
   go_simp
   first
    | exact HR.out _ _ (by simp [sayAt,Say.holds]) (Below.refl _ _) (by simp [sayAt,Say.isBlk])
    | trace_state
 case last =>
  intro vs W hI hb hg hd
  have g:=hg 14 (by omega)
  simp only [sayAt,Say.holds,List.getD_cons_succ,List.getD_cons_zero] at g
  simp only [List.take_succ_cons,List.take_zero,List.drop_succ_cons,List.drop_zero,putAll,Act.put,List.setIfInBounds_toArray,List.set_cons_succ,List.set_cons_zero,Nat.zero_add,Nat.reduceAdd]
  rw [g]
  have HB2:=Lib.hid (HB1.out.trans (hb.mono (by omega)))
  clear g hg hd hb hI
  go_wp2_with fail
  refine (HRp.out _).mono ?_
  rintro e w5 ⟨rfl,hb5⟩
  have HB5:=Lib.hid (HB2.out.trans (hb5.mono HB2.out.size))
  clear hb5
  go_wp2_with fail
  go_ret
  exact ⟨by rw [HHB.out];rfl,HB5.out⟩
def setH (W:World) (R:Nat) (v0 v1 v2:Value):World:=((W.setCell ⟨R,0,none⟩ v0).setCell ⟨R,1,none⟩ v1).setCell ⟨R,2,none⟩ v2
def setL (W:World) (R:Nat) (v0 v1 v2:Value):World:=((W.setCell ⟨R,1,none⟩ v0).setCell ⟨R,2,none⟩ v1).setCell ⟨R,3,none⟩ v2
section
variable {W w:World} {R H:Nat} {t:TypeId} {u0 u1 u2 v0 v1 v2:Value}
theorem setH_cel (h:Cel W R t [u0,u1,u2]):Cel (setH W R v0 v1 v2) R t [v0,v1,v2]:=((h.set (i:=0) (v:=v0)).set (i:=1) (v:=v1)).set (i:=2) (v:=v2)
theorem setH_below (h:Below H w W) (hR:H ≤ R):Below H w (setH W R v0 v1 v2) :=
 ((h.setCell (p:=⟨R,0,none⟩) hR v0).setCell (p:=⟨R,1,none⟩) hR v1).setCell (p:=⟨R,2,none⟩) hR v2
theorem setL_other {k:Nat} (h:k ≠ R):(setL W R v0 v1 v2).heap[k]? = W.heap[k]?:=by
 have e:∀ (W:World) (i:Nat) (v:Value),(W.setCell ⟨R,i,none⟩ v).heap[k]? = W.heap[k]?:=fun W i v=>Below.heap_setCell W ⟨R,i,none⟩ v k h
 unfold setL
 rw [e,e,e]
theorem setL_fr {F G:Nat → Prop} (h:Fr F G w W) (hR:F R):Fr F G w (setL W R v0 v1 v2) :=
 ((h.set (p:=⟨R,1,none⟩) hR v0).set (p:=⟨R,2,none⟩) hR v1).set (p:=⟨R,3,none⟩) hR v2
end
theorem rd_up {D:Dev} (hu:D.down = false) {i:Nat} (hi:i < D.on.length):rdV D (i:Int) = (flushF D i,0):=by
 unfold rdV flushF
 rw [if_neg (by rw [hu];decide),if_neg (by omega),Int.toNat_natCast]
theorem rd_down {D:Dev} (hu:D.down = true) (i:Int):rdV D i = (nil0,90):=by
 unfold rdV
 rw [if_pos hu]
def hd1 (D:Dev) (i:Nat):Nat × Nat × Nat :=
 if okH (areaN D) (flushF D i).data.toList then (cOf (flushF D i).data.toList,aOf (flushF D i).data.toList,lOf (flushF D i).data.toList) else (0,0,0)
def hdW (h:Nat × Nat × Nat):Value:=hdV h.1 h.2.1 h.2.2
section
variable {Rep:RepT} {w:World} {F:Nat → Prop} {p g c a n m mn:Nat} {A B:Value} {l:Lg} {D:Dev}
theorem read_none {W w:World} (hc:Cel W w.heap.size 182 [.int .i64 0,.int .i64 0,.int .i64 0]) (hb:Below w.heap.size w W) :
  Cel (setH W w.heap.size (.int .i64 0) (.int .i64 0) (.int .i64 0)) w.heap.size 182 [.int .i64 0,.int .i64 0,.int .i64 0] ∧ Below w.heap.size w (setH W w.heap.size (.int .i64 0) (.int .i64 0) (.int .i64 0)) :=
 ⟨setH_cel hc,setH_below hb (Nat.le_refl _)⟩
theorem readHead_down (H:DevQ Rep) (hr:Rep w F g D) (hc:LC w p g c a n A mn B) (hu:D.down = true) (i:Nat) (hi:i ≤ 1) :
  Calls Tryz.prog 234 #[.pointer (some ⟨p,0,none⟩),.int .i64 (i:Int)] w fun e w'=>e = .returned (.tuple #[hdV 0 0 0,.int .i64 90]) ∧ Below w.heap.size w w':=by
 have hal:Below w.heap.size w (w.alloc (.cells #[.int .i64 0,.int .i64 0,.int .i64 0] 182)):=(Below.refl _ w).alloc (Nat.le_refl _) _
 have hcb:Cel (w.alloc (.cells #[.int .i64 0,.int .i64 0,.int .i64 0] 182)) w.heap.size 182 [.int .i64 0,.int .i64 0,.int .i64 0]:=(blk1 w _).2
 have hr1:=H.step hr hal
 have hc1:=Cel.below hc hal
 go_enter Tryz.func234,Tryz.ntmps234
 go_upto_region 1 with fail
 generalize w.alloc (.cells #[.int .i64 0,.int .i64 0,.int .i64 0] 182) = W1 at *
 have HB1:=Lib.hid hal
 have HC1:=Lib.hid hcb
 have k0:=hc1.cell (i:=0) rfl
 have hrd:=H.read (i:Int) W1 hr1 ⟨by omega,by omega⟩
 rw [rd_down hu] at hrd
 have HRd:=Lib.hid hrd
 clear hal hcb hr1 hc1 hrd hr hc
 go_wp2_with fail
 refine HRd.out.mono ?_
 rintro e w2 ⟨rfl,hb⟩
 have HB2:=Lib.hid (HB1.out.trans (hb.mono HB1.out.size))
 have HC2:=Lib.hid (HC1.out.below hb)
 have zq:=fun i=>HC2.out.free (i:=i)
 have y0:=HC2.out.cell (i:=0) rfl
 have y1:=HC2.out.cell (i:=1) rfl
 have y2:=HC2.out.cell (i:=2) rfl
 clear hb
 go_wp2_with fail
 have HF:=setH_cel (v0:=.int .i64 0) (v1:=.int .i64 0) (v2:=.int .i64 0) HC2.out
 have z0:=HF.cell (i:=0) rfl
 have z1:=HF.cell (i:=1) rfl
 have z2:=HF.cell (i:=2) rfl
 unfold setH at z0 z1 z2
 exact bodyPost_ret (v:=.tuple #[hdV 0 0 0,.int .i64 90]) (by simp [results,Tryz.results234,go_sem,hdV,z0,z1,z2]) rfl ⟨rfl,setH_below HB2.out (Nat.le_refl _)⟩
theorem u64_wrap {x:Nat} (h:x < 18446744073709551616):IntKind.u64.wrap (x:Int) = (x:Int):=by
 simp only [IntKind.wrap,IntKind.bits,IntKind.signed];simp;omega
theorem readHead_up (HRt:RepTxt) (H:DevQ Rep) (hr:Rep w F g D) (hc:LC w p g c a n A mn B) (h4:4 ≤ D.on.length) (hu:D.down = false) (i:Nat) (hi:i ≤ 1) :
  Calls Tryz.prog 234 #[.pointer (some ⟨p,0,none⟩),.int .i64 (i:Int)] w fun e w'=>e = .returned (.tuple #[hdW (hd1 D i),.int .i64 0]) ∧ Below w.heap.size w w':=by
 have hal:Below w.heap.size w (w.alloc (.cells #[.int .i64 0,.int .i64 0,.int .i64 0] 182)):=(Below.refl _ w).alloc (Nat.le_refl _) _
 have hcb:Cel (w.alloc (.cells #[.int .i64 0,.int .i64 0,.int .i64 0] 182)) w.heap.size 182 [.int .i64 0,.int .i64 0,.int .i64 0]:=(blk1 w _).2
 have hr1:=H.step hr hal
 have hc1:=Cel.below hc hal
 have hok:=H.ok hr
 have hs64:=flush64 hok (show i < D.on.length by omega)
 have HSec:=Lib.hid (fun c a l W h1 h2 h3=>sec_any HRt c a l W h1 h2 h3)
 have hrd:=H.read (i:Int) (w.alloc (.cells #[.int .i64 0,.int .i64 0,.int .i64 0] 182)) hr1 ⟨by omega,by omega⟩
 rw [rd_up hu (by omega)] at hrd
 have HRd:=Lib.hid hrd
 have HM:=Lib.hid (fun W (h:Below (w.alloc (.cells #[.int .i64 0,.int .i64 0,.int .i64 0] 182)).heap.size (w.alloc (.cells #[.int .i64 0,.int .i64 0,.int .i64 0] 182)) W)=>most_any H (H.step hr1 h) (Cel.below hc1 h) h4)
 have hab:areaN D ≤ 65536:=by have:=hok.max;unfold areaN;omega
 have hOk:hd1 D i = if okH (areaN D) (flushF D i).data.toList then (cOf (flushF D i).data.toList,aOf (flushF D i).data.toList,lOf (flushF D i).data.toList) else (0,0,0):=rfl
 generalize hd1 D i = R at hOk ⊢
 generalize flushF D i = s at *
 have hsl:s.data.toList.length = 64:=by rw [Array.length_toList];exact hs64
 have hm1:=fun W=>str_mid s 4 12 (by omega) (by omega) 4 12 rfl rfl W
 have hm2:=fun W=>str_mid s 13 21 (by omega) (by omega) 13 21 rfl rfl W
 obtain ⟨b,hb⟩:∃ b,s.data.toList[12]? = some b:=⟨_,List.getElem?_eq_getElem (by omega)⟩
 have hix:=fun W=>str_at s 12 b hb 12 rfl W
 have hcl:cOf s.data.toList < 256 ^ 8:=numB_lt 8 _ (by rw [List.length_take,List.length_drop];omega)
 have hll:lOf s.data.toList < 256 ^ 8:=numB_lt 8 _ (by rw [List.length_take,List.length_drop];omega)
 have haO:aOf s.data.toList = b.toNat:=by unfold aOf;rw [List.getD_eq_getElem?_getD,hb];rfl
 have hn1:=fun W=>lnumber_any ⟨((s.data.toList.drop 4).take (12 - 4)).toArray⟩ W (by rw [text_size,List.length_take,List.length_drop];omega)
 have hn2:=fun W=>lnumber_any ⟨((s.data.toList.drop 13).take (21 - 13)).toArray⟩ W (by rw [text_size,List.length_take,List.length_drop];omega)
 have q1:numB ((⟨((s.data.toList.drop 4).take (12 - 4)).toArray⟩:ByteArray).data.toList) = cOf s.data.toList:=rfl
 have q2:numB ((⟨((s.data.toList.drop 13).take (21 - 13)).toArray⟩:ByteArray).data.toList) = lOf s.data.toList:=rfl
 rw [q1] at hn1
 rw [q2] at hn2
 have hO2:okH (areaN D) s.data.toList ↔ 1 ≤ cOf s.data.toList ∧ cOf s.data.toList ≤ 4611686018427387904 ∧ aOf s.data.toList ≤ 1 ∧ lOf s.data.toList ≤ areaN D ∧ s = headB (cOf s.data.toList) (aOf s.data.toList) (lOf s.data.toList):=by
  unfold okH
  have:s.data.toList = headL (cOf s.data.toList) (aOf s.data.toList) (lOf s.data.toList) ↔ s = headB (cOf s.data.toList) (aOf s.data.toList) (lOf s.data.toList):=by
   constructor
   ·intro e
    unfold headB
    apply ByteArray.ext
    apply Array.toList_inj.1
    simpa using e
   ·intro e
    have:=congrArg (fun t:ByteArray=>t.data.toList) e
    simpa [headB] using this
  rw [this]
 have hbl:=b.toNat_lt
 have hb8:=u8_i64 b
 rw [haO] at hO2 hOk
 have HNo:=Lib.hid (show ¬ (1 ≤ cOf s.data.toList ∧ cOf s.data.toList ≤ 4611686018427387904 ∧ b.toNat ≤ 1 ∧ lOf s.data.toList ≤ areaN D ∧ s = headB (cOf s.data.toList) b.toNat (lOf s.data.toList)) → R = (0,0,0) from fun h=>by rw [hOk,if_neg (fun h'=>h (hO2.1 h'))])
 have HYes:=Lib.hid (show (1 ≤ cOf s.data.toList ∧ cOf s.data.toList ≤ 4611686018427387904 ∧ b.toNat ≤ 1 ∧ lOf s.data.toList ≤ areaN D ∧ s = headB (cOf s.data.toList) b.toNat (lOf s.data.toList)) → R = (cOf s.data.toList,b.toNat,lOf s.data.toList) from fun h=>by rw [hOk,if_pos (hO2.2 h)])
 have HN1:=Lib.hid hn1
 have HN2:=Lib.hid hn2
 clear hn1 hn2 q1 q2 hb haO hOk hO2 hs64 hsl hok hrd
 generalize cOf s.data.toList = cc at *
 generalize lOf s.data.toList = ll at *
 generalize (⟨((s.data.toList.drop 4).take (12 - 4)).toArray⟩:ByteArray) = S1 at hm1 HN1
 generalize (⟨((s.data.toList.drop 13).take (21 - 13)).toArray⟩:ByteArray) = S2 at hm2 HN2
 generalize areaN D = ab at *
 have wab:=u64_wrap (x:=ab) (by omega)
 have hcl2:cc < 18446744073709551616:=hcl
 have hll2:ll < 18446744073709551616:=hll
 have hbl2:b.toNat ≤ 255:=by omega
 have HMm:=Lib.hid (And.intro hm1 (And.intro hm2 (And.intro hix hb8)))
 have hend:=fun (W:World) (h1:Cel W w.heap.size 182 [.int .i64 0,.int .i64 0,.int .i64 0]) (h2:Below w.heap.size w W)=>read_none h1 h2
 have HEnd:=Lib.hid hend
 clear hm1 hm2 hix hb8 hcl hll hend HRt hr hc
 go_enter Tryz.func234,Tryz.ntmps234
 go_upto_region 1 with fail
 generalize w.alloc (.cells #[.int .i64 0,.int .i64 0,.int .i64 0] 182) = W1 at *
 have HB1:=Lib.hid hal
 have HC1:=Lib.hid hcb
 have k0:=hc1.cell (i:=0) rfl
 clear hal hcb hr1 hc1
 go_wp2_with fail
 refine HRd.out.mono ?_
 rintro e w2 ⟨rfl,hb⟩
 have HB2:=Lib.hid (HB1.out.trans (hb.mono HB1.out.size))
 have HC2:=Lib.hid (HC1.out.below hb)
 have HW1:=Lib.hid hb
 clear hb k0
 go_upto_region 4 with fail
 refine wp_region_said 12 [25,26,27,28,29,30,31,32,33,8,9,10]
  [.is (.string s),.is (.string S1),.is (.int .u64 (cc:Int)),.is (.string s),.is (.int .u8 (b.toNat:Int)),.is (.int .i64 (b.toNat:Int)),.is (.string s),.is (.string S2),.is (.int .u64 (ll:Int)),.is (.int .u64 (cc:Int)),.is (.int .i64 (b.toNat:Int)),.is (.int .u64 (ll:Int))]
  (fun W=>Below w2.heap.size w2 W) (by kernel_rfl) (by kernel_rfl) (by kernel_rfl) (by kernel_rfl) (by kernel_rfl) (fun _ _ h hb=>h.trans (hb.mono h.size)) (Below.refl _ _) ?steps ?last
 case steps =>
  simp only [List.take_succ_cons,List.take_zero]
  refine ⟨?_,?_,?_,?_,?_,?_,?_,?_,?_,?_,?_,?_,trivial⟩
  all_goals
   intro vs W ρ hρ hc hf hg hI hH hd R' hR
   obtain ⟨hm1,hm2,hix,hb8⟩:=HMm.out
   have HR:=Lib.hid hR
   simp [depsOf,Region.binds,sayAt,Say.holds] at hd
   clear hR
  case refine_3 =>
   go_simp
   refine (HN1.out _).mono ?_
   rintro e w' ⟨rfl,rfl⟩
   exact ⟨_,rfl,HR.out _ _ (by simp [sayAt,Say.holds]) (Below.refl _ _) (by simp [sayAt,Say.isBlk])⟩
  case refine_9 =>
   go_simp
   refine (HN2.out _).mono ?_
   rintro e w' ⟨rfl,rfl⟩
   exact ⟨_,rfl,HR.out _ _ (by simp [sayAt,Say.holds]) (Below.refl _ _) (by simp [sayAt,Say.isBlk])⟩
  all_goals
   go_simp
   first
    | exact HR.out _ _ (by simp [sayAt,Say.holds]) (Below.refl _ _) (by simp [sayAt,Say.isBlk])
    | trace_state
 case last =>
  intro vs W hI hb hg hd
  have g2:=hg 9 (by omega)
  have g5:=hg 10 (by omega)
  have g8:=hg 11 (by omega)
  have g0:=hg 0 (by omega)
  simp only [sayAt,Say.holds,List.getD_cons_succ,List.getD_cons_zero] at g2 g5 g8 g0
  simp only [List.take_succ_cons,List.take_zero,List.drop_succ_cons,List.drop_zero,putAll,Act.put,List.setIfInBounds_toArray,List.set_cons_succ,List.set_cons_zero,Nat.zero_add,Nat.reduceAdd]
  simp only [g2,g5,g8]
  have HB3:=Lib.hid (HB2.out.trans (hI.mono HB2.out.size))
  have HC3:=Lib.hid (HC2.out.below hI)
  have HM3:=Lib.hid (HM.out _ (HW1.out.trans (hI.mono HW1.out.size)))
  have zq:=fun i=>HC3.out.free (i:=i)
  have y0:=HC3.out.cell (i:=0) rfl
  have y1:=HC3.out.cell (i:=1) rfl
  have y2:=HC3.out.cell (i:=2) rfl
  have HF:=setH_cel (v0:=.int .i64 0) (v1:=.int .i64 0) (v2:=.int .i64 0) HC3.out
  have z0:=HF.cell (i:=0) rfl
  have z1:=HF.cell (i:=1) rfl
  have z2:=HF.cell (i:=2) rfl
  unfold setH at z0 z1 z2
  have HZ:=Lib.hid (And.intro z0 (And.intro z1 z2))
  have HEn:=Lib.hid (setH_below (v0:=.int .i64 0) (v1:=.int .i64 0) (v2:=.int .i64 0) HB3.out (Nat.le_refl _))
  clear g2 g5 g8 g0 hg hd hb hI HN1 HN2 HMm HM HW1 HB2 HC2 HC1 HB1 z0 z1 z2 HF HRd HEnd
  by_cases c1:1 ≤ (cc:Int)
  rotate_left
  ·have hz:=HNo.out (fun h=>by omega)
   subst hz
   go_wp2_with (first | (refine HM3.out.mono ?_;rintro e w1 ⟨rfl,rfl⟩) | fail)
   obtain ⟨z0,z1,z2⟩:=HZ.out
   exact bodyPost_ret (v:=.tuple #[hdV 0 0 0,.int .i64 0]) (by simp [results,Tryz.results234,go_sem,hdV,z0,z1,z2]) rfl ⟨rfl,HEn.out⟩
  by_cases c2:(cc:Int) ≤ 4611686018427387904
  rotate_left
  ·have hz:=HNo.out (fun h=>by omega)
   subst hz
   go_wp2_with (first | (refine HM3.out.mono ?_;rintro e w1 ⟨rfl,rfl⟩) | fail)
   obtain ⟨z0,z1,z2⟩:=HZ.out
   exact bodyPost_ret (v:=.tuple #[hdV 0 0 0,.int .i64 0]) (by simp [results,Tryz.results234,go_sem,hdV,z0,z1,z2]) rfl ⟨rfl,HEn.out⟩
  by_cases c3:(b.toNat:Int) ≤ 1
  rotate_left
  ·have hz:=HNo.out (fun h=>by omega)
   subst hz
   go_wp2_with (first | (refine HM3.out.mono ?_;rintro e w1 ⟨rfl,rfl⟩) | fail)
   obtain ⟨z0,z1,z2⟩:=HZ.out
   exact bodyPost_ret (v:=.tuple #[hdV 0 0 0,.int .i64 0]) (by simp [results,Tryz.results234,go_sem,hdV,z0,z1,z2]) rfl ⟨rfl,HEn.out⟩
  by_cases c5:(ll:Int) ≤ (ab:Int)
  rotate_left
  ·have hz:=HNo.out (fun h=>by omega)
   subst hz
   go_wp2_with (first | (refine HM3.out.mono ?_;rintro e w1 ⟨rfl,rfl⟩) | fail)
   obtain ⟨z0,z1,z2⟩:=HZ.out
   exact bodyPost_ret (v:=.tuple #[hdV 0 0 0,.int .i64 0]) (by simp [results,Tryz.results234,go_sem,hdV,z0,z1,z2]) rfl ⟨rfl,HEn.out⟩
  have hse:=fun V=>HSec.out cc b.toNat ll V (by omega) (by omega) (by omega)
  unfold hdV at hse
  have HSe:=Lib.hid hse
  have w1:=i64_wrap (x:=(cc:Int)) (by omega) (by omega)
  have w2':=i64_wrap (x:=(ll:Int)) (by omega) (by omega)
  have hal:Below W.heap.size W (W.alloc (.cells #[.int .i64 (cc:Int),.int .i64 (b.toNat:Int),.int .i64 (ll:Int)] 182)):=(Below.refl _ W).alloc (Nat.le_refl _) _
  have hcb:Cel (W.alloc (.cells #[.int .i64 (cc:Int),.int .i64 (b.toNat:Int),.int .i64 (ll:Int)] 182)) W.heap.size 182 [.int .i64 (cc:Int),.int .i64 (b.toNat:Int),.int .i64 (ll:Int)]:=(blk1 W _).2
  have HB4:=Lib.hid (HB3.out.trans (hal.mono HB3.out.size))
  have HC4:=Lib.hid (HC3.out.below hal)
  clear hse hal zq y0 y1 y2 HB3 HC3 HEn HZ HSec
  generalize headB cc b.toNat ll = hdB at HSe HNo HYes
  go_wp2_with (first | (refine HM3.out.mono ?_;rintro e w1 ⟨rfl,rfl⟩) | fail)
  refine (HSe.out _).mono ?_
  rintro e w5 ⟨rfl,hb⟩
  have HB5:=Lib.hid (HB4.out.trans (hb.mono HB4.out.size))
  have HC5:=Lib.hid (HC4.out.below hb)
  have HA5:=Lib.hid (hcb.below hb)
  have zq:=fun i=>HC5.out.free (i:=i)
  have y0:=HC5.out.cell (i:=0) rfl
  have y1:=HC5.out.cell (i:=1) rfl
  have y2:=HC5.out.cell (i:=2) rfl
  have x0:=HA5.out.cell (i:=0) rfl
  have x1:=HA5.out.cell (i:=1) rfl
  have x2:=HA5.out.cell (i:=2) rfl
  clear hb hcb HB4 HC4 HM3 HSe
  by_cases he:s = hdB
  ·have hz:=HYes.out ⟨by omega,by omega,by omega,by omega,he⟩
   subst hz
   subst he
   have q:=text_eq s
   go_wp2_with fail
   have HF:=setH_cel (v0:=.int .i64 (cc:Int)) (v1:=.int .i64 (b.toNat:Int)) (v2:=.int .i64 (ll:Int)) HC5.out
   have z0:=HF.cell (i:=0) rfl
   have z1:=HF.cell (i:=1) rfl
   have z2:=HF.cell (i:=2) rfl
   unfold setH at z0 z1 z2
   exact bodyPost_ret (v:=.tuple #[hdV cc b.toNat ll,.int .i64 0]) (by simp [results,Tryz.results234,go_sem,hdV,z0,z1,z2]) rfl ⟨rfl,setH_below HB5.out (Nat.le_refl _)⟩
  ·have hz:=HNo.out (fun h=>he h.2.2.2.2)
   subst hz
   have q:=text_ne he
   go_wp2_with fail
   have HF:=setH_cel (v0:=.int .i64 0) (v1:=.int .i64 0) (v2:=.int .i64 0) HC5.out
   have z0:=HF.cell (i:=0) rfl
   have z1:=HF.cell (i:=1) rfl
   have z2:=HF.cell (i:=2) rfl
   unfold setH at z0 z1 z2
   exact bodyPost_ret (v:=.tuple #[hdV 0 0 0,.int .i64 0]) (by simp [results,Tryz.results234,go_sem,hdV,z0,z1,z2]) rfl ⟨rfl,setH_below HB5.out (Nat.le_refl _)⟩
end
def nwP (D:Dev):Nat × Nat × Nat:=if (hd1 D 0).1 < (hd1 D 1).1 then hd1 D 1 else hd1 D 0
section
variable {Rep:RepT} {w:World} {F:Nat → Prop} {p g c a n m mn:Nat} {A B:Value} {l:Lg} {D:Dev}
theorem alloc3 (w:World) (x y z:Value) (t:TypeId):Below w.heap.size w (w.alloc (.cells #[x,y,z] t)) ∧ Cel (w.alloc (.cells #[x,y,z] t)) w.heap.size t [x,y,z] :=
 ⟨(Below.refl _ w).alloc (Nat.le_refl _) _,(blk1 w _).2⟩
theorem newest_down (H:DevQ Rep) (hr:Rep w F g D) (hc:LC w p g c a n A mn B) (hu:D.down = true) :
  Calls Tryz.prog 158 #[.pointer (some ⟨p,0,none⟩)] w fun e w'=>e = .returned (.tuple #[hdV 0 0 0,.int .i64 90]) ∧ Below w.heap.size w w':=by
 have hal:=alloc3 w (.int .i64 0) (.int .i64 0) (.int .i64 0) 182
 have HD:=Lib.hid (readHead_down H (H.step hr hal.1) (Cel.below hc hal.1) hu 0 (by omega))
 go_enter Tryz.func158,Tryz.ntmps158
 go_upto_region 1 with fail
 generalize w.alloc (.cells #[.int .i64 0,.int .i64 0,.int .i64 0] 182) = W1 at *
 have HB1:=Lib.hid hal.1
 have HC1:=Lib.hid hal.2
 clear hal hr hc
 unfold hdV at HD
 go_wp2_with fail
 refine HD.out.mono ?_
 rintro e w2 ⟨rfl,hb⟩
 have hal2:=alloc3 w2 (.int .i64 0) (.int .i64 0) (.int .i64 0) 182
 have HB2:=Lib.hid ((HB1.out.trans (hb.mono HB1.out.size)).trans (hal2.1.mono (HB1.out.trans (hb.mono HB1.out.size)).size))
 have HC2:=Lib.hid ((HC1.out.below hb).below hal2.1)
 clear hb hal2 HD
 go_upto_region 3 with fail
 generalize w2.alloc _ = w3 at HB2 HC2 ⊢
 have zq:=fun i=>HC2.out.free (i:=i)
 have y0:=HC2.out.cell (i:=0) rfl
 have y1:=HC2.out.cell (i:=1) rfl
 have y2:=HC2.out.cell (i:=2) rfl
 go_wp2_with fail
 have HF:=setH_cel (v0:=.int .i64 0) (v1:=.int .i64 0) (v2:=.int .i64 0) HC2.out
 have z0:=HF.cell (i:=0) rfl
 have z1:=HF.cell (i:=1) rfl
 have z2:=HF.cell (i:=2) rfl
 unfold setH at z0 z1 z2
 exact bodyPost_ret (v:=.tuple #[hdV 0 0 0,.int .i64 90]) (by simp [results,Tryz.results158,go_sem,hdV,z0,z1,z2]) rfl ⟨rfl,setH_below HB2.out (Nat.le_refl _)⟩
theorem newest_up (HRt:RepTxt) (H:DevQ Rep) (hr:Rep w F g D) (hc:LC w p g c a n A mn B) (h4:4 ≤ D.on.length) (hu:D.down = false) :
  Calls Tryz.prog 158 #[.pointer (some ⟨p,0,none⟩)] w fun e w'=>e = .returned (.tuple #[hdW (nwP D),.int .i64 0]) ∧ Below w.heap.size w w':=by
 have hal:=alloc3 w (.int .i64 0) (.int .i64 0) (.int .i64 0) 182
 have HRd:=Lib.hid (fun W (h:Below w.heap.size w W) i hi=>readHead_up HRt H (H.step hr h) (Cel.below hc h) h4 hu i hi)
 have HN:=Lib.hid (show nwP D = if (hd1 D 0).1 < (hd1 D 1).1 then hd1 D 1 else hd1 D 0 from rfl)
 have HD0:=Lib.hid (fun W (h:Below w.heap.size w W)=>HRd.out W h 0 (by omega))
 have HD1:=Lib.hid (fun W (h:Below w.heap.size w W)=>HRd.out W h 1 (by omega))
 clear HRd
 generalize nwP D = R at HN ⊢
 generalize hd1 D 0 = q0 at HN HD0
 generalize hd1 D 1 = q1 at HN HD1
 obtain ⟨x0,x1,x2⟩:=q0
 obtain ⟨y0,y1,y2⟩:=q1
 simp only [hdW] at HD0 HD1 HN
 unfold hdV at HD0 HD1
 go_enter Tryz.func158,Tryz.ntmps158
 go_upto_region 1 with fail
 generalize w.alloc (.cells #[.int .i64 0,.int .i64 0,.int .i64 0] 182) = W1 at *
 have HB1:=Lib.hid hal.1
 have HC1:=Lib.hid hal.2
 clear hal hr hc
 go_wp2_with fail
 refine (HD0.out _ HB1.out).mono ?_
 rintro e w2 ⟨rfl,hb⟩
 have hal2:=alloc3 w2 (.int .i64 (x0:Int)) (.int .i64 (x1:Int)) (.int .i64 (x2:Int)) 182
 have HB2:=Lib.hid ((HB1.out.trans (hb.mono HB1.out.size)).trans (hal2.1.mono (HB1.out.trans (hb.mono HB1.out.size)).size))
 have HC2:=Lib.hid ((HC1.out.below hb).below hal2.1)
 have HX2:=Lib.hid hal2.2
 clear hb hal2 HD0
 go_upto_region 3 with fail
 generalize w2.alloc _ = w3 at HB2 HC2 HX2 ⊢
 generalize w2.heap.size = kx at HX2 ⊢
 go_wp2_with fail
 refine (HD1.out _ HB2.out).mono ?_
 rintro e w4 ⟨rfl,hb⟩
 have hal2:=alloc3 w4 (.int .i64 (y0:Int)) (.int .i64 (y1:Int)) (.int .i64 (y2:Int)) 182
 have HB4:=Lib.hid ((HB2.out.trans (hb.mono HB2.out.size)).trans (hal2.1.mono (HB2.out.trans (hb.mono HB2.out.size)).size))
 have HC4:=Lib.hid ((HC2.out.below hb).below hal2.1)
 have HX4:=Lib.hid ((HX2.out.below hb).below hal2.1)
 have HY4:=Lib.hid hal2.2
 clear hb hal2 HD1
 go_upto_region 6 with fail
 generalize w4.alloc _ = w5 at HB4 HC4 HX4 HY4 ⊢
 generalize w4.heap.size = ky at HY4 ⊢
 have zq:=fun i=>HC4.out.free (i:=i)
 have c0:=HC4.out.cell (i:=0) rfl
 have c1:=HC4.out.cell (i:=1) rfl
 have c2:=HC4.out.cell (i:=2) rfl
 have d0:=HX4.out.cell (i:=0) rfl
 have d1:=HX4.out.cell (i:=1) rfl
 have d2:=HX4.out.cell (i:=2) rfl
 have e0:=HY4.out.cell (i:=0) rfl
 have e1:=HY4.out.cell (i:=1) rfl
 have e2:=HY4.out.cell (i:=2) rfl
 by_cases hlt:x0 < y0
 ·have pl:(x0:Int) < (y0:Int):=by omega
  have hR:=HN.out
  rw [if_pos hlt] at hR
  have HR:=Lib.hid hR
  clear hR hlt
  go_wp2_with fail
  have HF:=setH_cel (v0:=.int .i64 (y0:Int)) (v1:=.int .i64 (y1:Int)) (v2:=.int .i64 (y2:Int)) HC4.out
  have z0:=HF.cell (i:=0) rfl
  have z1:=HF.cell (i:=1) rfl
  have z2:=HF.cell (i:=2) rfl
  unfold setH at z0 z1 z2
  exact bodyPost_ret (v:=.tuple #[hdV y0 y1 y2,.int .i64 0]) (by simp [results,Tryz.results158,go_sem,hdV,z0,z1,z2]) rfl ⟨by rw [HR.out];rfl,setH_below HB4.out (Nat.le_refl _)⟩
 ·have pl:¬ (x0:Int) < (y0:Int):=by omega
  have hR:=HN.out
  rw [if_neg hlt] at hR
  have HR:=Lib.hid hR
  clear hR hlt
  go_wp2_with fail
  have HF:=setH_cel (v0:=.int .i64 (x0:Int)) (v1:=.int .i64 (x1:Int)) (v2:=.int .i64 (x2:Int)) HC4.out
  have z0:=HF.cell (i:=0) rfl
  have z1:=HF.cell (i:=1) rfl
  have z2:=HF.cell (i:=2) rfl
  unfold setH at z0 z1 z2
  exact bodyPost_ret (v:=.tuple #[hdV x0 x1 x2,.int .i64 0]) (by simp [results,Tryz.results158,go_sem,hdV,z0,z1,z2]) rfl ⟨by rw [HR.out];rfl,setH_below HB4.out (Nat.le_refl _)⟩
def PutPost (Rep:RepT) (w:World) (F:Nat → Prop) (p g c0 a0 n0:Nat) (A:Value) (mn:Nat) (B:Value) (c a n:Nat) (r:Dev × Int) (e:Ending) (w':World):Prop :=
 e = .returned (.int .i64 r.2) ∧ ∃ F',Rep w' F' g r.1 ∧ ¬ F' p ∧ (r.2 = 0 → LC w' p g c a n A mn B) ∧ (r.2 ≠ 0 → LC w' p g c0 a0 n0 A mn B) ∧ Fr (fun k=>F k ∨ k = p) (fun k=>F' k ∨ k = p) w w'
theorem fr_p {F F':Nat → Prop} {w w':World} (h:Fr F F' w w'):Fr (fun k=>F k ∨ k = p) (fun k=>F' k ∨ k = p) w w' :=
 ⟨h.os,h.tape,h.output,h.size,fun i hi hn=>h.block i hi (fun hf=>hn (.inl hf)),fun k hk=>hk.elim (fun hf=>(h.foot k hf).elim (fun hq=>.inl (.inl hq)) .inr) (fun e=>.inl (.inr e))⟩
theorem below_fr {F G:Nat → Prop} {w W W':World} (h:Below w.heap.size w W) (k:Fr F G W W'):Fr F G w W' :=
 ⟨k.os.trans h.os,k.tape.trans h.tape,k.output.trans h.output,Nat.le_trans h.size k.size,fun i hi hn=>(k.block i (Nat.lt_of_lt_of_le hi h.size) hn).trans (h.block i hi),fun i hi=>(k.foot i hi).elim .inl (fun hs=>.inr (Nat.le_trans h.size hs))⟩
theorem cel_fr {F G:Nat → Prop} {W W':World} {q:Nat} {t:TypeId} {xs:List Value} (h:Cel W q t xs) (hf:Fr F G W W') (hn:¬ F q):Cel W' q t xs:=(hf.block q h.lt hn).trans h
theorem foot_not {F G:Nat → Prop} {W W':World} {q:Nat} (hf:Fr F G W W') (hn:¬ F q) (hl:q < W.heap.size):¬ G q:=fun hg=>(hf.foot q hg).elim hn (fun hs=>by omega)
end
def putP (D:Dev) (c a n:Nat):Dev × Int:=andD (wrD D ((c % 2:Nat):Int) (headB c a n)) flD
section
variable {Rep:RepT} {w:World} {F:Nat → Prop} {p g c0 a0 n0 c a n m mn:Nat} {A B:Value} {l:Lg} {D:Dev}
theorem setL_cel {W:World} {R:Nat} {t:TypeId} {u0 u1 u2 u3 u4 u5 u6 v0 v1 v2:Value} (h:Cel W R t [u0,u1,u2,u3,u4,u5,u6]):Cel (setL W R v0 v1 v2) R t [u0,v0,v1,v2,u4,u5,u6]:=((h.set (i:=1) (v:=v0)).set (i:=2) (v:=v1)).set (i:=3) (v:=v2)
theorem putHead_any (HRt:RepTxt) (HB:DevBase Rep) (H:DevQ Rep) (hr:Rep w F g D) (hc:LC w p g c0 a0 n0 A mn B) (hpF:¬ F p) (hcc:c ≤ 4611686018427388001) (ha:a ≤ 1) (hn:n ≤ 9223372036854775807) :
  Calls Tryz.prog 159 #[.pointer (some ⟨p,0,none⟩),hdV c a n] w (PutPost Rep w F p g c0 a0 n0 A mn B c a n (putP D c a n)):=by
 have hal:=alloc3 w (.int .i64 (c:Int)) (.int .i64 (a:Int)) (.int .i64 (n:Int)) 182
 have hFl:=H.lt hr
 have hSec:=fun V=>sec_any HRt c a n V (by omega) ha hn
 unfold hdV at hSec
 have HSec:=Lib.hid hSec
 obtain ⟨rm,hrm⟩:∃ rm,rm = c % 2:=⟨_,rfl⟩
 have v1:(c:Int).tmod 2 = (rm:Int):=by rw [Int.tmod_eq_emod_of_nonneg (by omega),hrm];omega
 have v2:(c:Int) % 2 = (rm:Int):=by rw [hrm];omega
 have HP:=Lib.hid (show putP D c a n = andD (wrD D (rm:Int) (headB c a n)) flD from by unfold putP;rw [hrm])
 have hpl:=hc.lt
 have hr1:=H.step hr hal.1
 have hc1:=Cel.below hc hal.1
 generalize hPst:PutPost Rep w F p g c0 a0 n0 A mn B c a n (putP D c a n) = Pst
 have HPst:=Lib.hid hPst
 have hhs:=headB_size c a n
 clear hPst hSec hrm hr hc
 generalize headB c a n = hdB at HSec HP hhs
 unfold hdV
 go_enter Tryz.func159,Tryz.ntmps159
 go_upto_region 1 with fail
 have hFb:∀ W':World,True:=fun _=>trivial
 have HB1:=Lib.hid hal.1
 have HX1:=Lib.hid hal.2
 have HR1:=Lib.hid hr1
 have HC1:=Lib.hid hc1
 clear hal hr1 hc1 hFb
 generalize w.alloc (.cells #[.int .i64 (c:Int),.int .i64 (a:Int),.int .i64 (n:Int)] 182) = W1 at *
 have hkF:¬ F w.heap.size:=fun hf=>by have:=hFl _ hf;omega
 generalize hk:w.heap.size = k at HX1 hkF ⊢
 clear hFl
 refine wp_region_said 9 [7,8,9,10,11,12,13,14,15]
  [.is (.pointer (some ⟨p,0,none⟩)),.is (.pointer (some ⟨p,0,none⟩)),.is (.pointer (some ⟨p,0,none⟩)),.is (.pointer (some ⟨g,0,none⟩)),.is (.pointer (some ⟨k,0,none⟩)),.is (.int .i64 (c:Int)),.is (.int .i64 (rm:Int)),.is (.agg #[.int .i64 (c:Int),.int .i64 (a:Int),.int .i64 (n:Int)]),.is (.string hdB)]
  (fun W=>Rep W F g D ∧ LC W p g c0 a0 n0 A mn B ∧ Cel W k 182 [.int .i64 (c:Int),.int .i64 (a:Int),.int .i64 (n:Int)]) (by kernel_rfl) (by kernel_rfl) (by kernel_rfl) (by kernel_rfl) (by kernel_rfl) (fun W W' h hb=>⟨H.step h.1 hb,Cel.below h.2.1 hb,h.2.2.below hb⟩) ⟨HR1.out,HC1.out,HX1.out⟩ ?steps ?last
 case steps =>
  simp only [List.take_succ_cons,List.take_zero]
  refine ⟨?_,?_,?_,?_,?_,?_,?_,?_,?_,trivial⟩
  all_goals
   intro vs W ρ hρ hc hf hg hI hH hd R' hR
   have y0:=hI.2.1.cell (i:=0) rfl
   have z0:=hI.2.2.cell (i:=0) rfl
   have z1:=hI.2.2.cell (i:=1) rfl
   have z2:=hI.2.2.cell (i:=2) rfl
   have HR:=Lib.hid hR
   simp [depsOf,Region.binds,sayAt,Say.holds] at hd
   clear hR hI
   go_simp
   first
    | exact HR.out _ _ (by simp [sayAt,Say.holds]) (Below.refl _ _) (by simp [sayAt,Say.isBlk])
    | (refine (HSec.out _).mono ?_;rintro e w' ⟨rfl,hb⟩;exact ⟨_,rfl,HR.out _ _ (by simp [sayAt,Say.holds]) hb (by simp [sayAt,Say.isBlk])⟩)
    | trace_state
 case last =>
  intro vs W hI hb hg hd
  have e3:=hg 3 (by omega)
  have e6:=hg 6 (by omega)
  have e8:=hg 8 (by omega)
  simp only [sayAt,Say.holds,List.getD_cons_succ,List.getD_cons_zero] at e3 e6 e8
  simp only [List.take_succ_cons,List.take_zero,List.drop_succ_cons,List.drop_zero,putAll,Act.put,List.setIfInBounds_toArray,List.set_cons_succ,List.set_cons_zero,Nat.zero_add,Nat.reduceAdd]
  rw [e3,e6,e8]
  have hwr:=HB.write (rm:Int) hdB W hI.1 ⟨by omega,by omega⟩ (by rw [hhs];unfold reachBytes;omega)
  have HI:=Lib.hid hI
  have hBW:Below w.heap.size w W:=HB1.out.trans (hb.mono HB1.out.size)
  have HBW:=Lib.hid hBW
  generalize wrD D (rm:Int) hdB = rr at hwr HP
  obtain ⟨D3,e3'⟩:=rr
  have HWr:=Lib.hid hwr
  clear e3 e6 e8 hg hd hb hI hwr hBW
  go_wp2_with fail
  refine HWr.out.mono ?_
  rintro e w7 ⟨rfl,F1,hr7,hf7⟩
  have hC7:=cel_fr HI.out.2.1 hf7 hpF
  have hX7:=cel_fr HI.out.2.2 hf7 hkF
  have hp7:=foot_not hf7 hpF HI.out.2.1.lt
  have hk7:=foot_not hf7 hkF HI.out.2.2.lt
  have HF7:=Lib.hid (below_fr HBW.out hf7)
  have HR7:=Lib.hid hr7
  have HC7:=Lib.hid hC7
  have HX7:=Lib.hid hX7
  have y0:=hC7.cell (i:=0) rfl
  clear hr7 hf7 hC7 hX7 HWr HI HBW
  by_cases h0:e3' = 0
  rotate_left
  ·have hne:(e3' != 0) = true:=by simpa using h0
   go_wp2_with fail
   rw [← HPst.out,HP.out,and_stop h0]
   exact ⟨rfl,F1,HR7.out,hp7,fun h=>absurd h h0,fun _=>HC7.out,fr_p HF7.out⟩
  subst h0
  have hfl:=HB.flush w7 HR7.out
  generalize hfd:flD D3 = r2 at hfl
  obtain ⟨D4,e4⟩:=r2
  have HFd:=Lib.hid hfd
  have HFl:=Lib.hid hfl
  clear hfl hfd
  go_wp2_with fail
  refine HFl.out.mono ?_
  rintro e w8 ⟨rfl,F2,hr8,hf8⟩
  have hC8:=cel_fr HC7.out hf8 hp7
  have hX8:=cel_fr HX7.out hf8 hk7
  have hp8:=foot_not hf8 hp7 HC7.out.lt
  have HF8:=Lib.hid (HF7.out.trans hf8)
  have HR8:=Lib.hid hr8
  have HC8:=Lib.hid hC8
  have HX8:=Lib.hid hX8
  clear hr8 hf8 hC8 hX8 HFl HC7 HX7 HF7 HR7 y0
  by_cases h0:e4 = 0
  rotate_left
  ·have hne:(e4 != 0) = true:=by simpa using h0
   go_wp2_with fail
   rw [← HPst.out,HP.out,and_go rfl,HFd.out]
   exact ⟨rfl,F2,HR8.out,hp8,fun h=>absurd h h0,fun _=>HC8.out,fr_p HF8.out⟩
  subst h0
  have y0:=HX8.out.cell (i:=0) rfl
  have y1:=HX8.out.cell (i:=1) rfl
  have y2:=HX8.out.cell (i:=2) rfl
  have zq:=fun i=>HC8.out.free (i:=i)
  have z1:=HC8.out.cell (i:=1) rfl
  have z2:=HC8.out.cell (i:=2) rfl
  have z3:=HC8.out.cell (i:=3) rfl
  go_wp2_with fail
  rw [← HPst.out,HP.out,and_go rfl,HFd.out]
  have hfr:=setL_fr (R:=p) (v0:=.int .i64 (c:Int)) (v1:=.int .i64 (a:Int)) (v2:=.int .i64 (n:Int)) (fr_p (p:=p) HF8.out) (.inr rfl)
  refine ⟨rfl,F2,H.kept HR8.out fun j hj=>setL_other (fun e=>hp8 (e ▸ hj)),hp8,fun _=>setL_cel HC8.out,fun h=>absurd rfl h,hfr⟩
end
def startP (D:Dev):(Dev × Int) × (Nat × Nat × Nat) :=
 if D.down = true then ((D,90),(0,0,0)) else if (nwP D).1 = 0 then (putP D 1 0 0,(1,0,0)) else ((D,0),nwP D)
section
variable {Rep:RepT} {w:World} {F:Nat → Prop} {p g c0 a0 n0 c a n m mn:Nat} {A B:Value} {l:Lg} {D:Dev}
theorem fr_refl_below {G:Nat → Prop} {w W:World} (h:Below w.heap.size w W):Fr G G w W:=(Fr.refl G w).below h
theorem start_any (HRt:RepTxt) (HB:DevBase Rep) (H:DevQ Rep) (hr:Rep w F g D) (hc:LC w p g c0 a0 n0 A mn B) (hpF:¬ F p) (h4:4 ≤ D.on.length) :
  Calls Tryz.prog 95 #[.pointer (some ⟨p,0,none⟩)] w (PutPost Rep w F p g c0 a0 n0 A mn B (startP D).2.1 (startP D).2.2.1 (startP D).2.2.2 (startP D).1):=by
 have hFl:=H.lt hr
 by_cases hu:D.down = true
 ·have HN:=Lib.hid (newest_down H hr hc hu)
  have HS:=Lib.hid (show startP D = ((D,90),(0,0,0)) from by unfold startP;rw [if_pos hu])
  have HR0:=Lib.hid hr
  have HC0:=Lib.hid hc
  clear hr hc
  generalize hPst:PutPost Rep w F p g c0 a0 n0 A mn B (startP D).2.1 (startP D).2.2.1 (startP D).2.2.2 (startP D).1 = Pst
  have HPst:=Lib.hid hPst
  clear hPst
  unfold hdV at HN
  go_enter Tryz.func95,Tryz.ntmps95
  go_wp2_with fail
  refine HN.out.mono ?_
  rintro e w2 ⟨rfl,hb⟩
  have hal2:=alloc3 w2 (.int .i64 0) (.int .i64 0) (.int .i64 0) 182
  have HB2:=Lib.hid (hb.trans (hal2.1.mono hb.size))
  clear hb hal2
  go_wp2_with fail
  rw [← HPst.out,HS.out]
  exact ⟨rfl,F,H.step HR0.out HB2.out,hpF,fun h=>absurd h (show ¬ ((90:Int) = 0) by decide),fun _=>Cel.below HC0.out HB2.out,fr_refl_below HB2.out⟩
 ·have hu2:D.down = false:=by simpa using hu
  have HN:=Lib.hid (newest_up HRt H hr hc h4 hu2)
  have HR0:=Lib.hid hr
  have HC0:=Lib.hid hc
  by_cases hz:(nwP D).1 = 0
  ·have HS:=Lib.hid (show startP D = (putP D 1 0 0,(1,0,0)) from by unfold startP;rw [if_neg hu,if_pos hz])
   have HPut:=Lib.hid (fun W (h:Below w.heap.size w W)=>show Calls Tryz.prog 159 #[.pointer (some ⟨p,0,none⟩),.agg #[.int .i64 1,.int .i64 0,.int .i64 0]] W (PutPost Rep W F p g c0 a0 n0 A mn B 1 0 0 (putP D 1 0 0)) from putHead_any (c:=1) (a:=0) (n:=0) HRt HB H (H.step hr h) (Cel.below hc h) hpF (by omega) (by omega) (by omega))
   generalize hPst:PutPost Rep w F p g c0 a0 n0 A mn B (startP D).2.1 (startP D).2.2.1 (startP D).2.2.2 (startP D).1 = Pst
   have HPst:=Lib.hid hPst
   clear hPst hr hc
   unfold hdW hdV at HN
   generalize nwP D = q at HN hz
   obtain ⟨x0,x1,x2⟩:=q
   simp only at hz HN
   subst hz
   go_enter Tryz.func95,Tryz.ntmps95
   go_wp2_with fail
   refine HN.out.mono ?_
   rintro e w2 ⟨rfl,hb⟩
   have hal2:=alloc3 w2 (.int .i64 0) (.int .i64 (x1:Int)) (.int .i64 (x2:Int)) 182
   have HB2:=Lib.hid (hb.trans (hal2.1.mono hb.size))
   have HX2:=Lib.hid hal2.2
   clear hb hal2 HN
   go_upto_region 2 with fail
   generalize w2.alloc _ = w3 at HB2 HX2 ⊢
   generalize w2.heap.size = k at HX2 ⊢
   have y0:=HX2.out.cell (i:=0) rfl
   go_wp2_with fail
   refine (HPut.out _ HB2.out).mono ?_
   intro e w5 hp
   obtain ⟨rfl,F',h1,h2,h3,h5,h6⟩:=hp
   have HE:=Lib.hid (And.intro h1 (And.intro h2 (And.intro h3 (And.intro h5 h6))))
   clear h1 h2 h3 h5 h6
   go_wp2_with fail
   rw [← HPst.out,HS.out]
   obtain ⟨h1,h2,h3,h5,h6⟩:=HE.out
   exact ⟨rfl,F',h1,h2,h3,h5,below_fr HB2.out h6⟩
  ·have HS:=Lib.hid (show startP D = ((D,0),nwP D) from by unfold startP;rw [if_neg hu,if_neg hz])
   generalize hPst:PutPost Rep w F p g c0 a0 n0 A mn B (startP D).2.1 (startP D).2.2.1 (startP D).2.2.2 (startP D).1 = Pst
   have HPst:=Lib.hid hPst
   clear hPst hr hc
   unfold hdW hdV at HN
   generalize nwP D = q at HN hz HS
   obtain ⟨x0,x1,x2⟩:=q
   simp only at hz HN
   have hne:¬ ((x0:Int) = 0):=by omega
   have hne2:((x0:Int) == 0) = false:=by simpa using hz
   clear hz
   go_enter Tryz.func95,Tryz.ntmps95
   go_wp2_with fail
   refine HN.out.mono ?_
   rintro e w2 ⟨rfl,hb⟩
   have hal2:=alloc3 w2 (.int .i64 (x0:Int)) (.int .i64 (x1:Int)) (.int .i64 (x2:Int)) 182
   have HB2:=Lib.hid (hb.trans (hal2.1.mono hb.size))
   have HX2:=Lib.hid hal2.2
   clear hb hal2 HN
   go_upto_region 2 with fail
   generalize w2.alloc _ = w3 at HB2 HX2 ⊢
   generalize w2.heap.size = k at HX2 ⊢
   have HC3:=Lib.hid (Cel.below HC0.out HB2.out)
   have y0:=HX2.out.cell (i:=0) rfl
   have y1:=HX2.out.cell (i:=1) rfl
   have y2:=HX2.out.cell (i:=2) rfl
   have zq:=fun i=>HC3.out.free (i:=i)
   have z1:=HC3.out.cell (i:=1) rfl
   have z2:=HC3.out.cell (i:=2) rfl
   have z3:=HC3.out.cell (i:=3) rfl
   go_wp2_with fail
   rw [← HPst.out,HS.out]
   have hr3:=H.step HR0.out HB2.out
   exact ⟨rfl,F,H.kept hr3 fun j hj=>setL_other (fun e=>hpF (e ▸ hj)),hpF,fun _=>setL_cel HC3.out,fun h=>absurd rfl h,setL_fr (fr_refl_below HB2.out) (.inr rfl)⟩
theorem hds_nw (D:Dev):hdsP D 2 = if (nwP D).1 = 0 then none else some (nwP D):=by
 have h0:hdsP D 1 = if okH (areaN D) (flushF D 0).data.toList then some (hd1 D 0) else none:=by
  unfold hdsP hd1
  by_cases h:okH (areaN D) (flushF D 0).data.toList
  ·rw [if_pos ⟨h,fun h e=>by cases e⟩,if_pos h,if_pos h]
  ·rw [if_neg (fun e=>h e.1),if_neg h];rfl
 have e2:hdsP D 2 = if okH (areaN D) (flushF D 1).data.toList ∧ (∀ h,hdsP D 1 = some h → h.1 < cOf (flushF D 1).data.toList) then some (cOf (flushF D 1).data.toList,aOf (flushF D 1).data.toList,lOf (flushF D 1).data.toList) else hdsP D 1:=rfl
 rw [e2,h0]
 unfold nwP
 by_cases k0:okH (areaN D) (flushF D 0).data.toList
 ·have p0:hd1 D 0 = (cOf (flushF D 0).data.toList,aOf (flushF D 0).data.toList,lOf (flushF D 0).data.toList):=by unfold hd1;rw [if_pos k0]
  have q0:=k0.1
  rw [if_pos k0]
  by_cases k1:okH (areaN D) (flushF D 1).data.toList
  ·have p1:hd1 D 1 = (cOf (flushF D 1).data.toList,aOf (flushF D 1).data.toList,lOf (flushF D 1).data.toList):=by unfold hd1;rw [if_pos k1]
   have q1:=k1.1
   rw [p0,p1]
   by_cases hlt:cOf (flushF D 0).data.toList < cOf (flushF D 1).data.toList
   ·rw [if_pos ⟨k1,fun h e=>by rw [← Option.some.inj e];exact hlt⟩,if_pos hlt,if_neg (by show ¬ cOf (flushF D 1).data.toList = 0;omega)]
   ·rw [if_neg (fun e=>hlt (e.2 _ rfl)),if_neg hlt,if_neg (by show ¬ cOf (flushF D 0).data.toList = 0;omega)]
  ·have p1:hd1 D 1 = (0,0,0):=by unfold hd1;rw [if_neg k1]
   rw [p1,if_neg (fun e=>k1 e.1),p0,if_neg (show ¬ cOf (flushF D 0).data.toList < 0 by omega),if_neg (by show ¬ cOf (flushF D 0).data.toList = 0;omega)]
 ·have p0:hd1 D 0 = (0,0,0):=by unfold hd1;rw [if_neg k0]
  rw [if_neg k0,p0]
  by_cases k1:okH (areaN D) (flushF D 1).data.toList
  ·have p1:hd1 D 1 = (cOf (flushF D 1).data.toList,aOf (flushF D 1).data.toList,lOf (flushF D 1).data.toList):=by unfold hd1;rw [if_pos k1]
   have q1:=k1.1
   rw [p1,if_pos ⟨k1,fun h e=>by cases e⟩,if_pos (show 0 < cOf (flushF D 1).data.toList by omega),if_neg (by show ¬ cOf (flushF D 1).data.toList = 0;omega)]
  ·have p1:hd1 D 1 = (0,0,0):=by unfold hd1;rw [if_neg k1]
   rw [p1,if_neg (fun e=>k1 e.1)];rfl
end
end Rd
end Go.Proofs.YtmidncclndongaaGreat
