/- Parts of the proof, joined: RdSync, RdApp, RdRst, ScBase; their conditions stand with each. -/
import Derived.Deep.QuietTactic
import Derived.BigQuiet
import Derived.Test.YtmidncclndongaaGreatC2
import Derived.Test.YtmidncclndongaaGreatC4
import Derived.Test.YtmidncclndongaaGreatC7
import Derived.Test.YtmidncclndongaaGreatC9
import Derived.Test.YtmidncclndongaaGreatC10

set_option maxRecDepth 20000
set_option maxHeartbeats 8000000
namespace Go.Proofs.YtmidncclndongaaGreat
namespace Rd
open Go.RowKit Sc Bk
attribute [local go_sem ↓] Go.wp_at_zero Go.wp_at_succ
attribute [local go_sem] floatUpon pick
def syncP (D:Dev) (l:Lg):Dev × Lg × Int :=
 if l.mn = l.ts.length then (D,l,0) else
 if (settleP D l.cnt l.ar l.bs (waitL l)).2 = 0 then ((settleP D l.cnt l.ar l.bs (waitL l)).1,⟨l.cnt + 1,l.ar,l.bs ++ waitL l,l.ts,l.ts.length⟩,0)
 else ((settleP D l.cnt l.ar l.bs (waitL l)).1,l,(settleP D l.cnt l.ar l.bs (waitL l)).2)
section
variable {w:World} {k g:Nat} {ao an:Addr} {co cn:Nat} {so sn:List Value} {A:Option Addr} {c:Nat} {l:Lg} {D:Dev}
def LgPost (w:World) (k g:Nat) (ao an:Addr) (co cn:Nat) (so sn:List Value) (A:Option Addr) (c:Nat) (r:Dev × Lg × Int) (e:Ending) (w':World):Prop :=
 e = .returned (.int .i64 r.2.2) ∧ RAt w' g ao an co cn so sn r.1 ∧ DevOk r.1 ∧ LAt w' k g A c r.2.1 ∧ Fr (fun j=>RFoot g ao an j ∨ j = k) (fun j=>RFoot g ao an j ∨ j = k) w w'
theorem fr_below {F:Nat → Prop} {w W W':World} (h:Below w.heap.size w W) (k:Fr F F W W'):Fr F F w W' :=
 ⟨k.os.trans h.os,k.tape.trans h.tape,k.output.trans h.output,Nat.le_trans h.size k.size,fun i hi hn=>(k.block i (Nat.lt_of_lt_of_le hi h.size) hn).trans (h.block i hi),fun _ hi=>.inl hi⟩
theorem rsync_any (hr:RAt w g ao an co cn so sn D) (hL:LAt w k g A c l) (hok:DevOk D) (ho:Off k g ao an A l) (hlo:LgOk D l) (hc:l.cnt ≤ 4611686018427388000) :
  Calls Tryz.prog 87 #[.pointer (some ⟨k,0,none⟩)] w (LgPost w k g ao an co cn so sn A c (syncP D l)):=by
 have hrm:=hlo.room
 have hab:areaN D ≤ 65536:=by have:=hok.max;unfold areaN;omega
 have hmn:=hlo.mn
 have hmy:=hlo.many
 have z4:=hL.cel.cell (i:=4) rfl
 have z5:=hL.cel.cell (i:=5) rfl
 have HE:=Lib.hid (And.intro hr hL)
 have HLt:=Lib.hid (And.intro hr.lt hL.cel.lt)
 by_cases hm:l.mn = l.ts.length
 ·have HP:=Lib.hid (fun (W:World) (hb:Below w.heap.size w W)=>show LgPost w k g ao an co cn so sn A c (syncP D l) (.returned (.int .i64 0)) W from by
   unfold syncP;rw [if_pos hm];exact ⟨rfl,hr.step hb,hok,hL.below hb,(Fr.refl _ _).below hb⟩)
  generalize LgPost w k g ao an co cn so sn A c (syncP D l) = Pst at HP ⊢
  have pm:(l.mn:Int) = (l.ts.length:Int):=by omega
  clear hr hL
  go_enter Tryz.func87,Tryz.ntmps87
  go_upto_region 1 with fail
  go_quiet (fail)
  rename_i nq
  have HB:Hid (Below w.heap.size w (w.drewN nq)):=Lib.hid ⟨rfl,rfl,rfl,Nat.le_refl _,fun _ _=>rfl⟩
  generalize w.drewN nq = W1 at HB ⊢
  clear z4 z5
  go_wp2_with fail
  exact HP.out _ HB.out
 have pm:¬ (l.mn:Int) = (l.ts.length:Int):=by omega
 obtain ⟨WS,hWS⟩:∃ WS:ByteArray,WS = ⟨(waitL l).toArray⟩:=⟨_,rfl⟩
 obtain ⟨BS,hBS⟩:∃ BS:ByteArray,BS = ⟨l.bs.toArray⟩:=⟨_,rfl⟩
 have hwt:=fun W (hW:LAt W k g A c l)=>rwaiting_any hW hlo.mn (by omega) (by omega)
 rw [← hWS] at hwt
 have HWt:=Lib.hid hwt
 have HC3:=Lib.hid (fun W (h:LAt W k g A c l)=>show W.cell? ⟨k,3,none⟩ = some (.string BS) from by rw [hBS];exact h.cel.cell (i:=3) rfl)
 have hset:=fun W (h1:RAt W g ao an co cn so sn D) (h2:LAt W k g A c l)=>rsettle_any h1 h2 hok ho hlo.dev l.ar l.bs (waitL l) hlo.ar hc (by rw [List.length_append];exact hlo.room)
 rw [← hWS,← hBS] at hset
 have HSet:=Lib.hid hset
 have HFn:Hid (∀ (W:World) (D':Dev) (e:Int),settleP D l.cnt l.ar l.bs (waitL l) = (D',e) → e ≠ 0 → RAt W g ao an co cn so sn D' → DevOk D' → LAt W k g A c l → Fr (fun j=>RFoot g ao an j ∨ j = k) (fun j=>RFoot g ao an j ∨ j = k) w W → LgPost w k g ao an co cn so sn A c (syncP D l) (.returned (.int .i64 e)) W):=Lib.hid (by
  intro W D' e h1 h2 h3 h4 h5 h6
  unfold syncP
  rw [if_neg hm,h1,if_neg h2]
  exact ⟨rfl,h3,h4,h5,h6⟩)
 have HDn:Hid (∀ (W:World) (D':Dev),settleP D l.cnt l.ar l.bs (waitL l) = (D',0) → RAt W g ao an co cn so sn D' → DevOk D' → LAt W k g A c ⟨l.cnt + 1,l.ar,l.bs ++ waitL l,l.ts,l.mn⟩ → Fr (fun j=>RFoot g ao an j ∨ j = k) (fun j=>RFoot g ao an j ∨ j = k) w W → LgPost w k g ao an co cn so sn A c (syncP D l) (.returned (.int .i64 0)) (W.setCell ⟨k,5,none⟩ (.int .i64 (l.ts.length:Int)))):=Lib.hid (by
  intro W D' h1 h3 h4 h5 h6
  unfold syncP
  rw [if_neg hm,h1,if_pos rfl]
  have hfr:Fr (fun j=>j = k) (fun j=>j = k) W (W.setCell ⟨k,5,none⟩ (.int .i64 (l.ts.length:Int))):=(Fr.refl (fun j=>j = k) W).set (p:=⟨k,5,none⟩) rfl _
  refine ⟨rfl,h3.kept (fun j hj=>hfr.block j (h3.lt j hj) (fun e=>ho.k (e ▸ hj))),h4,⟨h5.cel.set (i:=5) (v:=.int .i64 (l.ts.length:Int)),fun hp=>?_,h5.nk⟩,h6.set (p:=⟨k,5,none⟩) (.inr rfl) _⟩
  obtain ⟨ad,e,hl,hc⟩:=h5.strs hp
  refine ⟨ad,e,Nat.lt_of_lt_of_le hl hfr.size,fun i hi=>?_⟩
  have hkp:=hfr.block ad.block hl (h5.nk hp ad e)
  rw [← st_block ad i] at hkp
  refine Eq.trans ?_ (hc i hi)
  unfold World.cell?
  rw [hkp])
 generalize LgPost w k g ao an co cn so sn A c (syncP D l) = Pst at HFn HDn ⊢
 clear hr hL hwt hset hWS hBS
 go_enter Tryz.func87,Tryz.ntmps87
 go_upto_region 1 with fail
 go_quiet (fail)
 rename_i nq
 have hB:Below w.heap.size w (w.drewN nq):=⟨rfl,rfl,rfl,Nat.le_refl _,fun _ _=>rfl⟩
 have HE1:=Lib.hid (And.intro (HE.out.1.step hB) (HE.out.2.below hB))
 have HB:=Lib.hid hB
 clear hB z4 z5 HE
 generalize w.drewN nq = W1 at HE1 HB ⊢
 go_upto_region 3 with fail
 refine wp_region_said 11 [14,15,16,17,18,19,20,21,22,23,24]
  [.is (.pointer (some ⟨k,0,none⟩)),.is (.pointer (some ⟨k,0,none⟩)),.is (.pointer (some ⟨k,0,none⟩)),.is (.pointer (some ⟨k,2,none⟩)),.is (.int .i64 (l.ar:Int)),.is (.pointer (some ⟨k,0,none⟩)),.is (.pointer (some ⟨k,0,none⟩)),.is (.pointer (some ⟨k,3,none⟩)),.is (.string BS),.is (.pointer (some ⟨k,0,none⟩)),.is (.string WS)]
  (fun W=>RAt W g ao an co cn so sn D ∧ LAt W k g A c l) (by kernel_rfl) (by kernel_rfl) (by kernel_rfl) (by kernel_rfl) (by kernel_rfl) (fun W W' h hb=>⟨h.1.step hb,h.2.below hb⟩) HE1.out ?steps ?last
 case steps =>
  simp only [List.take_succ_cons,List.take_zero]
  refine ⟨?_,?_,?_,?_,?_,?_,?_,?_,?_,?_,?_,trivial⟩
  all_goals
   intro vs W ρ hρ hc hf hg hI hH hd R' hR'
   have z2:=hI.2.cel.cell (i:=2) rfl
   have z3:=HC3.out W hI.2
   have HRr:=Lib.hid hR'
   have HI:=Lib.hid hI
   simp [depsOf,Region.binds,sayAt,Say.holds] at hd
   clear hR' hI
   go_simp
   first
    | exact HRr.out _ _ (by simp [sayAt,Say.holds]) (Below.refl _ _) (by simp [sayAt,Say.isBlk])
    | (refine (HWt.out _ HI.out.2).mono ?_;rintro e w' ⟨rfl,hb⟩;exact ⟨_,rfl,HRr.out _ _ (by simp [sayAt,Say.holds]) hb (by simp [sayAt,Say.isBlk])⟩)
    | trace_state
 case last =>
  intro vs W hI hb hg hd
  have g0:=hg 0 (by omega)
  have g4:=hg 4 (by omega)
  have g8:=hg 8 (by omega)
  have g10:=hg 10 (by omega)
  simp only [sayAt,Say.holds,List.getD_cons_succ,List.getD_cons_zero] at g0 g4 g8 g10
  simp only [List.take_succ_cons,List.take_zero,List.drop_succ_cons,List.drop_zero,putAll,Act.put,List.setIfInBounds_toArray,List.set_cons_succ,List.set_cons_zero,Nat.zero_add,Nat.reduceAdd]
  rw [g0,g4,g8,g10]
  have hs:=HSet.out W hI.1 hI.2
  have HBw:=Lib.hid (HB.out.trans (hb.mono HB.out.size))
  have HS:=Lib.hid hs
  clear g0 g4 g8 g10 hg hd hb hI hs
  go_wp2_with fail
  refine HS.out.mono ?_
  intro e w7 hpost
  unfold SetPost at hpost
  obtain ⟨rfl,p1,p2,p3,p4⟩:=hpost
  have p5:=fr_below HBw.out p4
  have HPs:=Lib.hid (And.intro p1 (And.intro p2 (And.intro p3 p5)))
  clear p1 p2 p3 p4 p5 HS
  generalize settleP D l.cnt l.ar l.bs (waitL l) = r at HFn HDn HPs ⊢
  obtain ⟨D2,e2⟩:=r
  simp only at HPs ⊢
  by_cases h0:e2 = 0
  ·subst h0
   have hla:LAt w7 k g A c ⟨l.cnt + 1,l.ar,l.bs ++ waitL l,l.ts,l.mn⟩:=by
    have:=HPs.out.2.2.1
    unfold lgAfter at this
    rwa [if_pos rfl] at this
   have z4:=hla.cel.cell (i:=4) rfl
   have z5:=hla.cel.cell (i:=5) rfl
   have kq:=fun i=>hla.cel.free (i:=i)
   have HD:=Lib.hid (HDn.out w7 D2 rfl HPs.out.1 HPs.out.2.1 hla HPs.out.2.2.2)
   clear hla
   go_wp2_with fail
   exact HD.out
  ·have hne:(e2 != 0) = true:=by simpa using h0
   have HF:=Lib.hid (HFn.out w7 D2 e2 rfl h0 HPs.out.1 HPs.out.2.1 (by have:=HPs.out.2.2.1;unfold lgAfter at this;rwa [if_neg h0] at this) HPs.out.2.2.2)
   go_wp2_with fail
   exact HF.out
end
def appendP (D:Dev) (l:Lg) (t:ByteArray):Lg × Int :=
 if 4096 < t.size then (l,2) else if roomN D l < t.size + 6 then (l,100) else (⟨l.cnt,l.ar,l.bs,l.ts ++ [t],l.mn⟩,0)
theorem wait_snoc {l:Lg} (h:l.mn ≤ l.ts.length) (t:ByteArray):waitL ⟨l.cnt,l.ar,l.bs,l.ts ++ [t],l.mn⟩ = waitL l ++ Su.frameL t.data.toList:=by
 unfold waitL
 simp only [List.length_append,List.length_singleton]
 rw [frs_succ (by omega) (by simp)]
 congr 1
 ·unfold frs
  rw [List.take_append_of_le_length (Nat.le_refl _)]
 ·simp
theorem frames_ge (ts:List ByteArray):∀ (a b:Nat),a ≤ b → b ≤ ts.length → (b - a) * 6 ≤ (frs ts a b).length
 | a,0,h,_=>by simp
 | a,b + 1,h,hb=>by
  rcases Nat.eq_or_lt_of_le h with e | e
  ·rw [e];simp
  ·have h1:=frames_ge ts a b (by omega) (by omega)
   rw [frs_succ (show a ≤ b by omega) (by omega),List.length_append,Su.frameL_len,show b + 1 - a = (b - a) + 1 by omega]
   omega
section
variable {w:World} {k g:Nat} {ao an:Addr} {co cn:Nat} {so sn:List Value} {A:Option Addr} {c:Nat} {l:Lg} {D:Dev}
def AppPost (w:World) (k g:Nat) (ao an:Addr) (A:Option Addr) (c:Nat) (ts0:List ByteArray) (r:Lg × Int) (e:Ending) (w':World):Prop :=
 e = .returned (.int .i64 r.2) ∧ ∃ A' c',LAt w' k g A' c' r.1 ∧ Off k g ao an A' r.1 ∧ (A' = none → c' = 0) ∧ (A' = A ∧ c' = c ∧ r.1.ts = ts0 ∨ ∀ x,A' = some x → w.heap.size ≤ x.block) ∧ Fr (fun j=>j = k) (fun j=>j = k) w w'
theorem rappend_any (hr:RAt w g ao an co cn so sn D) (hL:LAt w k g A c l) (hok:DevOk D) (ho:Off k g ao an A l) (hA:A = none → c = 0) (hlo:LgOk D l) (t:ByteArray) (_ht:t.size ≤ reachBytes) :
  Calls Tryz.prog 85 #[.pointer (some ⟨k,0,none⟩),.string t] w (AppPost w k g ao an A c l.ts (appendP D l t)):=by
 have hmy:=hlo.many
 have hold:∀ W,Below w.heap.size w W → ∀ e,appendP D l t = (l,e) → AppPost w k g ao an A c l.ts (appendP D l t) (.returned (.int .i64 e)) W:=fun W hb e he=>by
  rw [he];exact ⟨rfl,A,c,hL.below hb,ho,hA,.inl ⟨rfl,rfl,rfl⟩,(Fr.refl _ _).below hb⟩
 have HOld:=Lib.hid hold
 by_cases h4:4096 < t.size
 ·have HP:=Lib.hid (HOld.out w (Below.refl _ _) 2 (by unfold appendP;rw [if_pos h4]))
  generalize AppPost w k g ao an A c l.ts (appendP D l t) = Pst at HP ⊢
  have pt:(4096:Int) < (t.size:Int):=by omega
  clear hr hL hold HOld
  go_enter Tryz.func85,Tryz.ntmps85
  go_wp2_with fail
  exact HP.out
 have pt:¬ (4096:Int) < (t.size:Int):=by omega
 have pt2:(t.size:Int) ≤ 4096:=by omega
 have HOne:=Lib.hid (fun V=>Su.rone_any t V (by omega))
 have HRm:=Lib.hid (fun W (h1:RAt W g ao an co cn so sn D) (h2:LAt W k g A c l)=>rroom_any h1 h2 hok hlo)
 have hfz:(Su.frameB t).size = t.size + 6:=by
  have:t.data.toList.length = t.size:=Array.length_toList
  show (Su.frameL t.data.toList).toArray.size = _
  rw [List.size_toArray,Su.frameL_len];omega
 have HE:=Lib.hid (And.intro hr hL)
 by_cases hrm:roomN D l < t.size + 6
 ·have HP:=Lib.hid (fun W (hb:Below w.heap.size w W)=>HOld.out W hb 100 (by unfold appendP;rw [if_neg h4,if_pos hrm]))
  generalize AppPost w k g ao an A c l.ts (appendP D l t) = Pst at HP ⊢
  have pf:(roomN D l:Int) < ((Su.frameB t).size:Int):=by rw [hfz];omega
  generalize Su.frameB t = ft at HOne pf
  generalize roomN D l = rm at HRm pf
  clear hr hL hold HOld hfz
  go_enter Tryz.func85,Tryz.ntmps85
  go_wp2_with fail
  refine (HOne.out _).mono ?_
  rintro e w1 ⟨rfl,hb1⟩
  have HB1:=Lib.hid hb1
  clear hb1
  go_wp2_with fail
  refine (HRm.out w1 (HE.out.1.step HB1.out) (HE.out.2.below HB1.out)).mono ?_
  rintro e w2 ⟨rfl,hb2⟩
  have HB2:=Lib.hid (HB1.out.trans (hb2.mono HB1.out.size))
  clear hb2
  go_wp2_with fail
  exact HP.out w2 HB2.out
 have pf:((Su.frameB t).size:Int) ≤ (roomN D l:Int):=by rw [hfz];omega
 have hap:appendP D l t = (⟨l.cnt,l.ar,l.bs,l.ts ++ [t],l.mn⟩,0):=by unfold appendP;rw [if_neg h4,if_neg hrm]
 generalize Su.frameB t = ft at HOne pf
 generalize roomN D l = rm at HRm pf
 have HPst:=Lib.hid (show AppPost w k g ao an A c l.ts (appendP D l t) = AppPost w k g ao an A c l.ts (⟨l.cnt,l.ar,l.bs,l.ts ++ [t],l.mn⟩,0) from by rw [hap])
 generalize AppPost w k g ao an A c l.ts (appendP D l t) = Pst at HPst ⊢
 obtain ⟨i0,hi,hz0,hz1,hz2⟩:=info_parts Tryz.infoStr
 have HA:=Lib.hid (And.intro hA (And.intro ho hL.nk))
 have HLt:=Lib.hid hr.lt
 clear hr hL hold HOld hfz hap hA
 go_enter Tryz.func85,Tryz.ntmps85
 go_wp2_with fail
 refine (HOne.out _).mono ?_
 rintro e w1 ⟨rfl,hb1⟩
 have HB1:=Lib.hid hb1
 clear hb1
 go_wp2_with fail
 refine (HRm.out w1 (HE.out.1.step HB1.out) (HE.out.2.below HB1.out)).mono ?_
 rintro e w2 ⟨rfl,hb2⟩
 have HB2:=Lib.hid (HB1.out.trans (hb2.mono HB1.out.size))
 clear hb2
 have HL2:=Lib.hid (HE.out.2.below HB2.out)
 have k4:=HL2.out.cel.cell (i:=4) rfl
 have hkl:=HL2.out.cel.lt
 go_upto_region 5 with fail
 have HO:Hid ((w2.alloc (.cells #[] 9)).ownsRow w2.heap.size 9 1 (.slice (some ⟨w2.heap.size,0,none⟩) 0 0) 0 []):=Lib.hid (World.ownsRow_lit (base:=w2.heap.size) (e:=9) (size:=1) w2 #[] 0 (Nat.le_refl _) (by unfold maxLen;omega) rfl)
 have hH1:w2.heap.size ≤ (w2.alloc (.cells #[] 9)).heap.size:=by simp
 have hA0:A = none → l.ts.length = 0 ∧ c = 0:=fun e=>by
  refine ⟨Nat.eq_zero_of_not_pos fun h=>?_,HA.out.1 e⟩
  obtain ⟨ad,e2,_⟩:=HL2.out.strs h
  rw [e] at e2;cases e2
 have HA0:=Lib.hid hA0
 clear hA0
 have HNw:Hid (∀ ad,A = some ad → ∀ j u,(strV l.ts)[j]? = some u → (w2.alloc (.cells #[] 9)).cell? (ad.add j) = some u):=Lib.hid (fun ad e=>by
  subst e
  exact StrsAt.news (HL2.out.strs.alloc _))
 go_wp2_with (at_builtin;refine wpList_append_opt rfl _ _ 36 rfl w2.heap.size 9 i0 (.string ⟨#[]⟩) 16 Tryz.underlying36 hi hz0 hz1 hz2 rfl _ 0 [] rfl HO.out A l.ts.length c (strV l.ts) rfl (strV_len _) HA0.out HNw.out ?c2 ?c3 ?c4 hH1 ?_)
 case c2=>intro u hu;obtain ⟨s,_,rfl⟩:=List.mem_map.1 hu;rfl
 case c3=>unfold maxLen;omega
 case c4=>omega
 intro v2 W2 hown hgrow hat
 have HB3:Hid (Below w2.heap.size w2 W2):=Lib.hid (((Below.refl w2.heap.size w2).alloc (Nat.le_refl _) _).grown hgrow hH1 (fun k hk=>(World.ownsRow.lt HO.out k hk).1))
 have HO2:=Lib.hid hown
 have HL3:=Lib.hid (HL2.out.below HB3.out)
 clear hown hgrow hat HO hH1 k4 hkl HNw HA0
 have HT:Hid ((strV l.ts).length = l.ts.length):=Lib.hid (strV_len _)
 go_wp2_with (at_builtin;refine wpList_append_own _ rfl _ _ 36 rfl w2.heap.size 9 i0 (.string ⟨#[]⟩) 1 16 Tryz.underlying36 hi hz0 hz1 hz2 rfl (by decide) _ _ _ rfl (HO2.out.alloc _) ⟨W2.heap.size,0,none⟩ 1 1 [.string t] rfl rfl ?d1 ?d2 ?d3 ?d4 ?d5 ?_)
 case d1=>exact cell_one_new _ _ _
 case d2=>intro q hq;simp at hq;subst hq;rfl
 case d3=>unfold maxLen;omega
 case d4=>omega
 case d5=>have:=HB3.out.size;simp;omega
 intro v' w5 hown' hgrow _
 have hB5:=below_append HO2.out HB3.out (Nat.le_refl _) hgrow
 have hst:strV l.ts ++ [.string t] = strV (l.ts ++ [t]):=by unfold strV;rw [List.map_append];rfl
 rw [hst] at hown'
 have hnl:l.ts.length + 1 = (l.ts ++ [t]).length:=by simp
 obtain ⟨B,cB,rfl,hB,hBn,hBc⟩:=strs_own_new hown' hnl
 have HL5:=Lib.hid (HL2.out.below hB5)
 have kq:=fun i=>HL5.out.cel.free (i:=i)
 have k4:=HL5.out.cel.cell (i:=4) rfl
 have HF:Hid (Pst (.returned (.int .i64 0)) (w5.setCell ⟨k,4,none⟩ (.slice B (l.ts.length + 1) cB))):=Lib.hid (by
  rw [HPst.out]
  have hB2:=HB2.out
  have hw2:w.heap.size ≤ w2.heap.size:=hB2.size
  have hb:Below w.heap.size w w5:=hB2.trans (hB5.mono hw2)
  have hfr:Fr (fun j=>j = k) (fun j=>j = k) w5 (w5.setCell ⟨k,4,none⟩ (.slice B (l.ts.length + 1) cB)):=(Fr.refl (fun j=>j = k) w5).set (p:=⟨k,4,none⟩) rfl _
  have hkw:k < w.heap.size:=HE.out.2.cel.lt
  have hne:∀ x,B = some x → x.block ≠ k:=fun x hx e=>by have:=hBn x hx;omega
  refine ⟨rfl,B,cB,⟨?_,fun hp=>?_,fun _=>hne⟩,⟨HA.out.2.1.k,fun _ x hx hf=>?_⟩,hBc,.inr (fun x hx=>by have:=hBn x hx;omega),fr_below hb hfr⟩
  ·have:=HL5.out.cel.set (i:=4) (v:=.slice B (l.ts.length + 1) cB)
   show Cel _ k _ [_,_,_,_,.slice B (l.ts ++ [t]).length cB,_]
   rw [← hnl]
   exact this
  ·obtain ⟨ad,e,hl,hc⟩:=hB hp
   refine ⟨ad,e,Nat.lt_of_lt_of_le hl hfr.size,fun i hi=>?_⟩
   have hkp:=hfr.block ad.block hl (hne ad e)
   rw [← st_block ad i] at hkp
   refine Eq.trans ?_ (hc i hi)
   unfold World.cell?
   rw [hkp]
  ·have h1:=hBn x hx
   have h2:=HLt.out x.block hf
   omega)
 clear hown' hgrow HO2 HB3 HL3 hst hnl hB hBn hBc hB5
 go_wp2_with fail
 exact HF.out
end
def allF (ts:List ByteArray):List UInt8:=frs ts 0 ts.length
def restartP (D:Dev) (l:Lg) (ts:List ByteArray):Dev × Lg × Int :=
 if ∃ t ∈ ts,4096 < t.size then (D,l,2) else if areaN D < (allF ts).length then (D,l,100) else
 if (settleP D l.cnt (1 - l.ar) [] (allF ts)).2 = 0 then ((settleP D l.cnt (1 - l.ar) [] (allF ts)).1,⟨l.cnt + 1,1 - l.ar,allF ts,ts,ts.length⟩,0)
 else ((settleP D l.cnt (1 - l.ar) [] (allF ts)).1,l,(settleP D l.cnt (1 - l.ar) [] (allF ts)).2)
section
variable {w:World} {k g:Nat} {ao an:Addr} {co cn:Nat} {so sn:List Value} {A:Option Addr} {c:Nat} {l:Lg} {D:Dev}
def RstPost (w:World) (k g:Nat) (ao an:Addr) (co cn:Nat) (so sn:List Value) (A:Option Addr) (c:Nat) (ts0:List ByteArray) (r:Dev × Lg × Int) (e:Ending) (w':World):Prop :=
 e = .returned (.int .i64 r.2.2) ∧ RAt w' g ao an co cn so sn r.1 ∧ DevOk r.1 ∧ (∃ A' c',LAt w' k g A' c' r.2.1 ∧ Off k g ao an A' r.2.1 ∧ (A' = none → c' = 0) ∧ (A' = A ∧ c' = c ∧ r.2.1.ts = ts0 ∨ ∀ x,A' = some x → w.heap.size ≤ x.block)) ∧
  Fr (fun j=>RFoot g ao an j ∨ j = k) (fun j=>RFoot g ao an j ∨ j = k) w w'
theorem fr_sub {F G:Nat → Prop} {w w':World} (h:Fr F F w w') (hs:∀ k,F k → G k):Fr G G w w' :=
 ⟨h.os,h.tape,h.output,h.size,fun i hi hn=>h.block i hi (fun hf=>hn (hs i hf)),fun _ hi=>.inl hi⟩
theorem rrestart_any (hr:RAt w g ao an co cn so sn D) (hL:LAt w k g A c l) (hok:DevOk D) (ho:Off k g ao an A l) (hA:A = none → c = 0) (hlo:LgOk D l) (hc:l.cnt ≤ 4611686018427388000)
  (B:Option Addr) (cB:Nat) (ts:List ByteArray) (hB:StrsAt w B ts) (hBn:B = none → cB = 0) (hBo:0 < ts.length → ∀ x,B = some x → x.block < w.heap.size ∧ ¬ RFoot g ao an x.block ∧ x.block ≠ k) (hn:ts.length * 16 ≤ reachBytes) (_hs:∀ t ∈ ts,t.size ≤ reachBytes) :
  Calls Tryz.prog 91 #[.pointer (some ⟨k,0,none⟩),.slice B ts.length cB] w (RstPost w k g ao an co cn so sn A c l.ts (restartP D l ts)):=by
 have hrb:reachBytes = 140737488351232:=rfl
 have hnn:ts.length * 16 ≤ 140737488351232:=by rw [hrb] at hn;exact hn
 have HE:=Lib.hid (And.intro hr hL)
 have HOk:=Lib.hid (And.intro hok (And.intro ho (And.intro hA hlo)))
 have hab:areaN D ≤ 65536:=by have:=hok.max;unfold areaN;omega
 obtain ⟨Pst,hPst⟩:∃ Pst,Pst = RstPost w k g ao an co cn so sn A c l.ts (restartP D l ts):=⟨_,rfl⟩
 rw [← hPst]
 have HPst:=Lib.hid hPst
 have HB:=Lib.hid (And.intro hB (And.intro hBn hBo))
 have HFail:Hid (∀ e,restartP D l ts = (D,l,e) → ∀ W,Below w.heap.size w W → Pst (.returned (.int .i64 e)) W):=Lib.hid (fun e h W hb=>by
  rw [HPst.out,h]
  exact ⟨rfl,HE.out.1.step hb,HOk.out.1,⟨A,c,HE.out.2.below hb,HOk.out.2.1,HOk.out.2.2.1,.inl ⟨rfl,rfl,rfl⟩⟩,(Fr.refl _ _).below hb⟩)
 clear hPst hB hBn hBo hr hL hA hn _hs
 go_enter Tryz.func91,Tryz.ntmps91
 go_wp2_with fail
 go_loopw [6] (fun i wr=>∃ j:Nat,j ≤ ts.length ∧ i = .int .i64 (j:Int) ∧ wr = w ∧ Hid (∀ t ∈ ts.take j,t.size ≤ 4096)) (fun i _=>ts.length - (intOf i).toNat)
 case atStart=>exact ⟨0,by omega,rfl,rfl,Lib.hid (fun t ht=>by simp at ht)⟩
 case round =>
  obtain ⟨j,hj,rfl,hw,hsm⟩:=hrel
  obtain rfl:w = wr:=hw.symm
  clear hw
  by_cases hlt:j < ts.length
  ·have pj:(j:Int) < (ts.length:Int):=by omega
   obtain ⟨bd,hBe,hbl,hcl⟩:=HB.out.1 (by omega)
   have x1:=hcl j hlt
   have wj:IntKind.i64.wrap ((j:Int) + 1) = (j:Int) + 1:=i64_wrap (by omega) (by omega)
   by_cases hz:4096 < ts[j].size
   ·have HP:=Lib.hid (HFail.out 2 (by unfold restartP;rw [if_pos ⟨_,List.getElem_mem hlt,hz⟩]) w (Below.refl _ _))
    have pz:(4096:Int) < (ts[j].size:Int):=by omega
    generalize ts[j] = t at x1 pz
    subst hBe
    clear HFail hcl hz HB
    go_wp2_with fail
    exact HP.out
   ·have pz:(ts[j].size:Int) ≤ 4096:=by omega
    have HN:Hid (∀ t ∈ ts.take (j + 1),t.size ≤ 4096):=Lib.hid (fun t ht=>by
     rw [List.take_add_one,List.getElem?_eq_getElem hlt] at ht
     simp only [Option.toList_some,List.mem_append,List.mem_singleton] at ht
     rcases ht with h | h
     ·exact hsm.out t h
     ·rw [h];omega)
    generalize ts[j] = t at x1 pz
    subst hBe
    clear hcl hz hsm
    go_wp2_with fail
    go_roundw
    case rel=>exact ⟨j + 1,by omega,by go_num,trivial,HN.out⟩
    case measure=>simp [intOf];omega
  ·obtain rfl:j = ts.length:=by omega
   have HSm:Hid (∀ t ∈ ts,t.size ≤ 4096):=Lib.hid (by have:=hsm.out;rwa [List.take_length] at this)
   clear hsm hlt
   go_wp2_with fail
   have HAr:=Lib.hid (fun W (h:RAt W g ao an co cn so sn D)=>rarea_any h HOk.out.1 (by have:=HOk.out.2.2.2.dev;omega))
   have HOne:=Lib.hid (fun V (t:ByteArray) (hs:t.size ≤ 1000000000000000)=>Su.rone_any t V hs)
   have HLe:=Lib.hid (fun b (h2:b ≤ ts.length)=>show (frs ts 0 b).length ≤ (allF ts).length from by
    have:=frs_le (ts:=ts) (Nat.zero_le b) (ts.length - b) (by omega)
    rw [show b + (ts.length - b) = ts.length by omega] at this
    exact this)
   have hp1:¬ ∃ t ∈ ts,4096 < t.size:=by
    rintro ⟨t,h1,h2⟩
    have:=HSm.out t h1
    omega
   have HLong:Hid (areaN D < (allF ts).length → ∀ W,Below w.heap.size w W → Pst (.returned (.int .i64 100)) W):=Lib.hid (fun h=>HFail.out 100 (by unfold restartP;rw [if_neg hp1,if_pos h]))
   have HFit:Hid (¬ areaN D < (allF ts).length → restartP D l ts = if (settleP D l.cnt (1 - l.ar) [] (allF ts)).2 = 0 then ((settleP D l.cnt (1 - l.ar) [] (allF ts)).1,⟨l.cnt + 1,1 - l.ar,allF ts,ts,ts.length⟩,0) else ((settleP D l.cnt (1 - l.ar) [] (allF ts)).1,l,(settleP D l.cnt (1 - l.ar) [] (allF ts)).2)):=Lib.hid (fun h=>by unfold restartP;rw [if_neg hp1,if_neg h])
   clear hp1 HFail
   go_loopw [5,7] (fun u i wr=>∃ (j:Nat) (s:ByteArray),j ≤ ts.length ∧ u = .string s ∧ i = .int .i64 (j:Int) ∧ Hid (s = ⟨(frs ts 0 j).toArray⟩) ∧ s.size ≤ 70000 ∧ Hid (Below w.heap.size w wr)) (fun _ i _=>ts.length - (intOf i).toNat)
   case atStart=>exact ⟨0,⟨#[]⟩,by omega,rfl,rfl,Lib.hid (by rw [frs_same]),by show 0 ≤ 70000;omega,Below.refl _ _⟩
   case round =>
    obtain ⟨j,s,hj2,rfl,rfl,hs,hs7,hb0⟩:=hrel
    have HE2:=Lib.hid (And.intro (HE.out.1.step hb0.out) (HE.out.2.below hb0.out))
    have k0:=HE2.out.2.cel.cell (i:=0) rfl
    have hsz:s.size = (frs ts 0 j).length:=by rw [hs.out,text_size]
    by_cases hlong:areaN D < s.size
    ·have HP:=Lib.hid (fun W (hb:Below w.heap.size w W)=>HLong.out (by rw [hsz] at hlong;exact Nat.lt_of_lt_of_le hlong (HLe.out j hj2)) W hb)
     have pl:¬ (s.size:Int) ≤ (areaN D:Int):=by omega
     have pl2:(areaN D:Int) < (s.size:Int):=by omega
     clear HFit HLong HOne HLe hsz hs
     by_cases hlt2:j < ts.length
     ·have pj:(j:Int) < (ts.length:Int):=by omega
      go_wp2_with fail
      refine (HAr.out _ HE2.out.1).mono ?_
      rintro e w1 ⟨rfl,rfl⟩
      go_wp2_with fail
      refine (HAr.out _ HE2.out.1).mono ?_
      rintro e w1 ⟨rfl,rfl⟩
      go_wp2_with fail
      exact HP.out _ hb0.out
     ·have pj:¬ (j:Int) < (ts.length:Int):=by omega
      go_wp2_with fail
      refine (HAr.out _ HE2.out.1).mono ?_
      rintro e w1 ⟨rfl,rfl⟩
      go_wp2_with fail
      exact HP.out _ hb0.out
    have pl:(s.size:Int) ≤ (areaN D:Int):=by omega
    by_cases hlt2:j < ts.length
    ·have pj:(j:Int) < (ts.length:Int):=by omega
     have wj:IntKind.i64.wrap ((j:Int) + 1) = (j:Int) + 1:=i64_wrap (by omega) (by omega)
     obtain ⟨bd,hBe,hbl,hcl⟩:=(HB.out.1.below hb0.out) (by omega)
     have x1:=hcl j hlt2
     have hsu:=frs_succ (ts:=ts) (Nat.zero_le j) hlt2
     have hsm1:=HSm.out _ (List.getElem_mem hlt2)
     have hfl:(Su.frameL ts[j].data.toList).length = ts[j].size + 6:=by
      rw [Su.frameL_len];rfl
     have hadd:=fun W=>list_sum2 (frs ts 0 j) (Su.frameL ts[j].data.toList) (by rw [hfl];omega) W
     rw [← hsu,← hs.out] at hadd
     have hT:(⟨(Su.frameL ts[j].data.toList).toArray⟩:ByteArray) = Su.frameB ts[j]:=rfl
     rw [hT] at hadd
     have hone:=fun V=>HOne.out V ts[j] (by omega)
     obtain ⟨s2,hs2⟩:∃ s2:ByteArray,s2 = ⟨(frs ts 0 (j + 1)).toArray⟩:=⟨_,rfl⟩
     have hs27:s2.size ≤ 70000:=by rw [hs2,text_size,hsu,List.length_append,hfl];omega
     rw [← hs2] at hadd
     have HS2:=Lib.hid hs2
     generalize ts[j] = t at x1 hadd hone
     generalize Su.frameB t = ft at hadd hone
     have HO2:=Lib.hid hone
     subst hBe
     clear hs2 hT hone hsu hcl hsm1 hfl hsz hs hlong HFit HLong HLe
     go_wp2_with fail
     refine (HAr.out _ HE2.out.1).mono ?_
     rintro e w1 ⟨rfl,rfl⟩
     go_wp2_with fail
     refine (HO2.out _).mono ?_
     rintro e w1 ⟨rfl,hb⟩
     have HB2:=Lib.hid (hb0.out.trans (hb.mono hb0.out.size))
     clear hb
     go_wp2_with fail
     go_roundw
     case rel=>exact ⟨j + 1,s2,by omega,rfl,by go_num,HS2.out,hs27,HB2.out⟩
     case measure=>simp [intOf];omega
    ·obtain rfl:j = ts.length:=by omega
     have pj:¬ (ts.length:Int) < (ts.length:Int):=by omega
     have pl2:¬ (areaN D:Int) < (s.size:Int):=by omega
     have hall:frs ts 0 ts.length = allF ts:=rfl
     rw [hall] at hs hsz
     have hfit:=HFit.out (by rw [← hsz];omega)
     have hfz:(allF ts).length ≤ areaN D:=by rw [← hsz];omega
     have har:=HOk.out.2.2.2.ar
     obtain ⟨a1,ha1⟩:∃ a1,a1 = 1 - l.ar:=⟨_,rfl⟩
     have ha1i:(1:Int) - (l.ar:Int) = (a1:Int):=by omega
     have hset:=fun W (h1:RAt W g ao an co cn so sn D) (h2:LAt W k g A c l)=>rsettle_any h1 h2 HOk.out.1 HOk.out.2.1 HOk.out.2.2.2.dev a1 [] (allF ts) (by omega) hc (by rw [List.nil_append];exact hfz)
     have hem:(⟨([]:List UInt8).toArray⟩:ByteArray) = ⟨#[]⟩:=rfl
     rw [← hs.out,hem] at hset
     have HSet:=Lib.hid hset
     rw [← ha1] at hfit
     have HFn:Hid (∀ (W:World) (D':Dev) (e:Int),settleP D l.cnt a1 [] (allF ts) = (D',e) → e ≠ 0 → RAt W g ao an co cn so sn D' → DevOk D' → LAt W k g A c l → Fr (fun j=>RFoot g ao an j ∨ j = k) (fun j=>RFoot g ao an j ∨ j = k) w W → Pst (.returned (.int .i64 e)) W):=Lib.hid (by
      intro W D' e h1 h2 h3 h4 h5 h6
      rw [HPst.out,hfit,h1,if_neg h2]
      exact ⟨rfl,h3,h4,⟨A,c,h5,HOk.out.2.1,HOk.out.2.2.1,.inl ⟨rfl,rfl,rfl⟩⟩,h6⟩)
     have HDn:Hid (∀ (W:World) (D':Dev) (A':Option Addr) (c':Nat),settleP D l.cnt a1 [] (allF ts) = (D',0) → RAt W g ao an co cn so sn D' → DevOk D' → LAt W k g A' c' ⟨l.cnt + 1,a1,allF ts,ts,ts.length⟩ → (A' = none → c' = 0) → (∀ x,A' = some x → w.heap.size ≤ x.block) → Fr (fun j=>RFoot g ao an j ∨ j = k) (fun j=>RFoot g ao an j ∨ j = k) w W → Pst (.returned (.int .i64 0)) W):=Lib.hid (by
      intro W D' A' c' h1 h3 h4 h5 h6 h7 h8
      rw [HPst.out,hfit,h1,if_pos rfl]
      exact ⟨rfl,h3,h4,⟨A',c',h5,⟨HOk.out.2.1.k,fun _ x hx hf=>by have:=h7 x hx;have:=HE.out.1.lt _ hf;omega⟩,h6,.inr h7⟩,h8⟩)
     have k2:=HE2.out.2.cel.cell (i:=2) rfl
     have pa2:(l.ar:Int) ≤ 1:=by omega
     have HSs:=Lib.hid hs
     clear HFit HLong HOne HLe hfit hset hsz hs ha1 hem hfz
     go_wp2_with fail
     refine (HAr.out _ HE2.out.1).mono ?_
     rintro e w1 ⟨rfl,rfl⟩
     go_wp2_with fail
     refine (HSet.out _ HE2.out.1 HE2.out.2).mono ?_
     intro e w7 hpost
     unfold SetPost at hpost
     obtain ⟨rfl,p1,p2,p3,p4⟩:=hpost
     have p5:=fr_below hb0.out p4
     have HPo:=Lib.hid (And.intro p1 (And.intro p2 (And.intro p3 p5)))
     clear p1 p2 p3 p4 p5 HSet k2 k0 HE2 hb0
     generalize settleP D l.cnt a1 [] (allF ts) = r at HFn HDn HPo ⊢
     obtain ⟨D2,e2⟩:=r
     simp only at HPo ⊢
     by_cases h0:e2 = 0
     case neg =>
      have hne:(e2 != 0) = true:=by simpa using h0
      have HF:=Lib.hid (HFn.out w7 D2 e2 rfl h0 HPo.out.1 HPo.out.2.1 (by have:=HPo.out.2.2.1;unfold lgAfter at this;rwa [if_neg h0] at this) HPo.out.2.2.2)
      go_wp2_with fail
      exact HF.out
     subst h0
     have hla:LAt w7 k g A c ⟨l.cnt + 1,a1,allF ts,l.ts,l.mn⟩:=by
      have:=HPo.out.2.2.1
      unfold lgAfter at this
      rw [if_pos rfl,List.nil_append] at this
      exact this
     have HL7:=Lib.hid hla
     have HB7:Hid (StrsAt w7 B ts):=Lib.hid (fun hp=>by
      obtain ⟨ad,e,hl,hc⟩:=HB.out.1 hp
      obtain ⟨q1,q2,q3⟩:=HB.out.2.2 hp ad e
      refine ⟨ad,e,Nat.lt_of_lt_of_le hl HPo.out.2.2.2.size,fun i hi=>?_⟩
      have hkp:=HPo.out.2.2.2.block ad.block hl (fun hf=>hf.elim q2 q3)
      rw [← st_block ad i] at hkp
      refine Eq.trans ?_ (hc i hi)
      unfold World.cell?
      rw [hkp])
     have HB0:Hid (B = none → ts.length = 0 ∧ cB = 0):=Lib.hid (fun e=>by
      refine ⟨Nat.eq_zero_of_not_pos fun h=>?_,HB.out.2.1 e⟩
      obtain ⟨ad,e2,_⟩:=HB.out.1 h
      rw [e] at e2;cases e2)
     obtain ⟨i0,hi,hz0,hz1,hz2⟩:=info_parts Tryz.infoStr
     have HO:Hid ((w7.alloc (.cells #[] 9)).ownsRow w7.heap.size 9 1 (.slice (some ⟨w7.heap.size,0,none⟩) 0 0) 0 []):=Lib.hid (World.ownsRow_lit (base:=w7.heap.size) (e:=9) (size:=1) w7 #[] 0 (Nat.le_refl _) (by unfold maxLen;omega) rfl)
     have hH1:w7.heap.size ≤ (w7.alloc (.cells #[] 9)).heap.size:=by simp
     have HNw:Hid (∀ ad,B = some ad → ∀ j u,(strV ts)[j]? = some u → (w7.alloc (.cells #[] 9)).cell? (ad.add j) = some u):=Lib.hid (fun ad e=>by
      subst e
      exact StrsAt.news (HB7.out.alloc _))
     have hne0:((0:Int) != 0) = false:=rfl
     clear hla HFn
     go_wp2_with (at_builtin;refine wpList_append_opt rfl _ _ 36 rfl w7.heap.size 9 i0 (.string ⟨#[]⟩) 16 Tryz.underlying36 hi hz0 hz1 hz2 rfl _ 0 [] rfl HO.out B ts.length cB (strV ts) rfl (strV_len _) HB0.out HNw.out ?c2 ?c3 ?c4 hH1 ?_)
     case c2=>intro u hu;obtain ⟨s,_,rfl⟩:=List.mem_map.1 hu;rfl
     case c3=>unfold maxLen;omega
     case c4=>omega
     intro v2 W2 hown hgrow hat
     have HB3:Hid (Below w7.heap.size w7 W2):=Lib.hid (((Below.refl w7.heap.size w7).alloc (Nat.le_refl _) _).grown hgrow hH1 (fun k hk=>(World.ownsRow.lt HO.out k hk).1))
     obtain ⟨E,cE,rfl,hE,hEn,hEc⟩:=strs_own_new hown rfl
     have HEs:=Lib.hid (And.intro hE (And.intro hEn hEc))
     have HL8:=Lib.hid (HL7.out.below HB3.out)
     have HP8:=Lib.hid (And.intro (HPo.out.1.step HB3.out) (HPo.out.2.2.2.below HB3.out))
     clear hown hgrow hat HO hH1 HNw HB0 HB7 HL7 hE hEn hEc
     have k4:=HL8.out.cel.cell (i:=4) rfl
     have kq:=fun i=>HL8.out.cel.free (i:=i)
     have hkw:k < w.heap.size:=HE.out.2.cel.lt
     have hw7:w.heap.size ≤ w7.heap.size:=HPo.out.2.2.2.size
     have HN:=Lib.hid (fun x (hx:E = some x)=>show w.heap.size ≤ x.block ∧ x.block ≠ k from by have:=HEs.out.2.1 x hx;omega)
     have HC9:=Lib.hid (HL8.out.cel.set (i:=4) (v:=.slice E ts.length cE))
     have HK9:=Lib.hid ((Fr.refl (fun j=>j = k) W2).set (p:=⟨k,4,none⟩) rfl (.slice E ts.length cE))
     go_upto_region 17 with fail
     generalize W2.setCell ⟨k,4,none⟩ (.slice E ts.length cE) = W3 at HC9 HK9 ⊢
     clear k4 kq hkw hw7
     have k4:W3.cell? ⟨k,4,none⟩ = some (.slice E ts.length cE):=HC9.out.cell (i:=4) rfl
     have k5:W3.cell? ⟨k,5,none⟩ = some (.int .i64 (l.mn:Int)):=HC9.out.cell (i:=5) rfl
     have kq:=fun i=>HC9.out.free (i:=i)
     have HFin:Hid (Pst (.returned (.int .i64 0)) (W3.setCell ⟨k,5,none⟩ (.int .i64 (ts.length:Int)))):=Lib.hid (by
      have hfr:Fr (fun j=>j = k) (fun j=>j = k) W2 (W3.setCell ⟨k,5,none⟩ (.int .i64 (ts.length:Int))):=HK9.out.trans ((Fr.refl (fun j=>j = k) W3).set (p:=⟨k,5,none⟩) rfl _)
      have hf8:Fr (fun j=>RFoot g ao an j ∨ j = k) (fun j=>RFoot g ao an j ∨ j = k) w (W3.setCell ⟨k,5,none⟩ (.int .i64 (ts.length:Int))):=HP8.out.2.trans (fr_sub hfr (fun j hj=>.inr hj))
      refine HDn.out _ D2 E cE rfl (HP8.out.1.kept fun j hj=>hfr.block j (HP8.out.1.lt j hj) (fun e=>HOk.out.2.1.k (e ▸ hj))) HPo.out.2.1 ⟨HC9.out.set (i:=5) (v:=.int .i64 (ts.length:Int)),fun hp=>?_,fun _ x hx=>(HN.out x hx).2⟩ HEs.out.2.2 (fun x hx=>(HN.out x hx).1) hf8
      obtain ⟨ad,e,hl,hc⟩:=HEs.out.1 hp
      refine ⟨ad,e,Nat.lt_of_lt_of_le hl hfr.size,fun i hi=>?_⟩
      have hkp:=hfr.block ad.block hl (HN.out ad e).2
      rw [← st_block ad i] at hkp
      refine Eq.trans ?_ (hc i hi)
      unfold World.cell?
      rw [hkp])
     clear HDn HK9 HC9 HN HEs HP8 HL8
     go_wp2_with fail
     exact HFin.out
end
end Rd
end Go.Proofs.YtmidncclndongaaGreat
namespace Go.Proofs.YtmidncclndongaaGreat
namespace Sc
open Go.RowKit Bk
structure DevBase (Rep:World → (Nat → Prop) → Nat → Dev → Prop):Prop where
 lt:∀ {W F g D},Rep W F g D → ∀ k,F k → k < W.heap.size
 ok:∀ {W F g D},Rep W F g D → DevOk D
 kept:∀ {W W' F g D},Rep W F g D → (∀ k,F k → W'.heap[k]? = W.heap[k]?) → Rep W' F g D
 new:∀ (n:Int) (w:World),-9223372036854775808 ≤ n ∧ n ≤ 9223372036854775807 → Calls Tryz.prog 9 #[.int .i64 n] w fun e w' =>
  (1 ≤ n ∧ n ≤ 2048 ∧ ∃ (F:Nat → Prop) (g:Nat),e = .returned (.tuple #[.pointer (some ⟨g,0,none⟩),.int .i64 0]) ∧ Rep w' F g (new0 n.toNat) ∧ (∀ k,F k → w.heap.size ≤ k) ∧ Below w.heap.size w w') ∨
  (¬ (1 ≤ n ∧ n ≤ 2048) ∧ e = .returned (.tuple #[.pointer none,.int .i64 1]) ∧ Below w.heap.size w w')
 size:∀ {F g D} (w:World),Rep w F g D → Calls Tryz.prog 94 #[.pointer (some ⟨g,0,none⟩)] w fun e w'=>e = .returned (.int .i64 (D.on.length:Int)) ∧ ∃ F',Rep w' F' g D ∧ Fr F F' w w'
 read:∀ {F g D} (i:Int) (w:World),Rep w F g D → -9223372036854775808 ≤ i ∧ i ≤ 9223372036854775807 → Calls Tryz.prog 20 #[.pointer (some ⟨g,0,none⟩),.int .i64 i] w fun e w'=>e = .returned (.tuple #[.string (rdV D i).1,.int .i64 (rdV D i).2]) ∧ ∃ F',Rep w' F' g D ∧ Fr F F' w w'
 write:∀ {F g D} (i:Int) (t:ByteArray) (w:World),Rep w F g D → -9223372036854775808 ≤ i ∧ i ≤ 9223372036854775807 → t.size ≤ reachBytes → Calls Tryz.prog 235 #[.pointer (some ⟨g,0,none⟩),.int .i64 i,.string t] w fun e w'=>e = .returned (.int .i64 (wrD D i t).2) ∧ ∃ F',Rep w' F' g (wrD D i t).1 ∧ Fr F F' w w'
 flush:∀ {F g D} (w:World),Rep w F g D → Calls Tryz.prog 237 #[.pointer (some ⟨g,0,none⟩)] w fun e w'=>e = .returned (.int .i64 (flD D).2) ∧ ∃ F',Rep w' F' g (flD D).1 ∧ Fr F F' w w'
 fuse:∀ {F g D} (n:Int) (w:World),Rep w F g D → -9223372036854775808 ≤ n ∧ n ≤ 9223372036854775807 → Calls Tryz.prog 24 #[.pointer (some ⟨g,0,none⟩),.int .i64 n] w fun e w'=>e = .returned (.int .i64 (fuD D n).2) ∧ ∃ F',Rep w' F' g (fuD D n).1 ∧ Fr F F' w w'
 crash:∀ {F g D} (A:Option Addr) (c:Nat) (ps:List Int) (w:World),Rep w F g D → IntsAt w A ps → (0 < ps.length → ∀ a,A = some a → ¬ F a.block) → ps.length * 8 ≤ reachBytes → (∀ p ∈ ps,-9223372036854775808 ≤ p ∧ p ≤ 9223372036854775807) → Calls Tryz.prog 26 #[.pointer (some ⟨g,0,none⟩),.slice A ps.length c] w fun e w'=>e = .returned (.tuple #[]) ∧ ∃ F',Rep w' F' g (crD D ps) ∧ Fr F F' w w'
end Sc
end Go.Proofs.YtmidncclndongaaGreat
