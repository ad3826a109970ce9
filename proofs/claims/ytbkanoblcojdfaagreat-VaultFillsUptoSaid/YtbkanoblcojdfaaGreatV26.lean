/- Parts of the proof, joined: RlSync, RlSyn, RlClone; their conditions stand with each. -/
import Derived.Lib.SliceRun
import Derived.Test.YtbkanoblcojdfaaGreatV17
import Derived.Test.YtbkanoblcojdfaaGreatV25

set_option maxRecDepth 20000
set_option maxHeartbeats 8000000
namespace Go.Proofs.YtbkanoblcojdfaaGreat
namespace Rd
open Go.RowKit Sc Bk
attribute [local go_sem ↓] Go.wp_at_zero Go.wp_at_succ
attribute [local go_sem] floatUpon pick
section
variable {Rep:RepT} {w:World} {F:Nat → Prop} {p g c a n m mn:Nat} {A B:Value} {l:Lg} {D:Dev}
theorem room_any (H:DevQ Rep) (hr:Rep w F g D) (hL:LL w p g A B l) (hlo:LgOk D l) :
  Calls Tryz.prog 186 #[.pointer (some ⟨p,0,none⟩)] w fun e w'=>e = .returned (.int .i64 (roomN D l:Int)) ∧ Below w.heap.size w w':=by
 have hab:areaN D ≤ 65536:=by have:=(H.ok hr).max;unfold areaN;omega
 have h4:=hlo.dev
 have hro:=hlo.room
 have HM:=Lib.hid (fun W (h:Rep W F g D ∧ LL W p g A B l)=>most_any H h.1 h.2.cel h4)
 have HE:Hid (Rep w F g D ∧ LL w p g A B l):=Lib.hid ⟨hr,hL⟩
 obtain ⟨X,cX,rfl,hlc⟩:=own_form2 hL.wt
 have hR:(roomN D l:Int) = (areaN D:Int) - (l.bs.length:Int) - ((waitL l).length:Int):=by unfold roomN;omega
 rw [hR]
 clear hR hr hL hlo
 have q1:(areaN D:Int) ≤ 65536:=by omega
 have q2:(l.bs.length:Int) + ((waitL l).length:Int) ≤ (areaN D:Int):=by omega
 have k3:=HE.out.2.cel
 clear k3 hlc
 generalize hbl:l.bs.length = bl at *
 generalize hwl:(waitL l).length = wl at *
 generalize areaN D = ab at *
 have HBl:=Lib.hid hbl
 have HWl:=Lib.hid hwl
 clear hbl hwl hab hro
 go_enter Tryz.func186,Tryz.ntmps186
 go_upto_region 1 with fail
 refine wp_region_said 15 [3,4,5,6,7,8,9,10,11,12,13,14,15,16,2]
  [.is (.pointer (some ⟨p,0,none⟩)),.is (.int .i64 (ab:Int)),.is (.pointer (some ⟨p,0,none⟩)),.is (.pointer (some ⟨p,0,none⟩)),.is (.pointer (some ⟨p,1,none⟩)),.is (.pointer (some ⟨p,3,none⟩)),.is (.int .i64 (bl:Int)),.is (.int .i64 ((ab:Int) - (bl:Int))),.is (.pointer (some ⟨p,0,none⟩)),.is (.pointer (some ⟨p,0,none⟩)),.is (.pointer (some ⟨p,6,none⟩)),.is (.slice X wl cX),.is (.int .i64 (wl:Int)),.is (.int .i64 ((ab:Int) - (bl:Int) - (wl:Int))),.is (.int .i64 ((ab:Int) - (bl:Int) - (wl:Int)))]
  (fun W=>Rep W F g D ∧ LL W p g A (.slice X wl cX) l) (by kernel_rfl) (by kernel_rfl) (by kernel_rfl) (by kernel_rfl) (by kernel_rfl) (fun W W' h hb=>⟨H.step h.1 hb,h.2.step hb⟩) HE.out ?steps ?last
 case steps =>
  simp only [List.take_succ_cons,List.take_zero]
  refine ⟨?_,?_,?_,?_,?_,?_,?_,?_,?_,?_,?_,?_,?_,?_,?_,trivial⟩
  all_goals
   intro vs W ρ hρ hc hf hg hI hH hd R' hR
   have y3:=hI.2.cel.cell (i:=3) rfl
   have y6:=hI.2.cel.cell (i:=6) rfl
   rw [HBl.out] at y3
   have v1:=i64_wrap (x:=(ab:Int) - (bl:Int)) (by omega) (by omega)
   have v2:=i64_wrap (x:=(ab:Int) - (bl:Int) - (wl:Int)) (by omega) (by omega)
   have HI:=Lib.hid hI
   have HR:=Lib.hid hR
   simp [depsOf,Region.binds,sayAt,Say.holds] at hd
   clear hR hI
   go_simp
   first
    | exact HR.out _ _ (by simp [sayAt,Say.holds]) (Below.refl _ _) (by simp [sayAt,Say.isBlk])
    | (refine (HM.out _ HI.out).mono ?_;rintro e w' ⟨rfl,rfl⟩;exact ⟨_,rfl,HR.out _ _ (by simp [sayAt,Say.holds]) (Below.refl _ _) (by simp [sayAt,Say.isBlk])⟩)
    | trace_state
 case last =>
  intro vs W hI hb hg hd
  have e14:=hg 14 (by omega)
  simp only [sayAt,Say.holds,List.getD_cons_succ,List.getD_cons_zero] at e14
  simp only [List.take_succ_cons,List.take_zero,List.drop_succ_cons,List.drop_zero,putAll,Act.put,List.setIfInBounds_toArray,List.set_cons_succ,List.set_cons_zero,Nat.zero_add,Nat.reduceAdd]
  rw [e14]
  have HB2:=Lib.hid hb
  clear e14 hg hd hb hI
  go_wp2_with fail
  go_ret
  exact ⟨rfl,HB2.out⟩
def LPost (Rep:RepT) (w:World) (F:Nat → Prop) (p g:Nat) (A B:Value) (r:Dev × Lg × Int) (e:Ending) (w':World):Prop :=
 e = .returned (.int .i64 r.2.2) ∧ ∃ F' A' B',Rep w' F' g r.1 ∧ LL w' p g A' B' r.2.1 ∧ (∀ k,LFt p A' B' k → ¬ F' k) ∧ Fr (fun k=>F k ∨ LFt p A B k) (fun k=>F' k ∨ LFt p A' B' k) w w'
theorem stored_tail {D:Dev} (hok:DevOk D) (h4:4 ≤ D.on.length) {a n:Nat} (ha:a ≤ 1) (hn:n ≤ areaN D):(flushF D (areaAt D a + n / 64)).data.toList.take (n % 64) = (storedL D a n).drop (64 * (n / 64)):=by
 have hm:areaN D = 64 * (areaN D / 64):=by unfold areaN;omega
 have hq:n / 64 ≤ areaN D / 64:=by omega
 have hl:=catS_len hok h4 ha (n / 64) hq
 unfold storedL
 by_cases h0:n % 64 = 0
 ·rw [h0,List.take_zero,show (n + 63) / 64 = n / 64 by omega,List.drop_of_length_le (by rw [List.length_take,hl];omega)]
 ·have e:(catS D a (n / 64) ++ (flushF D (areaAt D a + n / 64)).data.toList).take n = catS D a (n / 64) ++ (flushF D (areaAt D a + n / 64)).data.toList.take (n % 64):=by
   rw [List.take_append,hl,show n - 64 * (n / 64) = n % 64 by omega]
   congr 1
   exact List.take_of_length_le (by rw [hl];omega)
  rw [show (n + 63) / 64 = n / 64 + 1 by omega,catS_succ,e]
  exact (List.drop_left' hl).symm
end
section
variable {Rep:RepT} {w:World} {F:Nat → Prop} {p g c a n m mn:Nat} {A B:Value} {l:Lg} {D:Dev}
theorem fr_llp {F F':Nat → Prop} {A B:Value} {w W:World} (h:Fr (fun k=>F k ∨ k = p) (fun k=>F' k ∨ k = p) w W):Fr (fun k=>F k ∨ LFt p A B k) (fun k=>F' k ∨ LFt p A B k) w W :=
 ⟨h.os,h.tape,h.output,h.size,fun i hi hn=>h.block i hi (fun hq=>hn (hq.elim .inl (fun e=>.inr (.inl e)))),fun k hk=>by
  rcases hk with hk | hk
  ·exact (h.foot k (.inl hk)).elim (fun hq=>.inl (hq.elim .inl (fun e=>.inr (.inl e)))) .inr
  ·exact .inl (.inr hk)⟩
theorem ll_rows {F G:Nat → Prop} {w W:World} (hL:LL w p g A B l) (hd:∀ k,LFt p A B k → ¬ F k) (hf:Fr (fun k=>F k ∨ k = p) G w W) :
  W.ownsRow 0 9 1 A l.ts.length (strV l.ts) ∧ W.ownsRow 0 5 1 B (waitL l).length (Lib.byteCells (waitL l)) :=
 ⟨own_kept hL.txt fun j hj=>hf.block j (own_lt hL.txt j hj) (fun hq=>hq.elim (hd j (.inr (.inl hj))) (fun e=>hL.dA (e ▸ hj))),
  own_kept hL.wt fun j hj=>hf.block j (own_lt hL.wt j hj) (fun hq=>hq.elim (hd j (.inr (.inr hj))) (fun e=>hL.dB (e ▸ hj)))⟩
theorem lft_off {F F':Nat → Prop} {w W:World} (hL:LL w p g A B l) (hd:∀ k,LFt p A B k → ¬ F k) (hf:Fr (fun k=>F k ∨ k = p) (fun k=>F' k ∨ k = p) w W) (hp:¬ F' p):∀ k,LFt p A B k → ¬ F' k:=fun k hk hf'=>by
 by_cases e:k = p
 ·exact hp (e ▸ hf')
 ·rcases hf.foot k (.inl hf') with h | h
  ·exact h.elim (hd k hk) e
  ·have:=hL.lt k hk;omega
theorem sync_any (HRt:RepTxt) (HB:DevBase Rep) (H:DevQ Rep) (hr:Rep w F g D) (hL:LL w p g A B l) (hd:∀ k,LFt p A B k → ¬ F k) (hi:LgIn D l) (hu:D.down = false) :
  Calls Tryz.prog 125 #[.pointer (some ⟨p,0,none⟩)] w (LPost Rep w F p g A B (syncP D l)):=by
 have hok:=H.ok hr
 have hlo:=hi.ok
 obtain ⟨X,cX,hX,hlc⟩:=own_form2 hL.wt
 by_cases hm:l.mn = l.ts.length
 ·have hw0:waitL l = []:=by unfold waitL;rw [hm];exact frs_same _ _
  have hS:syncP D l = (D,l,0):=by unfold syncP;rw [if_pos hm]
  rw [hS]
  have HE:=Lib.hid (And.intro hr hL)
  have y6:=hL.cel.cell (i:=6) rfl
  rw [hX,hw0] at y6
  have y6':w.cell? ⟨p,6,none⟩ = some (.slice X 0 cX):=y6
  clear y6 hr hL hS hw0
  generalize hPst:LPost Rep w F p g A B (D,l,0) = Pst
  have HPst:=Lib.hid hPst
  clear hPst
  go_enter Tryz.func125,Tryz.ntmps125
  go_wp2_with fail
  rw [← HPst.out]
  exact ⟨rfl,F,A,B,HE.out.1,HE.out.2,hd,Fr.refl _ _⟩
 ·have hwp:0 < (waitL l).length:=by
   have:=frames_ge l.ts l.mn l.ts.length hlo.mn (Nat.le_refl _)
   have:=hlo.mn
   unfold waitL
   omega
  have hwne:waitL l ≠ []:=fun e=>by rw [e] at hwp;exact absurd hwp (by decide)
  have hfull:=stored_tail hok hlo.dev hlo.ar (n:=l.bs.length) (by have:=hlo.room;omega)
  rw [hi.st] at hfull
  have hst:=settle_any HRt HB H hr hL.cel (hd p (.inl rfl)) hlo.dev hu hi.cnt l.ar l.bs (waitL l) hlo.ar (by rw [List.length_append];exact hlo.room) (fun _=>hfull)
  have hS:syncP D l = if (settleP D l.cnt l.ar l.bs (waitL l)).2 = 0 then ((settleP D l.cnt l.ar l.bs (waitL l)).1,⟨l.cnt + 1,l.ar,l.bs ++ waitL l,l.ts,l.ts.length⟩,0) else ((settleP D l.cnt l.ar l.bs (waitL l)).1,l,(settleP D l.cnt l.ar l.bs (waitL l)).2):=by
   unfold syncP;rw [if_neg hm]
  have hwm:(waitL l).length ≤ 65536:=by have:=hlo.room;have:=hok.max;unfold areaN at *;omega
  have HST:=Lib.hid (fun W (h1:Rep W F g D) (h2:LL W p g A B l)=>settle_any HRt HB H h1 h2.cel (hd p (.inl rfl)) hlo.dev hu hi.cnt l.ar l.bs (waitL l) hlo.ar (by rw [List.length_append];exact hlo.room) (fun _=>hfull))
  clear hst hfull
  generalize settleP D l.cnt l.ar l.bs (waitL l) = rs at hS HST
  obtain ⟨D1,e1⟩:=rs
  have HCv:=Lib.hid (fun W (h:LL W p g A B l)=>show ∃ X',B = .slice (some ⟨X',0,none⟩) (waitL l).length cX ∧ (convert 142 9 B).run Tryz.prog W = .ok (.string ⟨(waitL l).toArray⟩) W from by
   obtain ⟨g',cap,hv,h1,h2⟩:=World.ownsRow.form h.wt hwp
   rw [hX] at hv
   simp only [Value.slice.injEq] at hv
   obtain ⟨hv1,-,rfl⟩:=hv
   have hw:=h.wt
   rw [hX,hv1] at hw ⊢
   have:=own_bytes hw rfl 0 (waitL l).length cX (by omega)
   rw [List.drop_zero,List.take_of_length_le (Nat.le_refl _)] at this
   exact ⟨g',rfl,this⟩)
  obtain ⟨X',hX',-⟩:=HCv.out w hL
  have hXX:X = some ⟨X',0,none⟩:=by rw [hX] at hX';simpa using hX'
  subst hXX
  have HE:Hid (Rep w F g D ∧ LL w p g A B l):=Lib.hid ⟨hr,hL⟩
  have y6:=hL.cel.cell (i:=6) rfl
  rw [hX] at y6
  have hwz:¬ ((waitL l).length:Int) = 0:=by omega
  have hwz2:(((waitL l).length:Int) == 0) = false:=by simpa using hwz
  generalize hPst:LPost Rep w F p g A B (syncP D l) = Pst
  have HPst:=Lib.hid hPst
  have HS:=Lib.hid hS
  have HX:=Lib.hid hX
  have HCv2:=Lib.hid (fun W (h:LL W p g A B l)=>show (convert 142 9 (.slice (some ⟨X',0,none⟩) (waitL l).length cX)).run Tryz.prog W = .ok (.string ⟨(waitL l).toArray⟩) W from by
   obtain ⟨_,_,h2⟩:=HCv.out W h
   rw [hX] at h2
   exact h2)
  clear hPst hS hX hX' hr hL HCv hlc hm hwne hwm
  obtain ⟨wl,hwl⟩:∃ wl,wl = (waitL l).length:=⟨_,rfl⟩
  obtain ⟨WS,hWS⟩:∃ WS:ByteArray,WS = ⟨(waitL l).toArray⟩:=⟨_,rfl⟩
  rw [← hwl] at y6 hwz hwz2 HCv2 hwp HX
  rw [← hWS] at HCv2 HST
  clear hwl hWS
  go_enter Tryz.func125,Tryz.ntmps125
  go_upto_region 3 with fail
  clear y6
  refine wp_region_said 16 [10,11,12,13,14,15,16,17,18,19,20,21,22,23,24,25]
   [.is (.pointer (some ⟨p,0,none⟩)),.is (.pointer (some ⟨p,0,none⟩)),.is (.pointer (some ⟨p,0,none⟩)),.is (.pointer (some ⟨p,1,none⟩)),.is (.pointer (some ⟨p,2,none⟩)),.is (.int .i64 (l.ar:Int)),.is (.pointer (some ⟨p,0,none⟩)),.is (.pointer (some ⟨p,0,none⟩)),.is (.pointer (some ⟨p,1,none⟩)),.is (.pointer (some ⟨p,3,none⟩)),.is (.int .i64 (l.bs.length:Int)),.is (.pointer (some ⟨p,0,none⟩)),.is (.pointer (some ⟨p,0,none⟩)),.is (.pointer (some ⟨p,6,none⟩)),.is (.slice (some ⟨X',0,none⟩) wl cX),.is (.string WS)]
   (fun W=>Rep W F g D ∧ LL W p g A B l) (by kernel_rfl) (by kernel_rfl) (by kernel_rfl) (by kernel_rfl) (by kernel_rfl) (fun W W' h hb=>⟨H.step h.1 hb,h.2.step hb⟩) HE.out ?steps ?last
  case steps =>
   simp only [List.take_succ_cons,List.take_zero]
   refine ⟨?_,?_,?_,?_,?_,?_,?_,?_,?_,?_,?_,?_,?_,?_,?_,?_,trivial⟩
   all_goals
    intro vs W ρ hρ hc hf hg hI hH hd' R' hR
    have y2:=hI.2.cel.cell (i:=2) rfl
    have y3:=hI.2.cel.cell (i:=3) rfl
    have y6:=hI.2.cel.cell (i:=6) rfl
    rw [HX.out] at y6
    have hcv:=HCv2.out W hI.2
    have HR:=Lib.hid hR
    simp [depsOf,Region.binds,sayAt,Say.holds] at hd'
    clear hR hI
    go_simp
    first
     | exact HR.out _ _ (by simp [sayAt,Say.holds]) (Below.refl _ _) (by simp [sayAt,Say.isBlk])
     | trace_state
  case last =>
   intro vs W hI hbw hg hd'
   have e0:=hg 0 (by omega)
   have e5:=hg 5 (by omega)
   have e10:=hg 10 (by omega)
   have e15:=hg 15 (by omega)
   simp only [sayAt,Say.holds,List.getD_cons_succ,List.getD_cons_zero] at e0 e5 e10 e15
   simp only [List.take_succ_cons,List.take_zero,List.drop_succ_cons,List.drop_zero,putAll,Act.put,List.setIfInBounds_toArray,List.set_cons_succ,List.set_cons_zero,Nat.zero_add,Nat.reduceAdd]
   rw [e0,e5,e10,e15]
   have HI:=Lib.hid hI
   have HBW:=Lib.hid hbw
   have HS2:=Lib.hid (HST.out W hI.1 hI.2)
   clear e0 e5 e10 e15 hg hd' hbw hI HST
   go_wp2_with fail
   refine HS2.out.mono ?_
   intro e w7 hpost
   obtain ⟨rfl,F1,h1,h2,h3,h5,h6⟩:=hpost
   have HQ:=Lib.hid (And.intro h1 (And.intro h2 (And.intro h3 (And.intro h5 h6))))
   clear h1 h2 h3 h5 h6 HS2
   by_cases h0:e1 = 0
   rotate_left
   ·have hnz:(e1 != 0) = true:=by simpa using h0
    go_wp2_with fail
    rw [← HPst.out,HS.out,if_neg h0]
    obtain ⟨q1,q2,q3,q4,q5⟩:=HQ.out
    have hrw:=ll_rows HI.out.2 hd q5
    have hof:=lft_off HI.out.2 hd q5 q2
    refine ⟨rfl,F1,A,B,q1,⟨q4 h0,hrw.1,hrw.2⟩,hof,?_⟩
    exact below_fr HBW.out (fr_llp q5)
   subst h0
   obtain ⟨q1,q2,q3,q4,q5⟩:=HQ.out
   have HC7:=Lib.hid (q3 rfl)
   have hrw:=ll_rows HI.out.2 hd q5
   have HRw:=Lib.hid hrw
   obtain ⟨XA,cA,hXA,-⟩:=own_form2 hrw.1
   have z4:=HC7.out.cell (i:=4) rfl
   rw [hXA] at z4
   have z5:=HC7.out.cell (i:=5) rfl
   have z6:=HC7.out.cell (i:=6) rfl
   have zq:=fun i=>HC7.out.free (i:=i)
   clear q1 q2 q3 q4 q5 hrw hXA
   go_wp2_with fail
   rw [← HPst.out,HS.out,if_pos (by trivial)]
   obtain ⟨q1,q2,q3,q4,q5⟩:=HQ.out
   have hof:=lft_off HI.out.2 hd q5 q2
   have hfs:∀ v0 v1,Fr (fun k=>k = p) (fun k=>k = p) w7 ((w7.setCell ⟨p,6,none⟩ v0).setCell ⟨p,5,none⟩ v1):=fun v0 v1=>((Fr.refl (fun k=>k = p) w7).set (p:=⟨p,6,none⟩) rfl v0).set (p:=⟨p,5,none⟩) rfl v1
   refine ⟨rfl,F1,A,.slice none 0 0,H.kept q1 fun j hj=>(hfs _ _).block j (H.lt q1 j hj) (fun e=>q2 (e ▸ hj)),⟨(HC7.out.set (i:=6) (v:=.slice none 0 0)).set (i:=5) (v:=.int .i64 (l.ts.length:Int)),own_kept HRw.out.1 fun j hj=>(hfs _ _).block j (own_lt HRw.out.1 j hj) (fun e=>HI.out.2.dA (e ▸ hj)),?_⟩,fun k hk=>?_,?_⟩
   ·show World.ownsRow _ 0 5 1 (.slice none 0 0) (waitL ⟨l.cnt + 1,l.ar,l.bs ++ waitL l,l.ts,l.ts.length⟩).length (Lib.byteCells (waitL ⟨l.cnt + 1,l.ar,l.bs ++ waitL l,l.ts,l.ts.length⟩))
    have e0:waitL ⟨l.cnt + 1,l.ar,l.bs ++ waitL l,l.ts,l.ts.length⟩ = []:=frs_same _ _
    rw [e0]
    exact World.ownsRow_nil _ _ _ _
   ·rcases hk with e | e | e
    ·exact hof k (.inl e)
    ·exact hof k (.inr (.inl e))
    ·cases e
   ·have h1:=below_fr HBW.out (fr_llp (A:=A) (B:=B) q5)
    have h2:Fr (fun k=>F1 k ∨ LFt p A B k) (fun k=>F1 k ∨ LFt p A B k) w7 _:=⟨(hfs (.slice none 0 0) (.int .i64 (l.ts.length:Int))).os,(hfs _ _).tape,(hfs _ _).output,(hfs _ _).size,fun i hi hn=>(hfs _ _).block i hi (fun e=>hn (.inr (.inl e))),fun _ hk=>.inl hk⟩
    refine fr_less (h1.trans h2) (fun k hk=>?_)
    rcases hk with e | e | e | e
    ·exact .inl e
    ·exact .inr (.inl e)
    ·exact .inr (.inr (.inl e))
    ·cases e
end
theorem sclone_any (A:Option Addr) (c:Nat) (l:List ByteArray) (w:World) (h:StrsAt w A l) (hA:A = none → c = 0) (h16:l.length * 16 ≤ 140737488351232) :
  Calls Tryz.prog 199 #[.slice A l.length c] w fun e w'=>∃ v,e = .returned v ∧ w'.ownsRow w.heap.size 9 1 v l.length (strV l) ∧ Below w.heap.size w w':=by
 cases A with
 | none =>
  obtain rfl:=hA rfl
  have h0:l = []:=List.eq_nil_of_length_eq_zero (Nat.eq_zero_of_not_pos fun hp=>by obtain ⟨_,e,_⟩:=h hp;cases e)
  subst h0
  have q22:∀ W:World,(binOp .eql 23 (.slice none 0 0) (.slice none 0 0)).run Tryz.prog W = .ok (.bool true) W:=fun W=>Lib.run_eql_slice_nil W _ _ none 0 0 0 0 Tryz.underlying23
  clear h hA
  show Calls Tryz.prog 199 #[.slice none 0 0] w _
  go_enter Tryz.func199,Tryz.ntmps199
  go_wp2_with fail
  go_ret
  exact ⟨_,rfl,World.ownsRow_nil _ _ _ _,Below.refl _ _⟩
 | some ad =>
  obtain ⟨i0,hi,hz0,hz1,hz2⟩:=info_parts Tryz.infoStr
  have HSt:=Lib.hid h
  have hO0:(w.alloc (.cells #[] 9)).ownsRow w.heap.size 9 1 (.slice (some ⟨w.heap.size,0,none⟩) 0 0) 0 []:=World.ownsRow_lit (base:=w.heap.size) (e:=9) (size:=1) w #[] 0 (Nat.le_refl _) (by unfold maxLen;omega) rfl
  have HO0:=Lib.hid hO0
  have q22:∀ W:World,(binOp .eql 23 (.slice (some ad) l.length c) (.slice none 0 0)).run Tryz.prog W = .ok (.bool false) W:=fun W=>Lib.run_eql_slice_nil W _ _ (some ad) l.length c 0 0 Tryz.underlying23
  clear h hO0 hA
  go_enter Tryz.func199,Tryz.ntmps199
  go_wp2_with (at_builtin;refine wpList_append_opt rfl _ _ 23 rfl w.heap.size 9 i0 (.string ⟨#[]⟩) 16 Tryz.underlying23 hi hz0 hz1 hz2 rfl _ 0 _ rfl HO0.out (some ad) l.length c (strV l) rfl (strV_len _) (fun e=>by cases e) ?c1 ?c2 ?c3 ?c4 (by simp) ?_)
  case c1=>exact fun ad' e=>by obtain rfl:=Option.some.inj e;exact (HSt.out.alloc _).news
  case c2=>intro u hu;obtain ⟨s,_,rfl⟩:=List.mem_map.1 hu;rfl
  case c3=>unfold maxLen;omega
  case c4=>omega
  intro v' w3 ho hg hat
  have HB3:Hid (Below w.heap.size w w3):=Lib.hid (((Below.refl _ w).alloc (Nat.le_refl _) (.cells #[] 9)).grown hg (by simp) (fun k hk=>(HO0.out.lt k hk).1))
  have HO:=Lib.hid ho
  clear ho hg hat
  go_wp2_with fail
  go_ret
  exact ⟨v',rfl,HO.out,HB3.out⟩
theorem cloned_any (A:Option Addr) (c:Nat) (l:List ByteArray) (w:World) (h:StrsAt w A l) (hA:A = none → c = 0) (h16:l.length * 16 ≤ 140737488351232) (hs:∀ s ∈ l,s.size ≤ 140737488351232) :
  Calls Tryz.prog 134 #[.slice A l.length c] w fun e w'=>∃ v,e = .returned v ∧ w'.ownsRow w.heap.size 9 1 v l.length (strV l) ∧ Below w.heap.size w w':=by
 have HC:=Lib.hid (sclone_any A c l w h hA h16)
 have HCl:=Lib.hid (fun (s:ByteArray) W (hs:s.size ≤ 140737488351232)=>clone_any s W (by omega))
 have HSz:=Lib.hid hs
 have hl63:(l.length:Int) ≤ 9223372036854775807:=by omega
 clear h hA hs
 go_enter Tryz.func134,Tryz.ntmps134
 go_wp2_with fail
 refine HC.out.mono ?_
 rintro e w2 ⟨v,rfl,hown,hb⟩
 obtain ⟨X,cX,rfl,hlc⟩:=own_form2 hown
 have HO2:=Lib.hid hown
 have HB2:=Lib.hid hb
 clear hown hb HC hlc
 go_upto_region 3 with fail
 go_loopw [10] (fun i wr=>∃ j:Nat,j ≤ l.length ∧ i = .int .i64 (j:Int) ∧ Hid (wr.ownsRow w.heap.size 9 1 (.slice X l.length cX) l.length (strV l)) ∧ Hid (Below w.heap.size w wr)) (fun i _=>l.length - (intOf i).toNat)
 case atStart=>exact ⟨0,by omega,rfl,HO2.out,HB2.out⟩
 case round =>
  obtain ⟨j,hj,rfl,hown,hbel⟩:=hrel
  by_cases hlt:j < l.length
  ·have pj:(j:Int) < (l.length:Int):=by omega
   obtain ⟨g',cap,hv,hX1,hX2⟩:=World.ownsRow.form hown.out (by omega)
   simp only [Value.slice.injEq] at hv
   obtain ⟨rfl,-,rfl⟩:=hv
   have hcell:=(hown.out.cellAt j (by omega)).trans (strV_at hlt)
   have hsz:=HSz.out _ (List.getElem_mem hlt)
   have hset:(strV l).set j (.string l[j]) = strV l:=by
    have h1:=strV_at hlt
    apply List.ext_getElem?
    intro k
    rw [List.getElem?_set]
    split
    ·rename_i e
     subst e
     rw [if_pos (by rw [strV_len];exact hlt),h1]
    ·rfl
   have HSet:=Lib.hid hset
   have HCl2:=Lib.hid (fun W=>HCl.out l[j] W hsz)
   have HOw:=Lib.hid (fun W (hb:Below wr.heap.size wr W)=>show W.ownsRow w.heap.size 9 1 (.slice (some ⟨g',0,none⟩) l.length cX) l.length (strV l) from st_keep hown.out hb)
   clear hset hsz hX1 hX2
   generalize l[j] = t at *
   go_wp2_with fail
   refine (HCl2.out _).mono ?_
   rintro e w4 ⟨rfl,hb⟩
   have HO4:=Lib.hid (HOw.out _ hb)
   have HB4:=Lib.hid (hbel.out.trans (hb.mono hbel.out.size))
   have hfro:=HO4.out.frozenAt j
   have hcell4:w4.cell? ⟨g',j,none⟩ = some (.string t):=(cell_kept hb ⟨g',j,none⟩ (own_lt hown.out g' rfl)).trans hcell
   have R:=HO4.out.stored j (.string t)
   rw [HSet.out] at R
   have HR:=Lib.hid R.1
   have hge:=own_ge hown.out g' rfl
   have HGe:=Lib.hid hge
   clear hb R hcell hge HCl2 HOw
   go_wp2_with fail
   go_roundw
   case rel=>exact ⟨j + 1,by omega,by go_num,HR.out,HB4.out.setCell HGe.out _⟩
   case measure=>simp [intOf];omega
  ·obtain rfl:j = l.length:=by omega
   go_wp2_with fail
   go_ret
   exact ⟨_,rfl,hown.out,hbel.out⟩
theorem frameV_err {t:ByteArray} (h:4096 < t.size):Su.frameV t = .tuple #[.string ⟨#[]⟩,.int .i64 2]:=by unfold Su.frameV;rw [if_pos h]
theorem frameV_ok {t:ByteArray} (h:¬ 4096 < t.size):Su.frameV t = .tuple #[.string (Su.frameB t),.int .i64 0]:=by unfold Su.frameV;rw [if_neg h]
def framedP (ts:List ByteArray):List UInt8 × Int:=if ∃ t ∈ ts,4096 < t.size then ([],2) else (allF ts,0)
theorem framed_any (A:Option Addr) (c:Nat) (l:List ByteArray) (w:World) (h:StrsAt w A l) (h16:l.length * 16 ≤ 140737488351232) (hs:∀ s ∈ l,s.size ≤ 140737488351232) (hq:(allF l).length ≤ 140737488355328) :
  Calls Tryz.prog 202 #[.slice A l.length c] w fun e w'=>e = .returned (.tuple #[.string ⟨(framedP l).1.toArray⟩,.int .i64 (framedP l).2]) ∧ Below w.heap.size w w':=by
 have hal:Below w.heap.size w (w.alloc (.cells #[.pointer none,.slice none 0 0] 302)):=(Below.refl _ w).alloc (Nat.le_refl _) _
 have hbl:=Bld.new w
 have HSt:=Lib.hid (fun W (hb:Below w.heap.size w W)=>h.below hb)
 have HSz:=Lib.hid hs
 have HFr:=Lib.hid (fun t W (hs:t.size ≤ 140737488351232)=>Su.frame_any t W hs)
 have hl63:(l.length:Int) ≤ 9223372036854775807:=by omega
 have HSucc:=Lib.hid (fun j (hj:j < l.length)=>frs_succ (ts:=l) (a:=0) (Nat.zero_le j) hj)
 have HLe:=Lib.hid (fun j (hj:j ≤ l.length)=>show (frs l 0 j).length ≤ 140737488355328 from by
  have h1:=all_split l j
  have h2:(allF l).length = (frs l 0 j).length + (frs l j l.length).length:=by rw [h1,List.length_append]
  omega)
 generalize hR:framedP l = R
 have HR1:=Lib.hid (show ∀ j,(hj:j < l.length) → 4096 < l[j].size → R = ([],2) from fun j hj h2=>by
  rw [← hR];unfold framedP;rw [if_pos ⟨_,List.getElem_mem hj,h2⟩])
 have HR2:=Lib.hid (show (∀ t ∈ l,¬ 4096 < t.size) → R = (allF l,0) from fun h2=>by
  rw [← hR];unfold framedP;rw [if_neg (by rintro ⟨t,h3,h4⟩;exact h2 t h3 h4)])
 clear hR h hs hq
 go_enter Tryz.func202,Tryz.ntmps202
 go_upto_region 2 with fail
 generalize w.alloc (.cells #[.pointer none,.slice none 0 0] 302) = W1 at *
 have HB1:=Lib.hid hal
 have HL1:=Lib.hid hbl
 clear hal hbl
 go_upto_region 3 with fail
 go_loopw [11] (fun i wr=>∃ j:Nat,j ≤ l.length ∧ i = .int .i64 (j:Int) ∧ Hid (∀ t ∈ l.take j,¬ 4096 < t.size) ∧ Hid (Bld w.heap.size (frs l 0 j) wr) ∧ Hid (Below w.heap.size w wr)) (fun i _=>l.length - (intOf i).toNat)
 case atStart=>exact ⟨0,by omega,rfl,Lib.hid (fun t ht=>by simp at ht),by rw [frs_same];exact HL1.out,HB1.out⟩
 case round =>
  obtain ⟨j,hj,rfl,hsm,hbld,hbel⟩:=hrel
  by_cases hlt:j < l.length
  ·have pj:(j:Int) < (l.length:Int):=by omega
   obtain ⟨bd,hBe,hbl,hcl⟩:=HSt.out wr hbel.out (by omega)
   have hcell:=hcl j hlt
   subst hBe
   have hszt:=HSz.out _ (List.getElem_mem hlt)
   have HF:=Lib.hid (HFr.out l[j] wr hszt)
   by_cases hz:4096 < l[j].size
   ·have hRv:=HR1.out j hlt hz
    rw [frameV_err hz] at HF
    subst hRv
    generalize l[j] = t at *
    clear hcl hbl hz hszt
    go_wp2_with fail
    refine HF.out.mono ?_
    rintro e w4 ⟨rfl,hb⟩
    have HB4:=Lib.hid (hbel.out.trans (hb.mono hbel.out.size))
    clear hb HF
    go_wp2_with fail
    go_ret2
    exact ⟨rfl,HB4.out⟩
   ·rw [frameV_ok hz] at HF
    have HN:=Lib.hid (show ∀ t ∈ l.take (j + 1),¬ 4096 < t.size from fun t ht=>by
     rw [List.take_add_one,List.getElem?_eq_getElem hlt] at ht
     simp only [Option.toList_some,List.mem_append,List.mem_singleton] at ht
     rcases ht with h | h
     ·exact hsm.out t h
     ·rw [h];exact hz)
    have hsu:=HSucc.out j hlt
    have hle:=HLe.out (j + 1) (by omega)
    have hfz:=Su.frameB_size l[j]
    have hfl:=Su.frameL_len l[j].data.toList
    have hle2:(frs l 0 j).length + (Su.frameB l[j]).size ≤ 140737488355328:=by
     rw [hsu,List.length_append] at hle
     have:(Su.frameB l[j]).size = (Su.frameL l[j].data.toList).length:=by unfold Su.frameB;exact text_size _
     omega
    have hfd:(Su.frameB l[j]).data.toList = Su.frameL l[j].data.toList:=by unfold Su.frameB;simp
    rw [← hfd] at hsu
    have HSu:=Lib.hid hsu
    generalize Su.frameB l[j] = fb at HF HSu hle2
    generalize l[j] = t at *
    clear hcl hbl hz hszt hsu hle hfz hfl hfd
    go_wp2_with fail
    refine HF.out.mono ?_
    rintro e w4 ⟨rfl,hb⟩
    have HB4:=Lib.hid (hbel.out.trans (hb.mono hbel.out.size))
    have HL4:=Lib.hid (bld_kept hbld.out hb)
    clear hb HF hcell
    go_wp2_with fail
    refine (bld_string fb HL4.out hle2).mono ?_
    rintro e w5 ⟨rfl,hl5,hb⟩
    rw [← HSu.out] at hl5
    have HL5:=Lib.hid hl5
    have HB5:=Lib.hid (HB4.out.trans hb)
    clear hl5 hb HL4
    go_wp2_with fail
    go_roundw
    case rel=>exact ⟨j + 1,by omega,by go_num,HN.out,HL5.out,HB5.out⟩
    case measure=>simp [intOf];omega
  ·obtain rfl:j = l.length:=by omega
   have hRv:=HR2.out (fun t ht=>hsm.out t (by rw [List.take_length];exact ht))
   subst hRv
   have HTx:=Lib.hid (bld_text hbld.out)
   go_wp2_with fail
   refine HTx.out.mono ?_
   rintro e w4 ⟨rfl,_,hb⟩
   have HB4:=Lib.hid (hbel.out.trans hb)
   clear hb HTx
   go_wp2_with fail
   go_ret2
   exact ⟨rfl,HB4.out⟩
end Rd
end Go.Proofs.YtbkanoblcojdfaaGreat
