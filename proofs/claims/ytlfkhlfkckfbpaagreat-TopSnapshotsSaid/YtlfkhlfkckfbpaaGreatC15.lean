/- Parts of the proof, joined: RlSyn, RlClone, RlApp, RlRst; their conditions stand with each. -/
import Derived.Lib.SliceRun
import Derived.Test.YtlfkhlfkckfbpaaGreatC4
import Derived.Test.YtlfkhlfkckfbpaaGreatC10
import Derived.Test.YtlfkhlfkckfbpaaGreatC14

set_option maxRecDepth 20000
set_option maxHeartbeats 8000000
namespace Go.Proofs.YtlfkhlfkckfbpaaGreat
namespace Rd
open Go.RowKit Sc Bk
attribute [local go_sem ↓] Go.wp_at_zero Go.wp_at_succ
attribute [local go_sem] floatUpon pick
section
variable {Rep:RepT} {w:World} {F:Nat → Prop} {p g c a n m mn:Nat} {A B:Value} {l:Lg} {D:Dev}
theorem fr_llp {F F':Nat → Prop} {A B:Value} {w W:World} (h:Fr (fun k=>F k ∨ k = p) (fun k=>F' k ∨ k = p) w W):Fr (fun k=>F k ∨ LFt p A B k) (fun k=>F' k ∨ LFt p A B k) w W :=
 ⟨h.os,h.tape,h.output,h.size,fun i hi hn=>h.block i hi (fun hq=>hn (hq.elim .inl (fun e=>.inr (.inl e)))),fun k hk=>by
  rcases hk with hk | hk
  ·exact (h.foot k (.inl hk)).elim (fun hq=>.inl (hq.elim .inl (fun e=>.inr (.inl e)))) .inr
  ·exact .inl (.inr hk)⟩
theorem ll_rows {F G:Nat → Prop} {w W:World} (hL:LL w p g A B l) (hd:∀ k,LFt p A B k → ¬ F k) (hf:Fr (fun k=>F k ∨ k = p) G w W) :
  W.ownsRow 0 9 1 A l.ts.length (strV l.ts) ∧ W.ownsRow 0 5 1 B (waitL l).length (Lib.byteCells (waitL l)) :=
 ⟨own_kept hL.txt fun j hj=>hf.block j (own_lt hL.txt j hj) (fun hq=>hq.elim (hd j (.inr (.inl hj))) (fun e=>hL.dA (e ▸ hj))),
  own_kept hL.wt fun j hj=>hf.block j (own_lt hL.wt j hj) (fun hq=>hq.elim (hd j (.inr (.inr hj))) (fun e=>hL.dB (e ▸ hj)))⟩
theorem lft_off {F F':Nat → Prop} {w W:World} (hL:LL w p g A B l) (hd:∀ k,LFt p A B k → ¬ F k) (hf:Fr (fun k=>F k ∨ k = p) (fun k=>F' k ∨ k = p) w W) (hp:¬ F' p):∀ k,LFt p A B k → ¬ F' k:=fun k hk hf'=>by
 by_cases e:k = p
 ·exact hp (e ▸ hf')
 ·rcases hf.foot k (.inl hf') with h | h
  ·exact h.elim (hd k hk) e
  ·have:=hL.lt k hk;omega
theorem sync_any (HRt:RepTxt) (HB:DevBase Rep) (H:DevQ Rep) (hr:Rep w F g D) (hL:LL w p g A B l) (hd:∀ k,LFt p A B k → ¬ F k) (hi:LgIn D l) (hu:D.down = false) :
  Calls Tryz.prog 75 #[.pointer (some ⟨p,0,none⟩)] w (LPost Rep w F p g A B (syncP D l)):=by
 have hok:=H.ok hr
 have hlo:=hi.ok
 obtain ⟨X,cX,hX,hlc⟩:=own_form2 hL.wt
 by_cases hm:l.mn = l.ts.length
 ·have hw0:waitL l = []:=by unfold waitL;rw [hm];exact frs_same _ _
  have hS:syncP D l = (D,l,0):=by unfold syncP;rw [if_pos hm]
  rw [hS]
  have HE:=Lib.hid (And.intro hr hL)
  have y6:=hL.cel.cell (i:=6) rfl
  rw [hX,hw0] at y6
  have y6':w.cell? ⟨p,6,none⟩ = some (.slice X 0 cX):=y6
  clear y6 hr hL hS hw0
  generalize hPst:LPost Rep w F p g A B (D,l,0) = Pst
  have HPst:=Lib.hid hPst
  clear hPst
  go_enter Tryz.func75,Tryz.ntmps75
  go_wp2_with fail
  rw [← HPst.out]
  exact ⟨rfl,F,A,B,HE.out.1,HE.out.2,hd,Fr.refl _ _⟩
 ·have hwp:0 < (waitL l).length:=by
   have:=frames_ge l.ts l.mn l.ts.length hlo.mn (Nat.le_refl _)
   have:=hlo.mn
   unfold waitL
   omega
  have hwne:waitL l ≠ []:=fun e=>by rw [e] at hwp;exact absurd hwp (by decide)
  have hfull:=stored_tail hok hlo.dev hlo.ar (n:=l.bs.length) (by have:=hlo.room;omega)
  rw [hi.st] at hfull
  have hst:=settle_any HRt HB H hr hL.cel (hd p (.inl rfl)) hlo.dev hu hi.cnt l.ar l.bs (waitL l) hlo.ar (by rw [List.length_append];exact hlo.room) (fun _=>hfull)
  have hS:syncP D l = if (settleP D l.cnt l.ar l.bs (waitL l)).2 = 0 then ((settleP D l.cnt l.ar l.bs (waitL l)).1,⟨l.cnt + 1,l.ar,l.bs ++ waitL l,l.ts,l.ts.length⟩,0) else ((settleP D l.cnt l.ar l.bs (waitL l)).1,l,(settleP D l.cnt l.ar l.bs (waitL l)).2):=by
   unfold syncP;rw [if_neg hm]
  have hwm:(waitL l).length ≤ 65536:=by have:=hlo.room;have:=hok.max;unfold areaN at *;omega
  have HST:=Lib.hid (fun W (h1:Rep W F g D) (h2:LL W p g A B l)=>settle_any HRt HB H h1 h2.cel (hd p (.inl rfl)) hlo.dev hu hi.cnt l.ar l.bs (waitL l) hlo.ar (by rw [List.length_append];exact hlo.room) (fun _=>hfull))
  clear hst hfull
  generalize settleP D l.cnt l.ar l.bs (waitL l) = rs at hS HST
  obtain ⟨D1,e1⟩:=rs
  have HCv:=Lib.hid (fun W (h:LL W p g A B l)=>show ∃ X',B = .slice (some ⟨X',0,none⟩) (waitL l).length cX ∧ (convert 41 9 B).run Tryz.prog W = .ok (.string ⟨(waitL l).toArray⟩) W from by
   obtain ⟨g',cap,hv,h1,h2⟩:=World.ownsRow.form h.wt hwp
   rw [hX] at hv
   simp only [Value.slice.injEq] at hv
   obtain ⟨hv1,-,rfl⟩:=hv
   have hw:=h.wt
   rw [hX,hv1] at hw ⊢
   have:=own_bytes hw rfl 0 (waitL l).length cX (by omega)
   rw [List.drop_zero,List.take_of_length_le (Nat.le_refl _)] at this
   exact ⟨g',rfl,this⟩)
  obtain ⟨X',hX',-⟩:=HCv.out w hL
  have hXX:X = some ⟨X',0,none⟩:=by rw [hX] at hX';simpa using hX'
  subst hXX
  have HE:Hid (Rep w F g D ∧ LL w p g A B l):=Lib.hid ⟨hr,hL⟩
  have y6:=hL.cel.cell (i:=6) rfl
  rw [hX] at y6
  have hwz:¬ ((waitL l).length:Int) = 0:=by omega
  have hwz2:(((waitL l).length:Int) == 0) = false:=by simpa using hwz
  generalize hPst:LPost Rep w F p g A B (syncP D l) = Pst
  have HPst:=Lib.hid hPst
  have HS:=Lib.hid hS
  have HX:=Lib.hid hX
  have HCv2:=Lib.hid (fun W (h:LL W p g A B l)=>show (convert 41 9 (.slice (some ⟨X',0,none⟩) (waitL l).length cX)).run Tryz.prog W = .ok (.string ⟨(waitL l).toArray⟩) W from by
   obtain ⟨_,_,h2⟩:=HCv.out W h
   rw [hX] at h2
   exact h2)
  clear hPst hS hX hX' hr hL HCv hlc hm hwne hwm
  obtain ⟨wl,hwl⟩:∃ wl,wl = (waitL l).length:=⟨_,rfl⟩
  obtain ⟨WS,hWS⟩:∃ WS:ByteArray,WS = ⟨(waitL l).toArray⟩:=⟨_,rfl⟩
  rw [← hwl] at y6 hwz hwz2 HCv2 hwp HX
  rw [← hWS] at HCv2 HST
  clear hwl hWS
  go_enter Tryz.func75,Tryz.ntmps75
  go_upto_region 3 with fail
  clear y6
  refine wp_region_said 16 [10,11,12,13,14,15,16,17,18,19,20,21,22,23,24,25]
   [.is (.pointer (some ⟨p,0,none⟩)),.is (.pointer (some ⟨p,0,none⟩)),.is (.pointer (some ⟨p,0,none⟩)),.is (.pointer (some ⟨p,1,none⟩)),.is (.pointer (some ⟨p,2,none⟩)),.is (.int .i64 (l.ar:Int)),.is (.pointer (some ⟨p,0,none⟩)),.is (.pointer (some ⟨p,0,none⟩)),.is (.pointer (some ⟨p,1,none⟩)),.is (.pointer (some ⟨p,3,none⟩)),.is (.int .i64 (l.bs.length:Int)),.is (.pointer (some ⟨p,0,none⟩)),.is (.pointer (some ⟨p,0,none⟩)),.is (.pointer (some ⟨p,6,none⟩)),.is (.slice (some ⟨X',0,none⟩) wl cX),.is (.string WS)]
   (fun W=>Rep W F g D ∧ LL W p g A B l) (by kernel_rfl) (by kernel_rfl) (by kernel_rfl) (by kernel_rfl) (by kernel_rfl) (fun W W' h hb=>⟨H.step h.1 hb,h.2.step hb⟩) HE.out ?steps ?last
  case steps =>
   simp only [List.take_succ_cons,List.take_zero]
   refine ⟨?_,?_,?_,?_,?_,?_,?_,?_,?_,?_,?_,?_,?_,?_,?_,?_,trivial⟩
   all_goals
    intro vs W ρ hρ hc hf hg hI hH hd' R' hR
    have y2:=hI.2.cel.cell (i:=2) rfl
    have y3:=hI.2.cel.cell (i:=3) rfl
    have y6:=hI.2.cel.cell (i:=6) rfl
    rw [HX.out] at y6
    have hcv:=HCv2.out W hI.2
    have HR:=Lib.hid hR
    simp [depsOf,Region.binds,sayAt,Say.holds] at hd'
    clear hR hI
    go_simp
    first
     | exact HR.out _ _ (by simp [sayAt,Say.holds]) (Below.refl _ _) (by simp [sayAt,Say.isBlk])
     | trace_state
  case last =>
   intro vs W hI hbw hg hd'
   have e0:=hg 0 (by omega)
   have e5:=hg 5 (by omega)
   have e10:=hg 10 (by omega)
   have e15:=hg 15 (by omega)
   simp only [sayAt,Say.holds,List.getD_cons_succ,List.getD_cons_zero] at e0 e5 e10 e15
   simp only [List.take_succ_cons,List.take_zero,List.drop_succ_cons,List.drop_zero,putAll,Act.put,List.setIfInBounds_toArray,List.set_cons_succ,List.set_cons_zero,Nat.zero_add,Nat.reduceAdd]
   rw [e0,e5,e10,e15]
   have HI:=Lib.hid hI
   have HBW:=Lib.hid hbw
   have HS2:=Lib.hid (HST.out W hI.1 hI.2)
   clear e0 e5 e10 e15 hg hd' hbw hI HST
   go_wp2_with fail
   refine HS2.out.mono ?_
   intro e w7 hpost
   obtain ⟨rfl,F1,h1,h2,h3,h5,h6⟩:=hpost
   have HQ:=Lib.hid (And.intro h1 (And.intro h2 (And.intro h3 (And.intro h5 h6))))
   clear h1 h2 h3 h5 h6 HS2
   by_cases h0:e1 = 0
   rotate_left
   ·have hnz:(e1 != 0) = true:=by simpa using h0
    go_wp2_with fail
    rw [← HPst.out,HS.out,if_neg h0]
    obtain ⟨q1,q2,q3,q4,q5⟩:=HQ.out
    have hrw:=ll_rows HI.out.2 hd q5
    have hof:=lft_off HI.out.2 hd q5 q2
    refine ⟨rfl,F1,A,B,q1,⟨q4 h0,hrw.1,hrw.2⟩,hof,?_⟩
    exact below_fr HBW.out (fr_llp q5)
   subst h0
   obtain ⟨q1,q2,q3,q4,q5⟩:=HQ.out
   have HC7:=Lib.hid (q3 rfl)
   have hrw:=ll_rows HI.out.2 hd q5
   have HRw:=Lib.hid hrw
   obtain ⟨XA,cA,hXA,-⟩:=own_form2 hrw.1
   have z4:=HC7.out.cell (i:=4) rfl
   rw [hXA] at z4
   have z5:=HC7.out.cell (i:=5) rfl
   have z6:=HC7.out.cell (i:=6) rfl
   have zq:=fun i=>HC7.out.free (i:=i)
   clear q1 q2 q3 q4 q5 hrw hXA
   go_wp2_with fail
   rw [← HPst.out,HS.out,if_pos (by trivial)]
   obtain ⟨q1,q2,q3,q4,q5⟩:=HQ.out
   have hof:=lft_off HI.out.2 hd q5 q2
   have hfs:∀ v0 v1,Fr (fun k=>k = p) (fun k=>k = p) w7 ((w7.setCell ⟨p,6,none⟩ v0).setCell ⟨p,5,none⟩ v1):=fun v0 v1=>((Fr.refl (fun k=>k = p) w7).set (p:=⟨p,6,none⟩) rfl v0).set (p:=⟨p,5,none⟩) rfl v1
   refine ⟨rfl,F1,A,.slice none 0 0,H.kept q1 fun j hj=>(hfs _ _).block j (H.lt q1 j hj) (fun e=>q2 (e ▸ hj)),⟨(HC7.out.set (i:=6) (v:=.slice none 0 0)).set (i:=5) (v:=.int .i64 (l.ts.length:Int)),own_kept HRw.out.1 fun j hj=>(hfs _ _).block j (own_lt HRw.out.1 j hj) (fun e=>HI.out.2.dA (e ▸ hj)),?_⟩,fun k hk=>?_,?_⟩
   ·show World.ownsRow _ 0 5 1 (.slice none 0 0) (waitL ⟨l.cnt + 1,l.ar,l.bs ++ waitL l,l.ts,l.ts.length⟩).length (Lib.byteCells (waitL ⟨l.cnt + 1,l.ar,l.bs ++ waitL l,l.ts,l.ts.length⟩))
    have e0:waitL ⟨l.cnt + 1,l.ar,l.bs ++ waitL l,l.ts,l.ts.length⟩ = []:=frs_same _ _
    rw [e0]
    exact World.ownsRow_nil _ _ _ _
   ·rcases hk with e | e | e
    ·exact hof k (.inl e)
    ·exact hof k (.inr (.inl e))
    ·cases e
   ·have h1:=below_fr HBW.out (fr_llp (A:=A) (B:=B) q5)
    have h2:Fr (fun k=>F1 k ∨ LFt p A B k) (fun k=>F1 k ∨ LFt p A B k) w7 _:=⟨(hfs (.slice none 0 0) (.int .i64 (l.ts.length:Int))).os,(hfs _ _).tape,(hfs _ _).output,(hfs _ _).size,fun i hi hn=>(hfs _ _).block i hi (fun e=>hn (.inr (.inl e))),fun _ hk=>.inl hk⟩
    refine fr_less (h1.trans h2) (fun k hk=>?_)
    rcases hk with e | e | e | e
    ·exact .inl e
    ·exact .inr (.inl e)
    ·exact .inr (.inr (.inl e))
    ·cases e
end
theorem sclone_any (A:Option Addr) (c:Nat) (l:List ByteArray) (w:World) (h:StrsAt w A l) (hA:A = none → c = 0) (h16:l.length * 16 ≤ 140737488351232) :
  Calls Tryz.prog 85 #[.slice A l.length c] w fun e w'=>∃ v,e = .returned v ∧ w'.ownsRow w.heap.size 9 1 v l.length (strV l) ∧ Below w.heap.size w w':=by
 cases A with
 | none =>
  obtain rfl:=hA rfl
  have h0:l = []:=List.eq_nil_of_length_eq_zero (Nat.eq_zero_of_not_pos fun hp=>by obtain ⟨_,e,_⟩:=h hp;cases e)
  subst h0
  have q22:∀ W:World,(binOp .eql 57 (.slice none 0 0) (.slice none 0 0)).run Tryz.prog W = .ok (.bool true) W:=fun W=>Lib.run_eql_slice_nil W _ _ none 0 0 0 0 Tryz.underlying57
  clear h hA
  show Calls Tryz.prog 85 #[.slice none 0 0] w _
  go_enter Tryz.func85,Tryz.ntmps85
  go_wp2_with fail
  go_ret
  exact ⟨_,rfl,World.ownsRow_nil _ _ _ _,Below.refl _ _⟩
 | some ad =>
  obtain ⟨i0,hi,hz0,hz1,hz2⟩:=info_parts Tryz.infoStr
  have HSt:=Lib.hid h
  have hO0:(w.alloc (.cells #[] 9)).ownsRow w.heap.size 9 1 (.slice (some ⟨w.heap.size,0,none⟩) 0 0) 0 []:=World.ownsRow_lit (base:=w.heap.size) (e:=9) (size:=1) w #[] 0 (Nat.le_refl _) (by unfold maxLen;omega) rfl
  have HO0:=Lib.hid hO0
  have q22:∀ W:World,(binOp .eql 57 (.slice (some ad) l.length c) (.slice none 0 0)).run Tryz.prog W = .ok (.bool false) W:=fun W=>Lib.run_eql_slice_nil W _ _ (some ad) l.length c 0 0 Tryz.underlying57
  clear h hO0 hA
  go_enter Tryz.func85,Tryz.ntmps85
  go_wp2_with (at_builtin;refine wpList_append_opt rfl _ _ 57 rfl w.heap.size 9 i0 (.string ⟨#[]⟩) 16 Tryz.underlying57 hi hz0 hz1 hz2 rfl _ 0 _ rfl HO0.out (some ad) l.length c (strV l) rfl (strV_len _) (fun e=>by cases e) ?c1 ?c2 ?c3 ?c4 (by simp) ?_)
  case c1=>exact fun ad' e=>by obtain rfl:=Option.some.inj e;exact (HSt.out.alloc _).news
  case c2=>intro u hu;obtain ⟨s,_,rfl⟩:=List.mem_map.1 hu;rfl
  case c3=>unfold maxLen;omega
  case c4=>omega
  intro v' w3 ho hg hat
  have HB3:Hid (Below w.heap.size w w3):=Lib.hid (((Below.refl _ w).alloc (Nat.le_refl _) (.cells #[] 9)).grown hg (by simp) (fun k hk=>(HO0.out.lt k hk).1))
  have HO:=Lib.hid ho
  clear ho hg hat
  go_wp2_with fail
  go_ret
  exact ⟨v',rfl,HO.out,HB3.out⟩
theorem cloned_any (A:Option Addr) (c:Nat) (l:List ByteArray) (w:World) (h:StrsAt w A l) (hA:A = none → c = 0) (h16:l.length * 16 ≤ 140737488351232) (hs:∀ s ∈ l,s.size ≤ 140737488351232) :
  Calls Tryz.prog 52 #[.slice A l.length c] w fun e w'=>∃ v,e = .returned v ∧ w'.ownsRow w.heap.size 9 1 v l.length (strV l) ∧ Below w.heap.size w w':=by
 have HC:=Lib.hid (sclone_any A c l w h hA h16)
 have HCl:=Lib.hid (fun (s:ByteArray) W (hs:s.size ≤ 140737488351232)=>clone_any s W (by omega))
 have HSz:=Lib.hid hs
 have hl63:(l.length:Int) ≤ 9223372036854775807:=by omega
 clear h hA hs
 go_enter Tryz.func52,Tryz.ntmps52
 go_wp2_with fail
 refine HC.out.mono ?_
 rintro e w2 ⟨v,rfl,hown,hb⟩
 obtain ⟨X,cX,rfl,hlc⟩:=own_form2 hown
 have HO2:=Lib.hid hown
 have HB2:=Lib.hid hb
 clear hown hb HC hlc
 go_upto_region 3 with fail
 go_loopw [10] (fun i wr=>∃ j:Nat,j ≤ l.length ∧ i = .int .i64 (j:Int) ∧ Hid (wr.ownsRow w.heap.size 9 1 (.slice X l.length cX) l.length (strV l)) ∧ Hid (Below w.heap.size w wr)) (fun i _=>l.length - (intOf i).toNat)
 case atStart=>exact ⟨0,by omega,rfl,HO2.out,HB2.out⟩
 case round =>
  obtain ⟨j,hj,rfl,hown,hbel⟩:=hrel
  by_cases hlt:j < l.length
  ·have pj:(j:Int) < (l.length:Int):=by omega
   obtain ⟨g',cap,hv,hX1,hX2⟩:=World.ownsRow.form hown.out (by omega)
   simp only [Value.slice.injEq] at hv
   obtain ⟨rfl,-,rfl⟩:=hv
   have hcell:=(hown.out.cellAt j (by omega)).trans (strV_at hlt)
   have hsz:=HSz.out _ (List.getElem_mem hlt)
   have hset:(strV l).set j (.string l[j]) = strV l:=by
    have h1:=strV_at hlt
    apply List.ext_getElem?
    intro k
    rw [List.getElem?_set]
    split
    ·rename_i e
     subst e
     rw [if_pos (by rw [strV_len];exact hlt),h1]
    ·rfl
   have HSet:=Lib.hid hset
   have HCl2:=Lib.hid (fun W=>HCl.out l[j] W hsz)
   have HOw:=Lib.hid (fun W (hb:Below wr.heap.size wr W)=>show W.ownsRow w.heap.size 9 1 (.slice (some ⟨g',0,none⟩) l.length cX) l.length (strV l) from st_keep hown.out hb)
   clear hset hsz hX1 hX2
   generalize l[j] = t at *
   go_wp2_with fail
   refine (HCl2.out _).mono ?_
   rintro e w4 ⟨rfl,hb⟩
   have HO4:=Lib.hid (HOw.out _ hb)
   have HB4:=Lib.hid (hbel.out.trans (hb.mono hbel.out.size))
   have hfro:=HO4.out.frozenAt j
   have hcell4:w4.cell? ⟨g',j,none⟩ = some (.string t):=(cell_kept hb ⟨g',j,none⟩ (own_lt hown.out g' rfl)).trans hcell
   have R:=HO4.out.stored j (.string t)
   rw [HSet.out] at R
   have HR:=Lib.hid R.1
   have hge:=own_ge hown.out g' rfl
   have HGe:=Lib.hid hge
   clear hb R hcell hge HCl2 HOw
   go_wp2_with fail
   go_roundw
   case rel=>exact ⟨j + 1,by omega,by go_num,HR.out,HB4.out.setCell HGe.out _⟩
   case measure=>simp [intOf];omega
  ·obtain rfl:j = l.length:=by omega
   go_wp2_with fail
   go_ret
   exact ⟨_,rfl,hown.out,hbel.out⟩
theorem frameV_err {t:ByteArray} (h:4096 < t.size):Su.frameV t = .tuple #[.string ⟨#[]⟩,.int .i64 2]:=by unfold Su.frameV;rw [if_pos h]
theorem frameV_ok {t:ByteArray} (h:¬ 4096 < t.size):Su.frameV t = .tuple #[.string (Su.frameB t),.int .i64 0]:=by unfold Su.frameV;rw [if_neg h]
def framedP (ts:List ByteArray):List UInt8 × Int:=if ∃ t ∈ ts,4096 < t.size then ([],2) else (allF ts,0)
theorem framed_any (A:Option Addr) (c:Nat) (l:List ByteArray) (w:World) (h:StrsAt w A l) (h16:l.length * 16 ≤ 140737488351232) (hs:∀ s ∈ l,s.size ≤ 140737488351232) (hq:(allF l).length ≤ 140737488355328) :
  Calls Tryz.prog 137 #[.slice A l.length c] w fun e w'=>e = .returned (.tuple #[.string ⟨(framedP l).1.toArray⟩,.int .i64 (framedP l).2]) ∧ Below w.heap.size w w':=by
 have hal:Below w.heap.size w (w.alloc (.cells #[.pointer none,.slice none 0 0] 182)):=(Below.refl _ w).alloc (Nat.le_refl _) _
 have hbl:=Bld.new w
 have HSt:=Lib.hid (fun W (hb:Below w.heap.size w W)=>h.below hb)
 have HSz:=Lib.hid hs
 have HFr:=Lib.hid (fun t W (hs:t.size ≤ 140737488351232)=>Su.frame_any t W hs)
 have hl63:(l.length:Int) ≤ 9223372036854775807:=by omega
 have HSucc:=Lib.hid (fun j (hj:j < l.length)=>frs_succ (ts:=l) (a:=0) (Nat.zero_le j) hj)
 have HLe:=Lib.hid (fun j (hj:j ≤ l.length)=>show (frs l 0 j).length ≤ 140737488355328 from by
  have h1:=all_split l j
  have h2:(allF l).length = (frs l 0 j).length + (frs l j l.length).length:=by rw [h1,List.length_append]
  omega)
 generalize hR:framedP l = R
 have HR1:=Lib.hid (show ∀ j,(hj:j < l.length) → 4096 < l[j].size → R = ([],2) from fun j hj h2=>by
  rw [← hR];unfold framedP;rw [if_pos ⟨_,List.getElem_mem hj,h2⟩])
 have HR2:=Lib.hid (show (∀ t ∈ l,¬ 4096 < t.size) → R = (allF l,0) from fun h2=>by
  rw [← hR];unfold framedP;rw [if_neg (by rintro ⟨t,h3,h4⟩;exact h2 t h3 h4)])
 clear hR h hs hq
 go_enter Tryz.func137,Tryz.ntmps137
 go_upto_region 2 with fail
 generalize w.alloc (.cells #[.pointer none,.slice none 0 0] 182) = W1 at *
 have HB1:=Lib.hid hal
 have HL1:=Lib.hid hbl
 clear hal hbl
 go_upto_region 3 with fail
 go_loopw [11] (fun i wr=>∃ j:Nat,j ≤ l.length ∧ i = .int .i64 (j:Int) ∧ Hid (∀ t ∈ l.take j,¬ 4096 < t.size) ∧ Hid (Bld w.heap.size (frs l 0 j) wr) ∧ Hid (Below w.heap.size w wr)) (fun i _=>l.length - (intOf i).toNat)
 case atStart=>exact ⟨0,by omega,rfl,Lib.hid (fun t ht=>by simp at ht),by rw [frs_same];exact HL1.out,HB1.out⟩
 case round =>
  obtain ⟨j,hj,rfl,hsm,hbld,hbel⟩:=hrel
  by_cases hlt:j < l.length
  ·have pj:(j:Int) < (l.length:Int):=by omega
   obtain ⟨bd,hBe,hbl,hcl⟩:=HSt.out wr hbel.out (by omega)
   have hcell:=hcl j hlt
   subst hBe
   have hszt:=HSz.out _ (List.getElem_mem hlt)
   have HF:=Lib.hid (HFr.out l[j] wr hszt)
   by_cases hz:4096 < l[j].size
   ·have hRv:=HR1.out j hlt hz
    rw [frameV_err hz] at HF
    subst hRv
    generalize l[j] = t at *
    clear hcl hbl hz hszt
    go_wp2_with fail
    refine HF.out.mono ?_
    rintro e w4 ⟨rfl,hb⟩
    have HB4:=Lib.hid (hbel.out.trans (hb.mono hbel.out.size))
    clear hb HF
    go_wp2_with fail
    go_ret2
    exact ⟨rfl,HB4.out⟩
   ·rw [frameV_ok hz] at HF
    have HN:=Lib.hid (show ∀ t ∈ l.take (j + 1),¬ 4096 < t.size from fun t ht=>by
     rw [List.take_add_one,List.getElem?_eq_getElem hlt] at ht
     simp only [Option.toList_some,List.mem_append,List.mem_singleton] at ht
     rcases ht with h | h
     ·exact hsm.out t h
     ·rw [h];exact hz)
    have hsu:=HSucc.out j hlt
    have hle:=HLe.out (j + 1) (by omega)
    have hfz:=Su.frameB_size l[j]
    have hfl:=Su.frameL_len l[j].data.toList
    have hle2:(frs l 0 j).length + (Su.frameB l[j]).size ≤ 140737488355328:=by
     rw [hsu,List.length_append] at hle
     have:(Su.frameB l[j]).size = (Su.frameL l[j].data.toList).length:=by unfold Su.frameB;exact text_size _
     omega
    have hfd:(Su.frameB l[j]).data.toList = Su.frameL l[j].data.toList:=by unfold Su.frameB;simp
    rw [← hfd] at hsu
    have HSu:=Lib.hid hsu
    generalize Su.frameB l[j] = fb at HF HSu hle2
    generalize l[j] = t at *
    clear hcl hbl hz hszt hsu hle hfz hfl hfd
    go_wp2_with fail
    refine HF.out.mono ?_
    rintro e w4 ⟨rfl,hb⟩
    have HB4:=Lib.hid (hbel.out.trans (hb.mono hbel.out.size))
    have HL4:=Lib.hid (bld_kept hbld.out hb)
    clear hb HF hcell
    go_wp2_with fail
    refine (bld_string fb HL4.out hle2).mono ?_
    rintro e w5 ⟨rfl,hl5,hb⟩
    rw [← HSu.out] at hl5
    have HL5:=Lib.hid hl5
    have HB5:=Lib.hid (HB4.out.trans hb)
    clear hl5 hb HL4
    go_wp2_with fail
    go_roundw
    case rel=>exact ⟨j + 1,by omega,by go_num,HN.out,HL5.out,HB5.out⟩
    case measure=>simp [intOf];omega
  ·obtain rfl:j = l.length:=by omega
   have hRv:=HR2.out (fun t ht=>hsm.out t (by rw [List.take_length];exact ht))
   subst hRv
   have HTx:=Lib.hid (bld_text hbld.out)
   go_wp2_with fail
   refine HTx.out.mono ?_
   rintro e w4 ⟨rfl,_,hb⟩
   have HB4:=Lib.hid (hbel.out.trans hb)
   clear hb HTx
   go_wp2_with fail
   go_ret2
   exact ⟨rfl,HB4.out⟩
section
variable {Rep:RepT} {w:World} {F:Nat → Prop} {p g c a n m mn:Nat} {A B:Value} {l:Lg} {D:Dev}
theorem rows_far {W:World} {e e':TypeId} {H H' k k':Nat} {v u:Value} {xs ys:List Value} (h:W.ownsRow H e 1 v k xs) (h':W.ownsRow H' e' 1 u k' ys) (hn:e ≠ e'):∀ j,v.ownBlock = some j → u.ownBlock ≠ some j:=fun j hj hu=>by
 rcases h with ⟨_,⟨hz,_⟩ | ⟨i,cap,cur,hv,hb,hg,rest⟩⟩
 ·rw [hz] at hj;cases hj
 ·rcases h' with ⟨_,⟨hz,_⟩ | ⟨i',cap',cur',hv',hb',hg',rest'⟩⟩
  ·rw [hz] at hu;cases hu
  ·rw [hv] at hj;cases hj
   rw [hv'] at hu;cases hu
   rw [hg] at hg'
   simp only [Option.some.injEq,Obj.cells.injEq] at hg'
   exact hn hg'.2.1
theorem ltexts_any (hL:LL w p g A B l) (h16:l.ts.length * 16 ≤ 140737488351232) (hs:∀ s ∈ l.ts,s.size ≤ 140737488351232) :
  Calls Tryz.prog 24 #[.pointer (some ⟨p,0,none⟩)] w fun e w'=>∃ v,e = .returned v ∧ w'.ownsRow w.heap.size 9 1 v l.ts.length (strV l.ts) ∧ Below w.heap.size w w':=by
 have k4:=hL.cel.cell (i:=4) rfl
 obtain ⟨X,cX,rfl,hXs,-,hXn⟩:∃ (X:Option Addr) (cX:Nat),A = .slice X l.ts.length cX ∧ StrsAt w X l.ts ∧ (∀ x,X = some x → 0 ≤ x.block) ∧ (X = none → cX = 0):=strs_own_new hL.txt rfl
 have HC:=Lib.hid (cloned_any X cX l.ts w hXs hXn h16 hs)
 clear hL hXs hXn hs
 go_enter Tryz.func24,Tryz.ntmps24
 go_wp2_with fail
 refine HC.out.mono ?_
 rintro e w2 ⟨v,rfl,ho,hb⟩
 have HO:=Lib.hid (And.intro ho hb)
 clear ho hb HC
 go_wp2_with fail
 go_ret
 exact ⟨v,rfl,HO.out.1,HO.out.2⟩
theorem str_cells (s:ByteArray):Go.Lib.strCells s = Lib.byteCells s.data.toList:=by
 unfold Go.Lib.strCells Lib.byteCells;rfl
theorem fr_grow {F G:Nat → Prop} {w W W':World} {r:Option Nat} (h:Fr F G w W) (hg:W.grownBy W' r) (hr:∀ j,r = some j → F j ∨ w.heap.size ≤ j):Fr F G w W' :=
 ⟨hg.os.trans h.os,hg.tape.trans h.tape,hg.output.trans h.output,Nat.le_trans h.size hg.size,fun i hi hn=>(hg.block i (Nat.lt_of_lt_of_le hi h.size) (fun e=>(hr i e.symm).elim hn (fun hs=>by omega))).trans (h.block i hi hn),h.foot⟩
theorem fr_foot {F G G':Nat → Prop} {w W:World} (h:Fr F G w W) (hs:∀ k,G' k → F k ∨ w.heap.size ≤ k):Fr F G' w W:=⟨h.os,h.tape,h.output,h.size,h.block,hs⟩
theorem append_any (H:DevQ Rep) (hr:Rep w F g D) (hL:LL w p g A B l) (hd:∀ k,LFt p A B k → ¬ F k) (hi:LgIn D l) (t:ByteArray) (ht:t.size ≤ reachBytes) :
  Calls Tryz.prog 88 #[.pointer (some ⟨p,0,none⟩),.string t] w (LPost Rep w F p g A B (D,appendP D l t)):=by
 have hlo:=hi.ok
 have hrb:reachBytes = 140737488351232:=rfl
 have HFr:=Lib.hid (Su.frame_any t w (by omega))
 have HE:Hid (Rep w F g D ∧ LL w p g A B l):=Lib.hid ⟨hr,hL⟩
 by_cases h4:4096 < t.size
 ·have hap:appendP D l t = (l,2):=by unfold appendP;rw [if_pos h4]
  rw [hap]
  rw [frameV_err h4] at HFr
  clear hr hL hap
  generalize hPst:LPost Rep w F p g A B (D,l,2) = Pst
  have HPst:=Lib.hid hPst
  clear hPst
  go_enter Tryz.func88,Tryz.ntmps88
  go_wp2_with fail
  refine HFr.out.mono ?_
  rintro e w2 ⟨rfl,hb⟩
  have HB2:=Lib.hid hb
  clear hb HFr
  go_wp2_with fail
  rw [← HPst.out]
  exact ⟨rfl,F,A,B,H.step HE.out.1 HB2.out,HE.out.2.step HB2.out,hd,fr_refl_below HB2.out⟩
 rw [frameV_ok h4] at HFr
 have hfz:(Su.frameB t).size = t.size + 6:=Su.frameB_size t
 have HRm:=Lib.hid (fun W (hb:Below w.heap.size w W)=>room_any H (H.step hr hb) (hL.step hb) hlo)
 have hrmM:roomN D l ≤ 65536:=by have:=(H.ok hr).max;unfold roomN areaN;omega
 by_cases hrm:roomN D l < t.size + 6
 ·have hap:appendP D l t = (l,100):=by unfold appendP;rw [if_neg h4,if_pos hrm]
  rw [hap]
  have pf:(roomN D l:Int) < ((Su.frameB t).size:Int):=by rw [hfz];omega
  generalize Su.frameB t = ft at HFr pf
  generalize roomN D l = rm at HRm pf
  clear hr hL hap hfz hrm
  generalize hPst:LPost Rep w F p g A B (D,l,100) = Pst
  have HPst:=Lib.hid hPst
  clear hPst
  go_enter Tryz.func88,Tryz.ntmps88
  go_wp2_with fail
  refine HFr.out.mono ?_
  rintro e w2 ⟨rfl,hb⟩
  have HB2:=Lib.hid hb
  clear hb HFr
  go_wp2_with fail
  refine (HRm.out w2 HB2.out).mono ?_
  rintro e w3 ⟨rfl,hb⟩
  have HB3:=Lib.hid (HB2.out.trans (hb.mono HB2.out.size))
  clear hb HRm
  go_wp2_with fail
  rw [← HPst.out]
  exact ⟨rfl,F,A,B,H.step HE.out.1 HB3.out,HE.out.2.step HB3.out,hd,fr_refl_below HB3.out⟩
 have hap:appendP D l t = (⟨l.cnt,l.ar,l.bs,l.ts ++ [t],l.mn⟩,0):=by unfold appendP;rw [if_neg h4,if_neg hrm]
 rw [hap]
 have pf:((Su.frameB t).size:Int) ≤ (roomN D l:Int):=by rw [hfz];omega
 have hfd:(Su.frameB t).data.toList = Su.frameL t.data.toList:=by unfold Su.frameB;simp
 have hws:waitL ⟨l.cnt,l.ar,l.bs,l.ts ++ [t],l.mn⟩ = waitL l ++ (Su.frameB t).data.toList:=by rw [wait_snoc hlo.mn,hfd]
 have HWs:=Lib.hid hws
 have hmy:=hlo.many
 have hwz:(waitL l).length ≤ 65536:=by have:=hlo.room;have:=(H.ok hr).max;unfold areaN at *;omega
 have hfm:(Su.frameB t).size ≤ 5000:=by omega
 have HCl:=Lib.hid (fun W=>clone_any t W (by omega))
 obtain ⟨XA,cA,hXA,hcA⟩:=own_form2 hL.txt
 obtain ⟨XB,cB,hXB,hcB⟩:=own_form2 hL.wt
 obtain ⟨i0,hI0,hz0,hz1,hz2⟩:=info_parts Tryz.infoStr
 obtain ⟨i1,hI1,hy0,hy1,hy2⟩:=info_parts Tryz.infoU8
 generalize Su.frameB t = ft at HFr pf HWs hfm
 generalize roomN D l = rm at HRm pf
 clear hr hL hap hfz hrm hws hfd hrmM hcA hcB
 generalize hPst:LPost Rep w F p g A B (D,⟨l.cnt,l.ar,l.bs,l.ts ++ [t],l.mn⟩,0) = Pst
 have HPst:=Lib.hid hPst
 clear hPst
 go_enter Tryz.func88,Tryz.ntmps88
 go_wp2_with fail
 refine HFr.out.mono ?_
 rintro e w2 ⟨rfl,hb⟩
 have HB2:=Lib.hid hb
 clear hb HFr
 go_wp2_with fail
 refine (HRm.out w2 HB2.out).mono ?_
 rintro e w3 ⟨rfl,hb⟩
 have HB3:=Lib.hid (HB2.out.trans (hb.mono HB2.out.size))
 clear hb HRm
 have HL3:=Lib.hid (HE.out.2.step HB3.out)
 have HR3:=Lib.hid (H.step HE.out.1 HB3.out)
 go_upto_region 6 with fail
 have hpre:(strV l.ts).length = l.ts.length:=strV_len _
 have HPre:=Lib.hid hpre
 have HXA:=Lib.hid hXA
 have HXB:=Lib.hid hXB
 generalize hbs:w3.heap.size = bs
 have HBs:=Lib.hid hbs
 clear hbs hpre hXA hXB
 refine wp_region_saidK 11 [20,21,22,23,24,25,26,27,28,29,30]
  [TIs (.pointer (some ⟨p,0,none⟩)),TIs (.pointer (some ⟨p,0,none⟩)),TIs (.pointer (some ⟨p,0,none⟩)),TIs (.pointer (some ⟨p,4,none⟩)),TIs (.slice XA l.ts.length cA),TIs (.string t),TIs (.string t),TArr 9 A.ownBlock (.string t),TRow 9 0 bs A.ownBlock (l.ts.length + 1) (strV l.ts ++ [.string t]),TIs (.pointer (some ⟨p,0,none⟩)),TIs (.pointer (some ⟨p,4,none⟩))]
  (fun W=>Rep W F g D ∧ LL W p g A B l ∧ bs ≤ W.heap.size ∧ w3.grownBy W A.ownBlock) (GrK 9 A.ownBlock (strV l.ts) (.string t)) (by kernel_rfl) (by kernel_rfl) (by kernel_rfl) (by kernel_rfl) (by kernel_rfl)
  (satK_of fun S hS v W W' h hk=>by
   simp only [List.mem_cons,List.not_mem_nil,or_false] at hS
   rcases hS with rfl | rfl | rfl | rfl | rfl | rfl | rfl | rfl | rfl | rfl | rfl
   ·exact h
   ·exact h
   ·exact h
   ·exact h
   ·exact h
   ·exact h
   ·exact h
   ·obtain ⟨o,h1,h2,h3⟩:=h
    exact ⟨o,h1,GrK.blk h2 h3 hk,h3⟩
   ·exact ⟨GrK.more h.1 hk,h.2⟩
   ·exact h
   ·exact h)
  (fun W W' h hk=>⟨H.kept h.1 fun j hj=>hk.grown.block j (H.lt h.1 j hj) (fun e=>hd j (.inr (.inl e.symm)) hj),⟨GrK.cel h.2.1.cel h.2.1.dA hk,by have:=h.2.1.txt;rw [← HPre.out] at this ⊢;exact GrK.first this hk,own_kept h.2.1.wt fun j hj=>hk.grown.block j (own_lt h.2.1.wt j hj) (fun e=>rows_far h.2.1.wt h.2.1.txt (by decide) j hj e.symm)⟩,Nat.le_trans h.2.2.1 hk.size,h.2.2.2.trans hk.grown⟩) (fun W=>.inl (Below.refl _ W).drew) ⟨HR3.out,HL3.out,Nat.le_of_eq HBs.out.symm,⟨rfl,rfl,rfl,Nat.le_refl _,fun _ _ _=>rfl⟩⟩ ?steps7 ?last7
 case steps7 =>
  simp only [List.take_succ_cons,List.take_zero]
  refine ⟨?_,?_,?_,?_,?_,?_,?_,?_,?_,?_,?_,trivial⟩
  all_goals
   intro vs W ρ hρ hc hf hg hI hd' R' hR
   have z4:=hI.2.1.cel.cell (i:=4) rfl
   rw [HXA.out] at z4
   have HR:=Lib.hid hR
   have HI:=Lib.hid hI
   simp [depsOf,Region.binds,satK,TIs] at hd'
   clear hR hI
  case refine_8 =>
   go_simp
   refine HR.out _ _ ⟨W.heap.size,rfl,heap_alloc_new W _,fun e=>?_⟩ (.inl ((Below.refl _ _).alloc (Nat.le_refl _) _))
   have:=own_lt HI.out.2.1.txt _ e
   omega
  case refine_9 =>
   obtain ⟨hd1,⟨o,hd2,hd3,hd4⟩,hd5⟩:=hd'
   have hr0:=HI.out.2.1.txt
   have hpre:=HPre.out
   rw [← hpre] at hr0
   obtain ⟨v',w',hrun,h2,h3,h4⟩:=run_grow1 (P:=Tryz.prog) (bytes:=16) (t:=57) (ty:=57) Tryz.underlying57 hI0 hz0 hz1 hz2 rfl hr0 rfl hd3 rfl (by rw [hpre];unfold maxLen;omega) (by rw [hpre];omega) (Nat.zero_le _)
   have e0:ρ (.tmp 24) = A:=by rw [hρ,HXA.out];simp [pick,hd1]
   have e2:ρ (.tmp 27) = .slice (some ⟨o,0,none⟩) 1 1:=by rw [hρ];simp [pick,hd2]
   rw [if_pos (by simp [Region.wanted])]
   unfold execOp
   simp only [resolve,invoke,builtin,Sem.run_bind,Sem.run_pure,Result.andThen_ok,List.map_toArray,List.map_cons,List.map_nil,e0,e2,hrun,floatUpon]
   refine HR.out _ _ ⟨by rw [hpre] at h2;exact h2,?_⟩ h3
   rcases h4 with h | h
   ·exact .inl h
   ·exact .inr ⟨_,h,HI.out.2.2.1⟩
  all_goals
   go_simp
   first
    | exact HR.out _ _ (by simp [satK,TIs]) (.inl (Below.refl _ _))
    | (refine (HCl.out _).mono ?_;rintro e w' ⟨rfl,hb⟩;exact ⟨_,rfl,HR.out _ _ (by simp [satK,TIs]) (.inl hb)⟩)
    | trace_state
 case last7 =>
  intro vs W hI hg
  have e10:=hg 10 (by omega)
  have e8:=hg 8 (by omega)
  simp only [satK,TIs,List.getD_cons_succ,List.getD_cons_zero] at e10 e8
  simp only [List.take_succ_cons,List.take_zero,List.drop_succ_cons,List.drop_zero,putAll,Act.put,List.setIfInBounds_toArray,List.set_cons_succ,List.set_cons_zero,Nat.zero_add,Nat.reduceAdd]
  obtain ⟨hown',hat⟩:=e8
  rw [e10]
  obtain ⟨hI1,hI2,hI3,hI4⟩:=hI
  obtain ⟨v8,hv8⟩:∃ v8,v8 = vs 8:=⟨_,rfl⟩
  rw [← hv8] at hown' hat ⊢
  have hn8:v8.ownBlock ≠ some p:=own_far hown' hI2.cel (by decide)
  obtain ⟨X8,c8,hX8,-⟩:=own_form2 hown'
  have zq:=fun i=>Cel.free hI2.cel (i:=i)
  have z4:=hI2.cel.cell (i:=4) rfl
  have hst:strV (l.ts ++ [t]) = strV l.ts ++ [.string t]:=Su.strV_snoc l.ts t
  rw [← hst] at hown'
  have hlen:(l.ts ++ [t]).length = l.ts.length + 1:=by rw [List.length_append];rfl
  have hset:∀ v,Fr (fun k=>k = p) (fun k=>k = p) W (W.setCell ⟨p,4,none⟩ v):=fun v=>(Fr.refl (fun k=>k = p) W).set (p:=⟨p,4,none⟩) rfl v
  have HC2:Hid (LC (W.setCell ⟨p,4,none⟩ v8) p g l.cnt l.ar l.bs.length v8 l.mn B):=Lib.hid (hI2.cel.set (i:=4) (v:=v8))
  have HT2:Hid ((W.setCell ⟨p,4,none⟩ v8).ownsRow 0 9 1 v8 (l.ts ++ [t]).length (strV (l.ts ++ [t]))):=Lib.hid (by
   rw [hlen]
   exact own_kept hown' fun j hj=>(hset v8).block j (own_lt hown' j hj) (fun e=>hn8 (e ▸ hj)))
  have HW2:Hid ((W.setCell ⟨p,4,none⟩ v8).ownsRow 0 5 1 B (waitL l).length (Lib.byteCells (waitL l))):=Lib.hid (own_kept hI2.wt fun j hj=>(hset v8).block j (own_lt hI2.wt j hj) (fun e=>hI2.dB (e ▸ hj)))
  have HR2:Hid (Rep (W.setCell ⟨p,4,none⟩ v8) F g D):=Lib.hid (H.kept hI1 fun j hj=>(hset v8).block j (H.lt hI1 j hj) (fun e=>hd p (.inl rfl) (e ▸ hj)))
  have hf1:Fr (LFt p A B) (LFt p A B) w W:=fr_grow (fr_refl_below HB3.out) hI4 (fun j e=>.inl (.inr (.inl e)))
  have hf2:Fr (LFt p A B) (LFt p v8 B) w (W.setCell ⟨p,4,none⟩ v8):=fr_foot (hf1.set (p:=⟨p,4,none⟩) (.inl rfl) v8) (fun k hk=>by
   rcases hk with e | e | e
   ·exact .inl (.inl e)
   ·rcases hat with h | ⟨q,h,hq⟩
    ·exact .inl (.inr (.inl (h ▸ e)))
    ·rw [h] at e
     obtain rfl:=Option.some.inj e
     have h1:=HBs.out
     have h2:=HB3.out.size
     exact .inr (by omega)
   ·exact .inl (.inr (.inr e)))
  have HF2:=Lib.hid hf2
  clear hset hf1 hf2 hown' hat hI1 hI2 hI3 hI4 hst hlen hn8 hv8 hg e10
  rw [hX8] at HC2 HT2 HR2 HF2 HW2 ⊢
  clear hX8
  go_upto_region 7 with fail
  obtain ⟨u8,hu8⟩:∃ u,u = Value.slice X8 (l.ts.length + 1) c8:=⟨_,rfl⟩
  rw [← hu8] at HC2 HT2 HW2 HR2 HF2 ⊢
  clear hu8 zq z4
  generalize W.setCell ⟨p,4,none⟩ u8 = W2 at HC2 HT2 HW2 HR2 HF2 ⊢
  have y6:=HC2.out.cell (i:=6) rfl
  rw [HXB.out] at y6
  have hw2:=HW2.out
  rw [HXB.out] at hw2
  have HW3:=Lib.hid hw2
  clear hw2
  have hwl:(waitL l).length + ft.size ≤ 140737488355328:=by omega
  go_wp2_with (at_builtin;refine wpList_append_string_at rfl _ _ 41 9 rfl 0 5 i1 Tryz.underlying41 Tryz.underlying9 hI1 hy0 hy1 hy2 (.slice XB (waitL l).length cB) (waitL l).length (Lib.byteCells (waitL l)) rfl HW3.out ft rfl (by unfold maxLen;omega) hwl (Nat.zero_le _) ?_)
  intro v9 w9 hown9 hgrow9 hat9
  have hB2:=HW2.out
  have hXo:Value.ownBlock (.slice XB (waitL l).length cB) = B.ownBlock:=by rw [HXB.out]
  rw [hXo] at hgrow9 hat9
  have hbp:B.ownBlock ≠ some p:=own_far hB2 HC2.out (by decide)
  have hC9:LC w9 p g l.cnt l.ar l.bs.length u8 l.mn B:=(hgrow9.block p HC2.out.lt (fun e=>hbp e.symm)).trans HC2.out
  have hn9:v9.ownBlock ≠ some p:=own_far hown9 hC9 (by decide)
  obtain ⟨X9,c9,hX9,-⟩:=own_form2 hown9
  have HC9:=Lib.hid hC9
  have zq:=fun i=>Cel.free hC9 (i:=i)
  have z6:=hC9.cell (i:=6) rfl
  rw [HXB.out] at z6
  have HO9:=Lib.hid hown9
  have HG9:=Lib.hid hgrow9
  have HA9:=Lib.hid hat9
  clear hC9 hown9 hgrow9 hat9 hXo y6 HW3 hB2
  rw [hX9] at hn9 HO9 HA9 ⊢
  go_wp2_with fail
  rw [← HPst.out]
  have hset:∀ v,Fr (fun k=>k = p) (fun k=>k = p) w9 (w9.setCell ⟨p,6,none⟩ v):=fun v=>(Fr.refl (fun k=>k = p) w9).set (p:=⟨p,6,none⟩) rfl v
  have hT9:w9.ownsRow 0 9 1 u8 (l.ts ++ [t]).length (strV (l.ts ++ [t])):=own_kept HT2.out fun j hj=>HG9.out.block j (own_lt HT2.out j hj) (fun e=>rows_far HT2.out HW2.out (by decide) j hj e.symm)
  have hu8p:u8.ownBlock ≠ some p:=own_far HT2.out HC2.out (by decide)
  have hR9:Rep w9 F g D:=H.kept HR2.out fun j hj=>HG9.out.block j (H.lt HR2.out j hj) (fun e=>hd j (.inr (.inr e.symm)) hj)
  have hf3:Fr (LFt p A B) (LFt p u8 B) w w9:=fr_grow HF2.out HG9.out (fun j e=>.inl (.inr (.inr e)))
  have hcells:Lib.byteCells (waitL l) ++ Go.Lib.strCells ft = Lib.byteCells (waitL l ++ ft.data.toList):=by
   rw [str_cells];unfold Lib.byteCells;rw [List.map_append]
  have hwlen:(waitL l ++ ft.data.toList).length = (waitL l).length + ft.size:=by
   rw [List.length_append]
   have:ft.data.toList.length = ft.size:=Array.length_toList
   omega
  have hff:Fr (LFt p A B) (LFt p u8 (.slice X9 ((waitL l).length + ft.size) c9)) w (w9.setCell ⟨p,6,none⟩ (.slice X9 ((waitL l).length + ft.size) c9)):=fr_foot (hf3.set (p:=⟨p,6,none⟩) (.inl rfl) _) (fun k hk=>by
   rcases hk with e | e | e
   ·exact .inl (.inl e)
   ·exact HF2.out.foot k (.inr (.inl e))
   ·rcases HA9.out with h | h
    ·exact .inl (.inr (.inr (h ▸ e)))
    ·rw [h] at e
     obtain rfl:=Option.some.inj e
     exact .inr HF2.out.size)
  have hFlt:=H.lt HE.out.1
  refine ⟨rfl,F,u8,.slice X9 ((waitL l).length + ft.size) c9,H.kept hR9 fun j hj=>(hset _).block j (H.lt hR9 j hj) (fun e=>hd p (.inl rfl) (e ▸ hj)),⟨HC9.out.set (i:=6) (v:=.slice X9 ((waitL l).length + ft.size) c9),own_kept hT9 fun j hj=>(hset _).block j (own_lt hT9 j hj) (fun e=>hu8p (e ▸ hj)),?_⟩,?_,?_⟩
  ·have h9:=HO9.out
   rw [hcells,← HWs.out] at h9
   have h10:(waitL l).length + ft.size = (waitL ⟨l.cnt,l.ar,l.bs,l.ts ++ [t],l.mn⟩).length:=by rw [HWs.out,hwlen]
   show World.ownsRow _ 0 5 1 _ (waitL ⟨l.cnt,l.ar,l.bs,l.ts ++ [t],l.mn⟩).length (Lib.byteCells (waitL ⟨l.cnt,l.ar,l.bs,l.ts ++ [t],l.mn⟩))
   rw [← h10]
   exact own_kept h9 fun j hj=>(hset _).block j (own_lt h9 j hj) (fun e=>hn9 (e ▸ hj))
  ·exact fun k hk hf=>(hff.foot k hk).elim (fun hq=>hd k hq hf) (fun hs=>by have:=hFlt k hf;omega)
  ·exact ⟨hff.os,hff.tape,hff.output,hff.size,fun i hi hn=>hff.block i hi (fun hq=>hn (.inr hq)),fun k hk=>hk.elim (fun hf=>.inl (.inl hf)) (fun hq=>(hff.foot k hq).elim (fun h=>.inl (.inr h)) .inr)⟩
end
section
variable {Rep:RepT} {w:World} {F:Nat → Prop} {p g c a n m mn:Nat} {A B:Value} {l:Lg} {D:Dev}
theorem restart_any (HRt:RepTxt) (HB:DevBase Rep) (H:DevQ Rep) (hr:Rep w F g D) (hL:LL w p g A B l) (hd:∀ k,LFt p A B k → ¬ F k) (hi:LgIn D l) (hu:D.down = false)
  (E:Option Addr) (cE:Nat) (ts:List ByteArray) (hE:StrsAt w E ts) (hEn:E = none → cE = 0) (hEo:0 < ts.length → ∀ x,E = some x → x.block < w.heap.size ∧ ¬ F x.block ∧ ¬ LFt p A B x.block) (hn:ts.length * 16 ≤ reachBytes) (hs:∀ t ∈ ts,t.size ≤ reachBytes) (hq:(allF ts).length ≤ 140737488355328) :
  Calls Tryz.prog 89 #[.pointer (some ⟨p,0,none⟩),.slice E ts.length cE] w (LPost Rep w F p g A B (restartP D l ts)):=by
 have hok:=H.ok hr
 have hlo:=hi.ok
 have hrb:reachBytes = 140737488351232:=rfl
 have HFm:=Lib.hid (framed_any E cE ts w hE (by omega) (fun t ht=>by have:=hs t ht;omega) hq)
 have HE:Hid (Rep w F g D ∧ LL w p g A B l):=Lib.hid ⟨hr,hL⟩
 have hfp:framedP ts = if ∃ t ∈ ts,4096 < t.size then ([],2) else (allF ts,0):=rfl
 have HMo:=Lib.hid (fun W (hb:Below w.heap.size w W)=>most_any H (H.step hr hb) (hL.step hb).cel hlo.dev)
 have hab:areaN D ≤ 65536:=by have:=hok.max;unfold areaN;omega
 by_cases hlong:∃ t ∈ ts,4096 < t.size
 ·have hR:restartP D l ts = (D,l,2):=by unfold restartP;rw [if_pos hlong]
  rw [hfp,if_pos hlong] at HFm
  rw [hR]
  clear hr hL hR hlong hfp hE hEn hEo
  generalize hPst:LPost Rep w F p g A B (D,l,2) = Pst
  have HPst:=Lib.hid hPst
  clear hPst
  go_enter Tryz.func89,Tryz.ntmps89
  go_wp2_with fail
  refine HFm.out.mono ?_
  rintro e w2 ⟨rfl,hb⟩
  have HB2:=Lib.hid hb
  clear hb HFm
  go_wp2_with fail
  rw [← HPst.out]
  exact ⟨rfl,F,A,B,H.step HE.out.1 HB2.out,HE.out.2.step HB2.out,hd,fr_refl_below HB2.out⟩
 rw [hfp,if_neg hlong] at HFm
 have hsz:(⟨(allF ts).toArray⟩:ByteArray).size = (allF ts).length:=text_size _
 by_cases hbig:areaN D < (allF ts).length
 ·have hR:restartP D l ts = (D,l,100):=by unfold restartP;rw [if_neg hlong,if_pos hbig]
  rw [hR]
  have pf:(areaN D:Int) < ((⟨(allF ts).toArray⟩:ByteArray).size:Int):=by rw [hsz];omega
  clear hr hL hR hlong hfp hE hEn hEo hsz
  simp only at HFm
  generalize (⟨(allF ts).toArray⟩:ByteArray) = S at *
  generalize areaN D = ab at *
  clear hbig
  generalize hPst:LPost Rep w F p g A B (D,l,100) = Pst
  have HPst:=Lib.hid hPst
  clear hPst
  go_enter Tryz.func89,Tryz.ntmps89
  go_wp2_with fail
  refine HFm.out.mono ?_
  rintro e w2 ⟨rfl,hb⟩
  have HB2:=Lib.hid hb
  clear hb HFm
  go_wp2_with fail
  refine (HMo.out w2 HB2.out).mono ?_
  rintro e w3 ⟨rfl,rfl⟩
  go_wp2_with fail
  rw [← HPst.out]
  exact ⟨rfl,F,A,B,H.step HE.out.1 HB2.out,HE.out.2.step HB2.out,hd,fr_refl_below HB2.out⟩
 have hR:restartP D l ts = if (settleP D l.cnt (1 - l.ar) [] (allF ts)).2 = 0 then ((settleP D l.cnt (1 - l.ar) [] (allF ts)).1,⟨l.cnt + 1,1 - l.ar,allF ts,ts,ts.length⟩,0) else ((settleP D l.cnt (1 - l.ar) [] (allF ts)).1,l,(settleP D l.cnt (1 - l.ar) [] (allF ts)).2):=by
  unfold restartP;rw [if_neg hlong,if_neg hbig]
 have pf:((⟨(allF ts).toArray⟩:ByteArray).size:Int) ≤ (areaN D:Int):=by rw [hsz];omega
 have hSt:=Lib.hid (fun W (hb:Below w.heap.size w W)=>show Calls Tryz.prog 105 #[.pointer (some ⟨p,0,none⟩),.int .i64 ((1 - l.ar:Nat):Int),.int .i64 0,.string ⟨(allF ts).toArray⟩] W (PutPost Rep W F p g l.cnt l.ar l.bs.length A l.mn B (l.cnt + 1) (1 - l.ar) (allF ts).length (settleP D l.cnt (1 - l.ar) [] (allF ts))) from
  settle_any HRt HB H (H.step hr hb) (hL.step hb).cel (hd p (.inl rfl)) hlo.dev hu hi.cnt (1 - l.ar) [] (allF ts) (by omega) (by rw [List.nil_append];omega) (fun _=>by simp))
 have e1:((1 - l.ar:Nat):Int) = 1 - (l.ar:Int):=by have:=hlo.ar;omega
 rw [e1] at hSt
 have b1:(l.ar:Int) ≤ 1:=by have:=hlo.ar;omega
 have HCl:=Lib.hid (fun W (h:StrsAt W E ts)=>cloned_any E cE ts W h hEn (by omega) (fun t ht=>by have:=hs t ht;omega))
 have HSt:Hid (∀ W W' F',Below w.heap.size w W → Fr (fun k=>F k ∨ k = p) F' W W' → StrsAt W' E ts):=Lib.hid (fun W W' F' hb hf=>by
  have h1:=hE.below hb
  intro hp
  exact strs_fr h1 hf (fun x hx hq=>hq.elim (hEo hp x hx).2.1 (fun e=>(hEo hp x hx).2.2 (.inl e))) hp)
 generalize settleP D l.cnt (1 - l.ar) [] (allF ts) = rs at hR hSt
 obtain ⟨D1,z1⟩:=rs
 have HR:=Lib.hid hR
 have y2:=fun W (hb:Below w.heap.size w W)=>(hL.step hb).cel.cell (i:=2) rfl
 have HY2:=Lib.hid y2
 simp only at HFm
 obtain ⟨nF,hnF⟩:∃ nF,nF = (allF ts).length:=⟨_,rfl⟩
 rw [← hnF] at hSt
 have HNF:=Lib.hid hnF
 clear hr hL hR hfp hE hEn hEo hsz y2 hbig hnF hlong e1
 generalize (⟨(allF ts).toArray⟩:ByteArray) = S at *
 generalize areaN D = ab at *
 generalize hPst:LPost Rep w F p g A B (restartP D l ts) = Pst
 have HPst:=Lib.hid hPst
 clear hPst
 go_enter Tryz.func89,Tryz.ntmps89
 go_wp2_with fail
 refine HFm.out.mono ?_
 rintro e w2 ⟨rfl,hb⟩
 have HB2:=Lib.hid hb
 clear hb HFm
 go_wp2_with fail
 refine (HMo.out w2 HB2.out).mono ?_
 rintro e w3 ⟨rfl,rfl⟩
 have k2:=HY2.out _ HB2.out
 clear HMo HY2
 go_wp2_with fail
 refine (hSt.out _ HB2.out).mono ?_
 intro e w7 hpost
 obtain ⟨rfl,F1,h1,h2,h3,h5,h6⟩:=hpost
 have HQ:=Lib.hid (And.intro h1 (And.intro h2 (And.intro h3 (And.intro h5 h6))))
 clear h1 h2 h3 h5 h6 hSt k2
 by_cases h0:z1 = 0
 rotate_left
 ·have hnz:(z1 != 0) = true:=by simpa using h0
  go_wp2_with fail
  rw [← HPst.out,HR.out,if_neg h0]
  obtain ⟨q1,q2,q3,q4,q5⟩:=HQ.out
  have hL2:=HE.out.2.step HB2.out
  have hrw:=ll_rows hL2 hd q5
  have hof:=lft_off hL2 hd q5 q2
  exact ⟨rfl,F1,A,B,q1,⟨q4 h0,hrw.1,hrw.2⟩,hof,below_fr HB2.out (fr_llp q5)⟩
 subst h0
 obtain ⟨q1,q2,q3,q4,q5⟩:=HQ.out
 have HC7:=Lib.hid (q3 rfl)
 have HS7:=Lib.hid (HSt.out _ _ _ HB2.out q5)
 clear q1 q2 q3 q4 q5
 go_wp2_with fail
 refine (HCl.out w7 HS7.out).mono ?_
 rintro e w8 ⟨v,rfl,hown,hb⟩
 obtain ⟨X,cX,rfl,-⟩:=own_form2 hown
 have HB8:=Lib.hid hb
 have HV:=Lib.hid (own_ge hown)
 have HO:=Lib.hid (owns_lower hown (Nat.zero_le _))
 have HC8:=Lib.hid (Cel.below HC7.out hb)
 have z4:=HC8.out.cell (i:=4) rfl
 have z5:=HC8.out.cell (i:=5) rfl
 have z6:=HC8.out.cell (i:=6) rfl
 have zq:=fun i=>HC8.out.free (i:=i)
 clear hb hown HCl
 go_wp2_with fail
 rw [← HPst.out,HR.out,if_pos (by trivial)]
 obtain ⟨q1,q2,q3,q4,q5⟩:=HQ.out
 have hfs:∀ v0 v1 v2,Fr (fun k=>k = p) (fun k=>k = p) w8 (((w8.setCell ⟨p,4,none⟩ v0).setCell ⟨p,5,none⟩ v1).setCell ⟨p,6,none⟩ v2):=fun v0 v1 v2=>(((Fr.refl (fun k=>k = p) w8).set (p:=⟨p,4,none⟩) rfl v0).set (p:=⟨p,5,none⟩) rfl v1).set (p:=⟨p,6,none⟩) rfl v2
 have hR8:=H.step q1 HB8.out
 have hXp:=own_far HO.out HC8.out (by decide)
 have hb7:Fr (fun k=>F k ∨ LFt p A B k) (fun k=>F1 k ∨ LFt p A B k) w w8:=(below_fr HB2.out (fr_llp q5)).below HB8.out
 have hb8:Fr (fun k=>F k ∨ LFt p A B k) (fun k=>F1 k ∨ LFt p A B k) w (((w8.setCell ⟨p,4,none⟩ (.slice X ts.length cX)).setCell ⟨p,5,none⟩ (.int .i64 (ts.length:Int))).setCell ⟨p,6,none⟩ (.slice none 0 0)):=((hb7.set (p:=⟨p,4,none⟩) (.inr (.inl rfl)) _).set (p:=⟨p,5,none⟩) (.inr (.inl rfl)) _).set (p:=⟨p,6,none⟩) (.inr (.inl rfl)) _
 have hlt1:=H.lt q1
 refine ⟨rfl,F1,.slice X ts.length cX,.slice none 0 0,H.kept hR8 fun j hj=>(hfs _ _ _).block j (H.lt hR8 j hj) (fun e=>q2 (e ▸ hj)),⟨?_,own_kept HO.out fun j hj=>(hfs _ _ _).block j (own_lt HO.out j hj) (fun e=>hXp (e ▸ hj)),?_⟩,fun k hk hf=>?_,?_⟩
 ·show LC _ p g (l.cnt + 1) (1 - l.ar) (allF ts).length _ ts.length _
  rw [← HNF.out]
  exact ((HC8.out.set (i:=4) (v:=.slice X ts.length cX)).set (i:=5) (v:=.int .i64 (ts.length:Int))).set (i:=6) (v:=.slice none 0 0)
 ·show World.ownsRow _ 0 5 1 (.slice none 0 0) (waitL ⟨l.cnt + 1,1 - l.ar,allF ts,ts,ts.length⟩).length (Lib.byteCells (waitL ⟨l.cnt + 1,1 - l.ar,allF ts,ts,ts.length⟩))
  have e0:waitL ⟨l.cnt + 1,1 - l.ar,allF ts,ts,ts.length⟩ = []:=frs_same _ _
  rw [e0]
  exact World.ownsRow_nil _ _ _ _
 ·rcases hk with e | e | e
  ·exact q2 (e ▸ hf)
  ·have:=HV.out k e;have:=hlt1 k hf;omega
  ·cases e
 ·refine fr_foot hb8 (fun k hk=>?_)
  rcases hk with hk | e | e | e
  ·exact hb8.foot k (.inl hk)
  ·exact .inl (.inr (.inl e))
  ·have h1:=HV.out k e
   have h2:=q5.size
   have h3:=HB2.out.size
   exact .inr (by omega)
  ·cases e
end
end Rd
end Go.Proofs.YtlfkhlfkckfbpaaGreat
