/- Parts of the proof, joined: CkRefOp, CkTwo, CkPl1, CkOpen; their conditions stand with each. -/
import Derived.Deep.RegionWith
import Derived.Test.YtmidncclndongaaGreatRows
import Derived.Deep.SlicePairs
import Derived.Test.YtmidncclndongaaGreatC2
import Derived.Test.YtmidncclndongaaGreatC27
import Derived.Test.YtmidncclndongaaGreatC28
import Derived.Test.YtmidncclndongaaGreatC30

set_option maxRecDepth 20000
set_option maxHeartbeats 8000000
namespace Go.Proofs.YtmidncclndongaaGreat
namespace Ck
open Go.RowKit Bk Sc Rd Rc Lt
attribute [local go_sem ↓] Go.wp_at_zero Go.wp_at_succ
attribute [local go_sem] floatUpon pick
section
variable {w W:World} {F:Nat → Prop} {b g p:Nat} {D:Dev} {blk:Int} {k:Cl}
theorem RC.log (h:RC w F b g p D blk k):∃ A c,w.cell? ⟨p,4,none⟩ = some (.slice A k.l.ts.length c) ∧ StrsAt w A k.l.ts:=by
 obtain ⟨Fd,Fl,-,-,⟨A,c,-,hL,-⟩,-⟩:=h.sd
 exact ⟨A,c,hL.cel.cell (i:=4) rfl,hL.strs⟩
theorem refused {F1:Nat → Prop} {w':World} {blk e:Int} {D1:Dev} (h:RC w' F1 b g p D1 blk k) (hf:Fr F (Tc F1 b) w w') (hR:openC D blk = (D1,none,e)) (he:e ≠ 0) :
  OPost RDev DLog 60 w F g blk (openC D blk) (.returned (.tuple #[.pointer none,.int .i64 e])) w':=by
 rw [hR]
 obtain ⟨F',q1,q2⟩:=side_none h.sd
 exact .inr ⟨rfl,he,rfl,F',q2,fr_less hf (fun j hj=>.inl (q1 j hj))⟩
theorem ropen16_any (o:Option (Nat × Lg)) (h:Side RDev DLog w F g D o) (blk:Int) :
  Calls Tryz.prog 46 #[.pointer (some ⟨g,0,none⟩),.int .i64 blk] w (OPost RDev DLog 60 w F g blk (openC D blk)):=by
 by_cases hblk:blk < 1 ∨ 4096 < blk
 ·have HE:=Lib.hid (openC_rng (D:=D) hblk)
  obtain ⟨F',q1,q2⟩:=side_none h
  have HS:=Lib.hid (And.intro q1 q2)
  have HFr:=Lib.hid (fr_less (Fr.refl F w) q1)
  clear h q1 q2
  rcases hblk with hb | hb
  ·go_enter Tryz.func46,Tryz.ntmps46
   go_wp2_with fail
   go_ret2
   rw [HE.out]
   exact .inr ⟨rfl,(by decide:(1:Int) ≠ 0),rfl,F',HS.out.2,HFr.out⟩
  ·have hb1:¬ blk < 1:=by omega
   go_enter Tryz.func46,Tryz.ntmps46
   go_wp2_with fail
   go_ret2
   rw [HE.out]
   exact .inr ⟨rfl,(by decide:(1:Int) ≠ 0),rfl,F',HS.out.2,HFr.out⟩
 have b1:¬ blk < 1:=fun q=>hblk (.inl q)
 have b2:¬ 4096 < blk:=fun q=>hblk (.inr q)
 have HO:=Lib.hid (Side.opn docLog h)
 have hok:=h.ok docDev
 have HIn:=Lib.hid (fun l (hl:(openP D).2.1 = some l)=>open_in hok hl)
 have HNo:=Lib.hid (fun (hl:(openP D).2.1 = none)=>And.intro (open_no hl) (openC_no hblk hl))
 have HBad:=Lib.hid (fun l (hl:(openP D).2.1 = some l) (h2:loadC l.ts 0 = none)=>openC_bad hblk hl h2)
 have HGood:=Lib.hid (fun l n (hl:(openP D).2.1 = some l) (h2:loadC l.ts 0 = some n)=>openC_ok hblk hl h2)
 clear h hok hblk
 go_enter Tryz.func46,Tryz.ntmps46
 go_wp2_with fail
 refine HO.out.mono ?_
 rintro e1 w1 ⟨o1,rfl,ho,F1,h1,hf1⟩
 have H1:=Lib.hid h1
 have HF1:=Lib.hid hf1
 clear h1 hf1 HO
 generalize hR:openP D = R at H1 ho HIn HNo HBad HGood ⊢
 obtain ⟨D1,ol,er⟩:=R
 simp only at H1 ho HIn HNo HBad HGood ⊢
 clear hR
 cases o1 with
 | none =>
  subst ho
  have z:(er != 0) = true:=by simpa using (HNo.out rfl).1
  have HE:=Lib.hid (HNo.out rfl)
  clear HNo HBad HGood HIn
  unfold ptrV
  go_wp2_with fail
  go_ret2
  rw [HE.out.2]
  exact .inr ⟨rfl,HE.out.1,rfl,F1,H1.out,HF1.out⟩
 | some q =>
  obtain ⟨p,l⟩:=q
  subst ho
  have hz:=(HIn.out l rfl).2.2.2
  subst hz
  have HB:=Lib.hid (HBad.out l rfl)
  have HG:=Lib.hid (fun n=>HGood.out l n rfl)
  have HL:=Lib.hid (HIn.out l rfl).1
  have hmany:=HL.out.ok.many
  have hln:(l.ts.length:Int) ≤ 1000000:=by omega
  clear HNo HBad HGood HIn hmany
  have hr5:Cel (w1.alloc (.cells #[.pointer (some ⟨p,0,none⟩),.int .i64 blk,.int .i64 0,.int .i64 0] 60)) w1.heap.size 60 [.pointer (some ⟨p,0,none⟩),.int .i64 blk,.int .i64 0,.int .i64 0]:=(blk1 w1 _).2
  have hb5:Below w1.heap.size w1 (w1.alloc (.cells #[.pointer (some ⟨p,0,none⟩),.int .i64 blk,.int .i64 0,.int .i64 0] 60)):=(Below.refl _ w1).alloc (Nat.le_refl _) _
  unfold ptrV
  go_upto_region 8 with fail
  have HC:Hid (RC (w1.alloc (.cells #[.pointer (some ⟨p,0,none⟩),.int .i64 blk,.int .i64 0,.int .i64 0] 60)) F1 w1.heap.size g p D1 blk ⟨l,0,0⟩ ∧ Fr F (Tc F1 w1.heap.size) w (w1.alloc (.cells #[.pointer (some ⟨p,0,none⟩),.int .i64 blk,.int .i64 0,.int .i64 0] 60))):=Lib.hid (by
   have hlt1:=H1.out.lt docDev docLog
   refine ⟨⟨H1.out.kept docDev docLog (fun k hk=>hb5.block k (hlt1 k hk)),hr5,fun hk=>Nat.lt_irrefl _ (hlt1 _ hk)⟩,?_⟩
   exact ⟨hb5.os.trans HF1.out.os,hb5.tape.trans HF1.out.tape,hb5.output.trans HF1.out.output,Nat.le_trans HF1.out.size hb5.size,fun k hk hn=>(hb5.block k (Nat.lt_of_lt_of_le hk HF1.out.size)).trans (HF1.out.block k hk hn),fun k hk=>by
    have:=HF1.out.size
    rcases hk with hk | hk
    ·exact HF1.out.foot k hk
    ·exact .inr (by omega)⟩)
  generalize w1.alloc (.cells #[.pointer (some ⟨p,0,none⟩),.int .i64 blk,.int .i64 0,.int .i64 0] 60) = W5 at HC ⊢
  have hbo:w.heap.size ≤ w1.heap.size:=HF1.out.size
  generalize w1.heap.size = b at HC hbo ⊢
  have HBo:=Lib.hid hbo
  clear hr5 hb5 H1 HF1 hbo
  go_loopw [9] (fun iv wr=>∃ (j:Nat) (n:Int),j ≤ l.ts.length ∧ iv = .int .i64 (j:Int) ∧ Hid (loadC (l.ts.take j) 0 = some n) ∧ Hid (RC wr F1 b g p D1 blk ⟨l,0,n⟩ ∧ Fr F (Tc F1 b) w wr)) (fun iv _=>l.ts.length - (RowKit.intOf iv).toNat)
  case atStart=>exact ⟨0,0,Nat.zero_le _,rfl,Lib.hid rfl,HC⟩
  case round =>
   obtain ⟨j,n,hj,rfl,hX,hc⟩:=hrel
   clear HC
   obtain ⟨A,c,hA,hS⟩:=RC.log hc.out.1
   by_cases hlt:j < l.ts.length
   ·have pj:(j:Int) < (l.ts.length:Int):=by omega
    obtain ⟨ad,rfl,-,hcl⟩:=hS (by show 0 < l.ts.length;omega)
    have x0:=hcl j hlt
    have hmem:=List.getElem_mem hlt
    have hsz:=HL.out.small _ hmem
    have HTk:=Lib.hid (show l.ts.take (j + 1) = l.ts.take j ++ [l.ts[j]] from List.take_succ_eq_append_getElem hlt)
    have ex:(⟨l,0,n⟩:Cl).l.ts[j] = l.ts[j]:=rfl
    rw [ex] at x0
    generalize l.ts[j] = t at x0 hsz HTk
    have HDc:=Lib.hid (Rc.decode_any t wr (by omega))
    have HSn:=Lib.hid (load_snoc (t:=t) hX.out)
    rw [← HTk.out] at HSn
    clear hcl hmem hsz ex hX
    go_wp2_with fail
    refine HDc.out.mono ?_
    rintro e2 w2 ⟨A2,B2,c2,d2,rfl,-,-,hb⟩
    have HC2:=Lib.hid (And.intro (hc.out.1.below docDev docLog hb) (fr_below hc.out.2 hb))
    obtain ⟨r,code,hrc⟩:∃ r code,Rc.decX t = (r,code):=⟨_,_,rfl⟩
    rw [hrc] at HSn ⊢
    simp only at HSn ⊢
    clear hb HDc x0 hrc hc hA
    unfold recV
    have hal:Below w2.heap.size w2 (w2.alloc (.cells #[.int .i64 r.kind,.int .i64 r.txn,.int .i64 r.ts,.int .i64 r.coord,.string r.key,.string r.text,.bool r.dead,.slice A2 r.keys.length c2,.slice B2 r.ws.length d2] 39)):=(Below.refl _ w2).alloc (Nat.le_refl _) _
    have hr3:Cel (w2.alloc (.cells #[.int .i64 r.kind,.int .i64 r.txn,.int .i64 r.ts,.int .i64 r.coord,.string r.key,.string r.text,.bool r.dead,.slice A2 r.keys.length c2,.slice B2 r.ws.length d2] 39)) w2.heap.size 39 [.int .i64 r.kind,.int .i64 r.txn,.int .i64 r.ts,.int .i64 r.coord,.string r.key,.string r.text,.bool r.dead,.slice A2 r.keys.length c2,.slice B2 r.ws.length d2]:=(blk1 w2 _).2
    have HC3:=Lib.hid (And.intro (HC2.out.1.below docDev docLog hal) (fr_below HC2.out.2 hal))
    have hbr:b < w2.heap.size:=HC2.out.1.cel.lt
    go_upto_region 11 with fail
    generalize w2.alloc (.cells #[.int .i64 r.kind,.int .i64 r.txn,.int .i64 r.ts,.int .i64 r.coord,.string r.key,.string r.text,.bool r.dead,.slice A2 r.keys.length c2,.slice B2 r.ws.length d2] 39) = W3 at hr3 HC3 ⊢
    have HRc:=Lib.hid hr3
    have HNe:=Lib.hid (show w2.heap.size ≠ b by omega)
    have q0:=hr3.cell (i:=0) rfl
    have q2:=hr3.cell (i:=2) rfl
    have q3:=HC3.out.1.cel.cell (i:=3) rfl
    generalize w2.heap.size = ab at q0 q2 HRc HNe ⊢
    clear hal hr3 HC2 hbr
    by_cases c0:code = 0
    case neg =>
     have z:((code:Int) != 0) = true:=by simpa using c0
     have HF:=Lib.hid (HB.out (load_take (by rw [HSn.out];exact if_neg (fun q=>c0 q.1):loadC (l.ts.take (j + 1)) 0 = none)))
     clear c0
     go_quiet (fail)
     have hbd:Below W3.heap.size W3 (W3.drewN nq):=below_drewN (Below.refl _ W3) nq
     have HC4:=Lib.hid (And.intro (HC3.out.1.below docDev docLog hbd) (fr_below HC3.out.2 hbd))
     generalize W3.drewN nq = W4 at HC4 ⊢
     clear hbd q0 q2 q3
     go_wp2_with fail
     go_ret2
     exact refused HC4.out.1 HC4.out.2 HF.out (by decide)
    subst c0
    have z0:(((0:Nat):Int) != 0) = false:=by simp
    by_cases c1:r.kind = 7
    case neg =>
     have z1:(r.kind != 7) = true:=by simpa using c1
     have HF:=Lib.hid (HB.out (load_take (by rw [HSn.out];exact if_neg (fun q=>c1 q.2.1):loadC (l.ts.take (j + 1)) 0 = none)))
     clear c1
     go_quiet (fail)
     have hbd:Below W3.heap.size W3 (W3.drewN nq):=below_drewN (Below.refl _ W3) nq
     have HC4:=Lib.hid (And.intro (HC3.out.1.below docDev docLog hbd) (fr_below HC3.out.2 hbd))
     generalize W3.drewN nq = W4 at HC4 ⊢
     clear hbd q0 q2 q3
     go_wp2_with fail
     go_ret2
     exact refused HC4.out.1 HC4.out.2 HF.out (by decide)
    have z1:(r.kind != 7) = false:=by simpa using c1
    by_cases c2':n < r.ts
    case neg =>
     have z2:r.ts ≤ n:=by omega
     have HF:=Lib.hid (HB.out (load_take (by rw [HSn.out];exact if_neg (fun q=>c2' q.2.2):loadC (l.ts.take (j + 1)) 0 = none)))
     clear c1 c2'
     go_quiet (fail)
     have hbd:Below W3.heap.size W3 (W3.drewN nq):=below_drewN (Below.refl _ W3) nq
     have HC4:=Lib.hid (And.intro (HC3.out.1.below docDev docLog hbd) (fr_below HC3.out.2 hbd))
     generalize W3.drewN nq = W4 at HC4 ⊢
     clear hbd q0 q2 q3
     go_wp2_with fail
     go_ret2
     exact refused HC4.out.1 HC4.out.2 HF.out (by decide)
    have z2:¬ r.ts ≤ n:=by omega
    have HX2:=Lib.hid (show loadC (l.ts.take (j + 1)) 0 = some r.ts by rw [HSn.out];exact if_pos ⟨rfl,c1,c2'⟩)
    clear c1 c2'
    go_quiet (fail)
    have hbd:Below W3.heap.size W3 (W3.drewN nq):=below_drewN (Below.refl _ W3) nq
    have HC4:=Lib.hid (And.intro (HC3.out.1.below docDev docLog hbd) (fr_below HC3.out.2 hbd))
    have q2':=(HRc.out.below hbd).cell (i:=2) rfl
    have fr':=fun i=>HC4.out.1.cel.free (i:=i)
    have q3':=HC4.out.1.cel.cell (i:=3) rfl
    generalize W3.drewN nq = W4 at HC4 q2' fr' q3' ⊢
    have HC5:=Lib.hid (And.intro (HC4.out.1.setBound docDev docLog r.ts) (fr_set HC4.out.2 (b:=b) (.inr HBo.out) 3 (.int .i64 r.ts)))
    clear hbd q0 q2 q3 HC4
    go_wp2_with fail
    go_roundw
    case rel=>exact ⟨j + 1,r.ts,by omega,by go_num,HX2,HC5⟩
    case measure=>simp [RowKit.intOf];omega
   ·obtain rfl:j = l.ts.length:=by omega
    have hx:=hX.out
    rw [List.take_length] at hx
    have HE:=Lib.hid (HG.out n hx)
    have s2:=hc.out.1.cel.cell (i:=2) rfl
    have s3:=hc.out.1.cel.cell (i:=3) rfl
    have fr':=fun i=>hc.out.1.cel.free (i:=i)
    have HC5:=Lib.hid (And.intro (hc.out.1.setLast docDev docLog n) (fr_set hc.out.2 (b:=b) (.inr HBo.out) 2 (.int .i64 n)))
    clear hx hX hS
    go_wp2_with fail
    go_ret2
    rw [HE.out]
    exact .inl ⟨⟨l,n,n⟩,rfl,rfl,F1,b,p,rfl,HC5.out.1,HC5.out.2⟩
end
end Ck
end Go.Proofs.YtmidncclndongaaGreat
namespace Go.Proofs.YtmidncclndongaaGreat
namespace Ck
open Go.RowKit Bk Sc Rd Rc Lt
inductive St
 | no
 | lg (p:Nat) (l:Lg)
 | ck (b p:Nat) (k:Cl)
def ptrS:St → Value
 | .no=>.pointer none
 | .lg p _=>.pointer (some ⟨p,0,none⟩)
 | .ck b _ _=>.pointer (some ⟨b,0,none⟩)
def SAt (Rep:RepT) (LRep:LRepT) (t:TypeId) (W:World) (T:Nat → Prop) (g:Nat) (D:Dev) (blk:Int):St → Prop
 | .no=>Side Rep LRep W T g D none
 | .lg p l=>Side Rep LRep W T g D (some (p,l))
 | .ck b p k=>∃ F,T = Tc F b ∧ CAt Rep LRep t W F b g p D blk k
def One (s:St):Option Cl → Prop
 | none=>s = .no
 | some k=>∃ b p,s = .ck b p k
section
variable {f1 f2 f3 f4 f5 f6 f7 f8 f9 f10:FuncId} {Rep:RepT} {LRep:LRepT} {t:TypeId} {W W':World} {T:Nat → Prop} {g:Nat} {D:Dev} {blk:Int} {s:St}
theorem SAt.lt (HD:DevF f1 f2 f3 f4 f5 Rep) (HL:LogF f6 f7 f8 f9 f10 Rep LRep) (h:SAt Rep LRep t W T g D blk s):∀ j,T j → j < W.heap.size:=by
 cases s with
 | no=>exact Side.lt HD HL (show Side Rep LRep W T g D none from h)
 | lg p l=>exact Side.lt HD HL (show Side Rep LRep W T g D (some (p,l)) from h)
 | ck b p k=>obtain ⟨F,rfl,h⟩:=h;exact h.lt HD HL
theorem SAt.kept (HD:DevF f1 f2 f3 f4 f5 Rep) (HL:LogF f6 f7 f8 f9 f10 Rep LRep) (h:SAt Rep LRep t W T g D blk s) (hk:∀ j,T j → W'.heap[j]? = W.heap[j]?):SAt Rep LRep t W' T g D blk s:=by
 cases s with
 | no=>exact Side.kept HD HL (show Side Rep LRep W T g D none from h) hk
 | lg p l=>exact Side.kept HD HL (show Side Rep LRep W T g D (some (p,l)) from h) hk
 | ck b p k=>obtain ⟨F,rfl,h⟩:=h;exact ⟨F,rfl,h.kept HD HL hk⟩
theorem SAt.dev (h:SAt Rep LRep t W T g D blk s):∃ (F:Nat → Prop) (o:Option (Nat × Lg)),(∀ j,F j → T j) ∧ Side Rep LRep W F g D o:=by
 cases s with
 | no=>exact ⟨T,none,fun _ h=>h,h⟩
 | lg p l=>exact ⟨T,some (p,l),fun _ h=>h,h⟩
 | ck b p k=>obtain ⟨F,rfl,h⟩:=h;exact ⟨F,_,fun _ h=>.inl h,h.sd⟩
theorem SAt.ok (HD:DevF f1 f2 f3 f4 f5 Rep) (h:SAt Rep LRep t W T g D blk s):DevOk D:=by
 obtain ⟨F,o,-,h1⟩:=h.dev
 exact h1.ok HD
theorem SAt.read (HD:DevF f1 f2 f3 f4 f5 Rep) (HL:LogF f6 f7 f8 f9 f10 Rep LRep) (h:SAt Rep LRep t W T g D blk s) (i:Int) (hi:-9223372036854775808 ≤ i ∧ i ≤ 9223372036854775807) :
  Calls Tryz.prog f1 #[.pointer (some ⟨g,0,none⟩),.int .i64 i] W fun e w'=>e = .returned (.tuple #[.string (rdV D i).1,.int .i64 (rdV D i).2]) ∧ ∃ T',SAt Rep LRep t w' T' g D blk s ∧ Fr T T' W w':=by
 cases s with
 | no=>exact Side.read HD HL (show Side Rep LRep W T g D none from h) i hi
 | lg p l=>exact Side.read HD HL (show Side Rep LRep W T g D (some (p,l)) from h) i hi
 | ck b p k =>
  obtain ⟨F,rfl,h⟩:=h
  refine (Side.read HD HL h.sd i hi).mono ?_
  rintro e w' ⟨rfl,F',h1,h2⟩
  obtain ⟨q1,q2⟩:=h.dev h1 h2
  exact ⟨rfl,_,⟨F',rfl,q1⟩,q2⟩
theorem SAt.fuse (HD:DevF f1 f2 f3 f4 f5 Rep) (HL:LogF f6 f7 f8 f9 f10 Rep LRep) (h:SAt Rep LRep t W T g D blk s) (i:Int) (hi:-9223372036854775808 ≤ i ∧ i ≤ 9223372036854775807) :
  Calls Tryz.prog f4 #[.pointer (some ⟨g,0,none⟩),.int .i64 i] W fun e w'=>e = .returned (.int .i64 (fuD D i).2) ∧ ∃ T',SAt Rep LRep t w' T' g (fuD D i).1 blk s ∧ Fr T T' W w':=by
 cases s with
 | no=>exact Side.fuse HD HL (show Side Rep LRep W T g D none from h) i hi
 | lg p l=>exact Side.fuse HD HL (show Side Rep LRep W T g D (some (p,l)) from h) i hi
 | ck b p k =>
  obtain ⟨F,rfl,h⟩:=h
  refine (Side.fuse HD HL h.sd i hi).mono ?_
  rintro e w' ⟨rfl,F',h1,h2⟩
  obtain ⟨q1,q2⟩:=h.dev h1 h2
  exact ⟨rfl,_,⟨F',rfl,q1⟩,q2⟩
theorem SAt.crash (HD:DevF f1 f2 f3 f4 f5 Rep) (h:SAt Rep LRep t W T g D blk s) (A:Option Addr) (c:Nat) (ps:List Int) (hp:IntsAt W A ps) (hd:0 < ps.length → ∀ a,A = some a → ¬ T a.block) (hl:ps.length * 8 ≤ reachBytes) (hr:∀ p ∈ ps,-9223372036854775808 ≤ p ∧ p ≤ 9223372036854775807) :
  Calls Tryz.prog f5 #[.pointer (some ⟨g,0,none⟩),.slice A ps.length c] W fun e w'=>e = .returned (.tuple #[]) ∧ ∃ T',SAt Rep LRep t w' T' g (crD D ps) blk .no ∧ Fr T T' W w':=by
 obtain ⟨F,o,hs,h1⟩:=h.dev
 refine (Side.crash HD h1 A c ps hp (fun h0 a ha hf=>hd h0 a ha (hs _ hf)) hl hr).mono ?_
 rintro e w' ⟨rfl,F',q1,q2⟩
 exact ⟨rfl,F',q1,fr_wide hs q2⟩
theorem SAt.opl (HL:LogF f6 f7 f8 f9 f10 Rep LRep) (h:SAt Rep LRep t W T g D blk s) :
  Calls Tryz.prog f6 #[.pointer (some ⟨g,0,none⟩)] W fun e w'=>∃ s',e = .returned (.tuple #[ptrS s',.int .i64 (openP D).2.2]) ∧ (match (openP D).2.1 with | none=>s' = .no | some l=>∃ p,s' = .lg p l) ∧ ∃ T',SAt Rep LRep t w' T' g (openP D).1 blk s' ∧ Fr T T' W w':=by
 obtain ⟨F,o,hs,h1⟩:=h.dev
 refine (Side.opn HL h1).mono ?_
 rintro e w' ⟨o',rfl,ho,F',q1,q2⟩
 cases o' with
 | none =>
  have ho':(openP D).2.1 = none:=ho.symm
  exact ⟨.no,rfl,by rw [ho'],F',q1,fr_wide hs q2⟩
 | some x =>
  obtain ⟨p,l⟩:=x
  have ho':(openP D).2.1 = some l:=ho.symm
  exact ⟨.lg p l,rfl,by rw [ho'];exact ⟨p,rfl⟩,F',q1,fr_wide hs q2⟩
theorem opost_at {F:Nat → Prop} {e:Ending} (h:OPost Rep LRep t W F g blk (openC D blk) e W') (hs:∀ j,F j → T j):∃ s' T',e = .returned (.tuple #[ptrS s',.int .i64 (openC D blk).2.2]) ∧ SAt Rep LRep t W' T' g (openC D blk).1 blk s' ∧ Fr T T' W W' ∧ One s' (openC D blk).2.1:=by
 rcases h with ⟨k,h1,h2,F',b,p,rfl,h3,h4⟩ | ⟨h1,-,rfl,F',h3,h4⟩
 ·rw [h1,h2]
  exact ⟨.ck b p k,_,rfl,⟨F',rfl,h3⟩,fr_wide hs h4,b,p,rfl⟩
 ·rw [h1]
  exact ⟨.no,F',rfl,h3,fr_wide hs h4,rfl⟩
end
abbrev SL:=SAt Sc.Rep Rd.LRep 115
abbrev SR:=SAt RDev DLog 60
structure C2 (w0 W:World) (a g h:Nat) (blk:Int) (vl vk:Value) (T U:Nat → Prop) (D E:Dev) (s q:St):Prop where
 l:SL W T g D blk s
 r:SR W U h E blk q
 cel:Cel W a 51 [.int .i64 blk,.pointer (some ⟨g,0,none⟩),.pointer (some ⟨h,0,none⟩),vl,vk]
 at':¬ T a
 au:¬ U a
 dis:∀ k,U k → ¬ T k
 bT:∀ k,T k → w0.heap.size ≤ k
 bU:∀ k,U k → w0.heap.size ≤ k
 ba:w0.heap.size ≤ a
 bel:Below w0.heap.size w0 W
section
variable {w0 W W':World} {T T' U U':Nat → Prop} {a g h:Nat} {blk:Int} {D D' E E':Dev} {vl vk vl' vk':Value} {s s' q q':St}
theorem C2.lt (p:C2 w0 W a g h blk vl vk T U D E s q):∀ k,T k → k < W.heap.size:=p.l.lt (devF_of devBase) logF
theorem C2.ut (p:C2 w0 W a g h blk vl vk T U D E s q):∀ k,U k → k < W.heap.size:=p.r.lt docDev docLog
theorem C2.actL (p:C2 w0 W a g h blk vl vk T U D E s q) (h1:SL W' T' g D' blk s') (h2:Fr T T' W W'):C2 w0 W' a g h blk vl vk T' U D' E s' q :=
 ⟨h1,p.r.kept docDev docLog (fun k hk=>h2.block k (p.ut k hk) (p.dis k hk)),(h2.block a p.cel.lt p.at').trans p.cel,
  fun hk=>(h2.foot a hk).elim p.at' (fun hs=>by have:=p.cel.lt;omega),p.au,
  fun k hk hf=>(h2.foot k hf).elim (p.dis k hk) (fun hs=>by have:=p.ut k hk;omega),
  fun k hk=>(h2.foot k hk).elim (p.bT k) (fun hs=>Nat.le_trans p.bel.size hs),p.bU,p.ba,p.bel.trans (h2.belowB p.bT p.bel.size)⟩
theorem C2.actR (p:C2 w0 W a g h blk vl vk T U D E s q) (h1:SR W' U' h E' blk q') (h2:Fr U U' W W'):C2 w0 W' a g h blk vl vk T U' D E' s q' :=
 ⟨p.l.kept (devF_of devBase) logF (fun k hk=>h2.block k (p.lt k hk) (fun hr=>p.dis k hr hk)),h1,(h2.block a p.cel.lt p.au).trans p.cel,p.at',
  fun hk=>(h2.foot a hk).elim p.au (fun hs=>by have:=p.cel.lt;omega),
  fun k hk hf=>(h2.foot k hk).elim (fun hg=>p.dis k hg hf) (fun hs=>by have:=p.lt k hf;omega),
  p.bT,fun k hk=>(h2.foot k hk).elim (p.bU k) (fun hs=>Nat.le_trans p.bel.size hs),p.ba,p.bel.trans (h2.belowB p.bU p.bel.size)⟩
theorem C2.below (p:C2 w0 W a g h blk vl vk T U D E s q) (hb:Below W.heap.size W W'):C2 w0 W' a g h blk vl vk T U D E s q :=
 ⟨p.l.kept (devF_of devBase) logF (fun k hk=>hb.block k (p.lt k hk)),p.r.kept docDev docLog (fun k hk=>hb.block k (p.ut k hk)),p.cel.below hb,p.at',p.au,p.dis,p.bT,p.bU,p.ba,p.bel.trans (hb.mono p.bel.size)⟩
theorem C2.drew (p:C2 w0 W a g h blk vl vk T U D E s q) (n:Nat):C2 w0 (W.drewN n) a g h blk vl vk T U D E s q:=p.below (below_drewN (Below.refl _ W) n)
theorem C2.put (p:C2 w0 W a g h blk vl vk T U D E s q) (hc:Cel W' a 51 [.int .i64 blk,.pointer (some ⟨g,0,none⟩),.pointer (some ⟨h,0,none⟩),vl',vk']) (hk:∀ k,k ≠ a → W'.heap[k]? = W.heap[k]?) (hb:Below w0.heap.size W W'):C2 w0 W' a g h blk vl' vk' T U D E s q :=
 ⟨p.l.kept (devF_of devBase) logF (fun k h1=>hk k (fun e=>p.at' (e ▸ h1))),p.r.kept docDev docLog (fun k h1=>hk k (fun e=>p.au (e ▸ h1))),hc,p.at',p.au,p.dis,p.bT,p.bU,p.ba,p.bel.trans hb⟩
theorem C2.opnL (p:C2 w0 W a g h blk vl vk T U D E s q) :
  Calls Tryz.prog 22 #[.pointer (some ⟨g,0,none⟩),.int .i64 blk] W fun e w'=>∃ s' T',e = .returned (.tuple #[ptrS s',.int .i64 (openC D blk).2.2]) ∧ C2 w0 w' a g h blk vl vk T' U (openC D blk).1 E s' q ∧ Fr T T' W w' ∧ One s' (openC D blk).2.1:=by
 obtain ⟨F,o,hs,h1⟩:=p.l.dev
 refine (lopen_any o h1 blk).mono ?_
 intro e w' hp
 obtain ⟨s1,T1,q1,q2,q3,q4⟩:=opost_at hp hs
 exact ⟨s1,T1,q1,p.actL q2 q3,q3,q4⟩
theorem C2.rdL (p:C2 w0 W a g h blk vl vk T U D E s q) (i:Int) (hi:-9223372036854775808 ≤ i ∧ i ≤ 9223372036854775807) :
  Calls Tryz.prog 20 #[.pointer (some ⟨g,0,none⟩),.int .i64 i] W fun e w'=>e = .returned (.tuple #[.string (rdV D i).1,.int .i64 (rdV D i).2]) ∧ ∃ T',C2 w0 w' a g h blk vl vk T' U D E s q ∧ Fr T T' W w':=by
 refine (p.l.read (devF_of devBase) logF i hi).mono ?_
 rintro e w' ⟨rfl,T1,q1,q2⟩
 exact ⟨rfl,T1,p.actL q1 q2,q2⟩
theorem C2.fzL (p:C2 w0 W a g h blk vl vk T U D E s q) (i:Int) (hi:-9223372036854775808 ≤ i ∧ i ≤ 9223372036854775807) :
  Calls Tryz.prog 24 #[.pointer (some ⟨g,0,none⟩),.int .i64 i] W fun e w'=>e = .returned (.int .i64 (fuD D i).2) ∧ ∃ T',C2 w0 w' a g h blk vl vk T' U (fuD D i).1 E s q ∧ Fr T T' W w':=by
 refine (p.l.fuse (devF_of devBase) logF i hi).mono ?_
 rintro e w' ⟨rfl,T1,q1,q2⟩
 exact ⟨rfl,T1,p.actL q1 q2,q2⟩
theorem C2.crL (p:C2 w0 W a g h blk vl vk T U D E s q) (A:Option Addr) (c:Nat) (ps:List Int) (hp:IntsAt w0 A ps) (hl:ps.length * 8 ≤ reachBytes) (hr:∀ p ∈ ps,-9223372036854775808 ≤ p ∧ p ≤ 9223372036854775807) :
  Calls Tryz.prog 26 #[.pointer (some ⟨g,0,none⟩),.slice A ps.length c] W fun e w'=>e = .returned (.tuple #[]) ∧ ∃ T',C2 w0 w' a g h blk vl vk T' U (crD D ps) E .no q ∧ Fr T T' W w':=by
 refine (p.l.crash (devF_of devBase) A c ps (hp.below p.bel) (fun h0 x hx hf=>?_) hl hr).mono ?_
 ·obtain ⟨ad,e1,h2,_⟩:=hp h0
  rw [e1] at hx
  cases hx
  have:=p.bT _ hf
  omega
 rintro e w' ⟨rfl,T1,q1,q2⟩
 exact ⟨rfl,T1,p.actL q1 q2,q2⟩
theorem C2.olL (p:C2 w0 W a g h blk vl vk T U D E s q) :
  Calls Tryz.prog 51 #[.pointer (some ⟨g,0,none⟩)] W fun e w'=>∃ s',e = .returned (.tuple #[ptrS s',.int .i64 (openP D).2.2]) ∧ (match (openP D).2.1 with | none=>s' = .no | some l=>∃ p,s' = .lg p l) ∧ ∃ T',C2 w0 w' a g h blk vl vk T' U (openP D).1 E s' q ∧ Fr T T' W w':=by
 refine (p.l.opl logF).mono ?_
 rintro e w' ⟨s1,rfl,q0,T1,q1,q2⟩
 exact ⟨s1,rfl,q0,T1,p.actL q1 q2,q2⟩
theorem C2.apL {z:Nat} {l:Lg} (p:C2 w0 W a g h blk vl vk T U D E (.lg z l) q) (hi:LgIn D l) (hu:D.down = false) (t:ByteArray) (ht:t.size ≤ reachBytes) :
  Calls Tryz.prog 84 #[.pointer (some ⟨z,0,none⟩),.string t] W fun e w'=>e = .returned (.int .i64 (appendP D l t).2) ∧ ∃ T',C2 w0 w' a g h blk vl vk T' U D E (.lg z (appendP D l t).1) q ∧ Fr T T' W w':=by
 refine (Side.app logF p.l hi hu t ht).mono ?_
 rintro e w' ⟨rfl,T1,q1,q2⟩
 exact ⟨rfl,T1,p.actL q1 q2,q2⟩
theorem C2.syL {z:Nat} {l:Lg} (p:C2 w0 W a g h blk vl vk T U D E (.lg z l) q) (hi:LgIn D l) (hu:D.down = false) :
  Calls Tryz.prog 86 #[.pointer (some ⟨z,0,none⟩)] W fun e w'=>e = .returned (.int .i64 (syncP D l).2.2) ∧ ∃ T',C2 w0 w' a g h blk vl vk T' U (syncP D l).1 E (.lg z (syncP D l).2.1) q ∧ Fr T T' W w':=by
 refine (Side.syn logF p.l hi hu).mono ?_
 rintro e w' ⟨rfl,T1,q1,q2⟩
 exact ⟨rfl,T1,p.actL q1 q2,q2⟩
theorem C2.nxL {b z:Nat} {k:Cl} (p:C2 w0 W a g h blk vl vk T U D E (.ck b z k) q) (hi:LgIn D k.l) (hu:D.down = false) (ho:ClOk k) (hb1:1 ≤ blk) (hb2:blk ≤ 4096) :
  Calls Tryz.prog 25 #[.pointer (some ⟨b,0,none⟩)] W fun e w'=>e = .returned (.tuple #[.int .i64 (nextC D k blk).2.2.1,.int .i64 (nextC D k blk).2.2.2]) ∧ ∃ T',C2 w0 w' a g h blk vl vk T' U (nextC D k blk).1 E (.ck b z (nextC D k blk).2.1) q ∧ Fr T T' W w':=by
 obtain ⟨F,hT,h1⟩:=p.l
 refine (lnext_any h1 hi hu ho hb1 hb2).mono ?_
 rintro e w' ⟨rfl,F',q1,q2⟩
 exact ⟨rfl,_,p.actL ⟨F',rfl,q1⟩ (hT ▸ q2),hT ▸ q2⟩
theorem C2.skL {b z:Nat} {k:Cl} (p:C2 w0 W a g h blk vl vk T U D E (.ck b z k) q) (hi:LgIn D k.l) (hu:D.down = false) (ho:ClOk k) (n:Int) :
  Calls Tryz.prog 27 #[.pointer (some ⟨b,0,none⟩),.int .i64 n] W fun e w'=>e = .returned (.int .i64 (skipC D k n).2.2) ∧ ∃ T',C2 w0 w' a g h blk vl vk T' U (skipC D k n).1 E (.ck b z (skipC D k n).2.1) q ∧ Fr T T' W w':=by
 obtain ⟨F,hT,h1⟩:=p.l
 refine (lskip_any h1 hi hu ho n).mono ?_
 rintro e w' ⟨rfl,F',q1,q2⟩
 exact ⟨rfl,_,p.actL ⟨F',rfl,q1⟩ (hT ▸ q2),hT ▸ q2⟩
theorem C2.opnR (p:C2 w0 W a g h blk vl vk T U D E s q) :
  Calls Tryz.prog 46 #[.pointer (some ⟨h,0,none⟩),.int .i64 blk] W fun e w'=>∃ q' U',e = .returned (.tuple #[ptrS q',.int .i64 (openC E blk).2.2]) ∧ C2 w0 w' a g h blk vl vk T U' D (openC E blk).1 s q' ∧ Fr U U' W w' ∧ One q' (openC E blk).2.1:=by
 obtain ⟨F,o,hs,h1⟩:=p.r.dev
 refine (ropen16_any o h1 blk).mono ?_
 intro e w' hp
 obtain ⟨s1,T1,q1,q2,q3,q4⟩:=opost_at hp hs
 exact ⟨s1,T1,q1,p.actR q2 q3,q3,q4⟩
theorem C2.rdR (p:C2 w0 W a g h blk vl vk T U D E s q) (i:Int) (hi:-9223372036854775808 ≤ i ∧ i ≤ 9223372036854775807) :
  Calls Tryz.prog 21 #[.pointer (some ⟨h,0,none⟩),.int .i64 i] W fun e w'=>e = .returned (.tuple #[.string (rdV E i).1,.int .i64 (rdV E i).2]) ∧ ∃ U',C2 w0 w' a g h blk vl vk T U' D E s q ∧ Fr U U' W w':=by
 refine (p.r.read docDev docLog i hi).mono ?_
 rintro e w' ⟨rfl,T1,q1,q2⟩
 exact ⟨rfl,T1,p.actR q1 q2,q2⟩
theorem C2.fzR (p:C2 w0 W a g h blk vl vk T U D E s q) (i:Int) (hi:-9223372036854775808 ≤ i ∧ i ≤ 9223372036854775807) :
  Calls Tryz.prog 82 #[.pointer (some ⟨h,0,none⟩),.int .i64 i] W fun e w'=>e = .returned (.int .i64 (fuD E i).2) ∧ ∃ U',C2 w0 w' a g h blk vl vk T U' D (fuD E i).1 s q ∧ Fr U U' W w':=by
 refine (p.r.fuse docDev docLog i hi).mono ?_
 rintro e w' ⟨rfl,T1,q1,q2⟩
 exact ⟨rfl,T1,p.actR q1 q2,q2⟩
theorem C2.crR (p:C2 w0 W a g h blk vl vk T U D E s q) (A:Option Addr) (c:Nat) (ps:List Int) (hp:IntsAt w0 A ps) (hl:ps.length * 8 ≤ reachBytes) (hr:∀ p ∈ ps,-9223372036854775808 ≤ p ∧ p ≤ 9223372036854775807) :
  Calls Tryz.prog 83 #[.pointer (some ⟨h,0,none⟩),.slice A ps.length c] W fun e w'=>e = .returned (.tuple #[]) ∧ ∃ U',C2 w0 w' a g h blk vl vk T U' D (crD E ps) s .no ∧ Fr U U' W w':=by
 refine (p.r.crash docDev A c ps (hp.below p.bel) (fun h0 x hx hf=>?_) hl hr).mono ?_
 ·obtain ⟨ad,e1,h2,_⟩:=hp h0
  rw [e1] at hx
  cases hx
  have:=p.bU _ hf
  omega
 rintro e w' ⟨rfl,T1,q1,q2⟩
 exact ⟨rfl,T1,p.actR q1 q2,q2⟩
theorem C2.olR (p:C2 w0 W a g h blk vl vk T U D E s q) :
  Calls Tryz.prog 73 #[.pointer (some ⟨h,0,none⟩)] W fun e w'=>∃ q',e = .returned (.tuple #[ptrS q',.int .i64 (openP E).2.2]) ∧ (match (openP E).2.1 with | none=>q' = .no | some l=>∃ p,q' = .lg p l) ∧ ∃ U',C2 w0 w' a g h blk vl vk T U' D (openP E).1 s q' ∧ Fr U U' W w':=by
 refine (p.r.opl docLog).mono ?_
 rintro e w' ⟨s1,rfl,q0,T1,q1,q2⟩
 exact ⟨s1,rfl,q0,T1,p.actR q1 q2,q2⟩
theorem C2.apR {z:Nat} {l:Lg} (p:C2 w0 W a g h blk vl vk T U D E s (.lg z l)) (hi:LgIn E l) (hu:E.down = false) (t:ByteArray) (ht:t.size ≤ reachBytes) :
  Calls Tryz.prog 85 #[.pointer (some ⟨z,0,none⟩),.string t] W fun e w'=>e = .returned (.int .i64 (appendP E l t).2) ∧ ∃ U',C2 w0 w' a g h blk vl vk T U' D E s (.lg z (appendP E l t).1) ∧ Fr U U' W w':=by
 refine (Side.app docLog p.r hi hu t ht).mono ?_
 rintro e w' ⟨rfl,T1,q1,q2⟩
 exact ⟨rfl,T1,p.actR q1 q2,q2⟩
theorem C2.syR {z:Nat} {l:Lg} (p:C2 w0 W a g h blk vl vk T U D E s (.lg z l)) (hi:LgIn E l) (hu:E.down = false) :
  Calls Tryz.prog 87 #[.pointer (some ⟨z,0,none⟩)] W fun e w'=>e = .returned (.int .i64 (syncP E l).2.2) ∧ ∃ U',C2 w0 w' a g h blk vl vk T U' D (syncP E l).1 s (.lg z (syncP E l).2.1) ∧ Fr U U' W w':=by
 refine (Side.syn docLog p.r hi hu).mono ?_
 rintro e w' ⟨rfl,T1,q1,q2⟩
 exact ⟨rfl,T1,p.actR q1 q2,q2⟩
theorem C2.nxR {b z:Nat} {k:Cl} (p:C2 w0 W a g h blk vl vk T U D E s (.ck b z k)) (hi:LgIn E k.l) (hu:E.down = false) (ho:ClOk k) (hb1:1 ≤ blk) (hb2:blk ≤ 4096) :
  Calls Tryz.prog 48 #[.pointer (some ⟨b,0,none⟩)] W fun e w'=>e = .returned (.tuple #[.int .i64 (nextC E k blk).2.2.1,.int .i64 (nextC E k blk).2.2.2]) ∧ ∃ U',C2 w0 w' a g h blk vl vk T U' D (nextC E k blk).1 s (.ck b z (nextC E k blk).2.1) ∧ Fr U U' W w':=by
 obtain ⟨F,hT,h1⟩:=p.r
 refine (rnext_any h1 hi hu ho hb1 hb2).mono ?_
 rintro e w' ⟨rfl,F',q1,q2⟩
 exact ⟨rfl,_,p.actR ⟨F',rfl,q1⟩ (hT ▸ q2),hT ▸ q2⟩
theorem C2.skR {b z:Nat} {k:Cl} (p:C2 w0 W a g h blk vl vk T U D E s (.ck b z k)) (hi:LgIn E k.l) (hu:E.down = false) (ho:ClOk k) (n:Int) :
  Calls Tryz.prog 49 #[.pointer (some ⟨b,0,none⟩),.int .i64 n] W fun e w'=>e = .returned (.int .i64 (skipC E k n).2.2) ∧ ∃ U',C2 w0 w' a g h blk vl vk T U' D (skipC E k n).1 s (.ck b z (skipC E k n).2.1) ∧ Fr U U' W w':=by
 obtain ⟨F,hT,h1⟩:=p.r
 refine (rskip_any h1 hi hu ho n).mono ?_
 rintro e w' ⟨rfl,F',q1,q2⟩
 exact ⟨rfl,_,p.actR ⟨F',rfl,q1⟩ (hT ▸ q2),hT ▸ q2⟩
def Tw (s q:St):Option Cl → Prop
 | none=>s = .no ∧ q = .no
 | some k=>∃ b p b' p',s = .ck b p k ∧ q = .ck b' p' k
def Cin (blk:Int) (D:Dev) (n:Nat):Option Cl → Prop
 | none=>True
 | some k=>ClOk k ∧ 1 ≤ blk ∧ blk ≤ 4096 ∧ (D.down = false → LgIn D k.l ∧ k.l.cnt ≤ 4611686018427387904 + n)
theorem cin_open (hok:DevOk D) (n:Nat):Cin blk (openC D blk).1 n (openC D blk).2.1:=by
 cases h:(openC D blk).2.1 with
 | none=>exact trivial
 | some k =>
  have h1:=open_keeps hok h
  refine ⟨open_ok h,?_,?_,fun _=>⟨h1.1,by have:=h1.2.1;omega⟩⟩
  ·refine Int.not_lt.1 fun hb=>?_
   unfold openC at h
   rw [if_pos (.inl hb)] at h
   cases h
  ·refine Int.not_lt.1 fun hb=>?_
   unfold openC at h
   rw [if_pos (.inr hb)] at h
   cases h
theorem cin_fuse {n:Nat} {st:Option Cl} (h:Cin blk D n st) (m:Int):Cin blk (fuD D m).1 (n + 1) st:=by
 cases st with
 | none=>exact trivial
 | some k =>
  refine ⟨h.1,h.2.1,h.2.2.1,fun hd=>?_⟩
  have hd':D.down = false:=by
   unfold fuD at hd
   split at hd
   ·exact hd
   split at hd
   ·exact hd
   ·exact hd
  have:=h.2.2.2 hd'
  exact ⟨this.1.seen (fuD_len D m) (fun j _=>fuse_seen D m j),by omega⟩
theorem cin_next {n:Nat} {k:Cl} (hok:DevOk D) (h:Cin blk D n (some k)) (hd:D.down = false) (hn:n ≤ 90):Cin blk (nextC D k blk).1 (n + 1) (some (nextC D k blk).2.1):=by
 have h1:=h.2.2.2 hd
 refine ⟨next_ok h.1 h.2.1,h.2.1,h.2.2.1,fun hd2=>?_⟩
 have:=next_in hok h1.1 hd (by omega) blk hd2
 exact ⟨this.1,by omega⟩
theorem cin_skip {n:Nat} {k:Cl} (hok:DevOk D) (h:Cin blk D n (some k)) (hd:D.down = false) (hn:n ≤ 90) (m:Int):Cin blk (skipC D k m).1 (n + 1) (some (skipC D k m).2.1):=by
 have h1:=h.2.2.2 hd
 refine ⟨skip_ok h.1,h.2.1,h.2.2.1,fun hd2=>?_⟩
 have:=skip_in hok h1.1 hd (by omega) m hd2
 exact ⟨this.1,by omega⟩
theorem cin_more {n:Nat} {st:Option Cl} (h:Cin blk D n st):Cin blk D (n + 1) st:=by
 cases st with
 | none=>exact trivial
 | some k=>exact ⟨h.1,h.2.1,h.2.2.1,fun hd=>⟨(h.2.2.2 hd).1,by have:=(h.2.2.2 hd).2;omega⟩⟩
def StepPost (w0:World) (a g h:Nat) (blk:Int) (n:Nat) (e:Ending) (w':World):Prop :=
 e = .returned (.bool true) ∧ ∃ T U D s q st,C2 w0 w' a g h blk (ptrS s) (ptrS q) T U D D s q ∧ Tw s q st ∧ Cin blk D n st
end
end Ck
end Go.Proofs.YtmidncclndongaaGreat
namespace Go.Proofs.YtmidncclndongaaGreat
namespace Ck
open Go.RowKit Bk Sc Rd Rc Lt
attribute [local go_sem ↓] Go.wp_at_zero Go.wp_at_succ
attribute [local go_sem] floatUpon pick
def OpPost (w0 : World) (a g h : Nat) (blk : Int) (D : Dev) (e : Ending) (w' : World) : Prop :=
  e = .returned (.bool true) ∧ ∃ T' U' s' q', C2 w0 w' a g h blk (ptrS s') (ptrS q') T' U' (openC D blk).1 (openC D blk).1 s' q' ∧ Tw s' q' (openC D blk).2.1
section
variable {w0 w W : World} {T U : Nat → Prop} {a g h : Nat} {blk : Int} {D E : Dev} {vl vk : Value} {s q : St}
theorem bothopen_any (p : C2 w0 w a g h blk vl vk T U D D s q) :
    Calls Tryz.prog 16 #[.pointer (some ⟨a, 0, none⟩)] w (OpPost w0 a g h blk D) := by
  have HP := Lib.hid p
  have k0 := p.cel.cell (i := 0) rfl
  have k1 := p.cel.cell (i := 1) rfl
  have HL := Lib.hid (fun V (t : C2 w0 V a g h blk vl vk T U D D s q) => t.opnL)
  clear p
  go_enter Tryz.func16, Tryz.ntmps16
  go_upto_region 1 with fail
  go_region_with (first
    | (refine (HL.out _ (HP.out.below (Below.refl _ _).drew)).mono ?_
       rintro e1 w1 ⟨s1, T1, rfl, h1, -, o1⟩
       have H1 := Lib.hid h1
       have O1 := Lib.hid o1
       clear h1 o1 HL HP k0 k1))
  all_goals
    have k0 := H1.out.cel.cell (i := 0) rfl
    have k2 := H1.out.cel.cell (i := 2) rfl
    have HR := Lib.hid (fun V (t : C2 w0 V a g h blk vl vk T1 U (openC D blk).1 D s1 q) => t.opnR)
    go_upto_region 2 with fail
    go_region_with (first
      | (refine (HR.out _ (H1.out.below (Below.refl _ _).drew)).mono ?_
         rintro e2 w2 ⟨q1, U1, rfl, h2, -, o2⟩
         have H2 := Lib.hid h2
         have O2 := Lib.hid o2
         clear h2 o2 HR H1 k0 k2))
    all_goals
      have z0 := beq_self_eq_true (openC D blk).2.2
      have k3 := H2.out.cel.cell (i := 3) rfl
      have k4 := H2.out.cel.cell (i := 4) rfl
      have fr := fun i => H2.out.cel.free (i := i)
      have hc2 : Cel ((w2.setCell ⟨a, 3, none⟩ (ptrS s1)).setCell ⟨a, 4, none⟩ (ptrS q1)) a 51 [.int .i64 blk, .pointer (some ⟨g, 0, none⟩), .pointer (some ⟨h, 0, none⟩), ptrS s1, ptrS q1] := (H2.out.cel.set (i := 3) (v := ptrS s1)).set (i := 4) (v := ptrS q1)
      have HP3 := Lib.hid (H2.out.put hc2 (fun k hk => (Below.heap_setCell _ ⟨a, 4, none⟩ _ k hk).trans (Below.heap_setCell _ ⟨a, 3, none⟩ _ k hk))
        (((Below.refl w0.heap.size w2).setCell (p := ⟨a, 3, none⟩) H2.out.ba (ptrS s1)).setCell (p := ⟨a, 4, none⟩) H2.out.ba (ptrS q1)))
      clear hc2 H2
      cases hv : (openC D blk).2.1 with
      | none =>
        have e1 := O1.out
        have e2 := O2.out
        rw [hv] at e1 e2
        obtain rfl : s1 = .no := e1
        obtain rfl : q1 = .no := e2
        have HT : Hid (Tw .no .no (openC D blk).2.1) := Lib.hid (by rw [hv]; exact ⟨rfl, rfl⟩)
        clear O1 O2 hv
        generalize (openC D blk).2.2 = er at z0
        simp only [ptrS] at HP3 fr ⊢
        go_wp2_with fail
        go_ret
        exact ⟨rfl, _, _, .no, .no, HP3.out, HT.out⟩
      | some k =>
        have e1 := O1.out
        have e2 := O2.out
        rw [hv] at e1 e2
        obtain ⟨b1, p1, rfl⟩ := e1
        obtain ⟨b2, p2, rfl⟩ := e2
        have HT : Hid (Tw (.ck b1 p1 k) (.ck b2 p2 k) (openC D blk).2.1) := Lib.hid (by rw [hv]; exact ⟨_, _, _, _, rfl, rfl⟩)
        clear O1 O2 hv
        generalize (openC D blk).2.2 = er at z0
        simp only [ptrS] at HP3 fr ⊢
        go_wp2_with fail
        go_ret
        exact ⟨rfl, _, _, .ck b1 p1 k, .ck b2 p2 k, HP3.out, HT.out⟩
end
end Ck
end Go.Proofs.YtmidncclndongaaGreat
namespace Go.Proofs.YtmidncclndongaaGreat
namespace Ck
open Go.ChangeShapes Go.WideShapes Go.ChangeAt Go.RowKit Go.Joins Go.Deep Bk
section
variable {H:Type} {enc:TypeId × Value → H} {W:World}
theorem agg_weights {t:TypeId} {fs:Array Field} (hs:Tryz.prog.underlying t = some (.struct fs)) {xs:List (DataW H × List MemPlace)} {i:Nat} {f:Field} {y:DataW H × List MemPlace} (hi:fs[i]? = some f) (hy:xs[i]? = some y) (hw:∀ k ∈ (DataW.agg (xs.map (·.1))).weights Tryz.prog t,k ≤ reachBytes):∀ k ∈ y.1.weights Tryz.prog f.type,k ≤ reachBytes:=fun k hk=>hw k (by
 simp only [DataW.weights,hs]
 exact DataW.weights_mem_each (ts:=fs.toList.map (·.type)) (ds:=xs.map (·.1)) (j:=i) (by rw [List.getElem?_map,Array.getElem?_toList,hi];rfl) (by rw [List.getElem?_map,hy];rfl) k hk)
theorem field_int {t:TypeId} {v:Value} {fuel:Nat} {y:DataW H × List MemPlace} (ht:Tryz.prog.underlying t = some (.int .i64)) (hf:DataW.trod enc Tryz.prog W 0 (fun _=>true) true fuel t [v] = some y):∃ z,v = .int .i64 z ∧ -9223372036854775808 ≤ z ∧ z ≤ 9223372036854775807:=by
 obtain ⟨z,h1,_,h3⟩:=DataW.trod_int ht hf
 obtain rfl:v = .int .i64 z:=by simpa using h1
 exact ⟨z,rfl,show IntKind.i64.min ≤ z ∧ z ≤ 9223372036854775807 by simpa [Lit.wf] using h3⟩
theorem field_bool {t:TypeId} {v:Value} {fuel:Nat} {y:DataW H × List MemPlace} (ht:Tryz.prog.underlying t = some .bool) (hf:DataW.trod enc Tryz.prog W 0 (fun _=>true) true fuel t [v] = some y):∃ b,v = .bool b:=by
 obtain ⟨b,h1,_⟩:=DataW.trod_bool ht hf
 exact ⟨b,by simpa using h1⟩
theorem field_text {t:TypeId} {v:Value} {fuel:Nat} {y:DataW H × List MemPlace} (ht:Tryz.prog.underlying t = some .string) (hf:DataW.trod enc Tryz.prog W 0 (fun _=>true) true fuel t [v] = some y) (hw:∀ k ∈ y.1.weights Tryz.prog t,k ≤ reachBytes):∃ s:ByteArray,v = .string s ∧ s.size ≤ reachBytes:=by
 obtain ⟨s,h1,rfl,_⟩:=DataW.trod_string ht hf
 obtain rfl:v = .string s:=by simpa using h1
 exact ⟨s,rfl,by
  have:=hw s.data.toList.length (by simp [DataW.weights])
  rwa [Array.length_toList] at this⟩
theorem weights_at {e t:TypeId} {d:DataW H} {ds sp:List (DataW H)} (ht:Tryz.prog.underlying t = some (.slice e)) (hm:d ∈ ds) (hwt:∀ k ∈ (DataW.slice ds sp).weights Tryz.prog t,k ≤ reachBytes):∀ k ∈ d.weights Tryz.prog e,k ≤ reachBytes:=fun k hk=>hwt k (by
 simp only [DataW.weights,ht,List.mem_cons,List.mem_append]
 refine .inr (.inl ?_)
 have:∀ (l:List (DataW H)),d ∈ l → k ∈ DataW.weightsAll Tryz.prog e l:=by
  intro l
  induction l with
  | nil=>intro h;simp at h
  | cons x r ih =>
   intro h
   show k ∈ x.weights Tryz.prog e ++ DataW.weightsAll Tryz.prog e r
   rw [List.mem_append]
   rcases List.mem_cons.1 h with rfl | h
   ·exact .inl hk
   ·exact .inr (ih h)
 exact this _ hm)
end
structure GoI where
 many:Int
 fuse:Int
 psA:Option Addr
 psc:Nat
 ps:List Int
instance:Inhabited GoI:=⟨⟨0,0,none,0,[]⟩⟩
structure GoIOk (w:World) (X:GoI):Prop where
 rmany:-9223372036854775808 ≤ X.many ∧ X.many ≤ 9223372036854775807
 rfuse:-9223372036854775808 ≤ X.fuse ∧ X.fuse ≤ 9223372036854775807
 aps:IntsAt w X.psA X.ps
 lps:X.ps.length * 8 ≤ reachBytes
 rps:∀ n ∈ X.ps,-9223372036854775808 ≤ n ∧ n ≤ 9223372036854775807
def gosAt (w:World) (A:Option Addr) (L:List GoI):Prop :=
 0 < L.length → ∃ ad,A = some ad ∧ ad.block < w.heap.size ∧ ∀ i (h:i < L.length),w.cell? (ad.add (i * 3)) = some (.int .i64 L[i].many) ∧ w.cell? (ad.add (i * 3 + 1)) = some (.int .i64 L[i].fuse) ∧ w.cell? (ad.add (i * 3 + 2)) = some (.slice L[i].psA L[i].ps.length L[i].psc)
def gosOf (w:World) (v:Value) (L:List GoI):Prop :=
 ∃ (A:Option Addr) (c:Nat),v = .slice A L.length c ∧ gosAt w A L ∧ L.length * 16 ≤ reachBytes ∧ ∀ x ∈ L,GoIOk w x
section
variable {H:Type} {enc:TypeId × Value → H} {W:World}
theorem field_gos {t e:TypeId} {f0 f1 f2:Field} {v:Value} {fuel:Nat} {y:DataW H × List MemPlace} (ht:Tryz.prog.underlying t = some (.slice e)) (he:Tryz.prog.underlying e = some (.struct #[f0,f1,f2])) (ce:Tryz.prog.cellsOf e = 3) (hone:oneCellFields Tryz.prog #[f0,f1,f2] = true)
  (t0:Tryz.prog.underlying f0.type = some (.int .i64)) (t1:Tryz.prog.underlying f1.type = some (.int .i64)) (t2:Tryz.prog.underlying f2.type = some (.slice 3)) (ti:Tryz.prog.underlying 3 = some (.int .i64)) (ci:Tryz.prog.cellsOf 3 = 1) (bi:Tryz.prog.bytesOf 3 = 8) (hb16:16 ≤ Tryz.prog.bytesOf e)
  (hf:DataW.trod enc Tryz.prog W 0 (fun _=>true) true fuel t [v] = some y) (hwt:∀ k ∈ y.1.weights Tryz.prog t,k ≤ reachBytes) (hl:∀ x ∈ y.2,x.block < W.heap.size) :
  ∃ L,gosOf W v L:=by
 rcases open_slice ht hf with ⟨hcs,_⟩ | ⟨a,len,cap,m,n,D,Pl,hcs,_,hl',hm,hmm,hx,hall⟩
 ·obtain rfl:v = .slice none 0 0:=by simpa using hcs
  exact ⟨[],none,0,rfl,fun h=>absurd h (by simp),by simp,by simp⟩
 ·obtain rfl:v = .slice (some a) len cap:=by simpa using hcs
  subst hx
  simp only [if_true] at hmm
  subst hmm
  have each:∀ i,i < len → ∃ q:GoI,(W.cell? (a.add (i * 3)) = some (.int .i64 q.many) ∧ W.cell? (a.add (i * 3 + 1)) = some (.int .i64 q.fuse) ∧ W.cell? (a.add (i * 3 + 2)) = some (.slice q.psA q.ps.length q.psc)) ∧ GoIOk W q:=by
   intro i hi
   obtain ⟨cs',h1,h2⟩:=hall i (by omega)
   rw [ce] at h1
   obtain ⟨_,hlen,hcell⟩:=World.cells?_some h1
   have hwi:∀ k ∈ (D i).weights Tryz.prog e,k ≤ reachBytes:=weights_at ht (List.mem_map.2 ⟨i,List.mem_range.2 hi,rfl⟩) hwt
   obtain ⟨xs,k,_,hxy,_,hxl,hff⟩:=DataW.trod_struct he h2
   obtain ⟨o0,c0⟩:=hone_of hone 0 f0 rfl
   obtain ⟨o1,c1⟩:=hone_of hone 1 f1 rfl
   obtain ⟨o2,c2⟩:=hone_of hone 2 f2 rfl
   match xs,hxl,cs',hlen with
   | [y0,y1,y2],_,[v0,v1,v2],_ =>
    have g0:=hff 0 f0 rfl
    have g1:=hff 1 f1 rfl
    have g2:=hff 2 f2 rfl
    simp [o0,o1,o2,c0,c1,c2] at g0 g1 g2
    simp only [Prod.mk.injEq] at hxy
    rw [hxy.1] at hwi
    obtain ⟨z0,rfl,r0⟩:=field_int t0 g0
    obtain ⟨z1,rfl,r1⟩:=field_int t1 g1
    have hpl:∀ x ∈ y2.2,x.block < W.heap.size:=fun x hx=>hl x (by
     refine List.mem_append_right _ (List.mem_flatMap.2 ⟨i,List.mem_range.2 (by omega),?_⟩)
     rw [hxy.2]
     exact List.mem_flatMap.2 ⟨y2,by simp,hx⟩)
    obtain ⟨A,c,L,rfl,q1,q2,q3,q4,q5,q6⟩:=field_ints t2 ti ci bi g2 (agg_weights (i:=2) he rfl rfl hwi) hpl
    have e0:=hcell 0 (by omega)
    have e1:=hcell 1 (by omega)
    have e2:=hcell 2 (by omega)
    rw [add_add] at e0 e1 e2
    exact ⟨⟨z0,z1,A,c,L⟩,⟨by simpa using e0,by simpa using e1,by simpa using e2⟩,⟨r0,r1,q1,q2,q5⟩⟩
  obtain ⟨q,hq⟩:=choose_lt each
  have hL:((List.range len).map q).length = len:=by simp
  have hat:∀ i (h:i < ((List.range len).map q).length),((List.range len).map q)[i] = q i:=fun i h=>by simp
  have hs:=hwt ((((List.range len).map D).length + ((List.range (m - len)).map fun j=>D (len + j)).length) * Tryz.prog.bytesOf e) (by simp [DataW.weights,ht])
  refine ⟨(List.range len).map q,some a,m,by rw [hL],fun hpos=>⟨a,rfl,?_,fun i hi=>?_⟩,?_,fun x hx=>?_⟩
  ·obtain ⟨b,off,spot⟩:=a
   rw [hL] at hpos
   exact hl (.cell b off) (List.mem_append_left _ (MemPlace.mem_row.2 ⟨0,by rw [ce];omega,by simp⟩))
  ·rw [hat i hi]
   exact (hq i (by rw [hL] at hi;exact hi)).1
  ·rw [hL]
   refine Nat.le_trans (Nat.mul_le_mul ?_ hb16) hs
   rw [List.length_map,List.length_range]
   omega
  ·obtain ⟨i,hi,rfl⟩:=List.mem_map.1 hx
   exact (hq i (List.mem_range.1 hi)).2
theorem open_gos {base:Nat} {v:Value} {d:DataW H} {p:List MemPlace} {ts:List TypeId} {ds:List (DataW H)} {j:Nat}
  (hsz:(DataW.weightsEach Tryz.prog ts ds).all (· ≤ reachBytes) = true) (hj:ts[j]? = some 66) (hd:ds[j]? = some d)
  (hv:Value.okWide Tryz.prog W .any base 66 v) (h:DataW.Trod enc Tryz.prog W 0 (fun _=>true) true 66 v d p) (hl:∀ x ∈ p,x.block < W.heap.size):∃ L,gosOf W v L:=by
 obtain ⟨a0,len,cap,rfl⟩:=okWide_slice Tryz.underlying66 hv
 obtain ⟨fuel,hf⟩:=h
 exact field_gos Tryz.underlying66 Tryz.underlying70 (by kernel_rfl) (by kernel_rfl) Tryz.underlying3 Tryz.underlying3 Tryz.underlying41 Tryz.underlying3 (by kernel_rfl) (by kernel_rfl) (of_decide_eq_true (by kernel_rfl)) hf (arg_weights hsz hj hd) hl
end
structure AI where
 kind:Int
 n:Int
 far:Bool
 text:ByteArray
 psA:Option Addr
 psc:Nat
 ps:List Int
instance:Inhabited AI:=⟨⟨0,0,false,⟨#[]⟩,none,0,[]⟩⟩
structure AIOk (w:World) (X:AI):Prop where
 rkind:-9223372036854775808 ≤ X.kind ∧ X.kind ≤ 9223372036854775807
 rn:-9223372036854775808 ≤ X.n ∧ X.n ≤ 9223372036854775807
 rtext:X.text.size ≤ reachBytes
 aps:IntsAt w X.psA X.ps
 lps:X.ps.length * 8 ≤ reachBytes
 rps:∀ n ∈ X.ps,-9223372036854775808 ≤ n ∧ n ≤ 9223372036854775807
def actsAt (w:World) (A:Option Addr) (L:List AI):Prop :=
 0 < L.length → ∃ ad,A = some ad ∧ ad.block < w.heap.size ∧ ∀ i (h:i < L.length),w.cell? (ad.add (i * 5)) = some (.int .i64 L[i].kind) ∧ w.cell? (ad.add (i * 5 + 1)) = some (.int .i64 L[i].n) ∧ w.cell? (ad.add (i * 5 + 2)) = some (.bool L[i].far) ∧ w.cell? (ad.add (i * 5 + 3)) = some (.string L[i].text) ∧ w.cell? (ad.add (i * 5 + 4)) = some (.slice L[i].psA L[i].ps.length L[i].psc)
def actsOf (w:World) (v:Value) (L:List AI):Prop :=
 ∃ (A:Option Addr) (c:Nat),v = .slice A L.length c ∧ actsAt w A L ∧ L.length * 16 ≤ reachBytes ∧ ∀ x ∈ L,AIOk w x
section
variable {H:Type} {enc:TypeId × Value → H} {W:World}
theorem field_acts {t e:TypeId} {f0 f1 f2 f3 f4:Field} {v:Value} {fuel:Nat} {y:DataW H × List MemPlace} (ht:Tryz.prog.underlying t = some (.slice e)) (he:Tryz.prog.underlying e = some (.struct #[f0,f1,f2,f3,f4])) (ce:Tryz.prog.cellsOf e = 5) (hone:oneCellFields Tryz.prog #[f0,f1,f2,f3,f4] = true)
  (t0:Tryz.prog.underlying f0.type = some (.int .i64)) (t1:Tryz.prog.underlying f1.type = some (.int .i64)) (t2:Tryz.prog.underlying f2.type = some .bool) (t3:Tryz.prog.underlying f3.type = some .string) (t4:Tryz.prog.underlying f4.type = some (.slice 3)) (ti:Tryz.prog.underlying 3 = some (.int .i64)) (ci:Tryz.prog.cellsOf 3 = 1) (bi:Tryz.prog.bytesOf 3 = 8) (hb16:16 ≤ Tryz.prog.bytesOf e)
  (hf:DataW.trod enc Tryz.prog W 0 (fun _=>true) true fuel t [v] = some y) (hwt:∀ k ∈ y.1.weights Tryz.prog t,k ≤ reachBytes) (hl:∀ x ∈ y.2,x.block < W.heap.size) :
  ∃ L,actsOf W v L:=by
 rcases open_slice ht hf with ⟨hcs,_⟩ | ⟨a,len,cap,m,n,D,Pl,hcs,_,hl',hm,hmm,hx,hall⟩
 ·obtain rfl:v = .slice none 0 0:=by simpa using hcs
  exact ⟨[],none,0,rfl,fun h=>absurd h (by simp),by simp,by simp⟩
 ·obtain rfl:v = .slice (some a) len cap:=by simpa using hcs
  subst hx
  simp only [if_true] at hmm
  subst hmm
  have each:∀ i,i < len → ∃ q:AI,(W.cell? (a.add (i * 5)) = some (.int .i64 q.kind) ∧ W.cell? (a.add (i * 5 + 1)) = some (.int .i64 q.n) ∧ W.cell? (a.add (i * 5 + 2)) = some (.bool q.far) ∧ W.cell? (a.add (i * 5 + 3)) = some (.string q.text) ∧ W.cell? (a.add (i * 5 + 4)) = some (.slice q.psA q.ps.length q.psc)) ∧ AIOk W q:=by
   intro i hi
   obtain ⟨cs',h1,h2⟩:=hall i (by omega)
   rw [ce] at h1
   obtain ⟨_,hlen,hcell⟩:=World.cells?_some h1
   have hwi:∀ k ∈ (D i).weights Tryz.prog e,k ≤ reachBytes:=weights_at ht (List.mem_map.2 ⟨i,List.mem_range.2 hi,rfl⟩) hwt
   obtain ⟨xs,k,_,hxy,_,hxl,hff⟩:=DataW.trod_struct he h2
   obtain ⟨o0,c0⟩:=hone_of hone 0 f0 rfl
   obtain ⟨o1,c1⟩:=hone_of hone 1 f1 rfl
   obtain ⟨o2,c2⟩:=hone_of hone 2 f2 rfl
   obtain ⟨o3,c3⟩:=hone_of hone 3 f3 rfl
   obtain ⟨o4,c4⟩:=hone_of hone 4 f4 rfl
   match xs,hxl,cs',hlen with
   | [y0,y1,y2,y3,y4],_,[v0,v1,v2,v3,v4],_ =>
    have g0:=hff 0 f0 rfl
    have g1:=hff 1 f1 rfl
    have g2:=hff 2 f2 rfl
    have g3:=hff 3 f3 rfl
    have g4:=hff 4 f4 rfl
    simp [o0,o1,o2,o3,o4,c0,c1,c2,c3,c4] at g0 g1 g2 g3 g4
    simp only [Prod.mk.injEq] at hxy
    rw [hxy.1] at hwi
    obtain ⟨z0,rfl,r0⟩:=field_int t0 g0
    obtain ⟨z1,rfl,r1⟩:=field_int t1 g1
    obtain ⟨z2,rfl⟩:=field_bool t2 g2
    obtain ⟨z3,rfl,r3⟩:=field_text t3 g3 (agg_weights (i:=3) he rfl rfl hwi)
    have hpl:∀ x ∈ y4.2,x.block < W.heap.size:=fun x hx=>hl x (by
     refine List.mem_append_right _ (List.mem_flatMap.2 ⟨i,List.mem_range.2 (by omega),?_⟩)
     rw [hxy.2]
     exact List.mem_flatMap.2 ⟨y4,by simp,hx⟩)
    obtain ⟨A,c,L,rfl,q1,q2,q3,q4,q5,q6⟩:=field_ints t4 ti ci bi g4 (agg_weights (i:=4) he rfl rfl hwi) hpl
    have e0:=hcell 0 (by omega)
    have e1:=hcell 1 (by omega)
    have e2:=hcell 2 (by omega)
    have e3:=hcell 3 (by omega)
    have e4:=hcell 4 (by omega)
    rw [add_add] at e0 e1 e2 e3 e4
    exact ⟨⟨z0,z1,z2,z3,A,c,L⟩,⟨by simpa using e0,by simpa using e1,by simpa using e2,by simpa using e3,by simpa using e4⟩,⟨r0,r1,r3,q1,q2,q5⟩⟩
  obtain ⟨q,hq⟩:=choose_lt each
  have hL:((List.range len).map q).length = len:=by simp
  have hat:∀ i (h:i < ((List.range len).map q).length),((List.range len).map q)[i] = q i:=fun i h=>by simp
  have hs:=hwt ((((List.range len).map D).length + ((List.range (m - len)).map fun j=>D (len + j)).length) * Tryz.prog.bytesOf e) (by simp [DataW.weights,ht])
  refine ⟨(List.range len).map q,some a,m,by rw [hL],fun hpos=>⟨a,rfl,?_,fun i hi=>?_⟩,?_,fun x hx=>?_⟩
  ·obtain ⟨b,off,spot⟩:=a
   rw [hL] at hpos
   exact hl (.cell b off) (List.mem_append_left _ (MemPlace.mem_row.2 ⟨0,by rw [ce];omega,by simp⟩))
  ·rw [hat i hi]
   exact (hq i (by rw [hL] at hi;exact hi)).1
  ·rw [hL]
   refine Nat.le_trans (Nat.mul_le_mul ?_ hb16) hs
   rw [List.length_map,List.length_range]
   omega
  ·obtain ⟨i,hi,rfl⟩:=List.mem_map.1 hx
   exact (hq i (List.mem_range.1 hi)).2
theorem open_acts {base:Nat} {v:Value} {d:DataW H} {p:List MemPlace} {ts:List TypeId} {ds:List (DataW H)} {j:Nat}
  (hsz:(DataW.weightsEach Tryz.prog ts ds).all (· ≤ reachBytes) = true) (hj:ts[j]? = some 46) (hd:ds[j]? = some d)
  (hv:Value.okWide Tryz.prog W .any base 46 v) (h:DataW.Trod enc Tryz.prog W 0 (fun _=>true) true 46 v d p) (hl:∀ x ∈ p,x.block < W.heap.size):∃ L,actsOf W v L:=by
 obtain ⟨a0,len,cap,rfl⟩:=okWide_slice Tryz.underlying46 hv
 obtain ⟨fuel,hf⟩:=h
 exact field_acts Tryz.underlying46 Tryz.underlying54 (by kernel_rfl) (by kernel_rfl) Tryz.underlying3 Tryz.underlying3 Tryz.underlying4 Tryz.underlying9 Tryz.underlying41 Tryz.underlying3 (by kernel_rfl) (by kernel_rfl) (of_decide_eq_true (by kernel_rfl)) hf (arg_weights hsz hj hd) hl
end
end Ck
end Go.Proofs.YtmidncclndongaaGreat
