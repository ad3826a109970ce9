/- Parts of the proof, joined: CkLoad, CkNext, RdOpen; their conditions stand with each. -/
import Derived.Test.YtmidncclndongaaGreatC9
import Derived.Test.YtmidncclndongaaGreatC11
import Derived.Test.YtmidncclndongaaGreatC25
import Derived.Test.YtmidncclndongaaGreatC26

set_option maxRecDepth 20000
set_option maxHeartbeats 8000000
namespace Go.Proofs.YtmidncclndongaaGreat
namespace Ck
open Go.RowKit Bk Sc Rd Rc Lt
attribute [local go_sem ↓] Go.wp_at_zero Go.wp_at_succ
attribute [local go_sem] floatUpon pick
def LbPost (ts:List ByteArray) (w:World) (e:Ending) (w':World):Prop :=
 ((∃ n,loadC ts 0 = some n ∧ e = .returned (.tuple #[.int .i64 n,.bool true])) ∨ (loadC ts 0 = none ∧ e = .returned (.tuple #[.int .i64 0,.bool false]))) ∧ Below w.heap.size w w'
theorem load_take {ts:List ByteArray} {j:Nat} (h:loadC (ts.take j) 0 = none):loadC ts 0 = none:=by
 have:=load_app (ts.take j) (ts.drop j) 0
 rw [List.take_append_drop,h] at this
 exact this
theorem lbound_any (A:Option Addr) (c:Nat) (ts:List ByteArray) (w:World) (hA:StrsAt w A ts) (hs:∀ t ∈ ts,t.size ≤ 4096) (hn:ts.length ≤ 1000000) :
  Calls Tryz.prog 52 #[.slice A ts.length c] w (LbPost ts w):=by
 have HA:=Lib.hid (fun V (hb:Below w.heap.size w V)=>hA.below hb)
 have HSm:=Lib.hid hs
 have hln:(ts.length:Int) ≤ 1000000:=by omega
 clear hA hs
 go_enter Tryz.func52,Tryz.ntmps52
 go_wp2_with fail
 go_loopw [4,11] (fun bv iv wr=>∃ (j:Nat) (n:Int),j ≤ ts.length ∧ iv = .int .i64 (j:Int) ∧ bv = .int .i64 n ∧ Hid (loadC (ts.take j) 0 = some n) ∧ Hid (Below w.heap.size w wr)) (fun _ iv _=>ts.length - (RowKit.intOf iv).toNat)
 case atStart=>exact ⟨0,0,Nat.zero_le _,rfl,rfl,Lib.hid rfl,Lib.hid (Below.refl _ _)⟩
 case round =>
  obtain ⟨j,n,hj,rfl,rfl,hX,hbl⟩:=hrel
  by_cases hlt:j < ts.length
  ·have pj:(j:Int) < (ts.length:Int):=by omega
   obtain ⟨ad,rfl,-,hcl⟩:=HA.out _ hbl.out (by omega)
   have x0:=hcl j hlt
   have hmem:=List.getElem_mem hlt
   have hsz:=HSm.out _ hmem
   have HTk:=Lib.hid (show ts.take (j + 1) = ts.take j ++ [ts[j]] from List.take_succ_eq_append_getElem hlt)
   generalize ts[j] = t at x0 hsz HTk
   have HDc:=Lib.hid (Rc.ldecode_any t wr (by omega))
   have HSn:=Lib.hid (load_snoc (t:=t) hX.out)
   rw [← HTk.out] at HSn
   clear hcl hmem hsz
   go_wp2_with fail
   refine HDc.out.mono ?_
   rintro e2 w2 ⟨A2,B2,c2,d2,rfl,-,hb⟩
   have HB:=Lib.hid (hbl.out.trans (hb.mono hbl.out.size))
   obtain ⟨r,code,hrc⟩:∃ r code,Rc.decX t = (r,code):=⟨_,_,rfl⟩
   rw [hrc] at HSn ⊢
   simp only at HSn ⊢
   clear hb HDc x0 hrc hbl
   unfold recV
   have hal:Below w2.heap.size w2 (w2.alloc (.cells #[.int .i64 r.kind,.int .i64 r.txn,.int .i64 r.ts,.int .i64 r.coord,.string r.key,.string r.text,.bool r.dead,.slice A2 r.keys.length c2,.slice B2 r.ws.length d2] 39)):=(Below.refl _ w2).alloc (Nat.le_refl _) _
   have hr3:Cel (w2.alloc (.cells #[.int .i64 r.kind,.int .i64 r.txn,.int .i64 r.ts,.int .i64 r.coord,.string r.key,.string r.text,.bool r.dead,.slice A2 r.keys.length c2,.slice B2 r.ws.length d2] 39)) w2.heap.size 39 [.int .i64 r.kind,.int .i64 r.txn,.int .i64 r.ts,.int .i64 r.coord,.string r.key,.string r.text,.bool r.dead,.slice A2 r.keys.length c2,.slice B2 r.ws.length d2]:=(blk1 w2 _).2
   have HB3:=Lib.hid (HB.out.trans (hal.mono HB.out.size))
   go_upto_region 6 with fail
   generalize w2.alloc (.cells #[.int .i64 r.kind,.int .i64 r.txn,.int .i64 r.ts,.int .i64 r.coord,.string r.key,.string r.text,.bool r.dead,.slice A2 r.keys.length c2,.slice B2 r.ws.length d2] 39) = W3 at hr3 HB3 ⊢
   have q0:=hr3.cell (i:=0) rfl
   have q2:=hr3.cell (i:=2) rfl
   generalize w2.heap.size = ab at q0 q2 ⊢
   clear hal hr3 HB
   by_cases c0:code = 0
   case neg =>
    have z:((code:Int) != 0) = true:=by simpa using c0
    have HF:=Lib.hid (load_take (by rw [HSn.out];exact if_neg (fun q=>c0 q.1):loadC (ts.take (j + 1)) 0 = none))
    clear c0
    go_wp2_with fail
    go_ret2
    exact ⟨.inr ⟨HF.out,rfl⟩,HB3.out⟩
   subst c0
   have z0:(((0:Nat):Int) != 0) = false:=by simp
   by_cases c1:r.kind = 7
   case neg =>
    have z1:(r.kind != 7) = true:=by simpa using c1
    have HF:=Lib.hid (load_take (by rw [HSn.out];exact if_neg (fun q=>c1 q.2.1):loadC (ts.take (j + 1)) 0 = none))
    clear c1
    go_wp2_with fail
    go_ret2
    exact ⟨.inr ⟨HF.out,rfl⟩,HB3.out⟩
   have z1:(r.kind != 7) = false:=by simpa using c1
   by_cases c2:n < r.ts
   case neg =>
    have z2:r.ts ≤ n:=by omega
    have HF:=Lib.hid (load_take (by rw [HSn.out];exact if_neg (fun q=>c2 q.2.2):loadC (ts.take (j + 1)) 0 = none))
    clear c1 c2
    go_wp2_with fail
    go_ret2
    exact ⟨.inr ⟨HF.out,rfl⟩,HB3.out⟩
   have z2:¬ r.ts ≤ n:=by omega
   have HX2:=Lib.hid (show loadC (ts.take (j + 1)) 0 = some r.ts by rw [HSn.out];exact if_pos ⟨rfl,c1,c2⟩)
   clear c1 c2
   go_wp2_with fail
   go_roundw
   case rel=>exact ⟨j + 1,r.ts,by omega,by go_num,rfl,HX2,HB3⟩
   case measure=>simp [RowKit.intOf];omega
  ·obtain rfl:j = ts.length:=by omega
   have hx:=hX.out
   rw [List.take_length] at hx
   have HX3:=Lib.hid hx
   clear hx hX
   go_wp2_with fail
   go_ret2
   exact ⟨.inl ⟨n,HX3.out,rfl⟩,hbl.out⟩
section
variable {w W:World} {F:Nat → Prop} {g:Nat} {D:Dev}
theorem openC_rng {blk:Int} (h:blk < 1 ∨ 4096 < blk):openC D blk = (D,none,1):=by unfold openC;exact if_pos h
theorem openC_no {blk:Int} (h:¬ (blk < 1 ∨ 4096 < blk)) (h1:(openP D).2.1 = none):openC D blk = ((openP D).1,none,(openP D).2.2):=by unfold openC;rw [if_neg h,h1]
theorem openC_bad {blk:Int} {l:Lg} (h:¬ (blk < 1 ∨ 4096 < blk)) (h1:(openP D).2.1 = some l) (h2:loadC l.ts 0 = none):openC D blk = ((openP D).1,none,101):=by unfold openC;rw [if_neg h,h1];simp only [h2]
theorem openC_ok {blk n:Int} {l:Lg} (h:¬ (blk < 1 ∨ 4096 < blk)) (h1:(openP D).2.1 = some l) (h2:loadC l.ts 0 = some n):openC D blk = ((openP D).1,some ⟨l,n,n⟩,0):=by unfold openC;rw [if_neg h,h1];simp only [h2]
theorem lopen_any (o:Option (Nat × Lg)) (h:Side Sc.Rep Rd.LRep w F g D o) (blk:Int) :
  Calls Tryz.prog 22 #[.pointer (some ⟨g,0,none⟩),.int .i64 blk] w (OPost Sc.Rep Rd.LRep 115 w F g blk (openC D blk)):=by
 by_cases hblk:blk < 1 ∨ 4096 < blk
 ·have HE:=Lib.hid (openC_rng (D:=D) hblk)
  obtain ⟨F',q1,q2⟩:=side_none h
  have HS:=Lib.hid (And.intro q1 q2)
  have HFr:=Lib.hid (fr_less (Fr.refl F w) q1)
  clear h q1 q2
  rcases hblk with hb | hb
  ·go_enter Tryz.func22,Tryz.ntmps22
   go_wp2_with fail
   go_ret2
   rw [HE.out]
   exact .inr ⟨rfl,(by decide:(1:Int) ≠ 0),rfl,F',HS.out.2,HFr.out⟩
  ·have hb1:¬ blk < 1:=by omega
   go_enter Tryz.func22,Tryz.ntmps22
   go_wp2_with fail
   go_ret2
   rw [HE.out]
   exact .inr ⟨rfl,(by decide:(1:Int) ≠ 0),rfl,F',HS.out.2,HFr.out⟩
 have b1:¬ blk < 1:=fun q=>hblk (.inl q)
 have b2:¬ 4096 < blk:=fun q=>hblk (.inr q)
 have HO:=Lib.hid (Side.opn logF h)
 have hok:=h.ok (devF_of devBase)
 have HIn:=Lib.hid (fun l (hl:(openP D).2.1 = some l)=>open_in hok hl)
 have HNo:=Lib.hid (fun (hl:(openP D).2.1 = none)=>And.intro (open_no hl) (openC_no hblk hl))
 have HBad:=Lib.hid (fun l (hl:(openP D).2.1 = some l) (h2:loadC l.ts 0 = none)=>openC_bad hblk hl h2)
 have HGood:=Lib.hid (fun l n (hl:(openP D).2.1 = some l) (h2:loadC l.ts 0 = some n)=>openC_ok hblk hl h2)
 clear h hok hblk
 go_enter Tryz.func22,Tryz.ntmps22
 go_wp2_with fail
 refine HO.out.mono ?_
 rintro e1 w1 ⟨o1,rfl,ho,F1,h1,hf1⟩
 have H1:=Lib.hid h1
 have HF1:=Lib.hid hf1
 clear h1 hf1 HO
 generalize openP D = R at H1 ho HIn HNo HBad HGood ⊢
 obtain ⟨D1,ol,er⟩:=R
 simp only at H1 ho HIn HNo HBad HGood ⊢
 cases o1 with
 | none =>
  subst ho
  have z:(er != 0) = true:=by simpa using (HNo.out rfl).1
  have HE:=Lib.hid (HNo.out rfl)
  clear HNo HBad HGood HIn
  unfold ptrV
  go_wp2_with fail
  go_ret2
  rw [HE.out.2]
  exact .inr ⟨rfl,HE.out.1,rfl,F1,H1.out,HF1.out⟩
 | some q =>
  obtain ⟨p,l⟩:=q
  subst ho
  have hz:=(HIn.out l rfl).2.2.2
  subst hz
  have HB:=Lib.hid (HBad.out l rfl)
  have HG:=Lib.hid (fun n=>HGood.out l n rfl)
  have HL:=Lib.hid (HIn.out l rfl).1
  have HTx:=Lib.hid (show Hid (Calls Tryz.prog 53 #[.pointer (some ⟨p,0,none⟩)] w1 fun e w'=>∃ v,e = .returned v ∧ w'.ownsRow w1.heap.size 9 1 v l.ts.length (strV l.ts) ∧ Below w1.heap.size w1 w') from Lib.hid (by
   obtain ⟨Fd,Fl,-,-,⟨A,B,-,hL⟩,-⟩:=H1.out
   exact ltexts_any hL (by have:=HL.out.ok.many;omega) (fun t ht=>by have:=HL.out.small t ht;omega)))
  clear HNo HBad HGood HIn
  unfold ptrV
  go_wp2_with fail
  refine HTx.out.out.mono ?_
  rintro e2 w2 ⟨v,rfl,hv,hb2⟩
  obtain ⟨A,c,rfl,hA,-,-⟩:=strs_own_new hv rfl
  have HD:=Lib.hid (lbound_any A c l.ts w2 hA HL.out.small HL.out.ok.many)
  have HB2:=Lib.hid hb2
  clear hv hb2 hA HTx HL
  go_wp2_with fail
  refine HD.out.mono ?_
  rintro e3 w3 ⟨⟨n,hn,rfl⟩ | ⟨hn,rfl⟩,hb3⟩
  case inr =>
   have HE:=Lib.hid (HB.out hn)
   have HB3:=Lib.hid (HB2.out.trans (hb3.mono HB2.out.size))
   clear hn hb3 HB HG HD HB2
   go_wp2_with fail
   go_ret2
   rw [HE.out]
   obtain ⟨F',q1,q2⟩:=side_none (H1.out.kept (devF_of devBase) logF (fun k hk=>HB3.out.block k (H1.out.lt (devF_of devBase) logF k hk)))
   exact .inr ⟨rfl,(by decide:(101:Int) ≠ 0),rfl,F',q2,fr_less (fr_below HF1.out HB3.out) q1⟩
  have HE:=Lib.hid (HG.out n hn)
  have HB3:=Lib.hid (HB2.out.trans (hb3.mono HB2.out.size))
  have hr5:Cel (w3.alloc (.cells #[.pointer (some ⟨p,0,none⟩),.int .i64 blk,.int .i64 n,.int .i64 n] 115)) w3.heap.size 115 [.pointer (some ⟨p,0,none⟩),.int .i64 blk,.int .i64 n,.int .i64 n]:=(blk1 w3 _).2
  have hb5:Below w3.heap.size w3 (w3.alloc (.cells #[.pointer (some ⟨p,0,none⟩),.int .i64 blk,.int .i64 n,.int .i64 n] 115)):=(Below.refl _ w3).alloc (Nat.le_refl _) _
  clear hn hb3 HB HG HD HB2
  go_wp2_with fail
  go_ret2
  generalize w3.alloc (.cells #[.pointer (some ⟨p,0,none⟩),.int .i64 blk,.int .i64 n,.int .i64 n] 115) = W5 at hr5 hb5 ⊢
  rw [HE.out]
  have hB5:=HB3.out.trans (hb5.mono HB3.out.size)
  have hlt1:=H1.out.lt (devF_of devBase) logF
  have hz3:=HB3.out.size
  refine .inl ⟨⟨l,n,n⟩,rfl,rfl,F1,w3.heap.size,p,rfl,⟨H1.out.kept (devF_of devBase) logF (fun k hk=>hB5.block k (hlt1 k hk)),hr5,fun hk=>?_⟩,?_⟩
  ·have:=hlt1 _ hk;omega
  ·exact ⟨hB5.os.trans HF1.out.os,hB5.tape.trans HF1.out.tape,hB5.output.trans HF1.out.output,Nat.le_trans HF1.out.size hB5.size,fun k hk hn=>(hB5.block k (Nat.lt_of_lt_of_le hk HF1.out.size)).trans (HF1.out.block k hk hn),fun k hk=>by
    have:=HF1.out.size
    rcases hk with hk | hk
    ·exact HF1.out.foot k hk
    ·exact .inr (by omega)⟩
end
section
variable {w W : World} {F : Nat → Prop} {b g p : Nat} {D : Dev} {blk : Int} {k : Cl}
theorem llast_any (h : LC w F b g p D blk k) : Calls Tryz.prog 18 #[.pointer (some ⟨b, 0, none⟩)] w fun e w' => e = .returned (.int .i64 k.last) ∧ w' = w := by
  have s2 := h.cel.cell (i := 2) rfl
  clear h
  go_enter Tryz.func18, Tryz.ntmps18
  go_wp2_with fail
  go_ret
  exact ⟨rfl, rfl⟩
theorem lboundm_any (h : LC w F b g p D blk k) : Calls Tryz.prog 19 #[.pointer (some ⟨b, 0, none⟩)] w fun e w' => e = .returned (.int .i64 k.bound) ∧ w' = w := by
  have s3 := h.cel.cell (i := 3) rfl
  clear h
  go_enter Tryz.func19, Tryz.ntmps19
  go_wp2_with fail
  go_ret
  exact ⟨rfl, rfl⟩
theorem LC.drew (h : LC w F b g p D blk k) (n : Nat) : LC (w.drewN n) F b g p D blk k := h.below (devF_of devBase) logF (below_drewN (Below.refl _ w) n)
theorem lnext_any (h : LC w F b g p D blk k) (hi : LgIn D k.l) (hu : D.down = false) (ho : ClOk k) (hb1 : 1 ≤ blk) (hb2 : blk ≤ 4096) :
    Calls Tryz.prog 25 #[.pointer (some ⟨b, 0, none⟩)] w fun e w' => e = .returned (.tuple #[.int .i64 (nextC D k blk).2.2.1, .int .i64 (nextC D k blk).2.2.2]) ∧ CPost Sc.Rep Rd.LRep 115 w F b g p blk (nextC D k blk).1 (nextC D k blk).2.1 w' := by
  have HH := Lib.hid h
  have HI := Lib.hid (And.intro hi hu)
  have s1 := h.cel.cell (i := 1) rfl
  have s2 := h.cel.cell (i := 2) rfl
  have s3 := h.cel.cell (i := 3) rfl
  have o1 := ho.l0
  have o2 := ho.lb
  have o3 := ho.bm
  have hm := mx_eq
  by_cases hx : k.last = 1125899906842624
  · have HE := Lib.hid (show nextC D k blk = (D, k, 0, 160) by unfold nextC; exact if_pos (hx.trans hm.symm))
    rw [hx] at s2
    clear h hi hu ho hx o1 o2 o3 hm s1 s3
    go_enter Tryz.func25, Tryz.ntmps25
    go_wp2_with fail
    go_ret2
    rw [HE.out]
    exact ⟨rfl, F, HH.out, Fr.refl _ _⟩
  have hx' : ¬ k.last = mxS := by rw [hm]; exact hx
  have z0 : (k.last == 1125899906842624) = false := by simpa using hx
  by_cases hy : k.last = k.bound
  case neg =>
    have HE := Lib.hid (show nextC D k blk = (D, ⟨k.l, k.last + 1, k.bound⟩, k.last + 1, 0) by unfold nextC; rw [if_neg hx', if_neg hy])
    have z1 : (k.last == k.bound) = false := by simpa using hy
    have ws : IntKind.i64.wrap (k.last + 1) = k.last + 1 := i64_wrap (by omega) (by omega)
    have HP := Lib.hid (fun W (hb : Below w.heap.size w W) => show LC (W.setCell ⟨b, 2, none⟩ (.int .i64 (k.last + 1))) F b g p D blk ⟨k.l, k.last + 1, k.bound⟩ ∧ Fr (Tc F b) (Tc F b) w (W.setCell ⟨b, 2, none⟩ (.int .i64 (k.last + 1))) from
      ⟨(HH.out.below (devF_of devBase) logF hb).setLast (devF_of devBase) logF _, fr_set (fr_below (Fr.refl _ w) hb) (.inl (.inr rfl)) 2 _⟩)
    have fr := fun i => h.cel.free (i := i)
    clear h hi hu ho hx hx' hy o1 o2 o3 hm
    go_enter Tryz.func25, Tryz.ntmps25
    go_upto_region 3 with fail
    go_quiet (fail)
    have hbd : Below w.heap.size w (w.drewN nq) := below_drewN (Below.refl _ w) nq
    have s2' := (HH.out.drew nq).cel.cell (i := 2) rfl
    have fr' := fun i => (HH.out.drew nq).cel.free (i := i)
    have HQ := Lib.hid (HP.out _ hbd)
    have s4 := HQ.out.1.cel.cell (i := 2) rfl
    generalize w.drewN nq = W1 at hbd s2' fr' HQ s4 ⊢
    clear s1 s2 s3 fr hbd HP
    go_wp2_with fail
    go_ret2
    rw [HE.out]
    exact ⟨rfl, F, HQ.out.1, HQ.out.2⟩
  obtain ⟨n, hn⟩ : ∃ n, n = min (k.bound + blk) mxS := ⟨_, rfl⟩
  have hn1 : k.bound < n := by rw [hn]; omega
  have hn2 : n ≤ mxS := by rw [hn]; omega
  have HE := Lib.hid (show nextC D k blk = if (raiseC D k n).2.2 = 0 then ((raiseC D k n).1, ⟨(raiseC D k n).2.1.l, k.last + 1, (raiseC D k n).2.1.bound⟩, k.last + 1, 0) else ((raiseC D k n).1, (raiseC D k n).2.1, 0, (raiseC D k n).2.2) by unfold nextC; rw [if_neg hx', if_pos hy, hn])
  have z1 : (k.last == k.bound) = true := by simpa using hy
  have wa : IntKind.i64.wrap (k.bound + blk) = k.bound + blk := i64_wrap (by omega) (by omega)
  have ws : IntKind.i64.wrap (k.last + 1) = k.last + 1 := i64_wrap (by omega) (by omega)
  have wm : min (k.bound + blk) 1125899906842624 = n := by rw [hn, hm]
  have HT := Lib.hid (fun W (t : LC W F b g p D blk k) => ltake_any t HI.out.1 HI.out.2 n (by omega) hn2)
  have HL := Lib.hid (show (raiseC D k n).2.1.last = k.last from rfl)
  have HY := Lib.hid hy
  clear h hi hu ho hx hx' hy o1 o2 o3 hm hn hn1 hn2
  go_enter Tryz.func25, Tryz.ntmps25
  go_upto_region 3 with fail
  go_quiet (fail)
  have H1 := Lib.hid (HH.out.drew nq)
  have HB1 := Lib.hid (below_drewN (Below.refl w.heap.size w) nq)
  generalize w.drewN nq = W1 at H1 HB1 ⊢
  have t1 := H1.out.cel.cell (i := 1) rfl
  have t3 := H1.out.cel.cell (i := 3) rfl
  clear s1 s2 s3 HH
  go_upto_region 4 with fail
  go_region_with (first
    | (refine (HT.out _ (H1.out.below (devF_of devBase) logF (Below.refl _ _).drew)).mono ?_
       rintro e W2 ⟨rfl, F2, h2, hf2⟩
       have H2 := Lib.hid h2
       have HF2 := Lib.hid (Fr.after (HB1.out.trans ((Below.refl _ W1).drew.mono HB1.out.size)) hf2)
       clear h2 hf2 HT t1 t3))
  all_goals
    generalize raiseC D k n = R at H2 HE HL HF2 ⊢
    obtain ⟨D2, k2, er⟩ := R
    simp only at H2 HE HL ⊢
    by_cases h0 : er = 0
    · subst h0
      rw [if_pos rfl] at HE
      have u2 := H2.out.cel.cell (i := 2) rfl
      rw [HL.out] at u2
      have fr := fun i => H2.out.cel.free (i := i)
      have H3 := Lib.hid (H2.out.setLast (devF_of devBase) logF (k.last + 1))
      have HF3 := Lib.hid (fr_set HF2.out (b := b) (.inl (.inr rfl)) 2 (.int .i64 (k.last + 1)))
      have u4 := H3.out.cel.cell (i := 2) rfl
      go_wp2_with fail
      go_ret2
      rw [HE.out]
      exact ⟨rfl, F2, H3.out, HF3.out⟩
    · rw [if_neg h0] at HE
      have z : (er != 0) = true := by simpa using h0
      clear h0
      go_wp2_with fail
      go_ret2
      rw [HE.out]
      exact ⟨rfl, F2, H2.out, HF2.out⟩
theorem lskip_any (h : LC w F b g p D blk k) (hi : LgIn D k.l) (hu : D.down = false) (ho : ClOk k) (n : Int) :
    Calls Tryz.prog 27 #[.pointer (some ⟨b, 0, none⟩), .int .i64 n] w fun e w' => e = .returned (.int .i64 (skipC D k n).2.2) ∧ CPost Sc.Rep Rd.LRep 115 w F b g p blk (skipC D k n).1 (skipC D k n).2.1 w' := by
  have HH := Lib.hid h
  have HI := Lib.hid (And.intro hi hu)
  have s2 := h.cel.cell (i := 2) rfl
  have s3 := h.cel.cell (i := 3) rfl
  have o1 := ho.l0
  have o2 := ho.lb
  have hm := mx_eq
  by_cases hx : n < k.last ∨ 1125899906842624 < n
  · have HE := Lib.hid (show skipC D k n = (D, k, 1) by unfold skipC; rw [hm]; exact if_pos hx)
    clear h hi hu ho o1 o2 hm
    by_cases hx1 : n < k.last
    · clear hx
      go_enter Tryz.func27, Tryz.ntmps27
      go_wp2_with fail
      go_ret
      rw [HE.out]
      exact ⟨rfl, F, HH.out, Fr.refl _ _⟩
    · have hx2 := hx.resolve_left hx1
      clear hx
      go_enter Tryz.func27, Tryz.ntmps27
      go_wp2_with fail
      go_ret
      rw [HE.out]
      exact ⟨rfl, F, HH.out, Fr.refl _ _⟩
  have x1 : ¬ n < k.last := fun q => hx (.inl q)
  have x2 : ¬ 1125899906842624 < n := fun q => hx (.inr q)
  have hx' : ¬ (n < k.last ∨ mxS < n) := by rw [hm]; exact hx
  by_cases hy : k.bound < n
  case neg =>
    have HE := Lib.hid (show skipC D k n = (D, ⟨k.l, n, k.bound⟩, 0) by unfold skipC; rw [if_neg hx', if_neg hy])
    have fr := fun i => h.cel.free (i := i)
    have H3 := Lib.hid (HH.out.setLast (devF_of devBase) logF n)
    have HF3 := Lib.hid (fr_set (Fr.refl (Tc F b) w) (b := b) (.inl (.inr rfl)) 2 (.int .i64 n))
    clear h hi hu ho hx hx' o1 o2 hm
    go_enter Tryz.func27, Tryz.ntmps27
    go_wp2_with fail
    go_ret
    rw [HE.out]
    exact ⟨rfl, F, H3.out, HF3.out⟩
  have HE := Lib.hid (show skipC D k n = if (raiseC D k n).2.2 = 0 then ((raiseC D k n).1, ⟨(raiseC D k n).2.1.l, n, (raiseC D k n).2.1.bound⟩, 0) else raiseC D k n by unfold skipC; rw [if_neg hx', if_pos hy])
  have HT := Lib.hid (ltake_any h HI.out.1 HI.out.2 n (by omega) (by omega))
  clear h hi hu ho hx hx' o1 o2 hm
  go_enter Tryz.func27, Tryz.ntmps27
  go_wp2_with fail
  refine HT.out.mono ?_
  rintro e W2 ⟨rfl, F2, h2, hf2⟩
  have H2 := Lib.hid h2
  have HF2 := Lib.hid hf2
  clear h2 hf2 HT s2 s3
  generalize raiseC D k n = R at H2 HE HF2 ⊢
  obtain ⟨D2, k2, er⟩ := R
  simp only at H2 HE ⊢
  by_cases h0 : er = 0
  · subst h0
    rw [if_pos rfl] at HE
    have u2 := H2.out.cel.cell (i := 2) rfl
    have fr := fun i => H2.out.cel.free (i := i)
    have H3 := Lib.hid (H2.out.setLast (devF_of devBase) logF n)
    have HF3 := Lib.hid (fr_set HF2.out (b := b) (.inl (.inr rfl)) 2 (.int .i64 n))
    go_wp2_with fail
    go_ret
    rw [HE.out]
    exact ⟨rfl, F2, H3.out, HF3.out⟩
  · rw [if_neg h0] at HE
    have z : (er != 0) = true := by simpa using h0
    clear h0
    go_wp2_with fail
    go_ret
    rw [HE.out]
    exact ⟨rfl, F2, H2.out, HF2.out⟩
end
end Ck
end Go.Proofs.YtmidncclndongaaGreat
namespace Go.Proofs.YtmidncclndongaaGreat
namespace Rd
open Go.RowKit Sc Bk
attribute [local go_sem ↓] Go.wp_at_zero Go.wp_at_succ
attribute [local go_sem] floatUpon pick
def OpenPost (w:World) (g:Nat) (ao an:Addr) (co cn:Nat) (so sn:List Value) (r:Dev × Option Lg × Int) (e:Ending) (w':World):Prop :=
 RAt w' g ao an co cn so sn r.1 ∧ Fr (RFoot g ao an) (RFoot g ao an) w w' ∧
 match r.2.1 with
 | none=>e = .returned (.tuple #[.pointer none,.int .i64 r.2.2])
 | some l=>∃ k A c,e = .returned (.tuple #[.pointer (some ⟨k,0,none⟩),.int .i64 r.2.2]) ∧ w.heap.size ≤ k ∧ LAt w' k g A c l ∧ (∀ x,A = some x → w.heap.size ≤ x.block) ∧ (A = none → c = 0)
section
variable {w W W':World} {k g:Nat} {ao an:Addr} {co cn:Nat} {so sn:List Value} {D:Dev} {c a:Nat}
structure OpEnv (w W:World) (k g:Nat) (ao an:Addr) (co cn:Nat) (so sn:List Value) (D:Dev) (c a:Nat) (bs:ByteArray) (v:Value) (m:Nat):Prop where
 r:RAt W g ao an co cn so sn D
 cel:Cel W k 161 [.pointer (some ⟨g,0,none⟩),.int .i64 (c:Int),.int .i64 (a:Int),.string bs,v,.int .i64 (m:Int)]
 f:Fr (RFoot g ao an) (RFoot g ao an) w W
 kw:w.heap.size ≤ k
 off:∀ j,RFoot g ao an j → j < w.heap.size
variable {bs:ByteArray} {v:Value} {m:Nat}
theorem OpEnv.step (h:OpEnv w W k g ao an co cn so sn D c a bs v m) (hb:Below W.heap.size W W'):OpEnv w W' k g ao an co cn so sn D c a bs v m :=
 ⟨h.r.step hb,h.cel.below hb,h.f.below hb,h.kw,h.off⟩
theorem OpEnv.cellOff (h:OpEnv w W k g ao an co cn so sn D c a bs v m) (i:Nat) (u:Value):RAt (W.setCell ⟨k,i,none⟩ u) g ao an co cn so sn D ∧ Fr (RFoot g ao an) (RFoot g ao an) w (W.setCell ⟨k,i,none⟩ u):=by
 have hne:∀ j,RFoot g ao an j → j ≠ k:=fun j hj e=>by have:=h.off j hj;have:=h.kw;omega
 refine ⟨h.r.kept fun j hj=>Below.heap_setCell W ⟨k,i,none⟩ u j (hne j hj),?_⟩
 refine ⟨h.f.os,h.f.tape,h.f.output,by simpa [World.setCell] using h.f.size,fun j hj hn=>(Below.heap_setCell W ⟨k,i,none⟩ u j (fun e=>?_)).trans (h.f.block j hj hn),h.f.foot⟩
 have e2:j = k:=e
 have:=h.kw
 omega
theorem OpEnv.setC (h:OpEnv w W k g ao an co cn so sn D c a bs v m) (x:Nat):OpEnv w (W.setCell ⟨k,1,none⟩ (.int .i64 (x:Int))) k g ao an co cn so sn D x a bs v m :=
 ⟨(h.cellOff _ _).1,h.cel.set,(h.cellOff _ _).2,h.kw,h.off⟩
theorem OpEnv.setA (h:OpEnv w W k g ao an co cn so sn D c a bs v m) (x:Nat):OpEnv w (W.setCell ⟨k,2,none⟩ (.int .i64 (x:Int))) k g ao an co cn so sn D c x bs v m :=
 ⟨(h.cellOff _ _).1,h.cel.set,(h.cellOff _ _).2,h.kw,h.off⟩
theorem OpEnv.setB (h:OpEnv w W k g ao an co cn so sn D c a bs v m) (x:ByteArray):OpEnv w (W.setCell ⟨k,3,none⟩ (.string x)) k g ao an co cn so sn D c a x v m :=
 ⟨(h.cellOff _ _).1,h.cel.set,(h.cellOff _ _).2,h.kw,h.off⟩
theorem OpEnv.setL (h:OpEnv w W k g ao an co cn so sn D c a bs v m) (x:Value):OpEnv w (W.setCell ⟨k,4,none⟩ x) k g ao an co cn so sn D c a bs x m :=
 ⟨(h.cellOff _ _).1,h.cel.set,(h.cellOff _ _).2,h.kw,h.off⟩
theorem OpEnv.setM (h:OpEnv w W k g ao an co cn so sn D c a bs v m) (x:Nat):OpEnv w (W.setCell ⟨k,5,none⟩ (.int .i64 (x:Int))) k g ao an co cn so sn D c a bs v x :=
 ⟨(h.cellOff _ _).1,h.cel.set,(h.cellOff _ _).2,h.kw,h.off⟩
theorem OpEnv.act (h:OpEnv w W k g ao an co cn so sn D c a bs v m) {D':Dev} (h1:RAt W' g ao an co cn so sn D') (h2:Fr (RFoot g ao an) (RFoot g ao an) W W'):OpEnv w W' k g ao an co cn so sn D' c a bs v m :=
 ⟨h1,(h2.block k h.cel.lt (fun hj=>by have:=h.off k hj;have:=h.kw;omega)).trans h.cel,h.f.trans h2,h.kw,h.off⟩
def hC (D:Dev) (i:Nat):Nat:=((hdsP D i).map (·.1)).getD 0
def hA (D:Dev) (i:Nat):Nat:=((hdsP D i).map (·.2.1)).getD 0
def hN (D:Dev) (i:Nat):Nat:=((hdsP D i).map (·.2.2)).getD 0
theorem ropen_any (hr:RAt w g ao an co cn so sn D) (hok:DevOk D) :
  Calls Tryz.prog 73 #[.pointer (some ⟨g,0,none⟩)] w (OpenPost w g ao an co cn so sn (openP D)):=by
 have k0:=hr.cel.cell (i:=0) rfl
 have hmx:=hok.max
 have hlt0:=Lib.hid hr.lt
 by_cases h4:D.on.length < 4
 ·have HP:=Lib.hid (show OpenPost w g ao an co cn so sn (openP D) (.returned (.tuple #[.pointer none,.int .i64 4])) w from by
   unfold openP;rw [if_pos h4];exact ⟨hr,Fr.refl _ _,rfl⟩)
  generalize OpenPost w g ao an co cn so sn (openP D) = Pst at HP ⊢
  have p4:(D.on.length:Int) < 4:=by omega
  clear hr
  go_enter Tryz.func73,Tryz.ntmps73
  go_wp2_with fail
  exact HP.out
 have p4:¬ (D.on.length:Int) < 4:=by omega
 have HE0:Hid (OpEnv w (w.alloc (.cells #[.pointer (some ⟨g,0,none⟩),.int .i64 0,.int .i64 0,.string ⟨#[]⟩,.slice none 0 0,.int .i64 0] 161)) w.heap.size g ao an co cn so sn D 0 0 ⟨#[]⟩ (.slice none 0 0) 0):=Lib.hid
  ⟨hr.step ((Below.refl _ w).alloc (Nat.le_refl _) _),heap_alloc_new w _,(Fr.refl _ w).below ((Below.refl _ w).alloc (Nat.le_refl _) _),Nat.le_refl _,hr.lt⟩
 have HRd:=Lib.hid (fun W (h:RAt W g ao an co cn so sn D) (i:Int)=>rread_any h hok i)
 have HHd:=Lib.hid (fun W (h:RAt W g ao an co cn so sn D) (s:ByteArray) (hs:s.size = 64)=>rhd_any h hok (by omega) s hs)
 have HOk:=Lib.hid (And.intro hok h4)
 have hab:areaN D ≤ 65536:=by unfold areaN;omega
 have HPs:=Lib.hid (show OpenPost w g ao an co cn so sn (openP D) = OpenPost w g ao an co cn so sn (openP D) from rfl)
 obtain ⟨Pst,hPst⟩:∃ Pst,Pst = OpenPost w g ao an co cn so sn (openP D):=⟨_,rfl⟩
 rw [← hPst]
 have HPst:=Lib.hid hPst
 clear hPst HPs hr
 go_enter Tryz.func73,Tryz.ntmps73
 go_upto_region 4 with fail
 generalize w.alloc (.cells #[.pointer (some ⟨g,0,none⟩),.int .i64 0,.int .i64 0,.string ⟨#[]⟩,.slice none 0 0,.int .i64 0] 161) = W1 at HE0 ⊢
 generalize w.heap.size = k at HE0 ⊢
 clear k0
 go_wp2_with fail
 go_loopw [5,6,7,8,9,10,11,12,13] (fun n f i _ _ _ _ _ _ wr=>∃ j:Nat,j ≤ 2 ∧ n = .int .i64 (hN D j:Int) ∧ f = .bool (hdsP D j).isSome ∧ i = .int .i64 (j:Int) ∧ Hid (0 < j → D.down = false) ∧ Hid (OpEnv w wr k g ao an co cn so sn D (hC D j) (hA D j) ⟨#[]⟩ (.slice none 0 0) 0)) (fun _ _ i _ _ _ _ _ _ _=>2 - (intOf i).toNat)
 case atStart=>exact ⟨0,by omega,rfl,rfl,rfl,Lib.hid (fun h=>absurd h (by omega)),HE0.out⟩
 case round =>
  obtain ⟨j,hj,rfl,rfl,rfl,hup,hE⟩:=hrel
  clear HE0
  by_cases hlt:j < 2
  ·have pj:(j:Int) < 2:=by omega
   have wj:IntKind.i64.wrap ((j:Int) + 1) = (j:Int) + 1:=i64_wrap (by omega) (by omega)
   by_cases hd:D.down = true
   ·have j0:j = 0:=by
     rcases Nat.eq_zero_or_pos j with h | h
     ·exact h
     ·rw [hup.out h] at hd;cases hd
    have hrv:rdV D (j:Int) = (nil0,90):=by unfold rdV;rw [if_pos hd]
    have HP:Hid (Pst (.returned (.tuple #[.pointer none,.int .i64 90])) wr):=Lib.hid (by
     rw [HPst.out]
     have:openP D = (D,none,90):=by unfold openP;rw [if_neg HOk.out.2,if_pos hd]
     rw [this]
     exact ⟨hE.out.r,hE.out.f,rfl⟩)
    have hrd:=HRd.out wr hE.out.r (j:Int)
    rw [hrv] at hrd
    have HRd2:=Lib.hid hrd
    clear hrd hd hup hE hrv j0
    go_wp2_with fail
    refine HRd2.out.mono ?_
    rintro e w1 ⟨rfl,rfl⟩
    go_wp2_with fail
    exact HP.out
   have hd':D.down = false:=by simpa using hd
   have hjl:j < D.on.length:=by have:=HOk.out.2;omega
   have hrd:=HRd.out wr hE.out.r (j:Int)
   rw [rd_up hd' hjl] at hrd
   have hs64:=flush64 HOk.out.1 hjl
   have HH:Hid (hdsP D (j + 1) = if okH (areaN D) (flushF D j).data.toList ∧ (∀ h,hdsP D j = some h → h.1 < cOf (flushF D j).data.toList) then some (cOf (flushF D j).data.toList,aOf (flushF D j).data.toList,lOf (flushF D j).data.toList) else hdsP D j):=Lib.hid rfl
   have hhd:=fun W (h:RAt W g ao an co cn so sn D)=>HHd.out W h (flushF D j) hs64
   have HUp:=Lib.hid (show 0 < j + 1 → D.down = false from fun _=>hd')
   generalize flushF D j = s at hrd hs64 HH hhd
   have HRd2:=Lib.hid hrd
   have HHd2:=Lib.hid hhd
   clear hrd hhd hd hd' hup hs64
   by_cases hok1:okH (areaN D) s.data.toList
   case neg =>
    have hnx:hdsP D (j + 1) = hdsP D j:=by rw [HH.out,if_neg (fun hc=>hok1 hc.1)]
    have HR:Hid (∀ W,OpEnv w W k g ao an co cn so sn D (hC D j) (hA D j) ⟨#[]⟩ (.slice none 0 0) 0 → OpEnv w W k g ao an co cn so sn D (hC D (j + 1)) (hA D (j + 1)) ⟨#[]⟩ (.slice none 0 0) 0):=Lib.hid (fun W h=>by
     unfold hC hA at h ⊢
     rw [hnx];exact h)
    have HX:=Lib.hid (And.intro (show hN D (j + 1) = hN D j from by unfold hN;rw [hnx]) hnx)
    have hdec:decide (okH (areaN D) s.data.toList) = false:=by simpa using hok1
    clear HH hnx hok1
    go_wp2_with fail
    refine HRd2.out.mono ?_
    rintro e w1 ⟨rfl,rfl⟩
    go_wp2_with fail
    refine (HHd2.out _ hE.out.r).mono ?_
    rintro e w2 ⟨rfl,hb⟩
    rw [hdec]
    have HE2:=Lib.hid (hE.out.step hb)
    have k1:=HE2.out.cel.cell (i:=1) rfl
    clear hb hE
    go_wp2_with fail
    go_roundw
    case rel=>exact ⟨j + 1,by omega,by rw [HX.out.1],by rw [HX.out.2],by go_num,HUp.out,HR.out _ HE2.out⟩
    case measure=>simp [intOf];omega
   case pos =>
    cases hh:hdsP D j with
    | none =>
    have hnx:hdsP D (j + 1) = some (cOf s.data.toList,aOf s.data.toList,lOf s.data.toList):=by rw [HH.out,if_pos ⟨hok1,fun h e=>by rw [hh] at e;cases e⟩]
    have HX:=Lib.hid (And.intro (show hN D (j + 1) = lOf s.data.toList from by unfold hN;rw [hnx];rfl) (And.intro (show hC D (j + 1) = cOf s.data.toList from by unfold hC;rw [hnx];rfl) (And.intro (show hA D (j + 1) = aOf s.data.toList from by unfold hA;rw [hnx];rfl) hnx)))
    have hdec:decide (okH (areaN D) s.data.toList) = true:=by simpa using hok1
    have hwc:IntKind.i64.wrap (cOf s.data.toList:Int) = (cOf s.data.toList:Int):=i64_wrap (by omega) (by have:=hok1.2.1;omega)
    have hwl:IntKind.i64.wrap (lOf s.data.toList:Int) = (lOf s.data.toList:Int):=i64_wrap (by omega) (by have:=hok1.2.2.2.1;omega)
    clear HH hnx hok1
    generalize aOf s.data.toList = xa at *
    generalize cOf s.data.toList = xc at *
    generalize lOf s.data.toList = xl at *
    go_wp2_with fail
    refine HRd2.out.mono ?_
    rintro e w1 ⟨rfl,rfl⟩
    go_wp2_with fail
    refine (HHd2.out _ hE.out.r).mono ?_
    rintro e w2 ⟨rfl,hb⟩
    rw [hdec,hwc,hwl]
    have HE2:=Lib.hid (hE.out.step hb)
    have k1:=HE2.out.cel.cell (i:=1) rfl
    have kq:=fun i=>HE2.out.cel.free (i:=i)
    have HE3:=Lib.hid (HE2.out.setC xc)
    clear hb hE
    go_upto_region 16 with fail
    generalize w2.setCell ⟨k,1,none⟩ (.int .i64 (xc:Int)) = W3 at HE3 ⊢
    clear k1 kq HE2
    have k2:=HE3.out.cel.cell (i:=2) rfl
    have kq:=fun i=>HE3.out.cel.free (i:=i)
    have HE4:=Lib.hid (HE3.out.setA xa)
    go_upto_region 17 with fail
    generalize W3.setCell ⟨k,2,none⟩ (.int .i64 (xa:Int)) = W4 at HE4 ⊢
    clear k2 kq HE3
    go_wp2_with fail
    go_roundw
    case rel=>exact ⟨j + 1,by omega,by rw [HX.out.1],by rw [HX.out.2.2.2];rfl,by go_num,HUp.out,by rw [HX.out.2.1,HX.out.2.2.1];exact HE4.out⟩
    case measure=>simp [intOf];omega
    | some h =>
    by_cases hgt:h.1 < cOf s.data.toList
    case pos =>
     have hnx:hdsP D (j + 1) = some (cOf s.data.toList,aOf s.data.toList,lOf s.data.toList):=by rw [HH.out,if_pos ⟨hok1,fun h2 e=>by rw [hh] at e;cases e;exact hgt⟩]
     have HX:=Lib.hid (And.intro (show hN D (j + 1) = lOf s.data.toList from by unfold hN;rw [hnx];rfl) (And.intro (show hC D (j + 1) = cOf s.data.toList from by unfold hC;rw [hnx];rfl) (And.intro (show hA D (j + 1) = aOf s.data.toList from by unfold hA;rw [hnx];rfl) hnx)))
     have hdec:decide (okH (areaN D) s.data.toList) = true:=by simpa using hok1
     have hwc:IntKind.i64.wrap (cOf s.data.toList:Int) = (cOf s.data.toList:Int):=i64_wrap (by omega) (by have:=hok1.2.1;omega)
     have hwl:IntKind.i64.wrap (lOf s.data.toList:Int) = (lOf s.data.toList:Int):=i64_wrap (by omega) (by have:=hok1.2.2.2.1;omega)
     have hCv:hC D j = h.1:=by unfold hC;rw [hh];rfl
     have pgt:(hC D j:Int) < (cOf s.data.toList:Int):=by rw [hCv];omega
     clear HH hnx hok1 hgt hCv
     generalize aOf s.data.toList = xa at *
     generalize cOf s.data.toList = xc at *
     generalize lOf s.data.toList = xl at *
     go_wp2_with fail
     refine HRd2.out.mono ?_
     rintro e w1 ⟨rfl,rfl⟩
     go_wp2_with fail
     refine (HHd2.out _ hE.out.r).mono ?_
     rintro e w2 ⟨rfl,hb⟩
     rw [hdec,hwc,hwl]
     have HE2:=Lib.hid (hE.out.step hb)
     have k1:=HE2.out.cel.cell (i:=1) rfl
     have kq:=fun i=>HE2.out.cel.free (i:=i)
     have HE3:=Lib.hid (HE2.out.setC xc)
     clear hb hE
     go_upto_region 16 with fail
     generalize w2.setCell ⟨k,1,none⟩ (.int .i64 (xc:Int)) = W3 at HE3 ⊢
     clear k1 kq HE2
     have k2:=HE3.out.cel.cell (i:=2) rfl
     have kq:=fun i=>HE3.out.cel.free (i:=i)
     have HE4:=Lib.hid (HE3.out.setA xa)
     go_upto_region 17 with fail
     generalize W3.setCell ⟨k,2,none⟩ (.int .i64 (xa:Int)) = W4 at HE4 ⊢
     clear k2 kq HE3
     go_wp2_with fail
     go_roundw
     case rel=>exact ⟨j + 1,by omega,by rw [HX.out.1],by rw [HX.out.2.2.2];rfl,by go_num,HUp.out,by rw [HX.out.2.1,HX.out.2.2.1];exact HE4.out⟩
     case measure=>simp [intOf];omega
    case neg =>
     have hnx:hdsP D (j + 1) = hdsP D j:=by rw [HH.out,if_neg (fun hc=>hgt (hc.2 h hh))]
     have HR:Hid (∀ W,OpEnv w W k g ao an co cn so sn D (hC D j) (hA D j) ⟨#[]⟩ (.slice none 0 0) 0 → OpEnv w W k g ao an co cn so sn D (hC D (j + 1)) (hA D (j + 1)) ⟨#[]⟩ (.slice none 0 0) 0):=Lib.hid (fun W h=>by
      unfold hC hA at h ⊢
      rw [hnx];exact h)
     have HX:=Lib.hid (And.intro (show hN D (j + 1) = hN D j from by unfold hN;rw [hnx]) hnx)
     have hdec:decide (okH (areaN D) s.data.toList) = true:=by simpa using hok1
     have hwc:IntKind.i64.wrap (cOf s.data.toList:Int) = (cOf s.data.toList:Int):=i64_wrap (by omega) (by have:=hok1.2.1;omega)
     have hwl:IntKind.i64.wrap (lOf s.data.toList:Int) = (lOf s.data.toList:Int):=i64_wrap (by omega) (by have:=hok1.2.2.2.1;omega)
     have hCv:hC D j = h.1:=by unfold hC;rw [hh];rfl
     have pgt:(cOf s.data.toList:Int) ≤ (hC D j:Int):=by rw [hCv];omega
     clear HH hnx hok1 hgt hCv
     go_wp2_with fail
     refine HRd2.out.mono ?_
     rintro e w1 ⟨rfl,rfl⟩
     go_wp2_with fail
     refine (HHd2.out _ hE.out.r).mono ?_
     rintro e w2 ⟨rfl,hb⟩
     rw [hdec,hwc,hwl]
     have HE2:=Lib.hid (hE.out.step hb)
     have k1:=HE2.out.cel.cell (i:=1) rfl
     clear hb hE
     go_wp2_with fail
     go_roundw
     case rel=>exact ⟨j + 1,by omega,by rw [HX.out.1],by rw [HX.out.2,hh];rfl,by go_num,HUp.out,HR.out _ HE2.out⟩
     case measure=>simp [intOf];omega
  ·obtain rfl:j = 2:=by omega
   have hd':=hup.out (by omega)
   clear hup hlt0
   cases hh:hdsP D 2 with
   | none =>
    have HC0:=Lib.hid (And.intro (show hC D 2 = 0 from by unfold hC;rw [hh];rfl) (show hA D 2 = 0 from by unfold hA;rw [hh];rfl))
    have hov:openP D = if (andD (wrD D 1 (headB 1 0 0)) flD).2 = 0 then ((andD (wrD D 1 (headB 1 0 0)) flD).1,some ⟨1,0,[],[],0⟩,0) else ((andD (wrD D 1 (headB 1 0 0)) flD).1,none,(andD (wrD D 1 (headB 1 0 0)) flD).2):=by
     unfold openP;rw [if_neg HOk.out.2,if_neg (by rw [hd'];simp),hh]
    have HFail:Hid (∀ W D' e,andD (wrD D 1 (headB 1 0 0)) flD = (D',e) → e ≠ 0 → RAt W g ao an co cn so sn D' → Fr (RFoot g ao an) (RFoot g ao an) w W → Pst (.returned (.tuple #[.pointer none,.int .i64 e])) W):=Lib.hid (fun W D' e h1 h2 h3 h5=>by
     rw [HPst.out,hov,h1,if_neg h2];exact ⟨h3,h5,rfl⟩)
    have HDone:Hid (∀ W D',andD (wrD D 1 (headB 1 0 0)) flD = (D',0) → OpEnv w W k g ao an co cn so sn D' 1 0 ⟨#[]⟩ (.slice none 0 0) 0 → Pst (.returned (.tuple #[.pointer (some ⟨k,0,none⟩),.int .i64 0])) W):=Lib.hid (fun W D' h1 h2=>by
     rw [HPst.out,hov,h1,if_pos rfl]
     exact ⟨h2.r,h2.f,k,none,0,rfl,h2.kw,⟨h2.cel,fun h=>absurd h (by simp),fun h=>absurd h (by simp)⟩,(fun x hx=>by cases hx),fun _=>rfl⟩)
    have k1:=hE.out.cel.cell (i:=1) rfl
    have kq:=fun i=>hE.out.cel.free (i:=i)
    have HE3:=Lib.hid (hE.out.setC 1)
    rw [HC0.out.2] at HE3
    have HHead:Hid (∀ W,Calls Tryz.prog 131 #[.int .i64 1,.int .i64 0,.int .i64 0] W fun e w'=>e = .returned (.string (headB 1 0 0)) ∧ Below W.heap.size W w'):=Lib.hid (fun W=>rhead_any 1 0 0 W (by omega) (by omega) (by omega))
    have hone:(Value.int IntKind.i64 ((1:Nat):Int)) = .int .i64 1:=rfl
    rw [hone] at HE3
    clear hone hov hd' hE
    obtain ⟨HBt,hHB⟩:∃ HBt,HBt = headB 1 0 0:=⟨_,rfl⟩
    rw [← hHB] at HFail HDone HHead
    have HWr:=Lib.hid (fun W (h:RAt W g ao an co cn so sn D)=>rwrite_any h HOk.out.1 1 HBt)
    have HFl:=Lib.hid (fun W (h:RAt W g ao an co cn so sn (wrD D 1 HBt).1)=>rflush_any h (wrD_ok HOk.out.1 1 HBt))
    clear hHB
    go_upto_region 20 with fail
    generalize wr.setCell ⟨k,1,none⟩ (.int .i64 1) = W3 at HE3 ⊢
    clear k1 kq
    go_wp2_with fail
    refine (HHead.out _).mono ?_
    rintro e w4 ⟨rfl,hb⟩
    have HE4:=Lib.hid (HE3.out.step hb)
    clear hb HE3
    go_wp2_with fail
    refine (HWr.out _ HE4.out.r).mono ?_
    rintro e w5 ⟨rfl,p1,p2⟩
    have HE5:=Lib.hid (HE4.out.act p1 p2)
    clear p1 p2 HE4 HWr
    by_cases h0:(wrD D 1 HBt).2 = 0
    case neg =>
     have HF:=Lib.hid (HFail.out w5 (wrD D 1 HBt).1 (wrD D 1 HBt).2 (and_stop h0) h0 HE5.out.r HE5.out.f)
     have hne:((wrD D 1 HBt).2 != 0) = true:=by simpa using h0
     generalize (wrD D 1 HBt).2 = z at HF hne ⊢
     clear HFail HDone HFl h0
     go_wp2_with fail
     exact HF.out
    have hne:((wrD D 1 HBt).2 != 0) = false:=by simpa using h0
    have HG:=Lib.hid (and_go (f:=flD) h0)
    rw [HG.out] at HFail HDone
    clear HG
    rw [h0]
    clear h0 hne
    generalize (wrD D 1 HBt).1 = D2 at HFail HDone HFl HE5
    go_wp2_with fail
    refine (HFl.out _ HE5.out.r).mono ?_
    rintro e w6 ⟨rfl,p1,p2⟩
    have HE6:=Lib.hid (HE5.out.act p1 p2)
    clear p1 p2 HE5 HFl
    generalize flD D2 = r at HFail HDone HE6 ⊢
    obtain ⟨D3,e3⟩:=r
    simp only at HE6 ⊢
    by_cases h0:e3 = 0
    ·subst h0
     have HD:=Lib.hid (HDone.out w6 D3 rfl HE6.out)
     clear HFail HDone
     go_wp2_with fail
     exact HD.out
    ·have hne:(e3 != 0) = true:=by simpa using h0
     have HF:=Lib.hid (HFail.out w6 D3 e3 rfl h0 HE6.out.r HE6.out.f)
     clear HFail HDone h0
     go_wp2_with fail
     exact HF.out
   | some h =>
    obtain ⟨c,a,n⟩:=h
    obtain ⟨q1,q2,q3,q4⟩:=hds_ok hh
    have hsl:(storedL D a n).length ≤ n:=by unfold storedL;rw [List.length_take];omega
    have HCv:=Lib.hid (And.intro (show hC D 2 = c from by unfold hC;rw [hh];rfl) (And.intro (show hA D 2 = a from by unfold hA;rw [hh];rfl) (show hN D 2 = n from by unfold hN;rw [hh];rfl)))
    obtain ⟨S,hS⟩:∃ S:ByteArray,S = ⟨(storedL D a n).toArray⟩:=⟨_,rfl⟩
    have hSz:S.size ≤ 50000000000000:=by rw [hS,text_size];simp only at q4;omega
    have hov:openP D = if (Su.allR S).2.2 = 0 then (D,some ⟨c,a,storedL D a n,(Su.allR S).1,(Su.allR S).1.length⟩,0) else (D,none,101):=by
     unfold openP;rw [if_neg HOk.out.2,if_neg (by rw [hd'];simp),hh,hS]
    have HFail:Hid ((Su.allR S).2.2 ≠ 0 → ∀ W,OpEnv w W k g ao an co cn so sn D c a S (.slice none 0 0) 0 → Pst (.returned (.tuple #[.pointer none,.int .i64 101])) W):=Lib.hid (fun h1 W h2=>by
     rw [HPst.out,hov,if_neg h1];exact ⟨h2.r,h2.f,rfl⟩)
    have HDone:Hid ((Su.allR S).2.2 = 0 → ∀ W A cA,OpEnv w W k g ao an co cn so sn D c a S (.slice A (Su.allR S).1.length cA) (Su.allR S).1.length → StrsAt W A (Su.allR S).1 → (∀ x,A = some x → w.heap.size ≤ x.block ∧ x.block ≠ k) → (A = none → cA = 0) → Pst (.returned (.tuple #[.pointer (some ⟨k,0,none⟩),.int .i64 0])) W):=Lib.hid (fun h1 W A cA h2 h3 h5 h6=>by
     rw [HPst.out,hov,if_pos h1]
     exact ⟨h2.r,h2.f,k,A,cA,rfl,h2.kw,⟨by rw [← hS];exact h2.cel,h3,fun _ x hx=>(h5 x hx).2⟩,fun x hx=>(h5 x hx).1,h6⟩)
    have HSt:=Lib.hid (fun W (hW:RAt W g ao an co cn so sn D)=>rstored_any hW HOk.out.1 (by have:=HOk.out.2;omega) hd' a n q3 q4)
    rw [← hS] at HSt
    have HAll:=Lib.hid (fun W=>rall_new S W hSz)
    have HE3:=hE
    rw [HCv.out.1,HCv.out.2.1] at HE3
    rw [HCv.out.2.2]
    have k2:=HE3.out.cel.cell (i:=2) rfl
    have kq:=fun i=>HE3.out.cel.free (i:=i)
    have k3:=HE3.out.cel.cell (i:=3) rfl
    have HE4:=Lib.hid (HE3.out.setB S)
    clear hS hov hd' hE hh q1 q2 q3 q4 hsl
    go_upto_region 27 with fail
    go_wp2_with fail
    refine (HSt.out _ HE3.out.r).mono ?_
    rintro e w4 ⟨rfl,rfl⟩
    go_upto_region 28 with fail
    generalize w4.setCell ⟨k,3,none⟩ (.string S) = W4 at HE4 ⊢
    clear k2 kq k3 HSt HE3
    have k3:=HE4.out.cel.cell (i:=3) rfl
    go_wp2_with fail
    refine (HAll.out _).mono ?_
    rintro e w5 ⟨A,cA,rfl,hst,hnw,hnc,hb⟩
    have HE5:=Lib.hid (HE4.out.step hb)
    have HSt2:=Lib.hid (And.intro hst (And.intro (fun (x:Addr) (hx:A = some x)=>show w.heap.size ≤ x.block ∧ x.block ≠ k from by
     have h1:=hnw x hx
     have h2:=HE4.out.cel.lt
     have h3:=HE4.out.f.size
     omega) hnc))
    clear hst hnw hnc hb k3 HE4 HAll
    generalize Su.allR S = r at HFail HDone HSt2 ⊢
    obtain ⟨O,p,er⟩:=r
    simp only at HFail HDone HSt2 ⊢
    by_cases h0:er = 0
    case neg =>
     have hne:((er:Int) != 0) = true:=by simpa using h0
     have HF:=Lib.hid (HFail.out h0 w5 HE5.out)
     clear HFail HDone HSt2 h0
     go_wp2_with fail
     exact HF.out
    ·subst h0
     have k4:=HE5.out.cel.cell (i:=4) rfl
     have kq:=fun i=>HE5.out.cel.free (i:=i)
     have HE6:=Lib.hid (HE5.out.setL (.slice A O.length cA))
     have HStr:=Lib.hid (fun (W:World) (h:∀ b,b ≠ k → W.heap[b]? = w5.heap[b]?) (hs:w5.heap.size ≤ W.heap.size)=>show StrsAt W A O from fun hp=>by
      obtain ⟨ad,e,hl,hc⟩:=HSt2.out.1 hp
      refine ⟨ad,e,Nat.lt_of_lt_of_le hl hs,fun i hi=>?_⟩
      have hkp:=h ad.block (HSt2.out.2.1 ad e).2
      rw [← st_block ad i] at hkp
      refine Eq.trans ?_ (hc i hi)
      unfold World.cell?
      rw [hkp])
     go_upto_region 32 with fail
     have HK6:=Lib.hid (fun b (hb:b ≠ k)=>Below.heap_setCell w5 ⟨k,4,none⟩ (.slice A O.length cA) b hb)
     have HZ6:=Lib.hid (show w5.heap.size ≤ (w5.setCell ⟨k,4,none⟩ (.slice A O.length cA)).heap.size from by simp [World.setCell])
     generalize w5.setCell ⟨k,4,none⟩ (.slice A O.length cA) = W6 at HE6 HK6 HZ6 ⊢
     clear k4 kq HE5
     have k5:=HE6.out.cel.cell (i:=5) rfl
     have kq:=fun i=>HE6.out.cel.free (i:=i)
     have HE7:=Lib.hid (HE6.out.setM O.length)
     have HD:=Lib.hid (HDone.out rfl _ A cA HE7.out (HStr.out _ (fun b hb=>(Below.heap_setCell W6 ⟨k,5,none⟩ (.int .i64 (O.length:Int)) b hb).trans (HK6.out b hb)) (by have:=HZ6.out;simpa [World.setCell] using this)) HSt2.out.2.1 HSt2.out.2.2)
     clear HFail HDone HStr HE6 HE7 HK6 HZ6
     go_wp2_with fail
     exact HD.out
end
end Rd
end Go.Proofs.YtmidncclndongaaGreat
