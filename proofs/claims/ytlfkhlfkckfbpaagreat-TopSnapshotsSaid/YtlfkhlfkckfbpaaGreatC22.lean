/- Parts of the proof, joined: CkLoad, CkNext, CkIdle, CkWorks, LsMath, LlMath, LlHoldM, TpSnapM, LlGen; their conditions stand with each. -/
import Derived.Deep.RegionLaw
import Derived.Handy
import Derived.Test.YtlfkhlfkckfbpaaGreatC0
import Derived.Test.YtlfkhlfkckfbpaaGreatC2
import Derived.Test.YtlfkhlfkckfbpaaGreatC9
import Derived.Test.YtlfkhlfkckfbpaaGreatC10
import Derived.Test.YtlfkhlfkckfbpaaGreatC18
import Derived.Test.YtlfkhlfkckfbpaaGreatC20
import Derived.Test.YtlfkhlfkckfbpaaGreatC21

set_option maxRecDepth 20000
set_option maxHeartbeats 8000000
namespace Go.Proofs.YtlfkhlfkckfbpaaGreat
namespace Ck
open Go.RowKit Bk Sc Rd Rc Lt
attribute [local go_sem ↓] Go.wp_at_zero Go.wp_at_succ
attribute [local go_sem] floatUpon pick
def LbPost (ts:List ByteArray) (w:World) (e:Ending) (w':World):Prop :=
 ((∃ n,loadC ts 0 = some n ∧ e = .returned (.tuple #[.int .i64 n,.bool true])) ∨ (loadC ts 0 = none ∧ e = .returned (.tuple #[.int .i64 0,.bool false]))) ∧ Below w.heap.size w w'
theorem load_take {ts:List ByteArray} {j:Nat} (h:loadC (ts.take j) 0 = none):loadC ts 0 = none:=by
 have:=load_app (ts.take j) (ts.drop j) 0
 rw [List.take_append_drop,h] at this
 exact this
theorem lbound_any (A:Option Addr) (c:Nat) (ts:List ByteArray) (w:World) (hA:StrsAt w A ts) (hs:∀ t ∈ ts,t.size ≤ 4096) (hn:ts.length ≤ 1000000) :
  Calls Tryz.prog 23 #[.slice A ts.length c] w (LbPost ts w):=by
 have HA:=Lib.hid (fun V (hb:Below w.heap.size w V)=>hA.below hb)
 have HSm:=Lib.hid hs
 have hln:(ts.length:Int) ≤ 1000000:=by omega
 clear hA hs
 go_enter Tryz.func23,Tryz.ntmps23
 go_wp2_with fail
 go_loopw [4,11] (fun bv iv wr=>∃ (j:Nat) (n:Int),j ≤ ts.length ∧ iv = .int .i64 (j:Int) ∧ bv = .int .i64 n ∧ Hid (loadC (ts.take j) 0 = some n) ∧ Hid (Below w.heap.size w wr)) (fun _ iv _=>ts.length - (RowKit.intOf iv).toNat)
 case atStart=>exact ⟨0,0,Nat.zero_le _,rfl,rfl,Lib.hid rfl,Lib.hid (Below.refl _ _)⟩
 case round =>
  obtain ⟨j,n,hj,rfl,rfl,hX,hbl⟩:=hrel
  by_cases hlt:j < ts.length
  ·have pj:(j:Int) < (ts.length:Int):=by omega
   obtain ⟨ad,rfl,-,hcl⟩:=HA.out _ hbl.out (by omega)
   have x0:=hcl j hlt
   have hmem:=List.getElem_mem hlt
   have hsz:=HSm.out _ hmem
   have HTk:=Lib.hid (show ts.take (j + 1) = ts.take j ++ [ts[j]] from List.take_succ_eq_append_getElem hlt)
   generalize ts[j] = t at x0 hsz HTk
   have HDc:=Lib.hid (Rc.ldecode_any t wr (by omega))
   have HSn:=Lib.hid (load_snoc (t:=t) hX.out)
   rw [← HTk.out] at HSn
   clear hcl hmem hsz
   go_wp2_with fail
   refine HDc.out.mono ?_
   rintro e2 w2 ⟨A2,B2,c2,d2,rfl,-,hb⟩
   have HB:=Lib.hid (hbl.out.trans (hb.mono hbl.out.size))
   obtain ⟨r,code,hrc⟩:∃ r code,Rc.decX t = (r,code):=⟨_,_,rfl⟩
   rw [hrc] at HSn ⊢
   simp only at HSn ⊢
   clear hb HDc x0 hrc hbl
   unfold recV
   have hal:Below w2.heap.size w2 (w2.alloc (.cells #[.int .i64 r.kind,.int .i64 r.txn,.int .i64 r.ts,.int .i64 r.coord,.string r.key,.string r.text,.bool r.dead,.slice A2 r.keys.length c2,.slice B2 r.ws.length d2] 60)):=(Below.refl _ w2).alloc (Nat.le_refl _) _
   have hr3:Cel (w2.alloc (.cells #[.int .i64 r.kind,.int .i64 r.txn,.int .i64 r.ts,.int .i64 r.coord,.string r.key,.string r.text,.bool r.dead,.slice A2 r.keys.length c2,.slice B2 r.ws.length d2] 60)) w2.heap.size 60 [.int .i64 r.kind,.int .i64 r.txn,.int .i64 r.ts,.int .i64 r.coord,.string r.key,.string r.text,.bool r.dead,.slice A2 r.keys.length c2,.slice B2 r.ws.length d2]:=(blk1 w2 _).2
   have HB3:=Lib.hid (HB.out.trans (hal.mono HB.out.size))
   go_upto_region 6 with fail
   generalize w2.alloc (.cells #[.int .i64 r.kind,.int .i64 r.txn,.int .i64 r.ts,.int .i64 r.coord,.string r.key,.string r.text,.bool r.dead,.slice A2 r.keys.length c2,.slice B2 r.ws.length d2] 60) = W3 at hr3 HB3 ⊢
   have q0:=hr3.cell (i:=0) rfl
   have q2:=hr3.cell (i:=2) rfl
   generalize w2.heap.size = ab at q0 q2 ⊢
   clear hal hr3 HB
   by_cases c0:code = 0
   case neg =>
    have z:((code:Int) != 0) = true:=by simpa using c0
    have HF:=Lib.hid (load_take (by rw [HSn.out];exact if_neg (fun q=>c0 q.1):loadC (ts.take (j + 1)) 0 = none))
    clear c0
    go_wp2_with fail
    go_ret2
    exact ⟨.inr ⟨HF.out,rfl⟩,HB3.out⟩
   subst c0
   have z0:(((0:Nat):Int) != 0) = false:=by simp
   by_cases c1:r.kind = 7
   case neg =>
    have z1:(r.kind != 7) = true:=by simpa using c1
    have HF:=Lib.hid (load_take (by rw [HSn.out];exact if_neg (fun q=>c1 q.2.1):loadC (ts.take (j + 1)) 0 = none))
    clear c1
    go_wp2_with fail
    go_ret2
    exact ⟨.inr ⟨HF.out,rfl⟩,HB3.out⟩
   have z1:(r.kind != 7) = false:=by simpa using c1
   by_cases c2:n < r.ts
   case neg =>
    have z2:r.ts ≤ n:=by omega
    have HF:=Lib.hid (load_take (by rw [HSn.out];exact if_neg (fun q=>c2 q.2.2):loadC (ts.take (j + 1)) 0 = none))
    clear c1 c2
    go_wp2_with fail
    go_ret2
    exact ⟨.inr ⟨HF.out,rfl⟩,HB3.out⟩
   have z2:¬ r.ts ≤ n:=by omega
   have HX2:=Lib.hid (show loadC (ts.take (j + 1)) 0 = some r.ts by rw [HSn.out];exact if_pos ⟨rfl,c1,c2⟩)
   clear c1 c2
   go_wp2_with fail
   go_roundw
   case rel=>exact ⟨j + 1,r.ts,by omega,by go_num,rfl,HX2,HB3⟩
   case measure=>simp [RowKit.intOf];omega
  ·obtain rfl:j = ts.length:=by omega
   have hx:=hX.out
   rw [List.take_length] at hx
   have HX3:=Lib.hid hx
   clear hx hX
   go_wp2_with fail
   go_ret2
   exact ⟨.inl ⟨n,HX3.out,rfl⟩,hbl.out⟩
section
variable {w W:World} {F:Nat → Prop} {g:Nat} {D:Dev}
theorem openC_rng {blk:Int} (h:blk < 1 ∨ 4096 < blk):openC D blk = (D,none,1):=by unfold openC;exact if_pos h
theorem openC_no {blk:Int} (h:¬ (blk < 1 ∨ 4096 < blk)) (h1:(openP D).2.1 = none):openC D blk = ((openP D).1,none,(openP D).2.2):=by unfold openC;rw [if_neg h,h1]
theorem openC_bad {blk:Int} {l:Lg} (h:¬ (blk < 1 ∨ 4096 < blk)) (h1:(openP D).2.1 = some l) (h2:loadC l.ts 0 = none):openC D blk = ((openP D).1,none,101):=by unfold openC;rw [if_neg h,h1];simp only [h2]
theorem openC_ok {blk n:Int} {l:Lg} (h:¬ (blk < 1 ∨ 4096 < blk)) (h1:(openP D).2.1 = some l) (h2:loadC l.ts 0 = some n):openC D blk = ((openP D).1,some ⟨l,n,n⟩,0):=by unfold openC;rw [if_neg h,h1];simp only [h2]
theorem lopen_any (o:Option (Nat × Lg)) (h:Side Sc.Rep Rd.LRep w F g D o) (blk:Int) :
  Calls Tryz.prog 6 #[.pointer (some ⟨g,0,none⟩),.int .i64 blk] w (OPost Sc.Rep Rd.LRep 76 w F g blk (openC D blk)):=by
 by_cases hblk:blk < 1 ∨ 4096 < blk
 ·have HE:=Lib.hid (openC_rng (D:=D) hblk)
  obtain ⟨F',q1,q2⟩:=side_none h
  have HS:=Lib.hid (And.intro q1 q2)
  have HFr:=Lib.hid (fr_less (Fr.refl F w) q1)
  clear h q1 q2
  rcases hblk with hb | hb
  ·go_enter Tryz.func6,Tryz.ntmps6
   go_wp2_with fail
   go_ret2
   rw [HE.out]
   exact .inr ⟨rfl,(by decide:(1:Int) ≠ 0),rfl,F',HS.out.2,HFr.out⟩
  ·have hb1:¬ blk < 1:=by omega
   go_enter Tryz.func6,Tryz.ntmps6
   go_wp2_with fail
   go_ret2
   rw [HE.out]
   exact .inr ⟨rfl,(by decide:(1:Int) ≠ 0),rfl,F',HS.out.2,HFr.out⟩
 have b1:¬ blk < 1:=fun q=>hblk (.inl q)
 have b2:¬ 4096 < blk:=fun q=>hblk (.inr q)
 have HO:=Lib.hid (Side.opn logF h)
 have hok:=h.ok (devF_of devBase)
 have HIn:=Lib.hid (fun l (hl:(openP D).2.1 = some l)=>open_in hok hl)
 have HNo:=Lib.hid (fun (hl:(openP D).2.1 = none)=>And.intro (open_no hl) (openC_no hblk hl))
 have HBad:=Lib.hid (fun l (hl:(openP D).2.1 = some l) (h2:loadC l.ts 0 = none)=>openC_bad hblk hl h2)
 have HGood:=Lib.hid (fun l n (hl:(openP D).2.1 = some l) (h2:loadC l.ts 0 = some n)=>openC_ok hblk hl h2)
 clear h hok hblk
 go_enter Tryz.func6,Tryz.ntmps6
 go_wp2_with fail
 refine HO.out.mono ?_
 rintro e1 w1 ⟨o1,rfl,ho,F1,h1,hf1⟩
 have H1:=Lib.hid h1
 have HF1:=Lib.hid hf1
 clear h1 hf1 HO
 generalize openP D = R at H1 ho HIn HNo HBad HGood ⊢
 obtain ⟨D1,ol,er⟩:=R
 simp only at H1 ho HIn HNo HBad HGood ⊢
 cases o1 with
 | none =>
  subst ho
  have z:(er != 0) = true:=by simpa using (HNo.out rfl).1
  have HE:=Lib.hid (HNo.out rfl)
  clear HNo HBad HGood HIn
  unfold ptrV
  go_wp2_with fail
  go_ret2
  rw [HE.out.2]
  exact .inr ⟨rfl,HE.out.1,rfl,F1,H1.out,HF1.out⟩
 | some q =>
  obtain ⟨p,l⟩:=q
  subst ho
  have hz:=(HIn.out l rfl).2.2.2
  subst hz
  have HB:=Lib.hid (HBad.out l rfl)
  have HG:=Lib.hid (fun n=>HGood.out l n rfl)
  have HL:=Lib.hid (HIn.out l rfl).1
  have HTx:=Lib.hid (show Hid (Calls Tryz.prog 24 #[.pointer (some ⟨p,0,none⟩)] w1 fun e w'=>∃ v,e = .returned v ∧ w'.ownsRow w1.heap.size 9 1 v l.ts.length (strV l.ts) ∧ Below w1.heap.size w1 w') from Lib.hid (by
   obtain ⟨Fd,Fl,-,-,⟨A,B,-,hL⟩,-⟩:=H1.out
   exact ltexts_any hL (by have:=HL.out.ok.many;omega) (fun t ht=>by have:=HL.out.small t ht;omega)))
  clear HNo HBad HGood HIn
  unfold ptrV
  go_wp2_with fail
  refine HTx.out.out.mono ?_
  rintro e2 w2 ⟨v,rfl,hv,hb2⟩
  obtain ⟨A,c,rfl,hA,-,-⟩:=strs_own_new hv rfl
  have HD:=Lib.hid (lbound_any A c l.ts w2 hA HL.out.small HL.out.ok.many)
  have HB2:=Lib.hid hb2
  clear hv hb2 hA HTx HL
  go_wp2_with fail
  refine HD.out.mono ?_
  rintro e3 w3 ⟨⟨n,hn,rfl⟩ | ⟨hn,rfl⟩,hb3⟩
  case inr =>
   have HE:=Lib.hid (HB.out hn)
   have HB3:=Lib.hid (HB2.out.trans (hb3.mono HB2.out.size))
   clear hn hb3 HB HG HD HB2
   go_wp2_with fail
   go_ret2
   rw [HE.out]
   obtain ⟨F',q1,q2⟩:=side_none (H1.out.kept (devF_of devBase) logF (fun k hk=>HB3.out.block k (H1.out.lt (devF_of devBase) logF k hk)))
   exact .inr ⟨rfl,(by decide:(101:Int) ≠ 0),rfl,F',q2,fr_less (fr_below HF1.out HB3.out) q1⟩
  have HE:=Lib.hid (HG.out n hn)
  have HB3:=Lib.hid (HB2.out.trans (hb3.mono HB2.out.size))
  have hr5:Cel (w3.alloc (.cells #[.pointer (some ⟨p,0,none⟩),.int .i64 blk,.int .i64 n,.int .i64 n] 76)) w3.heap.size 76 [.pointer (some ⟨p,0,none⟩),.int .i64 blk,.int .i64 n,.int .i64 n]:=(blk1 w3 _).2
  have hb5:Below w3.heap.size w3 (w3.alloc (.cells #[.pointer (some ⟨p,0,none⟩),.int .i64 blk,.int .i64 n,.int .i64 n] 76)):=(Below.refl _ w3).alloc (Nat.le_refl _) _
  clear hn hb3 HB HG HD HB2
  go_wp2_with fail
  go_ret2
  generalize w3.alloc (.cells #[.pointer (some ⟨p,0,none⟩),.int .i64 blk,.int .i64 n,.int .i64 n] 76) = W5 at hr5 hb5 ⊢
  rw [HE.out]
  have hB5:=HB3.out.trans (hb5.mono HB3.out.size)
  have hlt1:=H1.out.lt (devF_of devBase) logF
  have hz3:=HB3.out.size
  refine .inl ⟨⟨l,n,n⟩,rfl,rfl,F1,w3.heap.size,p,rfl,⟨H1.out.kept (devF_of devBase) logF (fun k hk=>hB5.block k (hlt1 k hk)),hr5,fun hk=>?_⟩,?_⟩
  ·have:=hlt1 _ hk;omega
  ·exact ⟨hB5.os.trans HF1.out.os,hB5.tape.trans HF1.out.tape,hB5.output.trans HF1.out.output,Nat.le_trans HF1.out.size hB5.size,fun k hk hn=>(hB5.block k (Nat.lt_of_lt_of_le hk HF1.out.size)).trans (HF1.out.block k hk hn),fun k hk=>by
    have:=HF1.out.size
    rcases hk with hk | hk
    ·exact HF1.out.foot k hk
    ·exact .inr (by omega)⟩
end
section
variable {w W : World} {F : Nat → Prop} {b g p : Nat} {D : Dev} {blk : Int} {k : Cl}
theorem llast_any (h : LC w F b g p D blk k) : Calls Tryz.prog 12 #[.pointer (some ⟨b, 0, none⟩)] w fun e w' => e = .returned (.int .i64 k.last) ∧ w' = w := by
  have s2 := h.cel.cell (i := 2) rfl
  clear h
  go_enter Tryz.func12, Tryz.ntmps12
  go_wp2_with fail
  go_ret
  exact ⟨rfl, rfl⟩
theorem LC.drew (h : LC w F b g p D blk k) (n : Nat) : LC (w.drewN n) F b g p D blk k := h.below (devF_of devBase) logF (below_drewN (Below.refl _ w) n)
theorem lnext_any (h : LC w F b g p D blk k) (hi : LgIn D k.l) (hu : D.down = false) (ho : ClOk k) (hb1 : 1 ≤ blk) (hb2 : blk ≤ 4096) :
    Calls Tryz.prog 9 #[.pointer (some ⟨b, 0, none⟩)] w fun e w' => e = .returned (.tuple #[.int .i64 (nextC D k blk).2.2.1, .int .i64 (nextC D k blk).2.2.2]) ∧ CPost Sc.Rep Rd.LRep 76 w F b g p blk (nextC D k blk).1 (nextC D k blk).2.1 w' := by
  have HH := Lib.hid h
  have HI := Lib.hid (And.intro hi hu)
  have s1 := h.cel.cell (i := 1) rfl
  have s2 := h.cel.cell (i := 2) rfl
  have s3 := h.cel.cell (i := 3) rfl
  have o1 := ho.l0
  have o2 := ho.lb
  have o3 := ho.bm
  have hm := mx_eq
  by_cases hx : k.last = 1125899906842624
  · have HE := Lib.hid (show nextC D k blk = (D, k, 0, 160) by unfold nextC; exact if_pos (hx.trans hm.symm))
    rw [hx] at s2
    clear h hi hu ho hx o1 o2 o3 hm s1 s3
    go_enter Tryz.func9, Tryz.ntmps9
    go_wp2_with fail
    go_ret2
    rw [HE.out]
    exact ⟨rfl, F, HH.out, Fr.refl _ _⟩
  have hx' : ¬ k.last = mxS := by rw [hm]; exact hx
  have z0 : (k.last == 1125899906842624) = false := by simpa using hx
  by_cases hy : k.last = k.bound
  case neg =>
    have HE := Lib.hid (show nextC D k blk = (D, ⟨k.l, k.last + 1, k.bound⟩, k.last + 1, 0) by unfold nextC; rw [if_neg hx', if_neg hy])
    have z1 : (k.last == k.bound) = false := by simpa using hy
    have ws : IntKind.i64.wrap (k.last + 1) = k.last + 1 := i64_wrap (by omega) (by omega)
    have HP := Lib.hid (fun W (hb : Below w.heap.size w W) => show LC (W.setCell ⟨b, 2, none⟩ (.int .i64 (k.last + 1))) F b g p D blk ⟨k.l, k.last + 1, k.bound⟩ ∧ Fr (Tc F b) (Tc F b) w (W.setCell ⟨b, 2, none⟩ (.int .i64 (k.last + 1))) from
      ⟨(HH.out.below (devF_of devBase) logF hb).setLast (devF_of devBase) logF _, fr_set (fr_below (Fr.refl _ w) hb) (.inl (.inr rfl)) 2 _⟩)
    have fr := fun i => h.cel.free (i := i)
    clear h hi hu ho hx hx' hy o1 o2 o3 hm
    go_enter Tryz.func9, Tryz.ntmps9
    go_upto_region 3 with fail
    go_quiet (fail)
    have hbd : Below w.heap.size w (w.drewN nq) := below_drewN (Below.refl _ w) nq
    have s2' := (HH.out.drew nq).cel.cell (i := 2) rfl
    have fr' := fun i => (HH.out.drew nq).cel.free (i := i)
    have HQ := Lib.hid (HP.out _ hbd)
    have s4 := HQ.out.1.cel.cell (i := 2) rfl
    generalize w.drewN nq = W1 at hbd s2' fr' HQ s4 ⊢
    clear s1 s2 s3 fr hbd HP
    go_wp2_with fail
    go_ret2
    rw [HE.out]
    exact ⟨rfl, F, HQ.out.1, HQ.out.2⟩
  obtain ⟨n, hn⟩ : ∃ n, n = min (k.bound + blk) mxS := ⟨_, rfl⟩
  have hn1 : k.bound < n := by rw [hn]; omega
  have hn2 : n ≤ mxS := by rw [hn]; omega
  have HE := Lib.hid (show nextC D k blk = if (raiseC D k n).2.2 = 0 then ((raiseC D k n).1, ⟨(raiseC D k n).2.1.l, k.last + 1, (raiseC D k n).2.1.bound⟩, k.last + 1, 0) else ((raiseC D k n).1, (raiseC D k n).2.1, 0, (raiseC D k n).2.2) by unfold nextC; rw [if_neg hx', if_pos hy, hn])
  have z1 : (k.last == k.bound) = true := by simpa using hy
  have wa : IntKind.i64.wrap (k.bound + blk) = k.bound + blk := i64_wrap (by omega) (by omega)
  have ws : IntKind.i64.wrap (k.last + 1) = k.last + 1 := i64_wrap (by omega) (by omega)
  have wm : min (k.bound + blk) 1125899906842624 = n := by rw [hn, hm]
  have HT := Lib.hid (fun W (t : LC W F b g p D blk k) => ltake_any t HI.out.1 HI.out.2 n (by omega) hn2)
  have HL := Lib.hid (show (raiseC D k n).2.1.last = k.last from rfl)
  have HY := Lib.hid hy
  clear h hi hu ho hx hx' hy o1 o2 o3 hm hn hn1 hn2
  go_enter Tryz.func9, Tryz.ntmps9
  go_upto_region 3 with fail
  go_quiet (fail)
  have H1 := Lib.hid (HH.out.drew nq)
  have HB1 := Lib.hid (below_drewN (Below.refl w.heap.size w) nq)
  generalize w.drewN nq = W1 at H1 HB1 ⊢
  have t1 := H1.out.cel.cell (i := 1) rfl
  have t3 := H1.out.cel.cell (i := 3) rfl
  clear s1 s2 s3 HH
  go_upto_region 4 with fail
  go_region_with (first
    | (refine (HT.out _ (H1.out.below (devF_of devBase) logF (Below.refl _ _).drew)).mono ?_
       rintro e W2 ⟨rfl, F2, h2, hf2⟩
       have H2 := Lib.hid h2
       have HF2 := Lib.hid (Fr.after (HB1.out.trans ((Below.refl _ W1).drew.mono HB1.out.size)) hf2)
       clear h2 hf2 HT t1 t3))
  all_goals
    generalize raiseC D k n = R at H2 HE HL HF2 ⊢
    obtain ⟨D2, k2, er⟩ := R
    simp only at H2 HE HL ⊢
    by_cases h0 : er = 0
    · subst h0
      rw [if_pos rfl] at HE
      have u2 := H2.out.cel.cell (i := 2) rfl
      rw [HL.out] at u2
      have fr := fun i => H2.out.cel.free (i := i)
      have H3 := Lib.hid (H2.out.setLast (devF_of devBase) logF (k.last + 1))
      have HF3 := Lib.hid (fr_set HF2.out (b := b) (.inl (.inr rfl)) 2 (.int .i64 (k.last + 1)))
      have u4 := H3.out.cel.cell (i := 2) rfl
      go_wp2_with fail
      go_ret2
      rw [HE.out]
      exact ⟨rfl, F2, H3.out, HF3.out⟩
    · rw [if_neg h0] at HE
      have z : (er != 0) = true := by simpa using h0
      clear h0
      go_wp2_with fail
      go_ret2
      rw [HE.out]
      exact ⟨rfl, F2, H2.out, HF2.out⟩
end
end Ck
end Go.Proofs.YtlfkhlfkckfbpaaGreat
namespace Go.Proofs.YtlfkhlfkckfbpaaGreat
namespace Ck
open Rd Sc Rc
structure Wi (n:Nat) (D:Dev) (k:Cl) (N:Nat):Prop where
 id:Idle D
 cl:Sc.Clean D
 ok:DevOk D
 len:D.on.length = n
 lg:LgIn D k.l
 cnt:k.l.cnt ≤ N
 mn:k.l.mn = k.l.ts.length
 ld:loadC k.l.ts 0 = some k.bound
 ck:ClOk k
section
variable {n N M:Nat} {D:Dev} {k:Cl} {m blk:Int}
theorem one_frame (t:ByteArray):(allF [t]).length = t.size + 6:=by
 have h2:t.data.toList.length = t.size:=Array.length_toList
 unfold allF frs
 simp only [List.length_cons,List.length_nil,List.take_succ_cons,List.take_nil,List.drop_zero,List.flatMap_cons,List.flatMap_nil,List.append_nil,Su.frameL_len]
 omega
theorem raise_wi (h:Wi n D k N) (h8:8 ≤ n) (hN:N < 4611686018427387000) (h1:k.bound < m) (h2:m ≤ mxS) :
  ∃ D2 l2,raiseC D k m = (D2,⟨l2,k.last,m⟩,0) ∧ Wi n D2 ⟨l2,k.last,m⟩ (N + 1):=by
 have hb0:0 ≤ k.bound:=by have:=h.ck.l0;have:=h.ck.lb;omega
 have hsz:=up_size (n:=m) (by omega) h2
 have hc:=h.cnt
 have har:192 ≤ areaN D:=by
  unfold areaN
  rw [h.len]
  omega
 have hck:ClOk ⟨k.l,k.last,m⟩:=⟨h.ck.l0,by have:=h.ck.lb;show k.last ≤ m;omega,h2⟩
 by_cases hr:roomN D k.l < (upB m).size + 6
 ·have ha:appendP D k.l (upB m) = (k.l,100):=by
   unfold appendP
   rw [if_neg (by omega),if_pos hr]
  obtain ⟨D2,q1,q2,q3,q4,q5,q6⟩:=rst_idle h.id h.ok h.lg (by omega) [upB m] (fun t ht=>by rw [List.mem_singleton.1 ht];omega) (by rw [one_frame];omega)
  have hw:writeC D k.l (upB m) = (D2,⟨k.l.cnt + 1,1 - k.l.ar,allF [upB m],[upB m],1⟩,0):=by
   unfold writeC
   rw [ha]
   exact (if_pos rfl).trans q1
  refine ⟨D2,⟨k.l.cnt + 1,1 - k.l.ar,allF [upB m],[upB m],1⟩,?_,q2,q3,q4,q5.trans h.len,q6,by show k.l.cnt + 1 ≤ _;omega,rfl,load_one (by omega) h2,hck.l0,hck.lb,hck.bm⟩
  unfold raiseC
  rw [hw]
  rfl
 ·have ha:=app_fits (D:=D) (l:=k.l) (t:=upB m) (by omega) (by omega)
  have hi:=app_in h.ok h.lg (upB m)
  rw [ha] at hi
  obtain ⟨D2,q1,q2,q3,q4,q5,q6⟩:=sync_idle (l:=⟨k.l.cnt,k.l.ar,k.l.bs,k.l.ts ++ [upB m],k.l.mn⟩) h.id h.ok hi (by show k.l.cnt < _;omega) (by
   show k.l.mn ≠ (k.l.ts ++ [upB m]).length
   rw [List.length_append,h.mn]
   simp)
  have hw:=fun (l2:Lg) (e:syncP D ⟨k.l.cnt,k.l.ar,k.l.bs,k.l.ts ++ [upB m],k.l.mn⟩ = (D2,l2,0))=>show writeC D k.l (upB m) = (D2,l2,0) from by
   unfold writeC
   rw [ha]
   exact (if_neg (show ¬ (0:Int) = 100 by decide)).trans ((if_pos rfl).trans e)
  refine ⟨D2,_,?_,q2,q3,q4,q5.trans h.len,q6,by show k.l.cnt + 1 ≤ _;omega,rfl,load_up h.ld h1 hb0 h2,hck.l0,hck.lb,hck.bm⟩
  unfold raiseC
  rw [hw _ q1]
  rfl
theorem next_wi (h:Wi n D k N) (h8:8 ≤ n) (hN:N < 4611686018427387000) (hb:1 ≤ blk) (hl:k.last < mxS) :
  ∃ D2 l2 b2,nextC D k blk = (D2,⟨l2,k.last + 1,b2⟩,k.last + 1,0) ∧ Wi n D2 ⟨l2,k.last + 1,b2⟩ (N + 1) ∧ b2 = (if k.last = k.bound then min (k.bound + blk) mxS else k.bound):=by
 have h3:=h.ck.l0
 have h4:=h.ck.lb
 have h5:=h.ck.bm
 by_cases hy:k.last = k.bound
 ·obtain ⟨m,hm⟩:∃ m,m = min (k.bound + blk) mxS:=⟨_,rfl⟩
  obtain ⟨D2,l2,q1,q2⟩:=raise_wi h h8 hN (m:=m) (by rw [hm];omega) (by rw [hm];omega)
  refine ⟨D2,l2,m,?_,⟨q2.id,q2.cl,q2.ok,q2.len,q2.lg,q2.cnt,q2.mn,q2.ld,by show 0 ≤ k.last + 1;omega,by show k.last + 1 ≤ m;rw [hm];omega,by show m ≤ mxS;rw [hm];omega⟩,by rw [if_pos hy];exact hm⟩
  unfold nextC
  rw [if_neg (by omega),if_pos hy,← hm,q1]
  rfl
 ·refine ⟨D,k.l,k.bound,?_,⟨h.id,h.cl,h.ok,h.len,h.lg,by have:=h.cnt;show k.l.cnt ≤ _;omega,h.mn,h.ld,by show 0 ≤ k.last + 1;omega,by show k.last + 1 ≤ k.bound;omega,h5⟩,by rw [if_neg hy]⟩
  unfold nextC
  rw [if_neg (by omega),if_neg hy]
theorem open_some {D1:Dev} {l:Lg} {b:Int} {e:Int} (h:openP D = (D1,some l,e)) (hl:loadC l.ts 0 = some b) (h1:1 ≤ blk) (h2:blk ≤ 4096):openC D blk = (D1,some ⟨l,b,b⟩,0):=by
 unfold openC
 rw [if_neg (by omega),h]
 simp only [hl]
theorem fresh_wi (h8:8 ≤ n) (hm:n ≤ 2048) (h1:1 ≤ blk) (h2:blk ≤ 4096):∃ D1,openC (new0 n) blk = (D1,some ⟨⟨1,0,[],[],0⟩,0,0⟩,0) ∧ Wi n D1 ⟨⟨1,0,[],[],0⟩,0,0⟩ 1:=by
 obtain ⟨D1,q1,q2,q3,q5,q6,q7⟩:=fresh_open (n:=n) (by omega) hm
 exact ⟨D1,open_some q1 rfl h1 h2,q2,q3,q5,q6,q7,Nat.le_refl _,rfl,rfl,by decide,by decide,by decide⟩
theorem crash_wi (h:Wi n D k N) (hN:N ≤ 4611686018427387904) (h1:1 ≤ blk) (h2:blk ≤ 4096) (ps:List Int):∃ l',openC (crD D ps) blk = (crD D ps,some ⟨l',k.bound,k.bound⟩,0) ∧ Wi n (crD D ps) ⟨l',k.bound,k.bound⟩ N:=by
 have q:=reopen_crash h.ok h.lg h.cl (Nat.le_trans h.cnt hN) ps
 have hl:(k.l.ts.take k.l.mn) = k.l.ts:=by rw [h.mn,List.take_length]
 rw [hl] at q
 have e:(⟨k.l.cnt,k.l.ar,k.l.bs,k.l.ts,k.l.mn⟩:Lg) = k.l:=rfl
 rw [e] at q
 have h5:=h.ck.bm
 have h3:=h.ck.l0
 have h4:=h.ck.lb
 exact ⟨k.l,open_some q h.ld h1 h2,cr_idle _ _,cr_clean h.ok.len _,crD_ok h.ok ps,(cr_len _ _).trans h.len,h.lg.seen (cr_len _ _) (fun j hj=>cr_view h.ok.len h.cl ps hj),h.cnt,h.mn,h.ld,by show 0 ≤ k.bound;omega,Int.le_refl _,h5⟩
end
end Ck
end Go.Proofs.YtlfkhlfkckfbpaaGreat
namespace Go.Proofs.YtlfkhlfkckfbpaaGreat
namespace Ck
open Go.RowKit Bk Sc Rd Rc Lt
attribute [local go_sem ↓] Go.wp_at_zero Go.wp_at_succ
attribute [local go_sem] floatUpon pick
structure Ow (w0 W:World) (P:Nat → Prop):Prop where
 bF:∀ k,P k → w0.heap.size ≤ k
 bel:Below w0.heap.size w0 W
section
variable {w0 W W':World} {P Q:Nat → Prop}
theorem Ow.act (h:Ow w0 W P) (h2:Fr P Q W W'):Ow w0 W' Q :=
 ⟨fun k hk=>(h2.foot k hk).elim (h.bF k) (fun hs=>Nat.le_trans h.bel.size hs),h.bel.trans (h2.belowB h.bF h.bel.size)⟩
theorem Ow.step (h:Ow w0 W P) (hb:Below W.heap.size W W'):Ow w0 W' P:=⟨h.bF,h.bel.trans (hb.mono h.bel.size)⟩
end
theorem opn_some {Rep:RepT} {LRep:LRepT} {t:TypeId} {w w':World} {F:Nat → Prop} {g:Nat} {D D1:Dev} {k:Cl} {blk:Int} {e:Ending} (h:OPost Rep LRep t w F g blk (openC D blk) e w') (ho:openC D blk = (D1,some k,0)) :
  ∃ (F':Nat → Prop) (b p:Nat),e = .returned (.tuple #[.pointer (some ⟨b,0,none⟩),.int .i64 0]) ∧ CAt Rep LRep t w' F' b g p D1 blk k ∧ Fr F (Tc F' b) w w':=by
 rw [ho] at h
 rcases h with ⟨k1,h1,-,h2⟩ | ⟨h1,-⟩
 ·obtain rfl:=Option.some.inj h1
  exact h2
 ·cases h1
section
variable {w W:World} {F:Nat → Prop} {b g p n N:Nat} {D:Dev} {blk:Int} {k:Cl}
theorem next_run (h:LC w F b g p D blk k) (hw:Wi n D k N) (h8:8 ≤ n) (hN:N < 4611686018427387000) (hb1:1 ≤ blk) (hb2:blk ≤ 4096) (hl:k.last < mxS) :
  Calls Tryz.prog 9 #[.pointer (some ⟨b,0,none⟩)] w fun e w'=>e = .returned (.tuple #[.int .i64 (k.last + 1),.int .i64 0]) ∧ ∃ D2 l2 b2 F',Wi n D2 ⟨l2,k.last + 1,b2⟩ (N + 1) ∧ LC w' F' b g p D2 blk ⟨l2,k.last + 1,b2⟩ ∧ Fr (Tc F b) (Tc F' b) w w' ∧ Hid (b2 = (if k.last = k.bound then min (k.bound + blk) mxS else k.bound)):=by
 obtain ⟨D2,l2,b2,q1,q2,q3⟩:=next_wi hw h8 hN hb1 hl
 have:=lnext_any h hw.lg hw.id.2 hw.ck hb1 hb2
 rw [q1] at this
 refine this.mono ?_
 rintro e w' ⟨rfl,F',r1,r2⟩
 exact ⟨rfl,D2,l2,b2,F',q2,r1,r2,Lib.hid q3⟩
end
end Ck
end Go.Proofs.YtlfkhlfkckfbpaaGreat
namespace Go.Proofs.YtlfkhlfkckfbpaaGreat
namespace Ls
structure Le where
 n:Int
 t:Int
 u:Int
def le0:Le:=⟨0,0,0⟩
def g (l:List Le) (k:Nat):Le:=l.getD k le0
theorem g_lt {l:List Le} {k:Nat} (h:k < l.length):g l k = l[k]:=by
 unfold g;rw [List.getD_eq_getElem?_getD,List.getElem?_eq_getElem h];rfl
theorem g_at {l:List Le} {k:Nat} {x:Le} (h:l[k]? = some x):g l k = x:=by
 unfold g;rw [List.getD_eq_getElem?_getD,h];rfl
theorem at_g {l:List Le} {k:Nat} (h:k < l.length):l[k]? = some (g l k):=by
 rw [g_lt h,List.getElem?_eq_getElem h]
structure Tb where
 long:Int
 many:Int
 L:List Le
def okT (x:Int):Prop:=0 ≤ x ∧ x ≤ 1099511627776
def okS (x:Int):Prop:=0 ≤ x ∧ x ≤ 1125899906842624
instance (x:Int):Decidable (okT x):=by unfold okT;infer_instance
instance (x:Int):Decidable (okS x):=by unfold okS;infer_instance
def lv (L:List Le) (now:Int):List Le:=L.filter (fun x=>decide (now ≤ x.u))
def nu (L:List Le) (n:Int):Nat:=L.findIdx (fun x=>decide (x.n = n))
def minT:List Le → Int → Int
 | [],m=>m
 | x :: r,m=>minT r (min m x.t)
def takeB (D:Tb) (now ts:Int):Tb × Int × Int :=
 if ¬ (okT now ∧ okS ts) then (D,0,1) else if 1024 ≤ (lv D.L now).length then (D,0,2) else (⟨D.long,D.many + 1,lv D.L now ++ [⟨D.many + 1,ts,now + D.long⟩]⟩,D.many + 1,0)
def checkB (D:Tb) (now n:Int):Int × Int :=
 if ¬ okT now then (0,1) else if D.L.length ≤ nu D.L n then (0,5) else if (g D.L (nu D.L n)).u < now then (0,170) else ((g D.L (nu D.L n)).t,0)
def lowB (D:Tb) (now last:Int):Int × Int:=if ¬ (okT now ∧ okS last) then (0,1) else (minT (lv D.L now) last,0)
theorem lv_snoc {L:List Le} {j:Nat} (h:j < L.length) (now:Int):lv (L.take (j + 1)) now = if now ≤ (g L j).u then lv (L.take j) now ++ [g L j] else lv (L.take j) now:=by
 unfold lv
 rw [List.take_succ_eq_append_getElem h,List.filter_append,← g_lt h]
 by_cases e:now ≤ (g L j).u
 ·rw [if_pos e];simp [e]
 ·rw [if_neg e];simp [e]
theorem minT_snoc:∀ (l:List Le) (x:Le) (m:Int),minT (l ++ [x]) m = min (minT l m) x.t
 | [],_,_=>rfl
 | _ :: r,x,_=>minT_snoc r x _
theorem lv_len (L:List Le) (now:Int):(lv L now).length ≤ L.length:=List.length_filter_le _ _
theorem nu_at {L:List Le} {n:Int} (h:nu L n < L.length):(g L (nu L n)).n = n:=by
 unfold nu at h ⊢
 have:=List.findIdx_getElem (p:=fun x:Le=>decide (x.n = n)) (w:=h)
 rw [g_lt h]
 simpa using this
end Ls
end Go.Proofs.YtlfkhlfkckfbpaaGreat
namespace Go.Proofs.YtlfkhlfkckfbpaaGreat
namespace Ll
open Ls
structure Ok (D:Tb):Prop where
 lo:0 ≤ D.long
 hi:D.long ≤ 1048576
 many:0 ≤ D.many
 len:D.L.length ≤ 1024
 nums:∀ x ∈ D.L,1 ≤ x.n ∧ x.n ≤ D.many
 rise:(D.L.map Le.n).Pairwise (· < ·)
theorem Ok.new {long:Int} (h:0 ≤ long ∧ long ≤ 1048576):Ok ⟨long,0,[]⟩:=⟨h.1,h.2,Int.le_refl _,by simp,fun x hx=>by simp at hx,by simp⟩
theorem Ok.take {D:Tb} (h:Ok D) (now ts:Int):Ok (takeB D now ts).1:=by
 unfold takeB
 split
 ·exact h
 ·split
  ·exact h
  ·refine ⟨h.lo,h.hi,?_,?_,?_,?_⟩
   ·have:=h.many;show 0 ≤ D.many + 1;omega
   ·rw [List.length_append,List.length_singleton];omega
   ·intro x hx
    have hm:=h.many
    rcases List.mem_append.1 hx with hx | hx
    ·have:=h.nums x (List.mem_filter.1 hx).1
     show 1 ≤ x.n ∧ x.n ≤ D.many + 1
     omega
    ·obtain rfl:x = _:=by simpa using hx
     show 1 ≤ D.many + 1 ∧ D.many + 1 ≤ D.many + 1
     omega
   ·show ((lv D.L now ++ [_]).map Le.n).Pairwise _
    rw [List.map_append,List.pairwise_append]
    refine ⟨h.rise.sublist (List.Sublist.map _ List.filter_sublist),by simp,fun a ha b hb=>?_⟩
    obtain ⟨x,hx,rfl⟩:=List.mem_map.1 ha
    obtain rfl:b = D.many + 1:=by simpa using hb
    have:=(h.nums x (List.mem_filter.1 hx).1).2
    omega
theorem rise_at {L:List Le} (h:(L.map Le.n).Pairwise (· < ·)) {i j:Nat} (hij:i < j) (hj:j < L.length):(g L i).n < (g L j).n:=by
 have:=List.pairwise_iff_getElem.1 h i j (by rw [List.length_map];omega) (by rw [List.length_map];exact hj) hij
 rw [List.getElem_map,List.getElem_map] at this
 rw [g_lt (by omega),g_lt hj]
 exact this
structure Mid (L:List Le) (n:Int) (i j:Nat):Prop where
 le:i ≤ j
 ln:j ≤ L.length
 low:∀ k,k < i → (g L k).n < n
 high:∀ k,j ≤ k → k < L.length → n ≤ (g L k).n
theorem Mid.start (L:List Le) (n:Int):Mid L n 0 L.length:=⟨Nat.zero_le _,Nat.le_refl _,fun k h=>by omega,fun k h h2=>by omega⟩
theorem Mid.left {L:List Le} {n:Int} {i j m:Nat} (h:Mid L n i j) (hr:(L.map Le.n).Pairwise (· < ·)) (hmj:m < j) (hn:(g L m).n < n):Mid L n (m + 1) j:=by
 refine ⟨by omega,h.ln,fun k hk=>?_,h.high⟩
 by_cases e:k = m
 ·subst e;exact hn
 ·have:=rise_at hr (i:=k) (j:=m) (by omega) (by have:=h.ln;omega)
  omega
theorem Mid.right {L:List Le} {n:Int} {i j m:Nat} (h:Mid L n i j) (hr:(L.map Le.n).Pairwise (· < ·)) (him:i ≤ m) (hmj:m < j) (hn:¬ (g L m).n < n):Mid L n i m:=by
 refine ⟨him,by have:=h.ln;omega,h.low,fun k hk hl=>?_⟩
 by_cases e:k = m
 ·subst e;omega
 ·have:=rise_at hr (i:=m) (j:=k) (by omega) hl
  omega
theorem nu_lt {L:List Le} {n:Int} {i:Nat} (hi:i < L.length) (e:(g L i).n = n):nu L n < L.length :=
 List.findIdx_lt_length_of_exists ⟨g L i,by rw [g_lt hi];exact List.getElem_mem hi,by simpa using e⟩
theorem Mid.done {L:List Le} {n:Int} {i:Nat} (h:Mid L n i i) (hr:(L.map Le.n).Pairwise (· < ·)):(nu L n < L.length ↔ (i < L.length ∧ (g L i).n = n)) ∧ (nu L n < L.length → nu L n = i):=by
 have key:nu L n < L.length → nu L n = i:=fun hl=>by
  have e:=nu_at hl
  have h1:¬ nu L n < i:=fun q=>by have:=h.low _ q;omega
  have h2:¬ i < nu L n:=fun q=>by
   have h3:=h.high i (Nat.le_refl _) (by omega)
   have h4:=rise_at hr q hl
   omega
  omega
 exact ⟨⟨fun hl=>by rw [← key hl];exact ⟨hl,nu_at hl⟩,fun ⟨hi,e⟩=>nu_lt hi e⟩,key⟩
section
variable {D:Tb} {s U U':Nat → Int} {c:Nat} {now:Int}
end
section
variable {T E:Nat → Nat} {n now i c:Nat} {long:Int}
end
end Ll
end Go.Proofs.YtlfkhlfkckfbpaaGreat
namespace Go.Proofs.YtlfkhlfkckfbpaaGreat
namespace Tp
open Ls Ll Ch
def Live (L:List Vr):Prop:=∀ x ∈ L,x.dead = false
theorem at_more {l m:List Vr} (h:l.Pairwise (fun x y=>x.ts < y.ts)) {t:Int} (hm:∀ x ∈ m,t < x.ts):atV (l ++ m) t = atV l t:=by
 obtain ⟨a,b,rfl,ha,hb,-⟩:=parts h t
 rw [List.append_assoc,at_is ha (fun x hx=>(List.mem_append.1 hx).elim (hb x) (hm x)),at_is ha hb]
theorem at_sweep {l:List Vr} (h:ChOk l) (hl:Live l) {low t:Int} (hle:low ≤ t):atV (sweepL l low) t = atV l t:=by
 obtain ⟨a,b,rfl,ha,hb,-⟩:=parts h.rise low
 obtain ⟨c,d,rfl,hc,hd,-⟩:=parts (List.pairwise_append.1 h.rise).2.1 t
 have ha2:∀ x ∈ a,x.ts ≤ t:=fun x hx=>Int.le_trans (ha x hx) hle
 rw [sweep_is ha hb,← List.append_assoc,← List.append_assoc,at_is (app_le (keep_le ha2) hc) hd,at_is (app_le ha2 hc) hd]
 rcases List.eq_nil_or_concat c with rfl | ⟨c',x,rfl⟩
 ·rw [List.append_nil,List.append_nil]
  rcases List.eq_nil_or_concat a with rfl | ⟨a',y,rfl⟩
  ·rfl
  ·have hy:=hl y (by simp)
   unfold keepL
   rw [List.concat_eq_append,List.getLast?_concat]
   simp only
   rw [if_neg (by rw [hy];decide)]
   rfl
 ·rw [List.concat_eq_append,← List.append_assoc,← List.append_assoc,List.getLast?_concat,List.getLast?_concat]
structure Sn where
 n:Int
 t:Int
 v:Vr
 o:Bool
structure Kept (D:Tb) (L:List Vr) (S:List Sn) (last:Int) (now:Int):Prop where
 ok:Ok D
 ch:ChOk L
 liv:Live L
 top:∀ x ∈ L,x.ts ≤ last
 last0:0 ≤ last
 num:∀ s ∈ S,s.n ≤ D.many
 ts:∀ s ∈ S,0 ≤ s.t ∧ s.t ≤ last
 own:∀ s ∈ S,∀ e ∈ D.L,e.n = s.n → e.t = s.t
 reads:∀ s ∈ S,∀ e ∈ D.L,e.n = s.n → now ≤ e.u → atV L s.t = (s.v,s.o)
section
variable {D:Tb} {L:List Vr} {S:List Sn} {last now:Int}
theorem Kept.start {a:Int} (h:0 ≤ a ∧ a ≤ 1048576):Kept ⟨a,0,[]⟩ [] [] 0 0 :=
 ⟨Ok.new h,⟨by simp,by simp,by simp⟩,fun x h=>by simp at h,fun x h=>by simp at h,Int.le_refl _,fun s h=>by simp at h,fun s h=>by simp at h,fun s h=>by simp at h,fun s h=>by simp at h⟩
theorem Kept.tick (h:Kept D L S last now):Kept D L S last (now + 1) :=
 ⟨h.ok,h.ch,h.liv,h.top,h.last0,h.num,h.ts,h.own,fun s hs e he hn hu=>h.reads s hs e he hn (by omega)⟩
theorem Kept.add (h:Kept D L S last now) (hl:L.length < 1024) {sh:ByteArray} (hs:sh.size ≤ 2052) (hm:last + 1 ≤ 1125899906842624):addP L ⟨last + 1,sh,false⟩ = (L ++ [⟨last + 1,sh,false⟩],0) ∧ Kept D (L ++ [⟨last + 1,sh,false⟩]) S (last + 1) now:=by
 have h0:=h.last0
 have hv:vrOk ⟨last + 1,sh,false⟩:=⟨by show 1 ≤ last + 1;omega,hm,hs,fun q=>by cases q.1⟩
 have hlt:lastT L < last + 1:=by
  unfold lastT
  cases hg:L.getLast? with
  | none=>show (0:Int) < _;omega
  | some x=>have:=h.top x (List.mem_of_getLast? hg);show x.ts < _;omega
 have ha:addP L ⟨last + 1,sh,false⟩ = (L ++ [⟨last + 1,sh,false⟩],0):=by
  unfold addP
  rw [if_neg (by rw [(chk_ok (l:=L)).2 h.ch];simp),if_neg (by rw [(chk_ok (l:=[⟨last + 1,sh,false⟩])).2 ⟨by simp,by simpa using hv,by simp⟩];simp),if_neg (by show ¬ (_ ∧ last + 1 ≤ lastT L);omega),if_neg (by omega)]
 refine ⟨ha,h.ok,(added (by rw [ha])).1.more,fun x hx=>?_,fun x hx=>?_,by omega,h.num,fun s hs=>by have:=h.ts s hs;omega,h.own,fun s hs e he hn hu=>?_⟩
 ·rcases List.mem_append.1 hx with q | q
  ·exact h.liv x q
  ·obtain rfl:x = _:=by simpa using q
   rfl
 ·rcases List.mem_append.1 hx with q | q
  ·have:=h.top x q;omega
  ·obtain rfl:x = _:=by simpa using q
   exact Int.le_refl _
 ·rw [at_more h.ch.rise (fun x hx=>by
   obtain rfl:x = _:=by simpa using hx
   have:=h.ts s hs
   show s.t < last + 1
   omega)]
  exact h.reads s hs e he hn hu
theorem Kept.snap (h:Kept D L S last now) (hn:okT now) (hs:okS last) (hl:D.L.length < 1024):takeB D now last = (⟨D.long,D.many + 1,lv D.L now ++ [⟨D.many + 1,last,now + D.long⟩]⟩,D.many + 1,0) ∧ Kept (takeB D now last).1 L (S ++ [⟨D.many + 1,last,(atV L last).1,(atV L last).2⟩]) last now ∧ (takeB D now last).1.L.length ≤ D.L.length + 1:=by
 have hlen:(lv D.L now).length ≤ D.L.length:=lv_len _ _
 have ht:takeB D now last = (⟨D.long,D.many + 1,lv D.L now ++ [⟨D.many + 1,last,now + D.long⟩]⟩,D.many + 1,0):=by
  unfold takeB
  rw [if_neg (fun q=>q ⟨hn,hs⟩),if_neg (by omega)]
 have hok:=h.ok.take now last
 rw [ht] at hok
 have hm:=h.ok.many
 rw [ht]
 refine ⟨rfl,⟨hok,h.ch,h.liv,h.top,h.last0,fun s hs=>?_,fun s hs=>?_,fun s hs e he hn=>?_,fun s hs e he hn hu=>?_⟩,by rw [List.length_append,List.length_singleton];omega⟩
 ·rcases List.mem_append.1 hs with q | q
  ·have:=h.num s q;show s.n ≤ D.many + 1;omega
  ·obtain rfl:s = _:=by simpa using q
   exact Int.le_refl _
 ·rcases List.mem_append.1 hs with q | q
  ·exact h.ts s q
  ·obtain rfl:s = _:=by simpa using q
   exact ⟨h.last0,Int.le_refl _⟩
 ·rcases List.mem_append.1 hs with q | q <;> rcases List.mem_append.1 he with r | r
  ·exact h.own s q e (List.mem_filter.1 r).1 hn
  ·obtain rfl:e = _:=by simpa using r
   have:=h.num s q
   have hn:D.many + 1 = s.n:=hn
   omega
  ·obtain rfl:s = _:=by simpa using q
   have:=(h.ok.nums e (List.mem_filter.1 r).1).2
   have hn:e.n = D.many + 1:=hn
   omega
  ·obtain rfl:s = _:=by simpa using q
   obtain rfl:e = _:=by simpa using r
   rfl
 ·rcases List.mem_append.1 hs with q | q <;> rcases List.mem_append.1 he with r | r
  ·exact h.reads s q e (List.mem_filter.1 r).1 hn hu
  ·obtain rfl:e = _:=by simpa using r
   have:=h.num s q
   have hn:D.many + 1 = s.n:=hn
   omega
  ·obtain rfl:s = _:=by simpa using q
   have:=(h.ok.nums e (List.mem_filter.1 r).1).2
   have hn:e.n = D.many + 1:=hn
   omega
  ·obtain rfl:s = _:=by simpa using q
   rfl
theorem minT_le:∀ (l:List Le) (m:Int),minT l m ≤ m ∧ ∀ e ∈ l,minT l m ≤ e.t
 | [],m=>⟨Int.le_refl _,fun e h=>by simp at h⟩
 | x :: r,m=>by
  obtain ⟨h1,h2⟩:=minT_le r (min m x.t)
  refine ⟨?_,fun e he=>?_⟩
  ·show minT r (min m x.t) ≤ m;omega
  ·show minT r (min m x.t) ≤ e.t
   rcases List.mem_cons.1 he with rfl | he
   ·omega
   ·exact h2 e he
theorem Kept.sweep (h:Kept D L S last now) (hn:okT now) (hs:okS last):∃ low,lowB D now last = (low,0) ∧ sweepP L low = (sweepL L low,0) ∧ Kept D (sweepL L low) S last now ∧ (sweepL L low).length ≤ L.length:=by
 have hsub:(sweepL L (minT (lv D.L now) last)).Sublist L:=sweep_sub _
 refine ⟨minT (lv D.L now) last,by unfold lowB;rw [if_neg (fun q=>q ⟨hn,hs⟩)],?_,⟨h.ok,ok_sub h.ch hsub,fun x hx=>h.liv x (hsub.subset hx),fun x hx=>h.top x (hsub.subset hx),h.last0,h.num,h.ts,h.own,fun s hs e he hne hu=>?_⟩,hsub.length_le⟩
 ·unfold sweepP
  rw [if_neg (by rw [(chk_ok (l:=L)).2 h.ch];simp)]
 ·rw [at_sweep h.ch h.liv]
  ·exact h.reads s hs e he hne hu
  ·have:=(minT_le (lv D.L now) last).2 e (List.mem_filter.2 ⟨he,by simpa using hu⟩)
   rw [h.own s hs e he hne] at this
   exact this
theorem Kept.later (h:Kept D L S last now) {m:Int} (hm:last ≤ m):Kept D L S m now :=
 ⟨h.ok,h.ch,h.liv,fun x hx=>Int.le_trans (h.top x hx) hm,Int.le_trans h.last0 hm,h.num,fun s hs=>⟨(h.ts s hs).1,Int.le_trans (h.ts s hs).2 hm⟩,h.own,h.reads⟩
theorem Kept.look (h:Kept D L S last now) {s:Sn} (hs:s ∈ S) (hc:(checkB D now s.n).2 = 0):atP L s.t = (s.v,s.o,0):=by
 have hn:okT now:=Classical.byContradiction fun q=>by unfold checkB at hc;rw [if_pos q] at hc;cases hc
 have hl:nu D.L s.n < D.L.length:=Classical.byContradiction fun q=>by unfold checkB at hc;rw [if_neg (fun q=>q hn),if_pos (by omega)] at hc;cases hc
 have hu:now ≤ (g D.L (nu D.L s.n)).u:=Classical.byContradiction fun q=>by unfold checkB at hc;rw [if_neg (fun q=>q hn),if_neg (by omega),if_pos (by omega)] at hc;cases hc
 have hr:=h.reads s hs _ (by rw [g_lt hl];exact List.getElem_mem hl) (nu_at hl) hu
 unfold atP
 rw [if_neg (by rw [(chk_ok (l:=L)).2 h.ch];simp),hr]
end
end Tp
end Go.Proofs.YtlfkhlfkckfbpaaGreat
namespace Go.Proofs.YtlfkhlfkckfbpaaGreat
namespace Ls
open Go.RowKit Bk
attribute [local go_sem ↓] Go.wp_at_zero Go.wp_at_succ
attribute [local go_sem] floatUpon pick
def leC (x:Le):List Value:=[.int .i64 x.n,.int .i64 x.t,.int .i64 x.u]
theorem fl_len (l:List Le):(l.flatMap leC).length = l.length * 3:=by
 induction l with
 | nil=>rfl
 | cons x r ih=>rw [List.flatMap_cons,List.length_append,ih,List.length_cons];show 3 + _ = _;omega
theorem fl_at:∀ {l:List Le} {k:Nat} {x:Le} (_:l[k]? = some x) {j:Nat} (_:j < 3),(l.flatMap leC)[k * 3 + j]? = (leC x)[j]?
 | [],k,x,h,j,_=>by simp at h
 | y :: r,0,x,h,j,hj=>by
  obtain rfl:y = x:=by simpa using h
  rw [List.flatMap_cons,Nat.zero_mul,Nat.zero_add,List.getElem?_append_left (by show j < 3;exact hj)]
 | y :: r,k + 1,x,h,j,hj=>by
  rw [List.flatMap_cons,List.getElem?_append_right (by show 3 ≤ _;omega)]
  rw [show (k + 1) * 3 + j - (leC y).length = k * 3 + j by show _ - 3 = _;omega]
  exact fl_at (by simpa using h) hj
theorem run_append_optN {P:Program} (w:World) (base:Nat) (t ty e:TypeId) (i:TypeInfo) (z:Value) (sz bytes:Nat) (ht:P.underlying t = some (.slice e)) (hi:P.info? e = some i) (hz:i.zero = some z)
  (hsize:i.size = sz) (hby:i.bytes = bytes) (hzs:z.cells.size = sz) (h0:0 < sz) (v:Value) (n:Nat) (xs:List Value) (hown:w.ownsRow base e sz v n xs)
  (A:Option Addr) (m c:Nat) (news:List Value) (hl:news.length = m * sz) (hA:A = none → m = 0 ∧ c = 0) (hnews:∀ ad,A = some ad → ∀ j u,news[j]? = some u → w.cell? (ad.add j) = some u) (h1:∀ u ∈ news,u.oneCell' = true)
  (h63:n + m ≤ maxLen) (hbytes:(n + m) * bytes ≤ 140737488355328) (hbase:base ≤ w.heap.size) :
  ∃ v' w',(Builtin.append_ #[t,t] ty #[v,.slice A m c]).run P w = .ok v' w' ∧ w'.ownsRow base e sz v' (n + m) (xs ++ news) ∧ w.grownBy w' v.ownBlock ∧ (v'.ownBlock = v.ownBlock ∨ v'.ownBlock = some w.heap.size):=by
 cases A with
 | none =>
  obtain ⟨rfl,rfl⟩:=hA rfl
  obtain rfl:news = []:=List.eq_nil_of_length_eq_zero (by omega)
  exact ⟨v,w,run_append_owned_none (P:=P) w base t ty e i sz ht hi _ _ _ hown,by rw [List.append_nil];exact hown,⟨rfl,rfl,rfl,Nat.le_refl _,fun _ _ _=>rfl⟩,.inl rfl⟩
 | some ad =>
  obtain ⟨v',w',hr,h2,h3,_,h5⟩:=run_append_own_at (P:=P) w base t ty e i z sz bytes ht hi hz hsize hby hzs h0 v n xs hown ad m c news hl (hnews ad rfl) h1 h63 hbytes hbase
  exact ⟨v',w',hr,h2,h3,h5⟩
theorem grow_put (W:World) (b o:Nat) (v:Value):W.grownBy (W.setCell ⟨b,o,none⟩ v) (some b) :=
 ⟨rfl,rfl,rfl,by simp [World.setCell],fun k _ hn=>Below.heap_setCell _ ⟨b,o,none⟩ _ k (fun e=>hn (by rw [e]))⟩
def GrN (H:Nat) (T:TypeId) (pre us:List Value) (W W':World):Prop :=
 Below W.heap.size W W' ∨ ∃ (g:Nat) (cur:Array Value),H ≤ g ∧ W.heap[g]? = some (.cells cur T (0,0)) ∧ pre.length + us.length ≤ cur.size ∧ cur.toList.take pre.length = pre ∧ W' = W.setRow g (pre ++ us ++ cur.toList.drop (pre.length + us.length)).toArray
section
variable {T:TypeId} {H:Nat} {pre us:List Value} {w W W':World}
theorem GrN.row {B n sz:Nat} {v:Value} {xs:List Value} (h:W.ownsRow B T sz v n xs) (hx:xs = pre ∨ xs = pre ++ us) (hk:GrN H T pre us W W'):W'.ownsRow B T sz v n xs:=by
 rcases hk with hb | ⟨g,cur,hH',hg,hz,ht,rfl⟩
 ·exact st_keep h hb
 ·refine ⟨h.1,?_⟩
  rcases h.2 with h' | ⟨g2,cap2,cur2,hv,hH,hg2,h1,h2,h3,h4⟩
  ·exact .inl h'
  ·right
   by_cases e:g2 = g
   ·subst e
    rw [hg] at hg2
    simp only [Option.some.injEq,Obj.cells.injEq,and_true] at hg2
    obtain rfl:=hg2
    refine ⟨g2,cap2,_,hv,hH,setRow_heap W g2 _ _ T _ hg,h1,h2,?_,?_⟩
    ·rw [← h3]
     simp only [List.size_toArray,List.length_append,List.length_drop,Array.length_toList]
     omega
    ·rw [List.toList_toArray]
     have hl:xs.length = n * sz:=h.1
     rcases hx with rfl | rfl
     ·rw [List.append_assoc,List.take_append_of_le_length (by omega),List.take_of_length_le (by omega)]
     ·rw [List.take_append_of_le_length (by omega),List.take_of_length_le (by omega)]
   ·exact ⟨g2,cap2,cur2,hv,hH,(setRow_other W g g2 _ e).trans hg2,h1,h2,h3,h4⟩
theorem run_growN {P:Program} {bytes sz n m c:Nat} {A:Option Addr} {t ty:TypeId} {i:TypeInfo} {z v:Value} (ht:P.underlying t = some (.slice T)) (hi:P.info? T = some i) (hz:i.zero = some z) (hsize:i.size = sz) (hby:i.bytes = bytes) (hzs:z.cells.size = sz) (h0:0 < sz)
  (hown:W.ownsRow H T sz v n pre) (hl:us.length = m * sz) (hA:A = none → m = 0 ∧ c = 0) (hnews:∀ ad,A = some ad → ∀ j u,us[j]? = some u → W.cell? (ad.add j) = some u) (h1:∀ u ∈ us,u.oneCell' = true)
  (h63:n + m ≤ maxLen) (hbytes:(n + m) * bytes ≤ 140737488355328) (hbase:H ≤ W.heap.size) :
  ∃ v' W',(Builtin.append_ #[t,t] ty #[v,.slice A m c]).run P W = .ok v' W' ∧ W'.ownsRow H T sz v' (n + m) (pre ++ us) ∧ GrN H T pre us W W':=by
 obtain ⟨v',w',hrun,h2,h3,h5⟩:=run_append_optN (P:=P) W H t ty T i z sz bytes ht hi hz hsize hby hzs h0 v n pre hown A m c us hl hA hnews h1 h63 hbytes hbase
 refine ⟨v',w',hrun,h2,?_⟩
 have hpl:pre.length = n * sz:=hown.1
 cases A with
 | none =>
  obtain ⟨rfl,rfl⟩:=hA rfl
  have hr2:=run_append_owned_none (P:=P) W H t ty T i sz ht hi _ _ _ hown
  rw [hrun] at hr2
  simp only [Result.ok.injEq] at hr2
  left
  rw [hr2.2];exact Below.refl _ _
 | some ad =>
  rcases hown.2 with ⟨h',h''⟩ | ⟨g,cap,cur,hv,hbg,hg,hnc,hcm,hcs,htake⟩
  ·subst h'
   left
   exact ⟨h3.os,h3.tape,h3.output,h3.size,fun k hk=>h3.block k hk (by simp [Value.ownBlock])⟩
  ·subst hv
   by_cases hroom:n + m ≤ cap
   ·have hr2:=run_append_room (P:=P) W t ty T i ht hi g n cap cur hg ad m c us (by rw [hsize];omega) (hnews ad rfl) h1 hroom (by rw [hsize,hcs,hl,← Nat.add_mul];exact Nat.mul_le_mul_right _ hroom)
    rw [hrun] at hr2
    simp only [Result.ok.injEq] at hr2
    refine .inr ⟨g,cur,hbg,hg,by rw [hpl,hl,hcs,← Nat.add_mul];exact Nat.mul_le_mul_right _ hroom,by rw [hpl];exact htake,?_⟩
    rw [hr2.2,hsize,htake,hpl]
   ·have hr2:=run_append_grow (P:=P) W t ty T i z ht hi hz ⟨g,0,none⟩ n cap pre (by rw [hsize];exact hpl) (hown.cells (g:=g) rfl) ad m c us (by rw [hsize];exact hl) (hnews ad rfl) (by omega) (by unfold maxLen at h63;omega) (growslice_fits (by unfold maxLen at h63;omega) (by rw [hby];exact hbytes))
    rw [hrun] at hr2
    simp only [Result.ok.injEq] at hr2
    left
    rw [hr2.2]
    exact (Below.refl _ W).drew.alloc (by simp) _
end
theorem GrN.one {H:Nat} {T:TypeId} {pre us:List Value} {p:Nat} {W W':World} (h:W.heap[p]? = some (.cells us.toArray T (0,0))) (hk:GrN H T pre us W W'):W'.heap[p]? = some (.cells us.toArray T (0,0)):=by
 rcases hk with hk | ⟨g,cur,_,hg,hz,_,rfl⟩
 ·exact (hk.block p (Array.getElem?_eq_some_iff.1 h).1).trans h
 ·by_cases e:p = g
  ·subst e
   rw [h] at hg
   simp only [Option.some.injEq,Obj.cells.injEq,and_true] at hg
   subst hg
   have hz2:pre.length + us.length ≤ us.length:=by simpa using hz
   have h1:pre = []:=List.eq_nil_of_length_eq_zero (by omega)
   subst h1
   rw [setRow_heap W p _ _ T _ h]
   simp
  ·exact (setRow_other W g p _ e).trans h
def TIs (u v:Value) (_:World):Prop:=v = u
end Ls
end Go.Proofs.YtlfkhlfkckfbpaaGreat
