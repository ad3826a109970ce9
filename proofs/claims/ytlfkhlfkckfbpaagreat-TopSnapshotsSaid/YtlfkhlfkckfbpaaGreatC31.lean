/- Parts of the proof, joined: TpVault, TpDo, TpBegins; their conditions stand with each. -/
import Derived.Test.YtlfkhlfkckfbpaaGreatC15
import Derived.Test.YtlfkhlfkckfbpaaGreatC18
import Derived.Test.YtlfkhlfkckfbpaaGreatC22
import Derived.Test.YtlfkhlfkckfbpaaGreatC25
import Derived.Test.YtlfkhlfkckfbpaaGreatC30

set_option maxRecDepth 20000
set_option maxHeartbeats 8000000
namespace Go.Proofs.YtlfkhlfkckfbpaaGreat
namespace Tp
open Go.RowKit Bk Ch Lt Rc Tr Sc Rd Sh
attribute [local go_sem ↓] Go.wp_at_zero Go.wp_at_succ
attribute [local go_sem] floatUpon pick
theorem fr_after {F F':Nat → Prop} {w W W':World} (h:Below w.heap.size w W) (k:Fr F F' W W'):Fr F F' w W' :=
 ⟨k.os.trans h.os,k.tape.trans h.tape,k.output.trans h.output,Nat.le_trans h.size k.size,fun i hi hn=>(k.block i (Nat.lt_of_lt_of_le hi h.size) hn).trans (h.block i hi),fun i hi=>(k.foot i hi).elim .inl (fun hs=>.inr (Nat.le_trans h.size hs))⟩
def Tv (F S:Nat → Prop) (b:Nat):Nat → Prop:=fun k=>F k ∨ S k ∨ k = b
structure VAt (W:World) (F S:Nat → Prop) (b g p gs:Nat) (D:Dev) (l:Lg) (s:Shf):Prop where
 sd:Side Sc.Rep Rd.LRep W F g D (some (p,l))
 sh:Sh.LRep W S gs s
 ok:ShOk s
 cel:Cel W b 107 [.pointer (some ⟨p,0,none⟩),.pointer (some ⟨gs,0,none⟩)]
 nf:¬ F b
 ns:¬ S b
 dis:∀ k,S k → ¬ F k
theorem sd_lt {W:World} {F:Nat → Prop} {g:Nat} {D:Dev} {o:Option (Nat × Lg)} (h:Side Sc.Rep Rd.LRep W F g D o):∀ k,F k → k < W.heap.size:=Side.lt (devF_of devBase) logF h
theorem sd_kept {W W':World} {F:Nat → Prop} {g:Nat} {D:Dev} {o:Option (Nat × Lg)} (h:Side Sc.Rep Rd.LRep W F g D o) (hk:∀ k,F k → W'.heap[k]? = W.heap[k]?):Side Sc.Rep Rd.LRep W' F g D o:=h.kept (devF_of devBase) logF hk
section
variable {w W W':World} {F F' S S':Nat → Prop} {b g p gs gs':Nat} {D D1 D':Dev} {l l1 l':Lg} {s s':Shf}
theorem VAt.below (h:VAt W F S b g p gs D l s) (hb:Below W.heap.size W W'):VAt W' F S b g p gs D l s :=
 ⟨sd_kept h.sd (fun k hk=>hb.block k (sd_lt h.sd k hk)),h.sh.below hb,h.ok,h.cel.below hb,h.nf,h.ns,h.dis⟩
theorem VAt.dev (h:VAt W F S b g p gs D l s) (h1:Side Sc.Rep Rd.LRep W' F' g D' (some (p,l'))) (h2:Fr F F' W W'):VAt W' F' S b g p gs D' l' s ∧ Fr (Tv F S b) (Tv F' S b) W W' :=
 ⟨⟨h1,h.sh.kept h2.size (fun k hk=>h2.block k (h.sh.lt k hk) (h.dis k hk)),h.ok,(h2.block b h.cel.lt h.nf).trans h.cel,fun hk=>(h2.foot b hk).elim h.nf (fun hs=>by have:=h.cel.lt;omega),h.ns,
  fun k hk hf=>(h2.foot k hf).elim (h.dis k hk) (fun hs=>by have:=h.sh.lt k hk;omega)⟩,
  ⟨h2.os,h2.tape,h2.output,h2.size,fun k hk hn=>h2.block k hk (fun hf=>hn (.inl hf)),fun k hk=>by
   rcases hk with h3 | h3 | h3
   ·exact (h2.foot k h3).elim (fun h4=>.inl (.inl h4)) .inr
   ·exact .inl (.inr (.inl h3))
   ·exact .inl (.inr (.inr h3))⟩⟩
theorem VAt.lt (h:VAt W F S b g p gs D l s):∀ k,Tv F S b k → k < W.heap.size:=fun k hk=>by
 rcases hk with h1 | h1 | h1
 ·exact sd_lt h.sd k h1
 ·exact h.sh.lt k h1
 ·rw [h1];exact h.cel.lt
theorem VAt.turn (h:VAt W F S b g p gs D l s) (hb:∀ k,S' k → ¬ Tv F S b k) (hn:Sh.LRep W S' gs' s') (ho:ShOk s'):VAt (W.setCell ⟨b,1,none⟩ (.pointer (some ⟨gs',0,none⟩))) F S' b g p gs' D l s' :=
 have hk:∀ k,k ≠ b → (W.setCell ⟨b,1,none⟩ (.pointer (some ⟨gs',0,none⟩))).heap[k]? = W.heap[k]?:=fun k hk=>Below.heap_setCell W ⟨b,1,none⟩ _ k hk
 have hS:¬ S' b:=fun hc=>hb b hc (.inr (.inr rfl))
 ⟨sd_kept h.sd (fun k h1=>hk k (fun e=>h.nf (e ▸ h1))),hn.kept (by simp [World.setCell]) (fun k h1=>hk k (fun e=>hS (e ▸ h1))),ho,h.cel.set (i:=1),h.nf,hS,fun k h1 hf=>hb k h1 (.inl hf)⟩
theorem fr_put {P:Nat → Prop} {w0:World} {v:Value} (h:Fr P (Tv F S b) w0 W) (hP:P b) (hS:∀ k,S' k → w0.heap.size ≤ k):Fr P (Tv F S' b) w0 (W.setCell ⟨b,1,none⟩ v) :=
 have hk:∀ k,k ≠ b → (W.setCell ⟨b,1,none⟩ v).heap[k]? = W.heap[k]?:=fun k hk=>Below.heap_setCell W ⟨b,1,none⟩ _ k hk
 ⟨h.os,h.tape,h.output,by simpa [World.setCell] using h.size,fun k h1 hn=>(hk k (fun e=>hn (e ▸ hP))).trans (h.block k h1 hn),fun k h1=>by
  rcases h1 with h1 | h1 | h1
  ·exact h.foot k (.inl h1)
  ·exact .inr (hS k h1)
  ·exact .inl (h1 ▸ hP)⟩
theorem tadd_any (h:VAt w F S b g p gs D l s) (hi:LgIn D l) (hu:D.down = false) (t:ByteArray) (ht:t.size ≤ reachBytes) (ha:appendP D l t = (l1,0)) :
  Calls Tryz.prog 74 #[.pointer (some ⟨b,0,none⟩),.string t] w fun e w'=>e = .returned (.int .i64 0) ∧ ∃ F',VAt w' F' S b g p gs D l1 s ∧ Fr (Tv F S b) (Tv F' S b) w w':=by
 have HH:=Lib.hid h
 have hap:=Side.app logF h.sd hi hu t ht
 rw [ha] at hap
 have HAp:=Lib.hid hap
 have s0:=h.cel.cell (i:=0) rfl
 clear h hi hu ht ha hap
 go_enter Tryz.func74,Tryz.ntmps74
 go_wp2_with fail
 refine HAp.out.mono ?_
 rintro e1 w1 ⟨rfl,F1,hs1,hf1⟩
 have H1:=Lib.hid (HH.out.dev hs1 hf1)
 clear hs1 hf1 s0 HAp
 go_wp2_with fail
 go_ret
 exact ⟨rfl,F1,H1.out.1,H1.out.2⟩
theorem twrite_any (h:VAt w F S b g p gs D l s) (hi:LgIn D l) (hu:D.down = false) (x:RI) (hv:RecVal w x.A x.B x.c x.d x.l) (hok:RecOk x.l) (t:ByteArray) (htx:t = ⟨(recL x.l).toArray⟩) (ht:t.size ≤ reachBytes)
  (ha:appendP D l t = (l1,0)) (hi1:LgIn D l1) (hy:syncP D l1 = (D',l',0)) :
  Calls Tryz.prog 46 #[.pointer (some ⟨b,0,none⟩),.agg (rcs x).toArray] w fun e w'=>e = .returned (.int .i64 0) ∧ ∃ F',VAt w' F' S b g p gs D' l' s ∧ Fr (Tv F S b) (Tv F' S b) w w':=by
 obtain ⟨x,A1,B1,c1,d1⟩:=x
 simp only at hv hok htx
 have HH:=Lib.hid h
 have HLg:=Lib.hid (And.intro hi hu)
 have HT:=Lib.hid (And.intro ht ha)
 have HS:=Lib.hid (And.intro hi1 hy)
 have he:=lencodeAll A1 B1 c1 d1 x _ (hv.below ((Below.refl _ w).alloc (Nat.le_refl _) (.cells #[.int .i64 x.kind,.int .i64 x.txn,.int .i64 x.ts,.int .i64 x.coord,.string x.key,.string x.text,.bool x.dead,.slice A1 x.keys.length c1,.slice B1 x.ws.length d1] 60)))
 rw [encV_ok hok,← htx] at he
 unfold recV at he
 have HEn:=Lib.hid he
 have hr1:Cel (w.alloc (.cells #[.int .i64 x.kind,.int .i64 x.txn,.int .i64 x.ts,.int .i64 x.coord,.string x.key,.string x.text,.bool x.dead,.slice A1 x.keys.length c1,.slice B1 x.ws.length d1] 60)) w.heap.size 60 [.int .i64 x.kind,.int .i64 x.txn,.int .i64 x.ts,.int .i64 x.coord,.string x.key,.string x.text,.bool x.dead,.slice A1 x.keys.length c1,.slice B1 x.ws.length d1]:=(blk1 w _).2
 have hb1:Below w.heap.size w (w.alloc (.cells #[.int .i64 x.kind,.int .i64 x.txn,.int .i64 x.ts,.int .i64 x.coord,.string x.key,.string x.text,.bool x.dead,.slice A1 x.keys.length c1,.slice B1 x.ws.length d1] 60)):=(Below.refl _ w).alloc (Nat.le_refl _) _
 clear he h hi hu ht ha hi1 hy htx hok hv
 simp only [rcs]
 go_enter Tryz.func46,Tryz.ntmps46
 go_upto_region 1 with fail
 generalize w.alloc (.cells #[.int .i64 x.kind,.int .i64 x.txn,.int .i64 x.ts,.int .i64 x.coord,.string x.key,.string x.text,.bool x.dead,.slice A1 x.keys.length c1,.slice B1 x.ws.length d1] 60) = W1 at hr1 hb1 HEn ⊢
 have q0:=hr1.cell (i:=0) rfl
 have q1:=hr1.cell (i:=1) rfl
 have q2:=hr1.cell (i:=2) rfl
 have q3:=hr1.cell (i:=3) rfl
 have q4:=hr1.cell (i:=4) rfl
 have q5:=hr1.cell (i:=5) rfl
 have q6:=hr1.cell (i:=6) rfl
 have q7:=hr1.cell (i:=7) rfl
 have q8:=hr1.cell (i:=8) rfl
 clear hr1
 go_wp2_with fail
 refine HEn.out.mono ?_
 rintro e2 w2 ⟨rfl,hb⟩
 have HB2:=Lib.hid (hb1.trans (hb.mono hb1.size))
 have H2:=Lib.hid (HH.out.below HB2.out)
 have HAd:=Lib.hid (tadd_any H2.out HLg.out.1 HLg.out.2 t HT.out.1 HT.out.2)
 clear hb hb1 HEn q0 q1 q2 q3 q4 q5 q6 q7 q8 HH
 go_wp2_with fail
 refine HAd.out.mono ?_
 rintro e3 w3 ⟨rfl,F1,h3,hf3⟩
 have H3:=Lib.hid h3
 have HF3:=Lib.hid (fr_after HB2.out hf3)
 have hsy:=Side.syn logF h3.sd HS.out.1 HLg.out.2
 rw [HS.out.2] at hsy
 have HSy:=Lib.hid hsy
 have s0:=H3.out.cel.cell (i:=0) rfl
 clear h3 hf3 HAd H2 HB2 hsy
 go_wp2_with fail
 refine HSy.out.mono ?_
 rintro e4 w4 ⟨rfl,F4,hs4,hf4⟩
 have H4:=Lib.hid (H3.out.dev hs4 hf4)
 clear hs4 hf4 s0 HSy
 go_wp2_with fail
 go_ret
 exact ⟨rfl,F4,H4.out.1,HF3.out.trans H4.out.2⟩
theorem tshelf_any (h:VAt w F S b g p gs D l s) :
  Calls Tryz.prog 20 #[.pointer (some ⟨b,0,none⟩)] w fun e w'=>∃ (g':Nat) (F':Nat → Prop),e = .returned (.pointer (some ⟨g',0,none⟩)) ∧ Sh.LRep w' F' g' s ∧ Below w.heap.size w w':=by
 have HK:=Lib.hid (t_fork h.sh h.ok)
 have s1:=h.cel.cell (i:=1) rfl
 clear h
 go_enter Tryz.func20,Tryz.ntmps20
 go_wp2_with fail
 refine HK.out.mono ?_
 rintro e1 w1 ⟨g1,F1,rfl,h1,-,h3⟩
 have HH:=Lib.hid (And.intro h1 h3)
 clear h1 h3 HK
 go_wp2_with fail
 go_ret
 exact ⟨g1,F1,rfl,HH.out.1,HH.out.2⟩
end
section
variable {w W W':World} {F F' S S':Nat → Prop} {b g p gs gs':Nat} {D D1 D':Dev} {l l1 l':Lg} {s s':Shf}
theorem tdo_any (h:VAt w F S b g p gs D l s) (hi:LgIn D l) (hu:D.down = false) (x:RI) (hv:RecVal w x.A x.B x.c x.d x.l) (hok:RecOk x.l) (k3:x.l.kind = 3) (t:ByteArray) (htx:t = ⟨(recL x.l).toArray⟩) (ht:t.size ≤ reachBytes)
  (ha:appendP D l t = (l1,0)) (hi1:LgIn D l1) (hy:syncP D l1 = (D',l',0)) (hap:applyP s x.l = (s',0)) :
  Calls Tryz.prog 19 #[.pointer (some ⟨b,0,none⟩),.agg (rcs x).toArray] w fun e w'=>e = .returned (.int .i64 0) ∧ ∃ (F' S':Nat → Prop) (gs':Nat),VAt w' F' S' b g p gs' D' l' s' ∧ Fr (Tv F S b) (Tv F' S' b) w w':=by
 have HWrt:=Lib.hid (fun V (hv2:VAt V F S b g p gs D l s) (hx:RecVal V x.A x.B x.c x.d x.l)=>twrite_any hv2 hi hu x hx hok t htx ht ha hi1 hy)
 have HApl:=Lib.hid (fun V (G:Nat → Prop) g2 (hl:Sh.LRep V G g2 s) (hx:RecVal V x.A x.B x.c x.d x.l)=>t_apply hl h.ok x hx hok k3)
 rw [hap] at HApl
 have HOk2:=Lib.hid (show ShOk s' by have:=apply_ok h.ok x.l;rw [hap] at this;exact this)
 obtain ⟨x,A1,B1,c1,d1⟩:=x
 simp only at hv
 simp only [rcs] at HWrt HApl
 have HH:=Lib.hid h
 have HV:=Lib.hid hv
 have hr1:Cel (w.alloc (.cells #[.int .i64 x.kind,.int .i64 x.txn,.int .i64 x.ts,.int .i64 x.coord,.string x.key,.string x.text,.bool x.dead,.slice A1 x.keys.length c1,.slice B1 x.ws.length d1] 60)) w.heap.size 60 [.int .i64 x.kind,.int .i64 x.txn,.int .i64 x.ts,.int .i64 x.coord,.string x.key,.string x.text,.bool x.dead,.slice A1 x.keys.length c1,.slice B1 x.ws.length d1]:=(blk1 w _).2
 have hb1:Below w.heap.size w (w.alloc (.cells #[.int .i64 x.kind,.int .i64 x.txn,.int .i64 x.ts,.int .i64 x.coord,.string x.key,.string x.text,.bool x.dead,.slice A1 x.keys.length c1,.slice B1 x.ws.length d1] 60)):=(Below.refl _ w).alloc (Nat.le_refl _) _
 have hz1:(w.alloc (.cells #[.int .i64 x.kind,.int .i64 x.txn,.int .i64 x.ts,.int .i64 x.coord,.string x.key,.string x.text,.bool x.dead,.slice A1 x.keys.length c1,.slice B1 x.ws.length d1] 60)).heap.size = w.heap.size + 1:=Array.size_push ..
 clear h hi hu hv hok k3 htx ht ha hi1 hy hap
 simp only [rcs]
 go_enter Tryz.func19,Tryz.ntmps19
 go_upto_region 1 with fail
 generalize w.alloc (.cells #[.int .i64 x.kind,.int .i64 x.txn,.int .i64 x.ts,.int .i64 x.coord,.string x.key,.string x.text,.bool x.dead,.slice A1 x.keys.length c1,.slice B1 x.ws.length d1] 60) = W1 at hr1 hb1 hz1 ⊢
 have HR1:=Lib.hid hr1
 have HB1:=Lib.hid hb1
 have HZ1:=Lib.hid hz1
 have H1:=Lib.hid (HH.out.below hb1)
 have HK:=Lib.hid (t_fork H1.out.sh H1.out.ok)
 have s1:=H1.out.cel.cell (i:=1) rfl
 clear hr1 hb1 hz1
 go_wp2_with fail
 refine HK.out.mono ?_
 rintro e2 w2 ⟨g2,F2,rfl,h2,hn2,hb2⟩
 have HR2:=Lib.hid (show Cel w2 w.heap.size 60 [.int .i64 x.kind,.int .i64 x.txn,.int .i64 x.ts,.int .i64 x.coord,.string x.key,.string x.text,.bool x.dead,.slice A1 x.keys.length c1,.slice B1 x.ws.length d1] from HR1.out.below hb2)
 have HB2:=Lib.hid (HB1.out.trans (hb2.mono HB1.out.size))
 have HAp:=Lib.hid (HApl.out _ _ _ h2 (HV.out.below HB2.out))
 have HN2:=Lib.hid (fun k hk=>show w.heap.size + 1 ≤ k by have:=hn2 k hk;have:=HZ1.out;omega)
 have hz2:w.heap.size + 1 ≤ w2.heap.size:=by have:=hb2.size;have:=HZ1.out;omega
 have HZ2:=Lib.hid hz2
 have q0:=HR2.out.cell (i:=0) rfl
 have q1:=HR2.out.cell (i:=1) rfl
 have q2:=HR2.out.cell (i:=2) rfl
 have q3:=HR2.out.cell (i:=3) rfl
 have q4:=HR2.out.cell (i:=4) rfl
 have q5:=HR2.out.cell (i:=5) rfl
 have q6:=HR2.out.cell (i:=6) rfl
 have q7:=HR2.out.cell (i:=7) rfl
 have q8:=HR2.out.cell (i:=8) rfl
 clear h2 hn2 hb2 hz2 s1 HK H1 HR1 HApl
 go_wp2_with fail
 refine HAp.out.mono ?_
 rintro e3 w3 ⟨rfl,h3,hf3⟩
 have HB3:=Lib.hid (HB2.out.trans (far_low hf3 (fun k hk=>by have:=HN2.out k hk;omega) (by have:=HZ2.out;omega)))
 have HR3:=Lib.hid (show Cel w3 w.heap.size 60 _ from (hf3.block _ (by have:=HZ2.out;omega) (fun hk=>by have:=HN2.out _ hk;omega)).trans HR2.out)
 have H3:=Lib.hid (HH.out.below HB3.out)
 have HG:=Lib.hid (fun k (hk:Sh.Gr F2 w2 w3 k)=>show w.heap.size ≤ k ∧ k < w3.heap.size from ⟨hk.elim (fun q=>by have:=HN2.out k q;omega) (fun q=>by have:=q.1;have:=HZ2.out;omega),h3.lt k hk⟩)
 have HS3:=Lib.hid h3
 have HWr:=Lib.hid (HWrt.out _ H3.out (HV.out.below HB3.out))
 have q0:=HR3.out.cell (i:=0) rfl
 have q1:=HR3.out.cell (i:=1) rfl
 have q2:=HR3.out.cell (i:=2) rfl
 have q3:=HR3.out.cell (i:=3) rfl
 have q4:=HR3.out.cell (i:=4) rfl
 have q5:=HR3.out.cell (i:=5) rfl
 have q6:=HR3.out.cell (i:=6) rfl
 have q7:=HR3.out.cell (i:=7) rfl
 have q8:=HR3.out.cell (i:=8) rfl
 clear h3 hf3 HAp HR2 HB2 HN2 HZ2 HB1 HZ1 HWrt HV
 go_wp2_with fail
 refine HWr.out.mono ?_
 rintro e4 w4 ⟨rfl,F4,h4,hf4⟩
 have H4:=Lib.hid h4
 have hgr:∀ k,Sh.Gr F2 w2 w3 k → ¬ Tv F S b k:=fun k hk ht=>by
  have:=HH.out.lt k ht
  have:=(HG.out k hk).1
  omega
 have HS4:=Lib.hid (HS3.out.kept hf4.size (fun k hk=>hf4.block k (HG.out k hk).2 (hgr k hk)))
 have HT4:=Lib.hid (fun k (hk:Sh.Gr F2 w2 w3 k)=>show ¬ Tv F4 S b k from fun ht=>(hf4.foot k ht).elim (hgr k hk) (fun hs=>by have:=(HG.out k hk).2;omega))
 have HF4:=Lib.hid (fr_after HB3.out hf4)
 have HG4:=Lib.hid (fun k (hk:Sh.Gr F2 w2 w3 k)=>show w.heap.size ≤ k from (HG.out k hk).1)
 have s1:=h4.cel.cell (i:=1) rfl
 have f1:=h4.cel.free (i:=1)
 clear h4 hf4 hgr HWr q0 q1 q2 q3 q4 q5 q6 q7 q8 HG HS3 H3 HB3 HR3 HH
 go_wp2_with fail
 go_ret
 exact ⟨rfl,F4,_,g2,H4.out.turn HT4.out HS4.out HOk2.out,fr_put HF4.out (.inr (.inr rfl)) HG4.out⟩
theorem topen_any (h:Side Sc.Rep Rd.LRep w F g D none) (ho:openP D = (D1,some l,0)) (hl:l.ts = []) :
  Calls Tryz.prog 18 #[.pointer (some ⟨g,0,none⟩)] w fun e w'=>∃ (F' S':Nat → Prop) (b p gs:Nat),e = .returned (.tuple #[.pointer (some ⟨b,0,none⟩),.int .i64 0]) ∧ VAt w' F' S' b g p gs D1 l empty ∧ Fr F (Tv F' S' b) w w':=by
 have hO:=Side.opn logF h
 rw [ho] at hO
 have HO:=Lib.hid hO
 have HL:=Lib.hid hl
 clear h ho hO hl
 go_enter Tryz.func18,Tryz.ntmps18
 go_wp2_with fail
 refine HO.out.mono ?_
 rintro e1 w1 ⟨o1,rfl,ho,F1,h1,hf1⟩
 have H1:=Lib.hid h1
 have HF1:=Lib.hid hf1
 clear h1 hf1 HO
 cases o1 with
 | none=>cases ho
 | some q =>
  obtain ⟨p,l2⟩:=q
  obtain rfl:l2 = l:=Option.some.inj ho
  have HTx:=Lib.hid (show Hid (Calls Tryz.prog 24 #[.pointer (some ⟨p,0,none⟩)] w1 fun e w'=>∃ v,e = .returned v ∧ w'.ownsRow w1.heap.size 9 1 v l2.ts.length (strV l2.ts) ∧ Below w1.heap.size w1 w') from Lib.hid (by
   obtain ⟨Fd,Fl,-,-,⟨A,B,-,hL⟩,-⟩:=H1.out
   exact ltexts_any hL (by rw [HL.out];simp) (by rw [HL.out];simp)))
  rw [HL.out] at HTx
  clear ho
  unfold ptrV
  go_wp2_with fail
  refine HTx.out.out.mono ?_
  rintro e2 w2 ⟨v,rfl,hv,hb2⟩
  obtain ⟨A,c,rfl⟩:∃ A c,v = .slice A 0 c:=by
   rcases hv.2 with ⟨e,_⟩ | ⟨q,cap,cur,e,_⟩
   ·exact ⟨none,0,e⟩
   ·exact ⟨_,_,e⟩
  have HD:=Lib.hid (tdecoded_any A c w2)
  have HB2:=Lib.hid hb2
  clear hv hb2 HTx
  go_wp2_with fail
  refine HD.out.mono ?_
  rintro e3 w3 ⟨rfl,hw3⟩
  obtain rfl:w2 = w3:=hw3.symm
  have HM:=Lib.hid (tmade_any w2)
  clear HD hw3
  go_wp2_with fail
  refine HM.out.mono ?_
  rintro e4 w4 ⟨g4,F4,rfl,h4,hn4,hb4⟩
  have HB4:=Lib.hid (HB2.out.trans (hb4.mono HB2.out.size))
  have HN4:=Lib.hid (fun k hk=>show w1.heap.size ≤ k from Nat.le_trans HB2.out.size (hn4 k hk))
  have H4:=Lib.hid h4
  have hr5:Cel (w4.alloc (.cells #[.pointer (some ⟨p,0,none⟩),.pointer (some ⟨g4,0,none⟩)] 107)) w4.heap.size 107 [.pointer (some ⟨p,0,none⟩),.pointer (some ⟨g4,0,none⟩)]:=(blk1 w4 _).2
  have hb5:Below w4.heap.size w4 (w4.alloc (.cells #[.pointer (some ⟨p,0,none⟩),.pointer (some ⟨g4,0,none⟩)] 107)):=(Below.refl _ w4).alloc (Nat.le_refl _) _
  clear hb4 HM h4 hn4 HB2
  go_wp2_with fail
  go_ret2
  generalize w4.alloc (.cells #[.pointer (some ⟨p,0,none⟩),.pointer (some ⟨g4,0,none⟩)] 107) = W5 at hr5 hb5 ⊢
  have hB5:=HB4.out.trans (hb5.mono HB4.out.size)
  have hlt1:=sd_lt H1.out
  have hz4:=HB4.out.size
  refine ⟨F1,F4,w4.heap.size,p,g4,rfl,⟨sd_kept H1.out (fun k hk=>hB5.block k (hlt1 k hk)),H4.out.below hb5,ok_empty,hr5,fun hk=>?_,fun hk=>?_,fun k hk hf=>?_⟩,?_⟩
  ·have:=hlt1 _ hk;omega
  ·have:=H4.out.lt _ hk;omega
  ·have:=hlt1 k hf;have:=HN4.out k hk;omega
  ·exact ⟨hB5.os.trans HF1.out.os,hB5.tape.trans HF1.out.tape,hB5.output.trans HF1.out.output,Nat.le_trans HF1.out.size hB5.size,fun k hk hn=>(hB5.block k (Nat.lt_of_lt_of_le hk HF1.out.size)).trans (HF1.out.block k hk hn),fun k hk=>by
    have:=HF1.out.size
    rcases hk with hk | hk | hk
    ·exact HF1.out.foot k hk
    ·exact .inr (by have:=HN4.out k hk;omega)
    ·exact .inr (by omega)⟩
end
def vrT:ByteArray:=⟨(recL vrR).toArray⟩
theorem vrT_size:vrT.size = 12:=by kernel_rfl
theorem vr_val (w:World):RecVal w none none 0 0 vrR :=
 ⟨fun h=>absurd h (by decide),fun h=>absurd h (by decide),⟨⟨by decide,by decide,by decide,by decide,by decide,by decide,by decide,by decide,by decide,by decide⟩,by decide,by decide,by decide,by decide⟩,fun _=>⟨rfl,rfl⟩,fun _=>⟨rfl,rfl⟩⟩
theorem start_dev:∃ (D1 D2:Dev) (l2:Lg),openP (new0 40) = (D1,some ⟨1,0,[],[],0⟩,0) ∧ D1.down = false ∧ LgIn D1 ⟨1,0,[],[],0⟩ ∧ appendP D1 ⟨1,0,[],[],0⟩ vrT = (⟨1,0,[],[vrT],0⟩,0) ∧ LgIn D1 ⟨1,0,[],[vrT],0⟩ ∧ syncP D1 ⟨1,0,[],[vrT],0⟩ = (D2,l2,0):=by
 obtain ⟨D1,q1,q2,q3,q5,q6,q7⟩:=fresh_open (n:=40) (by omega) (by omega)
 have hz:=vrT_size
 have ha:appendP D1 ⟨1,0,[],[],0⟩ vrT = (⟨1,0,[],[vrT],0⟩,0):=app_fits (by omega) (by
  unfold roomN areaN
  rw [q6,hz]
  decide)
 have hi:=app_in q5 q7 vrT
 rw [ha] at hi
 obtain ⟨D2,r1,-⟩:=sync_idle q2 q5 hi (by decide) (by decide)
 exact ⟨D1,D2,_,q1,q2.2,q7,ha,hi,r1⟩
theorem begins_any (w:World) :
  Calls Tryz.prog 4 #[] w fun e w'=>e = .returned (.bool true) ∧ Below w.heap.size w w':=by
 obtain ⟨D1,D2,l2,p1,p2,p3,p4,p5,p6⟩:=start_dev
 have HP:=Lib.hid (And.intro p1 (And.intro p2 (And.intro p3 (And.intro p4 (And.intro p5 p6)))))
 clear p1 p2 p3 p4 p5 p6
 go_enter Tryz.func4,Tryz.ntmps4
 go_wp2_with fail
 refine (devBase.new 40 w ⟨by omega,by omega⟩).mono ?_
 rintro e w1 (⟨_,_,F1,g,rfl,hr1,hF1,hb1⟩ | ⟨hno,_,_⟩)
 case inr=>exact absurd ⟨by omega,by omega⟩ hno
 have O1:Hid (Ck.Ow w w1 F1):=Lib.hid ⟨hF1,hb1⟩
 have R1:=Lib.hid (topen_any (w:=w1) (F:=F1) (g:=g) (D:=new0 40) hr1 HP.out.1 rfl)
 clear hr1 hF1 hb1
 go_wp2_with fail
 refine R1.out.mono ?_
 rintro e w2 ⟨F2,S2,b,p,gs,rfl,hv2,hf2⟩
 have O2:=Lib.hid (O1.out.act hf2)
 have HDo:=Lib.hid (tdo_any hv2 HP.out.2.2.1 HP.out.2.1 ⟨vrR,none,none,0,0⟩ (vr_val w2) vrR_ok rfl vrT rfl (by rw [vrT_size];decide) HP.out.2.2.2.1 HP.out.2.2.2.2.1 HP.out.2.2.2.2.2 vrR_apply)
 simp only [rcs,vrR,List.length_nil] at HDo
 clear hv2 hf2 O1 R1
 go_wp2_with fail
 refine HDo.out.mono ?_
 rintro e w3 ⟨rfl,F3,S3,gs3,hv3,hf3⟩
 have O3:=Lib.hid (O2.out.act hf3)
 have HS:=Lib.hid (tshelf_any hv3)
 clear hv3 hf3 O2 HDo
 go_wp2_with fail
 refine HS.out.mono ?_
 rintro e w4 ⟨g4,F4,rfl,h4,hb4⟩
 have O4:=Lib.hid (O3.out.step hb4)
 have hR:=t_read h4 one_ok ⟨#[107]⟩ 1 (by unfold maxLen;decide)
 rw [one_read] at hR
 simp only [vcs] at hR
 have HR:=Lib.hid hR
 clear h4 hb4 hR O3 HS
 go_wp2_with fail
 refine HR.out.mono ?_
 rintro e w5 ⟨rfl,hb5⟩
 have O5:=Lib.hid (O4.out.step hb5)
 clear hb5 O4 HR
 go_wp2_with fail
 go_ret
 exact ⟨rfl,O5.out.bel.trans (((Below.refl _ w5).alloc (Nat.le_refl _) _).mono O5.out.bel.size)⟩
end Tp
end Go.Proofs.YtlfkhlfkckfbpaaGreat
