/- Parts of the proof, joined: VtLand, ShPl2, ShCopy, ShPl3, VtDo, VtWorks; their conditions stand with each. -/
import Derived.Test.YtbkanoblcojdfaaGreatV13
import Derived.Test.YtbkanoblcojdfaaGreatV27
import Derived.Test.YtbkanoblcojdfaaGreatV30
import Derived.Test.YtbkanoblcojdfaaGreatV39
import Derived.Test.YtbkanoblcojdfaaGreatV41
import Derived.Test.YtbkanoblcojdfaaGreatV42

set_option maxRecDepth 20000
set_option maxHeartbeats 8000000
namespace Go.Proofs.YtbkanoblcojdfaaGreat
namespace Vt
open Go.RowKit Bk Ch Lt Rc Tr Sc Rd
attribute [local go_sem ↓] Go.wp_at_zero Go.wp_at_succ
attribute [local go_sem] floatUpon pick
theorem Fr.after {F F':Nat → Prop} {w W W':World} (h:Below w.heap.size w W) (k:Fr F F' W W'):Fr F F' w W' :=
 ⟨k.os.trans h.os,k.tape.trans h.tape,k.output.trans h.output,Nat.le_trans h.size k.size,fun i hi hn=>(k.block i (Nat.lt_of_lt_of_le hi h.size) hn).trans (h.block i hi),fun i hi=>(k.foot i hi).elim .inl (fun hs=>.inr (Nat.le_trans h.size hs))⟩
def Tt (F S:Nat → Prop) (b:Nat):Nat → Prop:=fun k=>F k ∨ S k ∨ k = b
structure VAt (W:World) (F S:Nat → Prop) (b g p gs:Nat) (D:Dev) (l:Lg) (s:Sh.Shf):Prop where
 sd:Side Sc.Rep Rd.LRep W F g D (some (p,l))
 sh:Sh.LRep W S gs s
 ok:Sh.ShOk s
 cel:Cel W b 135 [.pointer (some ⟨p,0,none⟩),.pointer (some ⟨gs,0,none⟩)]
 nf:¬ F b
 ns:¬ S b
 dis:∀ k,S k → ¬ F k
theorem sideLt {W:World} {F:Nat → Prop} {g:Nat} {D:Dev} {o:Option (Nat × Lg)} (h:Side Sc.Rep Rd.LRep W F g D o):∀ k,F k → k < W.heap.size:=Side.lt (devF_of devBase) logF h
theorem sideKept {W W':World} {F:Nat → Prop} {g:Nat} {D:Dev} {o:Option (Nat × Lg)} (h:Side Sc.Rep Rd.LRep W F g D o) (hk:∀ k,F k → W'.heap[k]? = W.heap[k]?):Side Sc.Rep Rd.LRep W' F g D o:=h.kept (devF_of devBase) logF hk
theorem sideOk {W:World} {F:Nat → Prop} {g:Nat} {D:Dev} {o:Option (Nat × Lg)} (h:Side Sc.Rep Rd.LRep W F g D o):DevOk D:=h.ok (devF_of devBase)
section
variable {w W W':World} {F F' S S':Nat → Prop} {b g p gs gs':Nat} {D D':Dev} {l l':Lg} {s s':Sh.Shf}
theorem VAt.below (h:VAt W F S b g p gs D l s) (hb:Below W.heap.size W W'):VAt W' F S b g p gs D l s :=
 ⟨sideKept h.sd (fun k hk=>hb.block k (sideLt h.sd k hk)),h.sh.below hb,h.ok,h.cel.below hb,h.nf,h.ns,h.dis⟩
theorem VAt.dev (h:VAt W F S b g p gs D l s) (h1:Side Sc.Rep Rd.LRep W' F' g D' (some (p,l'))) (h2:Fr F F' W W'):VAt W' F' S b g p gs D' l' s ∧ Fr (Tt F S b) (Tt F' S b) W W' :=
 ⟨⟨h1,h.sh.kept h2.size (fun k hk=>h2.block k (h.sh.lt k hk) (h.dis k hk)),h.ok,(h2.block b h.cel.lt h.nf).trans h.cel,fun hk=>(h2.foot b hk).elim h.nf (fun hs=>by have:=h.cel.lt;omega),h.ns,
  fun k hk hf=>(h2.foot k hf).elim (h.dis k hk) (fun hs=>by have:=h.sh.lt k hk;omega)⟩,
  ⟨h2.os,h2.tape,h2.output,h2.size,fun k hk hn=>h2.block k hk (fun hf=>hn (.inl hf)),fun k hk=>by
   rcases hk with h3 | h3 | h3
   ·exact (h2.foot k h3).elim (fun h4=>.inl (.inl h4)) .inr
   ·exact .inl (.inr (.inl h3))
   ·exact .inl (.inr (.inr h3))⟩⟩
theorem VAt.lt (h:VAt W F S b g p gs D l s):∀ k,Tt F S b k → k < W.heap.size:=fun k hk=>by
 rcases hk with h1 | h1 | h1
 ·exact sideLt h.sd k h1
 ·exact h.sh.lt k h1
 ·rw [h1];exact h.cel.lt
theorem VAt.put (h:VAt W F S b g p gs D l s) (hn:Sh.LRep W S' gs' s') (ho:Sh.ShOk s') (hb:¬ S' b) (hd:∀ k,S' k → ¬ F k):VAt (W.setCell ⟨b,1,none⟩ (.pointer (some ⟨gs',0,none⟩))) F S' b g p gs' D l s' :=
 have hk:∀ k,k ≠ b → (W.setCell ⟨b,1,none⟩ (.pointer (some ⟨gs',0,none⟩))).heap[k]? = W.heap[k]?:=fun k hk=>Below.heap_setCell W ⟨b,1,none⟩ _ k hk
 ⟨sideKept h.sd (fun k h1=>hk k (fun e=>h.nf (e ▸ h1))),hn.kept (by simp [World.setCell]) (fun k h1=>hk k (fun e=>hb (e ▸ h1))),ho,h.cel.set (i:=1),h.nf,hb,hd⟩
theorem vrestart_any (h:VAt w F S b g p gs D l s) (hi:LgIn D l) (hu:D.down = false) (A:Option Addr) (c:Nat) (X:List RI) (hX:Row w A X) (hok:∀ x ∈ X,RecOk x.l) (hn:X.length ≤ 20000000) :
  Calls Tryz.prog 78 #[.pointer (some ⟨b,0,none⟩),.slice A X.length c] w fun e w'=>e = .returned (.int .i64 (restartP D l (bytesOf X)).2.2) ∧ ∃ F',VAt w' F' S b g p gs (restartP D l (bytesOf X)).1 (restartP D l (bytesOf X)).2.1 s ∧ Fr (Tt F S b) (Tt F' S b) w w':=by
 have HEn:=Lib.hid (encoded_any A c X w hX hok (by omega))
 have HH:=Lib.hid h
 have HLg:=Lib.hid (And.intro hi hu)
 have hrb:reachBytes = 140737488351232:=rfl
 have hbl:(bytesOf X).length = X.length:=by unfold bytesOf;rw [List.length_map]
 have HSz:=Lib.hid (show ((bytesOf X).length * 16 ≤ reachBytes) ∧ (∀ t ∈ bytesOf X,t.size ≤ reachBytes) ∧ (allF (bytesOf X)).length ≤ 140737488355328 from
  ⟨by rw [hbl,hrb];omega,fun t ht=>by
   obtain ⟨x,hx,rfl⟩:=List.mem_map.1 ht
   have:=recB_size (hok x hx)
   rw [hrb];omega,by
   rw [bytes_map]
   exact recs_all (fun r hr=>by obtain ⟨x,hx,rfl⟩:=List.mem_map.1 hr;exact hok x hx) (by rw [List.length_map];omega)⟩)
 have HBl:=Lib.hid hbl
 clear hX hok h hi hu hrb hbl
 go_enter Tryz.func78,Tryz.ntmps78
 go_wp2_with fail
 refine HEn.out.mono ?_
 rintro e1 w1 ⟨B,d,rfl,ho,hb⟩
 have H1:=Lib.hid (HH.out.below hb)
 have HB:=Lib.hid hb
 rw [← HBl.out] at ho
 obtain ⟨k1,k2,k3,k4⟩:=own_strs ho
 have HNew:=Lib.hid (fun (ad:Addr) (e:B = some ad)=>show w.heap.size ≤ ad.block ∧ ad.block < w1.heap.size from ho.lt ad.block (by rw [e];rfl))
 have hrs:=Side.rst logF H1.out.sd HLg.out.1 HLg.out.2 B d (bytesOf X) k1 (fun e=>(k4 e).2) (fun _ x hx=>⟨(HNew.out x hx).2,fun hf=>by have:=sideLt HH.out.sd _ hf;have:=(HNew.out x hx).1;omega⟩) HSz.out.1 HSz.out.2.1 HSz.out.2.2
 rw [HBl.out] at hrs
 have HRs:=Lib.hid hrs
 have s0:=H1.out.cel.cell (i:=0) rfl
 clear ho hb k1 k2 k3 k4 hrs HEn
 go_wp2_with fail
 refine HRs.out.mono ?_
 rintro e2 w2 ⟨rfl,F',hs1,hf1⟩
 have HD:=Lib.hid (H1.out.dev hs1 hf1)
 clear hs1 hf1 s0 HRs
 go_wp2_with fail
 go_ret
 exact ⟨rfl,F',HD.out.1,Fr.after HB.out HD.out.2⟩
theorem vadd_any (h:VAt w F S b g p gs D l s) (hi:LgIn D l) (hu:D.down = false) (hc:l.cnt + 2 < 4611686018427388000) (t:ByteArray) (ht:t.size ≤ reachBytes) :
  Calls Tryz.prog 136 #[.pointer (some ⟨b,0,none⟩),.string t] w fun e w'=>e = .returned (.int .i64 (addV D l s t).2.2) ∧ ∃ F',VAt w' F' S b g p gs (addV D l s t).1 (addV D l s t).2.1 s ∧ Fr (Tt F S b) (Tt F' S b) w w':=by
 have HH:=Lib.hid h
 have HLg:=Lib.hid (And.intro hi (And.intro hu hc))
 have HAp:=Lib.hid (Side.app logF h.sd hi hu t ht)
 have HT:=Lib.hid ht
 have s0:=h.cel.cell (i:=0) rfl
 have HE:=Lib.hid (show addV D l s t = if (appendP D l t).2 = 100 then if (rstV D (appendP D l t).1 s).2.2 = 0 then ((rstV D (appendP D l t).1 s).1,appendP (rstV D (appendP D l t).1 s).1 (rstV D (appendP D l t).1 s).2.1 t) else rstV D (appendP D l t).1 s else (D,appendP D l t) from rfl)
 have HIn:=Lib.hid (app_in (sideOk h.sd) hi t)
 have HCn:=Lib.hid (app_cnt D l t)
 clear h hi hu hc ht
 go_enter Tryz.func136,Tryz.ntmps136
 go_wp2_with fail
 refine HAp.out.mono ?_
 rintro e1 w1 ⟨rfl,F1,hs1,hf1⟩
 have H1:=Lib.hid (HH.out.dev hs1 hf1)
 clear hs1 hf1 s0 HAp
 obtain ⟨l1,er,he1⟩:∃ l1 er,appendP D l t = (l1,er):=⟨_,_,rfl⟩
 rw [he1] at H1 HE HIn HCn ⊢
 simp only at H1 HE HIn HCn ⊢
 by_cases h0:er = 100
 case neg =>
  have z:(er != 100) = true:=by simpa using h0
  have HE2:=Lib.hid (show addV D l s t = (D,l1,er) by rw [HE.out,if_neg h0])
  clear HE h0 he1
  go_wp2_with fail
  go_ret
  rw [HE2.out]
  exact ⟨rfl,F1,H1.out.1,H1.out.2⟩
 subst h0
 have HE2:=Lib.hid (show addV D l s t = if (rstV D l1 s).2.2 = 0 then ((rstV D l1 s).1,appendP (rstV D l1 s).1 (rstV D l1 s).2.1 t) else rstV D l1 s by rw [HE.out,if_pos rfl])
 have s1:=H1.out.1.cel.cell (i:=1) rfl
 clear HE he1
 go_wp2_with fail
 refine (H1.out.1.sh.recs_c H1.out.1.ok).mono ?_
 rintro e2 w2 ⟨A2,c2,X,rfl,hX,hO,hb2⟩
 have H2:=Lib.hid (H1.out.1.below hb2)
 have HB2:=Lib.hid hb2
 have hm:=recs_many H1.out.1.ok
 have hr:=recs_ok H1.out.1.ok
 have hbx:=bytes_map X
 rw [hX] at hbx
 have hxl:X.length = (Sh.recordsP s).length:=by rw [← hX,List.length_map]
 have hrs:=vrestart_any H2.out HIn.out HLg.out.2.1 A2 c2 X ⟨hO.rowOf.at',hO.rowOf.val⟩ (fun x hx=>hr x.l (by rw [← hX];exact List.mem_map_of_mem hx)) (by omega)
 rw [hbx,show restartP D l1 ((Sh.recordsP s).map recB) = rstV D l1 s from rfl] at hrs
 have HRs:=Lib.hid hrs
 have HZ:=Lib.hid (fun (h0:(rstV D l1 s).2.2 = 0)=>rst_zero (sideOk H1.out.1.sd) HIn.out HLg.out.2.1 (by rw [HCn.out];have:=HLg.out.2.2;omega) ((Sh.recordsP s).map recB) h0)
 clear hX hO hb2 hm hr hbx hxl hrs s1
 go_wp2_with fail
 refine HRs.out.mono ?_
 rintro e3 w3 ⟨rfl,F3,h3,hf3⟩
 have H3:=Lib.hid h3
 have HF3:=Lib.hid (H1.out.2.trans (Fr.after HB2.out hf3))
 clear h3 hf3 HRs H2 HB2 H1
 have HZ2:Hid ((rstV D l1 s).2.2 = 0 → (rstV D l1 s).1.down = false ∧ LgIn (rstV D l1 s).1 (rstV D l1 s).2.1):=Lib.hid (fun h0=>⟨(HZ.out h0).1,(HZ.out h0).2.1⟩)
 clear HZ
 generalize rstV D l1 s = R at H3 HE2 HZ2 ⊢
 obtain ⟨D2,l2,e2⟩:=R
 simp only at H3 HE2 HZ2 ⊢
 by_cases h0:e2 = 0
 case neg =>
  have z:(e2 != 0) = true:=by simpa using h0
  have HE3:=Lib.hid (show addV D l s t = (D2,l2,e2) by rw [HE2.out,if_neg h0])
  clear HE2 h0
  go_wp2_with fail
  go_ret
  rw [HE3.out]
  exact ⟨rfl,F3,H3.out,HF3.out⟩
 subst h0
 have HE3:=Lib.hid (show addV D l s t = (D2,appendP D2 l2 t) by rw [HE2.out,if_pos rfl])
 have HAp2:=Lib.hid (Side.app logF H3.out.sd (HZ2.out rfl).2 (HZ2.out rfl).1 t HT.out)
 have s0:=H3.out.cel.cell (i:=0) rfl
 clear HE2 HZ2
 go_wp2_with fail
 refine HAp2.out.mono ?_
 rintro e4 w4 ⟨rfl,F4,hs4,hf4⟩
 have H4:=Lib.hid (H3.out.dev hs4 hf4)
 clear hs4 hf4 s0 HAp2
 go_wp2_with fail
 go_ret
 rw [HE3.out]
 exact ⟨rfl,F4,H4.out.1,HF3.out.trans H4.out.2⟩
end
end Vt
end Go.Proofs.YtbkanoblcojdfaaGreat
namespace Go.Proofs.YtbkanoblcojdfaaGreat
namespace Sh
open Go.RowKit Bk Ch Lt Rc Tr
attribute [local go_sem ↓] Go.wp_at_zero Go.wp_at_succ
attribute [local go_sem] floatUpon pick
theorem far_below {F:Nat → Prop} {B:Nat} {w w':World} (hf:Far F w w') (hF:∀ k,F k → B ≤ k) (hB:B ≤ w.heap.size):Below B w w' :=
 ⟨hf.st.os,hf.st.tape,hf.st.output,hf.size,fun k hk=>hf.block k (by omega) (fun h2=>by have:=hF k h2;omega)⟩
section
variable {W1 w w' w5 w6:World} {g h g2 h2 v9 lo hi b:Nat} {F F2 E P:Nat → Prop} {sL sR sF s1:Shf} {x:RI}
end
end Sh
end Go.Proofs.YtbkanoblcojdfaaGreat
namespace Go.Proofs.YtbkanoblcojdfaaGreat
namespace Vt
open Go.RowKit Bk Ch Lt Rc Tr Sc Rd
attribute [local go_sem ↓] Go.wp_at_zero Go.wp_at_succ
attribute [local go_sem] floatUpon pick
section
variable {w W W':World} {F F' S S':Nat → Prop} {b g p gs gs':Nat} {D D':Dev} {l l':Lg} {s s':Sh.Shf}
theorem vwrite_any (h:VAt w F S b g p gs D l s) (hi:LgIn D l) (hu:D.down = false) (hc:l.cnt + 2 < 4611686018427388000) (x:RI) (hv:RecVal w x.A x.B x.c x.d x.l) (hok:RecOk x.l) :
  Calls Tryz.prog 77 #[.pointer (some ⟨b,0,none⟩),.agg (rcs x).toArray] w fun e w'=>e = .returned (.int .i64 (writeV D l s (recB x.l)).2.2) ∧ ∃ F',VAt w' F' S b g p gs (writeV D l s (recB x.l)).1 (writeV D l s (recB x.l)).2.1 s ∧ Fr (Tt F S b) (Tt F' S b) w w':=by
 obtain ⟨x,A1,B1,c1,d1⟩:=x
 simp only at hv hok
 have HH:=Lib.hid h
 have hT:recB x = ⟨(recL x).toArray⟩:=rfl
 have hsz:(recB x).size ≤ reachBytes:=by have:=recB_size hok;rw [show reachBytes = 140737488351232 from rfl];omega
 have HLg:=Lib.hid (And.intro hi (And.intro hu hc))
 have he:=lencodeAll A1 B1 c1 d1 x _ (hv.below ((Below.refl _ w).alloc (Nat.le_refl _) (.cells #[.int .i64 x.kind,.int .i64 x.txn,.int .i64 x.ts,.int .i64 x.coord,.string x.key,.string x.text,.bool x.dead,.slice A1 x.keys.length c1,.slice B1 x.ws.length d1] 37)))
 rw [encV_ok hok,← hT] at he
 unfold recV at he
 have HEn:=Lib.hid he
 have hr1:Cel (w.alloc (.cells #[.int .i64 x.kind,.int .i64 x.txn,.int .i64 x.ts,.int .i64 x.coord,.string x.key,.string x.text,.bool x.dead,.slice A1 x.keys.length c1,.slice B1 x.ws.length d1] 37)) w.heap.size 37 [.int .i64 x.kind,.int .i64 x.txn,.int .i64 x.ts,.int .i64 x.coord,.string x.key,.string x.text,.bool x.dead,.slice A1 x.keys.length c1,.slice B1 x.ws.length d1]:=(blk1 w _).2
 have hb1:Below w.heap.size w (w.alloc (.cells #[.int .i64 x.kind,.int .i64 x.txn,.int .i64 x.ts,.int .i64 x.coord,.string x.key,.string x.text,.bool x.dead,.slice A1 x.keys.length c1,.slice B1 x.ws.length d1] 37)):=(Below.refl _ w).alloc (Nat.le_refl _) _
 generalize recB x = t at he HEn hsz ⊢
 have HAE:=Lib.hid (show writeV D l s t = if (addV D l s t).2.2 = 0 then syncP (addV D l s t).1 (addV D l s t).2.1 else addV D l s t from rfl)
 have HIn:=Lib.hid (add_in (s:=s) (sideOk h.sd) hi hu hc t)
 clear he hT h hi hu hc hok hv
 simp only [rcs]
 go_enter Tryz.func77,Tryz.ntmps77
 go_upto_region 1 with fail
 generalize w.alloc (.cells #[.int .i64 x.kind,.int .i64 x.txn,.int .i64 x.ts,.int .i64 x.coord,.string x.key,.string x.text,.bool x.dead,.slice A1 x.keys.length c1,.slice B1 x.ws.length d1] 37) = W1 at hr1 hb1 HEn ⊢
 have q0:=hr1.cell (i:=0) rfl
 have q1:=hr1.cell (i:=1) rfl
 have q2:=hr1.cell (i:=2) rfl
 have q3:=hr1.cell (i:=3) rfl
 have q4:=hr1.cell (i:=4) rfl
 have q5:=hr1.cell (i:=5) rfl
 have q6:=hr1.cell (i:=6) rfl
 have q7:=hr1.cell (i:=7) rfl
 have q8:=hr1.cell (i:=8) rfl
 clear hr1
 go_wp2_with fail
 refine HEn.out.mono ?_
 rintro e2 w2 ⟨rfl,hb⟩
 have HB2:=Lib.hid (hb1.trans (hb.mono hb1.size))
 have H2:=Lib.hid (HH.out.below HB2.out)
 have HAd:=Lib.hid (vadd_any H2.out HLg.out.1 HLg.out.2.1 HLg.out.2.2 t hsz)
 clear hb hb1 HEn q0 q1 q2 q3 q4 q5 q6 q7 q8 HLg hsz HH
 go_wp2_with fail
 refine HAd.out.mono ?_
 rintro e3 w3 ⟨rfl,F1,h3,hf3⟩
 have H3:=Lib.hid h3
 have HF3:=Lib.hid (Fr.after HB2.out hf3)
 clear h3 hf3 HAd H2 HB2
 generalize addV D l s t = R at H3 HAE HIn ⊢
 obtain ⟨D1,l1,er⟩:=R
 simp only at H3 HAE HIn ⊢
 by_cases h0:er = 0
 case neg =>
  have z:(er != 0) = true:=by simpa using h0
  have HE3:=Lib.hid (show writeV D l s t = (D1,l1,er) by rw [HAE.out,if_neg h0])
  clear HAE HIn h0
  go_wp2_with fail
  go_ret
  rw [HE3.out]
  exact ⟨rfl,F1,H3.out,HF3.out⟩
 subst h0
 have HE3:=Lib.hid (show writeV D l s t = syncP D1 l1 by rw [HAE.out,if_pos rfl])
 have HSy:=Lib.hid (show Hid _ from Lib.hid (HIn.out.elim (fun q=>Side.syn logF H3.out.sd q.2.2.1 q.1) (fun q=>by cases q.1)))
 have s0:=H3.out.cel.cell (i:=0) rfl
 clear HAE HIn
 go_wp2_with fail
 refine HSy.out.out.mono ?_
 rintro e4 w4 ⟨rfl,F4,hs4,hf4⟩
 have H4:=Lib.hid (H3.out.dev hs4 hf4)
 clear hs4 hf4 s0 HSy
 go_wp2_with fail
 go_ret
 rw [HE3.out]
 exact ⟨rfl,F4,H4.out.1,HF3.out.trans H4.out.2⟩
theorem VAt.turn (h:VAt W F S b g p gs D l s) (hb:∀ k,S' k → ¬ Tt F S b k) (hn:Sh.LRep W S' gs' s') (ho:Sh.ShOk s') :
  VAt (W.setCell ⟨b,1,none⟩ (.pointer (some ⟨gs',0,none⟩))) F S' b g p gs' D l s' :=
 h.put hn ho (fun hk=>hb b hk (.inr (.inr rfl))) (fun k hk hf=>hb k hk (.inl hf))
theorem fr_turn {P:Nat → Prop} {w0:World} {v:Value} (h:Fr P (Tt F S b) w0 W) (hP:P b) (hS:∀ k,S' k → w0.heap.size ≤ k):Fr P (Tt F S' b) w0 (W.setCell ⟨b,1,none⟩ v) :=
 have hk:∀ k,k ≠ b → (W.setCell ⟨b,1,none⟩ v).heap[k]? = W.heap[k]?:=fun k hk=>Below.heap_setCell W ⟨b,1,none⟩ _ k hk
 ⟨h.os,h.tape,h.output,by simpa [World.setCell] using h.size,fun k h1 hn=>(hk k (fun e=>hn (e ▸ hP))).trans (h.block k h1 hn),fun k h1=>by
  rcases h1 with h1 | h1 | h1
  ·exact h.foot k (.inl h1)
  ·exact .inr (hS k h1)
  ·exact .inl (h1 ▸ hP)⟩
theorem vshelf_any (h:VAt w F S b g p gs D l s) :
  Calls Tryz.prog 25 #[.pointer (some ⟨b,0,none⟩)] w fun e w'=>∃ (g':Nat) (F':Nat → Prop),e = .returned (.pointer (some ⟨g',0,none⟩)) ∧ Sh.LRep w' F' g' s ∧ (∀ k,F' k → w.heap.size ≤ k) ∧ Below w.heap.size w w':=by
 have HK:=Lib.hid (h.sh.fork_c h.ok)
 have s1:=h.cel.cell (i:=1) rfl
 clear h
 go_enter Tryz.func25,Tryz.ntmps25
 go_wp2_with fail
 refine HK.out.mono ?_
 rintro e1 w1 ⟨g1,F1,rfl,h1,h2,h3⟩
 have HH:=Lib.hid (And.intro h1 (And.intro h2 h3))
 clear h1 h2 h3 HK
 go_wp2_with fail
 go_ret
 exact ⟨g1,F1,rfl,HH.out.1,HH.out.2.1,HH.out.2.2⟩
def DonePost (w:World) (F S:Nat → Prop) (b g p:Nat) (R:Dev × Lg × Sh.Shf × Int) (e:Ending) (w':World):Prop :=
 e = .returned (.int .i64 R.2.2.2) ∧ ∃ (F' S':Nat → Prop) (gs':Nat),VAt w' F' S' b g p gs' R.1 R.2.1 R.2.2.1 ∧ Fr (Tt F S b) (Tt F' S' b) w w'
theorem vdo_any (h:VAt w F S b g p gs D l s) (hi:LgIn D l) (hu:D.down = false) (hc:l.cnt + 2 < 4611686018427388000) (x:RI) (hv:RecVal w x.A x.B x.c x.d x.l) :
  Calls Tryz.prog 24 #[.pointer (some ⟨b,0,none⟩),.agg (rcs x).toArray] w (DonePost w F S b g p (doV D l s x.l)):=by
 obtain ⟨x,A1,B1,c1,d1⟩:=x
 simp only at hv
 have HH:=Lib.hid h
 have HLg:=Lib.hid (And.intro hi (And.intro hu hc))
 have HV:=Lib.hid hv
 have HDo:=Lib.hid (show doV D l s x = if (Sh.applyP s x).2 = 0 then
   ((writeV D l s (recB x)).1,(writeV D l s (recB x)).2.1,(if (writeV D l s (recB x)).2.2 = 0 then (Sh.applyP s x).1 else s),(writeV D l s (recB x)).2.2)
  else (D,l,s,(Sh.applyP s x).2) from rfl)
 have hr1:Cel (w.alloc (.cells #[.int .i64 x.kind,.int .i64 x.txn,.int .i64 x.ts,.int .i64 x.coord,.string x.key,.string x.text,.bool x.dead,.slice A1 x.keys.length c1,.slice B1 x.ws.length d1] 37)) w.heap.size 37 [.int .i64 x.kind,.int .i64 x.txn,.int .i64 x.ts,.int .i64 x.coord,.string x.key,.string x.text,.bool x.dead,.slice A1 x.keys.length c1,.slice B1 x.ws.length d1]:=(blk1 w _).2
 have hb1:Below w.heap.size w (w.alloc (.cells #[.int .i64 x.kind,.int .i64 x.txn,.int .i64 x.ts,.int .i64 x.coord,.string x.key,.string x.text,.bool x.dead,.slice A1 x.keys.length c1,.slice B1 x.ws.length d1] 37)):=(Below.refl _ w).alloc (Nat.le_refl _) _
 have hz1:(w.alloc (.cells #[.int .i64 x.kind,.int .i64 x.txn,.int .i64 x.ts,.int .i64 x.coord,.string x.key,.string x.text,.bool x.dead,.slice A1 x.keys.length c1,.slice B1 x.ws.length d1] 37)).heap.size = w.heap.size + 1:=Array.size_push ..
 clear h hi hu hc hv
 simp only [rcs]
 go_enter Tryz.func24,Tryz.ntmps24
 go_upto_region 1 with fail
 generalize w.alloc (.cells #[.int .i64 x.kind,.int .i64 x.txn,.int .i64 x.ts,.int .i64 x.coord,.string x.key,.string x.text,.bool x.dead,.slice A1 x.keys.length c1,.slice B1 x.ws.length d1] 37) = W1 at hr1 hb1 hz1 ⊢
 have HR1:=Lib.hid hr1
 have HB1:=Lib.hid hb1
 have HZ1:=Lib.hid hz1
 have H1:=Lib.hid (HH.out.below hb1)
 have HK:=Lib.hid (H1.out.sh.fork_c H1.out.ok)
 have s1:=H1.out.cel.cell (i:=1) rfl
 clear hr1 hb1 hz1
 go_wp2_with fail
 refine HK.out.mono ?_
 rintro e2 w2 ⟨g2,F2,rfl,h2,hn2,hb2⟩
 have HR2:=Lib.hid (show Cel w2 w.heap.size 37 [.int .i64 x.kind,.int .i64 x.txn,.int .i64 x.ts,.int .i64 x.coord,.string x.key,.string x.text,.bool x.dead,.slice A1 x.keys.length c1,.slice B1 x.ws.length d1] from HR1.out.below hb2)
 have HB2:=Lib.hid (HB1.out.trans (hb2.mono HB1.out.size))
 have HAp:=Lib.hid (h2.apply_c H1.out.ok ⟨x,A1,B1,c1,d1⟩ (HV.out.below HB2.out))
 have HN2:=Lib.hid (fun k hk=>show w.heap.size + 1 ≤ k by have:=hn2 k hk;have:=HZ1.out;omega)
 have hz2:w.heap.size + 1 ≤ w2.heap.size:=by have:=hb2.size;have:=HZ1.out;omega
 have HZ2:=Lib.hid hz2
 have q0:=HR2.out.cell (i:=0) rfl
 have q1:=HR2.out.cell (i:=1) rfl
 have q2:=HR2.out.cell (i:=2) rfl
 have q3:=HR2.out.cell (i:=3) rfl
 have q4:=HR2.out.cell (i:=4) rfl
 have q5:=HR2.out.cell (i:=5) rfl
 have q6:=HR2.out.cell (i:=6) rfl
 have q7:=HR2.out.cell (i:=7) rfl
 have q8:=HR2.out.cell (i:=8) rfl
 simp only [rcs] at HAp
 clear h2 hn2 hb2 hz2 s1 HK H1 HR1
 go_wp2_with fail
 refine HAp.out.mono ?_
 rintro e3 w3 ⟨rfl,h3,hf3⟩
 have HB3:=Lib.hid (HB2.out.trans (Sh.far_below hf3 (fun k hk=>by have:=HN2.out k hk;omega) (by have:=HZ2.out;omega)))
 have HR3:=Lib.hid (show Cel w3 w.heap.size 37 _ from (hf3.block _ (by have:=HZ2.out;omega) (fun hk=>by have:=HN2.out _ hk;omega)).trans HR2.out)
 have H3:=Lib.hid (HH.out.below HB3.out)
 have HG:=Lib.hid (fun k (hk:Sh.Gr F2 w2 w3 k)=>show w.heap.size ≤ k ∧ k < w3.heap.size from ⟨hk.elim (fun q=>by have:=HN2.out k q;omega) (fun q=>by have:=q.1;have:=HZ2.out;omega),h3.lt k hk⟩)
 have HS3:=Lib.hid (And.intro h3 (Sh.apply_ok HH.out.ok x))
 clear h3 hf3 q0 q1 q2 q3 q4 q5 q6 q7 q8 HAp HR2 HB2 HN2 HZ2 HB1 HZ1
 by_cases h0:(Sh.applyP s x).2 = 0
 case neg =>
  have z:((Sh.applyP s x).2 != 0) = true:=by simpa using h0
  have HE3:=Lib.hid (show doV D l s x = (D,l,s,(Sh.applyP s x).2) by rw [HDo.out,if_neg h0])
  clear HDo h0
  go_wp2_with fail
  go_ret
  rw [HE3.out]
  exact ⟨rfl,F,S,gs,H3.out,⟨HB3.out.os,HB3.out.tape,HB3.out.output,HB3.out.size,fun k hk _=>HB3.out.block k hk,fun k hk=>.inl hk⟩⟩
 have z:((Sh.applyP s x).2 != 0) = false:=by simpa using h0
 have HWr:=Lib.hid (vwrite_any H3.out HLg.out.1 HLg.out.2.1 HLg.out.2.2 ⟨x,A1,B1,c1,d1⟩ (HV.out.below HB3.out) (apply_rec h0))
 simp only [rcs] at HWr
 have HE3:=Lib.hid (show doV D l s x = ((writeV D l s (recB x)).1,(writeV D l s (recB x)).2.1,(if (writeV D l s (recB x)).2.2 = 0 then (Sh.applyP s x).1 else s),(writeV D l s (recB x)).2.2) by rw [HDo.out,if_pos h0])
 have q0:=HR3.out.cell (i:=0) rfl
 have q1:=HR3.out.cell (i:=1) rfl
 have q2:=HR3.out.cell (i:=2) rfl
 have q3:=HR3.out.cell (i:=3) rfl
 have q4:=HR3.out.cell (i:=4) rfl
 have q5:=HR3.out.cell (i:=5) rfl
 have q6:=HR3.out.cell (i:=6) rfl
 have q7:=HR3.out.cell (i:=7) rfl
 have q8:=HR3.out.cell (i:=8) rfl
 clear HDo h0 HLg HV
 go_wp2_with fail
 refine HWr.out.mono ?_
 rintro e4 w4 ⟨rfl,F4,h4,hf4⟩
 have H4:=Lib.hid h4
 have hgr:∀ k,Sh.Gr F2 w2 w3 k → ¬ Tt F S b k:=fun k hk ht=>by
  have:=HH.out.lt k ht
  have:=(HG.out k hk).1
  omega
 have HS4:=Lib.hid (And.intro (HS3.out.1.kept hf4.size (fun k hk=>hf4.block k (HG.out k hk).2 (hgr k hk))) HS3.out.2)
 have HT4:=Lib.hid (fun k (hk:Sh.Gr F2 w2 w3 k)=>show ¬ Tt F4 S b k from fun ht=>(hf4.foot k ht).elim (hgr k hk) (fun hs=>by have:=(HG.out k hk).2;omega))
 have HF4:=Lib.hid (Fr.after HB3.out hf4)
 have HG4:=Lib.hid (fun k (hk:Sh.Gr F2 w2 w3 k)=>show w.heap.size ≤ k from (HG.out k hk).1)
 have s1:=h4.cel.cell (i:=1) rfl
 have f1:=h4.cel.free (i:=1)
 clear h4 hf4 hgr HWr q0 q1 q2 q3 q4 q5 q6 q7 q8 HG HS3 H3 HB3 HR3 HH
 generalize writeV D l s (recB x) = R at H4 HE3 ⊢
 obtain ⟨D1,l1,er⟩:=R
 simp only at H4 HE3 ⊢
 by_cases h0:er = 0
 case neg =>
  have z:(er != 0) = true:=by simpa using h0
  rw [if_neg h0] at HE3
  clear h0
  go_wp2_with fail
  go_ret
  rw [HE3.out]
  exact ⟨rfl,F4,S,gs,H4.out,HF4.out⟩
 subst h0
 rw [if_pos rfl] at HE3
 go_wp2_with fail
 go_ret
 rw [HE3.out]
 exact ⟨rfl,F4,_,g2,H4.out.turn HT4.out HS4.out.1 HS4.out.2,fr_turn HF4.out (.inr (.inr rfl)) HG4.out⟩
theorem vfill_any (h:VAt w F S b g p gs D l s) (hi:LgIn D l) (hu:D.down = false) (A:Option Addr) (c:Nat) (X:List RI) (hX:Row w A X) (hn:X.length ≤ 20000000) :
  Calls Tryz.prog 26 #[.pointer (some ⟨b,0,none⟩),.slice A X.length c] w (DonePost w F S b g p (fillV D l s (X.map (·.l)))):=by
 have HH:=Lib.hid h
 have HLg:=Lib.hid (And.intro hi hu)
 have HX:=Lib.hid hX
 have HM:=Lib.hid (made_any A c X w hX (by omega))
 have HDo:=Lib.hid (show fillV D l s (X.map (·.l)) = if (goE (X.map (·.l)) Sh.empty).2 = 0 then
   ((restartP D l ((X.map (·.l)).map recB)).1,(restartP D l ((X.map (·.l)).map recB)).2.1,(if (restartP D l ((X.map (·.l)).map recB)).2.2 = 0 then (goE (X.map (·.l)) Sh.empty).1 else s),(restartP D l ((X.map (·.l)).map recB)).2.2)
  else (D,l,s,(goE (X.map (·.l)) Sh.empty).2) from rfl)
 have HRe:=Lib.hid (fun (h0:(goE (X.map (·.l)) Sh.empty).2 = 0) x (hx:x ∈ X)=>goE_recs _ h0 x.l (List.mem_map_of_mem hx))
 have HNn:=Lib.hid hn
 have HOk:=Lib.hid (goE_ok (X.map (·.l)) Sh.ok_empty)
 rw [← bytes_map] at HDo
 clear h hi hu hX hn
 go_enter Tryz.func26,Tryz.ntmps26
 go_wp2_with fail
 refine HM.out.mono ?_
 rintro e1 w1 (⟨h0,g2,F2,rfl,h2,hn2,hb2⟩ | ⟨h0,rfl,hb2⟩)
 case inr =>
  have HB2:=Lib.hid hb2
  have H3:=Lib.hid (HH.out.below hb2)
  have HE3:=Lib.hid (show fillV D l s (X.map (·.l)) = (D,l,s,(goE (X.map (·.l)) Sh.empty).2) by rw [HDo.out,if_neg h0])
  generalize (goE (X.map (·.l)) Sh.empty).2 = er at h0 HE3 ⊢
  have z:(er != 0) = true:=by simpa using h0
  clear HDo h0 hb2 HRe HM
  go_wp2_with fail
  go_ret
  rw [HE3.out]
  exact ⟨rfl,F,S,gs,H3.out,⟨HB2.out.os,HB2.out.tape,HB2.out.output,HB2.out.size,fun k hk _=>HB2.out.block k hk,fun k hk=>.inl hk⟩⟩
 have HB2:=Lib.hid hb2
 have HS2:=Lib.hid (And.intro h2 HOk.out)
 have HG2:=Lib.hid (fun k (hk:F2 k)=>show w.heap.size ≤ k ∧ k < w1.heap.size from ⟨hn2 k hk,h2.lt k hk⟩)
 have HE3:=Lib.hid (show fillV D l s (X.map (·.l)) = ((restartP D l (bytesOf X)).1,(restartP D l (bytesOf X)).2.1,(if (restartP D l (bytesOf X)).2.2 = 0 then (goE (X.map (·.l)) Sh.empty).1 else s),(restartP D l (bytesOf X)).2.2) by rw [HDo.out,if_pos h0])
 have HRs:=Lib.hid (vrestart_any (HH.out.below hb2) HLg.out.1 HLg.out.2 A c X (HX.out.below hb2) (HRe.out h0) HNn.out)
 clear h2 hn2 hb2 h0 HDo HM HRe HNn HX HLg
 go_wp2_with fail
 refine HRs.out.mono ?_
 rintro e4 w4 ⟨rfl,F4,h4,hf4⟩
 have H4:=Lib.hid h4
 have hgr:∀ k,F2 k → ¬ Tt F S b k:=fun k hk ht=>by
  have:=HH.out.lt k ht
  have:=(HG2.out k hk).1
  omega
 have HS4:=Lib.hid (And.intro (HS2.out.1.kept hf4.size (fun k hk=>hf4.block k (HG2.out k hk).2 (hgr k hk))) HS2.out.2)
 have HT4:=Lib.hid (fun k (hk:F2 k)=>show ¬ Tt F4 S b k from fun ht=>(hf4.foot k ht).elim (hgr k hk) (fun hs=>by have:=(HG2.out k hk).2;omega))
 have HF4:=Lib.hid (Fr.after HB2.out hf4)
 have HG4:=Lib.hid (fun k (hk:F2 k)=>show w.heap.size ≤ k from (HG2.out k hk).1)
 have s1:=h4.cel.cell (i:=1) rfl
 have f1:=h4.cel.free (i:=1)
 clear h4 hf4 hgr HRs HG2 HS2 HH
 generalize restartP D l (bytesOf X) = R at H4 HE3 ⊢
 obtain ⟨D1,l1,er⟩:=R
 simp only at H4 HE3 ⊢
 by_cases h0:er = 0
 case neg =>
  have z:(er != 0) = true:=by simpa using h0
  rw [if_neg h0] at HE3
  clear h0
  go_wp2_with fail
  go_ret
  rw [HE3.out]
  exact ⟨rfl,F4,S,gs,H4.out,HF4.out⟩
 subst h0
 rw [if_pos rfl] at HE3
 go_wp2_with fail
 go_ret
 rw [HE3.out]
 exact ⟨rfl,F4,_,g2,H4.out.turn HT4.out HS4.out.1 HS4.out.2,fr_turn HF4.out (.inr (.inr rfl)) HG4.out⟩
def OpnPost (w:World) (F:Nat → Prop) (g:Nat) (R:Dev × Option (Lg × Sh.Shf) × Int) (e:Ending) (w':World):Prop :=
 (∃ l s,R.2.1 = some (l,s) ∧ R.2.2 = 0 ∧ ∃ (F' S':Nat → Prop) (b p gs:Nat),e = .returned (.tuple #[.pointer (some ⟨b,0,none⟩),.int .i64 0]) ∧ VAt w' F' S' b g p gs R.1 l s ∧ Fr F (Tt F' S' b) w w') ∨
 (R.2.1 = none ∧ e = .returned (.tuple #[.pointer none,.int .i64 R.2.2]) ∧ ∃ F':Nat → Prop,Side Sc.Rep Rd.LRep w' F' g R.1 none ∧ Fr F F' w w')
theorem side_none {F:Nat → Prop} {o:Option (Nat × Lg)} (h:Side Sc.Rep Rd.LRep w F g D o):∃ F':Nat → Prop,(∀ k,F' k → F k) ∧ Side Sc.Rep Rd.LRep w F' g D none:=by
 obtain ⟨Fd,hs,h1⟩:=h.dev
 exact ⟨Fd,hs,h1⟩
theorem fr_less {P Q R:Nat → Prop} (h:Fr P Q w W) (hs:∀ k,R k → Q k):Fr P R w W:=⟨h.os,h.tape,h.output,h.size,h.block,fun k hk=>h.foot k (hs k hk)⟩
theorem fr_below {P Q:Nat → Prop} (h:Fr P Q w W) (hb:Below W.heap.size W W'):Fr P Q w W' :=
 ⟨hb.os.trans h.os,hb.tape.trans h.tape,hb.output.trans h.output,Nat.le_trans h.size hb.size,fun k hk hn=>(hb.block k (Nat.lt_of_lt_of_le hk h.size)).trans (h.block k hk hn),h.foot⟩
theorem openV_no {D:Dev} (h:(openP D).2.1 = none):openV D = ((openP D).1,none,(openP D).2.2):=by unfold openV;rw [h]
theorem openV_bad {D:Dev} {l:Lg} (h:(openP D).2.1 = some l) (h2:shelfOf l.ts = none):openV D = ((openP D).1,none,101):=by unfold openV;rw [h];simp only [h2]
theorem openV_ok {D:Dev} {l:Lg} {s:Sh.Shf} (h:(openP D).2.1 = some l) (h2:shelfOf l.ts = some s):openV D = ((openP D).1,some (l,s),0):=by unfold openV;rw [h];simp only [h2]
theorem shelf_no1 {ts:List ByteArray} (h:∃ t ∈ ts,(Rc.decX t).2 ≠ 0):shelfOf ts = none:=by
 unfold shelfOf
 obtain ⟨t,ht,hn⟩:=h
 exact if_neg fun q=>hn (q.1 t ht)
theorem shelf_no2 {ts:List ByteArray} (h:(goE (ts.map fun t=>(Rc.decX t).1) Sh.empty).2 ≠ 0):shelfOf ts = none:=by
 unfold shelfOf
 exact if_neg fun q=>h q.2
theorem shelf_some {ts:List ByteArray} (h1:∀ t ∈ ts,(Rc.decX t).2 = 0) (h2:(goE (ts.map fun t=>(Rc.decX t).1) Sh.empty).2 = 0):shelfOf ts = some (goE (ts.map fun t=>(Rc.decX t).1) Sh.empty).1:=by
 unfold shelfOf
 exact if_pos ⟨h1,h2⟩
theorem vopen_any (o:Option (Nat × Lg)) (h:Side Sc.Rep Rd.LRep w F g D o) :
  Calls Tryz.prog 23 #[.pointer (some ⟨g,0,none⟩)] w (OpnPost w F g (openV D)):=by
 have HO:=Lib.hid (Side.opn logF h)
 have hok:=sideOk h
 have HIn:=Lib.hid (fun l (hl:(openP D).2.1 = some l)=>open_in hok hl)
 have HNo:=Lib.hid (fun (hl:(openP D).2.1 = none)=>And.intro (open_no hl) (openV_no hl))
 have HBad:=Lib.hid (fun l (hl:(openP D).2.1 = some l) (h2:shelfOf l.ts = none)=>openV_bad hl h2)
 have HGood:=Lib.hid (fun l s (hl:(openP D).2.1 = some l) (h2:shelfOf l.ts = some s)=>openV_ok hl h2)
 clear h hok
 go_enter Tryz.func23,Tryz.ntmps23
 go_wp2_with fail
 refine HO.out.mono ?_
 rintro e1 w1 ⟨o1,rfl,ho,F1,h1,hf1⟩
 have H1:=Lib.hid h1
 have HF1:=Lib.hid hf1
 clear h1 hf1 HO
 generalize openP D = R at H1 ho HIn HNo HBad HGood ⊢
 obtain ⟨D1,ol,er⟩:=R
 simp only at H1 ho HIn HNo HBad HGood ⊢
 cases o1 with
 | none =>
  subst ho
  have z:(er != 0) = true:=by simpa using (HNo.out rfl).1
  have HE:=Lib.hid (HNo.out rfl).2
  clear HNo HBad HGood HIn
  unfold ptrV
  go_wp2_with fail
  go_ret2
  rw [HE.out]
  exact .inr ⟨rfl,rfl,F1,H1.out,HF1.out⟩
 | some q =>
  obtain ⟨p,l⟩:=q
  subst ho
  have hz:=(HIn.out l rfl).2.2.2
  subst hz
  have HB:=Lib.hid (HBad.out l rfl)
  have HG:=Lib.hid (fun s=>HGood.out l s rfl)
  have HL:=Lib.hid (HIn.out l rfl).1
  have HTx:=Lib.hid (show Hid (Calls Tryz.prog 75 #[.pointer (some ⟨p,0,none⟩)] w1 fun e w'=>∃ v,e = .returned v ∧ w'.ownsRow w1.heap.size 9 1 v l.ts.length (strV l.ts) ∧ Below w1.heap.size w1 w') from Lib.hid (by
   obtain ⟨Fd,Fl,-,-,⟨A,B,-,hL⟩,-⟩:=H1.out
   exact ltexts_any hL (by have:=HL.out.ok.many;omega) (fun t ht=>by have:=HL.out.small t ht;omega)))
  clear HNo HBad HGood HIn
  unfold ptrV
  go_wp2_with fail
  refine HTx.out.out.mono ?_
  rintro e2 w2 ⟨v,rfl,hv,hb2⟩
  obtain ⟨A,c,rfl,hA,-,-⟩:=strs_own_new hv rfl
  have HD:=Lib.hid (decoded_any A c l.ts w2 hA HL.out.small HL.out.ok.many)
  have HB2:=Lib.hid hb2
  have HMany:=Lib.hid HL.out.ok.many
  clear hv hb2 hA HTx HL
  go_wp2_with fail
  refine HD.out.mono ?_
  rintro e3 w3 (⟨hall,A3,c3,X,rfl,hX,hr,hb3⟩ | ⟨hbad,code,rfl,hc,hb3⟩)
  case inr =>
   have z:(code != 0) = true:=by simpa using hc
   have HE:=Lib.hid (HB.out (shelf_no1 hbad))
   have HB3:=Lib.hid (HB2.out.trans (hb3.mono HB2.out.size))
   clear hbad hc hb3 HB HG HD HB2
   go_wp2_with fail
   go_ret2
   rw [HE.out]
   obtain ⟨F',q1,q2⟩:=side_none (sideKept H1.out (fun k hk=>HB3.out.block k (sideLt H1.out k hk)))
   exact .inr ⟨rfl,rfl,F',q2,fr_less (fr_below HF1.out HB3.out) q1⟩
  have hxl:X.length = l.ts.length:=by have:=congrArg List.length hX;simpa using this
  have HM:=Lib.hid (made_any A3 c3 X w3 hr (by rw [hxl];have:=HMany.out;omega))
  have HB3:=Lib.hid (HB2.out.trans (hb3.mono HB2.out.size))
  have HAll:=Lib.hid hall
  rw [hX] at HM
  clear hall hX hr hb3 HD HB2 hxl
  go_wp2_with fail
  refine HM.out.mono ?_
  rintro e4 w4 (⟨h0,g4,F4,rfl,h4,hn4,hb4⟩ | ⟨h0,rfl,hb4⟩)
  case inr =>
   have HE:=Lib.hid (HB.out (shelf_no2 h0))
   have HB4:=Lib.hid (HB3.out.trans (hb4.mono HB3.out.size))
   generalize (goE (l.ts.map fun t=>(Rc.decX t).1) Sh.empty).2 = er at h0 ⊢
   have z:(er != 0) = true:=by simpa using h0
   clear h0 hb4 HB HG HM HB3 HAll
   go_wp2_with fail
   go_ret2
   rw [HE.out]
   obtain ⟨F',q1,q2⟩:=side_none (sideKept H1.out (fun k hk=>HB4.out.block k (sideLt H1.out k hk)))
   exact .inr ⟨rfl,rfl,F',q2,fr_less (fr_below HF1.out HB4.out) q1⟩
  have HE:=Lib.hid (HG.out _ (shelf_some HAll.out h0))
  have HOk:=Lib.hid (shelf_ok (shelf_some HAll.out h0))
  generalize (goE (l.ts.map fun t=>(Rc.decX t).1) Sh.empty).1 = s at h4 HE HOk
  have HB4:=Lib.hid (HB3.out.trans (hb4.mono HB3.out.size))
  have HN4:=Lib.hid (fun k hk=>show w1.heap.size ≤ k from Nat.le_trans HB3.out.size (hn4 k hk))
  have H4:=Lib.hid h4
  have hr5:Cel (w4.alloc (.cells #[.pointer (some ⟨p,0,none⟩),.pointer (some ⟨g4,0,none⟩)] 135)) w4.heap.size 135 [.pointer (some ⟨p,0,none⟩),.pointer (some ⟨g4,0,none⟩)]:=(blk1 w4 _).2
  have hb5:Below w4.heap.size w4 (w4.alloc (.cells #[.pointer (some ⟨p,0,none⟩),.pointer (some ⟨g4,0,none⟩)] 135)):=(Below.refl _ w4).alloc (Nat.le_refl _) _
  clear h0 hb4 HB HG HM h4 hn4 HAll
  go_wp2_with fail
  go_ret2
  generalize w4.alloc (.cells #[.pointer (some ⟨p,0,none⟩),.pointer (some ⟨g4,0,none⟩)] 135) = W5 at hr5 hb5 ⊢
  rw [HE.out]
  have hB5:=HB4.out.trans (hb5.mono HB4.out.size)
  have hlt1:=sideLt H1.out
  have hz4:=HB4.out.size
  refine .inl ⟨l,s,rfl,rfl,F1,F4,w4.heap.size,p,g4,rfl,⟨sideKept H1.out (fun k hk=>hB5.block k (hlt1 k hk)),H4.out.below hb5,HOk.out,hr5,fun hk=>?_,fun hk=>?_,fun k hk hf=>?_⟩,?_⟩
  ·have:=hlt1 _ hk;omega
  ·have:=H4.out.lt _ hk;omega
  ·have:=hlt1 k hf;have:=HN4.out k hk;omega
  ·exact ⟨hB5.os.trans HF1.out.os,hB5.tape.trans HF1.out.tape,hB5.output.trans HF1.out.output,Nat.le_trans HF1.out.size hB5.size,fun k hk hn=>(hB5.block k (Nat.lt_of_lt_of_le hk HF1.out.size)).trans (HF1.out.block k hk hn),fun k hk=>by
    have:=HF1.out.size
    rcases hk with hk | hk | hk
    ·exact HF1.out.foot k hk
    ·exact .inr (by have:=HN4.out k hk;omega)
    ·exact .inr (by omega)⟩
end
structure Ow (w0 W:World) (P:Nat → Prop):Prop where
 bF:∀ k,P k → w0.heap.size ≤ k
 bel:Below w0.heap.size w0 W
section
variable {w0 W W':World} {P Q:Nat → Prop}
theorem Ow.act (h:Ow w0 W P) (h2:Fr P Q W W'):Ow w0 W' Q :=
 ⟨fun k hk=>(h2.foot k hk).elim (h.bF k) (fun hs=>Nat.le_trans h.bel.size hs),h.bel.trans (h2.belowB h.bF h.bel.size)⟩
theorem Ow.less (h:Ow w0 W P) (hs:∀ k,Q k → P k):Ow w0 W Q:=⟨fun k hk=>h.bF k (hs k hk),h.bel⟩
theorem Ow.step (h:Ow w0 W P) (hb:Below W.heap.size W W'):Ow w0 W' P:=⟨h.bF,h.bel.trans (hb.mono h.bel.size)⟩
end
theorem e5_val (W:World):RecVal W none none 0 0 e5:=Rc.bare_val W 1 5 0 e5_ok
theorem opn_some {w w':World} {F:Nat → Prop} {g:Nat} {D D1:Dev} {l:Lg} {s:Sh.Shf} {e:Ending} (h:OpnPost w F g (openV D) e w') (ho:openV D = (D1,some (l,s),0)) :
  ∃ (F' S':Nat → Prop) (b p gs:Nat),e = .returned (.tuple #[.pointer (some ⟨b,0,none⟩),.int .i64 0]) ∧ VAt w' F' S' b g p gs D1 l s ∧ Fr F (Tt F' S' b) w w':=by
 rw [ho] at h
 rcases h with ⟨l1,s1,h1,-,h2⟩ | ⟨h1,-⟩
 ·obtain ⟨rfl,rfl⟩:=Prod.mk.inj (Option.some.inj h1)
  exact h2
 ·cases h1
theorem vworks_any (w:World) :
  Calls Tryz.prog 19 #[] w fun e w'=>e = .returned (.bool true) ∧ Below w.heap.size w w':=by
 obtain ⟨D1,ho1,v1⟩:=fresh_vi (n:=40) (by omega) (by omega)
 obtain ⟨D2,l2,hd2,v2⟩:=e5_do v1
 obtain ⟨l3,ho3⟩:=crash_vi v2 (by omega) []
 have H1:=Lib.hid (And.intro ho1 (And.intro hd2 ho3))
 have HV:=Lib.hid v1
 clear ho1 hd2 ho3 v1 v2
 go_enter Tryz.func19,Tryz.ntmps19
 go_wp2_with fail
 refine (devBase.new 40 w ⟨by omega,by omega⟩).mono ?_
 rintro e w1 (⟨_,_,F1,g,rfl,hr1,hF1,hb1⟩ | ⟨hno,_,_⟩)
 case inr=>exact absurd ⟨by omega,by omega⟩ hno
 have O1:Hid (Ow w w1 F1):=Lib.hid ⟨hF1,hb1⟩
 have R1:=Lib.hid (vopen_any (w:=w1) (F:=F1) (g:=g) (D:=new0 40) none hr1)
 clear hr1 hF1 hb1
 go_wp2_with fail
 refine R1.out.mono ?_
 rintro e w2 hp
 obtain ⟨F2,S2,b,p,gs,rfl,hv2,hf2⟩:=opn_some hp H1.out.1
 have O2:=Lib.hid (O1.out.act hf2)
 have HD:=Lib.hid (vdo_any hv2 HV.out.w.lg HV.out.w.id.2 (by have:=HV.out.w.cnt;omega) ⟨e5,none,none,0,0⟩ (e5_val w2))
 simp only [rcs,e5] at HD
 rw [show (⟨1,5,0,0,⟨#[]⟩,⟨#[]⟩,false,[],[]⟩:Rec) = e5 from rfl,H1.out.2.1] at HD
 clear hp hv2 hf2 O1 R1 HV
 go_wp2_with fail
 refine HD.out.mono ?_
 rintro e w3 ⟨rfl,F3,S3,gs3,hv3,hf3⟩
 simp only at hv3
 have O3:=Lib.hid ((O2.out.act hf3).less (Q:=F3) (fun k hk=>.inl hk))
 have HC:=Lib.hid (Side.crash (devF_of devBase) hv3.sd none 0 [] (fun h=>absurd h (by simp)) (fun h=>absurd h (by simp)) (by decide) (fun x hx=>by cases hx))
 clear hv3 hf3 O2 HD
 go_wp2_with fail
 refine HC.out.mono ?_
 rintro e w4 ⟨rfl,F4,hs4,hf4⟩
 have O4:=Lib.hid (O3.out.act hf4)
 have R4:=Lib.hid (vopen_any (w:=w4) (F:=F4) (g:=g) (D:=crD D2 []) none hs4)
 clear hs4 hf4 O3 HC
 go_wp2_with fail
 refine R4.out.mono ?_
 rintro e w5 hp
 obtain ⟨F5,S5,b5,p5,gs5,rfl,hv5,hf5⟩:=opn_some hp H1.out.2.2
 have O5:=Lib.hid (O4.out.act hf5)
 have R5:=Lib.hid (vshelf_any hv5)
 have HOk:=Lib.hid hv5.ok
 clear hp hv5 hf5 O4 R4
 go_wp2_with fail
 refine R5.out.mono ?_
 rintro e w6 ⟨g6,F6,rfl,h6,-,hb6⟩
 have HB6:=Lib.hid (O5.out.step hb6).bel
 have HS:=Lib.hid (h6.state_c HOk.out 5 ⟨by omega,by omega⟩)
 rw [s5_st] at HS
 clear h6 hb6 O5 R5
 go_wp2_with fail
 refine HS.out.mono ?_
 rintro e w7 ⟨rfl,hb7⟩
 have HB7:=Lib.hid (HB6.out.trans (hb7.mono HB6.out.size))
 clear hb7 HB6 HS
 go_wp2_with fail
 go_ret
 exact ⟨rfl,HB7.out⟩
end Vt
end Go.Proofs.YtbkanoblcojdfaaGreat
