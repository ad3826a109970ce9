/- Parts of the proof, joined: ShL11, ShL12, ShL13, ShL14; their conditions stand with each. -/
import Derived.Test.YtbkanoblcojdfaaGreatV21
import Derived.Test.YtbkanoblcojdfaaGreatV34

set_option maxRecDepth 20000
set_option maxHeartbeats 8000000
namespace Go.Proofs.YtbkanoblcojdfaaGreat
namespace Sh
open Go.RowKit Bk Ch Lt Rc Tr
def Gr (F:Nat → Prop) (W w':World):Nat → Prop:=fun k=>F k ∨ (W.heap.size ≤ k ∧ k < w'.heap.size)
structure St (w w':World):Prop where
 os:w'.os = w.os
 tape:w'.tape = w.tape
 output:w'.output = w.output
theorem St.refl (w:World):St w w:=⟨rfl,rfl,rfl⟩
theorem St.trans {a b c:World} (h:St a b) (k:St b c):St a c:=⟨k.os.trans h.os,k.tape.trans h.tape,k.output.trans h.output⟩
theorem st_below {B:Nat} {w w':World} (h:Below B w w'):St w w':=⟨h.os,h.tape,h.output⟩
theorem st_grown {r:Option Nat} {w w':World} (h:w.grownBy w' r):St w w':=⟨h.os,h.tape,h.output⟩
theorem st_turned {w w':World} {b:Nat} (h:w.mapTurned w' b):St w w':=by
 obtain ⟨es,clock,es',clock',_,rfl⟩:=h
 exact ⟨rfl,rfl,rfl⟩
theorem st_set (w:World) (a:Addr) (v:Value):St w (w.setCell a v):=⟨rfl,rfl,rfl⟩
theorem st_row (w:World) (b:Nat) (r:Array Value):St w (w.setRow b r):=⟨rfl,rfl,rfl⟩
structure Far (F:Nat → Prop) (w w':World):Prop extends Away F w w' where
 st:St w w'
theorem Far.refl (F:Nat → Prop) (w:World):Far F w w:=⟨Away.refl F w,St.refl w⟩
theorem Far.of {F:Nat → Prop} {w w':World} (h:Below w.heap.size w w'):Far F w w':=⟨Away.of h,st_below h⟩
theorem Far.trans {F:Nat → Prop} {a b c:World} (h:Far F a b) (k:Far F b c):Far F a c:=⟨h.toAway.trans k.toAway,h.st.trans k.st⟩
structure NewR (X:Nat) (x:RI):Prop where
 ks:0 < x.l.keys.length → ∀ ad,x.A = some ad → X ≤ ad.block
 ws:0 < x.l.ws.length → ∀ ad,x.B = some ad → X ≤ ad.block
section
variable {W V w':World} {F F':Nat → Prop} {g bc bp:Nat} {v:Value} {K:List KI} {P:List RI} {s:Shf}
theorem LAt.more (h:LAt W F g bc bp v K P s) (hF:∀ k,F k → F' k) (hl:∀ k,F' k → k < W.heap.size):LAt W F' g bc bp v K P s :=
 ⟨h.cel,h.mc,h.mp,h.re,h.en,h.kv,h.pv,h.ek,h.ep,h.bd,fun k hk=>hF k (h.fm k hk),fun x hx hp ad e=>hF _ (h.fk x hx hp ad e),fun x hx=>⟨fun hp ad e=>hF _ ((h.fp x hx).1 hp ad e),fun hp ad e=>hF _ ((h.fp x hx).2 hp ad e)⟩,hl⟩
theorem LAt.gr (h:LAt W F g bc bp v K P s) (hs:W.heap.size ≤ w'.heap.size) (h2:LAt w' F g bc bp v K P s):LAt w' (Gr F W w') g bc bp v K P s :=
 h2.more (fun _ hk=>.inl hk) (fun k hk=>hk.elim (fun hf=>Nat.lt_of_lt_of_le (h.fl k hf) hs) (fun h=>h.2))
theorem LAt.mu_lt (h:LAt W F g bc bp v K P s):∀ k,Mu g bc bp v k → k < W.heap.size:=fun k hk=>h.fl k (h.fm k hk)
theorem pval_new {x:RI} {M:Nat → Prop} {X:Nat} (hv:RecVal V x.A x.B x.c x.d x.l) (hn:NewR X x) (hM:∀ k,M k → k < X):PVal V M x :=
 ⟨hv,fun hp ad e hm=>by have:=hn.ks hp ad e;have:=hM _ hm;omega,fun hp ad e hm=>by have:=hn.ws hp ad e;have:=hM _ hm;omega⟩
theorem away_mu {b:Nat} {M:Nat → Prop} (hs:V.heap.size ≤ w'.heap.size) (hk:∀ k,k ≠ b → w'.heap[k]? = V.heap[k]?) (hM:M b):Away M V w':=⟨hs,fun k _ hn=>hk k (fun e=>hn (by rw [e];exact hM))⟩
theorem newR_in {x:RI} {X:Nat} (hv:RecVal V x.A x.B x.c x.d x.l) (hn:NewR X x) (hX:W.heap.size ≤ X) (hs:V.heap.size ≤ w'.heap.size):(0 < x.l.keys.length → ∀ ad,x.A = some ad → Gr F W w' ad.block) ∧ (0 < x.l.ws.length → ∀ ad,x.B = some ad → Gr F W w' ad.block) :=
 ⟨fun hp ad e=>.inr ⟨Nat.le_trans hX (hn.ks hp ad e),by
   obtain ⟨a',e',h1,_⟩:=hv.ks hp
   obtain rfl:=Option.some.inj (e.symm.trans e')
   omega⟩,fun hp ad e=>.inr ⟨Nat.le_trans hX (hn.ws hp ad e),by
   obtain ⟨a',e',h1,_⟩:=hv.ws hp
   obtain rfl:=Option.some.inj (e.symm.trans e')
   omega⟩⟩
theorem gr_lt (hF:∀ k,F k → k < W.heap.size) (hs:W.heap.size ≤ w'.heap.size):∀ k,Gr F W w' k → k < w'.heap.size:=fun k hk=>hk.elim (fun h=>Nat.lt_of_lt_of_le (hF k h) hs) (fun h=>h.2)
theorem LAt.setP (h:LAt V F g bc bp v K P s) (hk:∀ k,k ≠ bp → w'.heap[k]? = V.heap[k]?) (hs:V.heap.size ≤ w'.heap.size) {P':List RI} {p':List Rec} (hm:MapIs intQ w' bp (P'.map pp)) (hp:∀ x ∈ P',PVal V (Mu g bc bp v) x) (hl:P'.map (·.l) = p')
  (hF:∀ k,F k → F' k) (hfp:∀ x ∈ P',(0 < x.l.keys.length → ∀ ad,x.A = some ad → F' ad.block) ∧ (0 < x.l.ws.length → ∀ ad,x.B = some ad → F' ad.block)) (hFl:∀ k,F' k → k < w'.heap.size):LAt w' F' g bc bp v K P' ⟨s.k,p',s.e,s.over⟩ :=
 have aw:Away (Mu g bc bp v) V w':=away_mu hs hk (.inr (.inr (.inl rfl)))
 have hgp:g ≠ bp:=fun e=>by
  obtain ⟨es,cl,h1⟩:=h.mp.isMap
  have h2:=h.cel
  unfold Cel at h2
  rw [e,h1] at h2;cases h2
 ⟨(hk g hgp).trans h.cel,h.mc.kept (hk bc h.bd),hm,row_in h.re (fun k hv=>hk k (fun e=>by
   subst e
   rcases h.re.2 with ⟨e1,_⟩ | ⟨i,cap,cur,e1,_,hg,_⟩
   ·rw [e1] at hv;cases hv
   ·rw [e1] at hv
    obtain rfl:i = k:=by simpa [Value.ownBlock] using hv
    obtain ⟨es,cl,h1⟩:=h.mp.isMap
    rw [h1] at hg;cases hg)),h.en,fun x hx=>(h.kv x hx).away aw,fun x hx=>(hp x hx).away aw,h.ek,hl,h.bd,fun k hk=>hF k (h.fm k hk),fun x hx hp ad e=>hF _ (h.fk x hx hp ad e),hfp,hFl⟩
theorem LAt.setK (h:LAt V F g bc bp v K P s) (hk:∀ k,k ≠ bc → w'.heap[k]? = V.heap[k]?) (hs:V.heap.size ≤ w'.heap.size) {K':List KI} {k':List Kc} (hm:MapIs strQ w' bc (K'.map kp)) (hp:∀ x ∈ K',KVal V (Mu g bc bp v) x) (hl:K'.map (·.k) = k')
  (hF:∀ k,F k → F' k) (hfk:∀ x ∈ K',0 < x.k.l.length → ∀ ad,x.A = some ad → F' ad.block) (hFl:∀ k,F' k → k < w'.heap.size):LAt w' F' g bc bp v K' P ⟨k',s.p,s.e,s.over⟩ :=
 have aw:Away (Mu g bc bp v) V w':=away_mu hs hk (.inr (.inl rfl))
 have hgp:g ≠ bc:=fun e=>by
  obtain ⟨es,cl,h1⟩:=h.mc.isMap
  have h2:=h.cel
  unfold Cel at h2
  rw [e,h1] at h2;cases h2
 ⟨(hk g hgp).trans h.cel,hm,h.mp.kept (hk bp (fun e=>h.bd e.symm)),row_in h.re (fun k hv=>hk k (fun e=>by
   subst e
   rcases h.re.2 with ⟨e1,_⟩ | ⟨i,cap,cur,e1,_,hg,_⟩
   ·rw [e1] at hv;cases hv
   ·rw [e1] at hv
    obtain rfl:i = k:=by simpa [Value.ownBlock] using hv
    obtain ⟨es,cl,h1⟩:=h.mc.isMap
    rw [h1] at hg;cases hg)),h.en,fun x hx=>(hp x hx).away aw,fun x hx=>(h.pv x hx).away aw,hl,h.ep,h.bd,fun k hk=>hF k (h.fm k hk),hfk,fun x hx=>⟨fun hp ad e=>hF _ ((h.fp x hx).1 hp ad e),fun hp ad e=>hF _ ((h.fp x hx).2 hp ad e)⟩,hFl⟩
end
def insRI (P:List RI) (y:RI):List RI:=P.takeWhile (fun q=>decide (q.l.txn < y.l.txn)) ++ y :: P.dropWhile (fun q=>decide (q.l.txn < y.l.txn))
theorem insRI_map (P:List RI) (y:RI):(insRI P y).map (·.l) = insP (P.map (·.l)) y.l:=by
 unfold insRI insP
 rw [List.map_append,List.map_cons,List.takeWhile_map,List.dropWhile_map]
 rfl
theorem insRI_perm (P:List RI) (y:RI):(insRI P y).Perm (y :: P):=by
 unfold insRI
 refine List.perm_middle.trans ?_
 rw [List.takeWhile_append_dropWhile]
end Sh
end Go.Proofs.YtbkanoblcojdfaaGreat
namespace Go.Proofs.YtbkanoblcojdfaaGreat
namespace Sh
open Go.RowKit Bk Ch Lt Rc Tr
attribute [local go_sem ↓] Go.wp_at_zero Go.wp_at_succ
attribute [local go_sem] floatUpon pick
def lockB (s:Shf) (r:Rec):Bool:=r.keys.any (fun y=>heldB s y false) || r.ws.any (fun y=>heldB s y.key true)
section
variable {W:World} {F:Nat → Prop} {g bc bp:Nat} {v:Value} {K:List KI} {P:List RI} {s:Shf}
theorem llocked_any (h:LAt W F g bc bp v K P s) (hs:ShOk s) (x:RI) (hv:RecVal W x.A x.B x.c x.d x.l) (hk:x.l.keys.length ≤ 1024) (hw:x.l.ws.length ≤ 1024) :
  Calls Tryz.prog 94 #[.pointer (some ⟨g,0,none⟩),.agg (rcs x).toArray] W fun e w'=>e = .returned (.bool (lockB s x.l)) ∧ Below W.heap.size W w':=by
 obtain ⟨r,A,B,c,d⟩:=x
 simp only at hv hk hw ⊢
 obtain ⟨W2,hW2⟩:∃ W2,(W.alloc (.cells #[.pointer (some ⟨g,0,none⟩)] 27)).alloc (.cells (c9 r (.slice A r.keys.length c) (.slice B r.ws.length d)).toArray 37) = W2:=⟨_,rfl⟩
 obtain ⟨sz2,b1,b2⟩:=blk2 W (.cells #[.pointer (some ⟨g,0,none⟩)] 27) (.cells (c9 r (.slice A r.keys.length c) (.slice B r.ws.length d)).toArray 37)
 rw [hW2] at sz2 b1 b2
 have hb2:Below W.heap.size W W2:=by rw [← hW2];exact ((Below.refl _ W).alloc (Nat.le_refl _) _).alloc (by simp) _
 have hc1:Cel W2 W.heap.size 27 [.pointer (some ⟨g,0,none⟩)]:=b1
 have hc2:Cel W2 (W.heap.size + 1) 37 (c9 r (.slice A r.keys.length c) (.slice B r.ws.length d)):=b2
 have h2:=h.below hb2
 have HK:=Lib.hid (fun V (hb:Below W2.heap.size W2 V)=>lkeys_any (h2.below hb) hs W.heap.size (Nat.lt_of_lt_of_le hc1.lt hb.size) ((hc1.below hb).cell (i:=0) rfl) A c r.keys ((hv.ks.below hb2).below hb) hk)
 have HW:=Lib.hid (fun V (hb:Below W2.heap.size W2 V)=>lwrs_any (h2.below hb) hs W.heap.size (Nat.lt_of_lt_of_le hc1.lt hb.size) ((hc1.below hb).cell (i:=0) rfl) B d r.ws ((hv.ws.below hb2).below hb) hw)
 have HE:=Lib.hid (show lockB s r = (r.keys.any (fun y=>heldB s y false) || r.ws.any (fun y=>heldB s y.key true)) from rfl)
 generalize r.keys.any (fun y=>heldB s y false) = kb at HK HE
 generalize r.ws.any (fun y=>heldB s y.key true) = wb at HW HE
 have HB2:=Lib.hid hb2
 have HC2:=Lib.hid hc2
 show Calls _ _ #[_,.agg #[.int .i64 r.kind,.int .i64 r.txn,.int .i64 r.ts,.int .i64 r.coord,.string r.key,.string r.text,.bool r.dead,.slice A r.keys.length c,.slice B r.ws.length d]] _ _
 have q7:=hc2.cell (i:=7) rfl
 clear h hs hv hk hw sz2 b1 b2 hb2 hc1 hc2 h2
 go_enter Tryz.func94,Tryz.ntmps94
 go_upto_region 1 with fail
 clear hW2
 go_wp2_with fail
 refine (HK.out _ (Below.refl _ _)).mono ?_
 rintro e1 w1 ⟨rfl,hb⟩
 have HB3:=Lib.hid hb
 have q8:=(HC2.out.below hb).cell (i:=8) rfl
 clear hb HK q7
 cases kb with
 | true =>
  clear q8
  go_wp2_with fail
  go_ret
  exact ⟨by rw [HE.out];rfl,HB2.out.trans (HB3.out.mono HB2.out.size)⟩
 | false =>
  go_wp2_with fail
  refine (HW.out _ HB3.out).mono ?_
  rintro e2 w2 ⟨rfl,hb⟩
  have HB4:=Lib.hid (HB3.out.trans (hb.mono HB3.out.size))
  clear hb HW q8
  go_wp2_with fail
  go_ret
  exact ⟨by rw [HE.out];rfl,HB2.out.trans (HB4.out.mono HB2.out.size)⟩
theorem away_below {w':World} (hb:Below W.heap.size W w'):Far F W w':=Far.of hb
theorem lprepare_any (h:LAt W F g bc bp v K P s) (hs:ShOk s) (x:RI) (hv:RecVal W x.A x.B x.c x.d x.l) (hx:RecOk x.l) (hx1:x.l.kind = 1) :
  Calls Tryz.prog 40 #[.pointer (some ⟨g,0,none⟩),.agg (rcs x).toArray] W fun e w'=>e = .returned (.int .i64 (prepareP s x.l).2) ∧ LRep w' (Gr F W w') g (prepareP s x.l).1 ∧ Far F W w':=by
 have hu:=ups_of hx hx1
 obtain ⟨r,A,B,c,d⟩:=x
 simp only at hv hx hx1 hu ⊢
 have ht1:=hv.rng.txn
 obtain ⟨W1,hW1⟩:∃ W1,W.alloc (.cells (c9 r (.slice A r.keys.length c) (.slice B r.ws.length d)).toArray 37) = W1:=⟨_,rfl⟩
 have hb1:Below W.heap.size W W1:=by rw [← hW1];exact (Below.refl _ W).alloc (Nat.le_refl _) _
 have hc1:Cel W1 W.heap.size 37 (c9 r (.slice A r.keys.length c) (.slice B r.ws.length d)):=by rw [← hW1];exact (blk1 W _).2
 have h1:=h.below hb1
 have HSt:=Lib.hid (lstate_any h1 hs r.txn ht1.1 ht1.2)
 have HLo:=Lib.hid (fun V (hb:Below W1.heap.size W1 V)=>llocked_any (h1.below hb) hs ⟨r,A,B,c,d⟩ ((hv.below hb1).below hb) hu.kl hu.wl)
 have HCo:=Lib.hid (fun V (hb:Below W1.heap.size W1 V)=>copied_any ⟨r,A,B,c,d⟩ V ((hv.below hb1).below hb) hu.kl hu.wl)
 have HH:=Lib.hid (fun V (hb:Below W1.heap.size W1 V)=>h1.below hb)
 have HC:=Lib.hid (fun V (hb:Below W1.heap.size W1 V)=>hc1.below hb)
 have HB1:=Lib.hid hb1
 have HF:=Lib.hid h.fl
 have HMu:=Lib.hid h.mu_lt
 have hpl:P.length = s.p.length:=h.plen
 have hp10:(P.length:Int) ≤ 1024:=by have:=hs.pl;omega
 have HPl:=Lib.hid hpl
 have HSx:=Lib.hid (show prepareP s r = if (stateP s r.txn).1 ≠ 0 then (s,6) else if lockB s r = true then (s,180) else if 1024 ≤ s.p.length then (s,2) else (⟨s.k,insP s.p r,s.e,s.over⟩,0) by
  unfold prepareP lockB
  by_cases h1:(stateP s r.txn).1 ≠ 0
  ·rw [if_pos h1,if_pos h1]
  ·rw [if_neg h1,if_neg h1]
   cases r.keys.any (fun y=>heldB s y false) <;> cases r.ws.any (fun y=>heldB s y.key true) <;> simp)
 have HZ:=Lib.hid (show (stateP s r.txn).1 = 0 → prepOf s.p r.txn = none from fun hz=>(state_zero.1 hz).1)
 have HT:=Lib.hid ht1
 have HOld:=Lib.hid (show ∀ V,Below W1.heap.size W1 V → ∀ e,prepareP s r = (s,e) → LRep V (Gr F W V) g (prepareP s r).1 ∧ Far F W V from fun V hb e he=>by
  have hbb:=hb1.trans (hb.mono hb1.size)
  rw [he]
  exact ⟨⟨bc,bp,v,K,P,h.gr hbb.size (h.below hbb)⟩,Far.of hbb⟩)
 show Calls _ _ #[_,.agg #[.int .i64 r.kind,.int .i64 r.txn,.int .i64 r.ts,.int .i64 r.coord,.string r.key,.string r.text,.bool r.dead,.slice A r.keys.length c,.slice B r.ws.length d]] _ _
 have q1:=hc1.cell (i:=1) rfl
 generalize hst:stateP s r.txn = st at HSt HSx HZ
 obtain ⟨st1,st2⟩:=st
 simp only at HSt HSx HZ
 clear h hs hv hx hx1 hu ht1 hb1 hc1 h1 hpl hst
 go_enter Tryz.func40,Tryz.ntmps40
 go_upto_region 1 with fail
 clear hW1
 go_wp2_with fail
 refine HSt.out.mono ?_
 rintro e1 w1 ⟨rfl,hb⟩
 have HB2:=Lib.hid hb
 clear hb HSt q1
 by_cases h0:st1 = 0
 ·subst h0
  have HS2:=Lib.hid (show prepareP s r = if lockB s r = true then (s,180) else if 1024 ≤ s.p.length then (s,2) else (⟨s.k,insP s.p r,s.e,s.over⟩,0) by rw [HSx.out,if_neg (by simp)])
  have hc2:=HC.out _ HB2.out
  have q0:=hc2.cell (i:=0) rfl
  have q1:=hc2.cell (i:=1) rfl
  have q2:=hc2.cell (i:=2) rfl
  have q3:=hc2.cell (i:=3) rfl
  have q4:=hc2.cell (i:=4) rfl
  have q5:=hc2.cell (i:=5) rfl
  have q6:=hc2.cell (i:=6) rfl
  have q7:=hc2.cell (i:=7) rfl
  have q8:=hc2.cell (i:=8) rfl
  have HLo2:Hid (∀ V,Below W1.heap.size W1 V → Calls Tryz.prog 94 #[.pointer (some ⟨g,0,none⟩),.agg #[.int .i64 r.kind,.int .i64 r.txn,.int .i64 r.ts,.int .i64 r.coord,.string r.key,.string r.text,.bool r.dead,.slice A r.keys.length c,.slice B r.ws.length d]] V fun e w'=>e = .returned (.bool (lockB s r)) ∧ Below V.heap.size V w'):=HLo
  clear hc2 HSx HLo
  generalize lockB s r = lb at HLo2 HS2
  go_wp2_with fail
  refine (HLo2.out _ HB2.out).mono ?_
  rintro e2 w2 ⟨rfl,hb⟩
  have HB3:=Lib.hid (HB2.out.trans (hb.mono HB2.out.size))
  clear hb HLo2 q0 q1 q2 q3 q4 q5 q6 q7 q8 HB2
  cases lb with
  | true =>
   have E:=Lib.hid (show prepareP s r = (s,180) by rw [HS2.out,if_pos rfl])
   clear HS2
   go_wp2_with fail
   go_ret
   exact ⟨(by rw [E.out];first | done | rfl),HOld.out _ HB3.out _ E.out⟩
  | false =>
   have HS3:=Lib.hid (show prepareP s r = if 1024 ≤ s.p.length then (s,2) else (⟨s.k,insP s.p r,s.e,s.over⟩,0) by rw [HS2.out,if_neg (by simp)])
   have h3:=HH.out _ HB3.out
   have s1:=h3.cel.cell (i:=1) rfl
   have hln:=h3.mp.len Tryz.underlying86 3
   rw [List.length_map] at hln
   clear HS2 h3
   by_cases hful:P.length = 1024
   ·have E:=Lib.hid (show prepareP s r = (s,2) by rw [HS3.out,if_pos (by rw [← HPl.out,hful];exact Nat.le_refl _)])
    rw [hful] at hln
    clear HS3 hful hp10 HPl
    go_wp2_with fail
    go_ret
    exact ⟨(by rw [E.out];first | done | rfl),HOld.out _ HB3.out _ E.out⟩
   ·have E:=Lib.hid (show prepareP s r = (⟨s.k,insP s.p r,s.e,s.over⟩,0) by rw [HS3.out,if_neg (by rw [← HPl.out];omega)])
    have pl:¬ (P.length:Int) = 1024:=by omega
    clear HS3 HOld
    go_upto_region 8 with fail
    clear s1 hln
    refine wp_region_said 8 [25,26,27,28,29,30,31,32]
     [.is (.pointer (some ⟨g,0,none⟩)),.is (.pointer (some ⟨g,0,none⟩)),.is (.pointer (some ⟨g,1,none⟩)),.is (.map (some bp)),.is (.pointer (some ⟨W.heap.size,1,none⟩)),.is (.int .i64 r.txn),.is (.agg #[.int .i64 r.kind,.int .i64 r.txn,.int .i64 r.ts,.int .i64 r.coord,.string r.key,.string r.text,.bool r.dead,.slice A r.keys.length c,.slice B r.ws.length d]),
      .own (fun u V=>∃ y:RI,u = .agg (rcs y).toArray ∧ y.l = r ∧ RecVal V y.A y.B y.c y.d y.l ∧ NewR W1.heap.size y) (fun _ _ _ h hb=>by obtain ⟨y,h1,h2,h3,h4⟩:=h;exact ⟨y,h1,h2,h3.below hb,h4⟩)]
     (fun V=>Below W1.heap.size W1 V) (by kernel_rfl) (by kernel_rfl) (by kernel_rfl) (by kernel_rfl) (by kernel_rfl) (fun V V' h hb=>h.trans (hb.mono h.size)) HB3.out ?steps ?last
    case steps =>
     simp only [List.take_succ_cons,List.take_zero]
     refine ⟨?_,?_,?_,?_,?_,?_,?_,?_,trivial⟩
     all_goals
      intro vs V ρ hρ hc hf hg hI hH hd R' hR
      have s1:=(HH.out _ hI).cel.cell (i:=1) rfl
      have hc2:=HC.out _ hI
      have q0:=hc2.cell (i:=0) rfl
      have q1:=hc2.cell (i:=1) rfl
      have q2:=hc2.cell (i:=2) rfl
      have q3:=hc2.cell (i:=3) rfl
      have q4:=hc2.cell (i:=4) rfl
      have q5:=hc2.cell (i:=5) rfl
      have q6:=hc2.cell (i:=6) rfl
      have q7:=hc2.cell (i:=7) rfl
      have q8:=hc2.cell (i:=8) rfl
      have HR:=Lib.hid hR
      have HI:=Lib.hid hI
      simp [depsOf,Region.binds,sayAt,Say.holds] at hd
      clear hR hI hc2
      go_simp
      first
       | exact HR.out _ _ (by simp [sayAt,Say.holds]) (Below.refl _ _) (by simp [sayAt,Say.isBlk])
       | (refine (HCo.out _ HI.out).mono ?_;rintro e w' ⟨y,rfl,hyl,hyv,-,hya,hyb,hb⟩;exact ⟨_,rfl,HR.out _ _ ⟨y,rfl,hyl,hyv,⟨fun hp ad e=>Nat.le_trans HI.out.size (hya (by rw [hyl] at hp;exact hp) ad e),fun hp ad e=>Nat.le_trans HI.out.size (hyb (by rw [hyl] at hp;exact hp) ad e)⟩⟩ hb (by simp [sayAt,Say.isBlk])⟩)
    case last =>
     intro vs V hI hb hg hd
     have g3:=hg 3 (by omega)
     have g5:=hg 5 (by omega)
     obtain ⟨y,g7,hyl,hyv,hyn⟩:=hg 7 (by omega)
     simp only [sayAt,Say.holds,List.getD_cons_succ,List.getD_cons_zero] at g3 g5
     simp only [List.take_succ_cons,List.take_zero,List.drop_succ_cons,List.drop_zero,putAll,Act.put,List.setIfInBounds_toArray,List.set_cons_succ,List.set_cons_zero,Nat.zero_add,Nat.reduceAdd]
     rw [g3,g5,g7]
     have h8:=HH.out _ hI
     have hpn:=HZ.out trivial
     have hno:=h8.prep_out hpn
     have hpm:(y.l.txn,Value.agg (rcs y).toArray) = pp y:=rfl
     clear g3 g5 g7 hg hd
     refine wpList_update_is intQ rfl _ _ _ 86 37 rfl Tryz.underlying86 bp (P.map pp) rfl h8.mp ?c1 r.txn (intQ_ok HT.out.1 HT.out.2) (.agg (rcs y).toArray) rfl rfl ?_
     case c1=>rw [List.length_map];unfold maxLen;omega
     intro w' hm ht
     rw [outM_none hno,← hyl,hpm] at hm
     have hm2:MapIs intQ w' bp ((insRI P y).map pp):=hm.perm ((insRI_perm P y).map pp).symm
     have hk:∀ k,k ≠ bp → w'.heap[k]? = V.heap[k]?:=fun k hk=>turned_other ht hk
     have hsz:V.heap.size ≤ w'.heap.size:=by rw [turned_size ht];exact Nat.le_refl _
     have hbV:=HB1.out.trans (hI.mono HB1.out.size)
     have hFr:=h8.fm bp (.inr (.inr (.inl rfl)))
     have hL:LAt w' (Gr F W w') g bc bp v K (insRI P y) ⟨s.k,insP s.p r,s.e,s.over⟩:=by
      refine LAt.setP h8 hk hsz hm2 (fun x hx=>?_) (by rw [insRI_map,h8.ep,hyl]) (fun _ hf=>.inl hf) (fun x hx=>?_) (gr_lt HF.out (Nat.le_trans hbV.size hsz))
      ·rcases List.mem_cons.1 ((insRI_perm P y).mem_iff.1 hx) with rfl | hx
       ·exact pval_new hyv hyn (fun k hk=>Nat.lt_of_lt_of_le (HMu.out k hk) HB1.out.size)
       ·exact h8.pv x hx
      ·rcases List.mem_cons.1 ((insRI_perm P y).mem_iff.1 hx) with rfl | hx
       ·exact newR_in hyv hyn HB1.out.size hsz
       ·exact ⟨fun hp ad e=>.inl ((h8.fp x hx).1 hp ad e),fun hp ad e=>.inl ((h8.fp x hx).2 hp ad e)⟩
     have HLr:=Lib.hid (show LRep w' (Gr F W w') g (prepareP s r).1 from by rw [E.out];exact ⟨_,_,_,_,_,hL⟩)
     have HAw:=Lib.hid (show Far F W w' from ⟨⟨Nat.le_trans hbV.size hsz,fun k hlt hn=>(hk k (fun e=>hn (by rw [e];exact hFr))).trans (hbV.block k hlt)⟩,(st_below hbV).trans (st_turned ht)⟩)
     clear hL hFr hbV hsz hk hm2 hm ht hno hpn h8 hyv hyn hb hI hpm
     go_wp2_with fail
     go_ret
     exact ⟨(by rw [E.out];first | done | rfl),HLr.out,HAw.out⟩
 ·have E:=Lib.hid (show prepareP s r = (s,6) by rw [HSx.out,if_pos h0])
  clear HSx HZ
  go_wp2_with fail
  go_ret
  exact ⟨(by rw [E.out];first | done | rfl),HOld.out _ HB2.out _ E.out⟩
end
end Sh
end Go.Proofs.YtbkanoblcojdfaaGreat
namespace Go.Proofs.YtbkanoblcojdfaaGreat
namespace Sh
open Go.RowKit Bk Ch Lt Rc Tr
def putI:List KI → KI → List KI
 | [],x=>[x]
 | y :: r,x=>if ltK y.k.name x.k.name then y :: putI r x else if y.k.name = x.k.name then x :: r else x :: y :: r
theorem putI_map:∀ (K:List KI) (x:KI),(putI K x).map (·.k) = putK (K.map (·.k)) x.k.name x.k.l
 | [],x=>rfl
 | y :: r,x=>by
  unfold putI
  rw [List.map_cons]
  unfold putK
  by_cases h1:ltK y.k.name x.k.name = true
  ·rw [if_pos h1,if_pos h1,List.map_cons,putI_map r x]
  ·rw [if_neg h1,if_neg h1]
   by_cases h2:y.k.name = x.k.name
   ·rw [if_pos h2,if_pos h2];rfl
   ·rw [if_neg h2,if_neg h2];rfl
theorem putI_mem:∀ {K:List KI} {x y:KI},y ∈ putI K x → y = x ∨ y ∈ K
 | [],x,y,h=>.inl (List.mem_singleton.1 h)
 | z :: r,x,y,h=>by
  unfold putI at h
  by_cases h1:ltK z.k.name x.k.name = true
  ·rw [if_pos h1] at h
   rcases List.mem_cons.1 h with rfl | h
   ·exact .inr (List.mem_cons_self ..)
   ·exact (putI_mem h).imp id (List.mem_cons_of_mem _)
  ·rw [if_neg h1] at h
   by_cases h2:z.k.name = x.k.name
   ·rw [if_pos h2] at h
    rcases List.mem_cons.1 h with rfl | h
    ·exact .inl rfl
    ·exact .inr (List.mem_cons_of_mem _ h)
   ·rw [if_neg h2] at h
    rcases List.mem_cons.1 h with rfl | h
    ·exact .inl rfl
    ·exact .inr h
theorem putI_perm:∀ {K:List KI} (x:KI),Sorted (K.map (·.k)) → ((putI K x).map kp).Perm (kp x :: outM (K.map kp) x.k.name)
 | [],x,_=>List.Perm.refl _
 | y :: r,x,h=>by
  obtain ⟨h1,h2⟩:=List.pairwise_cons.1 h
  have hfar:∀ z ∈ r,ltK y.k.name z.k.name = true:=fun z hz=>h1 z.k (List.mem_map_of_mem hz)
  unfold putI
  by_cases hl:ltK y.k.name x.k.name = true
  ·rw [if_pos hl]
   have e:outM ((y :: r).map kp) x.k.name = kp y :: outM (r.map kp) x.k.name:=by
    unfold outM
    rw [List.map_cons,List.filter_cons_of_pos (by show decide (y.k.name ≠ x.k.name) = true;exact decide_eq_true (lt_ne hl))]
   rw [e,List.map_cons]
   exact ((putI_perm x h2).cons _).trans (List.Perm.swap _ _ _)
  ·rw [if_neg hl]
   by_cases h3:y.k.name = x.k.name
   ·rw [if_pos h3]
    have e:outM ((y :: r).map kp) x.k.name = r.map kp:=by
     unfold outM
     rw [List.map_cons,List.filter_cons_of_neg (by show ¬ decide (y.k.name ≠ x.k.name) = true;simp [h3]),List.filter_eq_self]
     intro p hp
     obtain ⟨z,hz,rfl⟩:=List.mem_map.1 hp
     have:=lt_ne (hfar z hz)
     simp only [decide_eq_true_eq]
     exact fun e=>this (h3.trans e.symm)
    rw [e,List.map_cons]
   ·rw [if_neg h3]
    have hk:ltK x.k.name y.k.name = true:=by
     rcases lt_total x.k.name y.k.name with h | h | h
     ·exact h
     ·exact absurd h.symm h3
     ·exact absurd h hl
    have e:outM ((y :: r).map kp) x.k.name = (y :: r).map kp:=by
     unfold outM
     rw [List.filter_eq_self]
     intro p hp
     obtain ⟨z,hz,rfl⟩:=List.mem_map.1 hp
     simp only [decide_eq_true_eq]
     rcases List.mem_cons.1 hz with rfl | hz
     ·exact fun e=>lt_ne hk e.symm
     ·exact fun e=>lt_ne (lt_trans hk (hfar z hz)) e.symm
    rw [e]
    exact List.Perm.refl _
end Sh
end Go.Proofs.YtbkanoblcojdfaaGreat
namespace Go.Proofs.YtbkanoblcojdfaaGreat
namespace Sh
open Go.RowKit Bk Ch Lt Rc Tr
attribute [local go_sem ↓] Go.wp_at_zero Go.wp_at_succ
attribute [local go_sem] floatUpon pick
theorem Tryz.infoVs:(Tryz.prog.info? 92).map (fun i=>(i.zero,i.size,i.bytes)) = some (some (.slice none 0 0),1,24):=by kernel_rfl
def NewK (V:World) (X:Nat) (x:KI):Prop:=V.ownsRow X 77 3 (.slice x.A x.k.l.length x.c) x.k.l.length (vrV x.k.l)
def slv (x:KI):Value:=.slice x.A x.k.l.length x.c
structure LgSay (s:Shf) (ts:Int) (ws:List Wr) (j:Nat) (e:Int) (Q:List KI):Prop where
 len:Q.length = j
 old:∀ i (h:i < ws.length),i < j → ¬ ts ≤ lastT (chainK s.k ws[i].key)
 at_:∀ i (h:i < ws.length) (h2:i < Q.length),Q[i].k = ⟨ws[i].key,(addP (chainK s.k ws[i].key) (vrW ts ws[i])).1⟩
 err:(e = 0 ∧ ∀ i (h:i < ws.length),i < j → (chainK s.k ws[i].key).length < 1024) ∨ (e = 2 ∧ ∃ i,∃ h:i < ws.length,i < j ∧ 1024 ≤ (chainK s.k ws[i].key).length)
theorem LgSay.start (s:Shf) (ts:Int) (ws:List Wr):LgSay s ts ws 0 0 []:=⟨rfl,fun _ _ h=>absurd h (by omega),fun _ _ h=>absurd h (by simp),.inl ⟨rfl,fun _ _ h=>absurd h (by omega)⟩⟩
theorem LgSay.next {s:Shf} {ts:Int} {ws:List Wr} {j:Nat} {e:Int} {Q:List KI} (h:LgSay s ts ws j e Q) (hj:j < ws.length) (ho:¬ ts ≤ lastT (chainK s.k ws[j].key)) {x:KI} (hx:x.k = ⟨ws[j].key,(addP (chainK s.k ws[j].key) (vrW ts ws[j])).1⟩) {e':Int}
  (he:(e' = e ∧ (chainK s.k ws[j].key).length < 1024) ∨ (e' = 2 ∧ 1024 ≤ (chainK s.k ws[j].key).length)):LgSay s ts ws (j + 1) e' (Q ++ [x]):=by
 refine ⟨by rw [List.length_append,h.len];rfl,fun i hi hij=>?_,fun i hi hq=>?_,?_⟩
 ·by_cases e1:i = j
  ·subst e1;exact ho
  ·exact h.old i hi (by omega)
 ·by_cases e1:i = j
  ·subst e1
   rw [List.getElem_append_right (by rw [h.len];exact Nat.le_refl _)]
   simp only [h.len,Nat.sub_self,List.getElem_cons_zero]
   exact hx
  ·have hlt:i < Q.length:=by rw [List.length_append,List.length_singleton,h.len] at hq;rw [h.len];omega
   rw [List.getElem_append_left hlt]
   exact h.at_ i hi hlt
 ·rcases he with ⟨rfl,hl⟩ | ⟨rfl,hl⟩
  ·rcases h.err with ⟨h0,h1⟩ | ⟨h0,i,hi,hij,h1⟩
   ·refine .inl ⟨h0,fun i hi hij=>?_⟩
    by_cases e1:i = j
    ·subst e1;exact hl
    ·exact h1 i hi (by omega)
   ·exact .inr ⟨h0,i,hi,by omega,h1⟩
  ·exact .inr ⟨rfl,j,hj,by omega,hl⟩
section
variable {W:World} {F:Nat → Prop} {g bc bp:Nat} {v:Value} {K:List KI} {P:List RI} {s:Shf}
theorem llonger_any (h:LAt W F g bc bp v K P s) (hs:ShOk s) {ts:Int} {ws:List Wr} (hm:MayW ts ws) (B:Option Addr) (d:Nat) (hB:WrsAt W B ws) (hl:ws.length ≤ 1024) :
  Calls Tryz.prog 96 #[.pointer (some ⟨g,0,none⟩),.int .i64 ts,.slice B ws.length d] W fun e w'=>∃ (vv:Value) (n:Int),e = .returned (.tuple #[vv,.int .i64 n]) ∧ Below W.heap.size W w' ∧
   ((n = 110 ∧ ∃ i,∃ h:i < ws.length,ts ≤ lastT (chainK s.k ws[i].key)) ∨
    ∃ Q,LgSay s ts ws ws.length n Q ∧ w'.ownsRow W.heap.size 92 1 vv ws.length (Q.map slv) ∧ ∀ x ∈ Q,NewK w' W.heap.size x):=by
 obtain ⟨i0,hi,hz0,hz1,hz2⟩:=info_parts Tryz.infoVs
 have HWs:=Lib.hid (fun V (hb:Below W.heap.size W V) i (hi:i < ws.length)=>wrs_at (hB.below hb) hi)
 have HH:=Lib.hid (fun V (hb:Below W.heap.size W V)=>h.below hb)
 have HM:=Lib.hid hm
 have HOk:=Lib.hid (fun key=>hs.kok.chain key)
 have hlen:(ws.length:Int) ≤ 1024:=by omega
 have HCh:=Lib.hid (fun (x:Wr) (hx:x ∈ ws)=>h.chain (key:=x.key) (by have:=(hm.each x hx).1.2;unfold maxLen;omega))
 clear h hs hm hB hl
 go_enter Tryz.func96,Tryz.ntmps96
 go_wp2_with fail
 go_loopw [6,7,14] (fun uv ev iv wr=>∃ (j:Nat) (e:Int) (Q:List KI),j ≤ ws.length ∧ iv = .int .i64 (j:Int) ∧ ev = .int .i64 e ∧ Hid (LgSay s ts ws j e Q) ∧ Hid (wr.ownsRow W.heap.size 92 1 uv j (Q.map slv)) ∧ Hid (∀ x ∈ Q,NewK wr W.heap.size x) ∧ Hid (Below W.heap.size W wr)) (fun _ _ iv _=>ws.length - (RowKit.intOf iv).toNat)
 case atStart=>exact ⟨0,0,[],Nat.zero_le _,rfl,rfl,Lib.hid (LgSay.start s ts ws),Lib.hid (World.ownsRow_nil _ _ _ _),Lib.hid (fun x hx=>by cases hx),Lib.hid (Below.refl _ _)⟩
 case round =>
  obtain ⟨j,e,Q,hj,rfl,rfl,hsay,hrow,hnew,hb⟩:=hrel
  by_cases hlt:j < ws.length
  ·have pj:(j:Int) < (ws.length:Int):=by omega
   have hmem:=List.getElem_mem hlt
   obtain ⟨ad,rfl,y0,y1,y2⟩:=HWs.out _ hb.out j hlt
   obtain ⟨x,hxl,hkv,_,hlk⟩:=HCh.out _ hmem
   have hok:=HOk.out ws[j].key
   have hvr:=HM.out.vr hmem
   have hadd:=add_is hok hvr
   have hAd:=fun V (hbv:Below W.heap.size W V)=>ladd_any x.A x.c x.k.l (vrW ts ws[j]) V (hkv.row.vrs.below hbv) (by rw [hxl];exact ok32 hok) (by rw [hxl];exact okRng hok) ⟨by have:=hvr.1;have:=hvr.2.1;exact ⟨by omega,by omega⟩,by have:=hvr.2.2.1;unfold reachBytes;omega⟩ hkv.nil hkv.le
   rw [hxl] at hAd hlk
   have HLk:=Lib.hid (fun V (hbv:Below W.heap.size W V)=>hlk V (HH.out V hbv))
   have HNx:=Lib.hid (fun (ho:¬ ts ≤ lastT (chainK s.k ws[j].key)) (x:KI) hx (e':Int) he=>hsay.out.next hlt ho (x:=x) hx (e':=e') he)
   have HOld:=Lib.hid (show ts ≤ lastT (chainK s.k ws[j].key) → ∃ i,∃ h:i < ws.length,ts ≤ lastT (chainK s.k ws[i].key) from fun h=>⟨j,hlt,h⟩)
   generalize chainK s.k ws[j].key = L at hAd hadd HNx HOld HLk
   obtain ⟨R,er,hR⟩:∃ R er,addP L (vrW ts ws[j]) = (R,er):=⟨_,_,rfl⟩
   rw [hR] at hAd hadd HNx
   simp only at HNx
   unfold vrW at hAd hadd
   generalize ws[j] = X at y0 y1 y2 hAd HLk HNx hadd
   obtain ⟨k,t,dd⟩:=X
   simp only at y0 y1 y2 hAd HLk HNx hadd
   generalize x.A = xA at hAd HLk
   generalize x.c = xc at hAd HLk
   have HAd:Hid (∀ V,Below W.heap.size W V → Calls Tryz.prog 163 #[.slice xA L.length xc,.agg #[.int .i64 ts,.string t,.bool dd]] V fun e' w'=>∃ u:Value,e' = .returned (.tuple #[u,.int .i64 er]) ∧ w'.ownsRow V.heap.size 77 3 u R.length (vrV R) ∧ Below V.heap.size V w'):=Lib.hid hAd
   have hb5:Below wr.heap.size wr (wr.alloc (.cells #[.string k,.string t,.bool dd] 45)):=(Below.refl _ wr).alloc (Nat.le_refl _) _
   have hV5:Cel (wr.alloc (.cells #[.string k,.string t,.bool dd] 45)) wr.heap.size 45 [.string k,.string t,.bool dd]:=(blk1 wr _).2
   have HB5:=Lib.hid (hb.out.trans (hb5.mono hb.out.size))
   have HV5:=Lib.hid hV5
   have HRw5:=Lib.hid (st_keep hrow.out hb5)
   have HNw5:=Lib.hid (show ∀ x ∈ Q,NewK (wr.alloc (.cells #[.string k,.string t,.bool dd] 45)) W.heap.size x from fun x hx=>st_keep (hnew.out x hx) hb5)
   have HAdd:=Lib.hid hadd
   clear hb hrow hnew hsay hmem hkv hlk hok hvr hAd hb5 hV5 hR hxl hadd
   go_upto_region 4 with fail
   generalize wr.alloc (.cells #[.string k,.string t,.bool dd] 45) = W5 at HB5 HV5 HRw5 HNw5 ⊢
   generalize wr.heap.size = vb at HV5 ⊢
   clear y0 y1 y2
   refine wp_region_said 19 [19,20,21,22,23,24,25,26,27,28,29,30,31,32,18,33,34,10,11]
    [.is (.pointer (some ⟨g,0,none⟩)),.is (.pointer (some ⟨g,0,none⟩)),.is (.pointer (some ⟨g,0,none⟩)),.is (.map (some bc)),.is (.pointer (some ⟨vb,0,none⟩)),.is (.string k),.is (.slice xA L.length xc),.is (.int .i64 ts),.is (.pointer (some ⟨vb,1,none⟩)),.is (.string t),.is (.pointer (some ⟨vb,2,none⟩)),.is (.bool dd),.is (.agg #[.int .i64 ts,.string t,.bool dd]),
     .own (fun v V=>∃ u,v = .tuple #[u,.int .i64 er] ∧ V.ownsRow W.heap.size 77 3 u R.length (vrV R)) (fun v V V' h hb=>by obtain ⟨u,h1,h2⟩:=h;exact ⟨u,h1,st_keep h2 hb⟩),
     .own (fun v V=>∃ u,v = .tuple #[u,.int .i64 er] ∧ V.ownsRow W.heap.size 77 3 u R.length (vrV R)) (fun v V V' h hb=>by obtain ⟨u,h1,h2⟩:=h;exact ⟨u,h1,st_keep h2 hb⟩),
     .own (fun v V=>V.ownsRow W.heap.size 77 3 v R.length (vrV R)) (fun v V V' h hb=>st_keep h hb),.is (.int .i64 er),
     .own (fun v V=>V.ownsRow W.heap.size 77 3 v R.length (vrV R)) (fun v V V' h hb=>st_keep h hb),.is (.int .i64 er)]
    (fun V=>Below W.heap.size W V ∧ Cel V vb 45 [.string k,.string t,.bool dd] ∧ Below W5.heap.size W5 V) (by kernel_rfl) (by kernel_rfl) (by kernel_rfl) (by kernel_rfl) (by kernel_rfl) (fun V V' h hb=>⟨h.1.trans (hb.mono h.1.size),h.2.1.below hb,h.2.2.trans (hb.mono h.2.2.size)⟩) ⟨HB5.out,HV5.out,Below.refl _ _⟩ ?steps ?last
   case steps =>
    simp only [List.take_succ_cons,List.take_zero]
    refine ⟨?_,?_,?_,?_,?_,?_,?_,?_,?_,?_,?_,?_,?_,?_,?_,?_,?_,?_,?_,trivial⟩
    all_goals
     intro vs V ρ hρ hc hf hg hI hH hd R' hR
     have s0:=(HH.out _ hI.1).cel.cell (i:=0) rfl
     have l0:=HLk.out _ hI.1
     have q0:=hI.2.1.cell (i:=0) rfl
     have q1:=hI.2.1.cell (i:=1) rfl
     have q2:=hI.2.1.cell (i:=2) rfl
     have HR:=Lib.hid hR
     have HI:=Lib.hid hI.1
     simp [depsOf,Region.binds,sayAt,Say.holds] at hd
     clear hR hI
    case refine_14 =>
     go_simp
     refine (HAd.out V HI.out).mono ?_
     rintro e' w' ⟨u,rfl,ho,hb⟩
     exact ⟨_,rfl,HR.out _ _ ⟨_,rfl,Ch.own_base ho HI.out.size⟩ hb (by simp [sayAt,Say.isBlk])⟩
    case refine_15 =>
     go_simp
     exact HR.out _ _ hd (Below.refl _ _) (by simp [sayAt,Say.isBlk])
    case refine_16 =>
     obtain ⟨u,e2,hu⟩:=hd
     go_simp
     exact HR.out _ _ hu (Below.refl _ _) (by simp [sayAt,Say.isBlk])
    case refine_17 =>
     obtain ⟨u,e2,hu⟩:=hd
     go_simp
     exact HR.out _ _ rfl (Below.refl _ _) (by simp [sayAt,Say.isBlk])
    case refine_18 =>
     go_simp
     first | exact HR.out _ _ hd (Below.refl _ _) (by simp [sayAt,Say.isBlk]) | exact HR.out _ _ hd.1 (Below.refl _ _) (by simp [sayAt,Say.isBlk])
    all_goals
     go_simp
     exact HR.out _ _ (by simp [sayAt,Say.holds]) (Below.refl _ _) (by simp [sayAt,Say.isBlk])
   case last =>
    intro vs V hI hb hg hd
    have g17:=hg 17 (by omega)
    have g18:=hg 18 (by omega)
    simp only [sayAt,Say.holds,List.getD_cons_succ,List.getD_cons_zero] at g17 g18
    simp only [List.take_succ_cons,List.take_zero,List.drop_succ_cons,List.drop_zero,putAll,Act.put,List.setIfInBounds_toArray,List.set_cons_succ,List.set_cons_zero,Nat.zero_add,Nat.reduceAdd]
    rw [g18]
    obtain ⟨A',c',e17,_⟩:=own_rowF (F:=fun _=>False) g17 (vrV_len R) (fun _ hf=>hf.elim)
    rw [e17] at g17 ⊢
    have HNu5:=Lib.hid g17
    have HB6:=Lib.hid hI.1
    have HRw6:=Lib.hid (st_keep HRw5.out hI.2.2)
    have HNw6:=Lib.hid (show ∀ x ∈ Q,NewK V W.heap.size x from fun x hx=>st_keep (HNw5.out x hx) hI.2.2)
    have hadd:=HAdd.out
    clear g17 g18 hg hd hI hb HB5 HV5 HRw5 HNw5 e17 HAd HLk
    by_cases ho:ts ≤ lastT L
    ·rw [if_pos ho] at hadd
     obtain ⟨rfl,rfl⟩:=Prod.mk.inj hadd
     have HO:=Lib.hid (HOld.out ho)
     clear hadd HAdd HNx HOld ho
     go_wp2_with fail
     go_ret2
     exact ⟨_,110,rfl,HB6.out,.inl ⟨rfl,HO.out⟩⟩
    rw [if_neg ho] at hadd
    have hb7:Below V.heap.size V (V.alloc (.cells #[.slice A' R.length c'] 92)):=(Below.refl _ V).alloc (Nat.le_refl _) _
    have HB7:=HB6
    have HRw7:Hid ((V.alloc (.cells #[.slice A' R.length c'] 92)).ownsRow W.heap.size 92 1 u6 j (Q.map slv)):=Lib.hid (st_keep HRw6.out hb7)
    have HNw7:Hid (∀ x ∈ Q,NewK (V.alloc (.cells #[.slice A' R.length c'] 92)) W.heap.size x):=Lib.hid (fun x hx=>st_keep (HNw6.out x hx) hb7)
    have HNu7:Hid (NewK (V.alloc (.cells #[.slice A' R.length c'] 92)) W.heap.size ⟨⟨k,R⟩,A',c'⟩):=Lib.hid (st_keep HNu5.out hb7)
    clear HB6 HRw6 HNw6 HNu5 hb7
    by_cases hf:1024 ≤ L.length
    ·rw [if_pos hf] at hadd
     obtain ⟨e1,e2⟩:=Prod.mk.inj hadd
     subst e2
     have HF:=Lib.hid hf
     clear hadd HAdd HOld e1 hf
     go_wp2_with (at_builtin;refine wpList_append_own_at _ rfl _ _ 155 rfl W.heap.size 92 i0 (.slice none 0 0) 1 24 Tryz.underlying155 hi hz0 hz1 hz2 rfl (by decide) _ _ _ rfl HRw7.out ⟨V.heap.size,0,none⟩ 1 1 [.slice A' R.length c'] rfl rfl (cell_one_new _ _ _) (fun u hu=>by rw [List.mem_singleton.1 hu];rfl) ?d3 ?d4 ?d5 ?_)
     case d3=>unfold maxLen;omega
     case d4=>omega
     case d5=>have:=HB7.out.size;simp;omega
     intro v' w5 hown' hgrow _ hat
     have HB8:=Lib.hid ((HB7.out.alloc HB7.out.size (.cells #[.slice A' R.length c'] 92)).grown hgrow (by have:=HB7.out.size;simp;omega) (fun k hk=>(HRw7.out.lt k hk).1))
     have HO8:Hid (w5.ownsRow W.heap.size 92 1 v' (j + 1) ((Q ++ [(⟨⟨k,R⟩,A',c'⟩:KI)]).map slv)):=Lib.hid (by rw [List.map_append];exact hown')
     have HN8:Hid (∀ x ∈ Q ++ [(⟨⟨k,R⟩,A',c'⟩:KI)],NewK w5 W.heap.size x):=Lib.hid (fun x hx=>by
      rcases List.mem_append.1 hx with hx | hx
      ·exact rgrow2 (HNw7.out x hx) HRw7.out (by decide) hgrow
      ·rw [List.mem_singleton.1 hx]
       exact rgrow2 HNu7.out HRw7.out (by decide) hgrow)
     have HS8:=Lib.hid (HNx.out ho ⟨⟨k,R⟩,A',c'⟩ rfl 2 (.inr ⟨rfl,HF.out⟩))
     clear hown' hgrow hat HB7 HRw7 HNw7 HNu7 ho
     go_wp2_with fail
     go_roundw
     case rel=>exact ⟨j + 1,2,Q ++ [⟨⟨k,R⟩,A',c'⟩],by omega,by go_num,rfl,HS8,HO8,HN8,HB8⟩
     case measure=>simp [RowKit.intOf];omega
    ·rw [if_neg hf] at hadd
     obtain ⟨e1,e2⟩:=Prod.mk.inj hadd
     subst e2
     have HF:=Lib.hid (show L.length < 1024 by omega)
     clear hadd HAdd HOld e1 hf
     go_wp2_with (at_builtin;refine wpList_append_own_at _ rfl _ _ 155 rfl W.heap.size 92 i0 (.slice none 0 0) 1 24 Tryz.underlying155 hi hz0 hz1 hz2 rfl (by decide) _ _ _ rfl HRw7.out ⟨V.heap.size,0,none⟩ 1 1 [.slice A' R.length c'] rfl rfl (cell_one_new _ _ _) (fun u hu=>by rw [List.mem_singleton.1 hu];rfl) ?d3 ?d4 ?d5 ?_)
     case d3=>unfold maxLen;omega
     case d4=>omega
     case d5=>have:=HB7.out.size;simp;omega
     intro v' w5 hown' hgrow _ hat
     have HB8:=Lib.hid ((HB7.out.alloc HB7.out.size (.cells #[.slice A' R.length c'] 92)).grown hgrow (by have:=HB7.out.size;simp;omega) (fun k hk=>(HRw7.out.lt k hk).1))
     have HO8:Hid (w5.ownsRow W.heap.size 92 1 v' (j + 1) ((Q ++ [(⟨⟨k,R⟩,A',c'⟩:KI)]).map slv)):=Lib.hid (by rw [List.map_append];exact hown')
     have HN8:Hid (∀ x ∈ Q ++ [(⟨⟨k,R⟩,A',c'⟩:KI)],NewK w5 W.heap.size x):=Lib.hid (fun x hx=>by
      rcases List.mem_append.1 hx with hx | hx
      ·exact rgrow2 (HNw7.out x hx) HRw7.out (by decide) hgrow
      ·rw [List.mem_singleton.1 hx]
       exact rgrow2 HNu7.out HRw7.out (by decide) hgrow)
     have HS8:=Lib.hid (HNx.out ho ⟨⟨k,R⟩,A',c'⟩ rfl e (.inl ⟨rfl,HF.out⟩))
     clear hown' hgrow hat HB7 HRw7 HNw7 HNu7 ho
     go_wp2_with fail
     go_roundw
     case rel=>exact ⟨j + 1,e,Q ++ [⟨⟨k,R⟩,A',c'⟩],by omega,by go_num,rfl,HS8,HO8,HN8,HB8⟩
     case measure=>simp [RowKit.intOf];omega
  ·obtain rfl:j = ws.length:=by omega
   have HB:=hb
   clear hb
   go_wp2_with fail
   go_ret2
   exact ⟨_,e,rfl,HB.out,.inr ⟨Q,hsay.out,hrow.out,hnew.out⟩⟩
end
end Sh
end Go.Proofs.YtbkanoblcojdfaaGreat
