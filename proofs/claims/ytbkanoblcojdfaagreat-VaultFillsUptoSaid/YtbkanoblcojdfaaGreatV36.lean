/- Parts of the proof, joined: ShL15, ShL16, ShL17; their conditions stand with each. -/
import Derived.Test.YtbkanoblcojdfaaGreatV35

set_option maxRecDepth 20000
set_option maxHeartbeats 8000000
namespace Go.Proofs.YtbkanoblcojdfaaGreat
namespace Sh
open Go.RowKit Bk Ch Lt Rc Tr
attribute [local go_sem ↓] Go.wp_at_zero Go.wp_at_succ
attribute [local go_sem] floatUpon pick
theorem put_le:∀ (k:List Kc) (key:ByteArray) (l:List Vr),(putK k key l).length ≤ k.length + 1
 | [],_,_=>by simp [putK]
 | x :: r,key,l=>by
  unfold putK
  have:=put_le r key l
  split
  ·simp only [List.length_cons];omega
  ·split <;> simp
theorem addW_le {ts:Int}:∀ (ws:List Wr) (k:List Kc),(addW ts ws k).length ≤ k.length + ws.length
 | [],k=>Nat.le_refl _
 | x :: r,k=>by
  have h1:=addW_le (ts:=ts) r (addK k x.key ⟨ts,x.shard,x.dead⟩)
  have h2:(addK k x.key ⟨ts,x.shard,x.dead⟩).length ≤ k.length + 1:=put_le _ _ _
  show (addW ts r _).length ≤ _
  rw [List.length_cons]
  omega
theorem newN_succ {k:List Kc} {ws:List Wr} {j:Nat} (hj:j < ws.length):newN k (ws.take (j + 1)) = newN k (ws.take j) + if hasK k ws[j].key then 0 else 1:=by
 unfold newN
 rw [List.take_succ_eq_append_getElem hj,List.filter_append,List.length_append]
 cases h:hasK k ws[j].key with
 | true=>rw [List.filter_cons_of_neg (by simp [h])];simp
 | false=>rw [List.filter_cons_of_pos (by simp [h])];simp
theorem own_turned {V w':World} {H sz n bc:Nat} {v:Value} {e:TypeId} {xs:List Value} {m:List (ByteArray × Value)} (h:V.ownsRow H e sz v n xs) (hm:MapIs strQ V bc m) (hk:∀ k,k ≠ bc → w'.heap[k]? = V.heap[k]?):w'.ownsRow H e sz v n xs:=by
 rcases h with ⟨hl,h0 | ⟨i,cap,cur,hv,hb,hgt,rest⟩⟩
 ·exact ⟨hl,.inl h0⟩
 ·refine ⟨hl,.inr ⟨i,cap,cur,hv,hb,(hk i (fun e=>?_)).trans hgt,rest⟩⟩
  subst e
  obtain ⟨es,cl,h1⟩:=hm.isMap
  rw [h1] at hgt;cases hgt
theorem newK_val {V:World} {X:Nat} {M:Nat → Prop} {x:KI} (h:NewK V X x) (hM:∀ k,M k → k < X):KVal V M x:=by
 obtain ⟨h1,h2,h3,h4⟩:=own_row_at h (vrV_len _) hM
 exact ⟨h1,h4,h2,h3⟩
theorem gr_mono {F:Nat → Prop} {W a b:World} (h:a.heap.size ≤ b.heap.size):∀ k,Gr F W a k → Gr F W b k:=fun _ hk=>hk.elim .inl (fun h2=>.inr ⟨h2.1,Nat.lt_of_lt_of_le h2.2 h⟩)
theorem newK_in {V:World} {X:Nat} {x:KI} (h:NewK V X x):∀ ad,x.A = some ad → X ≤ ad.block ∧ ad.block < V.heap.size:=fun ad e=>h.lt ad.block (by rw [e];rfl)
section
variable {W:World} {F:Nat → Prop} {g bc bp:Nat} {v:Value} {K:List KI} {P:List RI} {s:Shf}
theorem lg_long {ts:Int} {ws:List Wr} {Q:List KI} (hs:ShOk s) (h:LgSay s ts ws ws.length 2 Q):writeP s ts ws = (s,2):=by
 unfold writeP
 rw [if_neg,if_pos]
 ·rw [longW_is hs.kl,Bool.or_eq_true]
  left
  rcases h.err with ⟨h0,_⟩ | ⟨_,i,hi,_,h1⟩
  ·omega
  ·exact List.any_eq_true.2 ⟨_,List.getElem_mem hi,by simpa using h1⟩
 ·intro hc
  obtain ⟨x,hx,hd⟩:=List.any_eq_true.1 hc
  obtain ⟨i,hi,rfl⟩:=List.getElem_of_mem hx
  exact h.old i hi hi (by simpa using hd)
theorem lg_no {ts:Int} {ws:List Wr} {Q:List KI} (h:LgSay s ts ws ws.length 0 Q):(ws.any (fun x=>decide (ts ≤ lastT (chainK s.k x.key))) = false) ∧ ∀ x ∈ ws,(chainK s.k x.key).length < 1024:=by
 constructor
 ·rw [List.any_eq_false]
  intro x hx
  obtain ⟨i,hi,rfl⟩:=List.getElem_of_mem hx
  simpa using h.old i hi hi
 ·intro x hx
  obtain ⟨i,hi,rfl⟩:=List.getElem_of_mem hx
  rcases h.err with ⟨_,h1⟩ | ⟨h0,_⟩
  ·exact h1 i hi hi
  ·omega
theorem lg_at {ts:Int} {ws:List Wr} {Q:List KI} (hs:ShOk s) (hm:MayW ts ws) (h:LgSay s ts ws ws.length 0 Q) {i:Nat} (hi:i < ws.length) (hq:i < Q.length):Q[i].k = ⟨ws[i].key,chainK s.k ws[i].key ++ [vrW ts ws[i]]⟩:=by
 rw [h.at_ i hi hq,add_is (hs.kok.chain _) (hm.vr (List.getElem_mem hi)),if_neg (show ¬ (vrW ts ws[i]).ts ≤ _ from h.old i hi hi),if_neg (by have:=(lg_no h).2 _ (List.getElem_mem hi);omega)]
theorem lwrite_any (h:LAt W F g bc bp v K P s) (hs:ShOk s) {ts:Int} {ws:List Wr} (hm:MayW ts ws) (B:Option Addr) (d:Nat) (hB:WrsAt W B ws) (hBm:0 < ws.length → ∀ ad,B = some ad → ¬ Mu g bc bp v ad.block) (hl:ws.length ≤ 1024) :
  Calls Tryz.prog 42 #[.pointer (some ⟨g,0,none⟩),.int .i64 ts,.slice B ws.length d] W fun e w'=>e = .returned (.int .i64 (writeP s ts ws).2) ∧ (∃ K',LAt w' (Gr F W w') g bc bp v K' P (writeP s ts ws).1) ∧ Far F W w':=by
 have HLg:=Lib.hid (llonger_any h hs hm B d hB hl)
 have HOld:=Lib.hid (show ∀ V,Below W.heap.size W V → ∀ e,writeP s ts ws = (s,e) → (∃ K',LAt V (Gr F W V) g bc bp v K' P (writeP s ts ws).1) ∧ Far F W V from fun V hb e he=>by
  rw [he]
  exact ⟨⟨K,h.gr hb.size (h.below hb)⟩,Far.of hb⟩)
 have H110:=Lib.hid (show (∃ i,∃ h:i < ws.length,ts ≤ lastT (chainK s.k ws[i].key)) → writeP s ts ws = (s,110) from fun ⟨i,hi,ht⟩=>by
  unfold writeP
  rw [if_pos (List.any_eq_true.2 ⟨_,List.getElem_mem hi,by simpa using ht⟩)])
 have HH:=Lib.hid (fun V (hb:Below W.heap.size W V)=>h.below hb)
 have HWs:=Lib.hid (fun V (hb:Below W.heap.size W V)=>hB.below hb)
 have HS:=Lib.hid hs
 have HM:=Lib.hid hm
 have HMu:=Lib.hid h.mu_lt
 have HF:=Lib.hid h.fl
 have HFm:=Lib.hid (h.fm bc (.inr (.inl rfl)))
 have HBm:=Lib.hid hBm
 have hkl:K.length = s.k.length:=h.klen
 have hk10:(K.length:Int) ≤ 1024:=by have:=hs.kl;omega
 have HKl:=Lib.hid hkl
 have hlen:(ws.length:Int) ≤ 1024:=by omega
 have HCl:=Lib.hid (fun s W hs=>Bk.clone_any s W hs)
 clear h hs hm hB hBm hkl
 go_enter Tryz.func42,Tryz.ntmps42
 go_wp2_with fail
 refine HLg.out.mono ?_
 rintro e1 w1 ⟨vv,n,rfl,hb,hcase⟩
 have HB1:=Lib.hid hb
 clear hb HLg
 rcases hcase with ⟨rfl,hold⟩ | ⟨Q,hsay,hrow,hnew⟩
 ·have E:=Lib.hid (H110.out hold)
  clear hold H110
  go_wp2_with fail
  go_ret
  exact ⟨(by rw [E.out];first | done | rfl),HOld.out _ HB1.out _ E.out⟩
 obtain ⟨A1,c1,rfl,hrf,_⟩:=own_rowF (F:=fun _=>False) hrow (by rw [List.length_map,hsay.len,Nat.mul_one]) (fun _ hf=>hf.elim)
 rcases hsay.err with ⟨rfl,_⟩ | ⟨rfl,_⟩
 case inr =>
  have E:=Lib.hid (lg_long HS.out hsay)
  clear hsay hrow hnew hrf H110
  go_wp2_with fail
  go_ret
  exact ⟨(by rw [E.out];first | done | rfl),HOld.out _ HB1.out _ E.out⟩
 have HQl:=Lib.hid hsay.len
 have HNo:=Lib.hid (lg_no hsay)
 have HAt:=Lib.hid (fun i (hi:i < ws.length) (hq:i < Q.length)=>lg_at HS.out HM.out hsay hi hq)
 have HRw:=Lib.hid hrow
 have HNw:=Lib.hid hnew
 have HRf:=Lib.hid hrf
 clear hsay hrow hnew hrf H110
 have h1:=HH.out _ HB1.out
 have s0:=h1.cel.cell (i:=0) rfl
 have hln:=h1.mc.len Tryz.underlying85 3
 rw [List.length_map] at hln
 clear h1
 go_wp2_with fail
 go_loopw [9,31] (fun kv iv wr=>∃ (j nn:Nat),j ≤ ws.length ∧ iv = .int .i64 (j:Int) ∧ kv = .int .i64 ((K.length:Int) + (nn:Int)) ∧ Hid (nn = newN s.k (ws.take j)) ∧ nn ≤ j ∧ Hid (wr = w1)) (fun _ iv _=>ws.length - (RowKit.intOf iv).toNat)
 case atStart=>exact ⟨0,0,Nat.zero_le _,rfl,by simp,Lib.hid (by simp [newN]),Nat.le_refl _,Lib.hid rfl⟩
 case round =>
  obtain ⟨j,nn,hj,rfl,rfl,hnn,hnj,hwr⟩:=hrel
  obtain rfl:w1 = wr:=hwr.out.symm
  clear hwr s0 hln
  by_cases hlt:j < ws.length
  ·have pj:(j:Int) < (ws.length:Int):=by omega
   have hqj:j < Q.length:=by rw [HQl.out];exact hlt
   obtain ⟨ad,rfl,_,_,h3⟩:=HRf.out (by rw [List.length_map];omega)
   have x0:=h3 j (slv Q[j]) (by rw [List.getElem?_map,List.getElem?_eq_getElem hqj];rfl)
   unfold slv at x0
   have hat:=HAt.out j hlt hqj
   have hcl:Q[j].k.l.length = (chainK s.k ws[j].key).length + 1:=by rw [hat];simp
   have hns:=newN_succ (k:=s.k) hlt
   have hcn:=chain_none (k:=s.k) HS.out.kz (key:=ws[j].key)
   have hcm:Q[j].k.l.length ≤ 1024:=by have:=HNo.out.2 _ (List.getElem_mem hlt);omega
   generalize Q[j] = X at x0 hcl hat hcm
   generalize hL:chainK s.k ws[j].key = L at hcl hcn
   cases hh:hasK s.k ws[j].key with
   | true =>
    have hL0:L ≠ []:=fun e=>by have:=hcn.1 e;rw [hh] at this;cases this
    have hL1:L.length ≠ 0:=fun e=>hL0 (List.eq_nil_of_length_eq_zero e)
    rw [hh] at hns
    have HNs:=Lib.hid (show nn = newN s.k (ws.take (j + 1)) by rw [hns,← hnn.out];simp)
    have hm1:¬ (X.k.l.length:Int) = 1:=by omega
    generalize X.k.l.length = xm at x0 hm1
    clear hcl hcn hL hL0 hL1 hh hns hat hcm hnn h3
    go_wp2_with fail
    go_roundw
    case rel=>exact ⟨j + 1,nn,by omega,by go_num,rfl,HNs,by omega,Lib.hid (by trivial)⟩
    case measure=>simp [RowKit.intOf];omega
   | false =>
    have hL0:L = []:=hcn.2 hh
    rw [hh] at hns
    have HNs:=Lib.hid (show nn + 1 = newN s.k (ws.take (j + 1)) by rw [hns,← hnn.out];simp)
    have hm1:X.k.l.length = 1:=by rw [hcl,hL0];rfl
    rw [hm1] at x0
    clear hcl hcn hL hL0 hh hns hat hm1 hcm hnn h3
    go_wp2_with fail
    go_roundw
    case rel=>exact ⟨j + 1,nn + 1,by omega,by go_num,by go_num,HNs,by omega,Lib.hid (by trivial)⟩
    case measure=>simp [RowKit.intOf];omega
  ·obtain rfl:j = ws.length:=by omega
   have HNn:=Lib.hid (show nn = newN s.k ws by rw [hnn.out,List.take_length])
   clear hnn
   by_cases hbig:1024 < K.length + nn
   ·have E:=Lib.hid (show writeP s ts ws = (s,2) by
     unfold writeP
     rw [if_neg (by rw [HNo.out.1];simp),if_pos (by rw [longW_is HS.out.kl,Bool.or_eq_true];right;simp only [decide_eq_true_eq];rw [← HNn.out,← HKl.out];exact hbig)])
    have pb:(1024:Int) < (K.length:Int) + (nn:Int):=by omega
    clear hbig
    go_wp2_with fail
    go_ret
    exact ⟨(by rw [E.out];first | done | rfl),HOld.out _ HB1.out _ E.out⟩
   ·have E:=Lib.hid (show writeP s ts ws = (⟨addW ts ws s.k,s.p,s.e,s.over⟩,0) by
     unfold writeP
     rw [if_neg (by rw [HNo.out.1];simp),if_neg (by
      rw [longW_is HS.out.kl,Bool.or_eq_true]
      rintro (hc | hc)
      ·obtain ⟨x,hx,hd⟩:=List.any_eq_true.1 hc
       have:=HNo.out.2 x hx
       simp at hd;omega
      ·simp only [decide_eq_true_eq] at hc
       rw [← HNn.out,← HKl.out] at hc
       exact hbig hc)])
    have pb:¬ (1024:Int) < (K.length:Int) + (nn:Int):=by omega
    clear hbig HOld
    have HL0:Hid (∃ Kj,LAt w1 (Gr F W w1) g bc bp v Kj P ⟨addW ts (ws.take 0) s.k,s.p,s.e,s.over⟩):=Lib.hid ⟨K,(HH.out _ HB1.out).more (fun _ hk=>.inl hk) (gr_lt HF.out HB1.out.size)⟩
    have HA0:=Lib.hid (show Far F W w1 from Far.of HB1.out)
    have HW0:=Lib.hid (HWs.out _ HB1.out)
    have HX:=Lib.hid (fun j (hj:j < ws.length)=>addW_next HS.out.kok HM.out (fun x hx=>by
     have:=List.any_eq_false.1 HNo.out.1 x hx
     simp at this;omega) HNo.out.2 hj)
    clear HH HWs HRf
    go_wp2_with fail
    go_loopw [45] (fun iv wr=>∃ j:Nat,j ≤ ws.length ∧ iv = .int .i64 (j:Int) ∧ Hid (∃ Kj,LAt wr (Gr F W wr) g bc bp v Kj P ⟨addW ts (ws.take j) s.k,s.p,s.e,s.over⟩) ∧ Hid (Far F W wr) ∧ Hid (wr.ownsRow W.heap.size 92 1 (.slice A1 ws.length c1) ws.length (Q.map slv)) ∧ Hid (∀ x ∈ Q,NewK wr W.heap.size x) ∧ Hid (WrsAt wr B ws)) (fun iv _=>ws.length - (RowKit.intOf iv).toNat)
    case atStart=>exact ⟨0,Nat.zero_le _,rfl,HL0,HA0,HRw,HNw,HW0⟩
    case round =>
     obtain ⟨j,hj,rfl,hL,haw,hrw,hnw,hws⟩:=hrel
     clear HL0 HA0 HRw HNw HW0 HB1
     by_cases hlt:j < ws.length
     ·have pj:(j:Int) < (ws.length:Int):=by omega
      have hqj:j < Q.length:=by rw [HQl.out];exact hlt
      obtain ⟨Kj,hLj⟩:=hL.out
      obtain ⟨bd,rfl,y0,y1,y2⟩:=wrs_at hws.out hlt
      have hq2:=hrw.out
      obtain ⟨A2,c2,e2,hrf,_⟩:=own_rowF (F:=fun _=>False) hq2 (by rw [List.length_map,HQl.out,Nat.mul_one]) (fun _ hf=>hf.elim)
      simp only [Value.slice.injEq] at e2
      obtain ⟨rfl,-,rfl⟩:=e2
      have hrf2:=hrf
      obtain ⟨ad,rfl,_,_,_⟩:=hrf2 (by rw [List.length_map];omega)
      have hks:(ws[j].key).size ≤ maxLen:=by have:=(HM.out.each _ (List.getElem_mem hlt)).1.2;unfold maxLen;omega
      have hkc:(ws[j].key).size ≤ 281474976710656:=by have:=(HM.out.each _ (List.getElem_mem hlt)).1.2;omega
      have hat:=HAt.out j hlt hqj
      obtain ⟨hX1,hX2⟩:=HX.out j hlt
      have hb5:Below wr.heap.size wr (wr.alloc (.cells #[.string ws[j].key,.string ws[j].shard,.bool ws[j].dead] 45)):=(Below.refl _ wr).alloc (Nat.le_refl _) _
      have hV5:Cel (wr.alloc (.cells #[.string ws[j].key,.string ws[j].shard,.bool ws[j].dead] 45)) wr.heap.size 45 [.string ws[j].key,.string ws[j].shard,.bool ws[j].dead]:=(blk1 wr _).2
      have HB5:=Lib.hid hb5
      have HQm:=Lib.hid (show Q[j] ∈ Q from List.getElem_mem hqj)
      have HRf5:=Lib.hid (fun V (hbv:Below wr.heap.size wr V)=>(hrf.below hbv).news j (slv Q[j]) (by rw [List.getElem?_map,List.getElem?_eq_getElem hqj];rfl))
      have HLj:=Lib.hid hLj
      have HV5:=Lib.hid hV5
      have HX1:=Lib.hid hX1
      have HX2:=Lib.hid hX2
      have HAtj:=Lib.hid hat
      have HKs:=Lib.hid hks
      generalize hX:Q[j] = X at HQm HRf5 HAtj
      generalize ws[j] = Y at y0 y1 y2 hb5 hV5 HB5 HV5 HX1 HAtj hkc HKs
      obtain ⟨k,t,dd⟩:=Y
      simp only at y0 y1 y2 hb5 hV5 HB5 HV5 HX1 HAtj hkc HKs
      have HClk:=Lib.hid (fun W=>HCl.out k W hkc)
      clear hL hLj hq2 hrf hks hkc hat hX1 hX2 hb5 hV5 hX
      go_upto_region 16 with fail
      generalize hW5:wr.alloc (.cells #[.string k,.string t,.bool dd] 45) = W5 at HB5 HV5 ⊢
      generalize wr.heap.size = vb at HV5 ⊢
      clear y0 y1 y2 hW5
      refine wp_region_said 11 [50,51,52,53,54,55,56,57,58,59,60]
       [.is (.pointer (some ⟨g,0,none⟩)),.is (.pointer (some ⟨g,0,none⟩)),.is (.pointer (some ⟨g,0,none⟩)),.is (.map (some bc)),.is (.pointer (some ⟨vb,0,none⟩)),.is (.string k),.is (.string k),.is (.slice (some ad) ws.length c1),.is (.int .i64 (j:Int)),.is (.pointer (some (ad.add j))),.is (.slice X.A X.k.l.length X.c)]
       (fun V=>Below wr.heap.size wr V ∧ Cel V vb 45 [.string k,.string t,.bool dd]) (by kernel_rfl) (by kernel_rfl) (by kernel_rfl) (by kernel_rfl) (by kernel_rfl) (fun V V' h hb=>⟨h.1.trans (hb.mono h.1.size),h.2.below hb⟩) ⟨HB5.out,HV5.out⟩ ?steps ?last
      case steps =>
       simp only [List.take_succ_cons,List.take_zero]
       refine ⟨?_,?_,?_,?_,?_,?_,?_,?_,?_,?_,?_,trivial⟩
       all_goals
        intro vs V ρ hρ hc hf hg hI hH hd R' hR
        have s0:=(HLj.out.below hI.1).cel.cell (i:=0) rfl
        have x0:=HRf5.out _ hI.1
        unfold slv at x0
        have q0:=hI.2.cell (i:=0) rfl
        have HR:=Lib.hid hR
        simp [depsOf,Region.binds,sayAt,Say.holds] at hd
        clear hR hI
        go_simp
        first
         | exact HR.out _ _ (by simp [sayAt,Say.holds]) (Below.refl _ _) (by simp [sayAt,Say.isBlk])
         | (refine (HClk.out _).mono ?_;rintro e w' ⟨rfl,hb⟩;exact ⟨_,rfl,HR.out _ _ (by simp [sayAt,Say.holds]) hb (by simp [sayAt,Say.isBlk])⟩)
      case last =>
       intro vs V hI hb hg hd
       have g3:=hg 3 (by omega)
       have g6:=hg 6 (by omega)
       have g10:=hg 10 (by omega)
       simp only [sayAt,Say.holds,List.getD_cons_succ,List.getD_cons_zero] at g3 g6 g10
       simp only [List.take_succ_cons,List.take_zero,List.drop_succ_cons,List.drop_zero,putAll,Act.put,List.setIfInBounds_toArray,List.set_cons_succ,List.set_cons_zero,Nat.zero_add,Nat.reduceAdd]
       rw [g3,g6,g10]
       have hLV:=HLj.out.below hI.1
       have hml:(Kj.map kp).length < maxLen:=by
        rw [List.length_map,hLV.klen]
        have h1:=addW_le (ts:=ts) (ws.take j) s.k
        have h2:(ws.take j).length ≤ ws.length:=List.length_take_le' ..
        have h3:=HS.out.kl
        show (addW ts (ws.take j) s.k).length < _
        unfold maxLen
        omega
       have hbV:=hI.1
       have haV:=haw.out.trans (away_below (F:=F) hbV)
       clear g3 g6 g10 hg hd hI
       refine wpList_update_is strQ rfl _ _ _ 85 92 rfl Tryz.underlying85 bc (Kj.map kp) rfl hLV.mc hml k (strQ_ok HKs.out) (.slice X.A X.k.l.length X.c) rfl rfl ?_
       intro w' hm ht
       have hk:∀ i,i ≠ bc → w'.heap[i]? = V.heap[i]?:=fun i hi=>turned_other ht hi
       have hsz:V.heap.size ≤ w'.heap.size:=by rw [turned_size ht];exact Nat.le_refl _
       have hXk:X.k.name = k:=by rw [HAtj.out]
       have hkpX:(k,Value.slice X.A X.k.l.length X.c) = kp X:=by unfold kp;rw [hXk]
       have hnK:=st_keep (hnw.out X HQm.out) hbV
       have hSo:Sorted (Kj.map (·.k)):=by rw [hLV.ek];exact HX2.out.ks
       have hm2:MapIs strQ w' bc ((putI Kj X).map kp):=by
        rw [hkpX,← hXk] at hm
        exact hm.perm (putI_perm X hSo).symm
       have hL2:LAt w' (Gr F W w') g bc bp v (putI Kj X) P ⟨addW ts (ws.take (j + 1)) s.k,s.p,s.e,s.over⟩:=by
        refine LAt.setK hLV hk hsz hm2 (fun x hx=>?_) (by rw [putI_map,hLV.ek,HX1.out,HAtj.out]) (gr_mono (Nat.le_trans hbV.size hsz)) (fun x hx hp ad e=>?_) (gr_lt HF.out (Nat.le_trans haV.size hsz))
        ·rcases putI_mem hx with rfl | hx
         ·exact newK_val hnK HMu.out
         ·exact hLV.kv x hx
        ·rcases putI_mem hx with rfl | hx
         ·obtain ⟨h1,h2⟩:=newK_in hnK ad e
          exact .inr ⟨h1,Nat.lt_of_lt_of_le h2 hsz⟩
         ·exact gr_mono (Nat.le_trans hbV.size hsz) _ (hLV.fk x hx hp ad e)
       have HL6:=Lib.hid (show ∃ Kj,LAt w' (Gr F W w') g bc bp v Kj P ⟨addW ts (ws.take (j + 1)) s.k,s.p,s.e,s.over⟩ from ⟨_,hL2⟩)
       have HA6:=Lib.hid (show Far F W w' from ⟨⟨Nat.le_trans haV.size hsz,fun i hi hn=>(hk i (fun e=>hn (by rw [e];exact HFm.out))).trans (haV.block i hi hn)⟩,haV.st.trans (st_turned ht)⟩)
       have HR6:=Lib.hid (own_turned (st_keep hrw.out hbV) hLV.mc hk)
       have HN6:=Lib.hid (show ∀ x ∈ Q,NewK w' W.heap.size x from fun x hx=>own_turned (st_keep (hnw.out x hx) hbV) hLV.mc hk)
       have HW6:=Lib.hid (wrs_in (F:=fun i=>i ≠ bc) (hws.out.below hbV) (fun hp ad e h=>HBm.out hp ad e (by rw [h];exact .inr (.inl rfl))) hsz hk)
       clear hL2 hm2 hm ht hk hsz hnK hSo hLV hml hbV haV hb haw hrw hnw hws hkpX hXk
       go_wp2_with fail
       go_roundw
       case rel=>exact ⟨j + 1,by omega,by go_num,HL6,HA6,HR6,HN6,HW6⟩
       case measure=>simp [RowKit.intOf];omega
     ·obtain rfl:j = ws.length:=by omega
      have hL2:=hL.out
      rw [List.take_length] at hL2
      have HL6:=Lib.hid hL2
      have HA6:=haw
      clear hL hL2 haw hrw hnw hws
      go_wp2_with fail
      go_ret
      exact ⟨(by rw [E.out];first | done | rfl),by rw [E.out];exact HL6.out,HA6.out⟩
end
theorem Tryz.infoEndL:(Tryz.prog.info? 97).map (fun i=>(i.zero,i.size,i.bytes)) = some (some (.agg #[.int .i64 0,.int .i64 0]),2,16):=by kernel_rfl
theorem run_clear_two (W:World) (ty:TypeId) (b o c:Nat) (cur:Array Value) (hg:W.heap[b]? = some (.cells cur 97 (0,0))) (ho:o + 2 ≤ cur.size) :
  (Builtin.clear_ #[87] ty #[.slice (some ⟨b,o,none⟩) 1 c]).run Tryz.prog W = .ok (.tuple #[]) (W.setRow b (cur.toList.take o ++ ([Value.int .i64 0,Value.int .i64 0]:List Value) ++ cur.toList.drop (o + 2)).toArray):=by
 have hzc:(Builtin.zeroCells (Value.agg #[.int .i64 0,.int .i64 0]).cells 1).toList = [.int .i64 0,.int .i64 0]:=by simp [Builtin.zeroCells,Value.cells];rfl
 have hst:=run_storeCells_at Tryz.prog b o 97 [.int .i64 0,.int .i64 0] 0 cur W hg (by simpa using ho) (by intro u hu;simp at hu;subst hu;rfl)
 simp only [Nat.add_zero] at hst
 simp [Builtin.clear_,run_underlying Tryz.underlying87,hzc,hst]
theorem wpList_append_eq {P:Program} {w w':World} {ops:Array Oper} {rest:List Oper} {o:Oper} {a:Act} {Q:Exit → Act → World → Prop} (hgd:o.guard = none) (s x:Operand) (t:TypeId)
  (ho:o.op = .call { callee:=.builtin .append,args:=#[s,x],argTypes:=#[t,t] }) (u y v':Value) (hs:a.eval s = u) (hx:a.eval x = y) (hr:(Builtin.append_ #[t,t] o.type #[u,y]).run P w = .ok v' w')
  (h:wpList P ops Q rest (a.put o.dst v') w'):wpList P ops Q (o :: rest) a w:=by
 refine wpList_plain hgd fun K hK=>?_
 unfold Oper.wp execOp
 simp only [ho,resolve,invoke,builtin,Sem.run_bind,Sem.run_pure,Result.andThen_ok,List.map_toArray,List.map_cons,List.map_nil,hs,hx,hr]
 exact hK _ _ h
theorem ldel_any (W:World) (b cap n m:Nat) (cs:List Value) (cur:Array Value) (hg:W.heap[b]? = some (.cells cur 97 (0,0))) (hsz:cur.size = cap * 2) (hmn:m = n + 1) (hcap:m ≤ cap) (hmx:cap ≤ maxLen) (htk:cur.toList.take (m * 2) = cs) (hn:1 ≤ n) (h1:∀ u ∈ cs,u.oneCell' = true) :
  Calls Tryz.prog 95 #[.slice (some ⟨b,0,none⟩) m cap,.int .i64 0,.int .i64 1] W fun e w'=>e = .returned (.slice (some ⟨b,0,none⟩) n cap) ∧ w'.ownsRow 0 97 2 (.slice (some ⟨b,0,none⟩) n cap) n (cs.drop 2) ∧ (∀ k,k < W.heap.size → k ≠ b → w'.heap[k]? = W.heap[k]?) ∧ W.heap.size ≤ w'.heap.size ∧ St W w':=by
 obtain ⟨i0,hi,hz0,hz1,hz2⟩:=info_parts Tryz.infoEndL
 have hmx2:cap ≤ 9223372036854775807:=by unfold maxLen at hmx;omega
 have hsize:∀ V:World,(sizeOf (Tryz.prog.elem 87)).run Tryz.prog V = .ok 2 V:=fun V=>by kernel_rfl
 have ha0:(⟨b,0,none⟩:Addr).add 0 = ⟨b,0,none⟩:=rfl
 have f1:∀ V:World,(Instr.slice 87 (.slice (some ⟨b,0,none⟩) m cap) (some (.int .i64 0)) (some (.int .i64 1)) (some (.int .i64 (m:Int)))).run Tryz.prog V = .ok (.slice (some ⟨b,0,none⟩) 1 m) V:=fun V=>by
  rw [run_slice_lhm (P:=Tryz.prog) V 87 (some ⟨b,0,none⟩) m cap Tryz.underlying87 .i64 .i64 .i64 0 1 (m:Int) (by omega) (by omega) (by omega) (by omega),hsize]
  simp [sliced,ha0]
 have f2:∀ V:World,(Instr.slice 87 (.slice (some ⟨b,0,none⟩) m cap) none (some (.int .i64 0)) none).run Tryz.prog V = .ok (.slice (some ⟨b,0,none⟩) 0 cap) V:=fun V=>by
  rw [run_slice_h (P:=Tryz.prog) V 87 (some ⟨b,0,none⟩) m cap Tryz.underlying87 .i64 0 (by omega) (by omega),hsize]
  simp [sliced,ha0]
 have f3:∀ V:World,(Instr.slice 87 (.slice (some ⟨b,0,none⟩) m cap) (some (.int .i64 1)) none none).run Tryz.prog V = .ok (.slice (some ⟨b,2,none⟩) n (cap - 1)) V:=fun V=>by
  rw [run_slice_l (P:=Tryz.prog) V 87 (some ⟨b,0,none⟩) m cap Tryz.underlying87 .i64 1 (by omega) (by omega),hsize]
  have:¬ cap = 1:=by omega
  simp [sliced,this,Addr.add,hmn]
 have f4:∀ V:World,(Instr.slice 87 (.slice (some ⟨b,0,none⟩) n cap) (some (.int .i64 (n:Int))) (some (.int .i64 (m:Int))) none).run Tryz.prog V = .ok (.slice (some ⟨b,n * 2,none⟩) 1 (cap - n)) V:=fun V=>by
  rw [run_slice_lh (P:=Tryz.prog) V 87 (some ⟨b,0,none⟩) n cap Tryz.underlying87 .i64 .i64 (n:Int) (m:Int) (by omega) (by omega) (by omega),hsize]
  have h1:¬ cap = n:=by omega
  have h2:m - n = 1:=by omega
  simp [sliced,h1,h2,Addr.add]
  omega
 have hlt:=(Array.getElem?_eq_some_iff.1 hg).1
 have hcl:cs.length = m * 2:=by rw [← htk,List.length_take,Array.length_toList,hsz];omega
 have hap:∀ V:World,V.heap[b]? = some (.cells cur 97 (0,0)) → ∀ ty,(Builtin.append_ #[87,87] ty #[.slice (some ⟨b,0,none⟩) 0 cap,.slice (some ⟨b,2,none⟩) n (cap - 1)]).run Tryz.prog V = .ok (.slice (some ⟨b,0,none⟩) n cap) (V.setRow b (cs.drop 2 ++ cur.toList.drop (n * 2)).toArray):=fun V hV ty=>by
  have hr:=run_append_room (P:=Tryz.prog) V 87 ty 97 i0 Tryz.underlying87 hi b 0 cap cur hV ⟨b,2,none⟩ n (cap - 1) (cs.drop 2) (by rw [List.length_drop,hcl,hz1];omega) (fun j u hu=>by
   have hj:=(List.getElem?_eq_some_iff.1 hu).1
   rw [List.length_drop,hcl] at hj
   rw [List.getElem?_drop,← htk,List.getElem?_take_of_lt (by omega)] at hu
   rw [Addr.add_lit]
   exact blk_cell hV (by rw [← Array.getElem?_toList];exact hu)) (fun u hu=>h1 u (List.mem_of_mem_drop hu)) (by omega) (by rw [List.length_drop,hcl,hsz];omega)
  have e:cs.length - 2 = n * 2:=by rw [hcl];omega
  rw [hr]
  simp [e]
 have HAp:=Lib.hid hap
 have HFin:Hid (∀ V:World,V.heap[b]? = some (.cells cur 97 (0,0)) → ∀ ty,(Builtin.clear_ #[87] ty #[.slice (some ⟨b,n * 2,none⟩) 1 (cap - n)]).run Tryz.prog (V.setRow b (cs.drop 2 ++ cur.toList.drop (n * 2)).toArray) = .ok (.tuple #[]) (V.setRow b (cs.drop 2 ++ ([Value.int .i64 0,Value.int .i64 0]:List Value) ++ cur.toList.drop (m * 2)).toArray)):=Lib.hid (fun V hV ty=>by
  have hl2:(cs.drop 2).length = n * 2:=by rw [List.length_drop,hcl];omega
  rw [run_clear_two (V.setRow b (cs.drop 2 ++ cur.toList.drop (n * 2)).toArray) ty b (n * 2) (cap - n) _ (setRow_heap V b cur _ _ _ hV) (by simp only [List.size_toArray,List.length_append,hl2,List.length_drop,Array.length_toList,hsz];omega),setRow_setRow]
  congr 3
  have e1:(cs.drop 2 ++ cur.toList.drop (n * 2)).take (n * 2) = cs.drop 2:=by rw [List.take_append_of_le_length (by omega),List.take_of_length_le (by omega)]
  have e2:(cs.drop 2 ++ cur.toList.drop (n * 2)).drop (n * 2 + 2) = cur.toList.drop (m * 2):=by
   rw [List.drop_append,List.drop_of_length_le (by omega),List.nil_append,List.drop_drop,hl2]
   congr 1;omega
  rw [e1,e2])
 have HRow:Hid (∀ V:World,V.heap[b]? = some (.cells cur 97 (0,0)) → (V.setRow b (cs.drop 2 ++ ([Value.int .i64 0,Value.int .i64 0]:List Value) ++ cur.toList.drop (m * 2)).toArray).ownsRow 0 97 2 (.slice (some ⟨b,0,none⟩) n cap) n (cs.drop 2)):=Lib.hid (fun V hV=>by
  have hl2:(cs.drop 2).length = n * 2:=by rw [List.length_drop,hcl];omega
  refine ⟨hl2,.inr ⟨b,cap,_,rfl,Nat.zero_le _,setRow_heap V b cur _ _ _ hV,by omega,hmx,?_,?_⟩⟩
  ·simp only [List.size_toArray,List.length_append,List.length_cons,List.length_nil,hl2,List.length_drop,Array.length_toList,hsz];omega
  ·simp only [List.append_assoc]
   rw [List.take_append_of_le_length (by omega),List.take_of_length_le (by omega)])
 have HB:=Lib.hid (fun V (hb:Below W.heap.size W V)=>(hb.block b hlt).trans hg)
 have pm:¬ (n:Int) = 0:=by omega
 have pmx:(m:Int) ≤ 9223372036854775807:=by omega
 have pnx:(n:Int) ≤ 9223372036854775807:=by omega
 have HO:=Lib.hid (fun V (hb:Below W.heap.size W V)=>show (∀ k,k < W.heap.size → k ≠ b → (V.setRow b (cs.drop 2 ++ ([Value.int .i64 0,Value.int .i64 0]:List Value) ++ cur.toList.drop (m * 2)).toArray).heap[k]? = W.heap[k]?) ∧ W.heap.size ≤ (V.setRow b (cs.drop 2 ++ ([Value.int .i64 0,Value.int .i64 0]:List Value) ++ cur.toList.drop (m * 2)).toArray).heap.size ∧ St W (V.setRow b (cs.drop 2 ++ ([Value.int .i64 0,Value.int .i64 0]:List Value) ++ cur.toList.drop (m * 2)).toArray) from ⟨fun k hk hn=>(setRow_other V b k _ hn).trans (hb.block k hk),by rw [setRow_size];exact hb.size,(st_below hb).trans (st_row _ _ _)⟩)
 clear hg hsz hmn hcap hmx htk hn h1 hmx2 hsize hlt hcl hap hi hz0 hz1 hz2 ha0
 go_enter Tryz.func95,Tryz.ntmps95
 go_upto_region 5 with fail
 refine wp_region_said 6 [20,21,22,23,24,25]
  [.is (.slice (some ⟨b,0,none⟩) m cap),.is (.int .i64 0),.is (.slice (some ⟨b,0,none⟩) 0 cap),.is (.slice (some ⟨b,0,none⟩) m cap),.is (.int .i64 1),.is (.slice (some ⟨b,2,none⟩) n (cap - 1))]
  (fun V=>Below W.heap.size W V) (by kernel_rfl) (by kernel_rfl) (by kernel_rfl) (by kernel_rfl) (by kernel_rfl) (fun V V' h hb=>h.trans (hb.mono h.size)) (Below.refl _ _) ?steps ?last
 case steps =>
  simp only [List.take_succ_cons,List.take_zero]
  refine ⟨?_,?_,?_,?_,?_,?_,trivial⟩
  all_goals
   intro vs V ρ hρ hc hf hg hI hH hd R' hR
   have HR:=Lib.hid hR
   simp [depsOf,Region.binds,sayAt,Say.holds] at hd
   clear hR hI
   go_simp
   exact HR.out _ _ (by simp [sayAt,Say.holds]) (Below.refl _ _) (by simp [sayAt,Say.isBlk])
 case last =>
  intro vs V hI hb hg hd
  have g2:=hg 2 (by omega)
  have g5:=hg 5 (by omega)
  simp only [sayAt,Say.holds,List.getD_cons_succ,List.getD_cons_zero] at g2 g5
  simp only [List.take_succ_cons,List.take_zero,List.drop_succ_cons,List.drop_zero,putAll,Act.put,List.setIfInBounds_toArray,List.set_cons_succ,List.set_cons_zero,Nat.zero_add,Nat.reduceAdd]
  rw [g2,g5]
  have hV:=HB.out _ hI
  have a1:=HAp.out V hV
  have a2:=HFin.out V hV
  have HR:=Lib.hid (HRow.out V hV)
  have HOV:=Lib.hid (HO.out V hI)
  clear g2 g5 hg hd hI hb hV HAp HFin HRow HB HO f1 f2 f3
  refine wpList_append_eq rfl _ _ 87 rfl _ _ _ rfl rfl (a1 _) ?_
  clear a1
  go_upto_region 6 with fail
  go_wp2_with fail
  go_ret
  have hr2:=HR.out
  have ho2:=HOV.out
  simp only [List.append_assoc,List.cons_append,List.nil_append] at hr2 ho2
  exact ⟨rfl,hr2,ho2.1,ho2.2⟩
end Sh
end Go.Proofs.YtbkanoblcojdfaaGreat
namespace Go.Proofs.YtbkanoblcojdfaaGreat
namespace Sh
open Go.RowKit Bk Ch Lt Rc Tr
theorem out_filter {p:List Rec} (h:p.Pairwise (fun x y=>x.txn < y.txn)) (txn:Int):outP p txn = p.filter (fun r=>decide (r.txn ≠ txn)):=by
 unfold outP
 induction p with
 | nil=>rfl
 | cons a r ih =>
  obtain ⟨h1,h2⟩:=List.pairwise_cons.1 h
  by_cases e:a.txn = txn
  ·rw [List.eraseP_cons_of_pos (by simpa using e),List.filter_cons_of_neg (by simpa using e),List.filter_eq_self.2]
   intro q hq
   have:=h1 q hq
   simp only [decide_eq_true_eq]
   omega
  ·rw [List.eraseP_cons_of_neg (by simpa using e),List.filter_cons_of_pos (by simpa using e),ih h2]
def outRI (P:List RI) (txn:Int):List RI:=P.filter (fun x=>decide (x.l.txn ≠ txn))
theorem outRI_map (P:List RI) (txn:Int):(outRI P txn).map (·.l) = (P.map (·.l)).filter (fun r=>decide (r.txn ≠ txn)):=by
 unfold outRI
 rw [List.filter_map]
 rfl
theorem outRI_pp (P:List RI) (txn:Int):(outRI P txn).map pp = outM (P.map pp) txn:=by
 unfold outRI outM
 rw [List.filter_map]
 rfl
theorem outRI_mem {P:List RI} {txn:Int} {x:RI} (h:x ∈ outRI P txn):x ∈ P:=(List.mem_filter.1 h).1
section
variable {W V w':World} {F F':Nat → Prop} {g bc bp:Nat} {v v':Value} {K:List KI} {P:List RI} {s:Shf}
theorem RowF.both {M M':Nat → Prop} {A:Option Addr} {cs:List Value} (h:RowF V M A cs) (aw:Away M V w') (tn:∀ k,M' k → M k ∨ V.heap.size ≤ k):RowF w' M' A cs:=fun hp=>by
 obtain ⟨ad,e,h1,h2,_⟩:=h hp
 obtain ⟨ad',e',_,_,h3⟩:=h.away aw hp
 obtain rfl:=Option.some.inj (e.symm.trans e')
 exact ⟨ad,e,Nat.lt_of_lt_of_le h1 aw.size,fun hm=>(tn _ hm).elim h2 (fun h=>by omega),h3⟩
theorem KVal.both {M M':Nat → Prop} {x:KI} (h:KVal V M x) (aw:Away M V w') (tn:∀ k,M' k → M k ∨ V.heap.size ≤ k):KVal w' M' x:=⟨h.row.both aw tn,h.nil,h.le,h.cap⟩
theorem PVal.both {M M':Nat → Prop} {x:RI} (h:PVal V M x) (aw:Away M V w') (tn:∀ k,M' k → M k ∨ V.heap.size ≤ k):PVal w' M' x :=
 ⟨(h.away aw).val,(h.turn tn).ka,(h.turn tn).wa⟩
theorem own_map_ne {e:TypeId} {H sz n b:Nat} {xs:List Value} {es:Array MapEntry} {cl:Nat} (h:V.ownsRow H e sz v n xs) (hb:V.heap[b]? = some (.map es cl)):v.ownBlock ≠ some b:=by
 rcases h.2 with ⟨rfl,_⟩ | ⟨i,cap,cur,rfl,_,hg,_⟩
 ·intro e1;cases e1
 ·intro e1
  obtain rfl:i = b:=by simpa [Value.ownBlock] using e1
  rw [hb] at hg;cases hg
theorem LAt.setE (h:LAt V F g bc bp v K P s) (hs:V.heap.size ≤ w'.heap.size) (hk:∀ k,k < V.heap.size → k ≠ g → v.ownBlock ≠ some k → w'.heap[k]? = V.heap[k]?) (hc:Cel w' g 89 [.map (some bc),.map (some bp),v',.int .i64 s.over])
  {e':List (Int × Int)} (hr:w'.ownsRow 0 97 2 v' e'.length (e'.flatMap ecs)) (hen:e' = [] → v' = .slice none 0 0) (hv:∀ X,v'.ownBlock = some X → v.ownBlock = some X ∨ V.heap.size ≤ X) (hF:∀ k,F k → F' k) (hX:∀ X,v'.ownBlock = some X → F' X) (hFl:∀ k,F' k → k < w'.heap.size) :
  LAt w' F' g bc bp v' K P ⟨s.k,s.p,e',s.over⟩ :=
 have hbc:=h.mc.lt
 have hbp:=h.mp.lt
 have ngc:bc ≠ g:=h.mc.ne h.cel
 have ngp:bp ≠ g:=h.mp.ne h.cel
 have noc:v.ownBlock ≠ some bc:=by obtain ⟨es,cl,h1⟩:=h.mc.isMap;exact own_map_ne h.re h1
 have nop:v.ownBlock ≠ some bp:=by obtain ⟨es,cl,h1⟩:=h.mp.isMap;exact own_map_ne h.re h1
 have aw:Away (Mu g bc bp v) V w':=⟨hs,fun k hlt hn=>hk k hlt (fun e=>hn (.inl e)) (fun e=>hn (.inr (.inr (.inr e))))⟩
 have tn:∀ k,Mu g bc bp v' k → Mu g bc bp v k ∨ V.heap.size ≤ k:=fun k hk=>by
  rcases hk with h1 | h1 | h1 | h1
  ·exact .inl (.inl h1)
  ·exact .inl (.inr (.inl h1))
  ·exact .inl (.inr (.inr (.inl h1)))
  ·rcases hv k h1 with h2 | h2
   ·exact .inl (.inr (.inr (.inr h2)))
   ·exact .inr h2
 ⟨hc,h.mc.kept (hk bc hbc ngc noc),h.mp.kept (hk bp hbp ngp nop),hr,hen,fun x hx=>(h.kv x hx).both aw tn,fun x hx=>(h.pv x hx).both aw tn,h.ek,h.ep,h.bd,
  fun k hk=>by
  rcases hk with h1 | h1 | h1 | h1
  ·exact hF k (h.fm k (.inl h1))
  ·exact hF k (h.fm k (.inr (.inl h1)))
  ·exact hF k (h.fm k (.inr (.inr (.inl h1))))
  ·exact hX k h1,fun x hx hp ad e=>hF _ (h.fk x hx hp ad e),fun x hx=>⟨fun hp ad e=>hF _ ((h.fp x hx).1 hp ad e),fun hp ad e=>hF _ ((h.fp x hx).2 hp ad e)⟩,hFl⟩
end
end Sh
end Go.Proofs.YtbkanoblcojdfaaGreat
