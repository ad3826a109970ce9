/- Parts of the proof, joined: ShL18; their conditions stand with each. -/
import Derived.Test.YtbkanoblcojdfaaGreatV36

set_option maxRecDepth 20000
set_option maxHeartbeats 8000000
namespace Go.Proofs.YtbkanoblcojdfaaGreat
namespace Sh
open Go.RowKit Bk Ch Lt Rc Tr
attribute [local go_sem ↓] Go.wp_at_zero Go.wp_at_succ
attribute [local go_sem] floatUpon pick
theorem state_cases (s:Shf) (txn:Int):((stateP s txn).1 = 0 ∧ prepOf s.p txn = none) ∨ ((stateP s txn) = (1,0) ∧ ∃ r,prepOf s.p txn = some r) ∨ (stateP s txn).1 = 2 ∨ (stateP s txn).1 = 3:=by
 unfold stateP
 cases hp:prepOf s.p txn with
 | some r=>exact .inr (.inl ⟨rfl,r,rfl⟩)
 | none =>
  cases he:endOf s.e txn with
  | none=>exact .inl ⟨rfl,rfl⟩
  | some x =>
   simp only
   split
   ·exact .inr (.inr (.inl rfl))
   ·exact .inr (.inr (.inr rfl))
theorem write_err {s:Shf} {ts:Int} {ws:List Wr} (h:(writeP s ts ws).2 ≠ 0):(writeP s ts ws).1 = s:=by
 unfold writeP at h ⊢
 split at h
 ·rename_i h1;rw [if_pos h1]
 ·rename_i h1
  rw [if_neg h1]
  split at h
  ·rename_i h2;rw [if_pos h2]
  ·exact absurd rfl h
theorem write_ok {s:Shf} {ts:Int} {ws:List Wr} (h:(writeP s ts ws).2 = 0):∃ k,(writeP s ts ws).1 = ⟨k,s.p,s.e,s.over⟩:=by
 unfold writeP at h ⊢
 split at h
 ·cases h
 ·rename_i h1
  rw [if_neg h1]
  split at h
  ·cases h
  ·rename_i h2;rw [if_neg h2];exact ⟨_,rfl⟩
theorem field8:∀ (r:Rec) (A B:Option Addr) (c d:Nat) (W:World),(Instr.field 37 (.agg #[.int .i64 r.kind,.int .i64 r.txn,.int .i64 r.ts,.int .i64 r.coord,.string r.key,.string r.text,.bool r.dead,.slice A r.keys.length c,.slice B r.ws.length d]) 8).run Tryz.prog W = .ok (.slice B r.ws.length d) W:=fun r A B c d W=>by kernel_rfl
section
variable {W:World} {F:Nat → Prop} {g bc bp:Nat} {v:Value} {K:List KI} {P:List RI} {s:Shf}
set_option maxHeartbeats 16000000 in
theorem lend_any (h:LAt W F g bc bp v K P s) (hs:ShOk s) (txn ts:Int) (ht:txnOk txn) (hts:stampOk ts) :
  Calls Tryz.prog 41 #[.pointer (some ⟨g,0,none⟩),.int .i64 txn,.int .i64 ts] W fun e w'=>e = .returned (.int .i64 (doP s txn ts).2) ∧ LRep w' (Gr F W w') g (doP s txn ts).1 ∧ Far F W w':=by
 obtain ⟨i0,hi,hz0,hz1,hz2⟩:=info_parts Tryz.infoEndL
 have ht1:-9223372036854775808 ≤ txn:=by unfold txnOk at ht;omega
 have ht2:txn ≤ 9223372036854775807:=by unfold txnOk at ht;omega
 have hts0:0 ≤ ts:=by unfold stampOk at hts;omega
 have HSt:=Lib.hid (lstate_any h hs txn ht1 ht2)
 have HTx:=Lib.hid (And.intro ht1 ht2)
 have HTs:=Lib.hid (show ts ≠ 0 → 1 ≤ ts ∧ ts ≤ 1125899906842624 from fun h0=>by unfold stampOk at hts;omega)
 have HH:=Lib.hid (fun V (hb:Below W.heap.size W V)=>h.below hb)
 have HS:=Lib.hid hs
 have HF:=Lib.hid h.fl
 have HEl:=Lib.hid hs.el
 have HPr:=Lib.hid hs.pr
 have HRun:=Lib.hid (fun V (hb:Below W.heap.size W V) (x:RI) (hm:MayW ts x.l.ws) hx hl=>lwrite_any (h.below hb) hs hm x.B x.d (((h.below hb).pv x hx).val.ws) ((h.below hb).pv x hx).wa hl)
 have HCs:=Lib.hid (state_cases s txn)
 have HD:=Lib.hid (show doP s txn ts = if 1 < (stateP s txn).1 then (if (stateP s txn).2 = ts then (s,6) else (s,120)) else match prepOf s.p txn with | none=>(endP s txn ts,0) | some r=>if 0 < ts then (if (writeP s ts r.ws).2 ≠ 0 then (s,(writeP s ts r.ws).2) else (endP (writeP s ts r.ws).1 txn ts,0)) else (endP s txn ts,0) by
  by_cases h1:1 < (stateP s txn).1
  ·rw [if_pos h1];unfold doP;rw [if_pos h1]
  ·rw [if_neg h1]
   cases hp:prepOf s.p txn with
   | none=>unfold doP;rw [if_neg h1,hp]
   | some r =>
    simp only
    by_cases h0:0 < ts
    ·rw [if_pos h0,do_write h1 hp h0]
    ·rw [if_neg h0];unfold doP;rw [if_neg h1,hp];simp only;rw [if_neg h0])
 have HOld:=Lib.hid (show ∀ V,Below W.heap.size W V → ∀ e,doP s txn ts = (s,e) → LRep V (Gr F W V) g (doP s txn ts).1 ∧ Far F W V from fun V hb e he=>by
  rw [he]
  exact ⟨⟨bc,bp,v,K,P,h.gr hb.size (h.below hb)⟩,Far.of hb⟩)
 have hel:(s.e.length:Int) ≤ 1024:=by have:=hs.el;omega
 clear h hs ht hts
 generalize hst:stateP s txn = st at HSt HCs HD
 obtain ⟨st1,st2⟩:=st
 simp only at HSt HCs HD
 clear hst
 go_enter Tryz.func41,Tryz.ntmps41
 go_wp2_with fail
 refine HSt.out.mono ?_
 rintro e1 w1 ⟨rfl,hb⟩
 have HB1:=Lib.hid hb
 clear hb HSt
 have HL0:Hid (LAt w1 (Gr F W w1) g bc bp v K P ⟨s.k,s.p,s.e,s.over⟩):=Lib.hid ((HH.out _ HB1.out).more (fun _ hk=>.inl hk) (gr_lt HF.out HB1.out.size))
 have HA0:=Lib.hid (show Far F W w1 from Far.of HB1.out)
 rcases HCs.out with ⟨rfl,hpn⟩ | ⟨h1,r,hpr⟩ | h23
 ·have E:=Lib.hid (show doP s txn ts = (endP ⟨s.k,s.p,s.e,s.over⟩ txn ts,0) by rw [HD.out,if_neg (by omega),hpn])
  obtain ⟨k1,hk1⟩:∃ k1,s.k = k1:=⟨_,rfl⟩
  obtain ⟨K1,hK1⟩:∃ K1,K = K1:=⟨_,rfl⟩
  rw [hk1] at E HL0
  rw [hK1] at HL0
  have HL:=HL0
  have HA:=HA0
  clear HCs HD HOld HRun hpn hk1 hK1 HL0 HA0 HH HB1
  have s1:=HL.out.cel.cell (i:=1) rfl
  obtain ⟨w5,hrun,hm,ht⟩:=HL.out.mp.drop Tryz.underlying86 (x:=txn) (intQ_ok HTx.out.1 HTx.out.2) 0
  have l5:(Builtin.delete_ #[86,3] 0 #[.map (some bp),.int .i64 txn]).run Tryz.prog w1 = .ok (.tuple #[]) w5:=hrun
  rw [← outRI_pp] at hm
  have hk:∀ k,k ≠ bp → w5.heap[k]? = w1.heap[k]?:=fun k hk=>turned_other ht hk
  have hsz:w1.heap.size ≤ w5.heap.size:=by rw [turned_size ht];exact Nat.le_refl _
  have hWV:=HA.out.size
  have hL5:LAt w5 (Gr F W w5) g bc bp v K1 (outRI P txn) ⟨k1,outP s.p txn,s.e,s.over⟩ :=
   LAt.setP HL.out hk hsz hm (fun x hx=>HL.out.pv x (outRI_mem hx)) (by rw [outRI_map,HL.out.ep,out_filter HPr.out]) (gr_mono hsz) (fun x hx=>⟨fun hp ad e=>gr_mono hsz _ ((HL.out.fp x (outRI_mem hx)).1 hp ad e),fun hp ad e=>gr_mono hsz _ ((HL.out.fp x (outRI_mem hx)).2 hp ad e)⟩) (gr_lt HF.out (Nat.le_trans hWV hsz))
  have hA5:Far F W w5:=⟨⟨Nat.le_trans hWV hsz,fun k hlt hn=>(hk k (fun e=>by
   have:=HL.out.fm bp (.inr (.inr (.inl rfl)))
   rw [← e] at this
   exact this.elim hn (fun h=>by omega))).trans (HA.out.block k hlt hn)⟩,HA.out.st.trans (st_turned ht)⟩
  have HL5:=Lib.hid hL5
  have HA5:=Lib.hid hA5
  have q2:=hL5.cel.cell (i:=2) rfl
  clear hm ht hk hsz hWV hL5 hA5 HL HA hrun
  go_wp2_with (at_builtin;refine wpList_append_own_at _ rfl _ _ 87 rfl 0 97 i0 (.agg #[.int .i64 0,.int .i64 0]) 2 16 Tryz.underlying87 hi hz0 hz1 hz2 rfl (by decide) _ _ _ rfl (st_keep HL5.out.re ((Below.refl _ w5).alloc (Nat.le_refl _) _)) ⟨w5.heap.size,0,none⟩ 1 1 [.int .i64 txn,.int .i64 ts] rfl rfl (new_row (heap_alloc_new _ _)) ?d2a ?d3a ?d4a (Nat.zero_le _) ?_)
  case d2a=>intro u hu;simp at hu;rcases hu with rfl | rfl <;> rfl
  case d3a=>unfold maxLen;omega
  case d4a=>omega
  intro v' w6 hown hgrow _ hat
  clear q2 s1 l5
  obtain ⟨ne,hne⟩:∃ ne,s.e.length + 1 = ne:=⟨_,rfl⟩
  rw [hne] at hown
  have hcells:s.e.flatMap ecs ++ [.int .i64 txn,.int .i64 ts] = (s.e ++ [(txn,ts)]).flatMap ecs:=by rw [List.flatMap_append];rfl
  rw [hcells] at hown
  have hel1:(s.e ++ [(txn,ts)]).length = ne:=by rw [List.length_append];exact hne
  have hall:Below w5.heap.size w5 (w5.alloc (.cells #[.int .i64 txn,.int .i64 ts] 97)):=(Below.refl _ w5).alloc (Nat.le_refl _) _
  have hsa:(w5.alloc (.cells #[.int .i64 txn,.int .i64 ts] 97)).heap.size = w5.heap.size + 1:=by simp
  have hgo:v.ownBlock ≠ some g:=own_cel_ne HL5.out.re HL5.out.cel (by decide)
  have hc6:Cel w6 g 89 [.map (some bc),.map (some bp),v,.int .i64 s.over]:=(hgrow.block g (by rw [hsa];have:=HL5.out.cel.lt;omega) (fun e=>hgo e.symm)).trans (HL5.out.cel.below hall)
  have hgo':v'.ownBlock ≠ some g:=own_cel_ne hown hc6 (by decide)
  have hs6:w5.heap.size + 1 ≤ w6.heap.size:=by rw [← hsa];exact hgrow.size
  have hL7:LAt (w6.setCell ⟨g,2,none⟩ v') (Gr F W (w6.setCell ⟨g,2,none⟩ v')) g bc bp v' K1 (outRI P txn) ⟨k1,outP s.p txn,s.e ++ [(txn,ts)],s.over⟩:=by
   refine LAt.setE HL5.out (by simp [World.setCell];omega) (fun k hlt hkg hko=>?_) hc6.set (by rw [hel1];exact ownsRow_setCell_other hown hgo' _) (fun e=>by simp at e) (fun X hX=>?_) (gr_mono (by simp [World.setCell];omega)) (fun X hX=>?_) (gr_lt HF.out (by have:=HA5.out.size;simp [World.setCell];omega))
   ·rw [Below.heap_setCell w6 ⟨g,2,none⟩ v' k hkg,hgrow.block k (by rw [hsa];omega) (fun e=>hko e.symm),hall.block k hlt]
   ·rcases hat with h1 | h1
    ·exact .inl (by rw [← h1];exact hX)
    ·rw [h1] at hX
     obtain rfl:=Option.some.inj hX
     exact .inr (by first | omega | (rw [hsa];omega))
   ·have hXl:=(hown.lt X hX).2
    rcases hat with h1 | h1
    ·exact gr_mono (by simp [World.setCell];omega) _ (HL5.out.fm X (.inr (.inr (.inr (by rw [← h1];exact hX)))))
    ·refine .inr ⟨?_,by simpa [World.setCell] using hXl⟩
     rw [h1] at hX
     obtain rfl:=Option.some.inj hX
     have:=HA5.out.size
     first | omega | (rw [hsa];omega)
  have hA7:Far F W (w6.setCell ⟨g,2,none⟩ v'):=⟨⟨by have:=HA5.out.size;simp [World.setCell];omega,fun k hlt hn=>by
   have h5:=HA5.out.size
   have hkg:k ≠ g:=fun e=>by
    have:=HL5.out.fm g (.inl rfl)
    rw [← e] at this
    exact this.elim hn (fun h=>by omega)
   have hko:v.ownBlock ≠ some k:=fun e=>by
    have:=HL5.out.fm k (.inr (.inr (.inr e)))
    exact this.elim hn (fun h=>by omega)
   rw [Below.heap_setCell w6 ⟨g,2,none⟩ v' k hkg,hgrow.block k (by rw [hsa];omega) (fun e=>hko e.symm),hall.block k (by omega)]
   exact HA5.out.block k hlt hn⟩,HA5.out.st.trans ((st_below hall).trans ((st_grown hgrow).trans (st_set _ _ _)))⟩
  obtain ⟨gn,capn,rfl,_,_⟩:=World.ownsRow.form hown (by omega)
  have q2:=hc6.cell (i:=2) rfl
  have f2:=hc6.free (i:=2)
  have HL7:=Lib.hid hL7
  have HA7:=Lib.hid hA7
  have HNe:=Lib.hid hne
  have HEl1:=Lib.hid hel1
  have hned:(ne:Int) ≤ 1025:=by omega
  clear hown hgrow hat hcells hall hsa hgo hc6 hgo' hs6 hL7 hA7 hel1 hne HL5 HA5
  go_upto_region 12 with fail
  clear q2 f2
  generalize w6.setCell ⟨g,2,none⟩ (.slice (some ⟨gn,0,none⟩) ne capn) = W7 at HL7 HA7 ⊢
  have q2:=HL7.out.cel.cell (i:=2) rfl
  have f2:=HL7.out.cel.free (i:=2)
  by_cases hfull:1024 < ne
  ·have E2:=Lib.hid (show doP s txn ts = (⟨k1,outP s.p txn,(s.e ++ [(txn,ts)]).drop 1,s.over⟩,0) by
    rw [E.out]
    unfold endP capE
    rw [if_pos (by rw [HEl1.out];exact hfull)])
   have pf:(1024:Int) < (ne:Int):=by omega
   have hre:=HL7.out.re
   rw [HEl1.out] at hre
   have hDel:Calls Tryz.prog 95 #[.slice (some ⟨gn,0,none⟩) ne capn,.int .i64 0,.int .i64 1] W7 fun e w'=>e = .returned (.slice (some ⟨gn,0,none⟩) (ne - 1) capn) ∧ w'.ownsRow 0 97 2 (.slice (some ⟨gn,0,none⟩) (ne - 1) capn) (ne - 1) (((s.e ++ [(txn,ts)]).flatMap ecs).drop 2) ∧ (∀ k,k < W7.heap.size → k ≠ gn → w'.heap[k]? = W7.heap[k]?) ∧ W7.heap.size ≤ w'.heap.size ∧ St W7 w':=by
    rcases hre.2 with ⟨e1,_⟩ | ⟨i,cap,cur,e1,_,hg1,hc1,hc2,hc3,hc4⟩
    ·simp at e1
    ·simp only [Value.slice.injEq,Option.some.injEq,Addr.mk.injEq] at e1
     obtain ⟨⟨rfl,-,-⟩,-,rfl⟩:=e1
     exact ldel_any W7 gn capn (ne - 1) ne _ cur hg1 hc3 (by omega) hc1 hc2 hc4 (by omega) (fun u hu=>by
      obtain ⟨x,_,hx⟩:=List.mem_flatMap.1 hu
      unfold ecs at hx
      simp at hx
      rcases hx with rfl | rfl <;> rfl)
   have HDel:=Lib.hid hDel
   have hgg:gn ≠ g:=fun e=>own_cel_ne hre HL7.out.cel (by decide) (by rw [← e];rfl)
   have HGg:=Lib.hid hgg
   obtain ⟨n1,hn1⟩:∃ n1,ne - 1 = n1:=⟨_,rfl⟩
   rw [hn1] at HDel
   have HN1:=Lib.hid hn1
   clear hre hDel hgg hfull hn1
   go_wp2_with fail
   refine HDel.out.mono ?_
   rintro e8 w8 ⟨rfl,hrow8,hk8,hs8,hst8⟩
   have hc8:Cel w8 g 89 [.map (some bc),.map (some bp),.slice (some ⟨gn,0,none⟩) ne capn,.int .i64 s.over]:=(hk8 g HL7.out.cel.lt (fun e=>HGg.out e.symm)).trans HL7.out.cel
   have hgo8:(Value.slice (some ⟨gn,0,none⟩) n1 capn).ownBlock ≠ some g:=own_cel_ne hrow8 hc8 (by decide)
   have hdl:((s.e ++ [(txn,ts)]).drop 1).length = n1:=by rw [List.length_drop,HEl1.out];exact HN1.out
   have hdc:((s.e ++ [(txn,ts)]).flatMap ecs).drop 2 = ((s.e ++ [(txn,ts)]).drop 1).flatMap ecs:=flatN_drop ecs_len _ 1
   rw [hdc] at hrow8
   have hgnF:=HL7.out.fm gn (.inr (.inr (.inr rfl)))
   have hL9:LAt (w8.setCell ⟨g,2,none⟩ (.slice (some ⟨gn,0,none⟩) n1 capn)) (Gr F W (w8.setCell ⟨g,2,none⟩ (.slice (some ⟨gn,0,none⟩) n1 capn))) g bc bp (.slice (some ⟨gn,0,none⟩) n1 capn) K1 (outRI P txn) ⟨k1,outP s.p txn,(s.e ++ [(txn,ts)]).drop 1,s.over⟩:=by
    refine LAt.setE HL7.out (by simp [World.setCell];omega) (fun k hlt hkg hko=>?_) hc8.set (by rw [hdl];exact ownsRow_setCell_other hrow8 hgo8 _) (fun e=>by
     rw [e] at hdl
     have h1:=HN1.out
     simp at hdl
     omega) (fun X hX=>.inl hX) (gr_mono (by simp [World.setCell];omega)) (fun X hX=>?_) (gr_lt HF.out (by have:=HA7.out.size;simp [World.setCell];omega))
    ·rw [Below.heap_setCell w8 ⟨g,2,none⟩ _ k hkg,hk8 k hlt (fun e=>hko (by rw [e];rfl))]
    ·have:X = gn:=by simpa [Value.ownBlock] using hX.symm
     rw [this]
     exact gr_mono (by simp [World.setCell];omega) _ hgnF
   have hA9:Far F W (w8.setCell ⟨g,2,none⟩ (.slice (some ⟨gn,0,none⟩) n1 capn)):=⟨⟨by have:=HA7.out.size;simp [World.setCell];omega,fun k hlt hn=>by
    have h7:=HA7.out.size
    have hkg:k ≠ g:=fun e=>by
     have:=HL7.out.fm g (.inl rfl)
     rw [← e] at this
     exact this.elim hn (fun h=>by omega)
    have hko:k ≠ gn:=fun e=>by
     have:=hgnF
     rw [← e] at this
     exact this.elim hn (fun h=>by omega)
    rw [Below.heap_setCell w8 ⟨g,2,none⟩ _ k hkg,hk8 k (by omega) hko]
    exact HA7.out.block k hlt hn⟩,HA7.out.st.trans (hst8.trans (st_set _ _ _))⟩
   have HL9:=Lib.hid (show LRep _ _ g _ from ⟨_,_,_,_,_,hL9⟩)
   have HA9:=Lib.hid hA9
   clear q2 f2
   have q2:=hc8.cell (i:=2) rfl
   have f2:=hc8.free (i:=2)
   clear hL9 hA9 hgnF hdc hdl hgo8 hc8 hrow8 hk8 hs8 hst8
   go_wp2_with fail
   go_ret
   exact ⟨(by rw [E2.out];first | done | rfl),by rw [E2.out];exact HL9.out,HA9.out⟩
  ·have E2:=Lib.hid (show doP s txn ts = (⟨k1,outP s.p txn,s.e ++ [(txn,ts)],s.over⟩,0) by
    rw [E.out]
    unfold endP capE
    rw [if_neg (by rw [HEl1.out];exact hfull)])
   have pf:¬ (1024:Int) < (ne:Int):=by omega
   have HL9:=Lib.hid (show LRep W7 (Gr F W W7) g _ from ⟨_,_,_,_,_,HL7.out⟩)
   clear hfull f2
   go_wp2_with fail
   go_ret
   exact ⟨(by rw [E2.out];first | done | rfl),by rw [E2.out];exact HL9.out,HA7.out⟩
 ·obtain ⟨rfl,rfl⟩:=Prod.mk.inj h1
  by_cases h0:ts = 0
  ·subst h0
   have E:=Lib.hid (show doP s txn 0 = (endP ⟨s.k,s.p,s.e,s.over⟩ txn 0,0) by rw [HD.out,if_neg (by omega),hpr];simp)
   obtain ⟨k1,hk1⟩:∃ k1,s.k = k1:=⟨_,rfl⟩
   obtain ⟨K1,hK1⟩:∃ K1,K = K1:=⟨_,rfl⟩
   rw [hk1] at E HL0
   rw [hK1] at HL0
   have HL:=HL0
   have HA:=HA0
   clear HCs HD HOld HRun hpr hk1 hK1 HL0 HA0 HH HB1 h1
   have s1:=HL.out.cel.cell (i:=1) rfl
   obtain ⟨w5,hrun,hm,ht⟩:=HL.out.mp.drop Tryz.underlying86 (x:=txn) (intQ_ok HTx.out.1 HTx.out.2) 0
   have l5:(Builtin.delete_ #[86,3] 0 #[.map (some bp),.int .i64 txn]).run Tryz.prog w1 = .ok (.tuple #[]) w5:=hrun
   rw [← outRI_pp] at hm
   have hk:∀ k,k ≠ bp → w5.heap[k]? = w1.heap[k]?:=fun k hk=>turned_other ht hk
   have hsz:w1.heap.size ≤ w5.heap.size:=by rw [turned_size ht];exact Nat.le_refl _
   have hWV:=HA.out.size
   have hL5:LAt w5 (Gr F W w5) g bc bp v K1 (outRI P txn) ⟨k1,outP s.p txn,s.e,s.over⟩ :=
    LAt.setP HL.out hk hsz hm (fun x hx=>HL.out.pv x (outRI_mem hx)) (by rw [outRI_map,HL.out.ep,out_filter HPr.out]) (gr_mono hsz) (fun x hx=>⟨fun hp ad e=>gr_mono hsz _ ((HL.out.fp x (outRI_mem hx)).1 hp ad e),fun hp ad e=>gr_mono hsz _ ((HL.out.fp x (outRI_mem hx)).2 hp ad e)⟩) (gr_lt HF.out (Nat.le_trans hWV hsz))
   have hA5:Far F W w5:=⟨⟨Nat.le_trans hWV hsz,fun k hlt hn=>(hk k (fun e=>by
    have:=HL.out.fm bp (.inr (.inr (.inl rfl)))
    rw [← e] at this
    exact this.elim hn (fun h=>by omega))).trans (HA.out.block k hlt hn)⟩,HA.out.st.trans (st_turned ht)⟩
   have HL5:=Lib.hid hL5
   have HA5:=Lib.hid hA5
   have q2:=hL5.cel.cell (i:=2) rfl
   clear hm ht hk hsz hWV hL5 hA5 HL HA hrun
   go_wp2_with (at_builtin;refine wpList_append_own_at _ rfl _ _ 87 rfl 0 97 i0 (.agg #[.int .i64 0,.int .i64 0]) 2 16 Tryz.underlying87 hi hz0 hz1 hz2 rfl (by decide) _ _ _ rfl (st_keep HL5.out.re ((Below.refl _ w5).alloc (Nat.le_refl _) _)) ⟨w5.heap.size,0,none⟩ 1 1 [.int .i64 txn,.int .i64 0] rfl rfl (new_row (heap_alloc_new _ _)) ?d2b ?d3b ?d4b (Nat.zero_le _) ?_)
   case d2b=>intro u hu;simp at hu;rcases hu with rfl | rfl <;> rfl
   case d3b=>unfold maxLen;omega
   case d4b=>omega
   intro v' w6 hown hgrow _ hat
   clear q2 s1 l5
   obtain ⟨ne,hne⟩:∃ ne,s.e.length + 1 = ne:=⟨_,rfl⟩
   rw [hne] at hown
   have hcells:s.e.flatMap ecs ++ [.int .i64 txn,.int .i64 0] = (s.e ++ [(txn,0)]).flatMap ecs:=by rw [List.flatMap_append];rfl
   rw [hcells] at hown
   have hel1:(s.e ++ [(txn,0)]).length = ne:=by rw [List.length_append];exact hne
   have hall:Below w5.heap.size w5 (w5.alloc (.cells #[.int .i64 txn,.int .i64 0] 97)):=(Below.refl _ w5).alloc (Nat.le_refl _) _
   have hsa:(w5.alloc (.cells #[.int .i64 txn,.int .i64 0] 97)).heap.size = w5.heap.size + 1:=by simp
   have hgo:v.ownBlock ≠ some g:=own_cel_ne HL5.out.re HL5.out.cel (by decide)
   have hc6:Cel w6 g 89 [.map (some bc),.map (some bp),v,.int .i64 s.over]:=(hgrow.block g (by rw [hsa];have:=HL5.out.cel.lt;omega) (fun e=>hgo e.symm)).trans (HL5.out.cel.below hall)
   have hgo':v'.ownBlock ≠ some g:=own_cel_ne hown hc6 (by decide)
   have hs6:w5.heap.size + 1 ≤ w6.heap.size:=by rw [← hsa];exact hgrow.size
   have hL7:LAt (w6.setCell ⟨g,2,none⟩ v') (Gr F W (w6.setCell ⟨g,2,none⟩ v')) g bc bp v' K1 (outRI P txn) ⟨k1,outP s.p txn,s.e ++ [(txn,0)],s.over⟩:=by
    refine LAt.setE HL5.out (by simp [World.setCell];omega) (fun k hlt hkg hko=>?_) hc6.set (by rw [hel1];exact ownsRow_setCell_other hown hgo' _) (fun e=>by simp at e) (fun X hX=>?_) (gr_mono (by simp [World.setCell];omega)) (fun X hX=>?_) (gr_lt HF.out (by have:=HA5.out.size;simp [World.setCell];omega))
    ·rw [Below.heap_setCell w6 ⟨g,2,none⟩ v' k hkg,hgrow.block k (by rw [hsa];omega) (fun e=>hko e.symm),hall.block k hlt]
    ·rcases hat with h1 | h1
     ·exact .inl (by rw [← h1];exact hX)
     ·rw [h1] at hX
      obtain rfl:=Option.some.inj hX
      exact .inr (by first | omega | (rw [hsa];omega))
    ·have hXl:=(hown.lt X hX).2
     rcases hat with h1 | h1
     ·exact gr_mono (by simp [World.setCell];omega) _ (HL5.out.fm X (.inr (.inr (.inr (by rw [← h1];exact hX)))))
     ·refine .inr ⟨?_,by simpa [World.setCell] using hXl⟩
      rw [h1] at hX
      obtain rfl:=Option.some.inj hX
      have:=HA5.out.size
      first | omega | (rw [hsa];omega)
   have hA7:Far F W (w6.setCell ⟨g,2,none⟩ v'):=⟨⟨by have:=HA5.out.size;simp [World.setCell];omega,fun k hlt hn=>by
    have h5:=HA5.out.size
    have hkg:k ≠ g:=fun e=>by
     have:=HL5.out.fm g (.inl rfl)
     rw [← e] at this
     exact this.elim hn (fun h=>by omega)
    have hko:v.ownBlock ≠ some k:=fun e=>by
     have:=HL5.out.fm k (.inr (.inr (.inr e)))
     exact this.elim hn (fun h=>by omega)
    rw [Below.heap_setCell w6 ⟨g,2,none⟩ v' k hkg,hgrow.block k (by rw [hsa];omega) (fun e=>hko e.symm),hall.block k (by omega)]
    exact HA5.out.block k hlt hn⟩,HA5.out.st.trans ((st_below hall).trans ((st_grown hgrow).trans (st_set _ _ _)))⟩
   obtain ⟨gn,capn,rfl,_,_⟩:=World.ownsRow.form hown (by omega)
   have q2:=hc6.cell (i:=2) rfl
   have f2:=hc6.free (i:=2)
   have HL7:=Lib.hid hL7
   have HA7:=Lib.hid hA7
   have HNe:=Lib.hid hne
   have HEl1:=Lib.hid hel1
   have hned:(ne:Int) ≤ 1025:=by omega
   clear hown hgrow hat hcells hall hsa hgo hc6 hgo' hs6 hL7 hA7 hel1 hne HL5 HA5
   go_upto_region 12 with fail
   clear q2 f2
   generalize w6.setCell ⟨g,2,none⟩ (.slice (some ⟨gn,0,none⟩) ne capn) = W7 at HL7 HA7 ⊢
   have q2:=HL7.out.cel.cell (i:=2) rfl
   have f2:=HL7.out.cel.free (i:=2)
   by_cases hfull:1024 < ne
   ·have E2:=Lib.hid (show doP s txn 0 = (⟨k1,outP s.p txn,(s.e ++ [(txn,0)]).drop 1,s.over⟩,0) by
     rw [E.out]
     unfold endP capE
     rw [if_pos (by rw [HEl1.out];exact hfull)])
    have pf:(1024:Int) < (ne:Int):=by omega
    have hre:=HL7.out.re
    rw [HEl1.out] at hre
    have hDel:Calls Tryz.prog 95 #[.slice (some ⟨gn,0,none⟩) ne capn,.int .i64 0,.int .i64 1] W7 fun e w'=>e = .returned (.slice (some ⟨gn,0,none⟩) (ne - 1) capn) ∧ w'.ownsRow 0 97 2 (.slice (some ⟨gn,0,none⟩) (ne - 1) capn) (ne - 1) (((s.e ++ [(txn,0)]).flatMap ecs).drop 2) ∧ (∀ k,k < W7.heap.size → k ≠ gn → w'.heap[k]? = W7.heap[k]?) ∧ W7.heap.size ≤ w'.heap.size ∧ St W7 w':=by
     rcases hre.2 with ⟨e1,_⟩ | ⟨i,cap,cur,e1,_,hg1,hc1,hc2,hc3,hc4⟩
     ·simp at e1
     ·simp only [Value.slice.injEq,Option.some.injEq,Addr.mk.injEq] at e1
      obtain ⟨⟨rfl,-,-⟩,-,rfl⟩:=e1
      exact ldel_any W7 gn capn (ne - 1) ne _ cur hg1 hc3 (by omega) hc1 hc2 hc4 (by omega) (fun u hu=>by
       obtain ⟨x,_,hx⟩:=List.mem_flatMap.1 hu
       unfold ecs at hx
       simp at hx
       rcases hx with rfl | rfl <;> rfl)
    have HDel:=Lib.hid hDel
    have hgg:gn ≠ g:=fun e=>own_cel_ne hre HL7.out.cel (by decide) (by rw [← e];rfl)
    have HGg:=Lib.hid hgg
    obtain ⟨n1,hn1⟩:∃ n1,ne - 1 = n1:=⟨_,rfl⟩
    rw [hn1] at HDel
    have HN1:=Lib.hid hn1
    clear hre hDel hgg hfull hn1
    go_wp2_with fail
    refine HDel.out.mono ?_
    rintro e8 w8 ⟨rfl,hrow8,hk8,hs8,hst8⟩
    have hc8:Cel w8 g 89 [.map (some bc),.map (some bp),.slice (some ⟨gn,0,none⟩) ne capn,.int .i64 s.over]:=(hk8 g HL7.out.cel.lt (fun e=>HGg.out e.symm)).trans HL7.out.cel
    have hgo8:(Value.slice (some ⟨gn,0,none⟩) n1 capn).ownBlock ≠ some g:=own_cel_ne hrow8 hc8 (by decide)
    have hdl:((s.e ++ [(txn,0)]).drop 1).length = n1:=by rw [List.length_drop,HEl1.out];exact HN1.out
    have hdc:((s.e ++ [(txn,0)]).flatMap ecs).drop 2 = ((s.e ++ [(txn,0)]).drop 1).flatMap ecs:=flatN_drop ecs_len _ 1
    rw [hdc] at hrow8
    have hgnF:=HL7.out.fm gn (.inr (.inr (.inr rfl)))
    have hL9:LAt (w8.setCell ⟨g,2,none⟩ (.slice (some ⟨gn,0,none⟩) n1 capn)) (Gr F W (w8.setCell ⟨g,2,none⟩ (.slice (some ⟨gn,0,none⟩) n1 capn))) g bc bp (.slice (some ⟨gn,0,none⟩) n1 capn) K1 (outRI P txn) ⟨k1,outP s.p txn,(s.e ++ [(txn,0)]).drop 1,s.over⟩:=by
     refine LAt.setE HL7.out (by simp [World.setCell];omega) (fun k hlt hkg hko=>?_) hc8.set (by rw [hdl];exact ownsRow_setCell_other hrow8 hgo8 _) (fun e=>by
      rw [e] at hdl
      have h1:=HN1.out
      simp at hdl
      omega) (fun X hX=>.inl hX) (gr_mono (by simp [World.setCell];omega)) (fun X hX=>?_) (gr_lt HF.out (by have:=HA7.out.size;simp [World.setCell];omega))
     ·rw [Below.heap_setCell w8 ⟨g,2,none⟩ _ k hkg,hk8 k hlt (fun e=>hko (by rw [e];rfl))]
     ·have:X = gn:=by simpa [Value.ownBlock] using hX.symm
      rw [this]
      exact gr_mono (by simp [World.setCell];omega) _ hgnF
    have hA9:Far F W (w8.setCell ⟨g,2,none⟩ (.slice (some ⟨gn,0,none⟩) n1 capn)):=⟨⟨by have:=HA7.out.size;simp [World.setCell];omega,fun k hlt hn=>by
     have h7:=HA7.out.size
     have hkg:k ≠ g:=fun e=>by
      have:=HL7.out.fm g (.inl rfl)
      rw [← e] at this
      exact this.elim hn (fun h=>by omega)
     have hko:k ≠ gn:=fun e=>by
      have:=hgnF
      rw [← e] at this
      exact this.elim hn (fun h=>by omega)
     rw [Below.heap_setCell w8 ⟨g,2,none⟩ _ k hkg,hk8 k (by omega) hko]
     exact HA7.out.block k hlt hn⟩,HA7.out.st.trans (hst8.trans (st_set _ _ _))⟩
    have HL9:=Lib.hid (show LRep _ _ g _ from ⟨_,_,_,_,_,hL9⟩)
    have HA9:=Lib.hid hA9
    clear q2 f2
    have q2:=hc8.cell (i:=2) rfl
    have f2:=hc8.free (i:=2)
    clear hL9 hA9 hgnF hdc hdl hgo8 hc8 hrow8 hk8 hs8 hst8
    go_wp2_with fail
    go_ret
    exact ⟨(by rw [E2.out];first | done | rfl),by rw [E2.out];exact HL9.out,HA9.out⟩
   ·have E2:=Lib.hid (show doP s txn 0 = (⟨k1,outP s.p txn,s.e ++ [(txn,0)],s.over⟩,0) by
     rw [E.out]
     unfold endP capE
     rw [if_neg (by rw [HEl1.out];exact hfull)])
    have pf:¬ (1024:Int) < (ne:Int):=by omega
    have HL9:=Lib.hid (show LRep W7 (Gr F W W7) g _ from ⟨_,_,_,_,_,HL7.out⟩)
    clear hfull f2
    go_wp2_with fail
    go_ret
    exact ⟨(by rw [E2.out];first | done | rfl),by rw [E2.out];exact HL9.out,HA7.out⟩
  ·obtain ⟨h1ts,h2ts⟩:=HTs.out h0
   have hD:=HD.out
   rw [if_neg (by omega),hpr] at hD
   simp only at hD
   rw [if_pos (show 0 < ts by omega)] at hD
   have hL1:=HH.out _ HB1.out
   obtain ⟨x,hx,hxr,hmem⟩:=hL1.prep_in hpr
   have hrk:=HS.out.po r (prep_mem hpr).1
   have hpw:=prep_writes hrk.1 hrk.2
   have hmw:MayW ts r.ws:=⟨⟨h1ts,h2ts⟩,hpw.1,hpw.2⟩
   have hwl:r.ws.length ≤ 1024:=(ups_of hrk.1 hrk.2).wl
   subst hxr
   have hlk:=hL1.mp.look Tryz.underlying86 (Tryz.zeroRec w1) (x:=txn) hmem
   have HRn:=Lib.hid (HRun.out _ HB1.out x hmw hx hwl)
   have s1:=hL1.cel.cell (i:=1) rfl
   have HD2:=Lib.hid hD
   obtain ⟨r,A,B,c,d⟩:=x
   simp only at hlk HRn HD2
   have l0:(Instr.lookup 86 (.map (some bp)) (.int .i64 txn) false).run Tryz.prog w1 = .ok (.agg #[.int .i64 r.kind,.int .i64 r.txn,.int .i64 r.ts,.int .i64 r.coord,.string r.key,.string r.text,.bool r.dead,.slice A r.keys.length c,.slice B r.ws.length d]) w1:=hlk
   have fl:=field8 r A B c d w1
   have pts:¬ ts = 0:=h0
   clear hL1 hx hmem hrk hpw hmw hwl hlk hD HD HCs HL0 HA0 h1 hpr
   go_wp2_with fail
   refine HRn.out.mono ?_
   rintro e2 w2 ⟨rfl,⟨K1,hL2⟩,hA2⟩
   have hA2':Far F W w2:=(Far.of (F:=F) HB1.out).trans hA2
   have hL2':LAt w2 (Gr F W w2) g bc bp v K1 P (writeP s ts r.ws).1:=hL2.more (fun k hk=>hk.elim .inl (fun h=>.inr ⟨Nat.le_trans HB1.out.size h.1,h.2⟩)) (gr_lt HF.out hA2'.size)
   have HWo:=Lib.hid (show (writeP s ts r.ws).2 = 0 → ∃ k,(writeP s ts r.ws).1 = ⟨k,s.p,s.e,s.over⟩ from write_ok)
   have HWe:=Lib.hid (show (writeP s ts r.ws).2 ≠ 0 → (writeP s ts r.ws).1 = s from write_err)
   generalize writeP s ts r.ws = wp at hL2' HD2 HWo HWe
   obtain ⟨wp1,wp2⟩:=wp
   simp only at hL2' HD2 HWo HWe
   have HL2:=Lib.hid hL2'
   have HA:=Lib.hid hA2'
   clear hL2 hA2 hA2' hL2' HRn HRun s1 l0 fl
   by_cases hw0:wp2 = 0
   ·subst hw0
    obtain ⟨k1,hk1⟩:=HWo.out rfl
    subst hk1
    have E:=Lib.hid (show doP s txn ts = (endP ⟨k1,s.p,s.e,s.over⟩ txn ts,0) by rw [HD2.out,if_neg (by simp)])
    have HL:=HL2
    clear HD2 HOld HWo HWe HL2 HH HB1
    have s1:=HL.out.cel.cell (i:=1) rfl
    obtain ⟨w5,hrun,hm,ht⟩:=HL.out.mp.drop Tryz.underlying86 (x:=txn) (intQ_ok HTx.out.1 HTx.out.2) 0
    have l5:(Builtin.delete_ #[86,3] 0 #[.map (some bp),.int .i64 txn]).run Tryz.prog w2 = .ok (.tuple #[]) w5:=hrun
    rw [← outRI_pp] at hm
    have hk:∀ k,k ≠ bp → w5.heap[k]? = w2.heap[k]?:=fun k hk=>turned_other ht hk
    have hsz:w2.heap.size ≤ w5.heap.size:=by rw [turned_size ht];exact Nat.le_refl _
    have hWV:=HA.out.size
    have hL5:LAt w5 (Gr F W w5) g bc bp v K1 (outRI P txn) ⟨k1,outP s.p txn,s.e,s.over⟩ :=
     LAt.setP HL.out hk hsz hm (fun x hx=>HL.out.pv x (outRI_mem hx)) (by rw [outRI_map,HL.out.ep,out_filter HPr.out]) (gr_mono hsz) (fun x hx=>⟨fun hp ad e=>gr_mono hsz _ ((HL.out.fp x (outRI_mem hx)).1 hp ad e),fun hp ad e=>gr_mono hsz _ ((HL.out.fp x (outRI_mem hx)).2 hp ad e)⟩) (gr_lt HF.out (Nat.le_trans hWV hsz))
    have hA5:Far F W w5:=⟨⟨Nat.le_trans hWV hsz,fun k hlt hn=>(hk k (fun e=>by
     have:=HL.out.fm bp (.inr (.inr (.inl rfl)))
     rw [← e] at this
     exact this.elim hn (fun h=>by omega))).trans (HA.out.block k hlt hn)⟩,HA.out.st.trans (st_turned ht)⟩
    have HL5:=Lib.hid hL5
    have HA5:=Lib.hid hA5
    have q2:=hL5.cel.cell (i:=2) rfl
    clear hm ht hk hsz hWV hL5 hA5 HL HA hrun
    go_wp2_with (at_builtin;refine wpList_append_own_at _ rfl _ _ 87 rfl 0 97 i0 (.agg #[.int .i64 0,.int .i64 0]) 2 16 Tryz.underlying87 hi hz0 hz1 hz2 rfl (by decide) _ _ _ rfl (st_keep HL5.out.re ((Below.refl _ w5).alloc (Nat.le_refl _) _)) ⟨w5.heap.size,0,none⟩ 1 1 [.int .i64 txn,.int .i64 ts] rfl rfl (new_row (heap_alloc_new _ _)) ?d2c ?d3c ?d4c (Nat.zero_le _) ?_)
    case d2c=>intro u hu;simp at hu;rcases hu with rfl | rfl <;> rfl
    case d3c=>unfold maxLen;omega
    case d4c=>omega
    intro v' w6 hown hgrow _ hat
    clear q2 s1 l5
    obtain ⟨ne,hne⟩:∃ ne,s.e.length + 1 = ne:=⟨_,rfl⟩
    rw [hne] at hown
    have hcells:s.e.flatMap ecs ++ [.int .i64 txn,.int .i64 ts] = (s.e ++ [(txn,ts)]).flatMap ecs:=by rw [List.flatMap_append];rfl
    rw [hcells] at hown
    have hel1:(s.e ++ [(txn,ts)]).length = ne:=by rw [List.length_append];exact hne
    have hall:Below w5.heap.size w5 (w5.alloc (.cells #[.int .i64 txn,.int .i64 ts] 97)):=(Below.refl _ w5).alloc (Nat.le_refl _) _
    have hsa:(w5.alloc (.cells #[.int .i64 txn,.int .i64 ts] 97)).heap.size = w5.heap.size + 1:=by simp
    have hgo:v.ownBlock ≠ some g:=own_cel_ne HL5.out.re HL5.out.cel (by decide)
    have hc6:Cel w6 g 89 [.map (some bc),.map (some bp),v,.int .i64 s.over]:=(hgrow.block g (by rw [hsa];have:=HL5.out.cel.lt;omega) (fun e=>hgo e.symm)).trans (HL5.out.cel.below hall)
    have hgo':v'.ownBlock ≠ some g:=own_cel_ne hown hc6 (by decide)
    have hs6:w5.heap.size + 1 ≤ w6.heap.size:=by rw [← hsa];exact hgrow.size
    have hL7:LAt (w6.setCell ⟨g,2,none⟩ v') (Gr F W (w6.setCell ⟨g,2,none⟩ v')) g bc bp v' K1 (outRI P txn) ⟨k1,outP s.p txn,s.e ++ [(txn,ts)],s.over⟩:=by
     refine LAt.setE HL5.out (by simp [World.setCell];omega) (fun k hlt hkg hko=>?_) hc6.set (by rw [hel1];exact ownsRow_setCell_other hown hgo' _) (fun e=>by simp at e) (fun X hX=>?_) (gr_mono (by simp [World.setCell];omega)) (fun X hX=>?_) (gr_lt HF.out (by have:=HA5.out.size;simp [World.setCell];omega))
     ·rw [Below.heap_setCell w6 ⟨g,2,none⟩ v' k hkg,hgrow.block k (by rw [hsa];omega) (fun e=>hko e.symm),hall.block k hlt]
     ·rcases hat with h1 | h1
      ·exact .inl (by rw [← h1];exact hX)
      ·rw [h1] at hX
       obtain rfl:=Option.some.inj hX
       exact .inr (by first | omega | (rw [hsa];omega))
     ·have hXl:=(hown.lt X hX).2
      rcases hat with h1 | h1
      ·exact gr_mono (by simp [World.setCell];omega) _ (HL5.out.fm X (.inr (.inr (.inr (by rw [← h1];exact hX)))))
      ·refine .inr ⟨?_,by simpa [World.setCell] using hXl⟩
       rw [h1] at hX
       obtain rfl:=Option.some.inj hX
       have:=HA5.out.size
       first | omega | (rw [hsa];omega)
    have hA7:Far F W (w6.setCell ⟨g,2,none⟩ v'):=⟨⟨by have:=HA5.out.size;simp [World.setCell];omega,fun k hlt hn=>by
     have h5:=HA5.out.size
     have hkg:k ≠ g:=fun e=>by
      have:=HL5.out.fm g (.inl rfl)
      rw [← e] at this
      exact this.elim hn (fun h=>by omega)
     have hko:v.ownBlock ≠ some k:=fun e=>by
      have:=HL5.out.fm k (.inr (.inr (.inr e)))
      exact this.elim hn (fun h=>by omega)
     rw [Below.heap_setCell w6 ⟨g,2,none⟩ v' k hkg,hgrow.block k (by rw [hsa];omega) (fun e=>hko e.symm),hall.block k (by omega)]
     exact HA5.out.block k hlt hn⟩,HA5.out.st.trans ((st_below hall).trans ((st_grown hgrow).trans (st_set _ _ _)))⟩
    obtain ⟨gn,capn,rfl,_,_⟩:=World.ownsRow.form hown (by omega)
    have q2:=hc6.cell (i:=2) rfl
    have f2:=hc6.free (i:=2)
    have HL7:=Lib.hid hL7
    have HA7:=Lib.hid hA7
    have HNe:=Lib.hid hne
    have HEl1:=Lib.hid hel1
    have hned:(ne:Int) ≤ 1025:=by omega
    clear hown hgrow hat hcells hall hsa hgo hc6 hgo' hs6 hL7 hA7 hel1 hne HL5 HA5
    go_upto_region 12 with fail
    clear q2 f2
    generalize w6.setCell ⟨g,2,none⟩ (.slice (some ⟨gn,0,none⟩) ne capn) = W7 at HL7 HA7 ⊢
    have q2:=HL7.out.cel.cell (i:=2) rfl
    have f2:=HL7.out.cel.free (i:=2)
    by_cases hfull:1024 < ne
    ·have E2:=Lib.hid (show doP s txn ts = (⟨k1,outP s.p txn,(s.e ++ [(txn,ts)]).drop 1,s.over⟩,0) by
      rw [E.out]
      unfold endP capE
      rw [if_pos (by rw [HEl1.out];exact hfull)])
     have pf:(1024:Int) < (ne:Int):=by omega
     have hre:=HL7.out.re
     rw [HEl1.out] at hre
     have hDel:Calls Tryz.prog 95 #[.slice (some ⟨gn,0,none⟩) ne capn,.int .i64 0,.int .i64 1] W7 fun e w'=>e = .returned (.slice (some ⟨gn,0,none⟩) (ne - 1) capn) ∧ w'.ownsRow 0 97 2 (.slice (some ⟨gn,0,none⟩) (ne - 1) capn) (ne - 1) (((s.e ++ [(txn,ts)]).flatMap ecs).drop 2) ∧ (∀ k,k < W7.heap.size → k ≠ gn → w'.heap[k]? = W7.heap[k]?) ∧ W7.heap.size ≤ w'.heap.size ∧ St W7 w':=by
      rcases hre.2 with ⟨e1,_⟩ | ⟨i,cap,cur,e1,_,hg1,hc1,hc2,hc3,hc4⟩
      ·simp at e1
      ·simp only [Value.slice.injEq,Option.some.injEq,Addr.mk.injEq] at e1
       obtain ⟨⟨rfl,-,-⟩,-,rfl⟩:=e1
       exact ldel_any W7 gn capn (ne - 1) ne _ cur hg1 hc3 (by omega) hc1 hc2 hc4 (by omega) (fun u hu=>by
        obtain ⟨x,_,hx⟩:=List.mem_flatMap.1 hu
        unfold ecs at hx
        simp at hx
        rcases hx with rfl | rfl <;> rfl)
     have HDel:=Lib.hid hDel
     have hgg:gn ≠ g:=fun e=>own_cel_ne hre HL7.out.cel (by decide) (by rw [← e];rfl)
     have HGg:=Lib.hid hgg
     obtain ⟨n1,hn1⟩:∃ n1,ne - 1 = n1:=⟨_,rfl⟩
     rw [hn1] at HDel
     have HN1:=Lib.hid hn1
     clear hre hDel hgg hfull hn1
     go_wp2_with fail
     refine HDel.out.mono ?_
     rintro e8 w8 ⟨rfl,hrow8,hk8,hs8,hst8⟩
     have hc8:Cel w8 g 89 [.map (some bc),.map (some bp),.slice (some ⟨gn,0,none⟩) ne capn,.int .i64 s.over]:=(hk8 g HL7.out.cel.lt (fun e=>HGg.out e.symm)).trans HL7.out.cel
     have hgo8:(Value.slice (some ⟨gn,0,none⟩) n1 capn).ownBlock ≠ some g:=own_cel_ne hrow8 hc8 (by decide)
     have hdl:((s.e ++ [(txn,ts)]).drop 1).length = n1:=by rw [List.length_drop,HEl1.out];exact HN1.out
     have hdc:((s.e ++ [(txn,ts)]).flatMap ecs).drop 2 = ((s.e ++ [(txn,ts)]).drop 1).flatMap ecs:=flatN_drop ecs_len _ 1
     rw [hdc] at hrow8
     have hgnF:=HL7.out.fm gn (.inr (.inr (.inr rfl)))
     have hL9:LAt (w8.setCell ⟨g,2,none⟩ (.slice (some ⟨gn,0,none⟩) n1 capn)) (Gr F W (w8.setCell ⟨g,2,none⟩ (.slice (some ⟨gn,0,none⟩) n1 capn))) g bc bp (.slice (some ⟨gn,0,none⟩) n1 capn) K1 (outRI P txn) ⟨k1,outP s.p txn,(s.e ++ [(txn,ts)]).drop 1,s.over⟩:=by
      refine LAt.setE HL7.out (by simp [World.setCell];omega) (fun k hlt hkg hko=>?_) hc8.set (by rw [hdl];exact ownsRow_setCell_other hrow8 hgo8 _) (fun e=>by
       rw [e] at hdl
       have h1:=HN1.out
       simp at hdl
       omega) (fun X hX=>.inl hX) (gr_mono (by simp [World.setCell];omega)) (fun X hX=>?_) (gr_lt HF.out (by have:=HA7.out.size;simp [World.setCell];omega))
      ·rw [Below.heap_setCell w8 ⟨g,2,none⟩ _ k hkg,hk8 k hlt (fun e=>hko (by rw [e];rfl))]
      ·have:X = gn:=by simpa [Value.ownBlock] using hX.symm
       rw [this]
       exact gr_mono (by simp [World.setCell];omega) _ hgnF
     have hA9:Far F W (w8.setCell ⟨g,2,none⟩ (.slice (some ⟨gn,0,none⟩) n1 capn)):=⟨⟨by have:=HA7.out.size;simp [World.setCell];omega,fun k hlt hn=>by
      have h7:=HA7.out.size
      have hkg:k ≠ g:=fun e=>by
       have:=HL7.out.fm g (.inl rfl)
       rw [← e] at this
       exact this.elim hn (fun h=>by omega)
      have hko:k ≠ gn:=fun e=>by
       have:=hgnF
       rw [← e] at this
       exact this.elim hn (fun h=>by omega)
      rw [Below.heap_setCell w8 ⟨g,2,none⟩ _ k hkg,hk8 k (by omega) hko]
      exact HA7.out.block k hlt hn⟩,HA7.out.st.trans (hst8.trans (st_set _ _ _))⟩
     have HL9:=Lib.hid (show LRep _ _ g _ from ⟨_,_,_,_,_,hL9⟩)
     have HA9:=Lib.hid hA9
     clear q2 f2
     have q2:=hc8.cell (i:=2) rfl
     have f2:=hc8.free (i:=2)
     clear hL9 hA9 hgnF hdc hdl hgo8 hc8 hrow8 hk8 hs8 hst8
     go_wp2_with fail
     go_ret
     exact ⟨(by rw [E2.out];first | done | rfl),by rw [E2.out];exact HL9.out,HA9.out⟩
    ·have E2:=Lib.hid (show doP s txn ts = (⟨k1,outP s.p txn,s.e ++ [(txn,ts)],s.over⟩,0) by
      rw [E.out]
      unfold endP capE
      rw [if_neg (by rw [HEl1.out];exact hfull)])
     have pf:¬ (1024:Int) < (ne:Int):=by omega
     have HL9:=Lib.hid (show LRep W7 (Gr F W W7) g _ from ⟨_,_,_,_,_,HL7.out⟩)
     clear hfull f2
     go_wp2_with fail
     go_ret
     exact ⟨(by rw [E2.out];first | done | rfl),by rw [E2.out];exact HL9.out,HA7.out⟩
   ·have e1:=HWe.out hw0
    have E:=Lib.hid (show doP s txn ts = (s,wp2) by rw [HD2.out,if_pos hw0])
    have HL3:=Lib.hid (show LRep w2 (Gr F W w2) g s from by rw [← e1];exact ⟨_,_,_,_,_,HL2.out⟩)
    clear HD2 HWo HWe HL2 HOld e1
    go_wp2_with fail
    go_ret
    exact ⟨(by rw [E.out];first | done | rfl),by rw [E.out];exact HL3.out,HA.out⟩
 ·by_cases hq:st2 = ts
  ·have E:=Lib.hid (show doP s txn ts = (s,6) by rw [HD.out,if_pos (by omega),if_pos hq])
   subst hq
   clear HD HCs HRun HL0 HA0
   rcases h23 with rfl | rfl
   ·go_wp2_with fail
    go_ret
    exact ⟨(by rw [E.out];first | done | rfl),HOld.out _ HB1.out _ E.out⟩
   ·go_wp2_with fail
    go_ret
    exact ⟨(by rw [E.out];first | done | rfl),HOld.out _ HB1.out _ E.out⟩
  ·have E:=Lib.hid (show doP s txn ts = (s,120) by rw [HD.out,if_pos (by omega),if_neg hq])
   have hq2:¬ ts = st2:=fun e=>hq e.symm
   clear HD HCs HRun HL0 HA0
   rcases h23 with rfl | rfl
   ·go_wp2_with fail
    go_ret
    exact ⟨(by rw [E.out];first | done | rfl),HOld.out _ HB1.out _ E.out⟩
   ·go_wp2_with fail
    go_ret
    exact ⟨(by rw [E.out];first | done | rfl),HOld.out _ HB1.out _ E.out⟩
end
end Sh
end Go.Proofs.YtbkanoblcojdfaaGreat
