/- Parts of the proof, joined: CkPlays, CkCut; their conditions stand with each. -/
import Derived.Test.YtmidncclndongaaGreatC8
import Derived.Test.YtmidncclndongaaGreatC12
import Derived.Test.YtmidncclndongaaGreatC32

set_option maxRecDepth 20000
set_option maxHeartbeats 8000000
namespace Go.Proofs.YtmidncclndongaaGreat
namespace Ck
open Go.RowKit Bk Sc Rd Rc Lt
attribute [local go_sem ↓] Go.wp_at_zero Go.wp_at_succ
attribute [local go_sem] floatUpon pick
theorem add_field2 (a:Addr) (n k:Nat) (hk:0 < k):(⟨(a.add n).block,(a.add n).off + k,none⟩:Addr) = a.add (n + k):=by
 unfold Addr.add
 by_cases h:n = 0
 ·rw [if_pos h,if_neg (by omega),h,Nat.zero_add]
 ·rw [if_neg h,if_neg (by omega)]
  simp only [Nat.add_assoc]
theorem plays_any (blk:Int) (v:Value) (L:List AI) (w:World) (hv:actsOf w v L) :
  Calls Tryz.prog 4 #[.int .i64 blk,v] w fun e w'=>e = .returned (.bool true) ∧ Below w.heap.size w w':=by
 obtain ⟨A,c,rfl,hat,hl16,hok⟩:=hv
 have HWk:=Lib.hid (fun V=>cworks_any V)
 have HMk:=Lib.hid (fun V=>rmake_any 8 V)
 have rb:reachBytes = 140737488351232:=by unfold reachBytes;rfl
 have hlen:(L.length:Int) ≤ 9223372036854775807:=by omega
 have HAt:=Lib.hid hat
 have HOk:=Lib.hid hok
 clear hat hok hl16 rb
 go_enter Tryz.func4,Tryz.ntmps4
 go_wp2_with fail
 refine (devBase.new 8 w ⟨by omega,by omega⟩).mono ?_
 rintro e w1 (⟨_,_,F1,g,rfl,hr1,hF1,hb1⟩ | ⟨hno,_,_⟩)
 case inr=>exact absurd ⟨by omega,by omega⟩ hno
 have O1:Hid (Ow w w1 F1):=Lib.hid ⟨hF1,hb1⟩
 have HR1:=Lib.hid hr1
 clear hr1 hF1 hb1
 go_wp2_with fail
 refine (HMk.out _).mono ?_
 rintro e w2 hmk
 rcases hmk with ⟨_,_,h,ao,an,co,cn,so,sn,rfl,hra,hfo,hb⟩ | ⟨hno,_⟩
 case inr=>exact absurd ⟨by omega,by omega⟩ hno
 have HRa:=Lib.hid (And.intro hra (And.intro hfo hb))
 clear hra hfo hb HMk
 go_wp2_with fail
 refine (HWk.out _).mono ?_
 rintro e w3 ⟨rfl,hb3⟩
 have hp0:∀ W',Below w3.heap.size w3 W' → Cel W' w3.heap.size 51 [.int .i64 blk,.pointer (some ⟨g,0,none⟩),.pointer (some ⟨h,0,none⟩),.pointer none,.pointer none] → C2 w W' w3.heap.size g h blk (.pointer none) (.pointer none) F1 (RFoot h ao an) (new0 8) (new0 8) .no .no:=fun W' hbW hc=>by
  have hB1:=HRa.out.2.2.trans (hb3.mono HRa.out.2.2.size)
  have hB:=hB1.trans (hbW.mono hB1.size)
  have hl1:=(devF_of devBase).lt HR1.out
  have h1:=HRa.out.1.step (hb3.trans (hbW.mono hb3.size))
  have hd1:=(devF_of devBase).kept HR1.out (fun k hk=>hB.block k (hl1 k hk))
  have hs1:=O1.out.bel.size
  have hs2:=HRa.out.2.2.size
  refine ⟨hd1,⟨ao,an,co,cn,so,sn,rfl,h1,(devF_of devBase).ok HR1.out⟩,hc,fun hf=>?_,fun hf=>?_,fun k hk hf=>?_,O1.out.bF,fun k hk=>?_,Nat.le_trans hs1 hB1.size,O1.out.bel.trans (hB.mono hs1)⟩
  ·have:=hl1 _ hf
   have:=hB1.size
   omega
  ·have:=(HRa.out.1.step hb3).lt _ hf;omega
  ·have h5:=HRa.out.2.1 k hk
   have h6:=hl1 k hf
   omega
  ·exact Nat.le_trans hs1 (HRa.out.2.1 k hk)
 have HP0:=Lib.hid hp0
 clear hp0 hb3 O1 HR1 HRa HWk
 go_wp2_with fail
 have hp1:=HP0.out _ ((Below.refl _ w3).alloc (Nat.le_refl _) (.cells #[.int .i64 blk,.pointer (some ⟨g,0,none⟩),.pointer (some ⟨h,0,none⟩),.pointer none,.pointer none] 51)) (blk1 w3 _).2
 have HP1:=Lib.hid hp1
 have HOk0:=Lib.hid (hp1.l.ok (devF_of devBase))
 clear hp1 HP0
 refine (bothopen_any HP1.out).mono ?_
 rintro e w4 ⟨rfl,T4,U4,s4,q4,hp4,ht4⟩
 have HI4:Hid (∃ T U D s q st,C2 w w4 w3.heap.size g h blk (ptrS s) (ptrS q) T U D D s q ∧ Tw s q st ∧ Cin blk D 0 st):=Lib.hid ⟨T4,U4,_,s4,q4,_,hp4,ht4,cin_open HOk0.out 0⟩
 clear hp4 ht4 HP1 HOk0
 generalize w3.heap.size = a at HI4 ⊢
 go_wp2_with fail
 go_loopw [10] (fun i wr=>∃ j:Nat,j ≤ L.length ∧ j ≤ 60 ∧ i = .int .i64 (j:Int) ∧ Hid (∃ T U D s q st,C2 w wr a g h blk (ptrS s) (ptrS q) T U D D s q ∧ Tw s q st ∧ Cin blk D j st)) (fun i _=>L.length - (RowKit.intOf i).toNat)
 case atStart=>exact ⟨0,by omega,by omega,rfl,HI4⟩
 case round =>
  obtain ⟨j,hj,hj2,rfl,hi⟩:=hrel
  clear HI4
  by_cases hfin:j < L.length ∧ j < 60
  case neg =>
   have HBl:=Lib.hid (show Below w.heap.size w wr by obtain ⟨_,_,_,_,_,_,hp,_,_⟩:=hi.out;exact hp.bel)
   have hx:(¬ (j:Int) < (L.length:Int)) ∨ ((j:Int) < (L.length:Int) ∧ ¬ (j:Int) < 60):=by omega
   clear hi hfin hj hj2
   have HNil:=Lib.hid (lnil_any wr)
   rcases hx with p1 | ⟨p1,p2⟩
   all_goals
    go_wp2_with fail
    refine HNil.out.mono ?_
    rintro e W9 ⟨rfl,rfl⟩
    go_wp2_with fail
    go_ret
    exact ⟨rfl,HBl.out⟩
  obtain ⟨hlt,hlt2⟩:=hfin
  have pj:(j:Int) < (L.length:Int):=by omega
  have pj2:(j:Int) < 60:=by omega
  obtain ⟨ad,rfl,hab,hc⟩:=HAt.out (by omega)
  obtain ⟨x0,x1,x2,x3,x4⟩:=hc j hlt
  obtain ⟨T6,U6,D6,s6,q6,st6,hp6,ht6,hc6⟩:=hi.out
  rw [← cell_kept hp6.bel _ (by rw [st_block];exact hab)] at x0 x1 x2 x3 x4
  rw [← add_field2 _ _ _ (by omega)] at x1 x2 x3 x4
  have hao:=HOk.out _ (List.getElem_mem hlt)
  generalize L[j] = X at x0 x1 x2 x3 x4 hao
  have HSt:=Lib.hid (step_any hp6 ht6 hc6 X hao (by omega))
  unfold acV at HSt
  clear hc hao hab hi hp6 ht6 hc6
  go_wp2_with fail
  refine HSt.out.mono ?_
  rintro e W7 ⟨rfl,T7,U7,D7,s7,q7,st7,hp7,ht7,hc7⟩
  have HP7:=Lib.hid hp7
  have HT7:=Lib.hid (And.intro ht7 hc7)
  clear hp7 ht7 hc7 x0 x1 x2 x3 x4 HSt
  cases st7 with
  | none =>
   obtain ⟨rfl,rfl⟩:=HT7.out.1
   have k3:=HP7.out.cel.cell (i:=3) rfl
   unfold ptrS at k3
   go_upto_region 13 with fail
   go_quiet (fail)
   have HP8:=Lib.hid (HP7.out.drew nq)
   generalize W7.drewN nq = W8 at HP8 ⊢
   clear k3 HP7
   have H8:Hid (C2 w W8 a g h blk (ptrS .no) (ptrS .no) T7 U7 D7 D7 .no .no):=HP8
   clear HP8
   go_upto_region 16 with fail
   go_loopw [11] (fun i wr=>∃ (m:Nat) (T U:Nat → Prop),m ≤ 8 ∧ i = .int .i64 (m:Int) ∧ Hid (C2 w wr a g h blk (ptrS .no) (ptrS .no) T U D7 D7 .no .no)) (fun i _=>8 - (RowKit.intOf i).toNat)
   case atStart=>exact ⟨0,T7,U7,by omega,rfl,H8⟩
   case round =>
    obtain ⟨m,T8,U8,hm,rfl,hp8⟩:=hrel
    clear H8
    by_cases hm8:m < 8
    case neg =>
     have pm:¬ (m:Int) < 8:=by omega
     have HI:Hid (∃ T U D s q st,C2 w wr a g h blk (ptrS s) (ptrS q) T U D D s q ∧ Tw s q st ∧ Cin blk D (j + 1) st):=Lib.hid ⟨T8,U8,D7,.no,.no,none,hp8.out,HT7.out.1,HT7.out.2⟩
     clear hp8 HT7
     go_wp2_with fail
     go_roundw
     case rel=>exact ⟨j + 1,by omega,by omega,by go_num,HI⟩
     case measure=>simp [RowKit.intOf];omega
    have pm:(m:Int) < 8:=by omega
    have HR:=Lib.hid (hp8.out.rdL (m:Int) (by omega))
    have q2:=text_eq (rdV D7 (m:Int)).1
    go_wp2_with fail
    refine HR.out.mono ?_
    rintro e Wa ⟨rfl,T9,hpa,-⟩
    have HR2:=Lib.hid (hpa.rdR (m:Int) (by omega))
    clear hpa HR hp8
    generalize (rdV D7 (m:Int)).1 = ra at *
    generalize (rdV D7 (m:Int)).2 = rb at *
    go_wp2_with fail
    refine HR2.out.mono ?_
    rintro e Wb ⟨rfl,U9,hpb,-⟩
    have HPb:=Lib.hid hpb
    clear hpb HR2
    go_wp2_with fail
    go_roundw
    case rel=>exact ⟨m + 1,T9,U9,by omega,by go_num,HPb⟩
    case measure=>simp [RowKit.intOf];omega
  | some k =>
   obtain ⟨b1,p1,b2,p2,rfl,rfl⟩:=HT7.out.1
   have k3:=HP7.out.cel.cell (i:=3) rfl
   have k4:=HP7.out.cel.cell (i:=4) rfl
   have k2:=HP7.out.cel.cell (i:=2) rfl
   have kd:=HP7.out.down
   unfold ptrS at k3 k4
   by_cases hd:D7.down = true
   ·rw [hd] at kd
    clear hd
    go_upto_region 13 with fail
    go_quiet (fail)
    have HP8:=Lib.hid (HP7.out.drew nq)
    generalize W7.drewN nq = W8 at HP8 ⊢
    clear k3 k4 k2 kd HP7
    have H8:Hid (C2 w W8 a g h blk (ptrS (.ck b1 p1 k)) (ptrS (.ck b2 p2 k)) T7 U7 D7 D7 (.ck b1 p1 k) (.ck b2 p2 k)):=HP8
    clear HP8
    go_upto_region 16 with fail
    go_loopw [11] (fun i wr=>∃ (m:Nat) (T U:Nat → Prop),m ≤ 8 ∧ i = .int .i64 (m:Int) ∧ Hid (C2 w wr a g h blk (ptrS (.ck b1 p1 k)) (ptrS (.ck b2 p2 k)) T U D7 D7 (.ck b1 p1 k) (.ck b2 p2 k))) (fun i _=>8 - (RowKit.intOf i).toNat)
    case atStart=>exact ⟨0,T7,U7,by omega,rfl,H8⟩
    case round =>
     obtain ⟨m,T8,U8,hm,rfl,hp8⟩:=hrel
     clear H8
     by_cases hm8:m < 8
     case neg =>
      have pm:¬ (m:Int) < 8:=by omega
      have HI:Hid (∃ T U D s q st,C2 w wr a g h blk (ptrS s) (ptrS q) T U D D s q ∧ Tw s q st ∧ Cin blk D (j + 1) st):=Lib.hid ⟨T8,U8,D7,(.ck b1 p1 k),(.ck b2 p2 k),some k,hp8.out,HT7.out.1,HT7.out.2⟩
      clear hp8 HT7
      go_wp2_with fail
      go_roundw
      case rel=>exact ⟨j + 1,by omega,by omega,by go_num,HI⟩
      case measure=>simp [RowKit.intOf];omega
     have pm:(m:Int) < 8:=by omega
     have HR:=Lib.hid (hp8.out.rdL (m:Int) (by omega))
     have q2:=text_eq (rdV D7 (m:Int)).1
     go_wp2_with fail
     refine HR.out.mono ?_
     rintro e Wa ⟨rfl,T9,hpa,-⟩
     have HR2:=Lib.hid (hpa.rdR (m:Int) (by omega))
     clear hpa HR hp8
     generalize (rdV D7 (m:Int)).1 = ra at *
     generalize (rdV D7 (m:Int)).2 = rb at *
     go_wp2_with fail
     refine HR2.out.mono ?_
     rintro e Wb ⟨rfl,U9,hpb,-⟩
     have HPb:=Lib.hid hpb
     clear hpb HR2
     go_wp2_with fail
     go_roundw
     case rel=>exact ⟨m + 1,T9,U9,by omega,by go_num,HPb⟩
     case measure=>simp [RowKit.intOf];omega
   ·have hd':D7.down = false:=by simpa using hd
    rw [hd'] at kd
    have HLa:=Lib.hid (fun V (t:C2 w V a g h blk (ptrS (.ck b1 p1 k)) (ptrS (.ck b2 p2 k)) T7 U7 D7 D7 (.ck b1 p1 k) (.ck b2 p2 k))=>show Calls Tryz.prog 18 #[.pointer (some ⟨b1,0,none⟩)] V fun e w'=>e = .returned (.int .i64 k.last) ∧ w' = V from by
     obtain ⟨F9,-,h9⟩:=t.l
     exact llast_any h9)
    have HBo:=Lib.hid (fun V (t:C2 w V a g h blk (ptrS (.ck b1 p1 k)) (ptrS (.ck b2 p2 k)) T7 U7 D7 D7 (.ck b1 p1 k) (.ck b2 p2 k))=>show Calls Tryz.prog 19 #[.pointer (some ⟨b1,0,none⟩)] V fun e w'=>e = .returned (.int .i64 k.bound) ∧ w' = V from by
     obtain ⟨F9,-,h9⟩:=t.l
     exact lboundm_any h9)
    have l2:W7.cell? ⟨b2,2,none⟩ = some (.int .i64 k.last):=by
     obtain ⟨F9,-,h9⟩:=HP7.out.r
     exact h9.cel.cell (i:=2) rfl
    have l3:W7.cell? ⟨b2,3,none⟩ = some (.int .i64 k.bound):=by
     obtain ⟨F9,-,h9⟩:=HP7.out.r
     exact h9.cel.cell (i:=3) rfl
    have b0:=bne_self_eq_false' k.last
    have b1':=bne_self_eq_false' k.bound
    clear hd hd'
    go_upto_region 13 with fail
    go_quiet ((first
     | (go_at_call 18;exact Calls.quiet_of_same (HLa.out _ (HP7.out.drew _)))
     | (go_at_call 19;exact Calls.quiet_of_same (HBo.out _ (HP7.out.drew _)))))
    have HP8:=Lib.hid (HP7.out.drew nq)
    generalize W7.drewN nq = W8 at HP8 ⊢
    clear k3 k4 k2 kd HP7 l2 l3 b0 b1' HLa HBo
    have H8:Hid (C2 w W8 a g h blk (ptrS (.ck b1 p1 k)) (ptrS (.ck b2 p2 k)) T7 U7 D7 D7 (.ck b1 p1 k) (.ck b2 p2 k)):=HP8
    clear HP8
    go_upto_region 16 with fail
    go_loopw [11] (fun i wr=>∃ (m:Nat) (T U:Nat → Prop),m ≤ 8 ∧ i = .int .i64 (m:Int) ∧ Hid (C2 w wr a g h blk (ptrS (.ck b1 p1 k)) (ptrS (.ck b2 p2 k)) T U D7 D7 (.ck b1 p1 k) (.ck b2 p2 k))) (fun i _=>8 - (RowKit.intOf i).toNat)
    case atStart=>exact ⟨0,T7,U7,by omega,rfl,H8⟩
    case round =>
     obtain ⟨m,T8,U8,hm,rfl,hp8⟩:=hrel
     clear H8
     by_cases hm8:m < 8
     case neg =>
      have pm:¬ (m:Int) < 8:=by omega
      have HI:Hid (∃ T U D s q st,C2 w wr a g h blk (ptrS s) (ptrS q) T U D D s q ∧ Tw s q st ∧ Cin blk D (j + 1) st):=Lib.hid ⟨T8,U8,D7,(.ck b1 p1 k),(.ck b2 p2 k),some k,hp8.out,HT7.out.1,HT7.out.2⟩
      clear hp8 HT7
      go_wp2_with fail
      go_roundw
      case rel=>exact ⟨j + 1,by omega,by omega,by go_num,HI⟩
      case measure=>simp [RowKit.intOf];omega
     have pm:(m:Int) < 8:=by omega
     have HR:=Lib.hid (hp8.out.rdL (m:Int) (by omega))
     have q2:=text_eq (rdV D7 (m:Int)).1
     go_wp2_with fail
     refine HR.out.mono ?_
     rintro e Wa ⟨rfl,T9,hpa,-⟩
     have HR2:=Lib.hid (hpa.rdR (m:Int) (by omega))
     clear hpa HR hp8
     generalize (rdV D7 (m:Int)).1 = ra at *
     generalize (rdV D7 (m:Int)).2 = rb at *
     go_wp2_with fail
     refine HR2.out.mono ?_
     rintro e Wb ⟨rfl,U9,hpb,-⟩
     have HPb:=Lib.hid hpb
     clear hpb HR2
     go_wp2_with fail
     go_roundw
     case rel=>exact ⟨m + 1,T9,U9,by omega,by go_num,HPb⟩
     case measure=>simp [RowKit.intOf];omega
end Ck
end Go.Proofs.YtmidncclndongaaGreat
namespace Go.Proofs.YtmidncclndongaaGreat
namespace Ck
open Rd Sc
structure Part (D E:Dev) (P:Nat → ByteArray → Prop):Prop where
 on:E.on = D.on
 nl:E.new.length = D.on.length
 nw:∀ j,E.new.getD j nil0 = nil0 ∨ P j (E.new.getD j nil0)
section
variable {D E:Dev} {P Q:Nat → ByteArray → Prop}
theorem Part.self (hok:DevOk D) (hcl:Sc.Clean D):Part D D P:=⟨rfl,hok.len,fun j=>.inl (hcl j)⟩
theorem Part.burn (h:Part D E P):Part D (Sc.burn E).1 P:=by
 have hb:=burn_parts E
 exact ⟨hb.1.trans h.on,by rw [hb.2.1];exact h.nl,fun j=>by rw [hb.2.1];exact h.nw j⟩
theorem Part.wr (h:Part D E P) (hu:E.down = false) {k:Nat} (hk:k < D.on.length) {t:ByteArray} (ht:t.size = 64) (hP:P k t):Part D (wrD E (k:Int) t).1 P:=by
 rw [wr_up hu (by rw [h.on];exact hk) ht]
 split
 ·exact h.burn
 ·refine ⟨h.on,by show (E.new.set k t).length = _;rw [List.length_set];exact h.nl,fun j=>?_⟩
  show (E.new.set k t).getD j nil0 = nil0 ∨ P j ((E.new.set k t).getD j nil0)
  by_cases e:j = k
  ·subst e
   right
   rw [List.getD_eq_getElem?_getD,List.getElem?_set_self (by rw [h.nl];exact hk)]
   exact hP
  ·rw [List.getD_eq_getElem?_getD,List.getElem?_set_ne (Ne.symm e),← List.getD_eq_getElem?_getD]
   exact h.nw j
theorem Part.fl (h:Part D E P) (hf:(flD E).2 ≠ 0):Part D (flD E).1 P:=by
 unfold flD at hf ⊢
 split
 ·exact h
 next hd =>
  rw [if_neg hd] at hf
  split
  ·exact h.burn
  next hb=>rw [if_neg hb] at hf;exact absurd rfl hf
theorem Part.seen (h:Part D E P) (hcl:Sc.Clean D) (ps:List Int) {j:Nat} (hj:j < D.on.length) :
  flushF (crD E ps) j = flushF D j ∨ ∃ (t:ByteArray) (c:Nat),c ≤ 64 ∧ P j t ∧ (flushF (crD E ps) j).data.toList = t.data.toList.take c ++ (flushF D j).data.toList.drop c:=by
 have hd:flushF D j = D.on.getD j nil0:=by unfold flushF;rw [if_pos (hcl j)]
 rw [cr_tear (by rw [h.on];exact h.nl) ps (by rw [h.on];exact hj),hd]
 unfold tearF
 rw [h.on]
 split
 ·exact .inl rfl
 next hn =>
  rcases h.nw j with e | e
  ·exact absurd e hn
  ·exact .inr ⟨_,cutN (ps.getD (cnt E.new j) 0),cut_le _,e,by unfold torn;simp⟩
end
theorem part_wrs {base i0 n0:Nat} {all:List UInt8} {D:Dev}:∀ {n i:Nat} {E:Dev},Part D E (fun j t=>base + i0 ≤ j ∧ j < base + i0 + n0 ∧ t = blkB all (j - base)) → E.down = false → DevOk E → i0 ≤ i → i + n ≤ i0 + n0 → base + i0 + n0 ≤ D.on.length →
  Part D (wrs base all i n E).1 (fun j t=>base + i0 ≤ j ∧ j < base + i0 + n0 ∧ t = blkB all (j - base))
 | 0,_,_,h,_,_,_,_,_=>h
 | n + 1,i,E,h,hu,hok,h1,h2,h3=>by
  have hk:base + i < D.on.length:=by omega
  have e:wrs base all i (n + 1) E = if (wrD E ((base + i:Nat):Int) (blkB all i)).2 = 0 then wrs base all (i + 1) n (wrD E ((base + i:Nat):Int) (blkB all i)).1 else wrD E ((base + i:Nat):Int) (blkB all i):=rfl
  have hp:=h.wr hu hk (blkB_size all i) ⟨by omega,by omega,by rw [Nat.add_sub_cancel_left]⟩
  rw [e]
  rcases wr_view hok hu (k:=base + i) (by rw [h.on];exact hk) (blkB_size all i) with ⟨q1,q2,_⟩ | ⟨q1,_⟩
  ·rw [if_pos q1]
   exact part_wrs hp q2 (wrD_ok hok _ _) (by omega) (by omega) h3
  ·rw [if_neg (by rw [q1];decide)]
   exact hp
def inW (D:Dev) (a:Nat) (old more:List UInt8) (j:Nat):Prop:=areaAt D a + old.length / 64 ≤ j ∧ j < areaAt D a + old.length / 64 + manyW old more
instance (D:Dev) (a:Nat) (old more:List UInt8) (j:Nat):Decidable (inW D a old more j):=by unfold inW;exact inferInstance
def Cut1 (D E:Dev) (a:Nat) (old more:List UInt8):Prop :=
 ∀ j,j < D.on.length → flushF E j = flushF D j ∨ (inW D a old more j ∧ ∃ c,c ≤ 64 ∧ (flushF E j).data.toList = (blkB (old ++ more) (j - areaAt D a)).data.toList.take c ++ (flushF D j).data.toList.drop c)
def Cut2 (D E:Dev) (cnt a:Nat) (old more:List UInt8):Prop :=
 (∀ j,j < D.on.length → j ≠ (cnt + 1) % 2 → flushF E j = if inW D a old more j then blkB (old ++ more) (j - areaAt D a) else flushF D j) ∧
 ∃ c,c ≤ 64 ∧ (flushF E ((cnt + 1) % 2)).data.toList = (headL (cnt + 1) a (old ++ more).length).take c ++ (flushF D ((cnt + 1) % 2)).data.toList.drop c
theorem settle_cut {D:Dev} (hok:DevOk D) (hcl:Sc.Clean D) (hu:D.down = false) (h4:4 ≤ D.on.length) (cnt a:Nat) (old more:List UInt8) (ha:a ≤ 1) (hz:(old ++ more).length ≤ areaN D)
  (hf:(settleP D cnt a old more).2 ≠ 0) (ps:List Int):Cut1 D (crD (settleP D cnt a old more).1 ps) a old more ∨ Cut2 D (crD (settleP D cnt a old more).1 ps) cnt a old more:=by
 have hml:=many_le hz
 have hfit:areaAt D a + areaN D / 64 ≤ D.on.length:=by
  unfold areaAt areaN
  rw [Nat.mul_div_cancel _ (by omega)]
  have:a = 0 ∨ a = 1:=by omega
  rcases this with rfl | rfl <;> omega
 have hA2:2 ≤ areaAt D a:=by unfold areaAt;omega
 have hp1:=part_wrs (base:=areaAt D a) (i0:=old.length / 64) (n0:=manyW old more) (all:=old ++ more) (n:=manyW old more) (i:=old.length / 64) (Part.self hok hcl) hu hok (Nat.le_refl _) (Nat.le_refl _) (by omega)
 have key:∀ {E:Dev},Part D E (fun j t=>areaAt D a + old.length / 64 ≤ j ∧ j < areaAt D a + old.length / 64 + manyW old more ∧ t = blkB (old ++ more) (j - areaAt D a)) → Cut1 D (crD E ps) a old more:=fun {E} h j hj=>by
  rcases h.seen hcl ps hj with e | ⟨t,c,hc,⟨h1,h2,rfl⟩,e⟩
  ·exact .inl e
  ·exact .inr ⟨⟨h1,h2⟩,c,hc,e⟩
 unfold settleP at hf ⊢
 rcases wrs_view (base:=areaAt D a) (all:=old ++ more) (n:=manyW old more) (i:=old.length / 64) hok hu (by omega) with ⟨p1,p2,p3⟩ | ⟨p1,p2⟩
 case inr =>
  left
  have e:andD (wrs (areaAt D a) (old ++ more) (old.length / 64) (manyW old more) D) (fun D1=>andD (if more = [] then (D1,0) else flD D1) fun D2=>andD (wrD D2 (((cnt + 1) % 2:Nat):Int) (headB (cnt + 1) a (old ++ more).length)) fun D3=>flD D3) = wrs (areaAt D a) (old ++ more) (old.length / 64) (manyW old more) D:=by
   unfold andD;rw [if_neg (by rw [p1];decide)]
  rw [e]
  exact key hp1
 have hl1:=wrs_len (areaAt D a) (old ++ more) (manyW old more) (old.length / 64) D
 have ho1:=wrs_ok (areaAt D a) (old ++ more) (manyW old more) (old.length / 64) D hok
 have hn0:more = [] → (wrs (areaAt D a) (old ++ more) (old.length / 64) (manyW old more) D).1 = D:=fun h=>by
  have:manyW old more = 0:=by unfold manyW;rw [if_pos h]
  rw [this];rfl
 have e:∀ f,andD (wrs (areaAt D a) (old ++ more) (old.length / 64) (manyW old more) D) f = f (wrs (areaAt D a) (old ++ more) (old.length / 64) (manyW old more) D).1:=fun f=>by
  unfold andD;rw [if_pos p1]
 rw [e] at hf ⊢
 generalize (wrs (areaAt D a) (old ++ more) (old.length / 64) (manyW old more) D).1 = D1 at p2 p3 hl1 ho1 hp1 hf hn0 ⊢
 have hmid:((if more = [] then (D1,0) else flD D1).2 = 0 ∧ (if more = [] then (D1,0) else flD D1).1.down = false ∧ DevOk (if more = [] then (D1,(0:Int)) else flD D1).1 ∧ (if more = [] then (D1,(0:Int)) else flD D1).1.on.length = D.on.length ∧ Sc.Clean (if more = [] then (D1,(0:Int)) else flD D1).1 ∧ ∀ i,i < D.on.length → flushF (if more = [] then (D1,(0:Int)) else flD D1).1 i = flushF D1 i) ∨
   ((if more = [] then (D1,0) else flD D1).2 = 90 ∧ Cut1 D (crD (if more = [] then (D1,(0:Int)) else flD D1).1 ps) a old more):=by
  split
  next hm=>exact .inl ⟨rfl,p2,ho1,hl1,by rw [hn0 hm];exact hcl,fun _ _=>rfl⟩
  ·rcases fl_view ho1 p2 with ⟨q1,q2,q3,q4⟩ | q
   ·exact .inl ⟨q1,q2,flD_ok ho1,(flD_len D1).trans hl1,q3,fun i hi=>q4 i (by omega)⟩
   ·exact .inr ⟨q.1,key (hp1.fl (by rw [q.1];decide))⟩
 generalize (if more = [] then (D1,(0:Int)) else flD D1) = r at hmid hf ⊢
 obtain ⟨D2,e2⟩:=r
 simp only at hmid
 rcases hmid with ⟨rfl,q2,q3,q4,q6,q5⟩ | ⟨rfl,q2⟩
 case inr=>exact .inl q2
 have e3:∀ f,andD (D2,(0:Int)) f = f D2:=fun f=>rfl
 rw [e3] at hf ⊢
 have hq:(cnt + 1) % 2 < 2:=Nat.mod_lt _ (by omega)
 have hv2:∀ j,j < D.on.length → flushF D2 j = if inW D a old more j then blkB (old ++ more) (j - areaAt D a) else flushF D j:=fun j hj=>by
  rw [q5 j hj,p3 j]
  rfl
 have hv3:flushF D2 ((cnt + 1) % 2) = flushF D ((cnt + 1) % 2):=by
  rw [hv2 _ (by omega),if_neg]
  unfold inW
  omega
 have hp2:Part D2 D2 (fun j t=>j = (cnt + 1) % 2 ∧ t = headB (cnt + 1) a (old ++ more).length):=Part.self q3 q6
 have hp3:=hp2.wr q2 (k:=(cnt + 1) % 2) (by omega) (headB_size (cnt + 1) a (old ++ more).length) ⟨rfl,rfl⟩
 have key2:∀ {E:Dev},Part D2 E (fun j t=>j = (cnt + 1) % 2 ∧ t = headB (cnt + 1) a (old ++ more).length) → Cut2 D (crD E ps) cnt a old more:=fun {E} h=>by
  refine ⟨fun j hj hn=>?_,?_⟩
  ·rcases h.seen q6 ps (j:=j) (by omega) with e | ⟨t,c,hc,⟨h1,_⟩,_⟩
   ·rw [e,hv2 j hj]
   ·exact absurd h1 hn
  ·rcases h.seen q6 ps (j:=(cnt + 1) % 2) (by omega) with e | ⟨t,c,hc,⟨_,rfl⟩,e⟩
   ·exact ⟨0,by omega,by rw [e,hv3];simp⟩
   ·refine ⟨c,hc,?_⟩
    rw [e,hv3]
    unfold headB
    simp
 rcases wr_view q3 q2 (k:=(cnt + 1) % 2) (by omega) (headB_size (cnt + 1) a (old ++ more).length) with ⟨r1,r2,r3⟩ | ⟨r1,r2⟩
 case inr =>
  right
  have e4:∀ f,andD (wrD D2 (((cnt + 1) % 2:Nat):Int) (headB (cnt + 1) a (old ++ more).length)) f = wrD D2 (((cnt + 1) % 2:Nat):Int) (headB (cnt + 1) a (old ++ more).length):=fun f=>by
   unfold andD;rw [if_neg (by rw [r1];decide)]
  rw [e4]
  exact key2 hp3
 have e4:∀ f,andD (wrD D2 (((cnt + 1) % 2:Nat):Int) (headB (cnt + 1) a (old ++ more).length)) f = f (wrD D2 (((cnt + 1) % 2:Nat):Int) (headB (cnt + 1) a (old ++ more).length)).1:=fun f=>by
  unfold andD;rw [if_pos r1]
 rw [e4] at hf ⊢
 exact .inr (key2 (hp3.fl hf))
def OldH (c:Nat) (S:List UInt8):Prop:=S = List.replicate 64 0 ∨ ∃ a n,a ≤ 1 ∧ n < 256 ^ 8 ∧ 2 ≤ c ∧ c < 256 ^ 8 ∧ S = headL (c - 1) a n
theorem head_mid (c a l:Nat):(headL c a l).drop 21 = headP c a l ++ (headP c a l ++ [0]):=by
 have h:=headP_len c a l
 unfold headL
 rw [List.append_assoc,List.append_assoc,List.drop_append_of_le_length (by omega),List.drop_of_length_le (by omega)]
 rfl
theorem head_first (c a l:Nat):(headL c a l).take 21 = headP c a l:=by
 have h:=headP_len c a l
 unfold headL
 rw [List.append_assoc,List.append_assoc,List.take_append_of_le_length (by omega),List.take_of_length_le (by omega)]
theorem headP_inj {c a l c' a' l':Nat} (h:headP c a l = headP c' a' l'):headL c a l = headL c' a' l':=by
 unfold headL
 rw [h]
theorem torn_head {ab c a n k:Nat} {S:List UInt8} (hS:S = List.replicate 64 0 ∨ ∃ c' a' n',S = headL c' a' n')
  (h:okH ab ((headL c a n).take k ++ S.drop k)):(headL c a n).take k ++ S.drop k = headL c a n ∨ ((headL c a n).take k ++ S.drop k = S ∧ S ≠ List.replicate 64 0):=by
 obtain ⟨h1,_,_,_,h5⟩:=h
 generalize hT:(headL c a n).take k ++ S.drop k = T at h1 h5 ⊢
 generalize cOf T = c1 at h1 h5
 generalize aOf T = a1 at h5
 generalize lOf T = n1 at h5
 have hl:(headL c a n).length = 64:=headL_len _ _ _
 by_cases hk2:21 ≤ k
 ·left
  have:headP c1 a1 n1 = headP c a n:=by
   rw [← head_first c1 a1 n1,← h5,← hT,List.take_append_of_le_length (by rw [List.length_take];omega),List.take_take,Nat.min_eq_left hk2,head_first]
  rw [h5]
  exact headP_inj this
 ·right
  have e21:T.drop 21 = S.drop 21:=by
   rw [← hT,List.drop_append,List.drop_of_length_le (by rw [List.length_take];omega),List.nil_append,List.drop_drop,List.length_take]
   congr 1
   omega
  rw [h5,head_mid] at e21
  rcases hS with rfl | ⟨c',a',n',rfl⟩
  ·exfalso
   have:=congrArg (fun l=>l.head?) e21
   simp [headP] at this
  ·rw [head_mid] at e21
   have e:headP c1 a1 n1 = headP c' a' n':=by
    have:=congrArg (List.take 21) e21
    rwa [List.take_append_of_le_length (by rw [headP_len];omega),List.take_of_length_le (by rw [headP_len];omega),List.take_append_of_le_length (by rw [headP_len];omega),List.take_of_length_le (by rw [headP_len];omega)] at this
   refine ⟨by rw [h5];exact headP_inj e,fun e0=>?_⟩
   have:=congrArg (fun l=>l.head?) e0
   simp [headL,headP] at this
theorem torn_twice {N S:List UInt8} {k k':Nat} (hN:N.length = 64) (hk':k' ≤ 64):N.take k ++ (N.take k' ++ S.drop k').drop k = N.take (max k k') ++ S.drop (max k k'):=by
 by_cases h:k' ≤ k
 ·rw [Nat.max_eq_left h,List.drop_append,List.drop_of_length_le (by rw [List.length_take];omega),List.nil_append,List.drop_drop,List.length_take]
  congr 2
  omega
 ·rw [Nat.max_eq_right (by omega),List.drop_append_of_le_length (by rw [List.length_take];omega),← List.append_assoc]
  congr 1
  rw [List.drop_take,← List.take_add]
  congr 1
  omega
end Ck
end Go.Proofs.YtmidncclndongaaGreat
