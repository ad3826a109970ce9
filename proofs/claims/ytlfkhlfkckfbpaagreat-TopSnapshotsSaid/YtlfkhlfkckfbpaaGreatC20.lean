/- Parts of the proof, joined: PkDone5, PkDone, RcEncL, CkLand, RcTo, LtClone; their conditions stand with each. -/
import Derived.Lib.SliceRun
import Derived.Test.YtlfkhlfkckfbpaaGreatC2
import Derived.Test.YtlfkhlfkckfbpaaGreatC3
import Derived.Test.YtlfkhlfkckfbpaaGreatC6
import Derived.Test.YtlfkhlfkckfbpaaGreatC18
import Derived.Test.YtlfkhlfkckfbpaaGreatC19

set_option maxRecDepth 20000
set_option maxHeartbeats 8000000
namespace Go.Proofs.YtlfkhlfkckfbpaaGreat
namespace Pk
open Go.RowKit Bk
attribute [local go_sem ↓] Go.wp_at_zero Go.wp_at_succ
attribute [local go_sem] floatUpon pick
theorem goN_more2 {O:List Int} {k:Nat} {z:Int} {L r:List UInt8} (h:sgnF L = .ok (z,r)):goN O (k + 1) L = goN (O ++ [z]) k r:=by
 unfold sgnF at h
 cases h1:numF L with
 | error e=>rw [h1] at h;cases h
 | ok x =>
  obtain ⟨n,r1⟩:=x
  rw [h1] at h
  simp only [Except.ok.injEq,Prod.mk.injEq] at h
  obtain ⟨rfl,rfl⟩:=h
  exact goN_more h1
theorem goN_err2 {O:List Int} {k:Nat} {L:List UInt8} {e:Er} (h:sgnF L = .error e):goN O (k + 1) L = .error e:=by
 unfold sgnF at h
 cases h1:numF L with
 | error e2=>rw [h1] at h;cases h;exact goN_err h1
 | ok x=>obtain ⟨n,r1⟩:=x;rw [h1] at h;cases h
def intsF (L:List UInt8):Except Er (List Int × List UInt8) :=
 match cnt 1024 L with
 | .error e=>.error e
 | .ok (k,r)=>numsF k r
def txtsF (L:List UInt8):Except Er (List ByteArray × List UInt8) :=
 match cnt 1024 L with
 | .error e=>.error e
 | .ok (k,r)=>textsF k r
theorem intsF_err {L:List UInt8} {e:Er} (h:cnt 1024 L = .error e):intsF L = .error e:=by unfold intsF;rw [h]
theorem intsF_ok {L r:List UInt8} {k:Nat} (h:cnt 1024 L = .ok (k,r)):intsF L = goN [] (k - 0) r:=by unfold intsF;rw [h,Nat.sub_zero,goN_start]
theorem txtsF_err {L:List UInt8} {e:Er} (h:cnt 1024 L = .error e):txtsF L = .error e:=by unfold txtsF;rw [h]
theorem txtsF_ok {L r:List UInt8} {k:Nat} (h:cnt 1024 L = .ok (k,r)):txtsF L = goT [] (k - 0) r:=by unfold txtsF;rw [h,Nat.sub_zero,goT_start]
theorem decL_lists (L:List UInt8):decL L = match intsF L with
  | .error e=>.error e
  | .ok (ns,r)=>match txtsF r with
   | .error e=>.error e
   | .ok (ts,r4)=>if r4 = [] then .ok (ns,ts) else .error (.bad r4.length 3):=by
 unfold decL intsF
 cases cnt 1024 L with
 | error e=>rfl
 | ok x =>
  obtain ⟨k,r1⟩:=x
  simp only
  cases numsF k r1 with
  | error e=>rfl
  | ok y =>
   obtain ⟨ns,r2⟩:=y
   simp only
   unfold txtsF
   cases cnt 1024 r2 with
   | error e=>rfl
   | ok z=>rfl
def IntsAns (s:ByteArray) (a:Nat) (w:World):Ending → World → Prop:=fun e w' =>
 ∃ (v:Value) (ns:List Int) (p c:Nat),e = .returned (.tuple #[v,.int .i64 (p:Int),.int .i64 (c:Int)]) ∧ w'.ownsRow w.heap.size 3 1 v ns.length (intV ns) ∧ Sd s (intsF (s.data.toList.drop a)) [] ns p c ∧ Below w.heap.size w w'
def TxtsAns (s:ByteArray) (a:Nat) (w:World):Ending → World → Prop:=fun e w' =>
 ∃ (v:Value) (ts:List ByteArray) (p c:Nat),e = .returned (.tuple #[v,.int .i64 (p:Int),.int .i64 (c:Int)]) ∧ w'.ownsRow w.heap.size 9 1 v ts.length (strV ts) ∧ Sd s (txtsF (s.data.toList.drop a)) [] ts p c ∧ Below w.heap.size w w'
theorem readInts_any (s:ByteArray) (a:Nat) (w:World) (ha:a ≤ s.size) (hs:s.size ≤ 1000000000000000) :
  Calls Tryz.prog 120 #[.string s,.int .i64 (a:Int),.func (.func 121) #[] #[]] w (IntsAns s a w):=by
 obtain ⟨i1,hi',hz0',hz1',hz2'⟩:=info_parts Tryz.infoInt
 have hB:(s.size:Int) ≤ 1000000000000000:=by omega
 obtain ⟨many,a0,c0,hv0,hs0,hmany⟩:=cnt_said s a 1024 ha
 have hC:∀ W,Calls Tryz.prog 174 #[.int .i64 1024,.string s,.int .i64 (a:Int)] W fun e w'=>e = .returned (.tuple #[.int .i64 (many:Int),.int .i64 (a0:Int),.int .i64 (c0:Int)]) ∧ w' = W:=fun W=>by
  have h:=upTo_any s a 1024 W ha hs (by omega)
  rw [hv0] at h
  exact h
 have HC:=Lib.hid hC
 have pmany:(many:Int) ≤ 1024:=by omega
 have HMk:Hid (∀ (v:Value) (ns:List Int) (p c:Nat) (w':World),w'.ownsRow w.heap.size 3 1 v ns.length (intV ns) → Sd s (intsF (s.data.toList.drop a)) [] ns p c → Below w.heap.size w w' → IntsAns s a w (.returned (.tuple #[v,.int .i64 (p:Int),.int .i64 (c:Int)])) w'):=Lib.hid (fun v ns p c w' h1 h2 h3=>⟨v,ns,p,c,rfl,h1,h2,h3⟩)
 have hItem:=fun b (hb:b ≤ s.size)=>readSigned_any s b hb hs
 have HItem:=Lib.hid hItem
 clear hC hv0 hItem hs
 rcases hs0 with ⟨rfl,hp0,_,hok⟩ | ⟨hc,hc5,hp,_,er,herr,hpe,hce⟩
 ·have HF:=Lib.hid (intsF_ok hok)
  clear hok
  go_enter Tryz.func120,Tryz.ntmps120
  go_wp2_with fail
  refine (HC.out _).mono ?_
  rintro e w' ⟨rfl,rfl⟩
  clear HC
  go_wp2_with fail
  obtain ⟨wo,rfl⟩:∃ wo:World,wo = w':=⟨_,rfl⟩
  go_loopw [6,7,23] (fun v x i wr=>∃ (j p:Nat) (O:List Int) (u:Value),u = v ∧ j ≤ many ∧ p ≤ s.size ∧ O.length = j ∧ i = .int .i64 (j:Int) ∧ x = .int .i64 (p:Int) ∧ Hid (intsF (s.data.toList.drop a) = goN O (many - j) (s.data.toList.drop p)) ∧ Hid (wr.ownsRow wo.heap.size 3 1 v j (intV O)) ∧ Hid (Below wo.heap.size wo wr)) (fun _ _ i _=>many - (intOf i).toNat)
  case atStart=>exact ⟨0,a0,[],_,rfl,by omega,hp0,rfl,rfl,rfl,HF.out,World.ownsRow_nil _ _ _ _,Below.refl _ _⟩
  case round =>
   obtain ⟨j,p,O,u,rfl,hj,hp,hOl,rfl,rfl,hst,hown,hbel⟩:=hrel
   clear HF
   have pp:(p:Int) ≤ (s.size:Int):=by omega
   by_cases hlt:j < many
   ·have pj:(j:Int) < (many:Int):=by omega
    have hst2:=hst.out
    rw [show many - j = (many - (j + 1)) + 1 by omega] at hst2
    obtain ⟨z,q,c,hsd,hcall⟩:=HItem.out p hp
    have HR:=Lib.hid hcall
    have hin:=hsd.in
    clear hcall hst
    by_cases hc0:c = 0
    ·subst hc0
     have hok:sgnF (s.data.toList.drop p) = .ok (z,s.data.toList.drop q):=by
      rcases hsd with ⟨_,_,h⟩ | ⟨h,_⟩
      ·exact h
      ·exact absurd rfl h
     have HS:=Lib.hid (hst2.trans (goN_more2 hok))
     have HSn:=Lib.hid (intV_snoc O z)
     have hq:=hin.1
     clear hsd hok hst2 hin
     go_wp2_with fail
     refine (HR.out _).mono ?_
     rintro e w2 ⟨rfl,rfl⟩
     go_wp2_with (at_builtin;refine wpList_append_own_at _ rfl _ _ 22 rfl wo.heap.size 3 i1 (.int .i64 0) 1 8 Tryz.underlying22 hi' hz0' hz1' hz2' rfl (by decide) _ _ _ rfl (hown.out.alloc _) ⟨w2.heap.size,0,none⟩ 1 1 [.int .i64 z] rfl rfl ?c1 ?c2 ?c3 ?c4 ?c5 ?_)
     case c1=>exact cell_one_new _ _ _
     case c2=>intro u hu;simp at hu;subst hu;rfl
     case c3=>unfold maxLen;omega
     case c4=>omega
     case c5=>have:=hbel.out.size;simp;omega
     intro v' w5 hown' hgrow _ hat
     have HB5:=Lib.hid (below_append hown.out hbel.out (Nat.le_refl _) hgrow)
     rw [← HSn.out] at hown'
     have HO5:=Lib.hid hown'
     clear hown' hgrow hat hown hbel
     go_wp2_with fail
     go_roundw
     case rel=>exact ⟨j + 1,q,O ++ [z],_,rfl,by omega,hq,by rw [List.length_append,List.length_singleton,hOl],by go_num,rfl,HS.out,HO5.out,HB5.out⟩
     case measure=>simp [intOf];omega
    ·have HS:Hid (Sd s (intsF (s.data.toList.drop a)) [] [] q c):=by
      rcases hsd with ⟨h,_⟩ | ⟨h1,h2,h3,_,er,h4,h5,h6⟩
      ·exact absurd h hc0
      ·exact .inr ⟨h1,h2,h3,rfl,er,hst2.trans (goN_err2 h4),h5,h6⟩
     have pne:((c:Int) != 0) = true:=by simp;omega
     clear hsd hst2 hin hc0
     go_wp2_with fail
     refine (HR.out _).mono ?_
     rintro e w2 ⟨rfl,rfl⟩
     go_wp2_with fail
     go_ret3
     exact HMk.out _ [] q c _ (World.ownsRow_nil _ _ _ _) HS.out hbel.out
   ·obtain rfl:j = many:=by omega
    have hst2:=hst.out
    rw [Nat.sub_self,goN_done] at hst2
    have HS:Hid (Sd s (intsF (s.data.toList.drop a)) [] O p 0):=.inl ⟨rfl,hp,hst2⟩
    have HO:Hid (wr.ownsRow wo.heap.size 3 1 u O.length (intV O)):=by rw [hOl];exact hown.out
    clear hst hst2 hown
    go_wp2_with fail
    go_ret3
    exact HMk.out _ O p 0 _ HO.out HS.out hbel.out
 ·have HS:Hid (Sd s (intsF (s.data.toList.drop a)) [] [] a0 c0):=.inr ⟨hc,hc5,hp,rfl,er,intsF_err herr,hpe,hce⟩
  have pne:((c0:Int) != 0) = true:=by simp;omega
  clear herr hpe hce hc
  go_enter Tryz.func120,Tryz.ntmps120
  go_wp2_with fail
  refine (HC.out _).mono ?_
  rintro e w' ⟨rfl,rfl⟩
  go_wp2_with fail
  go_ret3
  exact HMk.out _ [] a0 c0 _ (World.ownsRow_nil _ _ _ _) HS.out (Below.refl _ _)
theorem readTexts_any (s:ByteArray) (a:Nat) (w:World) (ha:a ≤ s.size) (hs:s.size ≤ 1000000000000000) :
  Calls Tryz.prog 122 #[.string s,.int .i64 (a:Int),.func (.func 123) #[] #[]] w (TxtsAns s a w):=by
 obtain ⟨i1,hi',hz0',hz1',hz2'⟩:=info_parts Tryz.infoStr
 have hB:(s.size:Int) ≤ 1000000000000000:=by omega
 obtain ⟨many,a0,c0,hv0,hs0,hmany⟩:=cnt_said s a 1024 ha
 have hC:∀ W,Calls Tryz.prog 174 #[.int .i64 1024,.string s,.int .i64 (a:Int)] W fun e w'=>e = .returned (.tuple #[.int .i64 (many:Int),.int .i64 (a0:Int),.int .i64 (c0:Int)]) ∧ w' = W:=fun W=>by
  have h:=upTo_any s a 1024 W ha hs (by omega)
  rw [hv0] at h
  exact h
 have HC:=Lib.hid hC
 have pmany:(many:Int) ≤ 1024:=by omega
 have HMk:Hid (∀ (v:Value) (ns:List ByteArray) (p c:Nat) (w':World),w'.ownsRow w.heap.size 9 1 v ns.length (strV ns) → Sd s (txtsF (s.data.toList.drop a)) [] ns p c → Below w.heap.size w w' → TxtsAns s a w (.returned (.tuple #[v,.int .i64 (p:Int),.int .i64 (c:Int)])) w'):=Lib.hid (fun v ns p c w' h1 h2 h3=>⟨v,ns,p,c,rfl,h1,h2,h3⟩)
 have hItem:=fun b (hb:b ≤ s.size)=>readText_any s b hb hs
 have HItem:=Lib.hid hItem
 clear hC hv0 hItem hs
 rcases hs0 with ⟨rfl,hp0,_,hok⟩ | ⟨hc,hc5,hp,_,er,herr,hpe,hce⟩
 ·have HF:=Lib.hid (txtsF_ok hok)
  clear hok
  go_enter Tryz.func122,Tryz.ntmps122
  go_wp2_with fail
  refine (HC.out _).mono ?_
  rintro e w' ⟨rfl,rfl⟩
  clear HC
  go_wp2_with fail
  obtain ⟨wo,rfl⟩:∃ wo:World,wo = w':=⟨_,rfl⟩
  go_loopw [6,7,23] (fun v x i wr=>∃ (j p:Nat) (O:List ByteArray) (u:Value),u = v ∧ j ≤ many ∧ p ≤ s.size ∧ O.length = j ∧ i = .int .i64 (j:Int) ∧ x = .int .i64 (p:Int) ∧ Hid (txtsF (s.data.toList.drop a) = goT O (many - j) (s.data.toList.drop p)) ∧ Hid (wr.ownsRow wo.heap.size 9 1 v j (strV O)) ∧ Hid (Below wo.heap.size wo wr)) (fun _ _ i _=>many - (intOf i).toNat)
  case atStart=>exact ⟨0,a0,[],_,rfl,by omega,hp0,rfl,rfl,rfl,HF.out,World.ownsRow_nil _ _ _ _,Below.refl _ _⟩
  case round =>
   obtain ⟨j,p,O,u,rfl,hj,hp,hOl,rfl,rfl,hst,hown,hbel⟩:=hrel
   clear HF
   have pp:(p:Int) ≤ (s.size:Int):=by omega
   by_cases hlt:j < many
   ·have pj:(j:Int) < (many:Int):=by omega
    have hst2:=hst.out
    rw [show many - j = (many - (j + 1)) + 1 by omega] at hst2
    obtain ⟨z,q,c,_hz,hsd,hcall⟩:=HItem.out p hp
    have HR:=Lib.hid hcall
    have hin:=hsd.in
    clear hcall hst
    by_cases hc0:c = 0
    ·subst hc0
     have hok:textF (s.data.toList.drop p) = .ok (z,s.data.toList.drop q):=by
      rcases hsd with ⟨_,_,h⟩ | ⟨h,_⟩
      ·exact h
      ·exact absurd rfl h
     have HS:=Lib.hid (hst2.trans (goT_more hok))
     have HSn:=Lib.hid (strV_snoc2 O z)
     have hq:=hin.1
     clear hsd hok hst2 hin
     go_wp2_with fail
     refine (HR.out _).mono ?_
     rintro e w2 ⟨rfl,hb⟩
     have HO2:=Lib.hid (st_keep hown.out hb)
     have HL2:=Lib.hid (hbel.out.trans (hb.mono hbel.out.size))
     clear hb
     go_wp2_with (at_builtin;refine wpList_append_own_at _ rfl _ _ 57 rfl wo.heap.size 9 i1 (.string ⟨#[]⟩) 1 16 Tryz.underlying57 hi' hz0' hz1' hz2' rfl (by decide) _ _ _ rfl (HO2.out.alloc _) ⟨w2.heap.size,0,none⟩ 1 1 [.string z] rfl rfl ?c1 ?c2 ?c3 ?c4 ?c5 ?_)
     case c1=>exact cell_one_new _ _ _
     case c2=>intro u hu;simp at hu;subst hu;rfl
     case c3=>unfold maxLen;omega
     case c4=>omega
     case c5=>have:=HL2.out.size;simp;omega
     intro v' w5 hown' hgrow _ hat
     have HB5:=Lib.hid (below_append HO2.out HL2.out (Nat.le_refl _) hgrow)
     rw [← HSn.out] at hown'
     have HO5:=Lib.hid hown'
     clear hown' hgrow hat hown hbel
     go_wp2_with fail
     go_roundw
     case rel=>exact ⟨j + 1,q,O ++ [z],_,rfl,by omega,hq,by rw [List.length_append,List.length_singleton,hOl],by go_num,rfl,HS.out,HO5.out,HB5.out⟩
     case measure=>simp [intOf];omega
    ·have HS:Hid (Sd s (txtsF (s.data.toList.drop a)) [] [] q c):=by
      rcases hsd with ⟨h,_⟩ | ⟨h1,h2,h3,_,er,h4,h5,h6⟩
      ·exact absurd h hc0
      ·exact .inr ⟨h1,h2,h3,rfl,er,hst2.trans (goT_err h4),h5,h6⟩
     have pne:((c:Int) != 0) = true:=by simp;omega
     clear hsd hst2 hin hc0
     go_wp2_with fail
     refine (HR.out _).mono ?_
     rintro e w2 ⟨rfl,hb⟩
     have HL2:=Lib.hid (hbel.out.trans (hb.mono hbel.out.size))
     clear hb
     go_wp2_with fail
     go_ret3
     exact HMk.out _ [] q c _ (World.ownsRow_nil _ _ _ _) HS.out HL2.out
   ·obtain rfl:j = many:=by omega
    have hst2:=hst.out
    rw [Nat.sub_self,goT_done] at hst2
    have HS:Hid (Sd s (txtsF (s.data.toList.drop a)) [] O p 0):=.inl ⟨rfl,hp,hst2⟩
    have HO:Hid (wr.ownsRow wo.heap.size 9 1 u O.length (strV O)):=by rw [hOl];exact hown.out
    clear hst hst2 hown
    go_wp2_with fail
    go_ret3
    exact HMk.out _ O p 0 _ HO.out HS.out hbel.out
 ·have HS:Hid (Sd s (txtsF (s.data.toList.drop a)) [] [] a0 c0):=.inr ⟨hc,hc5,hp,rfl,er,txtsF_err herr,hpe,hce⟩
  have pne:((c0:Int) != 0) = true:=by simp;omega
  clear herr hpe hce hc
  go_enter Tryz.func122,Tryz.ntmps122
  go_wp2_with fail
  refine (HC.out _).mono ?_
  rintro e w' ⟨rfl,rfl⟩
  go_wp2_with fail
  go_ret3
  exact HMk.out _ [] a0 c0 _ (World.ownsRow_nil _ _ _ _) HS.out (Below.refl _ _)
theorem decodeAll:DecodeAll:=by
 intro s w hs
 have hB:(s.size:Int) ≤ 1000000000000000:=by omega
 have HMk:Hid (∀ (A B:Option Addr) (c d:Nat) (x y:Nat) (ns:List Int) (ts:List ByteArray) (w':World),decR s = (ns,ts,x,y) → IntsAt w' A ns → StrsAt w' B ts → Below w.heap.size w w' → ns.length ≤ c → ts.length ≤ d → c ≤ maxLen → d ≤ maxLen → DecAns2 s w (.returned (.tuple #[packV A B c d ns ts,.int .i64 (x:Int),.int .i64 (y:Int)])) w'):=Lib.hid (fun A B c d x y ns ts w' h1 h2 h3 h4 h5 h6 h7 h8=>by
  refine ⟨A,B,c,d,?_,?_,?_,h4,?_,?_,h7,h8⟩ <;> rw [h1]
  ·exact h2
  ·exact h3
  ·exact h5
  ·exact h6)
 unfold packV at HMk
 have HI:=Lib.hid (fun W=>readInts_any s 0 W (by omega) hs)
 have HT:=Lib.hid (fun a (ha:a ≤ s.size) W=>readTexts_any s a W ha hs)
 unfold IntsAns at HI
 unfold TxtsAns at HT
 clear hs
 go_enter Tryz.func82,Tryz.ntmps82
 go_upto_region 1 with fail
 have hR0:Cel (w.alloc (.cells #[.slice none 0 0,.slice none 0 0] 148)) w.heap.size 148 [.slice none 0 0,.slice none 0 0]:=(blk1 w _).2
 have hBW:Below w.heap.size w (w.alloc (.cells #[.slice none 0 0,.slice none 0 0] 148)):=(Below.refl _ w).alloc (Nat.le_refl _) _
 generalize w.alloc (.cells #[.slice none 0 0,.slice none 0 0] 148) = W1 at hR0 hBW ⊢
 have HR0:=Lib.hid hR0
 have HBW:=Lib.hid hBW
 clear hR0 hBW
 go_wp2_with fail
 refine (HI.out _).mono ?_
 rintro e w2 ⟨v1,ns,p,c,rfl,hown1,hsd,hb⟩
 rw [List.drop_zero] at hsd
 have HR2:=Lib.hid (HR0.out.below hb)
 have HB2:=Lib.hid (HBW.out.trans (hb.mono HBW.out.size))
 have hlt1:w.heap.size < W1.heap.size:=HR0.out.lt
 have HS12:=Lib.hid hb.size
 clear HI hb
 rcases hsd with ⟨rfl,hp,hok⟩ | ⟨hc,hc5,hp,rfl,er,herr,hpe,hce⟩
 ·have HO1:=Lib.hid hown1
  have HOk:=Lib.hid hok
  have HTp:=Lib.hid (HT.out p hp)
  clear hown1 hok HT hp HR0 HBW
  go_wp2_with fail
  refine (HTp.out _).mono ?_
  rintro e w3 ⟨v2,ts,q,c,rfl,hown2,hsd,hb⟩
  have HR3:=Lib.hid (HR2.out.below hb)
  have HO3:=Lib.hid (st_keep HO1.out hb)
  have HB3:=Lib.hid (HB2.out.trans (hb.mono HB2.out.size))
  have hw12:W1.heap.size ≤ w2.heap.size:=HS12.out
  have HO2:=Lib.hid (owns_lower hown2 hw12)
  clear hown2 hb HO1 HR2 HB2 HTp hw12 HS12
  rcases hsd with ⟨rfl,hq,hok2⟩ | ⟨hc,hc5,hq,rfl,er,herr,hpe,hce⟩
  ·by_cases hlt:q < s.size
   ·have HD:=Lib.hid (show decR s = ([],[],q,3) by
     unfold decR
     rw [decL_lists,HOk.out];simp only;rw [hok2];simp only
     rw [if_neg (fun e=>by have:=List.drop_eq_nil_iff.1 e;rw [list_size] at this;omega)]
     simp only [Er.place,Er.code,List.length_drop,list_size]
     rw [show s.size - (s.size - q) = q by omega])
    have pq:(q:Int) < (s.size:Int):=by omega
    have q0:=HR3.out.cell (i:=0) rfl
    have q1:=HR3.out.cell (i:=1) rfl
    have q2:=HR3.out.free (i:=0)
    have q3:=HR3.out.free (i:=1)
    clear hok2 hlt
    go_wp2_with fail
    have HF:=Lib.hid ((HR3.out.set (i:=0) (v:=.slice none 0 0)).set (i:=1) (v:=.slice none 0 0))
    have z0:=HF.out.cell (i:=0) rfl
    have z1:=HF.out.cell (i:=1) rfl
    exact bodyPost_ret (v:=.tuple #[.agg #[.slice none 0 0,.slice none 0 0],.int .i64 (q:Int),.int .i64 (3:Int)]) (by simp [results,Tryz.results82,go_sem,z0,z1]) rfl
     (HMk.out none none 0 0 q 3 [] [] _ HD.out noInts noStrs ((HB3.out.setCell (Nat.le_refl _) _).setCell (Nat.le_refl _) _) (Nat.zero_le _) (Nat.zero_le _) (Nat.zero_le _) (Nat.zero_le _))
   ·have HD:=Lib.hid (show decR s = (ns,ts,0,0) by
     unfold decR
     rw [decL_lists,HOk.out];simp only;rw [hok2];simp only
     rw [if_pos (List.drop_eq_nil_of_le (by rw [list_size];omega))])
    have pq:(s.size:Int) ≤ (q:Int):=by omega
    have q0:=HR3.out.cell (i:=0) rfl
    have q1:=HR3.out.cell (i:=1) rfl
    have q2:=HR3.out.free (i:=0)
    have q3:=HR3.out.free (i:=1)
    obtain ⟨A1,cA,rfl,l1,l2⟩:=own_form HO3.out
    obtain ⟨B1,cB,rfl,l3,l4⟩:=own_form HO2.out
    have HL:=Lib.hid (And.intro l1 (And.intro l2 (And.intro l3 l4)))
    clear hok2 hlt l1 l2 l3 l4
    go_wp2_with fail
    have HF:=Lib.hid ((HR3.out.set (i:=0) (v:=.slice A1 ns.length cA)).set (i:=1) (v:=.slice B1 ts.length cB))
    have z0:=HF.out.cell (i:=0) rfl
    have z1:=HF.out.cell (i:=1) rfl
    have rr0:=ownsRow_setCell_below (ownsRow_setCell_below HO3.out (a:=⟨w.heap.size,0,none⟩) hlt1 (.slice A1 ns.length cA)) (a:=⟨w.heap.size,1,none⟩) hlt1 (.slice B1 ts.length cB)
    have rr1:=ownsRow_setCell_below (ownsRow_setCell_below HO2.out (a:=⟨w.heap.size,0,none⟩) hlt1 (.slice A1 ns.length cA)) (a:=⟨w.heap.size,1,none⟩) hlt1 (.slice B1 ts.length cB)
    exact bodyPost_ret (v:=.tuple #[.agg #[.slice A1 ns.length cA,.slice B1 ts.length cB],.int .i64 ((0:Nat):Int),.int .i64 ((0:Nat):Int)]) (by simp [results,Tryz.results82,go_sem,z0,z1]) rfl
     (HMk.out A1 B1 cA cB 0 0 ns ts _ HD.out (ints_own_at rr0 rfl) (strs_own_at rr1 rfl) ((HB3.out.setCell (Nat.le_refl _) _).setCell (Nat.le_refl _) _) HL.out.1 HL.out.2.2.1 HL.out.2.1 HL.out.2.2.2)
  ·have HD:=Lib.hid (show decR s = ([],[],q,c) by
    unfold decR
    rw [decL_lists,HOk.out];simp only;rw [herr,hpe,hce])
   have pne:((c:Int) != 0) = true:=by simp;omega
   have q0:=HR3.out.cell (i:=0) rfl
   have q1:=HR3.out.cell (i:=1) rfl
   have q2:=HR3.out.free (i:=0)
   have q3:=HR3.out.free (i:=1)
   clear herr hpe hce hc
   go_wp2_with fail
   have HF:=Lib.hid ((HR3.out.set (i:=0) (v:=.slice none 0 0)).set (i:=1) (v:=.slice none 0 0))
   have z0:=HF.out.cell (i:=0) rfl
   have z1:=HF.out.cell (i:=1) rfl
   exact bodyPost_ret (v:=.tuple #[.agg #[.slice none 0 0,.slice none 0 0],.int .i64 (q:Int),.int .i64 (c:Int)]) (by simp [results,Tryz.results82,go_sem,z0,z1]) rfl
    (HMk.out none none 0 0 q c [] [] _ HD.out noInts noStrs ((HB3.out.setCell (Nat.le_refl _) _).setCell (Nat.le_refl _) _) (Nat.zero_le _) (Nat.zero_le _) (Nat.zero_le _) (Nat.zero_le _))
 ·have HD:=Lib.hid (show decR s = ([],[],p,c) by
   unfold decR;rw [decL_lists,herr,hpe,hce])
  have pne:((c:Int) != 0) = true:=by simp;omega
  have q0:=HR2.out.cell (i:=0) rfl
  have q1:=HR2.out.cell (i:=1) rfl
  have q2:=HR2.out.free (i:=0)
  have q3:=HR2.out.free (i:=1)
  clear herr hpe hce hc hown1 HT HR0 HBW
  go_wp2_with fail
  have HF:=Lib.hid ((HR2.out.set (i:=0) (v:=.slice none 0 0)).set (i:=1) (v:=.slice none 0 0))
  have z0:=HF.out.cell (i:=0) rfl
  have z1:=HF.out.cell (i:=1) rfl
  exact bodyPost_ret (v:=.tuple #[.agg #[.slice none 0 0,.slice none 0 0],.int .i64 (p:Int),.int .i64 (c:Int)]) (by simp [results,Tryz.results82,go_sem,z0,z1]) rfl
   (HMk.out none none 0 0 p c [] [] _ HD.out noInts noStrs ((HB2.out.setCell (Nat.le_refl _) _).setCell (Nat.le_refl _) _) (Nat.zero_le _) (Nat.zero_le _) (Nat.zero_le _) (Nat.zero_le _))
end Pk
end Go.Proofs.YtlfkhlfkckfbpaaGreat
namespace Go.Proofs.YtlfkhlfkckfbpaaGreat
namespace Rc
open Go.RowKit Bk Lt
attribute [local go_sem ↓] Go.wp_at_zero Go.wp_at_succ
attribute [local go_sem] floatUpon pick
theorem RecOk.arg {r:Rec} (h:RecOk r) {c d:Nat} (h1:(numsOf r).length ≤ c) (h2:(textsOf r).length ≤ d) (h3:c ≤ maxLen) (h4:d ≤ maxLen):Pk.ArgOk c d (numsOf r) (textsOf r):=by
 obtain ⟨m1,m2,m3,m4⟩:=h.pack
 exact ⟨by omega,by omega,fun n hn=>by have:=m3 n hn;unfold Pk.numOk at this;omega,fun t ht=>by have:=m4 t ht;omega,h1,h2,h3,h4⟩
theorem lencodeAll:EncodeAll:=by
 intro A B c d r w h
 have HC:=Lib.hid (fun W (hbl:Below w.heap.size w W)=>rcheck_any A B c d r W (h.ks.below hbl) (h.ws.below hbl) h.rng.toRecRng)
 have henv:=RcEnv.start (c:=c) (d:=d) h.ks h.ws
 by_cases hm:RecOk r
 ·have E:=Lib.hid (encV_ok hm)
  have HB:=Lib.hid (fun W (hbl:Below w.heap.size w W)=>toPack_any A B c d r W (h.ks.below hbl) (h.ws.below hbl) (fun e=>(h.kn e).2) hm)
  have HP:=Lib.hid (fun A1 B1 c1 d1 W (h1:IntsAt W A1 (numsOf r)) (h2:StrsAt W B1 (textsOf r)) (h3:(numsOf r).length ≤ c1) (h4:(textsOf r).length ≤ d1) (h5:c1 ≤ maxLen) (h6:d1 ≤ maxLen)=>Pk.encodeAll A1 B1 c1 d1 (numsOf r) (textsOf r) W h1 h2 (hm.arg h3 h4 h5 h6))
  rw [Pk.encV_ok hm.pack] at HP
  rw [ckN_of hm] at HC
  have HE:=Lib.hid henv
  unfold recV at HC HB ⊢
  unfold Pk.packV at HB HP
  clear h hm henv
  go_enter Tryz.func53,Tryz.ntmps53
  go_wp2_with fail
  refine (HC.out _ ((Below.refl _ w).alloc (Nat.le_refl _) _)).mono ?_
  rintro e w1 ⟨rfl,hb⟩
  have henv:=HE.out.step hb
  have HB1:=Lib.hid henv.bel
  have k0:=henv.cel.cell (i:=0) rfl
  have k1:=henv.cel.cell (i:=1) rfl
  have k2:=henv.cel.cell (i:=2) rfl
  have k3:=henv.cel.cell (i:=3) rfl
  have k4:=henv.cel.cell (i:=4) rfl
  have k5:=henv.cel.cell (i:=5) rfl
  have k6:=henv.cel.cell (i:=6) rfl
  have k7:=henv.cel.cell (i:=7) rfl
  have k8:=henv.cel.cell (i:=8) rfl
  clear hb HC HE henv
  go_wp2_with fail
  refine (HB.out _ HB1.out).mono ?_
  rintro e w2 ⟨A1,B1,c1,d1,rfl,g1,g2,g3,g4,g5,g6,hb⟩
  have HB2:=Lib.hid (HB1.out.trans (hb.mono HB1.out.size))
  have HP2:=Lib.hid (HP.out A1 B1 c1 d1 w2 g1 g2 g3 g4 g5 g6)
  clear hb g1 g2 g3 g4 g5 g6 HP HB
  go_wp2_with fail
  refine HP2.out.mono ?_
  rintro e w3 ⟨rfl,hb⟩
  have HB3:=Lib.hid (HB2.out.trans (hb.mono HB2.out.size))
  clear hb
  go_wp2_with fail
  go_ret2
  exact ⟨by rw [E.out];rfl,HB3.out⟩
 ·have E:=Lib.hid (encV_bad hm)
  rw [ckN_not hm] at HC
  unfold recV at HC ⊢
  clear h hm henv
  go_enter Tryz.func53,Tryz.ntmps53
  go_wp2_with fail
  refine (HC.out _ ((Below.refl _ w).alloc (Nat.le_refl _) _)).mono ?_
  rintro e w1 ⟨rfl,hb⟩
  have HB1:=Lib.hid (below_new hb)
  clear hb HC
  go_wp2_with fail
  go_ret2
  exact ⟨by rw [E.out];rfl,HB1.out⟩
end Rc
end Go.Proofs.YtlfkhlfkckfbpaaGreat
namespace Go.Proofs.YtlfkhlfkckfbpaaGreat
namespace Ck
open Go.RowKit Bk Sc Rd Rc Lt
attribute [local go_sem ↓] Go.wp_at_zero Go.wp_at_succ
attribute [local go_sem] floatUpon pick
abbrev LC:=CAt Sc.Rep Rd.LRep 76
section
variable {w W:World} {F:Nat → Prop} {b g p:Nat} {D:Dev} {blk:Int} {k:Cl}
theorem one_len {t:ByteArray} (ht:t.size ≤ 4096):(allF [t]).length ≤ 140737488355328:=by
 have h2:t.data.toList.length = t.size:=Array.length_toList
 unfold allF frs
 simp only [List.length_cons,List.length_nil,List.take_succ_cons,List.take_nil,List.drop_zero,List.flatMap_cons,List.flatMap_nil,List.append_nil,Su.frameL_len]
 omega
theorem lwrite_any (h:LC w F b g p D blk k) (hi:LgIn D k.l) (hu:D.down = false) (t:ByteArray) (ht:t.size ≤ 4096) :
  Calls Tryz.prog 54 #[.pointer (some ⟨b,0,none⟩),.string t] w fun e w'=>e = .returned (.int .i64 (writeC D k.l t).2.2) ∧ CPost Sc.Rep Rd.LRep 76 w F b g p blk (writeC D k.l t).1 ⟨(writeC D k.l t).2.1,k.last,k.bound⟩ w':=by
 have hrb:reachBytes = 140737488351232:=rfl
 have HAp:=Lib.hid (Side.app logF h.sd hi hu t (by rw [hrb];omega))
 have HIn:=Lib.hid (app_in (h.sd.ok (devF_of devBase)) hi t)
 have HW:=Lib.hid (show writeC D k.l t = if (appendP D k.l t).2 = 100 then restartP D (appendP D k.l t).1 [t] else if (appendP D k.l t).2 = 0 then syncP D (appendP D k.l t).1 else (D,appendP D k.l t) from rfl)
 have HU:=Lib.hid (And.intro hu ht)
 have HH:=Lib.hid h
 have s0:=h.cel.cell (i:=0) rfl
 clear h hi hu ht hrb
 go_enter Tryz.func54,Tryz.ntmps54
 go_wp2_with fail
 refine HAp.out.mono ?_
 rintro e1 w1 ⟨rfl,F1,hs1,hf1⟩
 have H1:=Lib.hid (HH.out.dev hs1 hf1)
 clear hs1 hf1 s0 HAp HH
 obtain ⟨l1,er,he1⟩:∃ l1 er,appendP D k.l t = (l1,er):=⟨_,_,rfl⟩
 rw [he1] at H1 HIn HW ⊢
 simp only at H1 HIn HW ⊢
 clear he1
 have s1:=H1.out.1.cel.cell (i:=0) rfl
 by_cases h0:er = 100
 ·subst h0
  rw [if_pos rfl] at HW
  have HB:=Lib.hid ((Below.refl _ w1).alloc (Nat.le_refl _) (.cells #[.string t] 9))
  have H2:=Lib.hid (H1.out.1.below (devF_of devBase) logF HB.out)
  have hst:StrsAt (w1.alloc (.cells #[.string t] 9)) (some ⟨w1.heap.size,0,none⟩) [t]:=fun _=>⟨⟨w1.heap.size,0,none⟩,rfl,by simp,fun i hi=>by
   have hi':i < 1:=hi
   obtain rfl:i = 0:=by omega
   exact blk_cell (blk1 w1 _).2 rfl⟩
  have hrb:reachBytes = 140737488351232:=rfl
  have HRs:=Lib.hid (Side.rst logF H2.out.sd HIn.out HU.out.1 (some ⟨w1.heap.size,0,none⟩) 1 [t] hst (fun e=>by cases e) (fun _ x hx=>by
   cases hx
   exact ⟨by simp,fun hf=>Nat.lt_irrefl _ (H1.out.1.sd.lt (devF_of devBase) logF _ hf)⟩) (by rw [hrb];show 1 * 16 ≤ _;omega) (fun x hx=>by rw [List.mem_singleton.1 hx,hrb];have:=HU.out.2;omega) (one_len HU.out.2))
  clear hst hrb
  go_wp2_with fail
  refine HRs.out.mono ?_
  rintro e2 w2 ⟨rfl,F2,hs2,hf2⟩
  have H3:=Lib.hid (H2.out.dev hs2 hf2)
  clear hs2 hf2 HRs s1
  go_wp2_with fail
  go_ret
  rw [HW.out]
  exact ⟨rfl,F2,H3.out.1,H1.out.2.trans (Fr.after HB.out H3.out.2)⟩
 rw [if_neg h0] at HW
 by_cases h1:er = 0
 ·subst h1
  rw [if_pos rfl] at HW
  have HSy:=Lib.hid (Side.syn logF H1.out.1.sd HIn.out HU.out.1)
  clear h0
  go_wp2_with fail
  refine HSy.out.mono ?_
  rintro e2 w2 ⟨rfl,F2,hs2,hf2⟩
  have H3:=Lib.hid (H1.out.1.dev hs2 hf2)
  clear hs2 hf2 HSy s1
  go_wp2_with fail
  go_ret
  rw [HW.out]
  exact ⟨rfl,F2,H3.out.1,H1.out.2.trans H3.out.2⟩
 ·rw [if_neg h1] at HW
  have z0:(er == 100) = false:=by simpa using h0
  have z1:(er != 0) = true:=by simpa using h1
  clear h0 h1
  go_wp2_with fail
  go_ret
  rw [HW.out]
  exact ⟨rfl,F1,H1.out.1,H1.out.2⟩
theorem ltake_any (h:LC w F b g p D blk k) (hi:LgIn D k.l) (hu:D.down = false) (n:Int) (h1:1 ≤ n) (h2:n ≤ mxS) :
  Calls Tryz.prog 25 #[.pointer (some ⟨b,0,none⟩),.int .i64 n] w fun e w'=>e = .returned (.int .i64 (raiseC D k n).2.2) ∧ CPost Sc.Rep Rd.LRep 76 w F b g p blk (raiseC D k n).1 (raiseC D k n).2.1 w':=by
 have hen:=Rc.lencodeAll none none 0 0 (bareR 7 0 n) w (Rc.bare_val w 7 0 n (up_ok h1 h2))
 rw [Rc.encV_ok (up_ok h1 h2)] at hen
 rw [show (⟨(recL (bareR 7 0 n)).toArray⟩:ByteArray) = upB n from rfl] at hen
 unfold Rc.recV bareR at hen
 have HEn:=Lib.hid hen
 have HH:=Lib.hid h
 have HSz:=Lib.hid (up_size h1 h2)
 have HI:=Lib.hid (And.intro hi hu)
 have HR:=Lib.hid (show raiseC D k n = ((writeC D k.l (upB n)).1,⟨(writeC D k.l (upB n)).2.1,k.last,if (writeC D k.l (upB n)).2.2 = 0 then n else k.bound⟩,(writeC D k.l (upB n)).2.2) from rfl)
 clear h hi hu h1 h2 hen
 go_enter Tryz.func25,Tryz.ntmps25
 go_wp2_with fail
 refine HEn.out.mono ?_
 rintro e1 w1 ⟨rfl,hb1⟩
 have HB:=Lib.hid hb1
 have H1:=Lib.hid (HH.out.below (devF_of devBase) logF hb1)
 have HWr:=Lib.hid (lwrite_any H1.out HI.out.1 HI.out.2 (upB n) (by have:=HSz.out;omega))
 clear hb1 HEn
 generalize upB n = t at HWr HR ⊢
 generalize writeC D k.l t = R at HWr HR ⊢
 obtain ⟨D2,l2,er⟩:=R
 simp only at HWr HR ⊢
 go_wp2_with fail
 refine HWr.out.mono ?_
 rintro e2 w2 ⟨rfl,F2,h2,hf2⟩
 have H2:=Lib.hid h2
 have HF2:=Lib.hid (Fr.after HB.out hf2)
 clear h2 hf2 HWr
 by_cases h0:er = 0
 ·subst h0
  rw [if_pos rfl] at HR
  have s3:=H2.out.cel.cell (i:=3) rfl
  have fr:=fun i=>H2.out.cel.free (i:=i)
  have H3:=Lib.hid (H2.out.setBound (devF_of devBase) logF n)
  have HF3:=Lib.hid (fr_set HF2.out (b:=b) (.inl (.inr rfl)) 3 (.int .i64 n))
  go_wp2_with fail
  go_ret
  rw [HR.out]
  exact ⟨rfl,F2,H3.out,HF3.out⟩
 ·rw [if_neg h0] at HR
  have z:(er != 0) = true:=by simpa using h0
  clear h0
  go_wp2_with fail
  go_ret
  rw [HR.out]
  exact ⟨rfl,F2,H2.out,HF2.out⟩
end
end Ck
end Go.Proofs.YtlfkhlfkckfbpaaGreat
namespace Go.Proofs.YtlfkhlfkckfbpaaGreat
namespace Rc
open Go.RowKit Bk Lt
attribute [local go_sem ↓] Go.wp_at_zero Go.wp_at_succ
attribute [local go_sem] floatUpon pick
def TwAns (fs:List Int) (ts:List ByteArray) (w:World):Ending → World → Prop:=fun e w' =>
 ((∀ f ∈ fs,f = 0 ∨ f = 1) ∧ ∃ v,e = .returned (.tuple #[v,.bool true]) ∧ w'.ownsRow w.heap.size 139 3 v fs.length (wrV (pairL fs ts)) ∧ Below w.heap.size w w') ∨
 (¬ (∀ f ∈ fs,f = 0 ∨ f = 1) ∧ e = .returned (.tuple #[.slice none 0 0,.bool false]) ∧ Below w.heap.size w w')
theorem toWrites_any (A B:Option Addr) (c d:Nat) (fs:List Int) (ts:List ByteArray) (w:World) (ha:IntsAt w A fs) (hb:StrsAt w B ts) (hl:ts.length = 2 * fs.length) (h1:fs.length ≤ 100000) :
  Calls Tryz.prog 125 #[.slice A fs.length c,.slice B ts.length d] w (TwAns fs ts w):=by
 obtain ⟨i0,hi,hz0,hz1,hz2⟩:=info_parts Tryz.infoWrite
 have hpl:=pairL_len fs ts hl
 have pfl:(fs.length:Int) ≤ 100000:=by omega
 have HMk:Hid (∀ v w',(∀ f ∈ fs,f = 0 ∨ f = 1) → w'.ownsRow w.heap.size 139 3 v fs.length (wrV (pairL fs ts)) → Below w.heap.size w w' → TwAns fs ts w (.returned (.tuple #[v,.bool true])) w'):=Lib.hid (fun v w' h a b=>.inl ⟨h,v,rfl,a,b⟩)
 have HMn:Hid (∀ w',¬ (∀ f ∈ fs,f = 0 ∨ f = 1) → Below w.heap.size w w' → TwAns fs ts w (.returned (.tuple #[.slice none 0 0,.bool false])) w'):=Lib.hid (fun w' h b=>.inr ⟨h,rfl,b⟩)
 have HL:=Lib.hid hl
 have HPl:=Lib.hid hpl
 have HA:=Lib.hid ha
 have HB:=Lib.hid hb
 clear hl hpl ha hb
 go_enter Tryz.func125,Tryz.ntmps125
 go_wp2_with fail
 go_loopw [6,13] (fun x i wr=>∃ (j:Nat) (u:Value),u = x ∧ j ≤ fs.length ∧ i = .int .i64 (j:Int) ∧ Hid (∀ f ∈ fs.take j,f = 0 ∨ f = 1) ∧ Hid (wr.ownsRow w.heap.size 139 3 u j (wrV ((pairL fs ts).take j))) ∧ Hid (Below w.heap.size w wr)) (fun _ i _=>fs.length - (intOf i).toNat)
 case atStart=>exact ⟨0,_,rfl,by omega,rfl,fun f h=>absurd h (by simp),World.ownsRow_nil _ _ _ _,Below.refl _ _⟩
 case round =>
  obtain ⟨j,u,rfl,hj,rfl,hall,hown,hbel⟩:=hrel
  by_cases hlt:j < fs.length
  ·have pj:(j:Int) < (fs.length:Int):=by omega
   have l1:2 * j < ts.length:=by have:=HL.out;omega
   have l2:2 * j + 1 < ts.length:=by have:=HL.out;omega
   obtain ⟨ad,rfl,_,_⟩:=HA.out (by omega)
   obtain ⟨bd,rfl,_,_⟩:=HB.out (by omega)
   have hp:=pairL_at fs ts HL.out j hlt (by rw [HPl.out];exact hlt) l1 l2
   have hmem:fs[j] ∈ fs:=List.getElem_mem hlt
   have hT:=fun W=>toBool_any fs[j] W
   have hAl:=mem_take_succ hlt hall.out
   obtain ⟨k,hk⟩:∃ k,k = ts[2 * j]:=⟨_,rfl⟩
   obtain ⟨s,hs⟩:∃ s,s = ts[2 * j + 1]:=⟨_,rfl⟩
   obtain ⟨f,hf⟩:∃ f,f = fs[j]:=⟨_,rfl⟩
   rw [← hf] at hmem hT hAl
   obtain ⟨dd,hd⟩:∃ dd,dd = (f == 1):=⟨_,rfl⟩
   rw [← hk,← hs,← hf,← hd] at hp
   rw [← hd] at hT
   have htk:wrV ((pairL fs ts).take (j + 1)) = wrV ((pairL fs ts).take j) ++ [.string k,.string s,.bool dd]:=by
    rw [List.take_add_one,List.getElem?_eq_getElem (by rw [HPl.out];exact hlt),hp]
    exact wrV_snoc _ _
   have hC:∀ W,Below w.heap.size w W → W.cell? (bd.add (2 * j)) = some (.string k) ∧ W.cell? (bd.add (2 * j + 1)) = some (.string s) ∧ W.cell? (ad.add j) = some (.int .i64 f):=fun W hW=>by
    obtain ⟨ad',e1,_,hca⟩:=(HA.out.below hW) (by omega)
    obtain ⟨bd',e2,_,hcb⟩:=(HB.out.below hW) (by omega)
    obtain rfl:=Option.some.inj e1
    obtain rfl:=Option.some.inj e2
    rw [hk,hs,hf]
    exact ⟨hcb _ l1,hcb _ l2,hca _ hlt⟩
   have x7:=(hC _ hbel.out).2.2
   have HC:=Lib.hid hC
   have HTk:=Lib.hid htk
   have p1:(2 * (j:Int)) < (ts.length:Int):=by omega
   have p2:(2 * (j:Int)) + 1 < (ts.length:Int):=by omega
   have w2:IntKind.i64.wrap (2 * (j:Int)) = 2 * (j:Int):=i64_wrap (by omega) (by omega)
   have w3:IntKind.i64.wrap (2 * (j:Int) + 1) = 2 * (j:Int) + 1:=i64_wrap (by omega) (by omega)
   obtain ⟨q0,hq0⟩:∃ q,q = 2 * j:=⟨_,rfl⟩
   obtain ⟨q1,hq1⟩:∃ q,q = 2 * j + 1:=⟨_,rfl⟩
   have t2:(2 * (j:Int)).toNat = q0:=by omega
   have t3:(2 * (j:Int) + 1).toNat = q1:=by omega
   rw [← hq1,← hq0] at HC
   clear hC hp htk hk hs hf hd hq0 hq1 l1 l2 hall
   by_cases hf01:f = 0 ∨ f = 1
   case neg =>
    rw [decide_eq_false hf01] at hT
    have HT:=Lib.hid hT
    have HN:=Lib.hid (show ¬ (∀ f ∈ fs,f = 0 ∨ f = 1) from fun h=>hf01 (h f hmem))
    clear hT hmem hAl hf01
    go_wp2_with fail
    refine (HT.out _).mono ?_
    rintro e w8 ⟨rfl,rfl⟩
    go_wp2_with fail
    go_ret2
    exact HMn.out _ HN.out hbel.out
   rw [decide_eq_true hf01] at hT
   have HT:=Lib.hid hT
   have HAl:=Lib.hid (hAl hf01)
   clear hT hmem hAl hf01
   go_wp2_with fail
   refine (HT.out _).mono ?_
   rintro e w8 ⟨rfl,rfl⟩
   clear x7
   go_upto_region 8 with fail
   refine wp_region_said 15 [25,26,27,28,29,30,31,32,33,34,35,36,37,38,39]
    [.is u,.is (.slice (some bd) ts.length d),.is (.int .i64 (j:Int)),.is (.int .i64 (2 * (j:Int))),.is (.pointer (some (bd.add q0))),.is (.string k),.is (.slice (some bd) ts.length d),.is (.int .i64 (j:Int)),.is (.int .i64 (2 * (j:Int))),.is (.int .i64 (2 * (j:Int) + 1)),.is (.pointer (some (bd.add q1))),.is (.string s),.is (.bool dd),.is (.agg #[.string k,.string s,.bool dd]),.arr 139 #[.string k,.string s,.bool dd] 1 1]
    (fun W=>W.ownsRow w.heap.size 139 3 u j (wrV ((pairL fs ts).take j)) ∧ Below w.heap.size w W) (by kernel_rfl) (by kernel_rfl) (by kernel_rfl) (by kernel_rfl) (by kernel_rfl) (fun W W' h hb=>⟨st_keep h.1 hb,h.2.trans (hb.mono h.2.size)⟩) ⟨hown.out,hbel.out⟩ ?steps ?last
   case steps =>
    simp only [List.take_succ_cons,List.take_zero]
    refine ⟨?_,?_,?_,?_,?_,?_,?_,?_,?_,?_,?_,?_,?_,?_,?_,trivial⟩
    all_goals
     intro vs W ρ hρ hc hf hg hI hH hd R' hR
     obtain ⟨z0,z1,-⟩:=HC.out W hI.2
     have HR:=Lib.hid hR
     simp [depsOf,Region.binds,sayAt,Say.holds] at hd
     clear hR hI
     go_simp
     first
      | exact HR.out _ _ (by simp [sayAt,Say.holds]) (Below.refl _ _) (by simp [sayAt,Say.isBlk])
      | exact HR.out _ _ ⟨_,hH,by simp,rfl,heap_alloc_new _ _⟩ ((Below.refl _ _).alloc (Nat.le_refl _) _) (fun h=>by cases h)
      | trace_state
   case last =>
    intro vs W hI hb hg hd
    have g0:=hg 0 (by omega)
    obtain ⟨o,ho1,ho2,g14,ho⟩:=hg 14 (by omega)
    simp only [sayAt,Say.holds,List.getD_cons_zero] at g0
    simp only [List.take_succ_cons,List.take_zero,List.drop_succ_cons,List.drop_zero,putAll,Act.put,List.setIfInBounds_toArray,List.set_cons_succ,List.set_cons_zero,Nat.zero_add,Nat.reduceAdd]
    rw [g0,g14]
    have HI:=Lib.hid hI
    clear g0 g14 hg hd hI hown hbel
    refine wpList_append_own_at _ rfl _ _ 58 rfl w.heap.size 139 i0 (.agg #[.string ⟨#[]⟩,.string ⟨#[]⟩,.bool false]) 3 40 Tryz.underlying58 hi hz0 hz1 hz2 rfl (by decide) _ _ _ rfl HI.out.1 ⟨o,0,none⟩ 1 1 [.string k,.string s,.bool dd] rfl rfl ?d1 ?d2 ?d3 ?d4 HI.out.2.size ?_
    case d1=>exact new_row ho
    case d2=>intro q hq;simp at hq;rcases hq with rfl | rfl | rfl <;> rfl
    case d3=>unfold maxLen;omega
    case d4=>omega
    intro v' w5 hown' hgrow _ hat
    have HB5:=Lib.hid (HI.out.2.grown hgrow HI.out.2.size (fun k hk=>(HI.out.1.lt k hk).1))
    rw [← HTk.out] at hown'
    have HO5:=Lib.hid hown'
    clear hown' hgrow hat HI ho ho1 ho2 hb
    go_wp2_with fail
    go_roundw
    case rel=>exact ⟨j + 1,_,rfl,by omega,by go_num,HAl.out,HO5.out,HB5.out⟩
    case measure=>simp [intOf];omega
  ·obtain rfl:j = fs.length:=by omega
   have ho:=hown.out
   rw [List.take_of_length_le (by rw [HPl.out];exact Nat.le_refl _)] at ho
   have ha2:=hall.out
   rw [List.take_length] at ha2
   have HO:=Lib.hid ho
   have HAl:=Lib.hid ha2
   clear ho hown hall ha2
   go_wp2_with fail
   go_ret2
   exact HMk.out _ _ HAl.out HO.out hbel.out
end Rc
end Go.Proofs.YtlfkhlfkckfbpaaGreat
namespace Go.Proofs.YtlfkhlfkckfbpaaGreat
namespace Lt
open Go.RowKit Bk
attribute [local go_sem ↓] Go.wp_at_zero Go.wp_at_succ
attribute [local go_sem] floatUpon pick
theorem clone_any (ad:Addr) (c:Nat) (l:List ByteArray) (w:World) (h:StrsAt w (some ad) l) (h16:l.length * 16 ≤ 140737488351232) :
  Calls Tryz.prog 85 #[.slice (some ad) l.length c] w fun e w'=>∃ (A1:Option Addr) (c1:Nat),e = .returned (.slice A1 l.length c1) ∧ w'.ownsRow w.heap.size 9 1 (.slice A1 l.length c1) l.length (strV l) ∧ Below w.heap.size w w':=by
 obtain ⟨i0,hi,hz0,hz1,hz2⟩:=info_parts Tryz.infoStr
 have HSt:=Lib.hid h
 have hO0:(w.alloc (.cells #[] 9)).ownsRow w.heap.size 9 1 (.slice (some ⟨w.heap.size,0,none⟩) 0 0) 0 []:=World.ownsRow_lit (base:=w.heap.size) (e:=9) (size:=1) w #[] 0 (Nat.le_refl _) (by unfold maxLen;omega) rfl
 have HO0:=Lib.hid hO0
 have q22:∀ W:World,(binOp .eql 57 (.slice (some ad) l.length c) (.slice none 0 0)).run Tryz.prog W = .ok (.bool false) W:=fun W=>Lib.run_eql_slice_nil W _ _ (some ad) l.length c 0 0 Tryz.underlying57
 clear h hO0
 go_enter Tryz.func85,Tryz.ntmps85
 go_wp2_with (at_builtin;refine wpList_append_opt rfl _ _ 57 rfl w.heap.size 9 i0 (.string ⟨#[]⟩) 16 Tryz.underlying57 hi hz0 hz1 hz2 rfl _ 0 _ rfl HO0.out (some ad) l.length c (strV l) rfl (strV_len _) (fun e=>by cases e) ?c1 ?c2 ?c3 ?c4 (by simp) ?_)
 case c1=>exact fun ad' e=>by obtain rfl:=Option.some.inj e;exact (HSt.out.alloc _).news
 case c2=>intro u hu;obtain ⟨s,_,rfl⟩:=List.mem_map.1 hu;rfl
 case c3=>unfold maxLen;omega
 case c4=>omega
 intro v' w3 ho hg hat
 have HB3:Hid (Below w.heap.size w w3):=Lib.hid (((Below.refl _ w).alloc (Nat.le_refl _) (.cells #[] 9)).grown hg (by simp) (fun k hk=>(HO0.out.lt k hk).1))
 obtain ⟨A1,c1,rfl,f1,f2⟩:=Pk.own_form ho
 have HO:=Lib.hid ho
 clear ho hg hat f1 f2
 go_wp2_with fail
 go_ret
 exact ⟨A1,c1,rfl,HO.out,HB3.out⟩
end Lt
end Go.Proofs.YtlfkhlfkckfbpaaGreat
