/- Parts of the proof, joined: PkDone5, PkDone, RcEncL, VtDecL; their conditions stand with each. -/
import Derived.Test.YtbkanoblcojdfaaGreatV15
import Derived.Test.YtbkanoblcojdfaaGreatV16
import Derived.Test.YtbkanoblcojdfaaGreatV17

set_option maxRecDepth 20000
set_option maxHeartbeats 8000000
namespace Go.Proofs.YtbkanoblcojdfaaGreat
namespace Pk
open Go.RowKit Bk
attribute [local go_sem ↓] Go.wp_at_zero Go.wp_at_succ
attribute [local go_sem] floatUpon pick
theorem goN_more2 {O:List Int} {k:Nat} {z:Int} {L r:List UInt8} (h:sgnF L = .ok (z,r)):goN O (k + 1) L = goN (O ++ [z]) k r:=by
 unfold sgnF at h
 cases h1:numF L with
 | error e=>rw [h1] at h;cases h
 | ok x =>
  obtain ⟨n,r1⟩:=x
  rw [h1] at h
  simp only [Except.ok.injEq,Prod.mk.injEq] at h
  obtain ⟨rfl,rfl⟩:=h
  exact goN_more h1
theorem goN_err2 {O:List Int} {k:Nat} {L:List UInt8} {e:Er} (h:sgnF L = .error e):goN O (k + 1) L = .error e:=by
 unfold sgnF at h
 cases h1:numF L with
 | error e2=>rw [h1] at h;cases h;exact goN_err h1
 | ok x=>obtain ⟨n,r1⟩:=x;rw [h1] at h;cases h
def intsF (L:List UInt8):Except Er (List Int × List UInt8) :=
 match cnt 1024 L with
 | .error e=>.error e
 | .ok (k,r)=>numsF k r
def txtsF (L:List UInt8):Except Er (List ByteArray × List UInt8) :=
 match cnt 1024 L with
 | .error e=>.error e
 | .ok (k,r)=>textsF k r
theorem intsF_err {L:List UInt8} {e:Er} (h:cnt 1024 L = .error e):intsF L = .error e:=by unfold intsF;rw [h]
theorem intsF_ok {L r:List UInt8} {k:Nat} (h:cnt 1024 L = .ok (k,r)):intsF L = goN [] (k - 0) r:=by unfold intsF;rw [h,Nat.sub_zero,goN_start]
theorem txtsF_err {L:List UInt8} {e:Er} (h:cnt 1024 L = .error e):txtsF L = .error e:=by unfold txtsF;rw [h]
theorem txtsF_ok {L r:List UInt8} {k:Nat} (h:cnt 1024 L = .ok (k,r)):txtsF L = goT [] (k - 0) r:=by unfold txtsF;rw [h,Nat.sub_zero,goT_start]
theorem decL_lists (L:List UInt8):decL L = match intsF L with
  | .error e=>.error e
  | .ok (ns,r)=>match txtsF r with
   | .error e=>.error e
   | .ok (ts,r4)=>if r4 = [] then .ok (ns,ts) else .error (.bad r4.length 3):=by
 unfold decL intsF
 cases cnt 1024 L with
 | error e=>rfl
 | ok x =>
  obtain ⟨k,r1⟩:=x
  simp only
  cases numsF k r1 with
  | error e=>rfl
  | ok y =>
   obtain ⟨ns,r2⟩:=y
   simp only
   unfold txtsF
   cases cnt 1024 r2 with
   | error e=>rfl
   | ok z=>rfl
def IntsAns (s:ByteArray) (a:Nat) (w:World):Ending → World → Prop:=fun e w' =>
 ∃ (v:Value) (ns:List Int) (p c:Nat),e = .returned (.tuple #[v,.int .i64 (p:Int),.int .i64 (c:Int)]) ∧ w'.ownsRow w.heap.size 3 1 v ns.length (intV ns) ∧ Sd s (intsF (s.data.toList.drop a)) [] ns p c ∧ Below w.heap.size w w'
def TxtsAns (s:ByteArray) (a:Nat) (w:World):Ending → World → Prop:=fun e w' =>
 ∃ (v:Value) (ts:List ByteArray) (p c:Nat),e = .returned (.tuple #[v,.int .i64 (p:Int),.int .i64 (c:Int)]) ∧ w'.ownsRow w.heap.size 9 1 v ts.length (strV ts) ∧ Sd s (txtsF (s.data.toList.drop a)) [] ts p c ∧ Below w.heap.size w w'
theorem readInts_any (s:ByteArray) (a:Nat) (w:World) (ha:a ≤ s.size) (hs:s.size ≤ 1000000000000000) :
  Calls Tryz.prog 259 #[.string s,.int .i64 (a:Int),.func (.func 260) #[] #[]] w (IntsAns s a w):=by
 obtain ⟨i1,hi',hz0',hz1',hz2'⟩:=info_parts Tryz.infoInt
 have hB:(s.size:Int) ≤ 1000000000000000:=by omega
 obtain ⟨many,a0,c0,hv0,hs0,hmany⟩:=cnt_said s a 1024 ha
 have hC:∀ W,Calls Tryz.prog 316 #[.int .i64 1024,.string s,.int .i64 (a:Int)] W fun e w'=>e = .returned (.tuple #[.int .i64 (many:Int),.int .i64 (a0:Int),.int .i64 (c0:Int)]) ∧ w' = W:=fun W=>by
  have h:=upTo_any s a 1024 W ha hs (by omega)
  rw [hv0] at h
  exact h
 have HC:=Lib.hid hC
 have pmany:(many:Int) ≤ 1024:=by omega
 have HMk:Hid (∀ (v:Value) (ns:List Int) (p c:Nat) (w':World),w'.ownsRow w.heap.size 3 1 v ns.length (intV ns) → Sd s (intsF (s.data.toList.drop a)) [] ns p c → Below w.heap.size w w' → IntsAns s a w (.returned (.tuple #[v,.int .i64 (p:Int),.int .i64 (c:Int)])) w'):=Lib.hid (fun v ns p c w' h1 h2 h3=>⟨v,ns,p,c,rfl,h1,h2,h3⟩)
 have hItem:=fun b (hb:b ≤ s.size)=>readSigned_any s b hb hs
 have HItem:=Lib.hid hItem
 clear hC hv0 hItem hs
 rcases hs0 with ⟨rfl,hp0,_,hok⟩ | ⟨hc,hc5,hp,_,er,herr,hpe,hce⟩
 ·have HF:=Lib.hid (intsF_ok hok)
  clear hok
  go_enter Tryz.func259,Tryz.ntmps259
  go_wp2_with fail
  refine (HC.out _).mono ?_
  rintro e w' ⟨rfl,rfl⟩
  clear HC
  go_wp2_with fail
  obtain ⟨wo,rfl⟩:∃ wo:World,wo = w':=⟨_,rfl⟩
  go_loopw [6,7,23] (fun v x i wr=>∃ (j p:Nat) (O:List Int) (u:Value),u = v ∧ j ≤ many ∧ p ≤ s.size ∧ O.length = j ∧ i = .int .i64 (j:Int) ∧ x = .int .i64 (p:Int) ∧ Hid (intsF (s.data.toList.drop a) = goN O (many - j) (s.data.toList.drop p)) ∧ Hid (wr.ownsRow wo.heap.size 3 1 v j (intV O)) ∧ Hid (Below wo.heap.size wo wr)) (fun _ _ i _=>many - (intOf i).toNat)
  case atStart=>exact ⟨0,a0,[],_,rfl,by omega,hp0,rfl,rfl,rfl,HF.out,World.ownsRow_nil _ _ _ _,Below.refl _ _⟩
  case round =>
   obtain ⟨j,p,O,u,rfl,hj,hp,hOl,rfl,rfl,hst,hown,hbel⟩:=hrel
   clear HF
   have pp:(p:Int) ≤ (s.size:Int):=by omega
   by_cases hlt:j < many
   ·have pj:(j:Int) < (many:Int):=by omega
    have hst2:=hst.out
    rw [show many - j = (many - (j + 1)) + 1 by omega] at hst2
    obtain ⟨z,q,c,hsd,hcall⟩:=HItem.out p hp
    have HR:=Lib.hid hcall
    have hin:=hsd.in
    clear hcall hst
    by_cases hc0:c = 0
    ·subst hc0
     have hok:sgnF (s.data.toList.drop p) = .ok (z,s.data.toList.drop q):=by
      rcases hsd with ⟨_,_,h⟩ | ⟨h,_⟩
      ·exact h
      ·exact absurd rfl h
     have HS:=Lib.hid (hst2.trans (goN_more2 hok))
     have HSn:=Lib.hid (intV_snoc O z)
     have hq:=hin.1
     clear hsd hok hst2 hin
     go_wp2_with fail
     refine (HR.out _).mono ?_
     rintro e w2 ⟨rfl,rfl⟩
     go_wp2_with (at_builtin;refine wpList_append_own_at _ rfl _ _ 24 rfl wo.heap.size 3 i1 (.int .i64 0) 1 8 Tryz.underlying24 hi' hz0' hz1' hz2' rfl (by decide) _ _ _ rfl (hown.out.alloc _) ⟨w2.heap.size,0,none⟩ 1 1 [.int .i64 z] rfl rfl ?c1 ?c2 ?c3 ?c4 ?c5 ?_)
     case c1=>exact cell_one_new _ _ _
     case c2=>intro u hu;simp at hu;subst hu;rfl
     case c3=>unfold maxLen;omega
     case c4=>omega
     case c5=>have:=hbel.out.size;simp;omega
     intro v' w5 hown' hgrow _ hat
     have HB5:=Lib.hid (below_append hown.out hbel.out (Nat.le_refl _) hgrow)
     rw [← HSn.out] at hown'
     have HO5:=Lib.hid hown'
     clear hown' hgrow hat hown hbel
     go_wp2_with fail
     go_roundw
     case rel=>exact ⟨j + 1,q,O ++ [z],_,rfl,by omega,hq,by rw [List.length_append,List.length_singleton,hOl],by go_num,rfl,HS.out,HO5.out,HB5.out⟩
     case measure=>simp [intOf];omega
    ·have HS:Hid (Sd s (intsF (s.data.toList.drop a)) [] [] q c):=by
      rcases hsd with ⟨h,_⟩ | ⟨h1,h2,h3,_,er,h4,h5,h6⟩
      ·exact absurd h hc0
      ·exact .inr ⟨h1,h2,h3,rfl,er,hst2.trans (goN_err2 h4),h5,h6⟩
     have pne:((c:Int) != 0) = true:=by simp;omega
     clear hsd hst2 hin hc0
     go_wp2_with fail
     refine (HR.out _).mono ?_
     rintro e w2 ⟨rfl,rfl⟩
     go_wp2_with fail
     go_ret3
     exact HMk.out _ [] q c _ (World.ownsRow_nil _ _ _ _) HS.out hbel.out
   ·obtain rfl:j = many:=by omega
    have hst2:=hst.out
    rw [Nat.sub_self,goN_done] at hst2
    have HS:Hid (Sd s (intsF (s.data.toList.drop a)) [] O p 0):=.inl ⟨rfl,hp,hst2⟩
    have HO:Hid (wr.ownsRow wo.heap.size 3 1 u O.length (intV O)):=by rw [hOl];exact hown.out
    clear hst hst2 hown
    go_wp2_with fail
    go_ret3
    exact HMk.out _ O p 0 _ HO.out HS.out hbel.out
 ·have HS:Hid (Sd s (intsF (s.data.toList.drop a)) [] [] a0 c0):=.inr ⟨hc,hc5,hp,rfl,er,intsF_err herr,hpe,hce⟩
  have pne:((c0:Int) != 0) = true:=by simp;omega
  clear herr hpe hce hc
  go_enter Tryz.func259,Tryz.ntmps259
  go_wp2_with fail
  refine (HC.out _).mono ?_
  rintro e w' ⟨rfl,rfl⟩
  go_wp2_with fail
  go_ret3
  exact HMk.out _ [] a0 c0 _ (World.ownsRow_nil _ _ _ _) HS.out (Below.refl _ _)
theorem readTexts_any (s:ByteArray) (a:Nat) (w:World) (ha:a ≤ s.size) (hs:s.size ≤ 1000000000000000) :
  Calls Tryz.prog 261 #[.string s,.int .i64 (a:Int),.func (.func 262) #[] #[]] w (TxtsAns s a w):=by
 obtain ⟨i1,hi',hz0',hz1',hz2'⟩:=info_parts Tryz.infoStr
 have hB:(s.size:Int) ≤ 1000000000000000:=by omega
 obtain ⟨many,a0,c0,hv0,hs0,hmany⟩:=cnt_said s a 1024 ha
 have hC:∀ W,Calls Tryz.prog 316 #[.int .i64 1024,.string s,.int .i64 (a:Int)] W fun e w'=>e = .returned (.tuple #[.int .i64 (many:Int),.int .i64 (a0:Int),.int .i64 (c0:Int)]) ∧ w' = W:=fun W=>by
  have h:=upTo_any s a 1024 W ha hs (by omega)
  rw [hv0] at h
  exact h
 have HC:=Lib.hid hC
 have pmany:(many:Int) ≤ 1024:=by omega
 have HMk:Hid (∀ (v:Value) (ns:List ByteArray) (p c:Nat) (w':World),w'.ownsRow w.heap.size 9 1 v ns.length (strV ns) → Sd s (txtsF (s.data.toList.drop a)) [] ns p c → Below w.heap.size w w' → TxtsAns s a w (.returned (.tuple #[v,.int .i64 (p:Int),.int .i64 (c:Int)])) w'):=Lib.hid (fun v ns p c w' h1 h2 h3=>⟨v,ns,p,c,rfl,h1,h2,h3⟩)
 have hItem:=fun b (hb:b ≤ s.size)=>readText_any s b hb hs
 have HItem:=Lib.hid hItem
 clear hC hv0 hItem hs
 rcases hs0 with ⟨rfl,hp0,_,hok⟩ | ⟨hc,hc5,hp,_,er,herr,hpe,hce⟩
 ·have HF:=Lib.hid (txtsF_ok hok)
  clear hok
  go_enter Tryz.func261,Tryz.ntmps261
  go_wp2_with fail
  refine (HC.out _).mono ?_
  rintro e w' ⟨rfl,rfl⟩
  clear HC
  go_wp2_with fail
  obtain ⟨wo,rfl⟩:∃ wo:World,wo = w':=⟨_,rfl⟩
  go_loopw [6,7,23] (fun v x i wr=>∃ (j p:Nat) (O:List ByteArray) (u:Value),u = v ∧ j ≤ many ∧ p ≤ s.size ∧ O.length = j ∧ i = .int .i64 (j:Int) ∧ x = .int .i64 (p:Int) ∧ Hid (txtsF (s.data.toList.drop a) = goT O (many - j) (s.data.toList.drop p)) ∧ Hid (wr.ownsRow wo.heap.size 9 1 v j (strV O)) ∧ Hid (Below wo.heap.size wo wr)) (fun _ _ i _=>many - (intOf i).toNat)
  case atStart=>exact ⟨0,a0,[],_,rfl,by omega,hp0,rfl,rfl,rfl,HF.out,World.ownsRow_nil _ _ _ _,Below.refl _ _⟩
  case round =>
   obtain ⟨j,p,O,u,rfl,hj,hp,hOl,rfl,rfl,hst,hown,hbel⟩:=hrel
   clear HF
   have pp:(p:Int) ≤ (s.size:Int):=by omega
   by_cases hlt:j < many
   ·have pj:(j:Int) < (many:Int):=by omega
    have hst2:=hst.out
    rw [show many - j = (many - (j + 1)) + 1 by omega] at hst2
    obtain ⟨z,q,c,_hz,hsd,hcall⟩:=HItem.out p hp
    have HR:=Lib.hid hcall
    have hin:=hsd.in
    clear hcall hst
    by_cases hc0:c = 0
    ·subst hc0
     have hok:textF (s.data.toList.drop p) = .ok (z,s.data.toList.drop q):=by
      rcases hsd with ⟨_,_,h⟩ | ⟨h,_⟩
      ·exact h
      ·exact absurd rfl h
     have HS:=Lib.hid (hst2.trans (goT_more hok))
     have HSn:=Lib.hid (strV_snoc2 O z)
     have hq:=hin.1
     clear hsd hok hst2 hin
     go_wp2_with fail
     refine (HR.out _).mono ?_
     rintro e w2 ⟨rfl,hb⟩
     have HO2:=Lib.hid (st_keep hown.out hb)
     have HL2:=Lib.hid (hbel.out.trans (hb.mono hbel.out.size))
     clear hb
     go_wp2_with (at_builtin;refine wpList_append_own_at _ rfl _ _ 23 rfl wo.heap.size 9 i1 (.string ⟨#[]⟩) 1 16 Tryz.underlying23 hi' hz0' hz1' hz2' rfl (by decide) _ _ _ rfl (HO2.out.alloc _) ⟨w2.heap.size,0,none⟩ 1 1 [.string z] rfl rfl ?c1 ?c2 ?c3 ?c4 ?c5 ?_)
     case c1=>exact cell_one_new _ _ _
     case c2=>intro u hu;simp at hu;subst hu;rfl
     case c3=>unfold maxLen;omega
     case c4=>omega
     case c5=>have:=HL2.out.size;simp;omega
     intro v' w5 hown' hgrow _ hat
     have HB5:=Lib.hid (below_append HO2.out HL2.out (Nat.le_refl _) hgrow)
     rw [← HSn.out] at hown'
     have HO5:=Lib.hid hown'
     clear hown' hgrow hat hown hbel
     go_wp2_with fail
     go_roundw
     case rel=>exact ⟨j + 1,q,O ++ [z],_,rfl,by omega,hq,by rw [List.length_append,List.length_singleton,hOl],by go_num,rfl,HS.out,HO5.out,HB5.out⟩
     case measure=>simp [intOf];omega
    ·have HS:Hid (Sd s (txtsF (s.data.toList.drop a)) [] [] q c):=by
      rcases hsd with ⟨h,_⟩ | ⟨h1,h2,h3,_,er,h4,h5,h6⟩
      ·exact absurd h hc0
      ·exact .inr ⟨h1,h2,h3,rfl,er,hst2.trans (goT_err h4),h5,h6⟩
     have pne:((c:Int) != 0) = true:=by simp;omega
     clear hsd hst2 hin hc0
     go_wp2_with fail
     refine (HR.out _).mono ?_
     rintro e w2 ⟨rfl,hb⟩
     have HL2:=Lib.hid (hbel.out.trans (hb.mono hbel.out.size))
     clear hb
     go_wp2_with fail
     go_ret3
     exact HMk.out _ [] q c _ (World.ownsRow_nil _ _ _ _) HS.out HL2.out
   ·obtain rfl:j = many:=by omega
    have hst2:=hst.out
    rw [Nat.sub_self,goT_done] at hst2
    have HS:Hid (Sd s (txtsF (s.data.toList.drop a)) [] O p 0):=.inl ⟨rfl,hp,hst2⟩
    have HO:Hid (wr.ownsRow wo.heap.size 9 1 u O.length (strV O)):=by rw [hOl];exact hown.out
    clear hst hst2 hown
    go_wp2_with fail
    go_ret3
    exact HMk.out _ O p 0 _ HO.out HS.out hbel.out
 ·have HS:Hid (Sd s (txtsF (s.data.toList.drop a)) [] [] a0 c0):=.inr ⟨hc,hc5,hp,rfl,er,txtsF_err herr,hpe,hce⟩
  have pne:((c0:Int) != 0) = true:=by simp;omega
  clear herr hpe hce hc
  go_enter Tryz.func261,Tryz.ntmps261
  go_wp2_with fail
  refine (HC.out _).mono ?_
  rintro e w' ⟨rfl,rfl⟩
  go_wp2_with fail
  go_ret3
  exact HMk.out _ [] a0 c0 _ (World.ownsRow_nil _ _ _ _) HS.out (Below.refl _ _)
theorem decodeAll:DecodeAll:=by
 intro s w hs
 have hB:(s.size:Int) ≤ 1000000000000000:=by omega
 have HMk:Hid (∀ (A B:Option Addr) (c d:Nat) (x y:Nat) (ns:List Int) (ts:List ByteArray) (w':World),decR s = (ns,ts,x,y) → IntsAt w' A ns → StrsAt w' B ts → Below w.heap.size w w' → ns.length ≤ c → ts.length ≤ d → c ≤ maxLen → d ≤ maxLen → DecAns2 s w (.returned (.tuple #[packV A B c d ns ts,.int .i64 (x:Int),.int .i64 (y:Int)])) w'):=Lib.hid (fun A B c d x y ns ts w' h1 h2 h3 h4 h5 h6 h7 h8=>by
  refine ⟨A,B,c,d,?_,?_,?_,h4,?_,?_,h7,h8⟩ <;> rw [h1]
  ·exact h2
  ·exact h3
  ·exact h5
  ·exact h6)
 unfold packV at HMk
 have HI:=Lib.hid (fun W=>readInts_any s 0 W (by omega) hs)
 have HT:=Lib.hid (fun a (ha:a ≤ s.size) W=>readTexts_any s a W ha hs)
 unfold IntsAns at HI
 unfold TxtsAns at HT
 clear hs
 go_enter Tryz.func197,Tryz.ntmps197
 go_upto_region 1 with fail
 have hR0:Cel (w.alloc (.cells #[.slice none 0 0,.slice none 0 0] 240)) w.heap.size 240 [.slice none 0 0,.slice none 0 0]:=(blk1 w _).2
 have hBW:Below w.heap.size w (w.alloc (.cells #[.slice none 0 0,.slice none 0 0] 240)):=(Below.refl _ w).alloc (Nat.le_refl _) _
 generalize w.alloc (.cells #[.slice none 0 0,.slice none 0 0] 240) = W1 at hR0 hBW ⊢
 have HR0:=Lib.hid hR0
 have HBW:=Lib.hid hBW
 clear hR0 hBW
 go_wp2_with fail
 refine (HI.out _).mono ?_
 rintro e w2 ⟨v1,ns,p,c,rfl,hown1,hsd,hb⟩
 rw [List.drop_zero] at hsd
 have HR2:=Lib.hid (HR0.out.below hb)
 have HB2:=Lib.hid (HBW.out.trans (hb.mono HBW.out.size))
 have hlt1:w.heap.size < W1.heap.size:=HR0.out.lt
 have HS12:=Lib.hid hb.size
 clear HI hb
 rcases hsd with ⟨rfl,hp,hok⟩ | ⟨hc,hc5,hp,rfl,er,herr,hpe,hce⟩
 ·have HO1:=Lib.hid hown1
  have HOk:=Lib.hid hok
  have HTp:=Lib.hid (HT.out p hp)
  clear hown1 hok HT hp HR0 HBW
  go_wp2_with fail
  refine (HTp.out _).mono ?_
  rintro e w3 ⟨v2,ts,q,c,rfl,hown2,hsd,hb⟩
  have HR3:=Lib.hid (HR2.out.below hb)
  have HO3:=Lib.hid (st_keep HO1.out hb)
  have HB3:=Lib.hid (HB2.out.trans (hb.mono HB2.out.size))
  have hw12:W1.heap.size ≤ w2.heap.size:=HS12.out
  have HO2:=Lib.hid (owns_lower hown2 hw12)
  clear hown2 hb HO1 HR2 HB2 HTp hw12 HS12
  rcases hsd with ⟨rfl,hq,hok2⟩ | ⟨hc,hc5,hq,rfl,er,herr,hpe,hce⟩
  ·by_cases hlt:q < s.size
   ·have HD:=Lib.hid (show decR s = ([],[],q,3) by
     unfold decR
     rw [decL_lists,HOk.out];simp only;rw [hok2];simp only
     rw [if_neg (fun e=>by have:=List.drop_eq_nil_iff.1 e;rw [list_size] at this;omega)]
     simp only [Er.place,Er.code,List.length_drop,list_size]
     rw [show s.size - (s.size - q) = q by omega])
    have pq:(q:Int) < (s.size:Int):=by omega
    have q0:=HR3.out.cell (i:=0) rfl
    have q1:=HR3.out.cell (i:=1) rfl
    have q2:=HR3.out.free (i:=0)
    have q3:=HR3.out.free (i:=1)
    clear hok2 hlt
    go_wp2_with fail
    have HF:=Lib.hid ((HR3.out.set (i:=0) (v:=.slice none 0 0)).set (i:=1) (v:=.slice none 0 0))
    have z0:=HF.out.cell (i:=0) rfl
    have z1:=HF.out.cell (i:=1) rfl
    exact bodyPost_ret (v:=.tuple #[.agg #[.slice none 0 0,.slice none 0 0],.int .i64 (q:Int),.int .i64 (3:Int)]) (by simp [results,Tryz.results197,go_sem,z0,z1]) rfl
     (HMk.out none none 0 0 q 3 [] [] _ HD.out noInts noStrs ((HB3.out.setCell (Nat.le_refl _) _).setCell (Nat.le_refl _) _) (Nat.zero_le _) (Nat.zero_le _) (Nat.zero_le _) (Nat.zero_le _))
   ·have HD:=Lib.hid (show decR s = (ns,ts,0,0) by
     unfold decR
     rw [decL_lists,HOk.out];simp only;rw [hok2];simp only
     rw [if_pos (List.drop_eq_nil_of_le (by rw [list_size];omega))])
    have pq:(s.size:Int) ≤ (q:Int):=by omega
    have q0:=HR3.out.cell (i:=0) rfl
    have q1:=HR3.out.cell (i:=1) rfl
    have q2:=HR3.out.free (i:=0)
    have q3:=HR3.out.free (i:=1)
    obtain ⟨A1,cA,rfl,l1,l2⟩:=own_form HO3.out
    obtain ⟨B1,cB,rfl,l3,l4⟩:=own_form HO2.out
    have HL:=Lib.hid (And.intro l1 (And.intro l2 (And.intro l3 l4)))
    clear hok2 hlt l1 l2 l3 l4
    go_wp2_with fail
    have HF:=Lib.hid ((HR3.out.set (i:=0) (v:=.slice A1 ns.length cA)).set (i:=1) (v:=.slice B1 ts.length cB))
    have z0:=HF.out.cell (i:=0) rfl
    have z1:=HF.out.cell (i:=1) rfl
    have rr0:=ownsRow_setCell_below (ownsRow_setCell_below HO3.out (a:=⟨w.heap.size,0,none⟩) hlt1 (.slice A1 ns.length cA)) (a:=⟨w.heap.size,1,none⟩) hlt1 (.slice B1 ts.length cB)
    have rr1:=ownsRow_setCell_below (ownsRow_setCell_below HO2.out (a:=⟨w.heap.size,0,none⟩) hlt1 (.slice A1 ns.length cA)) (a:=⟨w.heap.size,1,none⟩) hlt1 (.slice B1 ts.length cB)
    exact bodyPost_ret (v:=.tuple #[.agg #[.slice A1 ns.length cA,.slice B1 ts.length cB],.int .i64 ((0:Nat):Int),.int .i64 ((0:Nat):Int)]) (by simp [results,Tryz.results197,go_sem,z0,z1]) rfl
     (HMk.out A1 B1 cA cB 0 0 ns ts _ HD.out (ints_own_at rr0 rfl) (strs_own_at rr1 rfl) ((HB3.out.setCell (Nat.le_refl _) _).setCell (Nat.le_refl _) _) HL.out.1 HL.out.2.2.1 HL.out.2.1 HL.out.2.2.2)
  ·have HD:=Lib.hid (show decR s = ([],[],q,c) by
    unfold decR
    rw [decL_lists,HOk.out];simp only;rw [herr,hpe,hce])
   have pne:((c:Int) != 0) = true:=by simp;omega
   have q0:=HR3.out.cell (i:=0) rfl
   have q1:=HR3.out.cell (i:=1) rfl
   have q2:=HR3.out.free (i:=0)
   have q3:=HR3.out.free (i:=1)
   clear herr hpe hce hc
   go_wp2_with fail
   have HF:=Lib.hid ((HR3.out.set (i:=0) (v:=.slice none 0 0)).set (i:=1) (v:=.slice none 0 0))
   have z0:=HF.out.cell (i:=0) rfl
   have z1:=HF.out.cell (i:=1) rfl
   exact bodyPost_ret (v:=.tuple #[.agg #[.slice none 0 0,.slice none 0 0],.int .i64 (q:Int),.int .i64 (c:Int)]) (by simp [results,Tryz.results197,go_sem,z0,z1]) rfl
    (HMk.out none none 0 0 q c [] [] _ HD.out noInts noStrs ((HB3.out.setCell (Nat.le_refl _) _).setCell (Nat.le_refl _) _) (Nat.zero_le _) (Nat.zero_le _) (Nat.zero_le _) (Nat.zero_le _))
 ·have HD:=Lib.hid (show decR s = ([],[],p,c) by
   unfold decR;rw [decL_lists,herr,hpe,hce])
  have pne:((c:Int) != 0) = true:=by simp;omega
  have q0:=HR2.out.cell (i:=0) rfl
  have q1:=HR2.out.cell (i:=1) rfl
  have q2:=HR2.out.free (i:=0)
  have q3:=HR2.out.free (i:=1)
  clear herr hpe hce hc hown1 HT HR0 HBW
  go_wp2_with fail
  have HF:=Lib.hid ((HR2.out.set (i:=0) (v:=.slice none 0 0)).set (i:=1) (v:=.slice none 0 0))
  have z0:=HF.out.cell (i:=0) rfl
  have z1:=HF.out.cell (i:=1) rfl
  exact bodyPost_ret (v:=.tuple #[.agg #[.slice none 0 0,.slice none 0 0],.int .i64 (p:Int),.int .i64 (c:Int)]) (by simp [results,Tryz.results197,go_sem,z0,z1]) rfl
   (HMk.out none none 0 0 p c [] [] _ HD.out noInts noStrs ((HB2.out.setCell (Nat.le_refl _) _).setCell (Nat.le_refl _) _) (Nat.zero_le _) (Nat.zero_le _) (Nat.zero_le _) (Nat.zero_le _))
end Pk
end Go.Proofs.YtbkanoblcojdfaaGreat
namespace Go.Proofs.YtbkanoblcojdfaaGreat
namespace Rc
open Go.RowKit Bk Lt
attribute [local go_sem ↓] Go.wp_at_zero Go.wp_at_succ
attribute [local go_sem] floatUpon pick
theorem RecOk.arg {r:Rec} (h:RecOk r) {c d:Nat} (h1:(numsOf r).length ≤ c) (h2:(textsOf r).length ≤ d) (h3:c ≤ maxLen) (h4:d ≤ maxLen):Pk.ArgOk c d (numsOf r) (textsOf r):=by
 obtain ⟨m1,m2,m3,m4⟩:=h.pack
 exact ⟨by omega,by omega,fun n hn=>by have:=m3 n hn;unfold Pk.numOk at this;omega,fun t ht=>by have:=m4 t ht;omega,h1,h2,h3,h4⟩
theorem lencodeAll:EncodeAll:=by
 intro A B c d r w h
 have HC:=Lib.hid (fun W (hbl:Below w.heap.size w W)=>rcheck_any A B c d r W (h.ks.below hbl) (h.ws.below hbl) h.rng.toRecRng)
 have henv:=RcEnv.start (c:=c) (d:=d) h.ks h.ws
 by_cases hm:RecOk r
 ·have E:=Lib.hid (encV_ok hm)
  have HB:=Lib.hid (fun W (hbl:Below w.heap.size w W)=>toPack_any A B c d r W (h.ks.below hbl) (h.ws.below hbl) (fun e=>(h.kn e).2) hm)
  have HP:=Lib.hid (fun A1 B1 c1 d1 W (h1:IntsAt W A1 (numsOf r)) (h2:StrsAt W B1 (textsOf r)) (h3:(numsOf r).length ≤ c1) (h4:(textsOf r).length ≤ d1) (h5:c1 ≤ maxLen) (h6:d1 ≤ maxLen)=>Pk.encodeAll A1 B1 c1 d1 (numsOf r) (textsOf r) W h1 h2 (hm.arg h3 h4 h5 h6))
  rw [Pk.encV_ok hm.pack] at HP
  rw [ckN_of hm] at HC
  have HE:=Lib.hid henv
  unfold recV at HC HB ⊢
  unfold Pk.packV at HB HP
  clear h hm henv
  go_enter Tryz.func135,Tryz.ntmps135
  go_wp2_with fail
  refine (HC.out _ ((Below.refl _ w).alloc (Nat.le_refl _) _)).mono ?_
  rintro e w1 ⟨rfl,hb⟩
  have henv:=HE.out.step hb
  have HB1:=Lib.hid henv.bel
  have k0:=henv.cel.cell (i:=0) rfl
  have k1:=henv.cel.cell (i:=1) rfl
  have k2:=henv.cel.cell (i:=2) rfl
  have k3:=henv.cel.cell (i:=3) rfl
  have k4:=henv.cel.cell (i:=4) rfl
  have k5:=henv.cel.cell (i:=5) rfl
  have k6:=henv.cel.cell (i:=6) rfl
  have k7:=henv.cel.cell (i:=7) rfl
  have k8:=henv.cel.cell (i:=8) rfl
  clear hb HC HE henv
  go_wp2_with fail
  refine (HB.out _ HB1.out).mono ?_
  rintro e w2 ⟨A1,B1,c1,d1,rfl,g1,g2,g3,g4,g5,g6,hb⟩
  have HB2:=Lib.hid (HB1.out.trans (hb.mono HB1.out.size))
  have HP2:=Lib.hid (HP.out A1 B1 c1 d1 w2 g1 g2 g3 g4 g5 g6)
  clear hb g1 g2 g3 g4 g5 g6 HP HB
  go_wp2_with fail
  refine HP2.out.mono ?_
  rintro e w3 ⟨rfl,hb⟩
  have HB3:=Lib.hid (HB2.out.trans (hb.mono HB2.out.size))
  clear hb
  go_wp2_with fail
  go_ret2
  exact ⟨by rw [E.out];rfl,HB3.out⟩
 ·have E:=Lib.hid (encV_bad hm)
  rw [ckN_not hm] at HC
  unfold recV at HC ⊢
  clear h hm henv
  go_enter Tryz.func135,Tryz.ntmps135
  go_wp2_with fail
  refine (HC.out _ ((Below.refl _ w).alloc (Nat.le_refl _) _)).mono ?_
  rintro e w1 ⟨rfl,hb⟩
  have HB1:=Lib.hid (below_new hb)
  clear hb HC
  go_wp2_with fail
  go_ret2
  exact ⟨by rw [E.out];rfl,HB1.out⟩
def DecNew (s:ByteArray) (w:World):Ending → World → Prop:=fun e w'=>∃ (A B:Option Addr) (c d:Nat),
  e = .returned (.tuple #[recV (decX s).1 A B c d,.int .i64 ((decX s).2:Int)]) ∧ RecVal w' A B c d (decX s).1 ∧ (∀ a,A = some a → w.heap.size ≤ a.block) ∧ (∀ a,B = some a → w.heap.size ≤ a.block) ∧ Below w.heap.size w w'
theorem vdecode_any (s:ByteArray) (w:World) (hs:s.size ≤ 1000000000000000):Calls Tryz.prog 133 #[.string s] w (DecNew s w):=by
 have HD:=Lib.hid (fun W=>Pk.decodeAll s W hs)
 unfold Pk.DecAns2 at HD
 have HMk:Hid (∀ (v:Value) (w':World),NoRec s → Below w.heap.size w w' → v = recV noRec none none 0 0 → DecNew s w (.returned (.tuple #[v,.int .i64 80])) w'):=Lib.hid (fun v w' h1 h2 h3=>by
  unfold DecNew
  rw [decX_no h1]
  exact ⟨none,none,0,0,by rw [h3];rfl,no_val _,fun a e=>(by cases e),fun a e=>(by cases e),h2⟩)
 have HMo:Hid (∀ (l:Rec) (A B:Option Addr) (c d:Nat) (w':World),RecOk l → s.data.toList = recL l → Below w.heap.size w w' → RecVal w' A B c d l → (∀ a,A = some a → w.heap.size ≤ a.block) → (∀ a,B = some a → w.heap.size ≤ a.block) → DecNew s w (.returned (.tuple #[recV l A B c d,.int .i64 0])) w'):=Lib.hid (fun l A B c d w' h1 h2 h3 h4 h5 h6=>by
  unfold DecNew
  rw [decX_ok h1 h2]
  exact ⟨A,B,c,d,rfl,h4,h5,h6,h3⟩)
 go_enter Tryz.func133,Tryz.ntmps133
 go_upto_region 1 with fail
 have hR0:Cel (w.alloc (.cells #[.int .i64 0,.int .i64 0,.int .i64 0,.int .i64 0,.string ⟨#[]⟩,.string ⟨#[]⟩,.bool false,.slice none 0 0,.slice none 0 0] 37)) w.heap.size 37 [.int .i64 0,.int .i64 0,.int .i64 0,.int .i64 0,.string ⟨#[]⟩,.string ⟨#[]⟩,.bool false,.slice none 0 0,.slice none 0 0]:=(blk1 w _).2
 have hBW:Below w.heap.size w (w.alloc (.cells #[.int .i64 0,.int .i64 0,.int .i64 0,.int .i64 0,.string ⟨#[]⟩,.string ⟨#[]⟩,.bool false,.slice none 0 0,.slice none 0 0] 37)):=(Below.refl _ w).alloc (Nat.le_refl _) _
 generalize w.alloc (.cells #[.int .i64 0,.int .i64 0,.int .i64 0,.int .i64 0,.string ⟨#[]⟩,.string ⟨#[]⟩,.bool false,.slice none 0 0,.slice none 0 0] 37) = W1 at hR0 hBW ⊢
 have HR0:=Lib.hid hR0
 have HBW:=Lib.hid hBW
 clear hR0 hBW
 cases hdec:Pk.decL s.data.toList with
 | error er =>
  have hd1:Pk.decR s = ([],[],er.place s.size,er.code):=by unfold Pk.decR;rw [hdec]
  rw [hd1] at HD
  have hne:=Pk.decL_code hdec
  have HN:=Lib.hid (NoRec.err hdec)
  have pne:((er.code:Int) != 0) = true:=by simp;exact hne
  simp only [Pk.packV] at HD
  generalize er.place s.size = pl at HD
  generalize er.code = cd at HD pne
  clear hdec hd1 hne
  go_wp2_with fail
  refine (HD.out _).mono ?_
  rintro e w2 ⟨A,B,c,d,rfl,-,-,hb,-,-,-,-⟩
  have hal:Below w2.heap.size w2 (w2.alloc (.cells #[.slice A 0 c,.slice B 0 d] 240)):=(Below.refl _ w2).alloc (Nat.le_refl _) _
  have HR3:=Lib.hid ((HR0.out.below hb).below hal)
  have HB3:=Lib.hid ((HBW.out.trans (hb.mono HBW.out.size)).trans (hal.mono (HBW.out.trans (hb.mono HBW.out.size)).size))
  clear hb hal HD HR0 HBW
  go_upto_region 2 with fail
  generalize w2.alloc (.cells #[.slice A 0 c,.slice B 0 d] 240) = w3 at HR3 HB3 ⊢
  have zq:=fun i=>HR3.out.free (i:=i)
  have y0:=HR3.out.cell (i:=0) rfl
  have y1:=HR3.out.cell (i:=1) rfl
  have y2:=HR3.out.cell (i:=2) rfl
  have y3:=HR3.out.cell (i:=3) rfl
  have y4:=HR3.out.cell (i:=4) rfl
  have y5:=HR3.out.cell (i:=5) rfl
  have y6:=HR3.out.cell (i:=6) rfl
  have y7:=HR3.out.cell (i:=7) rfl
  have y8:=HR3.out.cell (i:=8) rfl
  go_wp2_with fail
  have HF:=Lib.hid (set9_cel (v0:=.int .i64 0) (v1:=.int .i64 0) (v2:=.int .i64 0) (v3:=.int .i64 0) (v4:=.string ⟨#[]⟩) (v5:=.string ⟨#[]⟩) (v6:=.bool false) (v7:=.slice none 0 0) (v8:=.slice none 0 0) HR3.out)
  have z0:=HF.out.cell (i:=0) rfl
  have z1:=HF.out.cell (i:=1) rfl
  have z2:=HF.out.cell (i:=2) rfl
  have z3:=HF.out.cell (i:=3) rfl
  have z4:=HF.out.cell (i:=4) rfl
  have z5:=HF.out.cell (i:=5) rfl
  have z6:=HF.out.cell (i:=6) rfl
  have z7:=HF.out.cell (i:=7) rfl
  have z8:=HF.out.cell (i:=8) rfl
  unfold set9 at z0 z1 z2 z3 z4 z5 z6 z7 z8
  exact bodyPost_ret (v:=.tuple #[recV noRec none none 0 0,.int .i64 80]) (by simp [results,Tryz.results133,go_sem,recV,noRec,z0,z1,z2,z3,z4,z5,z6,z7,z8]) rfl (HMk.out _ _ HN.out (set9_below HB3.out (Nat.le_refl _)) rfl)
 | ok x =>
  obtain ⟨ns,ts⟩:=x
  have hd1:Pk.decR s = (ns,ts,0,0):=by unfold Pk.decR;rw [hdec]
  rw [hd1] at HD
  have HMb:=Lib.hid (Pk.decL_ok hdec).1
  have HDec:=Lib.hid hdec
  simp only [Pk.packV] at HD
  clear hdec hd1
  go_wp2_with fail
  refine (HD.out _).mono ?_
  rintro e w2 ⟨A,B,c,d,rfl,hI2,hS2,hb,g1,g2,g3,g4⟩
  have hal:Below w2.heap.size w2 (w2.alloc (.cells #[.slice A ns.length c,.slice B ts.length d] 240)):=(Below.refl _ w2).alloc (Nat.le_refl _) _
  have HP3:Hid (Cel (w2.alloc (.cells #[.slice A ns.length c,.slice B ts.length d] 240)) w2.heap.size 240 [.slice A ns.length c,.slice B ts.length d]):=Lib.hid (blk1 w2 _).2
  have HR3:=Lib.hid ((HR0.out.below hb).below hal)
  have HB3:=Lib.hid ((HBW.out.trans (hb.mono HBW.out.size)).trans (hal.mono (HBW.out.trans (hb.mono HBW.out.size)).size))
  have hFp:=fromPack_any A B c d ns ts _ (hI2.below hal) (hS2.below hal) HMb.out g1 g2 g3 g4
  unfold Pk.packV at hFp
  have HFp:=Lib.hid hFp
  clear hb hal HD HR0 HBW hI2 hS2 g1 g2 g3 g4 hFp
  go_upto_region 2 with fail
  generalize w2.alloc (.cells #[.slice A ns.length c,.slice B ts.length d] 240) = w3 at HR3 HB3 HFp HP3 ⊢
  generalize w2.heap.size = g at HP3 ⊢
  have k0:=HP3.out.cell (i:=0) rfl
  have k1:=HP3.out.cell (i:=1) rfl
  clear HP3
  by_cases hsh:Shape ns ts
  case neg =>
   have HN:=Lib.hid (NoRec.shape HDec.out hsh)
   have HFn:=Lib.hid (HFp.out.mono (fun e W' hA=>show e = .returned (.tuple #[recV noRec none none 0 0,.bool false]) ∧ Below w3.heap.size w3 W' from by
    rcases hA with ⟨h1,_⟩ | ⟨_,h2,h3⟩
    ·exact absurd h1 hsh
    ·exact ⟨h2,h3⟩))
   unfold recV noRec at HFn
   simp only [List.length_nil] at HFn
   clear hsh HFp
   go_wp2_with fail
   refine HFn.out.mono ?_
   rintro e w4 ⟨rfl,hb⟩
   have hal:Below w4.heap.size w4 (w4.alloc (.cells #[.int .i64 0,.int .i64 0,.int .i64 0,.int .i64 0,.string ⟨#[]⟩,.string ⟨#[]⟩,.bool false,.slice none 0 0,.slice none 0 0] 37)):=(Below.refl _ w4).alloc (Nat.le_refl _) _
   have HR5:=Lib.hid ((HR3.out.below hb).below hal)
   have HB5:=Lib.hid ((HB3.out.trans (hb.mono HB3.out.size)).trans (hal.mono (HB3.out.trans (hb.mono HB3.out.size)).size))
   clear hb hal HR3 HB3 k0 k1 HFn
   go_upto_region 5 with fail
   generalize w4.alloc (.cells #[.int .i64 0,.int .i64 0,.int .i64 0,.int .i64 0,.string ⟨#[]⟩,.string ⟨#[]⟩,.bool false,.slice none 0 0,.slice none 0 0] 37) = w5 at HR5 HB5 ⊢
   have zq:=fun i=>HR5.out.free (i:=i)
   have y0:=HR5.out.cell (i:=0) rfl
   have y1:=HR5.out.cell (i:=1) rfl
   have y2:=HR5.out.cell (i:=2) rfl
   have y3:=HR5.out.cell (i:=3) rfl
   have y4:=HR5.out.cell (i:=4) rfl
   have y5:=HR5.out.cell (i:=5) rfl
   have y6:=HR5.out.cell (i:=6) rfl
   have y7:=HR5.out.cell (i:=7) rfl
   have y8:=HR5.out.cell (i:=8) rfl
   go_wp2_with fail
   have HF:=Lib.hid (set9_cel (v0:=.int .i64 0) (v1:=.int .i64 0) (v2:=.int .i64 0) (v3:=.int .i64 0) (v4:=.string ⟨#[]⟩) (v5:=.string ⟨#[]⟩) (v6:=.bool false) (v7:=.slice none 0 0) (v8:=.slice none 0 0) HR5.out)
   have z0:=HF.out.cell (i:=0) rfl
   have z1:=HF.out.cell (i:=1) rfl
   have z2:=HF.out.cell (i:=2) rfl
   have z3:=HF.out.cell (i:=3) rfl
   have z4:=HF.out.cell (i:=4) rfl
   have z5:=HF.out.cell (i:=5) rfl
   have z6:=HF.out.cell (i:=6) rfl
   have z7:=HF.out.cell (i:=7) rfl
   have z8:=HF.out.cell (i:=8) rfl
   unfold set9 at z0 z1 z2 z3 z4 z5 z6 z7 z8
   exact bodyPost_ret (v:=.tuple #[recV noRec none none 0 0,.int .i64 80]) (by simp [results,Tryz.results133,go_sem,recV,noRec,z0,z1,z2,z3,z4,z5,z6,z7,z8]) rfl (HMk.out _ _ HN.out (set9_below HB5.out (Nat.le_refl _)) rfl)
  have HFy:=Lib.hid (HFp.out.mono (fun e W' hA=>show ∃ (A1 B1:Option Addr) (c1 d1:Nat),e = .returned (.tuple #[recV (cand ns ts) A1 B1 c1 d1,.bool true]) ∧ RecVal W' A1 B1 c1 d1 (cand ns ts) ∧ Below w3.heap.size w3 W' ∧ (∀ a,A1 = some a → w3.heap.size ≤ a.block) ∧ (∀ a,B1 = some a → w3.heap.size ≤ a.block) from by
   rcases hA with ⟨_,A1,B1,c1,d1,h2,h3,h4⟩ | ⟨h1,_⟩
   ·exact ⟨A1,B1,c1,d1,h2,h3,h4⟩
   ·exact absurd hsh h1))
  have HCb:=Lib.hid (cand_bytes HDec.out hsh)
  have HNb:=Lib.hid (fun hm=>NoRec.bad (s:=s) HDec.out hm)
  generalize cand ns ts = L at HFy HCb HNb
  unfold recV at HFy
  clear hsh HFp
  go_wp2_with fail
  refine HFy.out.mono ?_
  rintro e w4 ⟨A1,B1,c1,d1,rfl,hval,hb,hA1,hB1⟩
  have hlt3:w.heap.size < w3.heap.size:=HR3.out.lt
  have hal:Below w4.heap.size w4 (w4.alloc (.cells #[.int .i64 L.kind,.int .i64 L.txn,.int .i64 L.ts,.int .i64 L.coord,.string L.key,.string L.text,.bool L.dead,.slice A1 L.keys.length c1,.slice B1 L.ws.length d1] 37)):=(Below.refl _ w4).alloc (Nat.le_refl _) _
  have HC5:Hid (Cel (w4.alloc (.cells #[.int .i64 L.kind,.int .i64 L.txn,.int .i64 L.ts,.int .i64 L.coord,.string L.key,.string L.text,.bool L.dead,.slice A1 L.keys.length c1,.slice B1 L.ws.length d1] 37)) w4.heap.size 37 [.int .i64 L.kind,.int .i64 L.txn,.int .i64 L.ts,.int .i64 L.coord,.string L.key,.string L.text,.bool L.dead,.slice A1 L.keys.length c1,.slice B1 L.ws.length d1]):=Lib.hid (blk1 w4 _).2
  have HR5:=Lib.hid ((HR3.out.below hb).below hal)
  have HB5:=Lib.hid ((HB3.out.trans (hb.mono HB3.out.size)).trans (hal.mono (HB3.out.trans (hb.mono HB3.out.size)).size))
  have HV5:=Lib.hid (hval.below hal)
  have HAw:Hid (∀ a,A1 = some a → w.heap.size ≤ a.block):=Lib.hid (fun a e=>by have:=hA1 a e;omega)
  have HBw:Hid (∀ a,B1 = some a → w.heap.size ≤ a.block):=Lib.hid (fun a e=>by have:=hB1 a e;omega)
  have HAn:Hid (∀ a,A1 = some a → a.block ≠ w.heap.size):=Lib.hid (fun a e=>by have:=hA1 a e;omega)
  have HBn:Hid (∀ a,B1 = some a → a.block ≠ w.heap.size):=Lib.hid (fun a e=>by have:=hB1 a e;omega)
  clear hb hal HR3 HB3 k0 k1 HFy hval hA1 hB1 hlt3
  go_upto_region 5 with fail
  generalize w4.alloc (.cells #[.int .i64 L.kind,.int .i64 L.txn,.int .i64 L.ts,.int .i64 L.coord,.string L.key,.string L.text,.bool L.dead,.slice A1 L.keys.length c1,.slice B1 L.ws.length d1] 37) = w5 at HR5 HB5 HV5 HC5 ⊢
  generalize w4.heap.size = g2 at HC5 ⊢
  have hMy:=mayBe_any A1 B1 c1 d1 L w5 HV5.out.ks HV5.out.ws HV5.out.rng.toRecRng
  unfold recV at hMy
  have HMy:=Lib.hid hMy
  clear hMy
  have k0:=HC5.out.cell (i:=0) rfl
  have k1:=HC5.out.cell (i:=1) rfl
  have k2:=HC5.out.cell (i:=2) rfl
  have k3:=HC5.out.cell (i:=3) rfl
  have k4:=HC5.out.cell (i:=4) rfl
  have k5:=HC5.out.cell (i:=5) rfl
  have k6:=HC5.out.cell (i:=6) rfl
  have k7:=HC5.out.cell (i:=7) rfl
  have k8:=HC5.out.cell (i:=8) rfl
  by_cases hm:RecOk L
  ·rw [recB_true hm] at HMy
   have HOk:=Lib.hid hm
   clear hm
   go_wp2_with fail
   refine HMy.out.mono ?_
   rintro e w6 ⟨rfl,hb⟩
   have HC6:=Lib.hid (HC5.out.below hb)
   have HR6:=Lib.hid (HR5.out.below hb)
   have HV6:=Lib.hid (HV5.out.below hb)
   have HB6:=Lib.hid (HB5.out.trans (hb.mono HB5.out.size))
   clear hb k0 k1 k2 k3 k4 k5 k6 k7 k8 HC5 HR5 HV5 HB5 HMy
   have k0:=HC6.out.cell (i:=0) rfl
   have k1:=HC6.out.cell (i:=1) rfl
   have k2:=HC6.out.cell (i:=2) rfl
   have k3:=HC6.out.cell (i:=3) rfl
   have k4:=HC6.out.cell (i:=4) rfl
   have k5:=HC6.out.cell (i:=5) rfl
   have k6:=HC6.out.cell (i:=6) rfl
   have k7:=HC6.out.cell (i:=7) rfl
   have k8:=HC6.out.cell (i:=8) rfl
   have zq:=fun i=>HR6.out.free (i:=i)
   have y0:=HR6.out.cell (i:=0) rfl
   have y1:=HR6.out.cell (i:=1) rfl
   have y2:=HR6.out.cell (i:=2) rfl
   have y3:=HR6.out.cell (i:=3) rfl
   have y4:=HR6.out.cell (i:=4) rfl
   have y5:=HR6.out.cell (i:=5) rfl
   have y6:=HR6.out.cell (i:=6) rfl
   have y7:=HR6.out.cell (i:=7) rfl
   have y8:=HR6.out.cell (i:=8) rfl
   go_wp2_with fail
   have HF:=Lib.hid (set9_cel (v0:=.int .i64 L.kind) (v1:=.int .i64 L.txn) (v2:=.int .i64 L.ts) (v3:=.int .i64 L.coord) (v4:=.string L.key) (v5:=.string L.text) (v6:=.bool L.dead) (v7:=.slice A1 L.keys.length c1) (v8:=.slice B1 L.ws.length d1) HR6.out)
   have z0:=HF.out.cell (i:=0) rfl
   have z1:=HF.out.cell (i:=1) rfl
   have z2:=HF.out.cell (i:=2) rfl
   have z3:=HF.out.cell (i:=3) rfl
   have z4:=HF.out.cell (i:=4) rfl
   have z5:=HF.out.cell (i:=5) rfl
   have z6:=HF.out.cell (i:=6) rfl
   have z7:=HF.out.cell (i:=7) rfl
   have z8:=HF.out.cell (i:=8) rfl
   unfold set9 at z0 z1 z2 z3 z4 z5 z6 z7 z8
   refine bodyPost_ret (v:=.tuple #[recV L A1 B1 c1 d1,.int .i64 0]) (by simp [results,Tryz.results133,go_sem,recV,z0,z1,z2,z3,z4,z5,z6,z7,z8]) rfl (HMo.out L A1 B1 c1 d1 _ HOk.out HCb.out (set9_below HB6.out (Nat.le_refl _)) ?_ HAw.out HBw.out)
   exact ⟨strs_far HV6.out.ks (R:=w.heap.size) HAn.out (Nat.le_of_eq set9_size.symm) (fun a ha=>set9_other ha),wrs_far HV6.out.ws (R:=w.heap.size) HBn.out (Nat.le_of_eq set9_size.symm) (fun a ha=>set9_other ha),HV6.out.rng,HV6.out.kn,HV6.out.wn⟩
  ·rw [recB_false hm] at HMy
   have HN:=Lib.hid (HNb.out hm)
   clear hm
   go_wp2_with fail
   refine HMy.out.mono ?_
   rintro e w6 ⟨rfl,hb⟩
   have HR6:=Lib.hid (HR5.out.below hb)
   have HB6:=Lib.hid (HB5.out.trans (hb.mono HB5.out.size))
   clear hb k0 k1 k2 k3 k4 k5 k6 k7 k8 HC5 HR5 HV5 HB5 HMy
   have zq:=fun i=>HR6.out.free (i:=i)
   have y0:=HR6.out.cell (i:=0) rfl
   have y1:=HR6.out.cell (i:=1) rfl
   have y2:=HR6.out.cell (i:=2) rfl
   have y3:=HR6.out.cell (i:=3) rfl
   have y4:=HR6.out.cell (i:=4) rfl
   have y5:=HR6.out.cell (i:=5) rfl
   have y6:=HR6.out.cell (i:=6) rfl
   have y7:=HR6.out.cell (i:=7) rfl
   have y8:=HR6.out.cell (i:=8) rfl
   go_wp2_with fail
   have HF:=Lib.hid (set9_cel (v0:=.int .i64 0) (v1:=.int .i64 0) (v2:=.int .i64 0) (v3:=.int .i64 0) (v4:=.string ⟨#[]⟩) (v5:=.string ⟨#[]⟩) (v6:=.bool false) (v7:=.slice none 0 0) (v8:=.slice none 0 0) HR6.out)
   have z0:=HF.out.cell (i:=0) rfl
   have z1:=HF.out.cell (i:=1) rfl
   have z2:=HF.out.cell (i:=2) rfl
   have z3:=HF.out.cell (i:=3) rfl
   have z4:=HF.out.cell (i:=4) rfl
   have z5:=HF.out.cell (i:=5) rfl
   have z6:=HF.out.cell (i:=6) rfl
   have z7:=HF.out.cell (i:=7) rfl
   have z8:=HF.out.cell (i:=8) rfl
   unfold set9 at z0 z1 z2 z3 z4 z5 z6 z7 z8
   exact bodyPost_ret (v:=.tuple #[recV noRec none none 0 0,.int .i64 80]) (by simp [results,Tryz.results133,go_sem,recV,noRec,z0,z1,z2,z3,z4,z5,z6,z7,z8]) rfl (HMk.out _ _ HN.out (set9_below HB6.out (Nat.le_refl _)) rfl)
end Rc
end Go.Proofs.YtbkanoblcojdfaaGreat
