/- Parts of the proof, joined: VtEnc, ShRep, ChL1, ChL2; their conditions stand with each. -/
import Derived.Test.YtbkanoblcojdfaaGreatV9
import Derived.Test.YtbkanoblcojdfaaGreatV18
import Derived.Test.YtbkanoblcojdfaaGreatV19

set_option maxRecDepth 20000
set_option maxHeartbeats 8000000
namespace Go.Proofs.YtbkanoblcojdfaaGreat
namespace Vt
open Go.RowKit Bk Ch Lt Rc Tr
attribute [local go_sem ↓] Go.wp_at_zero Go.wp_at_succ
attribute [local go_sem] floatUpon pick
structure Row (w:World) (A:Option Addr) (X:List RI):Prop where
 at':RecsAt w A X
 val:∀ x ∈ X,RecVal w x.A x.B x.c x.d x.l
theorem Row.below {w w':World} {A:Option Addr} {X:List RI} (h:Row w A X) (hb:Below w.heap.size w w'):Row w' A X :=
 ⟨fun hp=>by
  obtain ⟨ad,e,hl,hc⟩:=h.at' hp
  exact ⟨ad,e,Nat.lt_of_lt_of_le hl hb.size,fun i hi j u hu=>(cell_kept hb _ (by rw [st_block];exact hl)).trans (hc i hi j u hu)⟩,fun x hx=>(h.val x hx).below hb⟩
theorem Row.one {w V:World} {A:Option Addr} {X:List RI} (h:Row w A X) (hb:Below w.heap.size w V) {j:Nat} (hj:j < X.length):∃ ad,A = some ad ∧ (∀ (q:Nat) (v:Value),(rcs X[j])[q]? = some v → V.cell? (ad.add (j * 9 + q)) = some v) ∧ RecVal V X[j].A X[j].B X[j].c X[j].d X[j].l:=by
 obtain ⟨ad,e,-,hc⟩:=(h.below hb).at' (by omega)
 exact ⟨ad,e,hc j hj,(h.below hb).val _ (List.getElem_mem hj)⟩
def bytesOf (X:List RI):List ByteArray:=X.map fun x=>recB x.l
theorem bytes_map (X:List RI):bytesOf X = (X.map (·.l)).map recB:=by unfold bytesOf;rw [List.map_map];rfl
theorem strV_take {L:List ByteArray} {j:Nat} (h:j < L.length):strV (L.take (j + 1)) = strV (L.take j) ++ [.string L[j]]:=by
 rw [List.take_succ_eq_append_getElem h]
 unfold strV
 rw [List.map_append]
 rfl
theorem encoded_any (A:Option Addr) (c:Nat) (X:List RI) (w:World) (hX:Row w A X) (hok:∀ x ∈ X,RecOk x.l) (h16:X.length * 16 ≤ 140737488351232) :
  Calls Tryz.prog 137 #[.slice A X.length c] w fun e w'=>∃ (B:Option Addr) (d:Nat),e = .returned (.tuple #[.slice B X.length d,.int .i64 0]) ∧ w'.ownsRow w.heap.size 9 1 (.slice B X.length d) X.length (strV (bytesOf X)) ∧ Below w.heap.size w w':=by
 obtain ⟨i0,hi,hz0,hz1,hz2⟩:=info_parts Tryz.infoStr
 have HX:=Lib.hid (fun V (hb:Below w.heap.size w V) j (hj:j < X.length)=>hX.one hb hj)
 have HOk:=Lib.hid hok
 have hxl:(X.length:Int) ≤ 9223372036854775807:=by omega
 have HTk:=Lib.hid (fun j (hj:j < X.length)=>show strV ((bytesOf X).take (j + 1)) = strV ((bytesOf X).take j) ++ [.string (recB X[j].l)] by
  have h1:j < (bytesOf X).length:=by unfold bytesOf;rw [List.length_map];exact hj
  rw [strV_take h1,show (bytesOf X)[j] = recB X[j].l from List.getElem_map _])
 have HAll:=Lib.hid (show (bytesOf X).take X.length = bytesOf X from List.take_of_length_le (by unfold bytesOf;rw [List.length_map];exact Nat.le_refl _))
 clear hX hok
 go_enter Tryz.func137,Tryz.ntmps137
 go_wp2_with fail
 go_loopw [4,11] (fun vv iv wr=>∃ (j:Nat) (v:Value),j ≤ X.length ∧ iv = .int .i64 (j:Int) ∧ vv = v ∧ Hid (wr.ownsRow w.heap.size 9 1 v j (strV ((bytesOf X).take j))) ∧ Hid (Below w.heap.size w wr)) (fun _ iv _=>X.length - (RowKit.intOf iv).toNat)
 case atStart=>exact ⟨0,.slice none 0 0,Nat.zero_le _,rfl,rfl,Lib.hid (World.ownsRow_nil _ _ _ _),Lib.hid (Below.refl _ _)⟩
 case round =>
  obtain ⟨j,v,hj,rfl,rfl,hown,hbl⟩:=hrel
  by_cases hlt:j < X.length
  ·have pj:(j:Int) < (X.length:Int):=by omega
   obtain ⟨ad,rfl,hc2,hval⟩:=HX.out _ hbl.out j hlt
   have hok:=HOk.out _ (List.getElem_mem hlt)
   have HTj:=Lib.hid (HTk.out j hlt)
   generalize X[j] = x at hc2 hval hok HTj
   obtain ⟨x,A1,B1,c1,d1⟩:=x
   simp only at hval hok HTj
   have x0:=hc2 0 _ rfl
   have x1:=hc2 1 _ rfl
   have x2:=hc2 2 _ rfl
   have x3:=hc2 3 _ rfl
   have x4:=hc2 4 _ rfl
   have x5:=hc2 5 _ rfl
   have x6:=hc2 6 _ rfl
   have x7:=hc2 7 _ rfl
   have x8:=hc2 8 _ rfl
   rw [← Lt.add_field _ _ _ (by omega)] at x1 x2 x3 x4 x5 x6 x7 x8
   rw [Nat.add_zero] at x0
   have he:=lencodeAll A1 B1 c1 d1 x _ (hval.below ((Below.refl _ wr).alloc (Nat.le_refl _) (.cells #[.int .i64 x.kind,.int .i64 x.txn,.int .i64 x.ts,.int .i64 x.coord,.string x.key,.string x.text,.bool x.dead,.slice A1 x.keys.length c1,.slice B1 x.ws.length d1] 37)))
   rw [encV_ok hok] at he
   unfold recV at he
   have HEn:=Lib.hid he
   have hr1:Cel (wr.alloc (.cells #[.int .i64 x.kind,.int .i64 x.txn,.int .i64 x.ts,.int .i64 x.coord,.string x.key,.string x.text,.bool x.dead,.slice A1 x.keys.length c1,.slice B1 x.ws.length d1] 37)) wr.heap.size 37 [.int .i64 x.kind,.int .i64 x.txn,.int .i64 x.ts,.int .i64 x.coord,.string x.key,.string x.text,.bool x.dead,.slice A1 x.keys.length c1,.slice B1 x.ws.length d1]:=(blk1 wr _).2
   have hb1:Below wr.heap.size wr (wr.alloc (.cells #[.int .i64 x.kind,.int .i64 x.txn,.int .i64 x.ts,.int .i64 x.coord,.string x.key,.string x.text,.bool x.dead,.slice A1 x.keys.length c1,.slice B1 x.ws.length d1] 37)):=(Below.refl _ wr).alloc (Nat.le_refl _) _
   clear hc2 hval hok he
   go_upto_region 5 with fail
   generalize wr.alloc (.cells #[.int .i64 x.kind,.int .i64 x.txn,.int .i64 x.ts,.int .i64 x.coord,.string x.key,.string x.text,.bool x.dead,.slice A1 x.keys.length c1,.slice B1 x.ws.length d1] 37) = W1 at hr1 hb1 HEn ⊢
   have q0:=hr1.cell (i:=0) rfl
   have q1:=hr1.cell (i:=1) rfl
   have q2:=hr1.cell (i:=2) rfl
   have q3:=hr1.cell (i:=3) rfl
   have q4:=hr1.cell (i:=4) rfl
   have q5:=hr1.cell (i:=5) rfl
   have q6:=hr1.cell (i:=6) rfl
   have q7:=hr1.cell (i:=7) rfl
   have q8:=hr1.cell (i:=8) rfl
   have HO1:=Lib.hid (st_keep hown.out hb1)
   have HB1:=Lib.hid (hbl.out.trans (hb1.mono hbl.out.size))
   clear hr1 hb1 x0 x1 x2 x3 x4 x5 x6 x7 x8 hown hbl
   go_wp2_with fail
   refine HEn.out.mono ?_
   rintro e2 w2 ⟨rfl,hb⟩
   have HO2:=Lib.hid (st_keep HO1.out hb)
   have HB2:=Lib.hid (HB1.out.trans (hb.mono HB1.out.size))
   have hT:recB x = ⟨(recL x).toArray⟩:=rfl
   rw [← hT]
   generalize recB x = t at HTj ⊢
   clear hb HEn HO1 HB1 q0 q1 q2 q3 q4 q5 q6 q7 q8 hT
   go_wp2_with (at_builtin;refine wpList_append_own_at _ rfl _ _ 23 rfl w.heap.size 9 i0 (.string ⟨#[]⟩) 1 16 Tryz.underlying23 hi hz0 hz1 hz2 rfl (by decide) _ j (strV ((bytesOf X).take j)) rfl (st_keep HO2.out ((Below.refl _ w2).alloc (Nat.le_refl _) _)) ⟨w2.heap.size,0,none⟩ 1 1 [.string t] rfl rfl ?f1 ?f2 ?f3 ?f4 ?f5 ?_)
   case f1=>first | exact fun j u hu=>hu | exact fun j u hu=>by rw [addr_head];exact blk_cell (blk1 w2 _).2 (by rw [List.getElem?_toArray];exact hu)
   case f2=>intro u hu;simp at hu;subst hu;rfl
   case f3=>unfold maxLen;omega
   case f4=>omega
   case f5=>have:=HB2.out.size;simp;omega
   intro v6 w6 ho6 hg6 _ hat6
   rw [← HTj.out] at ho6
   have HO6:=Lib.hid ho6
   have HB6:=Lib.hid ((HB2.out.trans (((Below.refl _ w2).alloc (Nat.le_refl _) (.cells #[.string t] 9)).mono HB2.out.size)).grown hg6 (by have:=HB2.out.size;have h2:(w2.alloc (.cells #[.string t] 9)).heap.size = w2.heap.size + 1:=Array.size_push ..;omega) (fun k hk=>(HO2.out.lt k hk).1))
   clear ho6 hg6 hat6 HO2 HB2
   go_wp2_with fail
   go_roundw
   case rel=>exact ⟨j + 1,v6,by omega,by go_num,rfl,HO6,HB6⟩
   case measure=>simp [RowKit.intOf];omega
  ·obtain rfl:j = X.length:=by omega
   have ho:=hown.out
   rw [HAll.out] at ho
   obtain ⟨B,d,rfl,-⟩:=Sh.own_rowF (F:=fun _=>False) ho (by rw [strV_len];unfold bytesOf;rw [List.length_map,Nat.mul_one]) (fun _ hf=>hf.elim)
   have HO:=Lib.hid ho
   clear ho hown
   go_wp2_with fail
   go_ret2
   exact ⟨B,d,rfl,HO.out,hbl.out⟩
end Vt
end Go.Proofs.YtbkanoblcojdfaaGreat
namespace Go.Proofs.YtbkanoblcojdfaaGreat
namespace Sh
open Go.RowKit Bk Ch Lt Rc Tr
structure KI where
 k:Kc
 A:Option Addr
 c:Nat
instance:Inhabited KI:=⟨⟨⟨⟨#[]⟩,[]⟩,none,0⟩⟩
def ecs (x:Int × Int):List Value:=[.int .i64 x.1,.int .i64 x.2]
theorem ecs_len (x:Int × Int):(ecs x).length = 2:=rfl
structure KVal (W:World) (F:Nat → Prop) (x:KI):Prop where
 row:RowF W F x.A (vrV x.k.l)
 nil:x.A = none → x.k.l.length = 0 ∧ x.c = 0
 le:x.k.l.length ≤ x.c
 cap:x.c ≤ maxLen
theorem RowF.vrs {W:World} {F:Nat → Prop} {A:Option Addr} {l:List Vr} (h:RowF W F A (vrV l)):VrsAt W A l:=fun hp=>by
 obtain ⟨ad,e,h1,_,h3⟩:=h (by rw [vrV_len];omega)
 refine ⟨ad,e,h1,fun i hi=>?_⟩
 obtain ⟨x0,x1,x2⟩:=vrV_at l i hi
 exact ⟨h3 _ _ x0,h3 _ _ x1,h3 _ _ x2⟩
theorem KVal.away {W W':World} {F:Nat → Prop} {x:KI} (h:KVal W F x) (k:Away F W W'):KVal W' F x:=⟨h.row.away k,h.nil,h.le,h.cap⟩
theorem KVal.turn {W:World} {F F':Nat → Prop} {x:KI} (h:KVal W F x) (hF:∀ k,F' k → F k ∨ W.heap.size ≤ k):KVal W F' x:=⟨h.row.turn hF,h.nil,h.le,h.cap⟩
structure PVal (W:World) (F:Nat → Prop) (x:RI):Prop where
 val:RecVal W x.A x.B x.c x.d x.l
 ka:0 < x.l.keys.length → ∀ ad,x.A = some ad → ¬ F ad.block
 wa:0 < x.l.ws.length → ∀ ad,x.B = some ad → ¬ F ad.block
theorem strs_away {W W':World} {F:Nat → Prop} {A:Option Addr} {l:List ByteArray} (h:StrsAt W A l) (ha:0 < l.length → ∀ ad,A = some ad → ¬ F ad.block) (k:Away F W W'):StrsAt W' A l:=fun hp=>by
 obtain ⟨ad,e,h1,h2⟩:=h hp
 have hn:=ha hp ad e
 exact ⟨ad,e,Nat.lt_of_lt_of_le h1 k.size,fun i hi=>(k.cell _ (by rw [st_block];exact h1) (by rw [st_block];exact hn)).trans (h2 i hi)⟩
theorem wrs_away {W W':World} {F:Nat → Prop} {A:Option Addr} {l:List Wr} (h:WrsAt W A l) (ha:0 < l.length → ∀ ad,A = some ad → ¬ F ad.block) (k:Away F W W'):WrsAt W' A l:=fun hp=>by
 obtain ⟨ad,e,h1,h2⟩:=h hp
 have hn:=ha hp ad e
 exact ⟨ad,e,Nat.lt_of_lt_of_le h1 k.size,fun i hi=>⟨(k.cell _ (by rw [st_block];exact h1) (by rw [st_block];exact hn)).trans (h2 i hi).1,(k.cell _ (by rw [st_block];exact h1) (by rw [st_block];exact hn)).trans (h2 i hi).2.1,(k.cell _ (by rw [st_block];exact h1) (by rw [st_block];exact hn)).trans (h2 i hi).2.2⟩⟩
theorem PVal.away {W W':World} {F:Nat → Prop} {x:RI} (h:PVal W F x) (k:Away F W W'):PVal W' F x :=
 ⟨⟨strs_away h.val.ks h.ka k,wrs_away h.val.ws h.wa k,h.val.rng,h.val.kn,h.val.wn⟩,h.ka,h.wa⟩
theorem PVal.turn {W:World} {F F':Nat → Prop} {x:RI} (h:PVal W F x) (hF:∀ k,F' k → F k ∨ W.heap.size ≤ k):PVal W F' x :=
 ⟨h.val,fun hp ad e hf=>by
  obtain ⟨a',e',h1,_⟩:=h.val.ks hp
  obtain rfl:=Option.some.inj (e.symm.trans e')
  exact (hF _ hf).elim (h.ka hp ad e) (fun h=>by omega),fun hp ad e hf=>by
  obtain ⟨a',e',h1,_⟩:=h.val.ws hp
  obtain rfl:=Option.some.inj (e.symm.trans e')
  exact (hF _ hf).elim (h.wa hp ad e) (fun h=>by omega)⟩
def G (F:Nat → Prop) (g:Nat):Nat → Prop:=fun k=>F k ∨ k = g
section
variable {W W':World} {F F':Nat → Prop} {g:Nat} {A B C:Option Addr} {a b c:Nat} {K:List KI} {P:List RI} {s:Shf}
end
end Sh
end Go.Proofs.YtbkanoblcojdfaaGreat
namespace Go.Proofs.YtbkanoblcojdfaaGreat
namespace Ch
open Go.RowKit Bk
attribute [local go_sem ↓] Go.wp_at_zero Go.wp_at_succ
attribute [local go_sem] floatUpon pick
theorem bad_none_go {t:Int} {s:ByteArray} {d:Bool} (h:¬ t < 1 ∧ ¬ 1125899906842624 < t ∧ ¬ 2052 < s.size ∧ ¬ (d = true ∧ s ≠ ⟨#[]⟩)):bad none ⟨t,s,d⟩ = 0:=bad_go h (fun q e=>by cases e)
theorem fault_any (x:Vr) (w:World) (hx:x.shard.size ≤ reachBytes) :
  Calls Tryz.prog 215 #[.agg (vcs x).toArray] w fun e w'=>e = .returned (.int .i64 (bad none x)) ∧ Below w.heap.size w w':=by
 obtain ⟨xt,xs,xd⟩:=x
 have rb:reachBytes = 140737488351232:=rfl
 simp only at hx
 have hxs:(xs.size:Int) ≤ 140737488351232:=by omega
 clear hx rb
 show Calls _ _ #[.agg #[.int .i64 xt,.string xs,.bool xd]] _ _
 have hR0:Cel (w.alloc (.cells #[.int .i64 xt,.string xs,.bool xd] 77)) w.heap.size 77 [.int .i64 xt,.string xs,.bool xd]:=(blk1 w _).2
 have hB0:Below w.heap.size w (w.alloc (.cells #[.int .i64 xt,.string xs,.bool xd] 77)):=(Below.refl _ w).alloc (Nat.le_refl _) _
 have q0:=hR0.cell (i:=0) rfl
 have q1:=hR0.cell (i:=1) rfl
 have q2:=hR0.cell (i:=2) rfl
 have HB:=Lib.hid hB0
 clear hR0 hB0
 by_cases h1:xt < 1
 ·have E:=Lib.hid (show bad none ⟨xt,xs,xd⟩ = 1 from bad_1 (.inl h1))
  go_enter Tryz.func215,Tryz.ntmps215
  go_upto_region 1 with fail
  generalize w.alloc (.cells #[.int .i64 xt,.string xs,.bool xd] 77) = W0 at q0 q1 q2 HB ⊢
  go_wp2_with fail
  go_ret
  exact ⟨by rw [E.out];rfl,HB.out⟩
 by_cases h1':1125899906842624 < xt
 ·have E:=Lib.hid (show bad none ⟨xt,xs,xd⟩ = 1 from bad_1 (.inr h1'))
  go_enter Tryz.func215,Tryz.ntmps215
  go_upto_region 1 with fail
  generalize w.alloc (.cells #[.int .i64 xt,.string xs,.bool xd] 77) = W0 at q0 q1 q2 HB ⊢
  go_wp2_with fail
  go_ret
  exact ⟨by rw [E.out];rfl,HB.out⟩
 by_cases h2:2052 < xs.size
 ·have E:=Lib.hid (show bad none ⟨xt,xs,xd⟩ = 2 from bad_2 h1 h1' h2)
  have p2:(2052:Int) < (xs.size:Int):=by omega
  clear h2
  go_enter Tryz.func215,Tryz.ntmps215
  go_upto_region 1 with fail
  generalize w.alloc (.cells #[.int .i64 xt,.string xs,.bool xd] 77) = W0 at q0 q1 q2 HB ⊢
  go_wp2_with fail
  go_ret
  exact ⟨by rw [E.out];rfl,HB.out⟩
 have p2:¬ (2052:Int) < (xs.size:Int):=by omega
 cases xd with
 | false =>
  have E:=Lib.hid (bad_none_go (d:=false) ⟨h1,h1',h2,by simp⟩)
  clear h2
  go_enter Tryz.func215,Tryz.ntmps215
  go_upto_region 1 with fail
  generalize w.alloc (.cells #[.int .i64 xt,.string xs,.bool false] 77) = W0 at q0 q1 q2 HB ⊢
  go_wp2_with fail
  go_ret
  exact ⟨by rw [E.out];rfl,HB.out⟩
 | true =>
  by_cases he:xs = ⟨#[]⟩
  ·have E:=Lib.hid (bad_none_go (d:=true) ⟨h1,h1',h2,fun h=>h.2 he⟩)
   subst he
   have t0:=text_eq ⟨#[]⟩
   clear h2
   go_enter Tryz.func215,Tryz.ntmps215
   go_upto_region 1 with fail
   generalize w.alloc (.cells #[.int .i64 xt,.string ⟨#[]⟩,.bool true] 77) = W0 at q0 q1 q2 HB ⊢
   go_wp2_with fail
   go_ret
   exact ⟨by rw [E.out];rfl,HB.out⟩
  ·have E:=Lib.hid (show bad none ⟨xt,xs,true⟩ = 4 from bad_4 h1 h1' h2 ⟨rfl,he⟩)
   have t0:=text_ne he
   have hne:¬ xs.toList = []:=fun h=>he (by apply ByteArray.ext;exact Array.toList_inj.1 (by simpa [ByteArray.toList_eq] using h))
   have hne2:xs.toList.isEmpty = false:=by simpa using hne
   clear h2
   go_enter Tryz.func215,Tryz.ntmps215
   go_upto_region 1 with fail
   generalize w.alloc (.cells #[.int .i64 xt,.string xs,.bool true] 77) = W0 at q0 q1 q2 HB ⊢
   go_wp2_with fail
   go_ret
   exact ⟨by rw [E.out];rfl,HB.out⟩
theorem last_in (A:Option Addr) (c:Nat) (l:List Vr) (n:Nat) (w:World) (h:VrsAt w A l) (hln:l.length = n) (hn:n ≤ 4398046511104) :
  Calls Tryz.prog 171 #[.slice A n c] w fun e w'=>e = .returned (.int .i64 (lastT l)) ∧ w' = w:=by
 subst hln
 have hlen:(l.length:Int) ≤ 4398046511104:=by omega
 by_cases h0:0 < l.length
 ·obtain ⟨ad,rfl,hab,hcl⟩:=h (by omega)
  obtain ⟨x0,-,-⟩:=hcl (l.length - 1) (by omega)
  have hlt:=lastT_at h0
  rw [← hlt] at x0
  have hc1:(l.length:Int) - 1 = ((l.length - 1:Nat):Int):=by omega
  have hc2:((l.length - 1:Nat):Int) < (l.length:Int):=by omega
  have h0':¬ (l.length:Int) = 0:=by omega
  have hz:((l.length:Int) == 0) = false:=by simpa using h0'
  generalize l.length - 1 = k at x0 hc1 hc2
  generalize lastT l = lt at x0 ⊢
  clear hab hcl hlt h0 h hn
  go_enter Tryz.func171,Tryz.ntmps171
  go_wp2_with fail
  go_ret
  exact ⟨rfl,rfl⟩
 ·have h00:l = []:=List.eq_nil_of_length_eq_zero (by omega)
  subst h00
  clear h h0 hn hlen
  go_enter Tryz.func171,Tryz.ntmps171
  go_wp2_with fail
  go_ret
  exact ⟨rfl,rfl⟩
theorem bad_split (p:Option Int) (x:Vr):bad p x = if bad none x = 0 then (match p with | none=>0 | some q=>if x.ts ≤ q then 110 else 0) else bad none x:=by
 unfold bad
 by_cases h1:x.ts < 1 ∨ 1125899906842624 < x.ts
 ·simp [if_pos h1]
 by_cases h2:2052 < x.shard.size
 ·simp [if_neg h1,if_pos h2]
 by_cases h3:x.dead = true ∧ x.shard ≠ ⟨#[]⟩
 ·simp only [if_neg h1,if_neg h2,if_pos h3];rfl
 ·simp only [if_neg h1,if_neg h2,if_neg h3,if_true]
  cases p <;> rfl
theorem bad_none_pos {x:Vr} (h:bad none x = 0):1 ≤ x.ts:=(bad_ok.1 h).1.1
theorem lastT_take {l:List Vr} {j:Nat} (h:j ≤ l.length):(match prevT l j with | none=>(0:Int) | some q=>q) = lastT (l.take j):=by
 cases j with
 | zero=>rfl
 | succ k =>
  have hk:k < l.length:=by omega
  show (match (l[k]?).map (·.ts) with | none=>(0:Int) | some q=>q) = _
  rw [List.getElem?_eq_getElem hk]
  unfold lastT
  rw [List.getLast?_eq_getElem?,List.length_take,List.getElem?_take,Nat.min_eq_left (by omega),if_pos (by omega),Nat.add_sub_cancel,List.getElem?_eq_getElem hk]
  rfl
theorem bad_last {l:List Vr} {j:Nat} {x:Vr} (hj:j ≤ l.length) (h:bad none x = 0):bad (prevT l j) x = if x.ts ≤ lastT (l.take j) then 110 else 0:=by
 rw [bad_split,if_pos h,← lastT_take hj]
 have:=bad_none_pos h
 cases prevT l j with
 | none=>simp only;rw [if_neg (by omega)]
 | some q=>rfl
theorem lcheck_any (A:Option Addr) (c:Nat) (l:List Vr) (w:World) (h:VrsAt w A l) (hn:l.length * 32 ≤ 140737488351232) (hr:∀ x ∈ l,VrRng x) (hc:l.length ≤ c) :
  Calls Tryz.prog 147 #[.slice A l.length c] w fun e w'=>e = .returned (.tuple #[.int .i64 (chkP l).1,.int .i64 (chkP l).2]) ∧ Below w.heap.size w w':=by
 have HA:=Lib.hid h
 have HR:=Lib.hid hr
 have HSl:=Lib.hid (fun n (hn:n ≤ l.length)=>slice_to A l.length c n (Nat.le_trans hn hc))
 clear h hr hc
 have hlen:(l.length:Int) ≤ 4398046511104:=by omega
 by_cases hl:1024 < l.length
 ·have pl:(1024:Int) < (l.length:Int):=by omega
  have E:=Lib.hid (show chkP l = (-1,2) by unfold chkP;rw [if_pos hl])
  clear hl
  go_enter Tryz.func147,Tryz.ntmps147
  go_wp2_with fail
  go_ret2
  exact ⟨by rw [E.out];rfl,Below.refl _ _⟩
 ·have pl:¬ (1024:Int) < (l.length:Int):=by omega
  have E:=Lib.hid (show chkP l = chkL none l 0 by unfold chkP;rw [if_neg hl])
  clear hl
  go_enter Tryz.func147,Tryz.ntmps147
  go_wp2_with fail
  go_loopw [12] (fun iv wr=>∃ j:Nat,j ≤ l.length ∧ iv = .int .i64 (j:Int) ∧ Hid (chkL none l 0 = chkL (prevT l j) (l.drop j) j) ∧ Hid (Below w.heap.size w wr)) (fun iv _=>l.length - (intOf iv).toNat)
  case atStart=>exact ⟨0,by omega,rfl,Lib.hid rfl,Lib.hid (Below.refl _ _)⟩
  case round =>
   obtain ⟨j,hj,rfl,hs,hb⟩:=hrel
   by_cases hlt:j < l.length
   ·have pj:(j:Int) < (l.length:Int):=by omega
    obtain ⟨ad,rfl,hab,hcl⟩:=(HA.out.below hb.out) (by omega)
    obtain ⟨x0,x1,x2⟩:=hcl j hlt
    have ST:=Lib.hid (chk_step hlt)
    have HSj:=Lib.hid (HSl.out j hj)
    have hrg:=HR.out _ (List.getElem_mem hlt)
    rw [← add_field _ _ _ (by omega)] at x1 x2
    obtain ⟨X,hX⟩:∃ X,l[j] = X:=⟨_,rfl⟩
    have HXe:=Lib.hid hX
    rw [hX] at x0 x1 x2 hrg
    clear hX hab hcl
    obtain ⟨xt,xs,xd⟩:=X
    simp only at x0 x1 x2 hrg
    have HFa:=Lib.hid (fun W=>fault_any ⟨xt,xs,xd⟩ W hrg.shard)
    have hB0:Below wr.heap.size wr (wr.alloc (.cells #[.int .i64 xt,.string xs,.bool xd] 77)):=(Below.refl _ wr).alloc (Nat.le_refl _) _
    have hR0:Cel (wr.alloc (.cells #[.int .i64 xt,.string xs,.bool xd] 77)) wr.heap.size 77 [.int .i64 xt,.string xs,.bool xd]:=(blk1 wr _).2
    clear hrg
    go_upto_region 6 with fail
    have HB1:=Lib.hid (hb.out.trans (hB0.mono hb.out.size))
    have HR1:=Lib.hid hR0
    have q0:=hR0.cell (i:=0) rfl
    have q1:=hR0.cell (i:=1) rfl
    have q2:=hR0.cell (i:=2) rfl
    generalize hG:wr.heap.size = G at *
    generalize wr.alloc (.cells #[.int .i64 xt,.string xs,.bool xd] 77) = W1 at *
    clear hR0 hB0 x0 x1 x2 hb hG
    go_wp2_with fail
    refine (HFa.out _).mono ?_
    rintro e2 w2 ⟨rfl,hb⟩
    have HB2:=Lib.hid (HB1.out.trans (hb.mono HB1.out.size))
    have hR2:=HR1.out.below hb
    have q0:=hR2.cell (i:=0) rfl
    clear hR2 hb HFa HB1 HR1
    obtain ⟨f,hf⟩:∃ f,bad none ⟨xt,xs,xd⟩ = f:=⟨_,rfl⟩
    have Hf:=Lib.hid hf
    rw [hf]
    clear hf
    by_cases h0:f = 0
    ·subst h0
     have HLi:=Lib.hid (fun n=>last_in (some ad) c (l.take j) j (w2.drewN n) ((HA.out.below HB2.out).take j) (by rw [List.length_take];omega) (by omega))
     have hbad:=bad_last hj Hf.out
     generalize lastT (l.take j) = lt at HLi hbad
     simp only at hbad
     have sl:=HSj.out
     have HBd:=Lib.hid hbad
     clear hbad
     by_cases h4:xt ≤ lt
     ·have E2:=Lib.hid (show chkP l = ((j:Int),110) by
       have hbad:bad (prevT l j) ⟨xt,xs,xd⟩ = 110:=by rw [HBd.out,if_pos h4]
       rw [E.out,hs.out,ST.out,HXe.out,hbad];rfl)
      clear hs
      go_upto_region 9 with fail
      go_quiet ((go_at_call 171;exact Calls.quiet_of_same (HLi.out _)))
      rename_i nq
      have HB:=Lib.hid (HB2.out.trans ((below_drew w2.heap.size w2 nq).mono HB2.out.size))
      generalize w2.drewN nq = W9 at HB ⊢
      go_wp2_with fail
      go_ret2
      exact ⟨by rw [E2.out];rfl,HB.out⟩
     ·have HS2:=Lib.hid (show chkL none l 0 = chkL (prevT l (j + 1)) (l.drop (j + 1)) (j + 1) by
       have hbad:bad (prevT l j) ⟨xt,xs,xd⟩ = 0:=by rw [HBd.out,if_neg h4]
       rw [hs.out,ST.out,HXe.out,hbad];rfl)
      clear hs
      go_upto_region 9 with fail
      go_quiet ((go_at_call 171;exact Calls.quiet_of_same (HLi.out _)))
      rename_i nq
      have HB:=Lib.hid (HB2.out.trans ((below_drew w2.heap.size w2 nq).mono HB2.out.size))
      generalize w2.drewN nq = W9 at HB ⊢
      go_wp2_with fail
      go_roundw
      case rel=>exact ⟨j + 1,by omega,by go_num,HS2,HB⟩
      case measure=>simp [intOf];omega
    ·have E2:=Lib.hid (show chkP l = ((j:Int),f) by
      have hbad:bad (prevT l j) ⟨xt,xs,xd⟩ = f:=by rw [bad_split,Hf.out,if_neg h0]
      rw [E.out,hs.out,ST.out,HXe.out,hbad,if_neg h0])
     have hz:(f == 0) = false:=by simpa using h0
     clear hs
     go_wp2_with fail
     go_ret2
     exact ⟨by rw [E2.out];rfl,HB2.out⟩
   ·obtain rfl:j = l.length:=by omega
    have E2:=Lib.hid (show chkP l = (0,0) by rw [E.out,hs.out,List.drop_length];rfl)
    have HB:=hb
    clear hs hb
    go_wp2_with fail
    go_ret2
    exact ⟨by rw [E2.out];rfl,HB.out⟩
theorem above_in (A:Option Addr) (c:Nat) (l:List Vr) (t:Int) (p1 p2:Addr) (j:Nat) (w:World) (hA:VrsAt w A l) (h1:w.cell? p1 = some (.slice A l.length c)) (h2:w.cell? p2 = some (.int .i64 t)) (hj:j < l.length) (hn:l.length ≤ 1024) :
  Calls Tryz.prog 217 #[.int .i64 (j:Int),.pointer (some p1),.pointer (some p2)] w fun e w'=>e = .returned (.bool (decide (t < l[j].ts))) ∧ ∃ n,w' = w.drewN n:=by
 have hlen:(l.length:Int) ≤ 1024:=by omega
 have pj:(j:Int) < (l.length:Int):=by omega
 obtain ⟨ad,rfl,hab,hcl⟩:=hA (by omega)
 obtain ⟨x0,-,-⟩:=hcl j hj
 generalize l[j].ts = xt at x0 ⊢
 clear hab hcl hA hn hj
 go_enter Tryz.func217,Tryz.ntmps217
 go_upto_region 1 with fail
 go_quiet (fail)
 rename_i nq
 go_wp2_with fail
 go_ret
 exact ⟨rfl,_,rfl⟩
structure Mid (l:List Vr) (t:Int) (i j:Nat):Prop where
 le:i ≤ j
 ln:j ≤ l.length
 low:∀ k (h:k < l.length),k < i → l[k].ts ≤ t
 high:∀ k (h:k < l.length),j ≤ k → t < l[k].ts
theorem Mid.place {l:List Vr} {t:Int} {i:Nat} (h:Mid l t i i):placeN l t = i:=place_at h.ln h.low (fun hk=>h.high i hk (Nat.le_refl _))
theorem rise_at {l:List Vr} (h:l.Pairwise (fun x y=>x.ts < y.ts)) {i j:Nat} (hj:j < l.length) (hij:i ≤ j):(l[i]'(by omega)).ts ≤ l[j].ts:=by
 rcases Nat.eq_or_lt_of_le hij with e | e
 ·subst e;exact Int.le_refl _
 ·exact Int.le_of_lt (List.pairwise_iff_getElem.1 h i j (by omega) hj e)
theorem Mid.left {l:List Vr} {t:Int} {i j m:Nat} (h:Mid l t i j) (hr:l.Pairwise (fun x y=>x.ts < y.ts)) (hm:m < l.length) (hmj:m < j) (ht:¬ t < l[m].ts):Mid l t (m + 1) j :=
 ⟨by omega,h.ln,fun k hk hkm=>Int.le_trans (rise_at hr hm (by omega)) (by omega),h.high⟩
theorem Mid.right {l:List Vr} {t:Int} {i j m:Nat} (h:Mid l t i j) (hr:l.Pairwise (fun x y=>x.ts < y.ts)) (hm:m < l.length) (him:i ≤ m) (ht:t < l[m].ts):Mid l t i m :=
 ⟨him,by omega,h.low,fun k hk hkm=>Int.lt_of_lt_of_le ht (rise_at hr hk hkm)⟩
theorem search_any (A:Option Addr) (c:Nat) (l:List Vr) (t:Int) (p1 p2:Addr) (w:World) (hA:VrsAt w A l) (h1:w.cell? p1 = some (.slice A l.length c)) (h2:w.cell? p2 = some (.int .i64 t)) (hb1:p1.block < w.heap.size) (hb2:p2.block < w.heap.size) (hr:l.Pairwise (fun x y=>x.ts < y.ts)) (hn:l.length ≤ 1024) :
  Calls Tryz.prog 216 #[.int .i64 (l.length:Int),.func (.func 217) #[] #[.pointer (some p1),.pointer (some p2)]] w fun e w'=>e = .returned (.int .i64 (placeN l t:Int)) ∧ Below w.heap.size w w':=by
 have HC:=Lib.hid (fun j (hj:j < l.length) W (hb:Below w.heap.size w W)=>above_in A c l t p1 p2 j W (hA.below hb) ((cell_kept hb _ hb1).trans h1) ((cell_kept hb _ hb2).trans h2) hj hn)
 have HR:=Lib.hid hr
 have hlen:(l.length:Int) ≤ 1024:=by omega
 clear hA h1 h2 hb1 hb2 hr hn
 go_enter Tryz.func216,Tryz.ntmps216
 go_wp2_with fail
 go_loopw [5,6] (fun iv jv wr=>∃ i j:Nat,iv = .int .i64 (i:Int) ∧ jv = .int .i64 (j:Int) ∧ Hid (Mid l t i j) ∧ Hid (Below w.heap.size w wr)) (fun iv jv _=>(intOf jv).toNat - (intOf iv).toNat)
 case atStart=>exact ⟨0,l.length,rfl,rfl,Lib.hid ⟨by omega,by omega,fun k _ h=>absurd h (by omega),fun k hk h=>absurd hk (by omega)⟩,Lib.hid (Below.refl _ _)⟩
 case round =>
  obtain ⟨i,j,rfl,rfl,hm,hb⟩:=hrel
  have hij:=hm.out.le
  have hjl:=hm.out.ln
  have pj:(j:Int) ≤ 1024:=by omega
  by_cases hlt:i < j
  ·have pij:(i:Int) < (j:Int):=by omega
   obtain ⟨m,hmm⟩:∃ m:Nat,(i + j) / 2 = m:=⟨_,rfl⟩
   have him:i ≤ m:=by omega
   have hmj:m < j:=by omega
   have HCm:=Lib.hid (HC.out m (by omega))
   go_upto_region 4 with fail
   rw [show ((i:Int) + (j:Int)) / 2 = (m:Int) by omega]
   have hml:m < l.length:=by omega
   by_cases ht:t < l[m].ts
   ·have HM:=Lib.hid (hm.out.right HR.out hml him ht)
    have HCm2:Hid (∀ W,Below w.heap.size w W → Calls Tryz.prog 217 #[.int .i64 (m:Int),.pointer (some p1),.pointer (some p2)] W fun e w'=>e = .returned (.bool true) ∧ ∃ n,w' = W.drewN n):=Lib.hid (fun W hb=>by have:=HCm.out W hb;rwa [decide_eq_true ht] at this)
    have HB:=hb
    clear hm hb HCm HC ht hmm him hij hjl pij
    go_wp2_with fail
    refine (HCm2.out _ HB.out).mono ?_
    rintro e2 w2 ⟨rfl,nq,rfl⟩
    have HB2:=Lib.hid (HB.out.trans ((below_drew wr.heap.size wr nq).mono HB.out.size))
    generalize wr.drewN nq = W2 at HB2 ⊢
    clear HCm2
    go_wp2_with fail
    go_roundw
    case rel=>exact ⟨i,m,rfl,rfl,HM,HB2⟩
    case measure=>simp [intOf];have:=HM.out.le;omega
   ·have HM:=Lib.hid (hm.out.left HR.out hml hmj ht)
    have HCm2:Hid (∀ W,Below w.heap.size w W → Calls Tryz.prog 217 #[.int .i64 (m:Int),.pointer (some p1),.pointer (some p2)] W fun e w'=>e = .returned (.bool false) ∧ ∃ n,w' = W.drewN n):=Lib.hid (fun W hb=>by have:=HCm.out W hb;rwa [decide_eq_false ht] at this)
    have HB:=hb
    have pm:(m:Int) ≤ 1024:=by omega
    have HMi:=Lib.hid him
    have HLt:=Lib.hid hlt
    clear hm hb HCm HC ht hmm him hij hjl pij hlt
    go_wp2_with fail
    refine (HCm2.out _ HB.out).mono ?_
    rintro e2 w2 ⟨rfl,nq,rfl⟩
    have HB2:=Lib.hid (HB.out.trans ((below_drew wr.heap.size wr nq).mono HB.out.size))
    generalize wr.drewN nq = W2 at HB2 ⊢
    clear HCm2
    go_wp2_with fail
    go_roundw
    case rel=>exact ⟨m + 1,j,by go_num,rfl,HM,HB2⟩
    case measure=>simp [intOf];have:=HMi.out;have:=HLt.out;omega
  ·obtain rfl:i = j:=by omega
   have hp:=hm.out.place
   have HB:=hb
   clear hm hb
   go_wp2_with fail
   go_ret
   exact ⟨by rw [hp];rfl,HB.out⟩
theorem notAbove_any (A:Option Addr) (c:Nat) (l:List Vr) (t:Int) (w:World) (hA:VrsAt w A l) (hr:l.Pairwise (fun x y=>x.ts < y.ts)) (hn:l.length ≤ 1024) :
  Calls Tryz.prog 148 #[.slice A l.length c,.int .i64 t] w fun e w'=>e = .returned (.int .i64 (placeN l t:Int)) ∧ Below w.heap.size w w':=by
 obtain ⟨W1,hW1⟩:∃ W1,w.alloc (.cells #[.slice A l.length c] 92) = W1:=⟨_,rfl⟩
 obtain ⟨W2,hW2⟩:∃ W2,W1.alloc (.cells #[.int .i64 t] 3) = W2:=⟨_,rfl⟩
 have hs1:W1.heap.size = w.heap.size + 1:=by rw [← hW1];simp
 have hs2:W2.heap.size = w.heap.size + 2:=by rw [← hW2];simp [hs1]
 have hb1:Below w.heap.size w W1:=by rw [← hW1];exact (Below.refl _ w).alloc (Nat.le_refl _) _
 have hb2:Below W1.heap.size W1 W2:=by rw [← hW2];exact (Below.refl _ W1).alloc (Nat.le_refl _) _
 have hbw:Below w.heap.size w W2:=hb1.trans (hb2.mono hb1.size)
 have c1:W1.cell? ⟨w.heap.size,0,none⟩ = some (.slice A l.length c):=by rw [← hW1];exact blk_cell (blk1 w _).2 rfl
 have c2:W2.cell? ⟨W1.heap.size,0,none⟩ = some (.int .i64 t):=by rw [← hW2];exact blk_cell (blk1 W1 _).2 rfl
 have c1':W2.cell? ⟨w.heap.size,0,none⟩ = some (.slice A l.length c):=(cell_kept hb2 _ (by rw [hs1];exact Nat.lt_succ_self _)).trans c1
 rw [hs1] at c2
 have HS:=Lib.hid (search_any A c l t ⟨w.heap.size,0,none⟩ ⟨w.heap.size + 1,0,none⟩ W2 (hA.below hbw) c1' c2 (by show w.heap.size < _;omega) (by show w.heap.size + 1 < _;omega) hr hn)
 have HB:=Lib.hid hbw
 have hlen:(l.length:Int) ≤ 1024:=by omega
 clear hA hr hn hb1 hb2 hbw c1 c2 hs2
 go_enter Tryz.func148,Tryz.ntmps148
 go_upto_region 1 with fail
 clear hW1 hW2
 go_wp2_with fail
 refine HS.out.mono ?_
 rintro e2 w2 ⟨rfl,hb⟩
 have HB2:=Lib.hid (HB.out.trans (hb.mono HB.out.size))
 clear hb HS HB
 go_wp2_with fail
 go_ret
 exact ⟨rfl,HB2.out⟩
end Ch
end Go.Proofs.YtbkanoblcojdfaaGreat
