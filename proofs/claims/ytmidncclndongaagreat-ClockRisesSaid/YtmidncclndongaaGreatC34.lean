/- Parts of the proof, joined: CkRise, CkRun, CkRises; their conditions stand with each. -/
import Derived.Test.YtmidncclndongaaGreatC31
import Derived.Test.YtmidncclndongaaGreatC32
import Derived.Test.YtmidncclndongaaGreatC33

set_option maxRecDepth 20000
set_option maxHeartbeats 8000000
namespace Go.Proofs.YtmidncclndongaaGreat
namespace Ck
open Rd Sc Rc
theorem keep_stored {D E:Dev} (hok:DevOk D) (h4:4 ≤ D.on.length) (hlen:E.on.length = D.on.length) {a:Nat} (ha:a ≤ 1) {L:List UInt8} (hL:L.length ≤ areaN D) (hst:storedL D a L.length = L)
  (h1:∀ i,i < L.length / 64 → flushF E (areaAt D a + i) = flushF D (areaAt D a + i))
  (h2:L.length % 64 ≠ 0 → (flushF E (areaAt D a + L.length / 64)).data.toList.take (L.length % 64) = (flushF D (areaAt D a + L.length / 64)).data.toList.take (L.length % 64)):storedL E a L.length = L:=by
 have hd:areaN D / 64 * 64 = areaN D:=by unfold areaN;omega
 have hA:=areaAt_on hlen a
 have hc:catS E a (L.length / 64) = catS D a (L.length / 64):=cat_congr (fun k hk=>by rw [hA];exact h1 k hk)
 have hl:=catS_len hok h4 ha (L.length / 64) (by omega)
 unfold storedL at hst ⊢
 by_cases hr:L.length % 64 = 0
 ·have e:(L.length + 63) / 64 = L.length / 64:=by omega
  rw [e] at hst ⊢
  rw [hc];exact hst
 ·have e:(L.length + 63) / 64 = L.length / 64 + 1:=by omega
  have e2:L.length - 64 * (L.length / 64) = L.length % 64:=by omega
  rw [e,catS_succ,List.take_append,hl,e2] at hst
  rw [e,catS_succ,hA,hc,List.take_append,hl,e2,h2 hr]
  exact hst
theorem old_tail {D:Dev} (hok:DevOk D) (h4:4 ≤ D.on.length) {a:Nat} (ha:a ≤ 1) {L:List UInt8} (hL:L.length ≤ areaN D) (hst:storedL D a L.length = L) (hr:L.length % 64 ≠ 0) :
  (flushF D (areaAt D a + L.length / 64)).data.toList.take (L.length % 64) = L.drop (64 * (L.length / 64)):=by
 have hd:areaN D / 64 * 64 = areaN D:=by unfold areaN;omega
 have hl:=catS_len hok h4 ha (L.length / 64) (by omega)
 have e:(L.length + 63) / 64 = L.length / 64 + 1:=by omega
 have e2:L.length - 64 * (L.length / 64) = L.length % 64:=by omega
 unfold storedL at hst
 rw [e,catS_succ,List.take_append,hl,e2,List.take_of_length_le (by omega)] at hst
 have:=congrArg (List.drop (64 * (L.length / 64))) hst
 rw [List.drop_append_of_le_length (by omega),List.drop_of_length_le (by omega),List.nil_append] at this
 exact this
theorem blk_tail {old more:List UInt8}:(blkB (old ++ more) (old.length / 64)).data.toList.take (old.length % 64) = old.drop (64 * (old.length / 64)):=by
 have hl:(blkB (old ++ more) (old.length / 64)).data.toList = rowB (old ++ more) (old.length / 64) (limB (old ++ more) (old.length / 64)):=by unfold blkB;simp
 have hlim:old.length % 64 ≤ limB (old ++ more) (old.length / 64):=by
  unfold limB
  rw [List.length_append]
  omega
 have hle:limB (old ++ more) (old.length / 64) ≤ (old ++ more).length - 64 * (old.length / 64):=by unfold limB;omega
 rw [hl]
 unfold rowB
 rw [List.take_append_of_le_length (by rw [List.length_take,List.length_drop];omega),List.take_take,Nat.min_eq_left hlim,List.drop_append_of_le_length (by omega),List.take_append_of_le_length (by rw [List.length_drop];omega),List.take_of_length_le (by rw [List.length_drop];omega)]
def Secs (D E:Dev) (a:Nat) (old more:List UInt8):Prop :=
 ∀ j,2 ≤ j → j < D.on.length → flushF E j = flushF D j ∨ (inW D a old more j ∧ ∃ c,c ≤ 64 ∧ (flushF E j).data.toList = (blkB (old ++ more) (j - areaAt D a)).data.toList.take c ++ (flushF D j).data.toList.drop c)
theorem Cut1.secs {D E:Dev} {a:Nat} {old more:List UInt8} (h:Cut1 D E a old more):Secs D E a old more:=fun j _ hj=>h j hj
theorem Cut2.secs {D E:Dev} {cnt a:Nat} {old more:List UInt8} (hok:DevOk D) (h:Cut2 D E cnt a old more):Secs D E a old more:=fun j h2 hj=>by
 have h3:=h.1 j hj (by have:=Nat.mod_lt (cnt + 1) (show 2 > 0 by omega);omega)
 by_cases hi:inW D a old more j
 ·rw [if_pos hi] at h3
  refine .inr ⟨hi,64,Nat.le_refl _,?_⟩
  have hs:(flushF D j).data.toList.length = 64:=by rw [Array.length_toList];exact flush64 hok hj
  have hb:(blkB (old ++ more) (j - areaAt D a)).data.toList.length = 64:=by rw [Array.length_toList];exact blkB_size _ _
  rw [h3,List.take_of_length_le (by omega),List.drop_of_length_le (by omega),List.append_nil]
 ·rw [if_neg hi] at h3
  exact .inl h3
theorem torn_take {B X:List UInt8} {c r:Nat} (hB:B.length = 64) (hr:r ≤ 64) (h:B.take r = X.take r):(B.take c ++ X.drop c).take r = X.take r:=by
 by_cases hc:r ≤ c
 ·by_cases hc2:c ≤ 64
  ·rw [List.take_append_of_le_length (by rw [List.length_take];omega),List.take_take,Nat.min_eq_left hc]
   exact h
  ·rw [List.take_of_length_le (show B.length ≤ c by omega),List.take_append_of_le_length (by omega)]
   exact h
 ·have e:B.take c = X.take c:=by
   have:=congrArg (List.take c) h
   rwa [List.take_take,List.take_take,Nat.min_eq_left (by omega)] at this
  rw [e,List.take_append_drop]
theorem Secs.keep {D E:Dev} {a:Nat} {old more:List UInt8} (h:Secs D E a old more) (hok:DevOk D) (h4:4 ≤ D.on.length) (hlen:E.on.length = D.on.length) {ar:Nat} (har:ar ≤ 1) (ha:a ≤ 1) {L:List UInt8} (hL:L.length ≤ areaN D) (hst:storedL D ar L.length = L)
  (hz:(old ++ more).length ≤ areaN D) (hcase:(a = ar ∧ old = L) ∨ a ≠ ar):storedL E ar L.length = L:=by
 have hd:areaN D / 64 * 64 = areaN D:=by unfold areaN;omega
 have hA2:2 ≤ areaAt D ar:=by unfold areaAt;omega
 have hfit:=fun k hk=>area_fit (D:=D) h4 (a:=ar) (k:=k) har hk
 have hml:=many_le hz
 rcases hcase with ⟨rfl,rfl⟩ | hne
 ·refine keep_stored hok h4 hlen har hL hst (fun i hi=>?_) (fun hr=>?_)
  ·rcases h (areaAt D a + i) (by omega) (hfit i (by omega)) with e | ⟨hw,_⟩
   ·exact e
   ·exfalso
    unfold inW at hw
    omega
  ·rcases h (areaAt D a + old.length / 64) (by omega) (hfit _ (by omega)) with e | ⟨_,c,hc,e⟩
   ·rw [e]
   ·rw [e,Nat.add_sub_cancel_left]
    exact torn_take (by rw [Array.length_toList];exact blkB_size _ _) (by omega) (by rw [blk_tail,old_tail hok h4 ha hL hst hr])
 ·have hout:∀ i,i < areaN D / 64 → flushF E (areaAt D ar + i) = flushF D (areaAt D ar + i):=fun i hi=>by
   rcases h (areaAt D ar + i) (by omega) (hfit i hi) with e | ⟨hw,_⟩
   ·exact e
   ·exfalso
    unfold inW areaAt at hw
    have h01:(a = 0 ∧ ar = 1) ∨ (a = 1 ∧ ar = 0):=by omega
    rcases h01 with ⟨rfl,rfl⟩ | ⟨rfl,rfl⟩ <;> omega
  refine keep_stored hok h4 hlen har hL hst (fun i hi=>hout i (by omega)) (fun hr=>?_)
  rw [hout _ (by omega)]
theorem told_in {D E:Dev} {l:Lg} (hok:DevOk D) (hokE:DevOk E) (h:LgIn D l) (hlen:E.on.length = D.on.length) {a mn:Nat} {old more:List UInt8} {ts:List ByteArray} (ha:a ≤ 1) (hz:(old ++ more).length ≤ areaN D) (hst:storedL D a old.length = old) (hc:l.cnt < 4611686018427388000)
  (hbs:old ++ more = frs ts 0 mn) (hmn:mn = ts.length) (hsm:∀ t ∈ ts,t.size ≤ 4096)
  (hv:∀ j,j < D.on.length → flushF E j = if j = (l.cnt + 1) % 2 then headB (l.cnt + 1) a (old ++ more).length else if areaAt D a + old.length / 64 ≤ j ∧ j < areaAt D a + old.length / 64 + manyW old more then blkB (old ++ more) (j - areaAt D a) else flushF D j) :
  LgIn E ⟨l.cnt + 1,a,old ++ more,ts,mn⟩:=by
 have h4:=h.ok.dev
 have hab:=room_small hok
 have hN:=areaN_on hlen
 have hq:(l.cnt + 1) % 2 < 2:=Nat.mod_lt _ (by omega)
 have hz2:(old ++ more).length ≤ areaN E:=by rw [hN];exact hz
 have hw0:waitL ⟨l.cnt + 1,a,old ++ more,ts,mn⟩ = []:=by unfold waitL;rw [hmn];exact frs_same _ _
 have hroom:(old ++ more).length + (waitL ⟨l.cnt + 1,a,old ++ more,ts,mn⟩).length ≤ areaN E:=by rw [hw0];simpa using hz2
 refine ⟨⟨by omega,ha,by rw [hmn];exact Nat.le_refl _,hroom,many_small hokE (by rw [hmn];exact Nat.le_refl _) hbs rfl hroom⟩,by show 1 ≤ l.cnt + 1;omega,by show l.cnt + 1 ≤ _;omega,hbs,hsm,?_,fun hc2=>?_⟩
 ·exact settle_stored hok hokE h4 hlen ha hq hz hst hv
 ·have hd:=h.hd (by show l.cnt ≤ 4611686018427387904;have:l.cnt + 1 ≤ 4611686018427387904:=hc2;omega)
  refine hds_new (c:=l.cnt + 1) hq (by rw [hN];exact Nat.lt_of_le_of_lt hab (by decide)) (by omega) hc2 ha hz2 (by rw [hv _ (by omega),if_pos rfl]) fun j hj hjq ho=>?_
  have hA2:2 ≤ areaAt D a:=by unfold areaAt;omega
  rw [hv j (by omega),if_neg hjq,if_neg (by omega)] at ho ⊢
  rw [hN] at ho
  have:=hds_max hd j hj ho
  show _ < l.cnt + 1
  have e:(l.cnt,l.ar,l.bs.length).1 = l.cnt:=rfl
  omega
def fitsC (l:Lg) (t:ByteArray):Prop:=t.size + 6 ≤ 192 - l.bs.length
instance (l:Lg) (t:ByteArray):Decidable (fitsC l t):=by unfold fitsC;exact inferInstance
def nA (l:Lg) (t:ByteArray):Nat:=if fitsC l t then l.ar else 1 - l.ar
def nOld (l:Lg) (t:ByteArray):List UInt8:=if fitsC l t then l.bs else []
def nTs (l:Lg) (t:ByteArray):List ByteArray:=if fitsC l t then l.ts ++ [t] else [t]
def nNew (l:Lg) (t:ByteArray):List UInt8:=nOld l t ++ Su.frameL t.data.toList
def nLg (l:Lg) (t:ByteArray):Lg:=⟨l.cnt + 1,nA l t,nNew l t,nTs l t,(nTs l t).length⟩
def tgt (blk B:Int):Int:=min (B + blk) mxS
structure Rn (blk:Int) (D:Dev) (l:Lg) (B:Int) (N:Nat):Prop where
 up:D.down = false
 cl:Sc.Clean D
 ok:DevOk D
 len:D.on.length = 8
 lg:LgIn D l
 cnt:l.cnt ≤ N
 mn:l.mn = l.ts.length
 ld:loadC l.ts 0 = some B
 b0:0 ≤ B
 bm:B ≤ mxS
 cur:flushF D (l.cnt % 2) = headB l.cnt l.ar l.bs.length
 oth:∃ (k:Nat) (S:List UInt8),k ≤ 64 ∧ OldH l.cnt S ∧ (flushF D ((l.cnt + 1) % 2)).data.toList = (headL (l.cnt + 1) (nA l (upB (tgt blk B))) (nNew l (upB (tgt blk B))).length).take k ++ S.drop k
section
variable {blk B:Int} {D E:Dev} {l:Lg} {N M:Nat}
theorem Rn.more (h:Rn blk D l B N) (hN:N ≤ M):Rn blk D l B M:=⟨h.up,h.cl,h.ok,h.len,h.lg,Nat.le_trans h.cnt hN,h.mn,h.ld,h.b0,h.bm,h.cur,h.oth⟩
theorem Rn.wi (h:Rn blk D l B N) (hi:Idle D):Wi 8 D ⟨l,B,B⟩ N:=⟨hi,h.cl,h.ok,h.len,h.lg,h.cnt,h.mn,h.ld,⟨h.b0,Int.le_refl _,h.bm⟩⟩
theorem Rn.seen (h:Rn blk D l B N) (hu:E.down = false) (hcl:Sc.Clean E) (hok:DevOk E) (hlen:E.on.length = D.on.length) (hv:∀ j,j < D.on.length → flushF E j = flushF D j):Rn blk E l B N:=by
 have hl:=h.len
 have h2:=Nat.mod_lt l.cnt (show 2 > 0 by omega)
 have h3:=Nat.mod_lt (l.cnt + 1) (show 2 > 0 by omega)
 exact ⟨hu,hcl,hok,hlen.trans h.len,h.lg.seen hlen hv,h.cnt,h.mn,h.ld,h.b0,h.bm,by rw [hv _ (by omega)];exact h.cur,by rw [hv _ (by omega)];exact h.oth⟩
theorem Rn.crash (h:Rn blk D l B N) (ps:List Int):Rn blk (crD D ps) l B N:=h.seen rfl (cr_clean h.ok.len ps) (crD_ok h.ok ps) (cr_len _ _) (fun _ hj=>cr_view h.ok.len h.cl ps hj)
theorem Rn.fuse (h:Rn blk D l B N) (n:Int):Rn blk (fuD D n).1 l B N:=by
 refine h.seen ?_ ?_ (fuD_ok h.ok n) (fuD_len D n) (fun j _=>fuse_seen D n j)
 ·unfold fuD
  split
  ·exact h.up
  split
  ·exact h.up
  ·exact h.up
 ·unfold fuD
  split
  ·exact h.cl
  split
  ·exact h.cl
  ·exact h.cl
theorem Rn.opens (h:Rn blk D l B N) (hN:N ≤ 4611686018427387904):openP D = (D,some l,0):=by
 have:=reopen h.lg h.up (Nat.le_trans h.cnt hN)
 rw [h.mn,List.take_length] at this
 rw [this,← h.mn]
theorem tgt_rng (h:Rn blk D l B N) (h1:1 ≤ blk) (hB:B < mxS):B < tgt blk B ∧ 1 ≤ tgt blk B ∧ tgt blk B ≤ mxS:=by
 have:=h.b0
 unfold tgt
 omega
theorem fresh_rn (blk:Int):∃ D1,openP (new0 8) = (D1,some ⟨1,0,[],[],0⟩,0) ∧ Idle D1 ∧ Rn blk D1 ⟨1,0,[],[],0⟩ 0 1:=by
 obtain ⟨D1,q1,q2,q3,q5,q6,q7⟩:=fresh_open (n:=8) (by omega) (by omega)
 refine ⟨D1,q1,q2,q2.2,q3,q5,q6,q7,Nat.le_refl _,rfl,rfl,Int.le_refl _,by decide,?_,0,List.replicate 64 0,by omega,.inl rfl,?_⟩
 all_goals
  have hok:=new0_ok (show 1 ≤ 8 by omega) (show 8 ≤ 2048 by omega)
  have hid:=new0_idle 8
  have hh:=new_heads (n:=8) (by omega)
  have hl8:(new0 8).on.length = 8:=by simp [new0]
  have hw:wrD (new0 8) 1 (headB 1 0 0) = (⟨(new0 8).on,(new0 8).new.set 1 (headB 1 0 0),0,false⟩,0):=wr_idle hid (k:=1) (by omega) (headB_size _ _ _)
  have ho1:=wrD_ok hok 1 (headB 1 0 0)
  rw [hw] at ho1
  have hD:D1 = (flD ⟨(new0 8).on,(new0 8).new.set 1 (headB 1 0 0),0,false⟩).1:=by
   have h0:(flD ⟨(new0 8).on,(new0 8).new.set 1 (headB 1 0 0),0,false⟩).2 = 0:=(flD_idle (D:=⟨(new0 8).on,(new0 8).new.set 1 (headB 1 0 0),0,false⟩) ⟨rfl,rfl⟩).1
   have ha:andD (wrD (new0 8) 1 (headB 1 0 0)) flD = flD ⟨(new0 8).on,(new0 8).new.set 1 (headB 1 0 0),0,false⟩:=by
    rw [hw];rfl
   unfold openP at q1
   rw [if_neg (by omega),if_neg (by rw [hid.2];simp),hh] at q1
   simp only [ha] at q1
   rw [if_pos h0] at q1
   exact (Prod.mk.inj q1).1.symm
  have hv:∀ j,j < 8 → flushF D1 j = if j = 1 then headB 1 0 0 else zero64:=fun j hj=>by
   rcases fl_view ho1 rfl with ⟨_,_,_,r4⟩ | ⟨r,_⟩
   ·rw [hD,r4 j (by show j < (new0 8).on.length;omega),view_set (D:=new0 8) (by simp [new0]) (headB_size 1 0 0) 0 false]
    split
    ·rfl
    ·exact new_view hj
   ·rw [(flD_idle (D:=⟨(new0 8).on,(new0 8).new.set 1 (headB 1 0 0),0,false⟩) ⟨rfl,rfl⟩).1] at r
    cases r
 ·show flushF D1 1 = headB 1 0 0
  rw [hv 1 (by omega),if_pos rfl]
 ·show (flushF D1 0).data.toList = _
  rw [hv 0 (by omega),if_neg (by omega)]
  unfold zero64
  simp
theorem area8 (h:Rn blk D l B N):areaN D = 192:=by unfold areaN;rw [h.len]
theorem wait0 (h:Rn blk D l B N):waitL l = []:=by unfold waitL;rw [h.mn];exact frs_same _ _
theorem new_ok (h:Rn blk D l B N) {t:ByteArray} (ht:t.size ≤ 80):nA l t ≤ 1 ∧ (nNew l t).length ≤ areaN D ∧ storedL D (nA l t) (nOld l t).length = nOld l t ∧ nNew l t = frs (nTs l t) 0 (nTs l t).length ∧ (∀ x ∈ nTs l t,x.size ≤ 4096) ∧ ((nA l t = l.ar ∧ nOld l t = l.bs) ∨ nA l t ≠ l.ar):=by
 have har:=h.lg.ok.ar
 have h8:=area8 h
 have hfl:(Su.frameL t.data.toList).length = t.size + 6:=by rw [Su.frameL_len];rfl
 have hsm:=h.lg.small
 unfold nNew nA nOld nTs
 by_cases hf:fitsC l t
 ·have hf2:=hf
  unfold fitsC at hf2
  rw [if_pos hf,if_pos hf,if_pos hf]
  refine ⟨har,by rw [List.length_append,hfl,h8];omega,h.lg.st,?_,fun x hx=>?_,.inl ⟨rfl,rfl⟩⟩
  ·have e1:=h.lg.bs
   rw [h.mn] at e1
   rw [e1,frs_all,frs_all,List.take_length,List.take_length,List.flatMap_append]
   simp
  ·rcases List.mem_append.1 hx with hx | hx
   ·exact hsm x hx
   ·rw [List.mem_singleton.1 hx];omega
 ·rw [if_neg hf,if_neg hf,if_neg hf]
  refine ⟨by omega,by rw [List.nil_append,hfl,h8];omega,by unfold storedL;simp,?_,fun x hx=>by rw [List.mem_singleton.1 hx];omega,.inr (by omega)⟩
  rw [frs_all,List.take_length]
  simp
theorem raise_is (h:Rn blk D l B N) {m last:Int} (ht:(upB m).size ≤ 80) :
  ((settleP D l.cnt (nA l (upB m)) (nOld l (upB m)) (Su.frameL (upB m).data.toList)).2 = 0 → raiseC D ⟨l,last,B⟩ m = ((settleP D l.cnt (nA l (upB m)) (nOld l (upB m)) (Su.frameL (upB m).data.toList)).1,⟨nLg l (upB m),last,m⟩,0)) ∧
  ((settleP D l.cnt (nA l (upB m)) (nOld l (upB m)) (Su.frameL (upB m).data.toList)).2 ≠ 0 → ∃ k',raiseC D ⟨l,last,B⟩ m = ((settleP D l.cnt (nA l (upB m)) (nOld l (upB m)) (Su.frameL (upB m).data.toList)).1,k',(settleP D l.cnt (nA l (upB m)) (nOld l (upB m)) (Su.frameL (upB m).data.toList)).2)):=by
 have h8:=area8 h
 have hw:=wait0 h
 have hmn:=h.mn
 generalize hT:upB m = t at ht ⊢
 have hR:∀ D2 l2 e,writeC D l t = (D2,l2,e) → raiseC D ⟨l,last,B⟩ m = (D2,⟨l2,last,if e = 0 then m else B⟩,e):=fun D2 l2 e he=>by
  unfold raiseC
  rw [hT]
  simp only [he]
 by_cases hf:fitsC l t
 ·have hf2:=hf
  unfold fitsC at hf2
  have ha:appendP D l t = (⟨l.cnt,l.ar,l.bs,l.ts ++ [t],l.mn⟩,0):=app_fits (by omega) (by
   unfold roomN
   rw [h8,hw]
   simpa using hf2)
  have hwr:writeC D l t = syncP D ⟨l.cnt,l.ar,l.bs,l.ts ++ [t],l.mn⟩:=by
   unfold writeC
   rw [ha]
   exact (if_neg (show ¬ (0:Int) = 100 by decide)).trans (if_pos rfl)
  have hwt:waitL ⟨l.cnt,l.ar,l.bs,l.ts ++ [t],l.mn⟩ = Su.frameL t.data.toList:=by
   have:=wait_snoc (l:=l) h.lg.ok.mn t
   rw [this,hw];rfl
  have hsy:syncP D ⟨l.cnt,l.ar,l.bs,l.ts ++ [t],l.mn⟩ = if (settleP D l.cnt l.ar l.bs (Su.frameL t.data.toList)).2 = 0 then ((settleP D l.cnt l.ar l.bs (Su.frameL t.data.toList)).1,⟨l.cnt + 1,l.ar,l.bs ++ Su.frameL t.data.toList,l.ts ++ [t],(l.ts ++ [t]).length⟩,0)
    else ((settleP D l.cnt l.ar l.bs (Su.frameL t.data.toList)).1,⟨l.cnt,l.ar,l.bs,l.ts ++ [t],l.mn⟩,(settleP D l.cnt l.ar l.bs (Su.frameL t.data.toList)).2):=by
   unfold syncP
   rw [if_neg (by show l.mn ≠ (l.ts ++ [t]).length;rw [List.length_append,hmn];simp),hwt]
  have e1:nA l t = l.ar:=if_pos hf
  have e2:nOld l t = l.bs:=if_pos hf
  have e3:nLg l t = ⟨l.cnt + 1,l.ar,l.bs ++ Su.frameL t.data.toList,l.ts ++ [t],(l.ts ++ [t]).length⟩:=by
   unfold nLg nNew
   rw [e1,e2,show nTs l t = l.ts ++ [t] from if_pos hf]
  rw [e1,e2,e3]
  refine ⟨fun h0=>?_,fun h0=>?_⟩
  ·rw [if_pos h0] at hsy
   exact (hR _ _ _ (hwr.trans hsy)).trans (by rw [if_pos rfl])
  ·rw [if_neg h0] at hsy
   exact ⟨_,hR _ _ _ (hwr.trans hsy)⟩
 ·have hf2:=hf
  unfold fitsC at hf2
  have ha:appendP D l t = (l,100):=by
   unfold appendP
   rw [if_neg (by omega),if_pos]
   unfold roomN
   rw [h8,hw]
   simp only [List.length_nil]
   omega
  have hwr:writeC D l t = restartP D l [t]:=by
   unfold writeC
   rw [ha]
   exact if_pos rfl
  have hal:allF [t] = Su.frameL t.data.toList:=by
   unfold allF
   rw [frs_all,List.take_length]
   simp
  have hfl:(Su.frameL t.data.toList).length = t.size + 6:=by rw [Su.frameL_len];rfl
  have hrs:restartP D l [t] = if (settleP D l.cnt (1 - l.ar) [] (Su.frameL t.data.toList)).2 = 0 then ((settleP D l.cnt (1 - l.ar) [] (Su.frameL t.data.toList)).1,⟨l.cnt + 1,1 - l.ar,Su.frameL t.data.toList,[t],[t].length⟩,0)
    else ((settleP D l.cnt (1 - l.ar) [] (Su.frameL t.data.toList)).1,l,(settleP D l.cnt (1 - l.ar) [] (Su.frameL t.data.toList)).2):=by
   unfold restartP
   rw [if_neg (by rintro ⟨x,h1,h2⟩;rw [List.mem_singleton.1 h1] at h2;omega),hal,if_neg (by rw [hfl,h8];omega)]
  have e1:nA l t = 1 - l.ar:=if_neg hf
  have e2:nOld l t = []:=if_neg hf
  have e3:nLg l t = ⟨l.cnt + 1,1 - l.ar,Su.frameL t.data.toList,[t],[t].length⟩:=by
   unfold nLg nNew
   rw [e1,e2,show nTs l t = [t] from if_neg hf]
   rfl
  rw [e1,e2,e3]
  refine ⟨fun h0=>?_,fun h0=>?_⟩
  ·rw [if_pos h0] at hrs
   exact (hR _ _ _ (hwr.trans hrs)).trans (by rw [if_pos rfl])
  ·rw [if_neg h0] at hrs
   exact ⟨_,hR _ _ _ (hwr.trans hrs)⟩
theorem new_load (h:Rn blk D l B N) {m:Int} (h1:B < m) (h2:m ≤ mxS):loadC (nTs l (upB m)) 0 = some m:=by
 have:=h.b0
 unfold nTs
 split
 ·exact load_up h.ld h1 h.b0 h2
 ·exact load_one (by omega) h2
theorem told_rn (h:Rn blk D l B N) (hN:N < 4611686018427387000) {m:Int} (h1:B < m) (h2:m ≤ mxS) (hu:E.down = false) (hcl:Sc.Clean E) (hok:DevOk E) (hlen:E.on.length = D.on.length)
  (hv:∀ j,j < D.on.length → flushF E j = if j = (l.cnt + 1) % 2 then headB (l.cnt + 1) (nA l (upB m)) (nNew l (upB m)).length else if inW D (nA l (upB m)) (nOld l (upB m)) (Su.frameL (upB m).data.toList) j then blkB (nNew l (upB m)) (j - areaAt D (nA l (upB m))) else flushF D j) :
  Rn blk E (nLg l (upB m)) m (N + 1):=by
 have hb0:=h.b0
 have hc:=h.cnt
 have hc1:=h.lg.c1
 have hl8:=h.len
 obtain ⟨n1,n2,n3,n4,n5,-⟩:=new_ok h (up_size (n:=m) (by omega) h2)
 have hlg:=told_in (a:=nA l (upB m)) (mn:=(nTs l (upB m)).length) (old:=nOld l (upB m)) (more:=Su.frameL (upB m).data.toList) (ts:=nTs l (upB m)) h.ok hok h.lg hlen n1 n2 n3 (by omega) n4 rfl n5 hv
 have h3:=Nat.mod_lt l.cnt (show 2 > 0 by omega)
 have h4:=Nat.mod_lt (l.cnt + 1) (show 2 > 0 by omega)
 have hA2:2 ≤ areaAt D (nA l (upB m)):=by unfold areaAt;omega
 refine ⟨hu,hcl,hok,hlen.trans h.len,hlg,by show l.cnt + 1 ≤ _;omega,rfl,new_load h h1 h2,by omega,h2,?_,0,headL l.cnt l.ar l.bs.length,by omega,.inr ⟨l.ar,l.bs.length,h.lg.ok.ar,?_,by show 2 ≤ l.cnt + 1;omega,by show l.cnt + 1 < 256 ^ 8;omega,rfl⟩,?_⟩
 ·show flushF E ((l.cnt + 1) % 2) = headB (l.cnt + 1) (nA l (upB m)) (nNew l (upB m)).length
  rw [hv _ (by omega),if_pos rfl]
 ·have:=h.lg.ok.room
  rw [area8 h] at this
  omega
 ·show (flushF E ((l.cnt + 1 + 1) % 2)).data.toList = _
  have e:(l.cnt + 1 + 1) % 2 = l.cnt % 2:=by omega
  rw [e,hv _ (by omega),if_neg (by omega),if_neg (by unfold inW;omega),h.cur]
  unfold headB
  simp
theorem stays_rn (h:Rn blk D l B N) {m:Int} (hm:m = tgt blk B) (hm1:1 ≤ m) (h2:m ≤ mxS) (hu:E.down = false) (hcl:Sc.Clean E) (hok:DevOk E) (hlen:E.on.length = D.on.length)
  (hs:Secs D E (nA l (upB m)) (nOld l (upB m)) (Su.frameL (upB m).data.toList)) (hcur:flushF E (l.cnt % 2) = flushF D (l.cnt % 2))
  (hoth:∃ (k:Nat) (S:List UInt8),k ≤ 64 ∧ OldH l.cnt S ∧ (flushF E ((l.cnt + 1) % 2)).data.toList = (headL (l.cnt + 1) (nA l (upB m)) (nNew l (upB m)).length).take k ++ S.drop k)
  (hno:(flushF E ((l.cnt + 1) % 2)).data.toList ≠ headL (l.cnt + 1) (nA l (upB m)) (nNew l (upB m)).length):Rn blk E l B N:=by
 have hc:=h.cnt
 have hl8:=h.len
 obtain ⟨n1,n2,n3,n4,n5,n6⟩:=new_ok h (up_size hm1 h2)
 have h3:=Nat.mod_lt l.cnt (show 2 > 0 by omega)
 have h4:=Nat.mod_lt (l.cnt + 1) (show 2 > 0 by omega)
 have hN2:=areaN_on hlen
 have hrm:=h.lg.ok.room
 have h8:=area8 h
 refine ⟨hu,hcl,hok,hlen.trans h.len,⟨⟨by omega,h.lg.ok.ar,h.lg.ok.mn,by rw [hN2];exact hrm,h.lg.ok.many⟩,h.lg.c1,h.lg.cnt,h.lg.bs,h.lg.small,?_,fun hc2=>?_⟩,h.cnt,h.mn,h.ld,h.b0,h.bm,hcur.trans h.cur,hm ▸ hoth⟩
 ·refine hs.keep h.ok (by omega) hlen h.lg.ok.ar n1 (by omega) h.lg.st n2 ?_
  rcases n6 with ⟨q1,q2⟩ | q
  ·exact .inl ⟨q1,q2⟩
  ·exact .inr q
 ·refine hds_new (q:=l.cnt % 2) (c:=l.cnt) h3 (by rw [hN2,h8];decide) h.lg.c1 hc2 h.lg.ok.ar (by rw [hN2];omega) (hcur.trans h.cur) fun j hj hjq ho=>?_
  obtain rfl:j = (l.cnt + 1) % 2:=by omega
  obtain ⟨k,S,hk,hS,e⟩:=hoth
  rw [e] at ho hno ⊢
  have hS2:S = List.replicate 64 0 ∨ ∃ c' a' n',S = headL c' a' n':=by
   rcases hS with q | ⟨a,n,_,_,_,_,q⟩
   ·exact .inl q
   ·exact .inr ⟨_,_,_,q⟩
  rcases torn_head (ab:=areaN E) hS2 ho with q | ⟨q,qz⟩
  ·exact absurd q hno
  ·rcases hS with rfl | ⟨a,n,_,_,hc3,hc4,rfl⟩
   ·exact absurd rfl qz
   ·rw [q,c_head a n (by omega)]
    omega
theorem raise_rn (h:Rn blk D l B N) (hN:N < 4611686018427387000) (h1:1 ≤ blk) (hB:B < mxS) (last:Int) :
  (∃ D2 l2,raiseC D ⟨l,last,B⟩ (tgt blk B) = (D2,⟨l2,last,tgt blk B⟩,0) ∧ Rn blk D2 l2 (tgt blk B) (N + 1)) ∨
  (∃ D2 k2,raiseC D ⟨l,last,B⟩ (tgt blk B) = (D2,k2,90) ∧ DevOk D2 ∧ ∀ ps,∃ l3 B3,(B3 = B ∨ B3 = tgt blk B) ∧ Rn blk (crD D2 ps) l3 B3 (N + 1)):=by
 obtain ⟨t1,t2,t3⟩:=tgt_rng h h1 hB
 have hsz:=up_size t2 t3
 obtain ⟨n1,n2,n3,n4,n5,n6⟩:=new_ok h hsz
 obtain ⟨r1,r2⟩:=raise_is h (m:=tgt blk B) (last:=last) hsz
 have hl8:=h.len
 have hsok:DevOk (settleP D l.cnt (nA l (upB (tgt blk B))) (nOld l (upB (tgt blk B))) (Su.frameL (upB (tgt blk B)).data.toList)).1:=Rd.sync_idle.settle_ok h.ok _ _ _ _
 have hslen:=settle_len D l.cnt (nA l (upB (tgt blk B))) (nOld l (upB (tgt blk B))) (Su.frameL (upB (tgt blk B)).data.toList)
 have hcut:=settle_cut h.ok h.cl h.up (by omega) l.cnt (nA l (upB (tgt blk B))) (nOld l (upB (tgt blk B))) (Su.frameL (upB (tgt blk B)).data.toList) n1 n2
 rcases settle_view h.ok h.up (by omega) l.cnt (nA l (upB (tgt blk B))) (nOld l (upB (tgt blk B))) (Su.frameL (upB (tgt blk B)).data.toList) n1 n2 with ⟨p1,p2,p3,p4⟩ | ⟨p1,p2⟩
 ·left
  exact ⟨_,_,r1 p1,told_rn h hN t1 t3 p2 p3 hsok hslen p4⟩
 ·right
  obtain ⟨k2,hk2⟩:=r2 (by rw [p1];decide)
  rw [p1] at hk2
  refine ⟨_,k2,hk2,hsok,fun ps=>?_⟩
  have hcut:=hcut (by rw [p1];decide) ps
  generalize (settleP D l.cnt (nA l (upB (tgt blk B))) (nOld l (upB (tgt blk B))) (Su.frameL (upB (tgt blk B)).data.toList)).1 = D2 at hsok hslen hcut ⊢
  have hlen:(crD D2 ps).on.length = D.on.length:=(cr_len _ _).trans hslen
  have hokE:=crD_ok hsok ps
  have hclE:=cr_clean hsok.len ps
  have hq:=Nat.mod_lt (l.cnt + 1) (show 2 > 0 by omega)
  have hq2:=Nat.mod_lt l.cnt (show 2 > 0 by omega)
  generalize hE:crD D2 ps = E at hlen hokE hclE hcut ⊢
  have hu:E.down = false:=by rw [← hE];rfl
  have hA2:2 ≤ areaAt D (nA l (upB (tgt blk B))):=by unfold areaAt;omega
  obtain ⟨k,S,hk,hS,ho⟩:=h.oth
  have hHl:(headL (l.cnt + 1) (nA l (upB (tgt blk B))) (nNew l (upB (tgt blk B))).length).length = 64:=headL_len _ _ _
  have stays:=fun hs hcur hoth hno=>stays_rn (E:=E) h (m:=tgt blk B) rfl t2 t3 hu hclE hokE hlen hs hcur hoth hno
  have told:=fun hv=>told_rn (E:=E) h hN t1 t3 hu hclE hokE hlen hv
  have hdno:(flushF D ((l.cnt + 1) % 2)).data.toList ≠ headL (l.cnt + 1) (nA l (upB (tgt blk B))) (nNew l (upB (tgt blk B))).length:=fun e=>by
   have hd:=h.lg.hd (by have:=h.cnt;omega)
   have hok:=ok_head (ab:=areaN D) (c:=l.cnt + 1) (a:=nA l (upB (tgt blk B))) (l:=(nNew l (upB (tgt blk B))).length) (by omega) (by have:=h.cnt;omega) n1 n2 (by rw [area8 h];decide)
   rw [← e] at hok
   have:=hds_max hd _ hq hok
   rw [e,c_head _ _ (by have:=h.cnt;omega)] at this
   simp only at this
   omega
  rcases hcut with hc1 | hc2
  ·have same:∀ j,j < 2 → flushF E j = flushF D j:=fun j hj=>by
    rcases hc1 j (by omega) with e | ⟨hw,_⟩
    ·exact e
    ·exfalso
     unfold inW at hw
     omega
   exact ⟨l,B,.inl rfl,(stays hc1.secs (same _ hq2) ⟨k,S,hk,hS,by rw [same _ hq];exact ho⟩ (by rw [same _ hq];exact hdno)).more (by omega)⟩
  ·obtain ⟨c,hc,ec⟩:=hc2.2
   have e0:nOld l (upB (tgt blk B)) ++ Su.frameL (upB (tgt blk B)).data.toList = nNew l (upB (tgt blk B)):=rfl
   rw [e0] at ec
   by_cases hnew:(flushF E ((l.cnt + 1) % 2)).data.toList = headL (l.cnt + 1) (nA l (upB (tgt blk B))) (nNew l (upB (tgt blk B))).length
   ·refine ⟨_,_,.inr rfl,told fun j hj=>?_⟩
    by_cases hj2:j = (l.cnt + 1) % 2
    ·rw [if_pos hj2,hj2]
     unfold headB
     rw [← hnew]
    ·rw [if_neg hj2]
     exact hc2.1 j hj hj2
   ·have hcur:flushF E (l.cnt % 2) = flushF D (l.cnt % 2):=by
     rw [hc2.1 _ (by omega) (by omega),if_neg (by unfold inW;omega)]
    rw [ho,torn_twice hHl hk] at ec
    exact ⟨l,B,.inl rfl,(stays (hc2.secs h.ok) hcur ⟨max c k,S,by omega,hS,ec⟩ hnew).more (by omega)⟩
end
end Ck
end Go.Proofs.YtmidncclndongaaGreat
namespace Go.Proofs.YtmidncclndongaaGreat
namespace Ck
open Go.RowKit Bk Sc Rd Rc Lt
section
variable {blk:Int} {D:Dev} {l:Lg} {N:Nat} {x y:Int}
theorem next_rn (h:Rn blk D l y N) (hN:N < 4611686018427387000) (h1:1 ≤ blk) (hxy:x ≤ y) (hyx:y ≤ x + blk) (hy:y < mxS) :
  (∃ D2 l2 y2,nextC D ⟨l,x,y⟩ blk = (D2,⟨l2,x + 1,y2⟩,x + 1,0) ∧ Rn blk D2 l2 y2 (N + 1) ∧ x + 1 ≤ y2 ∧ y2 ≤ x + 1 + blk) ∨
  (∃ D2 k2,nextC D ⟨l,x,y⟩ blk = (D2,k2,0,90) ∧ DevOk D2 ∧ ∀ ps,∃ l3 B3,x ≤ B3 ∧ B3 ≤ x + blk ∧ Rn blk (crD D2 ps) l3 B3 (N + 1)):=by
 by_cases he:x = y
 ·subst he
  obtain ⟨t1,t2,t3⟩:=tgt_rng h h1 hy
  have t4:tgt blk x ≤ x + blk:=by unfold tgt;omega
  have hn:nextC D ⟨l,x,x⟩ blk = if (raiseC D ⟨l,x,x⟩ (tgt blk x)).2.2 = 0 then ((raiseC D ⟨l,x,x⟩ (tgt blk x)).1,⟨(raiseC D ⟨l,x,x⟩ (tgt blk x)).2.1.l,x + 1,(raiseC D ⟨l,x,x⟩ (tgt blk x)).2.1.bound⟩,x + 1,0) else ((raiseC D ⟨l,x,x⟩ (tgt blk x)).1,(raiseC D ⟨l,x,x⟩ (tgt blk x)).2.1,0,(raiseC D ⟨l,x,x⟩ (tgt blk x)).2.2):=by
   unfold nextC tgt
   rw [if_neg (by show ¬ x = mxS;omega),if_pos rfl]
  rcases raise_rn h hN h1 hy x with ⟨D2,l2,r1,r2⟩ | ⟨D2,k2,r1,r2,r3⟩
  ·left
   rw [r1] at hn
   exact ⟨D2,l2,tgt blk x,hn.trans (if_pos rfl),r2,by omega,by omega⟩
  ·right
   rw [r1] at hn
   refine ⟨D2,k2,hn.trans (if_neg (show ¬ (90:Int) = 0 by decide)),r2,fun ps=>?_⟩
   obtain ⟨l3,B3,q1,q2⟩:=r3 ps
   exact ⟨l3,B3,by omega,by omega,q2⟩
 ·left
  refine ⟨D,l,y,?_,h.more (by omega),by omega,by omega⟩
  unfold nextC
  rw [if_neg (by show ¬ x = mxS;omega),if_neg he]
end
def RunPost (w:World) (F:Nat → Prop) (b g p N:Nat) (blk x:Int) (e:Ending) (w':World):Prop :=
 (e = .returned (.tuple #[.int .i64 (x + 1),.int .i64 0]) ∧ ∃ D2 l2 y2 F',Rn blk D2 l2 y2 (N + 1) ∧ x + 1 ≤ y2 ∧ y2 ≤ x + 1 + blk ∧ LC w' F' b g p D2 blk ⟨l2,x + 1,y2⟩ ∧ Fr (Tc F b) (Tc F' b) w w') ∨
 (e = .returned (.tuple #[.int .i64 0,.int .i64 90]) ∧ ∃ D2 k2 F',(∀ ps,∃ l3 B3,x ≤ B3 ∧ B3 ≤ x + blk ∧ Rn blk (crD D2 ps) l3 B3 (N + 1)) ∧ LC w' F' b g p D2 blk k2 ∧ Fr (Tc F b) (Tc F' b) w w')
section
variable {w:World} {F:Nat → Prop} {b g p N:Nat} {D:Dev} {blk:Int} {l:Lg} {x y:Int}
theorem run_any (h:LC w F b g p D blk ⟨l,x,y⟩) (hr:Rn blk D l y N) (hN:N < 4611686018427387000) (h1:1 ≤ blk) (h2:blk ≤ 4096) (hx:0 ≤ x) (hxy:x ≤ y) (hyx:y ≤ x + blk) (hy:y < mxS) :
  Calls Tryz.prog 25 #[.pointer (some ⟨b,0,none⟩)] w (RunPost w F b g p N blk x):=by
 have:=lnext_any h hr.lg hr.up ⟨hx,hxy,hr.bm⟩ h1 h2
 rcases next_rn hr hN h1 hxy hyx hy with ⟨D2,l2,y2,q1,q2,q3,q4⟩ | ⟨D2,k2,q1,q2,q3⟩
 ·rw [q1] at this
  refine this.mono ?_
  rintro e w' ⟨rfl,F',r1,r2⟩
  exact .inl ⟨rfl,D2,l2,y2,F',q2,q3,q4,r1,r2⟩
 ·rw [q1] at this
  refine this.mono ?_
  rintro e w' ⟨rfl,F',r1,r2⟩
  exact .inr ⟨rfl,D2,k2,F',q3,r1,r2⟩
end
structure Gap (blk:Int) (w0 W:World) (F:Nat → Prop) (g:Nat) (last far:Int) (j:Nat):Prop where
 ex:∃ D D' l B,openP D = (D',some l,0) ∧ Idle D' ∧ Rn blk D' l B (50 * j + 1) ∧ last ≤ B ∧ B ≤ last + far ∧ B ≤ 1000 * (j:Int) ∧ Side Sc.Rep Rd.LRep W F g D none
 ow:Ow w0 W F
theorem ints_lt {w:World} {A:Option Addr} {l:List Int} (h:IntsAt w A l):0 < l.length → ∀ x,A = some x → x.block < w.heap.size:=fun hp x hx=>by
 obtain ⟨ad,e1,h2,_⟩:=h hp
 rw [e1] at hx
 cases hx
 exact h2
end Ck
end Go.Proofs.YtmidncclndongaaGreat
namespace Go.Proofs.YtmidncclndongaaGreat
namespace Ck
open Go.RowKit Bk Sc Rd Rc Lt
attribute [local go_sem ↓] Go.wp_at_zero Go.wp_at_succ
attribute [local go_sem] floatUpon pick
theorem add_field (a:Addr) (n k:Nat) (hk:0 < k):(⟨(a.add n).block,(a.add n).off + k,none⟩:Addr) = a.add (n + k):=by
 unfold Addr.add
 by_cases h:n = 0
 ·rw [if_pos h,if_neg (by omega),h,Nat.zero_add]
 ·rw [if_neg h,if_neg (by omega)]
  simp only [Nat.add_assoc]
theorem rises_any (a0:Int) (v:Value) (L:List GoI) (w:World) (hv:gosOf w v L) :
  Calls Tryz.prog 5 #[.int .i64 a0,v] w fun e w'=>e = .returned (.bool true) ∧ Below w.heap.size w w':=by
 obtain ⟨A,c,rfl,hat,hl16,hok⟩:=hv
 have HMx:Hid ((1125899906842624:Int) = mxS):=Lib.hid rfl
 have HWk:=Lib.hid (fun V=>cworks_any V)
 have HA20:=Lib.hid (fun x V=>among_any x 20 V (by omega) (by omega))
 have HA41:=Lib.hid (fun x V=>among_any x 41 V (by omega) (by omega))
 have n1:=amongV_lt a0 20 (by omega)
 have HAa:=Lib.hid (fun V=>HA20.out a0 V)
 generalize amongV a0 20 = N1 at HAa n1
 obtain ⟨blk,hblk⟩:∃ blk:Int,blk = 1 + (N1:Int):=⟨_,rfl⟩
 have wb:IntKind.i64.wrap (1 + (N1:Int)) = blk:=by rw [hblk];exact i64_wrap (by omega) (by omega)
 have HB:=Lib.hid (show 1 ≤ blk ∧ blk ≤ 20 by omega)
 have rb:reachBytes = 140737488351232:=by unfold reachBytes;rfl
 have hlen:(L.length:Int) ≤ 9223372036854775807:=by omega
 have HAt:=Lib.hid hat
 have HOk:=Lib.hid hok
 obtain ⟨D1,f1,f2,f3⟩:=fresh_rn blk
 have HF:=Lib.hid (And.intro f1 (And.intro f2 f3))
 clear hat hok hl16 rb n1 hblk f1 f2 f3
 go_enter Tryz.func5,Tryz.ntmps5
 go_wp2_with fail
 refine (devBase.new 8 w ⟨by omega,by omega⟩).mono ?_
 rintro e w1 (⟨_,_,F1,g,rfl,hr1,hF1,hb1⟩ | ⟨hno,_,_⟩)
 case inr=>exact absurd ⟨by omega,by omega⟩ hno
 have O1:Hid (Ow w w1 F1):=Lib.hid ⟨hF1,hb1⟩
 have HR1:=Lib.hid hr1
 clear hr1 hF1 hb1
 go_wp2_with fail
 refine (HWk.out _).mono ?_
 rintro e w2 ⟨rfl,hb2⟩
 have HG0:Hid (Gap blk w w2 F1 g 0 (blk * ((0:Nat):Int)) 0):=Lib.hid ⟨⟨_,D1,_,0,HF.out.1,HF.out.2.1,HF.out.2.2,by omega,by simp,by simp,(devF_of devBase).kept HR1.out (fun k hk=>hb2.block k ((devF_of devBase).lt HR1.out k hk))⟩,O1.out.step hb2⟩
 clear hb2 O1 HR1 HWk HF
 go_wp2_with fail
 refine (HAa.out _).mono ?_
 rintro e W ⟨rfl,rfl⟩
 clear HAa
 go_wp2_with fail
 go_loopw [7,8] (fun lv iv wr=>∃ (j:Nat) (last:Int) (F:Nat → Prop),j ≤ L.length ∧ j ≤ 8 ∧ iv = .int .i64 (j:Int) ∧ lv = .int .i64 last ∧ Hid (Gap blk w wr F g last (blk * (j:Int)) j) ∧ Hid (0 ≤ last ∧ last ≤ 1000 * (j:Int))) (fun _ iv _=>L.length - (RowKit.intOf iv).toNat)
 case atStart=>exact ⟨0,0,F1,Nat.zero_le _,Nat.zero_le _,rfl,rfl,HG0,Lib.hid (by omega)⟩
 case round =>
  obtain ⟨j,last,F2,hj,hj2,rfl,rfl,hg,hla⟩:=hrel
  clear HG0
  by_cases hfin:j < L.length ∧ j < 8
  case neg =>
   obtain ⟨⟨D,D',l,B,g1,g2,g3,g4,g5,g6,g7⟩,o2⟩:=hg.out
   have HOp:=Lib.hid (lopen_any none g7 blk)
   have HO:=Lib.hid (open_some (blk:=blk) g1 g3.ld HB.out.1 (by have:=HB.out;omega))
   have HW:=Lib.hid (And.intro (g3.wi g2) (And.intro g4 (show B ≤ 8000 by omega)))
   have O2:=Lib.hid o2
   have hx:(¬ (j:Int) < (L.length:Int)) ∨ ((j:Int) < (L.length:Int) ∧ ¬ (j:Int) < 8):=by omega
   clear g1 g2 g3 g4 g5 g6 g7 o2 hg hla hfin hj
   rcases hx with p1 | ⟨p1,p2⟩
   all_goals
    go_wp2_with fail
    refine HOp.out.mono ?_
    rintro e w3 hp
    obtain ⟨F3,b3,p3,rfl,hv3,hf3⟩:=opn_some hp HO.out
    have O3:=Lib.hid (O2.out.act hf3)
    have HN:=Lib.hid (next_run hv3 HW.out.1 (by omega) (by omega) HB.out.1 (by have:=HB.out;omega) (by rw [← HMx.out];have:=HW.out.2.2;show B < _;omega))
    have HLt:=Lib.hid (show last < B + 1 by have:=HW.out.2.1;omega)
    clear hp hv3 hf3 O2 HOp HO HW
    go_wp2_with fail
    refine HN.out.mono ?_
    rintro e w4 ⟨rfl,D4,l4,b4,F4,-,-,hf4,-⟩
    have O4:=Lib.hid (O3.out.act hf4)
    have z4:=HLt.out
    clear hf4 O3 HN
    go_wp2_with fail
    go_ret
    exact ⟨rfl,O4.out.bel⟩
  obtain ⟨hlt,hlt2⟩:=hfin
  have pj:(j:Int) < (L.length:Int):=by omega
  have pj2:(j:Int) < 8:=by omega
  obtain ⟨⟨D,D',l,B,g1,g2,g3,g4,g5,g6,g7⟩,o2⟩:=hg.out
  obtain ⟨ad,rfl,hab,hc⟩:=HAt.out (by omega)
  obtain ⟨x0,x1,x2⟩:=hc j hlt
  have HX:=Lib.hid (HOk.out _ (List.getElem_mem hlt))
  generalize L[j] = X at x0 x1 x2 HX
  rw [← add_field _ _ _ (by omega)] at x1 x2
  have HXc:=Lib.hid (fun V (hb:Below w.heap.size w V)=>show V.cell? (ad.add (j * 3)) = some (.int .i64 X.many) ∧ V.cell? ⟨(ad.add (j * 3)).block,(ad.add (j * 3)).off + 1,none⟩ = some (.int .i64 X.fuse) ∧ V.cell? ⟨(ad.add (j * 3)).block,(ad.add (j * 3)).off + 2,none⟩ = some (.slice X.psA X.ps.length X.psc) from
   ⟨(cell_kept hb _ (by rw [st_block];exact hab)).trans x0,(cell_kept hb _ (by show (ad.add (j * 3)).block < _;rw [st_block];exact hab)).trans x1,(cell_kept hb _ (by show (ad.add (j * 3)).block < _;rw [st_block];exact hab)).trans x2⟩)
  have HOp:=Lib.hid (lopen_any none g7 blk)
  have HO:=Lib.hid (open_some (blk:=blk) g1 g3.ld HB.out.1 (by have:=HB.out;omega))
  have HR:=Lib.hid g3
  have HS:=Lib.hid (And.intro g4 (And.intro g5 (And.intro g6 hla.out)))
  have O2:=Lib.hid o2
  have nf:=amongV_lt X.fuse 20 (by omega)
  have nm:=amongV_lt X.many 41 (by omega)
  have HAf:=Lib.hid (fun V=>HA20.out X.fuse V)
  have HAm:=Lib.hid (fun V=>HA41.out X.many V)
  generalize amongV X.fuse 20 = nF at nf HAf
  generalize amongV X.many 41 = nM at nm HAm
  have hQ0:=Int.mul_nonneg (show 0 ≤ blk by have:=HB.out;omega) (show 0 ≤ (j:Int) by omega)
  have hQ1:=Int.mul_le_mul (show blk ≤ 20 from HB.out.2) (show (j:Int) ≤ 8 by omega) (by omega) (by omega)
  have hQ2:blk * ((j + 1:Nat):Int) = blk * (j:Int) + blk:=by
   rw [show ((j + 1:Nat):Int) = (j:Int) + 1 by omega,Int.mul_add,Int.mul_one]
  have hQ3:blk * ((j:Int) + 1) = blk * (j:Int) + blk:=by rw [Int.mul_add,Int.mul_one]
  have wj:IntKind.i64.wrap ((j:Int) + 1) = (j:Int) + 1:=i64_wrap (by omega) (by omega)
  obtain ⟨Q,hQ⟩:∃ Q,Q = blk * (j:Int):=⟨_,rfl⟩
  rw [← hQ] at hQ0 hQ1 hQ2 hQ3 HS
  have HP:Hid (blk * ((j + 1:Nat):Int) = Q + blk):=Lib.hid hQ2
  have wm:IntKind.i64.wrap (blk * ((j:Int) + 1)) = Q + blk:=by rw [hQ3];have:=HB.out;exact i64_wrap (by omega) (by omega)
  have HQ:=Lib.hid (show 0 ≤ Q ∧ Q ≤ 160 by omega)
  clear g1 g2 g3 g4 g5 g6 g7 o2 hg hla hc x0 x1 x2 hQ hQ0 hQ1 hQ2 hQ3
  go_wp2_with fail
  refine HOp.out.mono ?_
  rintro e w3 hp
  obtain ⟨F3,b4,p4,rfl,hv3,hf3⟩:=opn_some hp HO.out
  have O3:=Lib.hid (O2.out.act hf3)
  obtain ⟨x0,x1,x2⟩:=HXc.out _ O3.out.bel
  have hfu:=fuse_up HR.out.up (m:=nF) (by omega)
  have HFu:=Lib.hid (Side.fuse (devF_of devBase) logF hv3.sd (nF:Int) (by omega))
  rw [show (fuD D' (nF:Int)).2 = 0 by rw [hfu]] at HFu
  have HR3:=Lib.hid (HR.out.fuse (nF:Int))
  have HV3:=Lib.hid hv3
  clear hp hv3 hf3 O2 HOp HO hfu HR
  generalize (fuD D' (nF:Int)).1 = D3 at HFu HR3
  go_wp2_with fail
  refine (HAf.out _).mono ?_
  rintro e W4 ⟨rfl,rfl⟩
  go_wp2_with fail
  refine HFu.out.mono ?_
  rintro e w4 ⟨rfl,F4,hs4,hf4⟩
  obtain ⟨q1,q2⟩:=HV3.out.dev hs4 hf4
  have O4:=Lib.hid (O3.out.act q2)
  obtain ⟨y0,y1,y2⟩:=HXc.out _ O4.out.bel
  have HI4:Hid (∃ D l x y F,Rn blk D l y (50 * j + 1 + 0) ∧ 0 ≤ x ∧ x ≤ y ∧ y ≤ x + blk ∧ last ≤ x ∧ x ≤ last + Q ∧ x ≤ 1000 * (j:Int) + ((0:Nat):Int) ∧ LC w4 F b4 g p4 D blk ⟨l,x,y⟩ ∧ Ow w w4 (Tc F b4)):=Lib.hid ⟨D3,l,B,B,F4,HR3.out,by have:=HS.out;omega,Int.le_refl _,by have:=HB.out;omega,HS.out.1,HS.out.2.1,by have:=HS.out.2.2.1;omega,q1,O4.out⟩
  clear hs4 hf4 q1 q2 O3 HV3 HFu HR3 HAf x0 x1 x2
  have HSl:=Lib.hid HS.out.2.2.2
  clear HS O4
  go_wp2_with fail
  refine (HAm.out _).mono ?_
  rintro e W5 ⟨rfl,rfl⟩
  clear HAm y0 y1 y2
  go_upto_region 13 with fail
  go_loopw [7,71] (fun lv cv wr=>∃ (i:Nat) (la:Int),i ≤ nM ∧ cv = .int .i64 (i:Int) ∧ lv = .int .i64 la ∧ Hid (∃ D l x y F,Rn blk D l y (50 * j + 1 + i) ∧ 0 ≤ x ∧ x ≤ y ∧ y ≤ x + blk ∧ la ≤ x ∧ x ≤ la + Q ∧ x ≤ 1000 * (j:Int) + (i:Int) ∧ LC wr F b4 g p4 D blk ⟨l,x,y⟩ ∧ Ow w wr (Tc F b4)) ∧ Hid (0 ≤ la ∧ la ≤ 1000 * (j:Int) + (i:Int))) (fun _ cv _=>nM - (RowKit.intOf cv).toNat)
  case atStart=>exact ⟨0,last,Nat.zero_le _,rfl,rfl,HI4,Lib.hid (by have:=HSl.out;omega)⟩
  case round =>
   obtain ⟨i,la,hi,rfl,rfl,hin,hla⟩:=hrel
   clear HI4 HSl
   obtain ⟨D5,l5,x5,y5,F5,r5,s1,s2,s3,s4,s5,s6,v5,o5⟩:=hin.out
   have H5:=Lib.hid v5
   have O5:=Lib.hid o5
   by_cases hlt3:i < nM
   case neg =>
    obtain rfl:i = nM:=by omega
    have pi:¬ (i:Int) < (i:Int):=by omega
    have R5:Hid (∀ ps,∃ l3 B3,x5 ≤ B3 ∧ B3 ≤ x5 + blk ∧ Rn blk (crD D5 ps) l3 B3 (50 * j + 1 + i)):=Lib.hid (fun ps=>⟨l5,y5,s2,s3,r5.crash ps⟩)
    have HN:=Lib.hid (show la ≤ x5 ∧ x5 ≤ la + Q ∧ x5 ≤ 1000 * (j:Int) + 40 ∧ blk ≤ 20 ∧ 0 ≤ la by have:=HB.out;have:=hla.out;omega)
    obtain ⟨z0,z1,z2⟩:=HXc.out _ O5.out.bel
    clear hin hla r5 s1 s2 s3 s4 s5 s6 v5 o5
    have HC:=Lib.hid (fun V (F9:Nat → Prop) (D9:Dev) (t:Side Sc.Rep Rd.LRep V F9 g D9 (some (p4,(⟨l5,x5,y5⟩:Cl).l))) (o:Ow w V (Tc F9 b4))=>Side.crash (devF_of devBase) t X.psA X.psc X.ps ((HX.out.aps).below o.bel) (fun hp a ha hf=>by have h1:=ints_lt HX.out.aps hp a ha;have h2:=o.bF _ (.inl hf);omega) HX.out.lps HX.out.rps)
    have HCr:=Lib.hid (HC.out _ _ _ H5.out.sd O5.out)
    clear HC HXc
    go_wp2_with fail
    refine HCr.out.mono ?_
    rintro e8 w8 ⟨rfl,F8,hs8,hf8⟩
    have HG:Hid (Gap blk w w8 F8 g la (blk * ((j + 1:Nat):Int)) (j + 1)):=Lib.hid (by
     obtain ⟨l3,B3,q1,q2,q3⟩:=R5.out X.ps
     refine ⟨⟨_,_,l3,B3,(q3.more (M:=50 * (j + 1) + 1) (by omega)).opens (by omega),cr_idle _ _,q3.more (by omega),?_,?_,?_,hs8⟩,(O5.out.less (Q:=F5) (fun k hk=>.inl hk)).act hf8⟩
     ·have:=HN.out.1;omega
     ·have:=HN.out;rw [HP.out];omega
     ·have:=HN.out;omega)
    clear HCr hs8 hf8 R5 O5 H5
    go_wp2_with fail
    go_roundw
    case rel=>exact ⟨j + 1,la,_,by omega,by omega,by go_num,rfl,HG,Lib.hid (by have:=HN.out;omega)⟩
    case measure=>simp [RowKit.intOf];omega
   have pi:(i:Int) < (nM:Int):=by omega
   have HRu:=Lib.hid (run_any v5 r5 (by omega) HB.out.1 (by have:=HB.out;omega) s1 s2 s3 (by rw [← HMx.out];have:=HB.out;omega))
   have HN5:=Lib.hid (show la ≤ x5 ∧ x5 ≤ la + Q ∧ x5 ≤ 1000 * (j:Int) + (i:Int) ∧ 0 ≤ la ∧ la ≤ 1000 * (j:Int) + (i:Int) by have:=hla.out;omega)
   clear hin hla r5 s1 s2 s3 s4 s5 s6 v5 o5
   go_wp2_with fail
   refine HRu.out.mono ?_
   rintro e w6 (⟨rfl,D6,l6,y6,F6,r6,t1,t2,v6,f6⟩ | ⟨rfl,D6,k6,F6,r6,v6,f6⟩)
   ·have c1:¬ x5 + 1 ≤ la:=by have:=HN5.out;omega
    have wl:IntKind.i64.wrap (la + 1) = la + 1:=i64_wrap (by have:=HN5.out;omega) (by have:=HN5.out;omega)
    have wt:IntKind.i64.wrap (la + 1 + (Q + blk)) = la + 1 + (Q + blk):=i64_wrap (by have:=HN5.out;have:=HB.out;have:=HQ.out;omega) (by have:=HN5.out;have:=HB.out;have:=HQ.out;omega)
    have c2:¬ la + 1 + (Q + blk) < x5 + 1:=by have:=HN5.out;have:=HB.out;omega
    have HI6:Hid (∃ D l x y F,Rn blk D l y (50 * j + 1 + (i + 1)) ∧ 0 ≤ x ∧ x ≤ y ∧ y ≤ x + blk ∧ x5 + 1 ≤ x ∧ x ≤ x5 + 1 + Q ∧ x ≤ 1000 * (j:Int) + ((i + 1:Nat):Int) ∧ LC w6 F b4 g p4 D blk ⟨l,x,y⟩ ∧ Ow w w6 (Tc F b4)):=Lib.hid ⟨D6,l6,x5 + 1,y6,F6,r6,by have:=HN5.out;omega,t1,t2,Int.le_refl _,by have:=HQ.out;omega,by have:=HN5.out;omega,v6,O5.out.act f6⟩
    have HL6:=Lib.hid (show 0 ≤ x5 + 1 ∧ x5 + 1 ≤ 1000 * (j:Int) + ((i + 1:Nat):Int) by have:=HN5.out;omega)
    clear r6 t1 t2 v6 f6 O5 H5 HRu
    go_wp2_with fail
    go_roundw
    case rel=>exact ⟨i + 1,x5 + 1,by omega,by go_num,rfl,HI6,HL6⟩
    case measure=>simp [RowKit.intOf];omega
   ·have H6:=Lib.hid v6
    have O6:=Lib.hid (O5.out.act f6)
    have R6:Hid (∀ ps,∃ l3 B3,x5 ≤ B3 ∧ B3 ≤ x5 + blk ∧ Rn blk (crD D6 ps) l3 B3 (50 * j + 1 + (i + 1))):=Lib.hid (fun ps=>by obtain ⟨l3,B3,q1,q2,q3⟩:=r6 ps;exact ⟨l3,B3,q1,q2,q3⟩)
    have HN:=Lib.hid (show la ≤ x5 ∧ x5 ≤ la + Q ∧ x5 ≤ 1000 * (j:Int) + 40 ∧ blk ≤ 20 ∧ 0 ≤ la by have:=HB.out;have:=HN5.out;omega)
    obtain ⟨z0,z1,z2⟩:=HXc.out _ O6.out.bel
    clear r6 v6 f6 O5 H5 HRu
    have HC:=Lib.hid (fun V (F9:Nat → Prop) (D9:Dev) (t:Side Sc.Rep Rd.LRep V F9 g D9 (some (p4,k6.l))) (o:Ow w V (Tc F9 b4))=>Side.crash (devF_of devBase) t X.psA X.psc X.ps ((HX.out.aps).below o.bel) (fun hp a ha hf=>by have h1:=ints_lt HX.out.aps hp a ha;have h2:=o.bF _ (.inl hf);omega) HX.out.lps HX.out.rps)
    have HCr:=Lib.hid (HC.out _ _ _ H6.out.sd O6.out)
    clear HC HXc
    go_wp2_with fail
    refine HCr.out.mono ?_
    rintro e8 w8 ⟨rfl,F8,hs8,hf8⟩
    have HG:Hid (Gap blk w w8 F8 g la (blk * ((j + 1:Nat):Int)) (j + 1)):=Lib.hid (by
     obtain ⟨l3,B3,q1,q2,q3⟩:=R6.out X.ps
     refine ⟨⟨_,_,l3,B3,(q3.more (M:=50 * (j + 1) + 1) (by omega)).opens (by omega),cr_idle _ _,q3.more (by omega),?_,?_,?_,hs8⟩,(O6.out.less (Q:=F6) (fun k hk=>.inl hk)).act hf8⟩
     ·have:=HN.out.1;omega
     ·have:=HN.out;rw [HP.out];omega
     ·have:=HN.out;omega)
    clear HCr hs8 hf8 R6 O6 H6
    go_wp2_with fail
    go_roundw
    case rel=>exact ⟨j + 1,la,_,by omega,by omega,by go_num,rfl,HG,Lib.hid (by have:=HN.out;omega)⟩
    case measure=>simp [RowKit.intOf];omega
end Ck
end Go.Proofs.YtmidncclndongaaGreat
