/- Parts of the proof, joined: RdIn2, RdIn3, RdIdle, VtMath; their conditions stand with each. -/
import Derived.Test.YtbkanoblcojdfaaGreatV6
import Derived.Test.YtbkanoblcojdfaaGreatV8

set_option maxRecDepth 20000
set_option maxHeartbeats 8000000
namespace Go.Proofs.YtbkanoblcojdfaaGreat
namespace Rd
open Go.RowKit Sc Bk
theorem frs_all (ts:List ByteArray) (n:Nat):frs ts 0 n = (ts.take n).flatMap fun s=>Su.frameL s.data.toList:=by
 unfold frs;rw [List.drop_zero]
theorem frs_join (ts:List ByteArray):∀ {a b:Nat},a ≤ b → b ≤ ts.length → frs ts 0 a ++ frs ts a b = frs ts 0 b
 | a,0,h,_=>by
  obtain rfl:a = 0:=by omega
  rw [frs_same];rfl
 | a,b + 1,h,hb=>by
  rcases Nat.eq_or_lt_of_le h with e | e
  ·rw [← e,frs_same,List.append_nil]
  ·rw [frs_succ (show a ≤ b by omega) (by omega),frs_succ (Nat.zero_le b) (by omega),← List.append_assoc,frs_join ts (a:=a) (b:=b) (by omega) (by omega)]
theorem walk_ok:∀ (f:Nat) (r:List UInt8) (a:Nat),r.length ≤ f → (Su.walkR f r a).2.2 = 0 → r = (Su.walkR f r a).1.flatMap (fun s=>Su.frameL s.data.toList) ∧ ∀ t ∈ (Su.walkR f r a).1,t.size ≤ 4096
 | 0,r,a,h,_=>by
  obtain rfl:r = []:=List.eq_nil_of_length_eq_zero (by omega)
  exact ⟨rfl,fun t ht=>by cases ht⟩
 | f + 1,r,a,h,h0=>by
  by_cases hr:r = []
  ·subst hr
   rw [Su.walkR_nil]
   exact ⟨rfl,fun t ht=>by cases ht⟩
  ·cases he:Su.restR r with
   | error e =>
    rw [Su.walkR_err hr he] at h0
    have:=Su.restR_err he
    have h00:e = 0:=h0
    omega
   | ok t =>
    obtain ⟨h1,h2,h3⟩:=Su.restR_ok he
    rw [Su.walkR_ok hr he] at h0 ⊢
    have ih:=walk_ok f (r.drop (t.length + 6)) (a + t.length + 6) (by rw [List.length_drop];omega) h0
    refine ⟨?_,fun x hx=>?_⟩
    ·rw [List.flatMap_cons,← ih.1]
     have:(⟨t.toArray⟩:ByteArray).data.toList = t:=by simp
     rw [this,← h3,List.take_append_drop]
    ·rcases List.mem_cons.1 hx with rfl | hx
     ·show t.toArray.size ≤ 4096
      rw [List.size_toArray];exact h1
     ·exact ih.2 x hx
theorem all_ok {L:List UInt8} (h:(Su.allR ⟨L.toArray⟩).2.2 = 0):L = frs (Su.allR ⟨L.toArray⟩).1 0 (Su.allR ⟨L.toArray⟩).1.length ∧ ∀ t ∈ (Su.allR ⟨L.toArray⟩).1,t.size ≤ 4096:=by
 have hd:(⟨L.toArray⟩:ByteArray).data.toList = L:=by simp
 unfold Su.allR at h ⊢
 rw [hd] at h ⊢
 have:=walk_ok (⟨L.toArray⟩:ByteArray).size L 0 (by rw [text_size];exact Nat.le_refl _) h
 refine ⟨?_,this.2⟩
 rw [frs_all,List.take_length]
 exact this.1
theorem all_back {ts:List ByteArray} {n:Nat} (h:∀ t ∈ ts,t.size ≤ 4096):(Su.allR ⟨(frs ts 0 n).toArray⟩).1 = ts.take n ∧ (Su.allR ⟨(frs ts 0 n).toArray⟩).2.2 = 0:=by
 have hd:(⟨(frs ts 0 n).toArray⟩:ByteArray).data.toList = frs ts 0 n:=by simp
 have e:frs ts 0 n = Su.framesL ((ts.take n).map fun s=>s.data.toList):=by
  rw [frs_all]
  unfold Su.framesL
  rw [List.flatMap_map]
 unfold Su.allR
 rw [hd,e,Su.walkR_frames _ _ _ (fun t ht=>by
  obtain ⟨s,hs,rfl⟩:=List.mem_map.1 ht
  have:=h s (List.mem_of_mem_take hs)
  rw [Array.length_toList];exact this) (by rw [text_size];exact Nat.le_refl _)]
 refine ⟨?_,rfl⟩
 rw [List.map_map]
 conv=>rhs;rw [← List.map_id (ts.take n)]
 exact List.map_congr_left fun s _=>by
  cases s
  simp
theorem room_small {D:Dev} (hok:DevOk D):areaN D ≤ 65536:=by have:=hok.max;unfold areaN;omega
theorem many_small {D:Dev} (hok:DevOk D) {ts:List ByteArray} {mn:Nat} {bs wt:List UInt8} (hm:mn ≤ ts.length) (hb:bs = frs ts 0 mn) (hw:wt = frs ts mn ts.length) (hr:bs.length + wt.length ≤ areaN D):ts.length ≤ 1000000:=by
 have h1:=frames_ge ts 0 mn (Nat.zero_le _) hm
 have h2:=frames_ge ts mn ts.length hm (Nat.le_refl _)
 have h3:=room_small hok
 rw [← hb] at h1
 rw [← hw] at h2
 omega
section
variable {D:Dev} {l:Lg}
theorem LgIn.seen {D':Dev} (h:LgIn D l) (hlen:D'.on.length = D.on.length) (hv:∀ j,j < D.on.length → flushF D' j = flushF D j):LgIn D' l:=by
 have hN:=areaN_on hlen
 have hA:=areaAt_on hlen l.ar
 have h4:=h.ok.dev
 have hs:∀ i,i ≤ 2 → hdsP D' i = hdsP D i:=by
  intro i
  induction i with
  | zero=>intro _;rfl
  | succ i ih =>
   intro hi
   show (if okH (areaN D') _ ∧ _ then _ else _) = (if okH (areaN D) _ ∧ _ then _ else _)
   rw [hN,hv i (by omega),ih (by omega)]
 refine ⟨⟨by omega,h.ok.ar,h.ok.mn,by rw [hN];exact h.ok.room,h.ok.many⟩,h.c1,h.cnt,h.bs,h.small,?_,fun hc=>?_⟩
 ·have hst:=h.st
  unfold storedL at hst ⊢
  rw [cat_congr (D:=D) (b:=l.ar) (fun k hk=>?_)]
  ·exact hst
  ·have hd:areaN D / 64 * 64 = areaN D:=by unfold areaN;omega
   have hrm:=h.ok.room
   rw [hA]
   exact hv _ (area_fit h4 h.ok.ar (by omega))
 ·rw [hs 2 (Nat.le_refl _)];exact h.hd hc
theorem app_in (hok:DevOk D) (h:LgIn D l) (t:ByteArray):LgIn D (appendP D l t).1:=by
 unfold appendP
 split
 ·exact h
 split
 ·exact h
 next h1 h2 =>
  have hw:=wait_snoc (l:=l) h.ok.mn t
  have hfl:(Su.frameL t.data.toList).length = t.size + 6:=by rw [Su.frameL_len];rfl
  have hroom:l.bs.length + (waitL ⟨l.cnt,l.ar,l.bs,l.ts ++ [t],l.mn⟩).length ≤ areaN D:=by
   rw [hw,List.length_append,hfl]
   unfold roomN at h2
   omega
  have hbs:l.bs = frs (l.ts ++ [t]) 0 l.mn:=by
   rw [h.bs,frs_all,frs_all,List.take_append_of_le_length h.ok.mn]
  have hmn:l.mn ≤ (l.ts ++ [t]).length:=by rw [List.length_append];have:=h.ok.mn;omega
  refine ⟨⟨h.ok.dev,h.ok.ar,hmn,hroom,many_small hok hmn hbs rfl hroom⟩,h.c1,h.cnt,hbs,fun x hx=>?_,h.st,h.hd⟩
  rcases List.mem_append.1 hx with hx | hx
  ·exact h.small x hx
  ·rw [List.mem_singleton] at hx;subst hx;omega
theorem settle_in (hok:DevOk D) (h:LgIn D l) (hu:D.down = false) {a mn:Nat} {old more:List UInt8} {ts:List ByteArray} (ha:a ≤ 1) (hz:(old ++ more).length ≤ areaN D) (hst:storedL D a old.length = old) (hc:l.cnt < 4611686018427388000)
  (hbs:old ++ more = frs ts 0 mn) (hmn:mn = ts.length) (hsm:∀ t ∈ ts,t.size ≤ 4096) :
  ((settleP D l.cnt a old more).2 = 0 ∧ (settleP D l.cnt a old more).1.down = false ∧ Sc.Clean (settleP D l.cnt a old more).1 ∧ LgIn (settleP D l.cnt a old more).1 ⟨l.cnt + 1,a,old ++ more,ts,mn⟩) ∨ ((settleP D l.cnt a old more).2 = 90 ∧ (settleP D l.cnt a old more).1.down = true):=by
 have h4:=h.ok.dev
 have hab:=room_small hok
 rcases settle_view hok hu h4 l.cnt a old more ha hz with ⟨p1,p2,p3,p4⟩ | p
 case inr=>exact .inr p
 left
 have hlen:=settle_len D l.cnt a old more
 have hok':DevOk (settleP D l.cnt a old more).1:=by
  unfold settleP
  have:∀ {r:Dev × Int} {f:Dev → Dev × Int},DevOk r.1 → (∀ E,DevOk E → DevOk (f E).1) → DevOk (andD r f).1:=fun hr hf=>by
   unfold andD
   split
   ·exact hf _ hr
   ·exact hr
  refine this (wrs_ok _ _ _ _ _ hok) fun D1 h1=>this ?_ fun D2 h2=>this (wrD_ok h2 _ _) fun D3 h3=>flD_ok h3
  split
  ·exact h1
  ·exact flD_ok h1
 generalize (settleP D l.cnt a old more).1 = D' at p2 p3 p4 hlen hok' ⊢
 have hN:=areaN_on hlen
 have hq:(l.cnt + 1) % 2 < 2:=Nat.mod_lt _ (by omega)
 have hz2:(old ++ more).length ≤ areaN D':=by rw [hN];exact hz
 have hw0:waitL ⟨l.cnt + 1,a,old ++ more,ts,mn⟩ = []:=by unfold waitL;rw [hmn];exact frs_same _ _
 have hroom:(old ++ more).length + (waitL ⟨l.cnt + 1,a,old ++ more,ts,mn⟩).length ≤ areaN D':=by rw [hw0];simpa using hz2
 refine ⟨p1,p2,p3,⟨⟨by omega,ha,by rw [hmn];exact Nat.le_refl _,hroom,many_small hok' (by rw [hmn];exact Nat.le_refl _) hbs rfl hroom⟩,by show 1 ≤ l.cnt + 1;omega,by show l.cnt + 1 ≤ _;omega,hbs,hsm,?_,fun hc2=>?_⟩⟩
 ·exact settle_stored hok hok' h4 hlen ha hq hz hst p4
 ·have hd:=h.hd (by show l.cnt ≤ 4611686018427387904;have:l.cnt + 1 ≤ 4611686018427387904:=hc2;omega)
  refine hds_new (c:=l.cnt + 1) hq (by rw [hN];exact Nat.lt_of_le_of_lt hab (by decide)) (by omega) hc2 ha hz2 (by rw [p4 _ (by omega),if_pos rfl]) fun j hj hjq ho=>?_
  have hA2:2 ≤ areaAt D a:=by unfold areaAt;omega
  rw [p4 j (by omega),if_neg hjq,if_neg (by omega)] at ho ⊢
  rw [hN] at ho
  have:=hds_max hd j hj ho
  show _ < l.cnt + 1
  have e:(l.cnt,l.ar,l.bs.length).1 = l.cnt:=rfl
  omega
theorem rst_in (hok:DevOk D) (h:LgIn D l) (hu:D.down = false) (hc:l.cnt < 4611686018427388000) (ts:List ByteArray) :
  ((restartP D l ts).1.down = false ∧ LgIn (restartP D l ts).1 (restartP D l ts).2.1 ∧ (restartP D l ts).2.1.cnt ≤ l.cnt + 1) ∨ ((restartP D l ts).2.2 = 90 ∧ (restartP D l ts).1.down = true):=by
 unfold restartP
 split
 ·exact .inl ⟨hu,h,Nat.le_succ _⟩
 next hsm =>
 split
 ·exact .inl ⟨hu,h,Nat.le_succ _⟩
 next hz =>
  have hsm':∀ t ∈ ts,t.size ≤ 4096:=fun t ht=>Nat.le_of_not_lt fun hlt=>hsm ⟨t,ht,hlt⟩
  have har:=h.ok.ar
  rcases settle_in hok h hu (a:=1 - l.ar) (old:=[]) (more:=allF ts) (ts:=ts) (mn:=ts.length) (by omega) (by rw [List.nil_append];omega) (by unfold storedL;simp) hc rfl rfl hsm' with ⟨p1,p2,_,p4⟩ | ⟨p1,p2⟩
  ·left
   rw [if_pos p1]
   exact ⟨p2,p4,Nat.le_refl _⟩
  ·right
   rw [if_neg (by rw [p1];decide)]
   exact ⟨p1,p2⟩
end
section
variable {D:Dev} {l:Lg}
theorem first_in (hok:DevOk D) (hu:D.down = false) (h4:4 ≤ D.on.length) (hn:hdsP D 2 = none) :
  ((andD (wrD D 1 (headB 1 0 0)) flD).2 = 0 ∧ (andD (wrD D 1 (headB 1 0 0)) flD).1.down = false ∧ Sc.Clean (andD (wrD D 1 (headB 1 0 0)) flD).1 ∧ LgIn (andD (wrD D 1 (headB 1 0 0)) flD).1 ⟨1,0,[],[],0⟩) ∨
  ((andD (wrD D 1 (headB 1 0 0)) flD).2 = 90 ∧ (andD (wrD D 1 (headB 1 0 0)) flD).1.down = true):=by
 have hw:=wr_view hok hu (k:=1) (by omega) (headB_size 1 0 0)
 have hc1:((1:Nat):Int) = 1:=rfl
 rw [hc1] at hw
 have hl1:(wrD D 1 (headB 1 0 0)).1.on.length = D.on.length:=by rw [wrD_on]
 have ho1:=wrD_ok hok 1 (headB 1 0 0)
 unfold andD
 rcases hw with ⟨p1,p2,p3⟩ | ⟨p1,p2⟩
 case inr =>
  right
  rw [if_neg (by rw [p1];decide)]
  exact ⟨p1,p2⟩
 rw [if_pos p1]
 generalize (wrD D 1 (headB 1 0 0)).1 = D1 at p2 p3 hl1 ho1
 have hl2:=(flD_len D1).trans hl1
 have ho2:=flD_ok ho1
 rcases fl_view ho1 p2 with ⟨q1,q2,q3,q4⟩ | q
 case inr=>exact .inr q
 left
 generalize (flD D1).1 = D2 at q2 q3 q4 hl2 ho2 ⊢
 have hN:=areaN_on hl2
 have hab:=room_small hok
 have hv:∀ j,j < D.on.length → flushF D2 j = if j = 1 then headB 1 0 0 else flushF D j:=fun j hj=>by rw [q4 j (by omega),p3 j]
 refine ⟨q1,q2,q3,⟨⟨by omega,Nat.zero_le _,Nat.zero_le _,?_,Nat.zero_le _⟩,Nat.le_refl _,by show 1 ≤ _;omega,rfl,(fun t ht=>by cases ht),(by unfold storedL;simp),fun _=>?_⟩⟩
 ·show 0 + (waitL ⟨1,0,[],[],0⟩).length ≤ _
  have:waitL ⟨1,0,[],[],0⟩ = []:=frs_same _ _
  rw [this]
  simp
 ·refine hds_new (q:=1) (c:=1) (by omega) (by rw [hN];exact Nat.lt_of_le_of_lt hab (by decide)) (by omega) (by omega) (Nat.zero_le 1) (Nat.zero_le _) (by rw [hv 1 (by omega),if_pos rfl];rfl) fun j hj hjq ho=>?_
  rw [hv j (by omega),if_neg hjq,hN] at ho
  exact absurd ho (hds_none hn j hj)
theorem open_in (hok:DevOk D) (h:(openP D).2.1 = some l):LgIn (openP D).1 l ∧ l.cnt ≤ 4611686018427387904 ∧ (openP D).1.down = false ∧ (openP D).2.2 = 0:=by
 unfold openP at h ⊢
 by_cases h4:D.on.length < 4
 ·rw [if_pos h4] at h;cases h
 rw [if_neg h4] at h ⊢
 by_cases hd:D.down = true
 ·rw [if_pos hd] at h;cases h
 rw [if_neg hd] at h ⊢
 have hu:D.down = false:=by simpa using hd
 cases hh:hdsP D 2 with
 | none =>
  rw [hh] at h
  simp only at h ⊢
  rcases first_in hok hu (by omega) hh with ⟨p1,p2,_,p4⟩ | ⟨p1,p2⟩
  ·rw [if_pos p1] at h ⊢
   cases h
   exact ⟨p4,by show 1 ≤ _;omega,p2,rfl⟩
  ·rw [if_neg (by rw [p1];decide)] at h
   cases h
 | some x =>
  obtain ⟨c,a,n⟩:=x
  rw [hh] at h
  simp only at h ⊢
  obtain ⟨q1,q2,q3,q4⟩:=hds_ok hh
  simp only at q1 q2 q3 q4
  by_cases he:(Su.allR ⟨(storedL D a n).toArray⟩).2.2 = 0
  ·rw [if_pos he] at h ⊢
   cases h
   have hlen:=stored_len hok (by omega) q3 q4
   obtain ⟨r1,r2⟩:=all_ok he
   have hw0:waitL ⟨c,a,storedL D a n,(Su.allR ⟨(storedL D a n).toArray⟩).1,(Su.allR ⟨(storedL D a n).toArray⟩).1.length⟩ = []:=frs_same _ _
   have hroom:(storedL D a n).length + (waitL ⟨c,a,storedL D a n,(Su.allR ⟨(storedL D a n).toArray⟩).1,(Su.allR ⟨(storedL D a n).toArray⟩).1.length⟩).length ≤ areaN D:=by rw [hw0,hlen];simpa using q4
   refine ⟨⟨⟨by show 4 ≤ D.on.length;omega,q3,Nat.le_refl _,hroom,many_small hok (Nat.le_refl _) r1 rfl hroom⟩,q1,by show c ≤ _;omega,r1,r2,?_,fun _=>?_⟩,q2,hu,rfl⟩
   ·show storedL D a (storedL D a n).length = storedL D a n
    rw [hlen]
   ·show hdsP D 2 = some (c,a,(storedL D a n).length)
    rw [hh,hlen]
  ·rw [if_neg he] at h;cases h
theorem open_no (h:(openP D).2.1 = none):(openP D).2.2 ≠ 0:=by
 unfold openP at h ⊢
 by_cases h4:D.on.length < 4
 ·rw [if_pos h4]
  show (4:Int) ≠ 0
  decide
 rw [if_neg h4] at h ⊢
 by_cases hd:D.down = true
 ·rw [if_pos hd]
  show (90:Int) ≠ 0
  decide
 rw [if_neg hd] at h ⊢
 cases hh:hdsP D 2 with
 | none =>
  rw [hh] at h
  simp only at h ⊢
  by_cases he:(andD (wrD D 1 (headB 1 0 0)) flD).2 = 0
  ·rw [if_pos he] at h;cases h
  ·rw [if_neg he];exact he
 | some x =>
  obtain ⟨c,a,n⟩:=x
  rw [hh] at h
  simp only at h ⊢
  by_cases he:(Su.allR ⟨(storedL D a n).toArray⟩).2.2 = 0
  ·rw [if_pos he] at h;cases h
  ·rw [if_neg he]
   show (101:Int) ≠ 0
   decide
theorem reopen (h:LgIn D l) (hu:D.down = false) (hc:l.cnt ≤ 4611686018427387904):openP D = (D,some ⟨l.cnt,l.ar,l.bs,l.ts.take l.mn,l.mn⟩,0):=by
 have h4:=h.ok.dev
 have hb:=all_back (n:=l.mn) h.small
 rw [← h.bs] at hb
 unfold openP
 rw [if_neg (by omega),if_neg (by rw [hu];simp),h.hd hc]
 simp only
 rw [h.st,if_pos hb.2,hb.1,List.length_take,Nat.min_eq_left h.ok.mn]
theorem reopen_crash (hok:DevOk D) (h:LgIn D l) (hcl:Sc.Clean D) (hc:l.cnt ≤ 4611686018427387904) (ps:List Int):openP (crD D ps) = (crD D ps,some ⟨l.cnt,l.ar,l.bs,l.ts.take l.mn,l.mn⟩,0) :=
 reopen (h.seen (cr_len D ps) fun _ hj=>cr_view hok.len hcl ps hj) rfl hc
theorem zero_head:∀ ab,¬ okH ab zero64.data.toList:=fun ab h=>by
 have:cOf zero64.data.toList = 0:=by decide
 have h1:=h.1
 omega
theorem new_view {n j:Nat} (h:j < n):flushF (new0 n) j = zero64:=by
 unfold flushF new0
 simp only [List.getD_eq_getElem?_getD,List.getElem?_replicate,if_pos h,Option.getD_some,if_true]
theorem new_heads {n:Nat} (h:4 ≤ n):hdsP (new0 n) 2 = none:=by
 have hs:∀ i,i ≤ 2 → hdsP (new0 n) i = none:=by
  intro i
  induction i with
  | zero=>intro _;rfl
  | succ i ih =>
   intro hi
   show (if okH _ _ ∧ _ then _ else _) = _
   rw [if_neg,ih (by omega)]
   rintro ⟨g,_⟩
   rw [new_view (by omega)] at g
   exact zero_head _ g
 exact hs 2 (Nat.le_refl _)
end
section
variable {D:Dev} {l:Lg}
theorem wrD_idle {D:Dev} (h:Idle D) (_hok:DevOk D) {k:Nat} (hk:k < D.on.length) {t:ByteArray} (ht:t.size = 64):(wrD D (k:Int) t).2 = 0 ∧ Idle (wrD D (k:Int) t).1:=by
 rw [wr_idle h hk ht]
 exact ⟨rfl,rfl,rfl⟩
theorem flD_idle {D:Dev} (h:Idle D):(flD D).2 = 0 ∧ Idle (flD D).1:=by
 rw [fl_idle h]
 exact ⟨rfl,rfl,rfl⟩
theorem wrs_idle {base:Nat} {all:List UInt8}:∀ {n i:Nat} {D:Dev},Idle D → DevOk D → base + i + n ≤ D.on.length → (wrs base all i n D).2 = 0 ∧ Idle (wrs base all i n D).1
 | 0,_,_,h,_,_=>⟨rfl,h⟩
 | n + 1,i,D,h,hok,hl=>by
  have hw:=wrD_idle h hok (k:=base + i) (by omega) (blkB_size all i)
  have e:wrs base all i (n + 1) D = if (wrD D ((base + i:Nat):Int) (blkB all i)).2 = 0 then wrs base all (i + 1) n (wrD D ((base + i:Nat):Int) (blkB all i)).1 else wrD D ((base + i:Nat):Int) (blkB all i):=rfl
  rw [e,if_pos hw.1]
  exact wrs_idle hw.2 (wrD_ok hok _ _) (by rw [wrD_on];omega)
theorem and_idle {r:Dev × Int} {f:Dev → Dev × Int} (h:r.2 = 0 ∧ Idle r.1) (hf:∀ D,D = r.1 → Idle D → (f D).2 = 0 ∧ Idle (f D).1):(andD r f).2 = 0 ∧ Idle (andD r f).1:=by
 unfold andD
 rw [if_pos h.1]
 exact hf _ rfl h.2
theorem settle_idle (hi:Idle D) (hok:DevOk D) (h4:4 ≤ D.on.length) (cnt a:Nat) (old more:List UInt8) (ha:a ≤ 1) (hz:(old ++ more).length ≤ areaN D):(settleP D cnt a old more).2 = 0 ∧ Idle (settleP D cnt a old more).1:=by
 have hml:=many_le hz
 have hfit:areaAt D a + areaN D / 64 ≤ D.on.length:=by
  unfold areaAt areaN
  rw [Nat.mul_div_cancel _ (by omega)]
  have:a = 0 ∨ a = 1:=by omega
  rcases this with rfl | rfl <;> omega
 have hq:(cnt + 1) % 2 < 2:=Nat.mod_lt _ (by omega)
 unfold settleP
 refine and_idle (wrs_idle hi hok (by omega)) fun D1 e1 i1=>and_idle ?_ fun D2 e2 i2=>and_idle ?_ fun D3 _ i3=>flD_idle i3
 ·split
  ·exact ⟨rfl,i1⟩
  ·exact flD_idle i1
 ·have hl1:D1.on.length = D.on.length:=by rw [e1];exact wrs_len _ _ _ _ _
  have ho1:DevOk D1:=by rw [e1];exact wrs_ok _ _ _ _ _ hok
  have hl2:D2.on.length = D.on.length:=by
   rw [e2]
   split
   ·exact hl1
   ·rw [flD_len];exact hl1
  have ho2:DevOk D2:=by
   rw [e2]
   split
   ·exact ho1
   ·exact flD_ok ho1
  exact wrD_idle i2 ho2 (by omega) (headB_size _ _ _)
theorem sync_idle (hi:Idle D) (hok:DevOk D) (h:LgIn D l) (hc:l.cnt < 4611686018427388000) (hm:l.mn ≠ l.ts.length) :
  ∃ D2,syncP D l = (D2,⟨l.cnt + 1,l.ar,l.bs ++ waitL l,l.ts,l.ts.length⟩,0) ∧ Idle D2 ∧ Sc.Clean D2 ∧ DevOk D2 ∧ D2.on.length = D.on.length ∧ LgIn D2 ⟨l.cnt + 1,l.ar,l.bs ++ waitL l,l.ts,l.ts.length⟩:=by
 have hz:(l.bs ++ waitL l).length ≤ areaN D:=by rw [List.length_append];exact h.ok.room
 obtain ⟨p1,p2⟩:=settle_idle hi hok h.ok.dev l.cnt l.ar l.bs (waitL l) h.ok.ar hz
 have hj:l.bs ++ waitL l = frs l.ts 0 l.ts.length:=by rw [h.bs];exact frs_join l.ts h.ok.mn (Nat.le_refl _)
 rcases settle_in hok h hi.2 h.ok.ar hz h.st hc hj rfl h.small with ⟨q1,q2,q3,q4⟩ | ⟨q1,_⟩
 case inr=>rw [p1] at q1;cases q1
 refine ⟨_,?_,p2,q3,settle_ok hok _ _ _ _,settle_len _ _ _ _ _,q4⟩
 unfold syncP
 rw [if_neg hm,if_pos p1]
where
 settle_ok {D:Dev} (hok:DevOk D) (cnt a:Nat) (old more:List UInt8):DevOk (settleP D cnt a old more).1:=by
  have:∀ {r:Dev × Int} {f:Dev → Dev × Int},DevOk r.1 → (∀ E,DevOk E → DevOk (f E).1) → DevOk (andD r f).1:=fun hr hf=>by
   unfold andD
   split
   ·exact hf _ hr
   ·exact hr
  unfold settleP
  refine this (wrs_ok _ _ _ _ _ hok) fun D1 h1=>this ?_ fun D2 h2=>this (wrD_ok h2 _ _) fun D3 h3=>flD_ok h3
  split
  ·exact h1
  ·exact flD_ok h1
theorem rst_idle (hi:Idle D) (hok:DevOk D) (h:LgIn D l) (hc:l.cnt < 4611686018427388000) (ts:List ByteArray) (hs:∀ t ∈ ts,t.size ≤ 4096) (hz:(allF ts).length ≤ areaN D) :
  ∃ D2,restartP D l ts = (D2,⟨l.cnt + 1,1 - l.ar,allF ts,ts,ts.length⟩,0) ∧ Idle D2 ∧ Sc.Clean D2 ∧ DevOk D2 ∧ D2.on.length = D.on.length ∧ LgIn D2 ⟨l.cnt + 1,1 - l.ar,allF ts,ts,ts.length⟩:=by
 have har:=h.ok.ar
 have hz':([] ++ allF ts).length ≤ areaN D:=by rw [List.nil_append];exact hz
 obtain ⟨p1,p2⟩:=settle_idle hi hok h.ok.dev l.cnt (1 - l.ar) [] (allF ts) (by omega) hz'
 rcases settle_in hok h hi.2 (a:=1 - l.ar) (old:=[]) (more:=allF ts) (ts:=ts) (mn:=ts.length) (by omega) hz' (by unfold storedL;simp) hc rfl rfl hs with ⟨q1,q2,q3,q4⟩ | ⟨q1,_⟩
 case inr=>rw [p1] at q1;cases q1
 refine ⟨_,?_,p2,q3,sync_idle.settle_ok hok _ _ _ _,settle_len _ _ _ _ _,q4⟩
 unfold restartP
 rw [if_neg (by rintro ⟨t,h1,h2⟩;have:=hs t h1;omega),if_neg (by omega),if_pos p1]
theorem app_fits {t:ByteArray} (h1:t.size ≤ 4096) (h2:t.size + 6 ≤ roomN D l):appendP D l t = (⟨l.cnt,l.ar,l.bs,l.ts ++ [t],l.mn⟩,0):=by
 unfold appendP
 rw [if_neg (by omega),if_neg (by omega)]
theorem fresh_open {n:Nat} (h4:4 ≤ n) (hm:n ≤ 2048):∃ D1,openP (new0 n) = (D1,some ⟨1,0,[],[],0⟩,0) ∧ Idle D1 ∧ Sc.Clean D1 ∧ DevOk D1 ∧ D1.on.length = n ∧ LgIn D1 ⟨1,0,[],[],0⟩:=by
 have hok:=new0_ok (show 1 ≤ n by omega) hm
 have hl:(new0 n).on.length = n:=by simp [new0]
 have hid:=new0_idle n
 have hh:=new_heads h4
 have hi:(andD (wrD (new0 n) 1 (headB 1 0 0)) flD).2 = 0 ∧ Idle (andD (wrD (new0 n) 1 (headB 1 0 0)) flD).1 :=
  and_idle (wrD_idle (k:=1) hid hok (by omega) (headB_size _ _ _)) fun D1 _ i1=>flD_idle i1
 rcases first_in hok hid.2 (by omega) hh with ⟨p1,p2,p3,p4⟩ | ⟨p1,_⟩
 case inr=>rw [hi.1] at p1;cases p1
 refine ⟨_,?_,hi.2,p3,?_,?_,p4⟩
 ·unfold openP
  rw [if_neg (by omega),if_neg (by rw [hid.2];simp),hh]
  simp only
  rw [if_pos p1]
 ·unfold andD
  split
  ·exact flD_ok (wrD_ok hok _ _)
  ·exact wrD_ok hok _ _
 ·refine (and_len (n:=n) ?_ fun D h=>?_)
  ·rw [wrD_on];exact hl
  ·rw [flD_len];exact h
end
end Rd
end Go.Proofs.YtbkanoblcojdfaaGreat
namespace Go.Proofs.YtbkanoblcojdfaaGreat
namespace Vt
open Rd Sc Rc
def recB (r:Rec):ByteArray:=⟨(recL r).toArray⟩
def rstV (D:Dev) (l:Lg) (s:Sh.Shf):Dev × Lg × Int:=restartP D l ((Sh.recordsP s).map recB)
def addV (D:Dev) (l:Lg) (s:Sh.Shf) (t:ByteArray):Dev × Lg × Int :=
 if (appendP D l t).2 = 100 then
  if (rstV D (appendP D l t).1 s).2.2 = 0 then ((rstV D (appendP D l t).1 s).1,appendP (rstV D (appendP D l t).1 s).1 (rstV D (appendP D l t).1 s).2.1 t)
  else rstV D (appendP D l t).1 s
 else (D,appendP D l t)
def writeV (D:Dev) (l:Lg) (s:Sh.Shf) (t:ByteArray):Dev × Lg × Int :=
 if (addV D l s t).2.2 = 0 then syncP (addV D l s t).1 (addV D l s t).2.1 else addV D l s t
noncomputable def doV (D:Dev) (l:Lg) (s:Sh.Shf) (r:Rec):Dev × Lg × Sh.Shf × Int :=
 if (Sh.applyP s r).2 = 0 then
  ((writeV D l s (recB r)).1,(writeV D l s (recB r)).2.1,(if (writeV D l s (recB r)).2.2 = 0 then (Sh.applyP s r).1 else s),(writeV D l s (recB r)).2.2)
 else (D,l,s,(Sh.applyP s r).2)
noncomputable def goE:List Rec → Sh.Shf → Sh.Shf × Int
 | [],s=>(s,0)
 | r :: t,s=>if (Sh.applyP s r).2 = 0 then goE t (Sh.applyP s r).1 else (s,(Sh.applyP s r).2)
noncomputable def fillV (D:Dev) (l:Lg) (s:Sh.Shf) (rs:List Rec):Dev × Lg × Sh.Shf × Int :=
 if (goE rs Sh.empty).2 = 0 then
  ((restartP D l (rs.map recB)).1,(restartP D l (rs.map recB)).2.1,(if (restartP D l (rs.map recB)).2.2 = 0 then (goE rs Sh.empty).1 else s),(restartP D l (rs.map recB)).2.2)
 else (D,l,s,(goE rs Sh.empty).2)
open Classical in
noncomputable def shelfOf (ts:List ByteArray):Option Sh.Shf :=
 if (∀ t ∈ ts,(decX t).2 = 0) ∧ (goE (ts.map fun t=>(decX t).1) Sh.empty).2 = 0 then some (goE (ts.map fun t=>(decX t).1) Sh.empty).1 else none
noncomputable def openV (D:Dev):Dev × Option (Lg × Sh.Shf) × Int :=
 match (openP D).2.1 with
 | none=>((openP D).1,none,(openP D).2.2)
 | some l=>match shelfOf l.ts with
  | none=>((openP D).1,none,101)
  | some s=>((openP D).1,some (l,s),0)
theorem goE_cons (r:Rec) (t:List Rec) (s:Sh.Shf):goE (r :: t) s = if (Sh.applyP s r).2 = 0 then goE t (Sh.applyP s r).1 else (s,(Sh.applyP s r).2):=rfl
theorem goE_app (a b:List Rec):∀ s,goE (a ++ b) s = if (goE a s).2 = 0 then goE b (goE a s).1 else goE a s:=by
 induction a with
 | nil=>intro s;simp [goE]
 | cons r t ih =>
  intro s
  show goE (r :: (t ++ b)) s = _
  rw [goE_cons,goE_cons r t s]
  by_cases h:(Sh.applyP s r).2 = 0
  ·rw [if_pos h,if_pos h,ih]
  ·rw [if_neg h,if_neg h,if_neg h]
theorem goE_ok:∀ (l:List Rec) {s:Sh.Shf},Sh.ShOk s → Sh.ShOk (goE l s).1
 | [],_,h=>h
 | r :: t,s,h=>by
  unfold goE
  split
  ·exact goE_ok t (Sh.apply_ok h r)
  ·exact h
theorem apply_rec {s:Sh.Shf} {r:Rec} (h:(Sh.applyP s r).2 = 0):RecOk r:=by
 by_cases hr:RecOk r
 ·exact hr
 ·exfalso
  unfold Sh.applyP at h
  rw [if_pos hr] at h
  have h2:(80:Int) = 0:=h
  omega
theorem goE_recs:∀ (l:List Rec) {s:Sh.Shf},(goE l s).2 = 0 → ∀ r ∈ l,RecOk r
 | [],_,_,r,hr=>by cases hr
 | x :: t,s,h,r,hr=>by
  unfold goE at h
  by_cases h0:(Sh.applyP s x).2 = 0
  ·rw [if_pos h0] at h
   rcases List.mem_cons.1 hr with rfl | hr
   ·exact apply_rec h0
   ·exact goE_recs t h r hr
  ·rw [if_neg h0] at h
   exact absurd h h0
theorem goP_goE:∀ (l:List Rec) {s n:Sh.Shf},Sh.goP l s = (n,true) → goE l s = (n,0)
 | [],s,n,h=>by
  have:s = n:=(Prod.mk.inj h).1
  rw [← this];rfl
 | r :: t,s,n,h=>by
  rw [Sh.goP_cons] at h
  obtain ⟨h1,h2⟩:=Prod.mk.inj h
  rw [Bool.and_eq_true,decide_eq_true_eq] at h2
  unfold goE
  rw [if_pos h2.1]
  exact goP_goE t (Prod.ext h1 h2.2)
theorem goE_records {s:Sh.Shf} (h:Sh.ShOk s):goE (Sh.recordsP s) Sh.empty = (s,0):=goP_goE _ (Sh.go_again h)
theorem recs_ok {s:Sh.Shf} (h:Sh.ShOk s):∀ r ∈ Sh.recordsP s,RecOk r:=goE_recs _ (by rw [goE_records h])
theorem recB_size {r:Rec} (h:RecOk r):(recB r).size ≤ 5000000:=by
 have:=Pk.bytesL_le h.pack
 show (recL r).toArray.size ≤ _
 rw [List.size_toArray]
 exact this
theorem recs_many {s:Sh.Shf} (h:Sh.ShOk s):(Sh.recordsP s).length ≤ 1050625:=by
 have h1:(s.k.flatMap fun x=>x.l.map (Sh.verR x.name)).length ≤ s.k.length * 1024:=by
  have:∀ k:List Sh.Kc,(∀ x ∈ k,x.l.length ≤ 1024) → (k.flatMap fun x=>x.l.map (Sh.verR x.name)).length ≤ k.length * 1024:=fun k=>by
   induction k with
   | nil=>intro _;simp
   | cons x r ih =>
    intro hx
    have h2:=ih (fun y hy=>hx y (List.mem_cons_of_mem _ hy))
    have h3:=hx x (List.mem_cons_self ..)
    rw [List.flatMap_cons,List.length_append,List.length_map,List.length_cons]
    omega
  exact this s.k (fun x hx=>(h.kc x hx).len)
 have h2:=h.kl
 have h3:=h.el
 have h4:=h.pl
 unfold Sh.recordsP
 rw [List.length_append,List.length_append,List.length_append,List.length_map]
 have h5:(if 0 < s.over then [Sh.sweepR s.over] else []).length ≤ 1:=by split <;> simp
 omega
theorem all_len:∀ (ts:List ByteArray) (n:Nat),(∀ t ∈ ts,t.size ≤ n) → (ts.flatMap fun s=>Su.frameL s.data.toList).length ≤ ts.length * (n + 6)
 | [],_,_=>by simp
 | t :: r,n,h=>by
  have ih:=all_len r n (fun x hx=>h x (List.mem_cons_of_mem _ hx))
  have h1:=h t (List.mem_cons_self ..)
  have h2:t.data.toList.length = t.size:=Array.length_toList
  rw [List.flatMap_cons,List.length_append,Su.frameL_len,List.length_cons,Nat.add_mul]
  omega
theorem all_of (ts:List ByteArray):allF ts = ts.flatMap fun s=>Su.frameL s.data.toList:=by
 unfold allF frs
 rw [List.take_length,List.drop_zero]
theorem recs_all {l:List Rec} (h:∀ r ∈ l,RecOk r) (hn:l.length ≤ 20000000):(allF (l.map recB)).length ≤ 140737488355328:=by
 have h1:=all_len (l.map recB) 5000000 (fun t ht=>by obtain ⟨r,hr,rfl⟩:=List.mem_map.1 ht;exact recB_size (h r hr))
 rw [List.length_map] at h1
 rw [all_of]
 omega
theorem rst_ok {D:Dev} (h:DevOk D) (l:Lg) (ts:List ByteArray):DevOk (restartP D l ts).1:=by
 unfold restartP
 split
 ·exact h
 split
 ·exact h
 split
 ·exact Rd.sync_idle.settle_ok h _ _ _ _
 ·exact Rd.sync_idle.settle_ok h _ _ _ _
theorem app_cnt (D:Dev) (l:Lg) (t:ByteArray):(appendP D l t).1.cnt = l.cnt:=by
 unfold appendP
 split
 ·rfl
 split
 ·rfl
 ·rfl
section
variable {D:Dev} {l:Lg} {s:Sh.Shf}
theorem rst_zero (hok:DevOk D) (h:LgIn D l) (hu:D.down = false) (hc:l.cnt < 4611686018427388000) (ts:List ByteArray) (h0:(restartP D l ts).2.2 = 0) :
  (restartP D l ts).1.down = false ∧ LgIn (restartP D l ts).1 (restartP D l ts).2.1 ∧ (restartP D l ts).2.1.cnt ≤ l.cnt + 1:=by
 rcases rst_in hok h hu hc ts with q | ⟨q,_⟩
 ·exact q
 ·rw [h0] at q;cases q
theorem add_in (hok:DevOk D) (h:LgIn D l) (hu:D.down = false) (hc:l.cnt + 2 < 4611686018427388000) (t:ByteArray) :
  ((addV D l s t).1.down = false ∧ DevOk (addV D l s t).1 ∧ LgIn (addV D l s t).1 (addV D l s t).2.1 ∧ (addV D l s t).2.1.cnt ≤ l.cnt + 1) ∨ ((addV D l s t).2.2 = 90 ∧ (addV D l s t).1.down = true):=by
 have ha:=app_in hok h t
 have hac:=app_cnt D l t
 unfold addV rstV
 split
 ·have hr:=rst_in hok ha hu (by omega) ((Sh.recordsP s).map recB)
  have ho:=rst_ok hok (appendP D l t).1 ((Sh.recordsP s).map recB)
  split
  next h0 =>
   rcases hr with ⟨q1,q2,q3⟩ | ⟨q,_⟩
   case inr=>rw [h0] at q;cases q
   exact .inl ⟨q1,ho,app_in ho q2 t,by rw [app_cnt];omega⟩
  ·rcases hr with ⟨q1,q2,q3⟩ | q
   ·exact .inl ⟨q1,ho,q2,by omega⟩
   ·exact .inr q
 ·exact .inl ⟨hu,hok,ha,by rw [hac];omega⟩
theorem shelf_ok {ts:List ByteArray} (h:shelfOf ts = some s):Sh.ShOk s:=by
 unfold shelfOf at h
 split at h
 ·cases h
  exact goE_ok _ Sh.ok_empty
 ·cases h
end
end Vt
end Go.Proofs.YtbkanoblcojdfaaGreat
