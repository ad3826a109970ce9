/- Parts of the proof, joined: RdIn, SuMath2, RdIn2, RdIn3, RdIdle, RdSide, BkStrApp, RlBase, SuTab, SuDone1; their conditions stand with each. -/
import Derived.Lib.AppendStr
import Derived.Test.YtlfkhlfkckfbpaaGreatC1
import Derived.Test.YtlfkhlfkckfbpaaGreatC9
import Derived.Test.YtlfkhlfkckfbpaaGreatC10

set_option maxRecDepth 20000
set_option maxHeartbeats 8000000
namespace Go.Proofs.YtlfkhlfkckfbpaaGreat
namespace Rd
open Go.RowKit Sc Bk
theorem cat_congr {D D':Dev} {a b:Nat}:∀ {i:Nat},(∀ k,k < i → flushF D' (areaAt D' a + k) = flushF D (areaAt D b + k)) → catS D' a i = catS D b i
 | 0,_=>rfl
 | i + 1,h=>by rw [catS_succ,catS_succ,cat_congr (i:=i) (fun k hk=>h k (by omega)),h i (by omega)]
theorem cat_block {D:Dev} (hok:DevOk D) (h:4 ≤ D.on.length) {a:Nat} (ha:a ≤ 1):∀ {m i:Nat},i < m → m ≤ areaN D / 64 → ((catS D a m).drop (64 * i)).take 64 = (flushF D (areaAt D a + i)).data.toList
 | 0,i,hi,_=>by omega
 | m + 1,i,hi,hm=>by
  have hl:=catS_len hok h ha m (by omega)
  have h64:(flushF D (areaAt D a + m)).data.toList.length = 64:=by rw [Array.length_toList];exact flush64 hok (area_fit h ha (by omega))
  rw [catS_succ]
  by_cases e:i = m
  ·subst e
   rw [List.drop_append_of_le_length (by omega),List.drop_of_length_le (by omega),List.nil_append,List.take_of_length_le (by omega)]
  ·rw [List.drop_append_of_le_length (by omega),List.take_append_of_le_length (by rw [List.length_drop];omega)]
   exact cat_block hok h ha (by omega) (by omega)
theorem stored_len {D:Dev} (hok:DevOk D) (h:4 ≤ D.on.length) {a n:Nat} (ha:a ≤ 1) (hn:n ≤ areaN D):(storedL D a n).length = n:=by
 have hd:areaN D / 64 * 64 = areaN D:=by unfold areaN;omega
 unfold storedL
 rw [List.length_take,catS_len hok h ha _ (by omega)]
 omega
theorem blk_take {all:List UInt8} {i:Nat} (_h:64 * i < all.length):(blkB all i).data.toList.take (all.length - 64 * i) = (all.drop (64 * i)).take 64:=by
 have hl:=rowB_len (all:=all) (i:=i) (Nat.le_refl _)
 show (rowB all i (limB all i)).take (all.length - 64 * i) = _
 unfold rowB
 have hd:(all.drop (64 * i)).length = all.length - 64 * i:=List.length_drop
 unfold limB
 by_cases h2:64 ≤ all.length - 64 * i
 ·rw [Nat.min_eq_left h2,Nat.sub_self,List.replicate_zero,List.append_nil,List.take_of_length_le (by rw [List.length_take];omega)]
 ·rw [Nat.min_eq_right (by omega),List.take_append_of_le_length (by rw [List.length_take];omega),List.take_take,Nat.min_self,List.take_of_length_le (by omega),List.take_of_length_le (by omega)]
theorem settle_stored {D D':Dev} (hok:DevOk D) (hok':DevOk D') (h4:4 ≤ D.on.length) (hlen:D'.on.length = D.on.length) {a q:Nat} (ha:a ≤ 1) (hq:q < 2) {H:ByteArray} {old more:List UInt8} (hz:(old ++ more).length ≤ areaN D)
  (hst:storedL D a old.length = old)
  (hv:∀ j,j < D.on.length → flushF D' j = if j = q then H else if areaAt D a + old.length / 64 ≤ j ∧ j < areaAt D a + old.length / 64 + manyW old more then blkB (old ++ more) (j - areaAt D a) else flushF D j) :
  storedL D' a (old ++ more).length = old ++ more:=by
 have hN:=areaN_on hlen
 have hA:=areaAt_on hlen a
 have hd:areaN D / 64 * 64 = areaN D:=by unfold areaN;omega
 have h2:2 ≤ areaAt D a:=by unfold areaAt;omega
 have hfit:∀ k,k < areaN D / 64 → areaAt D a + k < D.on.length:=fun k hk=>area_fit h4 ha hk
 by_cases hm:more = []
 ·subst hm
  rw [List.append_nil] at *
  unfold storedL at hst ⊢
  rw [cat_congr (D:=D) (b:=a) (fun k hk=>?_)]
  ·exact hst
  ·rw [hA,hv _ (hfit k (by omega)),if_neg (by omega),if_neg]
   unfold manyW
   rw [if_pos rfl]
   omega
 have hmw:manyW old more = ((old ++ more).length + 63) / 64 - old.length / 64:=by unfold manyW;rw [if_neg hm]
 have hlm:old.length ≤ (old ++ more).length:=by rw [List.length_append];omega
 have hmp:1 ≤ more.length:=by
  cases more with
  | nil=>exact absurd rfl hm
  | cons x xs=>simp
 have hal:(old ++ more).length = old.length + more.length:=List.length_append
 have key:∀ i,i ≤ ((old ++ more).length + 63) / 64 → (catS D' a i).take (old ++ more).length = (old ++ more).take (64 * i):=by
  intro i
  induction i with
  | zero=>intro _;simp [catS]
  | succ i ih =>
   intro hi
   have ih:=ih (by omega)
   have hlc:=catS_len hok' (by omega) ha i (by rw [hN];omega)
   have hlt:64 * i < (old ++ more).length:=by omega
   rw [catS_succ,List.take_append,hlc]
   rw [ih]
   have e2:(old ++ more).take (64 * (i + 1)) = (old ++ more).take (64 * i) ++ ((old ++ more).drop (64 * i)).take 64:=by
    rw [show 64 * (i + 1) = 64 * i + 64 by omega,List.take_add]
   rw [e2]
   congr 1
   rw [hA,hv _ (hfit i (by omega)),if_neg (by omega)]
   by_cases hf:old.length / 64 ≤ i
   ·rw [if_pos (by omega),Nat.add_sub_cancel_left]
    exact blk_take hlt
   ·rw [if_neg (by omega)]
    have hblk:=cat_block hok h4 ha (m:=(old.length + 63) / 64) (i:=i) (by omega) (by omega)
    have h64:(flushF D (areaAt D a + i)).data.toList.length = 64:=by rw [Array.length_toList];exact flush64 hok (hfit i (by omega))
    rw [List.take_of_length_le (by omega),← hblk]
    rw [List.drop_append_of_le_length (by omega),List.take_append_of_le_length (by rw [List.length_drop];omega)]
    conv=>rhs;rw [← hst]
    unfold storedL
    rw [List.drop_take,List.take_take,Nat.min_eq_left (by omega)]
 have hk:=key (((old ++ more).length + 63) / 64) (Nat.le_refl _)
 unfold storedL
 rw [hk,List.take_of_length_le (by omega)]
theorem hds_none {D:Dev}:∀ {i:Nat},hdsP D i = none → ∀ j,j < i → ¬ okH (areaN D) (flushF D j).data.toList
 | 0,_,_,_=>by omega
 | i + 1,e,j,hj=>by
  unfold hdsP at e
  split at e
  ·cases e
  next hc =>
   by_cases hji:j = i
   ·subst hji
    intro ho
    exact hc ⟨ho,fun h' e'=>by rw [e] at e';cases e'⟩
   ·exact hds_none e j (by omega)
theorem hds_max {D:Dev}:∀ {i:Nat} {h:Nat × Nat × Nat},hdsP D i = some h → ∀ j,j < i → okH (areaN D) (flushF D j).data.toList → cOf (flushF D j).data.toList ≤ h.1
 | 0,_,e,_,_,_=>by cases e
 | i + 1,h,e,j,hj,ho=>by
  unfold hdsP at e
  split at e
  next hc =>
   cases e
   by_cases hji:j = i
   ·subst hji;exact Nat.le_refl _
   ·cases hp:hdsP D i with
    | none=>exact absurd ho (hds_none hp j (by omega))
    | some h'=>exact Nat.le_trans (hds_max hp j (by omega) ho) (Nat.le_of_lt (hc.2 h' hp))
  next hc =>
   by_cases hji:j = i
   ·subst hji
    have:¬ ∀ h',hdsP D j = some h' → h'.1 < cOf (flushF D j).data.toList:=fun hall=>hc ⟨ho,hall⟩
    rw [e] at this
    refine Nat.le_of_not_lt fun hlt=>this fun h' e'=>?_
    cases e';exact hlt
   ·exact hds_max e j (by omega) ho
theorem hds_new {D':Dev} {q c a n:Nat} (hq:q < 2) (hab:areaN D' < 256 ^ 8) (hc1:1 ≤ c) (hc:c ≤ 4611686018427387904) (ha:a ≤ 1) (hn:n ≤ areaN D') (hv:flushF D' q = headB c a n)
  (ho:∀ j,j < 2 → j ≠ q → okH (areaN D') (flushF D' j).data.toList → cOf (flushF D' j).data.toList < c):hdsP D' 2 = some (c,a,n):=by
 have hL:(headB c a n).data.toList = headL c a n:=by unfold headB;simp
 have hok:okH (areaN D') (flushF D' q).data.toList:=by rw [hv,hL];exact ok_head hc1 hc ha hn hab
 have e1:cOf (flushF D' q).data.toList = c:=by rw [hv,hL];exact c_head a n (by omega)
 have e2:aOf (flushF D' q).data.toList = a:=by rw [hv,hL];exact a_head (by omega)
 have e3:lOf (flushF D' q).data.toList = n:=by rw [hv,hL];exact l_head c a (by omega)
 have hs:∀ i,hdsP D' (i + 1) = if okH (areaN D') (flushF D' i).data.toList ∧ (∀ h,hdsP D' i = some h → h.1 < cOf (flushF D' i).data.toList) then some (cOf (flushF D' i).data.toList,aOf (flushF D' i).data.toList,lOf (flushF D' i).data.toList) else hdsP D' i:=fun _=>rfl
 have h0:hdsP D' 0 = none:=rfl
 rcases (show q = 0 ∨ q = 1 by omega) with rfl | rfl
 ·have h1:hdsP D' 1 = some (c,a,n):=by
   rw [hs 0,if_pos ⟨hok,fun h e=>by rw [h0] at e;cases e⟩,e1,e2,e3]
  rw [hs 1,if_neg,h1]
  rintro ⟨g1,g2⟩
  have:=g2 _ h1
  have:=ho 1 (by omega) (by omega) g1
  omega
 ·rw [hs 1,if_pos,e1,e2,e3]
  refine ⟨hok,fun h e=>?_⟩
  rw [e1]
  rw [hs 0] at e
  split at e
  next hc0 =>
   cases e
   exact ho 0 (by omega) (by omega) hc0.1
  ·rw [h0] at e;cases e
end Rd
end Go.Proofs.YtlfkhlfkckfbpaaGreat
namespace Go.Proofs.YtlfkhlfkckfbpaaGreat
namespace Su
open Go.RowKit Bk
theorem take2_frame (t:List UInt8) (n:Nat) (h:2 ≤ n) (r:List UInt8):((frameL t ++ r).take n).take 2 = le 2 t.length:=by
 rw [List.take_take,Nat.min_eq_left h]
 unfold frameL
 rw [List.append_assoc,List.append_assoc,List.take_append_of_le_length (by rw [le_length];omega),List.take_of_length_le (by rw [le_length];omega)]
theorem num_frame (t:List UInt8) (ht:t.length ≤ 4096):num (le 2 t.length) = t.length:=num_le 2 _ (by show _ < 65536;omega)
theorem restR_frame (t r:List UInt8) (ht:t.length ≤ 4096):restR (frameL t ++ r) = .ok t:=by
 have hl:(frameL t ++ r).length = t.length + 6 + r.length:=by rw [List.length_append,frameL_len]
 have h2:=take2_frame t (frameL t ++ r).length (by omega) r
 rw [List.take_of_length_le (Nat.le_refl _)] at h2
 have h3:(frameL t ++ r).take (t.length + 6) = frameL t:=by
  rw [List.take_append_of_le_length (by rw [frameL_len];omega),List.take_of_length_le (by rw [frameL_len];omega)]
 have h4:((frameL t ++ r).drop 2).take t.length = t:=by
  unfold frameL
  rw [List.append_assoc,List.append_assoc,List.drop_append_of_le_length (by rw [le_length];omega),List.drop_eq_nil_of_le (by rw [le_length];omega),List.nil_append,List.take_append_of_le_length (Nat.le_refl _),List.take_of_length_le (Nat.le_refl _)]
 unfold restR
 rw [if_neg (by omega),h2,num_frame t ht,if_neg (by omega),if_neg (by omega),h4,if_pos h3]
def framesL (l:List (List UInt8)):List UInt8:=l.flatMap frameL
theorem framesL_cons (t:List UInt8) (l:List (List UInt8)):framesL (t :: l) = frameL t ++ framesL l:=rfl
theorem walkR_frames:∀ (l:List (List UInt8)) (f a:Nat),(∀ t ∈ l,t.length ≤ 4096) → (framesL l).length ≤ f → walkR f (framesL l) a = (l.map (fun t=>⟨t.toArray⟩),a + (framesL l).length,0)
 | [],f,a,_,_=>by
  show walkR f [] a = _
  rw [walkR_nil];rfl
 | t :: l,f,a,hl,hf=>by
  have ht:=hl t (List.mem_cons_self ..)
  rw [framesL_cons,List.length_append,frameL_len] at hf
  obtain ⟨f,rfl⟩:∃ k,f = k + 1:=⟨f - 1,by omega⟩
  have hr:=restR_frame t (framesL l) ht
  rw [framesL_cons,walkR_ok (by intro h;have:=congrArg List.length h;rw [List.length_append,frameL_len] at this;simp at this) hr]
  rw [List.drop_append_of_le_length (by rw [frameL_len];omega),List.drop_eq_nil_of_le (by rw [frameL_len];omega),List.nil_append,walkR_frames l f _ (fun x hx=>hl x (List.mem_cons_of_mem _ hx)) (by omega),List.length_append,frameL_len]
  simp only [List.map_cons]
  congr 2
  omega
end Su
end Go.Proofs.YtlfkhlfkckfbpaaGreat
namespace Go.Proofs.YtlfkhlfkckfbpaaGreat
namespace Rd
open Go.RowKit Sc Bk
theorem frs_all (ts:List ByteArray) (n:Nat):frs ts 0 n = (ts.take n).flatMap fun s=>Su.frameL s.data.toList:=by
 unfold frs;rw [List.drop_zero]
theorem frs_join (ts:List ByteArray):∀ {a b:Nat},a ≤ b → b ≤ ts.length → frs ts 0 a ++ frs ts a b = frs ts 0 b
 | a,0,h,_=>by
  obtain rfl:a = 0:=by omega
  rw [frs_same];rfl
 | a,b + 1,h,hb=>by
  rcases Nat.eq_or_lt_of_le h with e | e
  ·rw [← e,frs_same,List.append_nil]
  ·rw [frs_succ (show a ≤ b by omega) (by omega),frs_succ (Nat.zero_le b) (by omega),← List.append_assoc,frs_join ts (a:=a) (b:=b) (by omega) (by omega)]
theorem walk_ok:∀ (f:Nat) (r:List UInt8) (a:Nat),r.length ≤ f → (Su.walkR f r a).2.2 = 0 → r = (Su.walkR f r a).1.flatMap (fun s=>Su.frameL s.data.toList) ∧ ∀ t ∈ (Su.walkR f r a).1,t.size ≤ 4096
 | 0,r,a,h,_=>by
  obtain rfl:r = []:=List.eq_nil_of_length_eq_zero (by omega)
  exact ⟨rfl,fun t ht=>by cases ht⟩
 | f + 1,r,a,h,h0=>by
  by_cases hr:r = []
  ·subst hr
   rw [Su.walkR_nil]
   exact ⟨rfl,fun t ht=>by cases ht⟩
  ·cases he:Su.restR r with
   | error e =>
    rw [Su.walkR_err hr he] at h0
    have:=Su.restR_err he
    have h00:e = 0:=h0
    omega
   | ok t =>
    obtain ⟨h1,h2,h3⟩:=Su.restR_ok he
    rw [Su.walkR_ok hr he] at h0 ⊢
    have ih:=walk_ok f (r.drop (t.length + 6)) (a + t.length + 6) (by rw [List.length_drop];omega) h0
    refine ⟨?_,fun x hx=>?_⟩
    ·rw [List.flatMap_cons,← ih.1]
     have:(⟨t.toArray⟩:ByteArray).data.toList = t:=by simp
     rw [this,← h3,List.take_append_drop]
    ·rcases List.mem_cons.1 hx with rfl | hx
     ·show t.toArray.size ≤ 4096
      rw [List.size_toArray];exact h1
     ·exact ih.2 x hx
theorem all_ok {L:List UInt8} (h:(Su.allR ⟨L.toArray⟩).2.2 = 0):L = frs (Su.allR ⟨L.toArray⟩).1 0 (Su.allR ⟨L.toArray⟩).1.length ∧ ∀ t ∈ (Su.allR ⟨L.toArray⟩).1,t.size ≤ 4096:=by
 have hd:(⟨L.toArray⟩:ByteArray).data.toList = L:=by simp
 unfold Su.allR at h ⊢
 rw [hd] at h ⊢
 have:=walk_ok (⟨L.toArray⟩:ByteArray).size L 0 (by rw [text_size];exact Nat.le_refl _) h
 refine ⟨?_,this.2⟩
 rw [frs_all,List.take_length]
 exact this.1
theorem all_back {ts:List ByteArray} {n:Nat} (h:∀ t ∈ ts,t.size ≤ 4096):(Su.allR ⟨(frs ts 0 n).toArray⟩).1 = ts.take n ∧ (Su.allR ⟨(frs ts 0 n).toArray⟩).2.2 = 0:=by
 have hd:(⟨(frs ts 0 n).toArray⟩:ByteArray).data.toList = frs ts 0 n:=by simp
 have e:frs ts 0 n = Su.framesL ((ts.take n).map fun s=>s.data.toList):=by
  rw [frs_all]
  unfold Su.framesL
  rw [List.flatMap_map]
 unfold Su.allR
 rw [hd,e,Su.walkR_frames _ _ _ (fun t ht=>by
  obtain ⟨s,hs,rfl⟩:=List.mem_map.1 ht
  have:=h s (List.mem_of_mem_take hs)
  rw [Array.length_toList];exact this) (by rw [text_size];exact Nat.le_refl _)]
 refine ⟨?_,rfl⟩
 rw [List.map_map]
 conv=>rhs;rw [← List.map_id (ts.take n)]
 exact List.map_congr_left fun s _=>by
  cases s
  simp
theorem room_small {D:Dev} (hok:DevOk D):areaN D ≤ 65536:=by have:=hok.max;unfold areaN;omega
theorem many_small {D:Dev} (hok:DevOk D) {ts:List ByteArray} {mn:Nat} {bs wt:List UInt8} (hm:mn ≤ ts.length) (hb:bs = frs ts 0 mn) (hw:wt = frs ts mn ts.length) (hr:bs.length + wt.length ≤ areaN D):ts.length ≤ 1000000:=by
 have h1:=frames_ge ts 0 mn (Nat.zero_le _) hm
 have h2:=frames_ge ts mn ts.length hm (Nat.le_refl _)
 have h3:=room_small hok
 rw [← hb] at h1
 rw [← hw] at h2
 omega
section
variable {D:Dev} {l:Lg}
theorem LgIn.seen {D':Dev} (h:LgIn D l) (hlen:D'.on.length = D.on.length) (hv:∀ j,j < D.on.length → flushF D' j = flushF D j):LgIn D' l:=by
 have hN:=areaN_on hlen
 have hA:=areaAt_on hlen l.ar
 have h4:=h.ok.dev
 have hs:∀ i,i ≤ 2 → hdsP D' i = hdsP D i:=by
  intro i
  induction i with
  | zero=>intro _;rfl
  | succ i ih =>
   intro hi
   show (if okH (areaN D') _ ∧ _ then _ else _) = (if okH (areaN D) _ ∧ _ then _ else _)
   rw [hN,hv i (by omega),ih (by omega)]
 refine ⟨⟨by omega,h.ok.ar,h.ok.mn,by rw [hN];exact h.ok.room,h.ok.many⟩,h.c1,h.cnt,h.bs,h.small,?_,fun hc=>?_⟩
 ·have hst:=h.st
  unfold storedL at hst ⊢
  rw [cat_congr (D:=D) (b:=l.ar) (fun k hk=>?_)]
  ·exact hst
  ·have hd:areaN D / 64 * 64 = areaN D:=by unfold areaN;omega
   have hrm:=h.ok.room
   rw [hA]
   exact hv _ (area_fit h4 h.ok.ar (by omega))
 ·rw [hs 2 (Nat.le_refl _)];exact h.hd hc
theorem app_in (hok:DevOk D) (h:LgIn D l) (t:ByteArray):LgIn D (appendP D l t).1:=by
 unfold appendP
 split
 ·exact h
 split
 ·exact h
 next h1 h2 =>
  have hw:=wait_snoc (l:=l) h.ok.mn t
  have hfl:(Su.frameL t.data.toList).length = t.size + 6:=by rw [Su.frameL_len];rfl
  have hroom:l.bs.length + (waitL ⟨l.cnt,l.ar,l.bs,l.ts ++ [t],l.mn⟩).length ≤ areaN D:=by
   rw [hw,List.length_append,hfl]
   unfold roomN at h2
   omega
  have hbs:l.bs = frs (l.ts ++ [t]) 0 l.mn:=by
   rw [h.bs,frs_all,frs_all,List.take_append_of_le_length h.ok.mn]
  have hmn:l.mn ≤ (l.ts ++ [t]).length:=by rw [List.length_append];have:=h.ok.mn;omega
  refine ⟨⟨h.ok.dev,h.ok.ar,hmn,hroom,many_small hok hmn hbs rfl hroom⟩,h.c1,h.cnt,hbs,fun x hx=>?_,h.st,h.hd⟩
  rcases List.mem_append.1 hx with hx | hx
  ·exact h.small x hx
  ·rw [List.mem_singleton] at hx;subst hx;omega
theorem settle_in (hok:DevOk D) (h:LgIn D l) (hu:D.down = false) {a mn:Nat} {old more:List UInt8} {ts:List ByteArray} (ha:a ≤ 1) (hz:(old ++ more).length ≤ areaN D) (hst:storedL D a old.length = old) (hc:l.cnt < 4611686018427388000)
  (hbs:old ++ more = frs ts 0 mn) (hmn:mn = ts.length) (hsm:∀ t ∈ ts,t.size ≤ 4096) :
  ((settleP D l.cnt a old more).2 = 0 ∧ (settleP D l.cnt a old more).1.down = false ∧ Sc.Clean (settleP D l.cnt a old more).1 ∧ LgIn (settleP D l.cnt a old more).1 ⟨l.cnt + 1,a,old ++ more,ts,mn⟩) ∨ ((settleP D l.cnt a old more).2 = 90 ∧ (settleP D l.cnt a old more).1.down = true):=by
 have h4:=h.ok.dev
 have hab:=room_small hok
 rcases settle_view hok hu h4 l.cnt a old more ha hz with ⟨p1,p2,p3,p4⟩ | p
 case inr=>exact .inr p
 left
 have hlen:=settle_len D l.cnt a old more
 have hok':DevOk (settleP D l.cnt a old more).1:=by
  unfold settleP
  have:∀ {r:Dev × Int} {f:Dev → Dev × Int},DevOk r.1 → (∀ E,DevOk E → DevOk (f E).1) → DevOk (andD r f).1:=fun hr hf=>by
   unfold andD
   split
   ·exact hf _ hr
   ·exact hr
  refine this (wrs_ok _ _ _ _ _ hok) fun D1 h1=>this ?_ fun D2 h2=>this (wrD_ok h2 _ _) fun D3 h3=>flD_ok h3
  split
  ·exact h1
  ·exact flD_ok h1
 generalize (settleP D l.cnt a old more).1 = D' at p2 p3 p4 hlen hok' ⊢
 have hN:=areaN_on hlen
 have hq:(l.cnt + 1) % 2 < 2:=Nat.mod_lt _ (by omega)
 have hz2:(old ++ more).length ≤ areaN D':=by rw [hN];exact hz
 have hw0:waitL ⟨l.cnt + 1,a,old ++ more,ts,mn⟩ = []:=by unfold waitL;rw [hmn];exact frs_same _ _
 have hroom:(old ++ more).length + (waitL ⟨l.cnt + 1,a,old ++ more,ts,mn⟩).length ≤ areaN D':=by rw [hw0];simpa using hz2
 refine ⟨p1,p2,p3,⟨⟨by omega,ha,by rw [hmn];exact Nat.le_refl _,hroom,many_small hok' (by rw [hmn];exact Nat.le_refl _) hbs rfl hroom⟩,by show 1 ≤ l.cnt + 1;omega,by show l.cnt + 1 ≤ _;omega,hbs,hsm,?_,fun hc2=>?_⟩⟩
 ·exact settle_stored hok hok' h4 hlen ha hq hz hst p4
 ·have hd:=h.hd (by show l.cnt ≤ 4611686018427387904;have:l.cnt + 1 ≤ 4611686018427387904:=hc2;omega)
  refine hds_new (c:=l.cnt + 1) hq (by rw [hN];exact Nat.lt_of_le_of_lt hab (by decide)) (by omega) hc2 ha hz2 (by rw [p4 _ (by omega),if_pos rfl]) fun j hj hjq ho=>?_
  have hA2:2 ≤ areaAt D a:=by unfold areaAt;omega
  rw [p4 j (by omega),if_neg hjq,if_neg (by omega)] at ho ⊢
  rw [hN] at ho
  have:=hds_max hd j hj ho
  show _ < l.cnt + 1
  have e:(l.cnt,l.ar,l.bs.length).1 = l.cnt:=rfl
  omega
end
section
variable {D:Dev} {l:Lg}
theorem first_in (hok:DevOk D) (hu:D.down = false) (h4:4 ≤ D.on.length) (hn:hdsP D 2 = none) :
  ((andD (wrD D 1 (headB 1 0 0)) flD).2 = 0 ∧ (andD (wrD D 1 (headB 1 0 0)) flD).1.down = false ∧ Sc.Clean (andD (wrD D 1 (headB 1 0 0)) flD).1 ∧ LgIn (andD (wrD D 1 (headB 1 0 0)) flD).1 ⟨1,0,[],[],0⟩) ∨
  ((andD (wrD D 1 (headB 1 0 0)) flD).2 = 90 ∧ (andD (wrD D 1 (headB 1 0 0)) flD).1.down = true):=by
 have hw:=wr_view hok hu (k:=1) (by omega) (headB_size 1 0 0)
 have hc1:((1:Nat):Int) = 1:=rfl
 rw [hc1] at hw
 have hl1:(wrD D 1 (headB 1 0 0)).1.on.length = D.on.length:=by rw [wrD_on]
 have ho1:=wrD_ok hok 1 (headB 1 0 0)
 unfold andD
 rcases hw with ⟨p1,p2,p3⟩ | ⟨p1,p2⟩
 case inr =>
  right
  rw [if_neg (by rw [p1];decide)]
  exact ⟨p1,p2⟩
 rw [if_pos p1]
 generalize (wrD D 1 (headB 1 0 0)).1 = D1 at p2 p3 hl1 ho1
 have hl2:=(flD_len D1).trans hl1
 have ho2:=flD_ok ho1
 rcases fl_view ho1 p2 with ⟨q1,q2,q3,q4⟩ | q
 case inr=>exact .inr q
 left
 generalize (flD D1).1 = D2 at q2 q3 q4 hl2 ho2 ⊢
 have hN:=areaN_on hl2
 have hab:=room_small hok
 have hv:∀ j,j < D.on.length → flushF D2 j = if j = 1 then headB 1 0 0 else flushF D j:=fun j hj=>by rw [q4 j (by omega),p3 j]
 refine ⟨q1,q2,q3,⟨⟨by omega,Nat.zero_le _,Nat.zero_le _,?_,Nat.zero_le _⟩,Nat.le_refl _,by show 1 ≤ _;omega,rfl,(fun t ht=>by cases ht),(by unfold storedL;simp),fun _=>?_⟩⟩
 ·show 0 + (waitL ⟨1,0,[],[],0⟩).length ≤ _
  have:waitL ⟨1,0,[],[],0⟩ = []:=frs_same _ _
  rw [this]
  simp
 ·refine hds_new (q:=1) (c:=1) (by omega) (by rw [hN];exact Nat.lt_of_le_of_lt hab (by decide)) (by omega) (by omega) (Nat.zero_le 1) (Nat.zero_le _) (by rw [hv 1 (by omega),if_pos rfl];rfl) fun j hj hjq ho=>?_
  rw [hv j (by omega),if_neg hjq,hN] at ho
  exact absurd ho (hds_none hn j hj)
theorem open_in (hok:DevOk D) (h:(openP D).2.1 = some l):LgIn (openP D).1 l ∧ l.cnt ≤ 4611686018427387904 ∧ (openP D).1.down = false ∧ (openP D).2.2 = 0:=by
 unfold openP at h ⊢
 by_cases h4:D.on.length < 4
 ·rw [if_pos h4] at h;cases h
 rw [if_neg h4] at h ⊢
 by_cases hd:D.down = true
 ·rw [if_pos hd] at h;cases h
 rw [if_neg hd] at h ⊢
 have hu:D.down = false:=by simpa using hd
 cases hh:hdsP D 2 with
 | none =>
  rw [hh] at h
  simp only at h ⊢
  rcases first_in hok hu (by omega) hh with ⟨p1,p2,_,p4⟩ | ⟨p1,p2⟩
  ·rw [if_pos p1] at h ⊢
   cases h
   exact ⟨p4,by show 1 ≤ _;omega,p2,rfl⟩
  ·rw [if_neg (by rw [p1];decide)] at h
   cases h
 | some x =>
  obtain ⟨c,a,n⟩:=x
  rw [hh] at h
  simp only at h ⊢
  obtain ⟨q1,q2,q3,q4⟩:=hds_ok hh
  simp only at q1 q2 q3 q4
  by_cases he:(Su.allR ⟨(storedL D a n).toArray⟩).2.2 = 0
  ·rw [if_pos he] at h ⊢
   cases h
   have hlen:=stored_len hok (by omega) q3 q4
   obtain ⟨r1,r2⟩:=all_ok he
   have hw0:waitL ⟨c,a,storedL D a n,(Su.allR ⟨(storedL D a n).toArray⟩).1,(Su.allR ⟨(storedL D a n).toArray⟩).1.length⟩ = []:=frs_same _ _
   have hroom:(storedL D a n).length + (waitL ⟨c,a,storedL D a n,(Su.allR ⟨(storedL D a n).toArray⟩).1,(Su.allR ⟨(storedL D a n).toArray⟩).1.length⟩).length ≤ areaN D:=by rw [hw0,hlen];simpa using q4
   refine ⟨⟨⟨by show 4 ≤ D.on.length;omega,q3,Nat.le_refl _,hroom,many_small hok (Nat.le_refl _) r1 rfl hroom⟩,q1,by show c ≤ _;omega,r1,r2,?_,fun _=>?_⟩,q2,hu,rfl⟩
   ·show storedL D a (storedL D a n).length = storedL D a n
    rw [hlen]
   ·show hdsP D 2 = some (c,a,(storedL D a n).length)
    rw [hh,hlen]
  ·rw [if_neg he] at h;cases h
theorem open_no (h:(openP D).2.1 = none):(openP D).2.2 ≠ 0:=by
 unfold openP at h ⊢
 by_cases h4:D.on.length < 4
 ·rw [if_pos h4]
  show (4:Int) ≠ 0
  decide
 rw [if_neg h4] at h ⊢
 by_cases hd:D.down = true
 ·rw [if_pos hd]
  show (90:Int) ≠ 0
  decide
 rw [if_neg hd] at h ⊢
 cases hh:hdsP D 2 with
 | none =>
  rw [hh] at h
  simp only at h ⊢
  by_cases he:(andD (wrD D 1 (headB 1 0 0)) flD).2 = 0
  ·rw [if_pos he] at h;cases h
  ·rw [if_neg he];exact he
 | some x =>
  obtain ⟨c,a,n⟩:=x
  rw [hh] at h
  simp only at h ⊢
  by_cases he:(Su.allR ⟨(storedL D a n).toArray⟩).2.2 = 0
  ·rw [if_pos he] at h;cases h
  ·rw [if_neg he]
   show (101:Int) ≠ 0
   decide
theorem reopen (h:LgIn D l) (hu:D.down = false) (hc:l.cnt ≤ 4611686018427387904):openP D = (D,some ⟨l.cnt,l.ar,l.bs,l.ts.take l.mn,l.mn⟩,0):=by
 have h4:=h.ok.dev
 have hb:=all_back (n:=l.mn) h.small
 rw [← h.bs] at hb
 unfold openP
 rw [if_neg (by omega),if_neg (by rw [hu];simp),h.hd hc]
 simp only
 rw [h.st,if_pos hb.2,hb.1,List.length_take,Nat.min_eq_left h.ok.mn]
theorem reopen_crash (hok:DevOk D) (h:LgIn D l) (hcl:Sc.Clean D) (hc:l.cnt ≤ 4611686018427387904) (ps:List Int):openP (crD D ps) = (crD D ps,some ⟨l.cnt,l.ar,l.bs,l.ts.take l.mn,l.mn⟩,0) :=
 reopen (h.seen (cr_len D ps) fun _ hj=>cr_view hok.len hcl ps hj) rfl hc
theorem zero_head:∀ ab,¬ okH ab zero64.data.toList:=fun ab h=>by
 have:cOf zero64.data.toList = 0:=by decide
 have h1:=h.1
 omega
theorem new_view {n j:Nat} (h:j < n):flushF (new0 n) j = zero64:=by
 unfold flushF new0
 simp only [List.getD_eq_getElem?_getD,List.getElem?_replicate,if_pos h,Option.getD_some,if_true]
theorem new_heads {n:Nat} (h:4 ≤ n):hdsP (new0 n) 2 = none:=by
 have hs:∀ i,i ≤ 2 → hdsP (new0 n) i = none:=by
  intro i
  induction i with
  | zero=>intro _;rfl
  | succ i ih =>
   intro hi
   show (if okH _ _ ∧ _ then _ else _) = _
   rw [if_neg,ih (by omega)]
   rintro ⟨g,_⟩
   rw [new_view (by omega)] at g
   exact zero_head _ g
 exact hs 2 (Nat.le_refl _)
end
section
variable {D:Dev} {l:Lg}
theorem wrD_idle {D:Dev} (h:Idle D) (_hok:DevOk D) {k:Nat} (hk:k < D.on.length) {t:ByteArray} (ht:t.size = 64):(wrD D (k:Int) t).2 = 0 ∧ Idle (wrD D (k:Int) t).1:=by
 rw [wr_idle h hk ht]
 exact ⟨rfl,rfl,rfl⟩
theorem flD_idle {D:Dev} (h:Idle D):(flD D).2 = 0 ∧ Idle (flD D).1:=by
 rw [fl_idle h]
 exact ⟨rfl,rfl,rfl⟩
theorem wrs_idle {base:Nat} {all:List UInt8}:∀ {n i:Nat} {D:Dev},Idle D → DevOk D → base + i + n ≤ D.on.length → (wrs base all i n D).2 = 0 ∧ Idle (wrs base all i n D).1
 | 0,_,_,h,_,_=>⟨rfl,h⟩
 | n + 1,i,D,h,hok,hl=>by
  have hw:=wrD_idle h hok (k:=base + i) (by omega) (blkB_size all i)
  have e:wrs base all i (n + 1) D = if (wrD D ((base + i:Nat):Int) (blkB all i)).2 = 0 then wrs base all (i + 1) n (wrD D ((base + i:Nat):Int) (blkB all i)).1 else wrD D ((base + i:Nat):Int) (blkB all i):=rfl
  rw [e,if_pos hw.1]
  exact wrs_idle hw.2 (wrD_ok hok _ _) (by rw [wrD_on];omega)
theorem and_idle {r:Dev × Int} {f:Dev → Dev × Int} (h:r.2 = 0 ∧ Idle r.1) (hf:∀ D,D = r.1 → Idle D → (f D).2 = 0 ∧ Idle (f D).1):(andD r f).2 = 0 ∧ Idle (andD r f).1:=by
 unfold andD
 rw [if_pos h.1]
 exact hf _ rfl h.2
theorem settle_idle (hi:Idle D) (hok:DevOk D) (h4:4 ≤ D.on.length) (cnt a:Nat) (old more:List UInt8) (ha:a ≤ 1) (hz:(old ++ more).length ≤ areaN D):(settleP D cnt a old more).2 = 0 ∧ Idle (settleP D cnt a old more).1:=by
 have hml:=many_le hz
 have hfit:areaAt D a + areaN D / 64 ≤ D.on.length:=by
  unfold areaAt areaN
  rw [Nat.mul_div_cancel _ (by omega)]
  have:a = 0 ∨ a = 1:=by omega
  rcases this with rfl | rfl <;> omega
 have hq:(cnt + 1) % 2 < 2:=Nat.mod_lt _ (by omega)
 unfold settleP
 refine and_idle (wrs_idle hi hok (by omega)) fun D1 e1 i1=>and_idle ?_ fun D2 e2 i2=>and_idle ?_ fun D3 _ i3=>flD_idle i3
 ·split
  ·exact ⟨rfl,i1⟩
  ·exact flD_idle i1
 ·have hl1:D1.on.length = D.on.length:=by rw [e1];exact wrs_len _ _ _ _ _
  have ho1:DevOk D1:=by rw [e1];exact wrs_ok _ _ _ _ _ hok
  have hl2:D2.on.length = D.on.length:=by
   rw [e2]
   split
   ·exact hl1
   ·rw [flD_len];exact hl1
  have ho2:DevOk D2:=by
   rw [e2]
   split
   ·exact ho1
   ·exact flD_ok ho1
  exact wrD_idle i2 ho2 (by omega) (headB_size _ _ _)
theorem sync_idle (hi:Idle D) (hok:DevOk D) (h:LgIn D l) (hc:l.cnt < 4611686018427388000) (hm:l.mn ≠ l.ts.length) :
  ∃ D2,syncP D l = (D2,⟨l.cnt + 1,l.ar,l.bs ++ waitL l,l.ts,l.ts.length⟩,0) ∧ Idle D2 ∧ Sc.Clean D2 ∧ DevOk D2 ∧ D2.on.length = D.on.length ∧ LgIn D2 ⟨l.cnt + 1,l.ar,l.bs ++ waitL l,l.ts,l.ts.length⟩:=by
 have hz:(l.bs ++ waitL l).length ≤ areaN D:=by rw [List.length_append];exact h.ok.room
 obtain ⟨p1,p2⟩:=settle_idle hi hok h.ok.dev l.cnt l.ar l.bs (waitL l) h.ok.ar hz
 have hj:l.bs ++ waitL l = frs l.ts 0 l.ts.length:=by rw [h.bs];exact frs_join l.ts h.ok.mn (Nat.le_refl _)
 rcases settle_in hok h hi.2 h.ok.ar hz h.st hc hj rfl h.small with ⟨q1,q2,q3,q4⟩ | ⟨q1,_⟩
 case inr=>rw [p1] at q1;cases q1
 refine ⟨_,?_,p2,q3,settle_ok hok _ _ _ _,settle_len _ _ _ _ _,q4⟩
 unfold syncP
 rw [if_neg hm,if_pos p1]
where
 settle_ok {D:Dev} (hok:DevOk D) (cnt a:Nat) (old more:List UInt8):DevOk (settleP D cnt a old more).1:=by
  have:∀ {r:Dev × Int} {f:Dev → Dev × Int},DevOk r.1 → (∀ E,DevOk E → DevOk (f E).1) → DevOk (andD r f).1:=fun hr hf=>by
   unfold andD
   split
   ·exact hf _ hr
   ·exact hr
  unfold settleP
  refine this (wrs_ok _ _ _ _ _ hok) fun D1 h1=>this ?_ fun D2 h2=>this (wrD_ok h2 _ _) fun D3 h3=>flD_ok h3
  split
  ·exact h1
  ·exact flD_ok h1
theorem rst_idle (hi:Idle D) (hok:DevOk D) (h:LgIn D l) (hc:l.cnt < 4611686018427388000) (ts:List ByteArray) (hs:∀ t ∈ ts,t.size ≤ 4096) (hz:(allF ts).length ≤ areaN D) :
  ∃ D2,restartP D l ts = (D2,⟨l.cnt + 1,1 - l.ar,allF ts,ts,ts.length⟩,0) ∧ Idle D2 ∧ Sc.Clean D2 ∧ DevOk D2 ∧ D2.on.length = D.on.length ∧ LgIn D2 ⟨l.cnt + 1,1 - l.ar,allF ts,ts,ts.length⟩:=by
 have har:=h.ok.ar
 have hz':([] ++ allF ts).length ≤ areaN D:=by rw [List.nil_append];exact hz
 obtain ⟨p1,p2⟩:=settle_idle hi hok h.ok.dev l.cnt (1 - l.ar) [] (allF ts) (by omega) hz'
 rcases settle_in hok h hi.2 (a:=1 - l.ar) (old:=[]) (more:=allF ts) (ts:=ts) (mn:=ts.length) (by omega) hz' (by unfold storedL;simp) hc rfl rfl hs with ⟨q1,q2,q3,q4⟩ | ⟨q1,_⟩
 case inr=>rw [p1] at q1;cases q1
 refine ⟨_,?_,p2,q3,sync_idle.settle_ok hok _ _ _ _,settle_len _ _ _ _ _,q4⟩
 unfold restartP
 rw [if_neg (by rintro ⟨t,h1,h2⟩;have:=hs t h1;omega),if_neg (by omega),if_pos p1]
theorem app_fits {t:ByteArray} (h1:t.size ≤ 4096) (h2:t.size + 6 ≤ roomN D l):appendP D l t = (⟨l.cnt,l.ar,l.bs,l.ts ++ [t],l.mn⟩,0):=by
 unfold appendP
 rw [if_neg (by omega),if_neg (by omega)]
theorem fresh_open {n:Nat} (h4:4 ≤ n) (hm:n ≤ 2048):∃ D1,openP (new0 n) = (D1,some ⟨1,0,[],[],0⟩,0) ∧ Idle D1 ∧ Sc.Clean D1 ∧ DevOk D1 ∧ D1.on.length = n ∧ LgIn D1 ⟨1,0,[],[],0⟩:=by
 have hok:=new0_ok (show 1 ≤ n by omega) hm
 have hl:(new0 n).on.length = n:=by simp [new0]
 have hid:=new0_idle n
 have hh:=new_heads h4
 have hi:(andD (wrD (new0 n) 1 (headB 1 0 0)) flD).2 = 0 ∧ Idle (andD (wrD (new0 n) 1 (headB 1 0 0)) flD).1 :=
  and_idle (wrD_idle (k:=1) hid hok (by omega) (headB_size _ _ _)) fun D1 _ i1=>flD_idle i1
 rcases first_in hok hid.2 (by omega) hh with ⟨p1,p2,p3,p4⟩ | ⟨p1,_⟩
 case inr=>rw [hi.1] at p1;cases p1
 refine ⟨_,?_,hi.2,p3,?_,?_,p4⟩
 ·unfold openP
  rw [if_neg (by omega),if_neg (by rw [hid.2];simp),hh]
  simp only
  rw [if_pos p1]
 ·unfold andD
  split
  ·exact flD_ok (wrD_ok hok _ _)
  ·exact wrD_ok hok _ _
 ·refine (and_len (n:=n) ?_ fun D h=>?_)
  ·rw [wrD_on];exact hl
  ·rw [flD_len];exact h
end
theorem devF_of {Rep:RepT} (H:DevBase Rep):DevF 116 111 113 0 16 Rep :=
 ⟨H.lt,H.ok,H.kept,H.read,H.write,H.flush,H.crash⟩
section
variable {f1 f2 f3 f4 f5 f6 f7 f8 f9 f10:FuncId} {Rep:RepT} {LRep:LRepT} {w0 W W':World} {F F':Nat → Prop} {g p:Nat} {D D':Dev} {l:Lg} {o o':Option (Nat × Lg)}
theorem strs_fr {A:Option Addr} {ts:List ByteArray} (h:StrsAt W A ts) (hf:Fr F F' W W') (hn:∀ x,A = some x → ¬ F x.block):StrsAt W' A ts:=fun hp=>by
 obtain ⟨ad,e,hl,hc⟩:=h hp
 refine ⟨ad,e,Nat.lt_of_lt_of_le hl hf.size,fun i hi=>?_⟩
 have hkp:=hf.block ad.block hl (hn ad e)
 rw [← st_block ad i] at hkp
 refine Eq.trans ?_ (hc i hi)
 unfold World.cell?
 rw [hkp]
end
end Rd
end Go.Proofs.YtlfkhlfkckfbpaaGreat
namespace Go.Proofs.YtlfkhlfkckfbpaaGreat
namespace Bk
open Go.RowKit Go.Lib
theorem run_append_string_at {P:Program} (w:World) (base:Nat) (t u ty e:TypeId) (i:TypeInfo) (ht:P.underlying t = some (.slice e)) (hu:P.underlying u = some .string) (hi:P.info? e = some i) (hz:i.zero = some (.int .u8 0))
  (hsize:i.size = 1) (hby:i.bytes = 1) (v:Value) (n:Nat) (xs:List Value) (hown:w.ownsRow base e 1 v n xs) (s:ByteArray) (h63:n + s.size ≤ maxLen) (hbytes:n + s.size ≤ 140737488355328) (hbase:base ≤ w.heap.size) :
  ∃ v' w',(Builtin.append_ #[t,u] ty #[v,.string s]).run P w = .ok v' w' ∧ w'.ownsRow base e 1 v' (n + s.size) (xs ++ strCells s) ∧ w.grownBy w' v.ownBlock ∧ (v'.ownBlock = v.ownBlock ∨ v'.ownBlock = some w.heap.size):=by
 obtain ⟨v',w',hr,h2,h3,h4⟩:=run_append_own_string (P:=P) w base t u ty e i ht hu hi hz hsize hby v n xs hown s h63 hbytes hbase
 refine ⟨v',w',hr,h2,h3,?_⟩
 have hxl:xs.length = n:=by simpa using hown.1
 rcases hown.2 with ⟨rfl,rfl⟩ | ⟨g,cap,cur,rfl,hbg,hg,hnc,hcm,hcs,htake⟩
 ·by_cases hm:s.size = 0
  ·rw [h4.2 ⟨rfl,hm⟩]
   exact .inl rfl
  ·have hr2:=run_append_nil_string (P:=P) w t u ty e i (.int .u8 0) ht hu hi hz s (by omega) (by unfold maxLen at h63;omega) (by rw [hby];omega)
   rw [hr] at hr2
   simp only [Result.ok.injEq] at hr2
   rw [hr2.1]
   exact .inr rfl
 ·by_cases hroom:n + s.size ≤ cap
  ·have hsz:cur.size = cap:=by simpa using hcs
   have hr2:=run_append_room_string (P:=P) w t u ty e i ht hu hi hsize g n cap cur hg s hroom (by omega)
   rw [hr] at hr2
   simp only [Result.ok.injEq] at hr2
   rw [hr2.1]
   exact .inl rfl
  ·have hr2:=run_append_grow_string (P:=P) w t u ty e i (.int .u8 0) ht hu hi hz ⟨g,0,none⟩ n cap xs (by rw [hsize];simpa using hxl) (hown.cells (g:=g) rfl) s (by omega) (by unfold maxLen at h63;omega) (by rw [hby];exact growslice_fits (by omega) (by omega))
   rw [hr] at hr2
   simp only [Result.ok.injEq] at hr2
   rw [hr2.1]
   exact .inr rfl
theorem wpList_append_string_at {P:Program} {w:World} {ops:Array Oper} {rest:List Oper} {o:Oper} {a:Act} {Q:Exit → Act → World → Prop} (hgd:o.guard = none) (sl x:Operand) (t u:TypeId)
  (ho:o.op = .call { callee:=.builtin .append,args:=#[sl,x],argTypes:=#[t,u] })
  (base:Nat) (e:TypeId) (i:TypeInfo) (ht:P.underlying t = some (.slice e)) (hu:P.underlying u = some .string) (hi:P.info? e = some i) (hz:i.zero = some (.int .u8 0))
  (hsize:i.size = 1) (hby:i.bytes = 1)
  (v:Value) (n:Nat) (xs:List Value) (hs:a.eval sl = v) (hown:w.ownsRow base e 1 v n xs) (s:ByteArray) (hx:a.eval x = .string s)
  (h63:n + s.size ≤ maxLen) (hbytes:n + s.size ≤ 140737488355328) (hbase:base ≤ w.heap.size)
  (h:∀ v' w',w'.ownsRow base e 1 v' (n + s.size) (xs ++ strCells s) → w.grownBy w' v.ownBlock → (v'.ownBlock = v.ownBlock ∨ v'.ownBlock = some w.heap.size) → wpList P ops Q rest (a.put o.dst v') w'):wpList P ops Q (o :: rest) a w:=by
 refine wpList_plain hgd fun K hK=>?_
 obtain ⟨v',w',hr,h2,h3,h4⟩:=run_append_string_at (P:=P) w base t u o.type e i ht hu hi hz hsize hby v n xs hown s h63 hbytes hbase
 unfold Oper.wp execOp
 simp only [ho,resolve,invoke,builtin,Sem.run_bind,Sem.run_pure,Result.andThen_ok,List.map_toArray,List.map_cons,List.map_nil,hs,hx,hr]
 exact hK _ _ (h v' w' h2 h3 h4)
end Bk
end Go.Proofs.YtlfkhlfkckfbpaaGreat
namespace Go.Proofs.YtlfkhlfkckfbpaaGreat
namespace Rd
open Go.RowKit Sc Bk
attribute [local go_sem ↓] Go.wp_at_zero Go.wp_at_succ
attribute [local go_sem] floatUpon pick
structure DevQ (Rep:RepT):Prop where
 lt:∀ {W F g D},Rep W F g D → ∀ k,F k → k < W.heap.size
 ok:∀ {W F g D},Rep W F g D → DevOk D
 kept:∀ {W W' F g D},Rep W F g D → (∀ k,F k → W'.heap[k]? = W.heap[k]?) → Rep W' F g D
 size:∀ {F g D} (w:World),Rep w F g D → Calls Tryz.prog 48 #[.pointer (some ⟨g,0,none⟩)] w fun e w'=>e = .returned (.int .i64 (D.on.length:Int)) ∧ w' = w
 read:∀ {F g D} (i:Int) (w:World),Rep w F g D → -9223372036854775808 ≤ i ∧ i ≤ 9223372036854775807 → Calls Tryz.prog 116 #[.pointer (some ⟨g,0,none⟩),.int .i64 i] w fun e w'=>e = .returned (.tuple #[.string (rdV D i).1,.int .i64 (rdV D i).2]) ∧ Below w.heap.size w w'
def LC (W:World) (p g c a n:Nat) (A:Value) (mn:Nat) (B:Value):Prop :=
 Cel W p 117 [.pointer (some ⟨g,0,none⟩),.int .i64 (c:Int),.int .i64 (a:Int),.int .i64 (n:Int),A,.int .i64 (mn:Int),B]
def LFt (p:Nat) (A B:Value):Nat → Prop:=fun k=>k = p ∨ A.ownBlock = some k ∨ B.ownBlock = some k
structure LL (W:World) (p g:Nat) (A B:Value) (l:Lg):Prop where
 cel:LC W p g l.cnt l.ar l.bs.length A l.mn B
 txt:W.ownsRow 0 9 1 A l.ts.length (strV l.ts)
 wt:W.ownsRow 0 5 1 B (waitL l).length (Lib.byteCells (waitL l))
def LRep (W:World) (L:Nat → Prop) (p g _n:Nat) (l:Lg):Prop:=∃ A B,L = LFt p A B ∧ LL W p g A B l
section
variable {Rep:RepT} {W W' w:World} {F:Nat → Prop} {p g c a n m mn:Nat} {A B:Value} {l:Lg} {D:Dev}
theorem DevQ.step (H:DevQ Rep) (h:Rep W F g D) (hb:Below W.heap.size W W'):Rep W' F g D:=H.kept h fun k hk=>hb.block k (H.lt h k hk)
theorem own_kept {e:TypeId} {H:Nat} {v:Value} {k:Nat} {xs:List Value} (h:W.ownsRow H e 1 v k xs) (hk:∀ j,v.ownBlock = some j → W'.heap[j]? = W.heap[j]?):W'.ownsRow H e 1 v k xs:=by
 rcases h with ⟨hl,hn | ⟨j,cap,cur,hv,hb,hg,rest⟩⟩
 ·exact ⟨hl,.inl hn⟩
 ·exact ⟨hl,.inr ⟨j,cap,cur,hv,hb,(hk j (by rw [hv];rfl)).trans hg,rest⟩⟩
theorem own_lt {e:TypeId} {H:Nat} {v:Value} {k:Nat} {xs:List Value} (h:W.ownsRow H e 1 v k xs):∀ j,v.ownBlock = some j → j < W.heap.size:=fun j hj=>by
 rcases h with ⟨hl,⟨hn,_⟩ | ⟨i,cap,cur,hv,hb,hg,rest⟩⟩
 ·rw [hn] at hj;cases hj
 ·rw [hv] at hj;cases hj;exact (Array.getElem?_eq_some_iff.1 hg).1
theorem own_far {e t:TypeId} {H:Nat} {v:Value} {k q:Nat} {xs ys:List Value} (h:W.ownsRow H e 1 v k xs) (hc:Cel W q t ys) (hn:e ≠ t):v.ownBlock ≠ some q:=fun e'=>by
 rcases h with ⟨hl,⟨hn,_⟩ | ⟨i,cap,cur,hv,hb,hg,rest⟩⟩
 ·rw [hn] at e';cases e'
 ·rw [hv] at e';cases e'
  unfold Cel at hc
  rw [hg] at hc
  simp only [Option.some.injEq,Obj.cells.injEq] at hc
  exact hn hc.2.1
theorem LL.lt (h:LL W p g A B l):∀ k,LFt p A B k → k < W.heap.size:=fun k hk=>by
 rcases hk with rfl | hk | hk
 ·exact h.cel.lt
 ·exact own_lt h.txt k hk
 ·exact own_lt h.wt k hk
theorem LL.kept (h:LL W p g A B l) (hk:∀ k,LFt p A B k → W'.heap[k]? = W.heap[k]?):LL W' p g A B l :=
 ⟨(hk p (.inl rfl)).trans h.cel,own_kept h.txt fun j hj=>hk j (.inr (.inl hj)),own_kept h.wt fun j hj=>hk j (.inr (.inr hj))⟩
theorem LL.step (h:LL W p g A B l) (hb:Below W.heap.size W W'):LL W' p g A B l:=h.kept fun k hk=>hb.block k (h.lt k hk)
theorem LL.dA (h:LL W p g A B l):A.ownBlock ≠ some p:=own_far h.txt h.cel (by decide)
theorem LL.dB (h:LL W p g A B l):B.ownBlock ≠ some p:=own_far h.wt h.cel (by decide)
theorem sectors_any (H:DevQ Rep) (hr:Rep w F g D) (hc:LC w p g c a n A mn B) (h2:4 ≤ D.on.length) :
  Calls Tryz.prog 170 #[.pointer (some ⟨p,0,none⟩)] w fun e w'=>e = .returned (.int .i64 (((D.on.length - 2) / 2:Nat):Int)) ∧ w' = w:=by
 have k0:=hc.cell (i:=0) rfl
 have hmx:=(H.ok hr).max
 have HS:=Lib.hid (H.size w hr)
 obtain ⟨x,hx⟩:∃ x,x = (D.on.length - 2) / 2:=⟨_,rfl⟩
 have e2:((D.on.length:Int) - 2).tdiv 2 = (x:Int):=by rw [Int.tdiv_eq_ediv_of_nonneg (by omega)];omega
 have b1:x ≤ 1024:=by omega
 rw [← hx]
 clear hx hc hr
 generalize D.on.length = N at *
 go_enter Tryz.func170,Tryz.ntmps170
 go_wp2_with fail
 refine HS.out.mono ?_
 rintro e w' ⟨rfl,rfl⟩
 go_wp2_with fail
 go_ret
 exact ⟨rfl,rfl⟩
theorem most_any (H:DevQ Rep) (hr:Rep w F g D) (hc:LC w p g c a n A mn B) (h2:4 ≤ D.on.length) :
  Calls Tryz.prog 138 #[.pointer (some ⟨p,0,none⟩)] w fun e w'=>e = .returned (.int .i64 (areaN D:Int)) ∧ w' = w:=by
 have HS:=Lib.hid (sectors_any H hr hc h2)
 have hmx:=(H.ok hr).max
 obtain ⟨x,hx⟩:∃ x,x = (D.on.length - 2) / 2:=⟨_,rfl⟩
 have e3:(x:Int) * 64 = (areaN D:Int):=by unfold areaN;omega
 have b1:x ≤ 1024:=by omega
 have b2:areaN D ≤ 65536:=by omega
 rw [← hx] at HS
 clear hx hc hr hmx
 generalize areaN D = ab at *
 go_enter Tryz.func138,Tryz.ntmps138
 go_wp2_with fail
 refine HS.out.mono ?_
 rintro e w' ⟨rfl,rfl⟩
 go_wp2_with fail
 go_ret
 exact ⟨rfl,rfl⟩
theorem first_any (H:DevQ Rep) (hr:Rep w F g D) (hc:LC w p g c a n A mn B) (h2:4 ≤ D.on.length) (i:Nat) (hi:i ≤ 1) :
  Calls Tryz.prog 114 #[.pointer (some ⟨p,0,none⟩),.int .i64 (i:Int)] w fun e w'=>e = .returned (.int .i64 (areaAt D i:Int)) ∧ w' = w:=by
 have HS:=Lib.hid (sectors_any H hr hc h2)
 have hmx:=(H.ok hr).max
 obtain ⟨x,hx⟩:∃ x,x = (D.on.length - 2) / 2:=⟨_,rfl⟩
 have b1:x ≤ 1024:=by omega
 have e4:areaAt D i = 2 + i * x:=by unfold areaAt areaN;rw [← hx,Nat.mul_div_cancel _ (by omega)]
 rw [← hx] at HS
 rw [e4]
 clear hx hc hr hmx e4
 have hi':i = 0 ∨ i = 1:=by omega
 rcases hi' with rfl | rfl
 ·simp only [Nat.zero_mul,Nat.add_zero]
  go_enter Tryz.func114,Tryz.ntmps114
  go_wp2_with fail
  refine HS.out.mono ?_
  rintro e w' ⟨rfl,rfl⟩
  go_wp2_with fail
  go_ret
  exact ⟨by simp,rfl⟩
 ·have e5:2 + 1 * (x:Int) = ((2 + 1 * x:Nat):Int):=by omega
  go_enter Tryz.func114,Tryz.ntmps114
  go_wp2_with fail
  refine HS.out.mono ?_
  rintro e w' ⟨rfl,rfl⟩
  go_wp2_with fail
  go_ret
  exact ⟨by simp,rfl⟩
end
end Rd
end Go.Proofs.YtlfkhlfkckfbpaaGreat
namespace Go.Proofs.YtlfkhlfkckfbpaaGreat
namespace Su
end Su
end Go.Proofs.YtlfkhlfkckfbpaaGreat
namespace Go.Proofs.YtlfkhlfkckfbpaaGreat
namespace Su
open Go.RowKit Bk
attribute [local go_sem ↓] Go.wp_at_zero Go.wp_at_succ
attribute [local go_sem] floatUpon pick
theorem u32_and1 (x:Nat) (hx:x < 4294967296):bits .and .u32 (x:Int) 1 = ((x % 2:Nat):Int):=by
 have h:=u32_and_nat x 1 hx (by omega)
 rw [nat_mask1] at h
 exact h
theorem step_any (x:Nat) (w:World) (hx:x < 4294967296) :
  Calls Tryz.prog 211 #[.int .u32 (x:Int)] w fun e w'=>e = .returned (.int .u32 ((T x:Nat):Int)) ∧ w' = w:=by
 have ha:=u32_and1 x hx
 by_cases h:x % 2 = 1
 ·have ht:T x = (x / 2) ^^^ 3988292384:=by unfold T;rw [if_pos h]
  have hb:bits .xor .u32 ((x:Int) / 2) 3988292384 = ((T x:Nat):Int):=by
   have:=u32_xor_nat (x / 2) 3988292384 (by omega) (by omega)
   rw [← ht,Int.natCast_ediv] at this
   exact this
  rw [h] at ha
  have ha':(bits .and .u32 (x:Int) 1 == 1) = true:=by rw [ha];rfl
  clear ha ht
  go_enter Tryz.func211,Tryz.ntmps211
  go_wp2_with fail
  go_ret
  exact ⟨rfl,rfl⟩
 ·have h0:x % 2 = 0:=by omega
  have ht:((x:Int) / 2) = ((T x:Nat):Int):=T_even h
  rw [h0] at ha
  have ha':(bits .and .u32 (x:Int) 1 == 1) = false:=by rw [ha];rfl
  clear ha
  go_enter Tryz.func211,Tryz.ntmps211
  go_wp2_with fail
  go_ret
  exact ⟨rfl,rfl⟩
theorem over_any (x:Nat) (s:ByteArray) (w:World) (hx:x < 4294967296) (hs:s.size ≤ 9223372036854775807) :
  Calls Tryz.prog 200 #[.int .u32 (x:Int),.string s] w fun e w'=>e = .returned (.int .u32 ((reg x s.data.toList:Nat):Int)) ∧ w' = w:=by
 have hb:(s.size:Int) ≤ 9223372036854775807:=by omega
 have HX:=Lib.hid hx
 clear hx
 go_enter Tryz.func200,Tryz.ntmps200
 go_wp2_with fail
 go_loopw [0,8] (fun y i wr=>∃ j:Nat,j ≤ s.size ∧ i = .int .i64 (j:Int) ∧ y = .int .u32 ((reg x (s.data.toList.take j):Nat):Int) ∧ wr = w) (fun _ i _=>s.size - (intOf i).toNat)
 case atStart=>exact ⟨0,by omega,rfl,rfl,rfl⟩
 case round =>
  obtain ⟨j,hj,rfl,rfl,rfl⟩:=hrel
  by_cases hlt:j < s.size
  ·have pj:(j:Int) < (s.size:Int):=by omega
   have hlen:j < s.data.toList.length:=by rw [Array.length_toList];exact hlt
   have hstep:reg x (s.data.toList.take (j + 1)) = Tn 8 (reg x (s.data.toList.take j) ^^^ (s[j]'hlt).toNat):=by
    rw [List.take_add_one,List.getElem?_eq_getElem hlen,reg_append,Array.getElem_toList];rfl
   have hr:=reg_lt HX.out (s.data.toList.take j)
   have HS:=Lib.hid hstep
   have hb8:(s[j]'hlt).toNat < 256:=(s[j]'hlt).toNat_lt
   generalize hbv:(s[j]'hlt).toNat = b at hb8
   have hix:∀ W,(Instr.index 9 (.string s) (.int .i64 (j:Int))).run Tryz.prog W = .ok (.int .u8 (b:Int)) W:=fun W=>by
    rw [run_index_string W 9 s .i64 _ Tryz.underlying9,dif_pos (by omega)]
    simp only [Int.toNat_natCast,hbv]
   rw [hbv] at HS
   generalize reg x (s.data.toList.take j) = z0 at hr HS ⊢
   have hxx:=u32_xor_nat z0 b hr (by omega)
   have hx2:z0 ^^^ b < 4294967296:=Nat.xor_lt_two_pow (n:=32) hr (by omega)
   generalize hy:z0 ^^^ b = y at hxx hx2
   rw [hy] at HS
   have HX2:=Lib.hid hx2
   clear hstep hbv hy hlen hx2
   go_wp2_with fail
   obtain ⟨wo,rfl⟩:∃ wo:World,wo = wr:=⟨_,rfl⟩
   go_loopw [0,17] (fun x i wr=>∃ k:Nat,k ≤ 8 ∧ i = .int .i64 (k:Int) ∧ x = .int .u32 ((Tn k y:Nat):Int) ∧ wr = wo) (fun _ i _=>8 - (intOf i).toNat)
   case atStart=>exact ⟨0,by omega,rfl,rfl,rfl⟩
   case round =>
    obtain ⟨k,hk,rfl,rfl,rfl⟩:=hrel
    by_cases hk8:k < 8
    ·have pk:(k:Int) < 8:=by omega
     have hz:=Tn_lt k HX2.out
     have hs2:=Tn_succ' k y
     generalize Tn k y = z at hz hs2 ⊢
     have HC:=Lib.hid (fun W=>step_any z W hz)
     rw [← hs2] at HC
     clear hs2 hz
     go_wp2_with fail
     refine (HC.out _).mono ?_
     rintro e w' ⟨rfl,rfl⟩
     go_wp2_with fail
     go_roundw
     case rel=>exact ⟨k + 1,by omega,by go_num,rfl,trivial⟩
     case measure=>simp [intOf];omega
    ·obtain rfl:k = 8:=by omega
     have HSo:=HS.out
     go_wp2_with fail
     go_roundw
     case rel=>exact ⟨j + 1,by omega,by go_num,by rw [HSo],trivial⟩
     case measure=>simp [intOf];omega
  ·obtain rfl:j = s.size:=by omega
   have hc:s.data.toList.take s.size = s.data.toList:=List.take_of_length_le (by rw [Array.length_toList];exact Nat.le_refl _)
   rw [hc]
   clear hc
   go_wp2_with fail
   go_ret
   exact ⟨rfl,rfl⟩
end Su
end Go.Proofs.YtlfkhlfkckfbpaaGreat
