/- Parts of the proof, joined: ShMath2, ShMath3, ShMath4, BkClone, ChL1, ChL2; their conditions stand with each. -/
import Derived.Test.YtlfkhlfkckfbpaaGreatRows
import Derived.Lib.Strings
import Derived.Lib.Walk
import Derived.Lib.BufferWrite
import Derived.Lib.UnsafeStr
import Derived.Lib.Hide
import Derived.Laws.MakeOwn
import Derived.WalkKit
import Derived.Test.YtlfkhlfkckfbpaaGreatC0
import Derived.Test.YtlfkhlfkckfbpaaGreatC3

set_option maxRecDepth 20000
set_option maxHeartbeats 8000000
namespace Go.Proofs.YtlfkhlfkckfbpaaGreat
namespace Sh
open Ch Rc Lt
theorem prep_mem {p:List Rec} {txn:Int} {r:Rec} (h:prepOf p txn = some r):r ∈ p ∧ r.txn = txn:=⟨List.mem_of_find?_eq_some h,by simpa using List.find?_some h⟩
theorem prep_none {p:List Rec} {txn:Int}:prepOf p txn = none ↔ ∀ r ∈ p,r.txn ≠ txn:=by
 unfold prepOf
 rw [List.find?_eq_none]
 constructor
 ·intro h r hr e;exact h r hr (by simp [e])
 ·intro h r hr e;exact h r hr (by simpa using e)
theorem end_none {e:List (Int × Int)} {txn:Int}:endOf e txn = none ↔ ∀ x ∈ e,x.1 ≠ txn:=by
 unfold endOf
 rw [List.find?_eq_none]
 constructor
 ·intro h r hr e;exact h r hr (by simp [e])
 ·intro h r hr e;exact h r hr (by simpa using e)
theorem state_zero {s:Shf} {txn:Int}:(stateP s txn).1 = 0 ↔ prepOf s.p txn = none ∧ endOf s.e txn = none:=by
 unfold stateP
 cases prepOf s.p txn with
 | some r=>simp
 | none =>
  cases endOf s.e txn with
  | none=>simp
  | some x =>
   by_cases h:0 < x.2
   ·simp [h]
   ·simp [h]
theorem state_le {s:Shf} {txn:Int} (h:¬ 1 < (stateP s txn).1):endOf s.e txn = none ∨ ∃ r,prepOf s.p txn = some r:=by
 unfold stateP at h
 cases hp:prepOf s.p txn with
 | some r=>exact .inr ⟨r,rfl⟩
 | none =>
  rw [hp] at h
  cases he:endOf s.e txn with
  | none=>exact .inl rfl
  | some x =>
   rw [he] at h
   simp only at h
   by_cases h0:0 < x.2
   ·rw [if_pos h0] at h;simp at h
   ·rw [if_neg h0] at h;simp at h
theorem mem_ins {p:List Rec} {r q:Rec}:q ∈ insP p r ↔ q = r ∨ q ∈ p:=by
 unfold insP
 rw [List.mem_append,List.mem_cons]
 constructor
 ·rintro (h | h | h)
  ·exact .inr ((List.takeWhile_prefix _).subset h)
  ·exact .inl h
  ·exact .inr ((List.dropWhile_suffix _).subset h)
 ·rintro (h | h)
  ·exact .inr (.inl h)
  ·have:=List.takeWhile_append_dropWhile (p:=fun q:Rec=>decide (q.txn < r.txn)) (l:=p)
   rw [← this] at h
   rcases List.mem_append.1 h with h | h
   ·exact .inl h
   ·exact .inr (.inr h)
theorem ins_len (p:List Rec) (r:Rec):(insP p r).length = p.length + 1:=by
 unfold insP
 have:=congrArg List.length (List.takeWhile_append_dropWhile (p:=fun q:Rec=>decide (q.txn < r.txn)) (l:=p))
 rw [List.length_append] at this
 rw [List.length_append,List.length_cons]
 omega
theorem ins_rise:∀ {p:List Rec} {r:Rec},p.Pairwise (fun x y=>x.txn < y.txn) → (∀ q ∈ p,q.txn ≠ r.txn) → (insP p r).Pairwise (fun x y=>x.txn < y.txn)
 | [],r,_,_=>by unfold insP;simp
 | x :: t,r,h,hn=>by
  obtain ⟨h1,h2⟩:=List.pairwise_cons.1 h
  have ih:=ins_rise (r:=r) h2 (fun q hq=>hn q (List.mem_cons_of_mem _ hq))
  have hx:=hn x (List.mem_cons_self ..)
  unfold insP at ih ⊢
  by_cases hl:x.txn < r.txn
  ·rw [List.takeWhile_cons_of_pos (by simpa using hl),List.dropWhile_cons_of_pos (by simpa using hl),List.cons_append]
   refine List.pairwise_cons.2 ⟨fun y hy=>?_,ih⟩
   have:y = r ∨ y ∈ t:=(mem_ins (p:=t) (r:=r)).1 hy
   rcases this with rfl | hy
   ·exact hl
   ·exact h1 y hy
  ·rw [List.takeWhile_cons_of_neg (by simpa using hl),List.dropWhile_cons_of_neg (by simpa using hl),List.nil_append]
   refine List.pairwise_cons.2 ⟨fun y hy=>?_,h⟩
   rcases List.mem_cons.1 hy with rfl | hy
   ·omega
   ·have:=h1 y hy;omega
theorem out_sub (p:List Rec) (txn:Int):(outP p txn).Sublist p:=List.eraseP_sublist
theorem out_not {p:List Rec} {txn:Int} (h:p.Pairwise (fun x y=>x.txn < y.txn)):∀ r ∈ outP p txn,r.txn ≠ txn:=by
 induction p with
 | nil=>intro r hr;cases hr
 | cons x t ih =>
  obtain ⟨h1,h2⟩:=List.pairwise_cons.1 h
  intro r hr
  unfold outP at hr ih
  by_cases hx:x.txn = txn
  ·rw [List.eraseP_cons_of_pos (by simpa using hx)] at hr
   have:=h1 r hr;omega
  ·rw [List.eraseP_cons_of_neg (by simpa using hx)] at hr
   rcases List.mem_cons.1 hr with rfl | hr
   ·exact hx
   ·exact ih h2 r hr
theorem cap_sub (e:List (Int × Int)):(capE e).Sublist e:=by
 unfold capE
 by_cases h:1024 < e.length
 ·rw [if_pos h];exact List.drop_sublist _ _
 ·rw [if_neg h];exact List.Sublist.refl _
theorem cap_len {e:List (Int × Int)} (h:e.length ≤ 1025):(capE e).length ≤ 1024:=by
 unfold capE
 by_cases h2:1024 < e.length
 ·rw [if_pos h2,List.length_drop];omega
 ·rw [if_neg h2];omega
theorem end_ok {s:Shf} (h:ShOk s) {txn ts:Int} (ht:txnOk txn) (hs:stampOk ts) (hn:endOf s.e txn = none):ShOk (endP s txn ts):=by
 have hn':=end_none.1 hn
 have hos:=out_sub s.p txn
 have hcs:=cap_sub (s.e ++ [(txn,ts)])
 have hmem:∀ x ∈ capE (s.e ++ [(txn,ts)]),x ∈ s.e ∨ x = (txn,ts):=fun x hx=>by
  rcases List.mem_append.1 (hcs.subset hx) with h | h
  ·exact .inl h
  ·exact .inr (List.mem_singleton.1 h)
 refine ⟨h.ks,h.kn,h.kc,h.kz,h.kl,h.pr.sublist hos,fun r hr=>h.po r (hos.subset hr),Nat.le_trans hos.length_le h.pl,fun r hr q hq=>h.pa r (hos.subset hr) q (hos.subset hq),cap_len (by rw [List.length_append];have:=h.el;simp;omega),?_,fun x hx=>?_,fun x hx r hr=>?_,h.ov⟩
 ·refine List.Pairwise.sublist hcs (List.pairwise_append.2 ⟨h.ed,by simp,fun x hx y hy=>?_⟩)
  obtain rfl:=List.mem_singleton.1 hy
  exact hn' x hx
 ·rcases hmem x hx with h2 | rfl
  ·exact h.eo x h2
  ·exact ⟨ht,hs⟩
 ·rcases hmem x hx with h2 | rfl
  ·exact h.ep x h2 r (hos.subset hr)
  ·exact out_not h.pr r hr
theorem prep_end {s:Shf} (h:ShOk s) {txn:Int} {r:Rec} (hp:prepOf s.p txn = some r):endOf s.e txn = none:=by
 obtain ⟨h1,h2⟩:=prep_mem hp
 exact end_none.2 fun x hx e=>h.ep x hx r h1 (by rw [h2,e])
structure KOk (k:List Kc):Prop where
 ks:Sorted k
 kn:∀ x ∈ k,keyOk x.name
 kc:∀ x ∈ k,ChOk x.l
 kz:∀ x ∈ k,x.l ≠ []
theorem ShOk.kok {s:Shf} (h:ShOk s):KOk s.k:=⟨h.ks,h.kn,h.kc,h.kz⟩
theorem KOk.chain {k:List Kc} (h:KOk k) (key:ByteArray):ChOk (chainK k key):=by
 unfold chainK
 cases hf:findK k key with
 | none=>exact ⟨by simp,by simp,List.Pairwise.nil⟩
 | some x=>exact h.kc x (find_mem hf).1
theorem KOk.add {k:List Kc} (h:KOk k) {key:ByteArray} (hk:keyOk key) {v:Vr} (hv:(addP (chainK k key) v).2 = 0):KOk (addK k key v):=by
 obtain ⟨h1,h2⟩:=added hv
 unfold addK
 rw [h2]
 refine ⟨put_sorted _ _ h.ks,fun x hx=>?_,fun x hx=>?_,fun x hx=>?_⟩
 all_goals rcases mem_put _ _ _ _ hx with rfl | hx
 ·exact hk
 ·exact h.kn x hx
 ·exact h1.more
 ·exact h.kc x hx
 ·simp
 ·exact h.kz x hx
theorem KOk.sweep {k:List Kc} (h:KOk k) (t:Int):KOk (sweepK k t):=by
 refine ⟨sweep_sorted t h.ks,fun x hx=>?_,fun x hx=>?_,fun x hx=>?_⟩
 all_goals obtain ⟨y,hy,rfl,he⟩:=mem_sweep hx
 ·exact h.kn y hy
 ·exact ok_sub (h.kc y hy) (sweep_sub t)
 ·exact he
theorem add_may {l:List Vr} (h:ChOk l) {v:Vr} (hv:vrOk v) (hl:lastT l < v.ts) (hn:l.length < 1024):(addP l v).2 = 0:=by
 unfold addP
 have h2:(chkP [v]).2 = 0:=chk_ok.2 ⟨by simp,fun x hx=>by rw [List.mem_singleton.1 hx];exact hv,by simp⟩
 rw [if_neg (by rw [chk_zero h];simp),if_neg (by rw [h2];simp),if_neg (by omega),if_neg (by omega)]
theorem rises_ne {l:List ByteArray} (h:Rises l):l.Pairwise (fun x y=>ltK x y = true):=by
 rw [List.pairwise_iff_getElem]
 have step:∀ i (h1:i + 1 < l.length),ltK (l[i]'(by omega)) l[i + 1] = true:=fun i h1=>by
  have:=(h (i + 1) h1).2 (by omega)
  unfold leT at this
  rw [Bool.or_eq_false_iff] at this
  simp only [Nat.add_sub_cancel] at this
  rcases lt_total (l[i]'(by omega)) l[i + 1] with h2 | h2 | h2
  ·exact h2
  ·rw [h2] at this;simp at this
  ·unfold ltK at h2;rw [this.1] at h2;cases h2
 intro i j hi hj hij
 induction j with
 | zero=>omega
 | succ j ih =>
  by_cases e:i = j
  ·subst e;exact step i hj
  ·exact lt_trans (ih (by omega) (by omega)) (step j hj)
theorem addW_ok {ts:Int} (hts:1 ≤ ts ∧ ts ≤ 1125899906842624):∀ (ws:List Wr) (k:List Kc),KOk k → (∀ x ∈ ws,keyOk x.key ∧ wrOk x) → ws.Pairwise (fun x y=>x.key ≠ y.key) → (∀ x ∈ ws,lastT (chainK k x.key) < ts) → (∀ x ∈ ws,(chainK k x.key).length < 1024) →
  KOk (addW ts ws k) ∧ (∀ key,(∀ x ∈ ws,x.key ≠ key) → chainK (addW ts ws k) key = chainK k key) ∧ (∀ x ∈ ws,chainK (addW ts ws k) x.key = chainK k x.key ++ [⟨ts,x.shard,x.dead⟩])
 | [],k,h,_,_,_,_=>⟨h,fun _ _=>rfl,fun x hx=>by cases hx⟩
 | x :: r,k,h,hw,hp,hl,hn=>by
  obtain ⟨hp1,hp2⟩:=List.pairwise_cons.1 hp
  have hx:=hw x (List.mem_cons_self ..)
  have hv:vrOk ⟨ts,x.shard,x.dead⟩:=by
   have:=hx.2
   unfold wrOk at this
   exact ⟨hts.1,hts.2,this.1,this.2⟩
  have h0:=add_may (h.chain x.key) hv (hl x (List.mem_cons_self ..)) (hn x (List.mem_cons_self ..))
  have hk':KOk (addK k x.key ⟨ts,x.shard,x.dead⟩):=h.add hx.1 h0
  have hch:∀ key,chainK (addK k x.key ⟨ts,x.shard,x.dead⟩) key = if key = x.key then chainK k x.key ++ [⟨ts,x.shard,x.dead⟩] else chainK k key:=fun key=>by
   unfold addK
   rw [chain_put,(added h0).2]
  have hne:∀ y ∈ r,y.key ≠ x.key:=fun y hy e=>hp1 y hy e.symm
  obtain ⟨i1,i2,i3⟩:=addW_ok hts r _ hk' (fun y hy=>hw y (List.mem_cons_of_mem _ hy)) hp2 (fun y hy=>by rw [hch,if_neg (hne y hy)];exact hl y (List.mem_cons_of_mem _ hy)) (fun y hy=>by rw [hch,if_neg (hne y hy)];exact hn y (List.mem_cons_of_mem _ hy))
  refine ⟨i1,fun key hkey=>?_,fun y hy=>?_⟩
  ·show chainK (addW ts r _) key = _
   rw [i2 key (fun y hy=>hkey y (List.mem_cons_of_mem _ hy)),hch,if_neg (fun e=>hkey x (List.mem_cons_self ..) e.symm)]
  ·rcases List.mem_cons.1 hy with rfl | hy
   ·show chainK (addW ts r _) y.key = _
    rw [i2 y.key (fun z hz=>hne z hz),hch,if_pos rfl]
   ·show chainK (addW ts r _) y.key = _
    rw [i3 y hy,hch,if_neg (hne y hy)]
theorem add_len {k:List Kc} (h:KOk k) (key:ByteArray) (v:Vr):(addK k key v).length = if hasK k key then k.length else k.length + 1:=put_len key _ h.ks
theorem has_put (k:List Kc) (key:ByteArray) (l:List Vr) (key':ByteArray):hasK (putK k key l) key' = (decide (key' = key) || hasK k key'):=by
 unfold hasK
 rw [find_put]
 by_cases h:key' = key
 ·simp [h]
 ·simp [h]
theorem longW_far {k k':List Kc}:∀ {ws:List Wr} {n:Nat},(∀ y ∈ ws,chainK k' y.key = chainK k y.key ∧ hasK k' y.key = hasK k y.key) → longW k' ws n = longW k ws n
 | [],_,_=>rfl
 | x :: r,n,h=>by
  unfold longW
  rw [(h x (List.mem_cons_self ..)).1,(h x (List.mem_cons_self ..)).2,longW_far (fun y hy=>h y (List.mem_cons_of_mem _ hy))]
theorem longW_chain {k:List Kc}:∀ {ws:List Wr} {n:Nat},longW k ws n = false → ∀ x ∈ ws,(chainK k x.key).length < 1024
 | [],_,_,x,hx=>by cases hx
 | x :: r,n,h,y,hy=>by
  unfold longW at h
  rw [Bool.or_eq_false_iff,Bool.or_eq_false_iff] at h
  rcases List.mem_cons.1 hy with rfl | hy
  ·have:=h.1.1;simp at this;omega
  ·exact longW_chain h.2 y hy
theorem addW_len {ts:Int} (hts:1 ≤ ts ∧ ts ≤ 1125899906842624):∀ (ws:List Wr) (k:List Kc),KOk k → (∀ x ∈ ws,keyOk x.key ∧ wrOk x) → ws.Pairwise (fun x y=>x.key ≠ y.key) → (∀ x ∈ ws,lastT (chainK k x.key) < ts) → k.length ≤ 1024 → longW k ws k.length = false → (addW ts ws k).length ≤ 1024
 | [],k,_,_,_,_,hl,_=>hl
 | x :: r,k,h,hw,hp,hl,hk,hlong=>by
  obtain ⟨hp1,hp2⟩:=List.pairwise_cons.1 hp
  have hx:=hw x (List.mem_cons_self ..)
  have hlen:=longW_chain hlong x (List.mem_cons_self ..)
  have hv:vrOk ⟨ts,x.shard,x.dead⟩:=by
   have:=hx.2
   unfold wrOk at this
   exact ⟨hts.1,hts.2,this.1,this.2⟩
  have h0:=add_may (h.chain x.key) hv (hl x (List.mem_cons_self ..)) hlen
  have hk':KOk (addK k x.key ⟨ts,x.shard,x.dead⟩):=h.add hx.1 h0
  have hne:∀ y ∈ r,y.key ≠ x.key:=fun y hy e=>hp1 y hy e.symm
  have hch:∀ y ∈ r,chainK (addK k x.key ⟨ts,x.shard,x.dead⟩) y.key = chainK k y.key ∧ hasK (addK k x.key ⟨ts,x.shard,x.dead⟩) y.key = hasK k y.key:=fun y hy=>by
   unfold addK
   rw [chain_put,if_neg (hne y hy),has_put]
   exact ⟨rfl,by simp [hne y hy]⟩
  unfold longW at hlong
  rw [Bool.or_eq_false_iff,Bool.or_eq_false_iff] at hlong
  have hal:=add_len h x.key ⟨ts,x.shard,x.dead⟩
  refine addW_len hts r _ hk' (fun y hy=>hw y (List.mem_cons_of_mem _ hy)) hp2 (fun y hy=>by rw [(hch y hy).1];exact hl y (List.mem_cons_of_mem _ hy)) ?_ ?_
  ·rw [hal]
   have:=hlong.1.2
   simp at this
   omega
  ·rw [hal,longW_far hch]
   exact hlong.2
theorem prep_writes {r:Rec} (h:RecOk r) (hk:r.kind = 1):(∀ x ∈ r.ws,keyOk x.key ∧ wrOk x) ∧ r.ws.Pairwise (fun x y=>x.key ≠ y.key):=by
 have h2:=((kind_1 hk).1 h.2).2.2.2.2
 obtain ⟨_,h3,h4⟩:=h2
 have h5:=rises_ne h4
 refine ⟨fun x hx=>⟨(h.bounds.2.2.2.2.2.1 x hx).1,h3 x hx⟩,?_⟩
 exact (List.pairwise_map.1 h5).imp (fun h=>lt_ne h)
theorem do_ok {s:Shf} (h:ShOk s) {txn ts:Int} (ht:txnOk txn) (hs:stampOk ts):ShOk (doP s txn ts).1:=by
 unfold doP
 by_cases h1:1 < (stateP s txn).1
 ·rw [if_pos h1];split <;> exact h
 rw [if_neg h1]
 cases hp:prepOf s.p txn with
 | none =>
  have hn:endOf s.e txn = none:=by
   rcases state_le h1 with h2 | ⟨r,h2⟩
   ·exact h2
   ·rw [hp] at h2;cases h2
  exact end_ok h ht hs hn
 | some r =>
  have hn:=prep_end h hp
  simp only
  by_cases h2:0 < ts
  ·rw [if_pos h2]
   by_cases h3:r.ws.any (fun x=>decide (ts ≤ lastT (chainK s.k x.key))) = true
   ·rw [if_pos h3];exact h
   rw [if_neg h3]
   by_cases h4:longW s.k r.ws s.k.length = true
   ·rw [if_pos h4];exact h
   rw [if_neg h4]
   have h3':∀ x ∈ r.ws,lastT (chainK s.k x.key) < ts:=fun x hx=>by
    simp only [List.any_eq_true,not_exists,not_and] at h3
    have:=h3 x hx
    simp at this
    omega
   have h4':longW s.k r.ws s.k.length = false:=by simpa using h4
   have hpo:=h.po r (prep_mem hp).1
   obtain ⟨w1,w2⟩:=prep_writes hpo.1 hpo.2
   unfold stampOk at hs
   have hts:1 ≤ ts ∧ ts ≤ 1125899906842624:=by omega
   obtain ⟨k1,_,_⟩:=addW_ok hts r.ws s.k h.kok w1 w2 h3' (longW_chain h4')
   have k2:=addW_len hts r.ws s.k h.kok w1 w2 h3' h.kl h4'
   have h5:ShOk ⟨addW ts r.ws s.k,s.p,s.e,s.over⟩:=⟨k1.ks,k1.kn,k1.kc,k1.kz,k2,h.pr,h.po,h.pl,h.pa,h.el,h.ed,h.eo,h.ep,h.ov⟩
   exact end_ok h5 ht (by unfold stampOk;omega) hn
  ·rw [if_neg h2]
   exact end_ok h ht hs hn
theorem prepare_ok {s:Shf} (h:ShOk s) {r:Rec} (hr:RecOk r) (hk:r.kind = 1):ShOk (prepareP s r).1:=by
 unfold prepareP
 by_cases h1:(stateP s r.txn).1 ≠ 0
 ·rw [if_pos h1];exact h
 rw [if_neg h1]
 by_cases h2:r.keys.any (fun y=>heldB s y false) = true
 ·rw [if_pos h2];exact h
 rw [if_neg h2]
 by_cases h3:r.ws.any (fun x=>heldB s x.key true) = true
 ·rw [if_pos h3];exact h
 rw [if_neg h3]
 by_cases h4:1024 ≤ s.p.length
 ·rw [if_pos h4];exact h
 rw [if_neg h4]
 obtain ⟨hp,he⟩:=state_zero.1 (Decidable.not_not.1 h1)
 have hp':=prep_none.1 hp
 have he':=end_none.1 he
 have hA:∀ q ∈ s.p,∀ x ∈ r.ws,heldR q x.key true = false:=fun q hq x hx=>by
  cases hh:heldR q x.key true with
  | false=>rfl
  | true=>exact absurd (List.any_eq_true.2 ⟨x,hx,List.any_eq_true.2 ⟨q,hq,hh⟩⟩) h3
 have hB:∀ q ∈ s.p,∀ x ∈ q.ws,heldR r x.key true = false:=fun q hq x hx=>by
  cases hh:heldR r x.key true with
  | false=>rfl
  | true =>
   exfalso
   unfold heldR at hh
   simp only [Bool.or_eq_true,Bool.true_and,List.any_eq_true,decide_eq_true_eq] at hh
   rcases hh with ⟨y,hy,e⟩ | ⟨y,hy,e⟩
   ·have:=hA q hq y hy
    unfold heldR at this
    rw [Bool.or_eq_false_iff] at this
    have h5:=this.1
    rw [List.any_eq_false] at h5
    exact h5 x hx (by simp [e])
   ·refine h2 (List.any_eq_true.2 ⟨y,hy,List.any_eq_true.2 ⟨q,hq,?_⟩⟩)
    unfold heldR
    rw [Bool.or_eq_true]
    exact .inl (List.any_eq_true.2 ⟨x,hx,by simp [e]⟩)
 refine ⟨h.ks,h.kn,h.kc,h.kz,h.kl,ins_rise h.pr hp',fun q hq=>?_,by show (insP s.p r).length ≤ 1024;rw [ins_len];omega,fun a ha b hb hab=>?_,h.el,h.ed,h.eo,fun x hx q hq=>?_,h.ov⟩
 ·rcases mem_ins.1 hq with rfl | hq
  ·exact ⟨hr,hk⟩
  ·exact h.po q hq
 ·rcases mem_ins.1 ha with ha1 | ha1
  ·rcases mem_ins.1 hb with hb1 | hb1
   ·exact absurd (by rw [ha1,hb1]) hab
   ·rw [ha1];exact hA b hb1
  ·rcases mem_ins.1 hb with hb1 | hb1
   ·rw [hb1];exact hB a ha1
   ·exact h.pa a ha1 b hb1 hab
 ·rcases mem_ins.1 hq with rfl | hq
  ·exact fun e=>he' x hx e.symm
  ·exact h.ep x hx q hq
theorem ver_ok {s:Shf} (h:ShOk s) {key:ByteArray} (hk:keyOk key) (v:Vr):ShOk (verP s key v).1:=by
 unfold verP
 by_cases h1:(addP (chainK s.k key) v).2 ≠ 0
 ·rw [if_pos h1];exact h
 rw [if_neg h1]
 by_cases h2:hasK s.k key = false ∧ 1024 ≤ s.k.length
 ·rw [if_pos h2];exact h
 rw [if_neg h2]
 have k1:=h.kok.add hk (Decidable.not_not.1 h1)
 have k2:=add_len h.kok key v
 have hkl:=h.kl
 refine ⟨k1.ks,k1.kn,k1.kc,k1.kz,?_,h.pr,h.po,h.pl,h.pa,h.el,h.ed,h.eo,h.ep,h.ov⟩
 show (addK s.k key v).length ≤ 1024
 rw [k2]
 cases hh:hasK s.k key with
 | true=>simpa using hkl
 | false =>
  have:¬ 1024 ≤ s.k.length:=fun e=>h2 ⟨hh,e⟩
  simp only [Bool.false_eq_true,if_false]
  omega
theorem sweep_ok {s:Shf} (h:ShOk s) {t:Int} (ht:stampOk t):ShOk (sweepS s t).1:=by
 unfold sweepS
 by_cases h1:t < s.over
 ·rw [if_pos h1];exact h
 rw [if_neg h1]
 have k1:=h.kok.sweep t
 exact ⟨k1.ks,k1.kn,k1.kc,k1.kz,Nat.le_trans (sweep_len s.k t) h.kl,h.pr,h.po,h.pl,h.pa,h.el,h.ed,h.eo,h.ep,ht⟩
theorem apply_ok {s:Shf} (h:ShOk s) (r:Rec):ShOk (applyP s r).1:=by
 unfold applyP
 by_cases h0:¬ RecOk r
 ·rw [if_pos h0];exact h
 rw [if_neg h0]
 have hr:=Classical.not_not.1 h0
 have t1:=hr.1.1
 have t2:=hr.1.2.1
 by_cases h1:r.kind = 1
 ·rw [if_pos h1];exact prepare_ok h hr h1
 rw [if_neg h1]
 by_cases h2:r.kind = 2
 ·rw [if_pos h2]
  have:=((kind_2 h2).1 hr.2).2
  exact do_ok h (t1.resolve_left this) t2
 rw [if_neg h2]
 by_cases h3:r.kind = 3
 ·rw [if_pos h3]
  exact ver_ok h ((kind_3 h3).1 hr.2).2.2.2.2.1 _
 rw [if_neg h3]
 by_cases h4:r.kind = 4
 ·rw [if_pos h4];exact sweep_ok h t2
 rw [if_neg h4];exact h
end Sh
end Go.Proofs.YtlfkhlfkckfbpaaGreat
namespace Go.Proofs.YtlfkhlfkckfbpaaGreat
namespace Bk
open Go.RowKit
set_option maxRecDepth 100000 in
theorem clone_in (s:ByteArray) (w:World) (hlim:s.size ≤ 281474976710656) :
  Calls Tryz.prog 91 #[.string s] w fun e w'=>e = .returned (.string s) ∧ Below w.heap.size w w':=by
 by_cases h0:s.size = 0
 ·have hs:s = ⟨#[]⟩:=by
   apply ByteArray.ext
   exact Array.eq_empty_of_size_eq_zero h0
  subst hs
  go_enter Tryz.func91,Tryz.ntmps91
  go_wp2
  go_ret
  exact ⟨rfl,Below.refl _ _⟩
 ·obtain ⟨i0,hi,hz0,hz1,hz2⟩:=info_parts Bk.Tryz.infoU8
  have hinfo:(Tryz.prog.info? 5).map (·.size) = some 1:=by rw [hi];simp [hz1]
  have hco:Tryz.prog.cellsOf 5 = 1:=by simp [Program.cellsOf,hi,hz1]
  obtain ⟨M,hM⟩:∃ M,M = madeCells (Value.int .u8 0).cells (((s.size:Nat):Int).toNat * i0.size):=⟨_,rfl⟩
  have hMs:M.size = s.size:=by rw [hM,size_madeCells,hz1];simp
  have hmk:∀ W:World,(Instr.makeSlice 41 (.int .i64 (s.size:Int)) (.int .i64 (s.size:Int))).run Tryz.prog W = .ok (.slice (some ⟨W.heap.size,0,none⟩) s.size s.size) (W.alloc (.cells M 5)):=fun W=>by
   have h:=run_make (P:=Tryz.prog) W 41 5 i0 (.int .u8 0) Tryz.underlying41 hi hz0 .i64 .i64 (s.size:Int) (s.size:Int) (by omega) (by omega) (by rw [hz2];omega) (by omega)
   rw [← hM] at h
   simpa using h
  clear hM
  have hcp:=Lib.run_copy_row_string (P:=Tryz.prog) (w.alloc (.cells M 5)) 41 9 3 5 w.heap.size 0 s.size s.size s M 5 Tryz.underlying41 hinfo (heap_alloc_new w _) (Nat.le_refl _) (by omega)
  obtain ⟨Y,hY⟩:∃ Y,Y = (M.toList.take 0 ++ Lib.byteCells s.data.toList ++ M.toList.drop (0 + s.size)).toArray:=⟨_,rfl⟩
  rw [← hY] at hcp
  have hYl:Y.toList = Lib.byteCells s.data.toList:=by
   rw [hY,List.toList_toArray,List.take_zero,List.nil_append,List.drop_of_length_le (by rw [Array.length_toList];omega),List.append_nil]
  have hYs:Y.size = s.size:=by rw [← Array.length_toList,hYl,Lib.byteCells_length,← Lib.size_eq]
  have hgY:((w.alloc (.cells M 5)).setRow w.heap.size Y).heap[w.heap.size]? = some (.cells Y 5 (0,0)):=setRow_heap _ _ M _ 5 (0,0) (heap_alloc_new w _)
  have hne:s.data.toList ≠ []:=fun e=>h0 (by rw [Lib.size_eq,e];rfl)
  have hUS:=Lib.run_unsafeString_row (P:=Tryz.prog) ((w.alloc (.cells M 5)).setRow w.heap.size Y) 212 3 9 5 Tryz.underlying212 hco w.heap.size Y.size (by unfold World.shape?;rw [hgY]) s.data.toList hne (by rw [← Lib.size_eq];omega) (by rw [← Lib.size_eq];omega)
   (fun j x hx=>Lib.cells_of_row hgY Y.size j _ (by rw [List.take_of_length_le (by rw [Array.length_toList];exact Nat.le_refl _),hYl];simp [Lib.byteCells,hx]))
  rw [← Lib.size_eq] at hUS
  clear hY
  go_enter Tryz.func91,Tryz.ntmps91
  go_wp2
  go_ret
  have hb1:Below w.heap.size w (w.alloc (.cells M 5)):=(Below.refl _ w).alloc (Nat.le_refl _) _
  have hb2:Below w.heap.size (w.alloc (.cells M 5)) ((w.alloc (.cells M 5)).setRow w.heap.size Y):=⟨rfl,rfl,rfl,by simp,fun k hk=>setRow_other _ _ _ _ (by omega)⟩
  exact ⟨rfl,Lib.below_freeze (hb1.trans hb2) (p:=⟨w.heap.size,0,none⟩) (Nat.le_refl _) _⟩
theorem clone_any (s:ByteArray) (w:World) (hlim:s.size ≤ 281474976710656) :
  Calls Tryz.prog 60 #[.string s] w fun e w'=>e = .returned (.string s) ∧ Below w.heap.size w w':=by
 go_enter Tryz.func60,Tryz.ntmps60
 go_wp2_with fail
 refine (clone_in s _ hlim).mono ?_
 rintro e w' ⟨rfl,hb⟩
 go_wp2_with fail
 go_ret
 exact ⟨rfl,hb⟩
end Bk
end Go.Proofs.YtlfkhlfkckfbpaaGreat
namespace Go.Proofs.YtlfkhlfkckfbpaaGreat
namespace Ch
open Go.RowKit Bk
attribute [local go_sem ↓] Go.wp_at_zero Go.wp_at_succ
attribute [local go_sem] floatUpon pick
theorem bad_none_go {t:Int} {s:ByteArray} {d:Bool} (h:¬ t < 1 ∧ ¬ 1125899906842624 < t ∧ ¬ 2052 < s.size ∧ ¬ (d = true ∧ s ≠ ⟨#[]⟩)):bad none ⟨t,s,d⟩ = 0:=bad_go h (fun q e=>by cases e)
theorem fault_any (x:Vr) (w:World) (hx:x.shard.size ≤ reachBytes) :
  Calls Tryz.prog 27 #[.agg (vcs x).toArray] w fun e w'=>e = .returned (.int .i64 (bad none x)) ∧ Below w.heap.size w w':=by
 obtain ⟨xt,xs,xd⟩:=x
 have rb:reachBytes = 140737488351232:=rfl
 simp only at hx
 have hxs:(xs.size:Int) ≤ 140737488351232:=by omega
 clear hx rb
 show Calls _ _ #[.agg #[.int .i64 xt,.string xs,.bool xd]] _ _
 have hR0:Cel (w.alloc (.cells #[.int .i64 xt,.string xs,.bool xd] 43)) w.heap.size 43 [.int .i64 xt,.string xs,.bool xd]:=(blk1 w _).2
 have hB0:Below w.heap.size w (w.alloc (.cells #[.int .i64 xt,.string xs,.bool xd] 43)):=(Below.refl _ w).alloc (Nat.le_refl _) _
 have q0:=hR0.cell (i:=0) rfl
 have q1:=hR0.cell (i:=1) rfl
 have q2:=hR0.cell (i:=2) rfl
 have HB:=Lib.hid hB0
 clear hR0 hB0
 by_cases h1:xt < 1
 ·have E:=Lib.hid (show bad none ⟨xt,xs,xd⟩ = 1 from bad_1 (.inl h1))
  go_enter Tryz.func27,Tryz.ntmps27
  go_upto_region 1 with fail
  generalize w.alloc (.cells #[.int .i64 xt,.string xs,.bool xd] 43) = W0 at q0 q1 q2 HB ⊢
  go_wp2_with fail
  go_ret
  exact ⟨by rw [E.out];rfl,HB.out⟩
 by_cases h1':1125899906842624 < xt
 ·have E:=Lib.hid (show bad none ⟨xt,xs,xd⟩ = 1 from bad_1 (.inr h1'))
  go_enter Tryz.func27,Tryz.ntmps27
  go_upto_region 1 with fail
  generalize w.alloc (.cells #[.int .i64 xt,.string xs,.bool xd] 43) = W0 at q0 q1 q2 HB ⊢
  go_wp2_with fail
  go_ret
  exact ⟨by rw [E.out];rfl,HB.out⟩
 by_cases h2:2052 < xs.size
 ·have E:=Lib.hid (show bad none ⟨xt,xs,xd⟩ = 2 from bad_2 h1 h1' h2)
  have p2:(2052:Int) < (xs.size:Int):=by omega
  clear h2
  go_enter Tryz.func27,Tryz.ntmps27
  go_upto_region 1 with fail
  generalize w.alloc (.cells #[.int .i64 xt,.string xs,.bool xd] 43) = W0 at q0 q1 q2 HB ⊢
  go_wp2_with fail
  go_ret
  exact ⟨by rw [E.out];rfl,HB.out⟩
 have p2:¬ (2052:Int) < (xs.size:Int):=by omega
 cases xd with
 | false =>
  have E:=Lib.hid (bad_none_go (d:=false) ⟨h1,h1',h2,by simp⟩)
  clear h2
  go_enter Tryz.func27,Tryz.ntmps27
  go_upto_region 1 with fail
  generalize w.alloc (.cells #[.int .i64 xt,.string xs,.bool false] 43) = W0 at q0 q1 q2 HB ⊢
  go_wp2_with fail
  go_ret
  exact ⟨by rw [E.out];rfl,HB.out⟩
 | true =>
  by_cases he:xs = ⟨#[]⟩
  ·have E:=Lib.hid (bad_none_go (d:=true) ⟨h1,h1',h2,fun h=>h.2 he⟩)
   subst he
   have t0:=text_eq ⟨#[]⟩
   clear h2
   go_enter Tryz.func27,Tryz.ntmps27
   go_upto_region 1 with fail
   generalize w.alloc (.cells #[.int .i64 xt,.string ⟨#[]⟩,.bool true] 43) = W0 at q0 q1 q2 HB ⊢
   go_wp2_with fail
   go_ret
   exact ⟨by rw [E.out];rfl,HB.out⟩
  ·have E:=Lib.hid (show bad none ⟨xt,xs,true⟩ = 4 from bad_4 h1 h1' h2 ⟨rfl,he⟩)
   have t0:=text_ne he
   have hne:¬ xs.toList = []:=fun h=>he (by apply ByteArray.ext;exact Array.toList_inj.1 (by simpa [ByteArray.toList_eq] using h))
   have hne2:xs.toList.isEmpty = false:=by simpa using hne
   clear h2
   go_enter Tryz.func27,Tryz.ntmps27
   go_upto_region 1 with fail
   generalize w.alloc (.cells #[.int .i64 xt,.string xs,.bool true] 43) = W0 at q0 q1 q2 HB ⊢
   go_wp2_with fail
   go_ret
   exact ⟨by rw [E.out];rfl,HB.out⟩
theorem last_in (A:Option Addr) (c:Nat) (l:List Vr) (n:Nat) (w:World) (h:VrsAt w A l) (hln:l.length = n) (hn:n ≤ 4398046511104) :
  Calls Tryz.prog 28 #[.slice A n c] w fun e w'=>e = .returned (.int .i64 (lastT l)) ∧ w' = w:=by
 subst hln
 have hlen:(l.length:Int) ≤ 4398046511104:=by omega
 by_cases h0:0 < l.length
 ·obtain ⟨ad,rfl,hab,hcl⟩:=h (by omega)
  obtain ⟨x0,-,-⟩:=hcl (l.length - 1) (by omega)
  have hlt:=lastT_at h0
  rw [← hlt] at x0
  have hc1:(l.length:Int) - 1 = ((l.length - 1:Nat):Int):=by omega
  have hc2:((l.length - 1:Nat):Int) < (l.length:Int):=by omega
  have h0':¬ (l.length:Int) = 0:=by omega
  have hz:((l.length:Int) == 0) = false:=by simpa using h0'
  generalize l.length - 1 = k at x0 hc1 hc2
  generalize lastT l = lt at x0 ⊢
  clear hab hcl hlt h0 h hn
  go_enter Tryz.func28,Tryz.ntmps28
  go_wp2_with fail
  go_ret
  exact ⟨rfl,rfl⟩
 ·have h00:l = []:=List.eq_nil_of_length_eq_zero (by omega)
  subst h00
  clear h h0 hn hlen
  go_enter Tryz.func28,Tryz.ntmps28
  go_wp2_with fail
  go_ret
  exact ⟨rfl,rfl⟩
theorem bad_split (p:Option Int) (x:Vr):bad p x = if bad none x = 0 then (match p with | none=>0 | some q=>if x.ts ≤ q then 110 else 0) else bad none x:=by
 unfold bad
 by_cases h1:x.ts < 1 ∨ 1125899906842624 < x.ts
 ·simp [if_pos h1]
 by_cases h2:2052 < x.shard.size
 ·simp [if_neg h1,if_pos h2]
 by_cases h3:x.dead = true ∧ x.shard ≠ ⟨#[]⟩
 ·simp only [if_neg h1,if_neg h2,if_pos h3];rfl
 ·simp only [if_neg h1,if_neg h2,if_neg h3,if_true]
  cases p <;> rfl
theorem bad_none_pos {x:Vr} (h:bad none x = 0):1 ≤ x.ts:=(bad_ok.1 h).1.1
theorem lastT_take {l:List Vr} {j:Nat} (h:j ≤ l.length):(match prevT l j with | none=>(0:Int) | some q=>q) = lastT (l.take j):=by
 cases j with
 | zero=>rfl
 | succ k =>
  have hk:k < l.length:=by omega
  show (match (l[k]?).map (·.ts) with | none=>(0:Int) | some q=>q) = _
  rw [List.getElem?_eq_getElem hk]
  unfold lastT
  rw [List.getLast?_eq_getElem?,List.length_take,List.getElem?_take,Nat.min_eq_left (by omega),if_pos (by omega),Nat.add_sub_cancel,List.getElem?_eq_getElem hk]
  rfl
theorem bad_last {l:List Vr} {j:Nat} {x:Vr} (hj:j ≤ l.length) (h:bad none x = 0):bad (prevT l j) x = if x.ts ≤ lastT (l.take j) then 110 else 0:=by
 rw [bad_split,if_pos h,← lastT_take hj]
 have:=bad_none_pos h
 cases prevT l j with
 | none=>simp only;rw [if_neg (by omega)]
 | some q=>rfl
theorem lcheck_any (A:Option Addr) (c:Nat) (l:List Vr) (w:World) (h:VrsAt w A l) (hn:l.length * 32 ≤ 140737488351232) (hr:∀ x ∈ l,VrRng x) (hc:l.length ≤ c) :
  Calls Tryz.prog 26 #[.slice A l.length c] w fun e w'=>e = .returned (.tuple #[.int .i64 (chkP l).1,.int .i64 (chkP l).2]) ∧ Below w.heap.size w w':=by
 have HA:=Lib.hid h
 have HR:=Lib.hid hr
 have HSl:=Lib.hid (fun n (hn:n ≤ l.length)=>slice_to A l.length c n (Nat.le_trans hn hc))
 clear h hr hc
 have hlen:(l.length:Int) ≤ 4398046511104:=by omega
 by_cases hl:1024 < l.length
 ·have pl:(1024:Int) < (l.length:Int):=by omega
  have E:=Lib.hid (show chkP l = (-1,2) by unfold chkP;rw [if_pos hl])
  clear hl
  go_enter Tryz.func26,Tryz.ntmps26
  go_wp2_with fail
  go_ret2
  exact ⟨by rw [E.out];rfl,Below.refl _ _⟩
 ·have pl:¬ (1024:Int) < (l.length:Int):=by omega
  have E:=Lib.hid (show chkP l = chkL none l 0 by unfold chkP;rw [if_neg hl])
  clear hl
  go_enter Tryz.func26,Tryz.ntmps26
  go_wp2_with fail
  go_loopw [12] (fun iv wr=>∃ j:Nat,j ≤ l.length ∧ iv = .int .i64 (j:Int) ∧ Hid (chkL none l 0 = chkL (prevT l j) (l.drop j) j) ∧ Hid (Below w.heap.size w wr)) (fun iv _=>l.length - (intOf iv).toNat)
  case atStart=>exact ⟨0,by omega,rfl,Lib.hid rfl,Lib.hid (Below.refl _ _)⟩
  case round =>
   obtain ⟨j,hj,rfl,hs,hb⟩:=hrel
   by_cases hlt:j < l.length
   ·have pj:(j:Int) < (l.length:Int):=by omega
    obtain ⟨ad,rfl,hab,hcl⟩:=(HA.out.below hb.out) (by omega)
    obtain ⟨x0,x1,x2⟩:=hcl j hlt
    have ST:=Lib.hid (chk_step hlt)
    have HSj:=Lib.hid (HSl.out j hj)
    have hrg:=HR.out _ (List.getElem_mem hlt)
    rw [← add_field _ _ _ (by omega)] at x1 x2
    obtain ⟨X,hX⟩:∃ X,l[j] = X:=⟨_,rfl⟩
    have HXe:=Lib.hid hX
    rw [hX] at x0 x1 x2 hrg
    clear hX hab hcl
    obtain ⟨xt,xs,xd⟩:=X
    simp only at x0 x1 x2 hrg
    have HFa:=Lib.hid (fun W=>fault_any ⟨xt,xs,xd⟩ W hrg.shard)
    have hB0:Below wr.heap.size wr (wr.alloc (.cells #[.int .i64 xt,.string xs,.bool xd] 43)):=(Below.refl _ wr).alloc (Nat.le_refl _) _
    have hR0:Cel (wr.alloc (.cells #[.int .i64 xt,.string xs,.bool xd] 43)) wr.heap.size 43 [.int .i64 xt,.string xs,.bool xd]:=(blk1 wr _).2
    clear hrg
    go_upto_region 6 with fail
    have HB1:=Lib.hid (hb.out.trans (hB0.mono hb.out.size))
    have HR1:=Lib.hid hR0
    have q0:=hR0.cell (i:=0) rfl
    have q1:=hR0.cell (i:=1) rfl
    have q2:=hR0.cell (i:=2) rfl
    generalize hG:wr.heap.size = G at *
    generalize wr.alloc (.cells #[.int .i64 xt,.string xs,.bool xd] 43) = W1 at *
    clear hR0 hB0 x0 x1 x2 hb hG
    go_wp2_with fail
    refine (HFa.out _).mono ?_
    rintro e2 w2 ⟨rfl,hb⟩
    have HB2:=Lib.hid (HB1.out.trans (hb.mono HB1.out.size))
    have hR2:=HR1.out.below hb
    have q0:=hR2.cell (i:=0) rfl
    clear hR2 hb HFa HB1 HR1
    obtain ⟨f,hf⟩:∃ f,bad none ⟨xt,xs,xd⟩ = f:=⟨_,rfl⟩
    have Hf:=Lib.hid hf
    rw [hf]
    clear hf
    by_cases h0:f = 0
    ·subst h0
     have HLi:=Lib.hid (fun n=>last_in (some ad) c (l.take j) j (w2.drewN n) ((HA.out.below HB2.out).take j) (by rw [List.length_take];omega) (by omega))
     have hbad:=bad_last hj Hf.out
     generalize lastT (l.take j) = lt at HLi hbad
     simp only at hbad
     have sl:=HSj.out
     have HBd:=Lib.hid hbad
     clear hbad
     by_cases h4:xt ≤ lt
     ·have E2:=Lib.hid (show chkP l = ((j:Int),110) by
       have hbad:bad (prevT l j) ⟨xt,xs,xd⟩ = 110:=by rw [HBd.out,if_pos h4]
       rw [E.out,hs.out,ST.out,HXe.out,hbad];rfl)
      clear hs
      go_upto_region 9 with fail
      go_quiet ((go_at_call 28;exact Calls.quiet_of_same (HLi.out _)))
      rename_i nq
      have HB:=Lib.hid (HB2.out.trans ((below_drew w2.heap.size w2 nq).mono HB2.out.size))
      generalize w2.drewN nq = W9 at HB ⊢
      go_wp2_with fail
      go_ret2
      exact ⟨by rw [E2.out];rfl,HB.out⟩
     ·have HS2:=Lib.hid (show chkL none l 0 = chkL (prevT l (j + 1)) (l.drop (j + 1)) (j + 1) by
       have hbad:bad (prevT l j) ⟨xt,xs,xd⟩ = 0:=by rw [HBd.out,if_neg h4]
       rw [hs.out,ST.out,HXe.out,hbad];rfl)
      clear hs
      go_upto_region 9 with fail
      go_quiet ((go_at_call 28;exact Calls.quiet_of_same (HLi.out _)))
      rename_i nq
      have HB:=Lib.hid (HB2.out.trans ((below_drew w2.heap.size w2 nq).mono HB2.out.size))
      generalize w2.drewN nq = W9 at HB ⊢
      go_wp2_with fail
      go_roundw
      case rel=>exact ⟨j + 1,by omega,by go_num,HS2,HB⟩
      case measure=>simp [intOf];omega
    ·have E2:=Lib.hid (show chkP l = ((j:Int),f) by
      have hbad:bad (prevT l j) ⟨xt,xs,xd⟩ = f:=by rw [bad_split,Hf.out,if_neg h0]
      rw [E.out,hs.out,ST.out,HXe.out,hbad,if_neg h0])
     have hz:(f == 0) = false:=by simpa using h0
     clear hs
     go_wp2_with fail
     go_ret2
     exact ⟨by rw [E2.out];rfl,HB2.out⟩
   ·obtain rfl:j = l.length:=by omega
    have E2:=Lib.hid (show chkP l = (0,0) by rw [E.out,hs.out,List.drop_length];rfl)
    have HB:=hb
    clear hs hb
    go_wp2_with fail
    go_ret2
    exact ⟨by rw [E2.out];rfl,HB.out⟩
theorem above_in (A:Option Addr) (c:Nat) (l:List Vr) (t:Int) (p1 p2:Addr) (j:Nat) (w:World) (hA:VrsAt w A l) (h1:w.cell? p1 = some (.slice A l.length c)) (h2:w.cell? p2 = some (.int .i64 t)) (hj:j < l.length) (hn:l.length ≤ 1024) :
  Calls Tryz.prog 59 #[.int .i64 (j:Int),.pointer (some p1),.pointer (some p2)] w fun e w'=>e = .returned (.bool (decide (t < l[j].ts))) ∧ ∃ n,w' = w.drewN n:=by
 have hlen:(l.length:Int) ≤ 1024:=by omega
 have pj:(j:Int) < (l.length:Int):=by omega
 obtain ⟨ad,rfl,hab,hcl⟩:=hA (by omega)
 obtain ⟨x0,-,-⟩:=hcl j hj
 generalize l[j].ts = xt at x0 ⊢
 clear hab hcl hA hn hj
 go_enter Tryz.func59,Tryz.ntmps59
 go_upto_region 1 with fail
 go_quiet (fail)
 rename_i nq
 go_wp2_with fail
 go_ret
 exact ⟨rfl,_,rfl⟩
structure Mid (l:List Vr) (t:Int) (i j:Nat):Prop where
 le:i ≤ j
 ln:j ≤ l.length
 low:∀ k (h:k < l.length),k < i → l[k].ts ≤ t
 high:∀ k (h:k < l.length),j ≤ k → t < l[k].ts
theorem Mid.place {l:List Vr} {t:Int} {i:Nat} (h:Mid l t i i):placeN l t = i:=place_at h.ln h.low (fun hk=>h.high i hk (Nat.le_refl _))
theorem rise_at {l:List Vr} (h:l.Pairwise (fun x y=>x.ts < y.ts)) {i j:Nat} (hj:j < l.length) (hij:i ≤ j):(l[i]'(by omega)).ts ≤ l[j].ts:=by
 rcases Nat.eq_or_lt_of_le hij with e | e
 ·subst e;exact Int.le_refl _
 ·exact Int.le_of_lt (List.pairwise_iff_getElem.1 h i j (by omega) hj e)
theorem Mid.left {l:List Vr} {t:Int} {i j m:Nat} (h:Mid l t i j) (hr:l.Pairwise (fun x y=>x.ts < y.ts)) (hm:m < l.length) (hmj:m < j) (ht:¬ t < l[m].ts):Mid l t (m + 1) j :=
 ⟨by omega,h.ln,fun k hk hkm=>Int.le_trans (rise_at hr hm (by omega)) (by omega),h.high⟩
theorem Mid.right {l:List Vr} {t:Int} {i j m:Nat} (h:Mid l t i j) (hr:l.Pairwise (fun x y=>x.ts < y.ts)) (hm:m < l.length) (him:i ≤ m) (ht:t < l[m].ts):Mid l t i m :=
 ⟨him,by omega,h.low,fun k hk hkm=>Int.lt_of_lt_of_le ht (rise_at hr hk hkm)⟩
theorem search_any (A:Option Addr) (c:Nat) (l:List Vr) (t:Int) (p1 p2:Addr) (w:World) (hA:VrsAt w A l) (h1:w.cell? p1 = some (.slice A l.length c)) (h2:w.cell? p2 = some (.int .i64 t)) (hb1:p1.block < w.heap.size) (hb2:p2.block < w.heap.size) (hr:l.Pairwise (fun x y=>x.ts < y.ts)) (hn:l.length ≤ 1024) :
  Calls Tryz.prog 58 #[.int .i64 (l.length:Int),.func (.func 59) #[] #[.pointer (some p1),.pointer (some p2)]] w fun e w'=>e = .returned (.int .i64 (placeN l t:Int)) ∧ Below w.heap.size w w':=by
 have HC:=Lib.hid (fun j (hj:j < l.length) W (hb:Below w.heap.size w W)=>above_in A c l t p1 p2 j W (hA.below hb) ((cell_kept hb _ hb1).trans h1) ((cell_kept hb _ hb2).trans h2) hj hn)
 have HR:=Lib.hid hr
 have hlen:(l.length:Int) ≤ 1024:=by omega
 clear hA h1 h2 hb1 hb2 hr hn
 go_enter Tryz.func58,Tryz.ntmps58
 go_wp2_with fail
 go_loopw [5,6] (fun iv jv wr=>∃ i j:Nat,iv = .int .i64 (i:Int) ∧ jv = .int .i64 (j:Int) ∧ Hid (Mid l t i j) ∧ Hid (Below w.heap.size w wr)) (fun iv jv _=>(intOf jv).toNat - (intOf iv).toNat)
 case atStart=>exact ⟨0,l.length,rfl,rfl,Lib.hid ⟨by omega,by omega,fun k _ h=>absurd h (by omega),fun k hk h=>absurd hk (by omega)⟩,Lib.hid (Below.refl _ _)⟩
 case round =>
  obtain ⟨i,j,rfl,rfl,hm,hb⟩:=hrel
  have hij:=hm.out.le
  have hjl:=hm.out.ln
  have pj:(j:Int) ≤ 1024:=by omega
  by_cases hlt:i < j
  ·have pij:(i:Int) < (j:Int):=by omega
   obtain ⟨m,hmm⟩:∃ m:Nat,(i + j) / 2 = m:=⟨_,rfl⟩
   have him:i ≤ m:=by omega
   have hmj:m < j:=by omega
   have HCm:=Lib.hid (HC.out m (by omega))
   go_upto_region 4 with fail
   rw [show ((i:Int) + (j:Int)) / 2 = (m:Int) by omega]
   have hml:m < l.length:=by omega
   by_cases ht:t < l[m].ts
   ·have HM:=Lib.hid (hm.out.right HR.out hml him ht)
    have HCm2:Hid (∀ W,Below w.heap.size w W → Calls Tryz.prog 59 #[.int .i64 (m:Int),.pointer (some p1),.pointer (some p2)] W fun e w'=>e = .returned (.bool true) ∧ ∃ n,w' = W.drewN n):=Lib.hid (fun W hb=>by have:=HCm.out W hb;rwa [decide_eq_true ht] at this)
    have HB:=hb
    clear hm hb HCm HC ht hmm him hij hjl pij
    go_wp2_with fail
    refine (HCm2.out _ HB.out).mono ?_
    rintro e2 w2 ⟨rfl,nq,rfl⟩
    have HB2:=Lib.hid (HB.out.trans ((below_drew wr.heap.size wr nq).mono HB.out.size))
    generalize wr.drewN nq = W2 at HB2 ⊢
    clear HCm2
    go_wp2_with fail
    go_roundw
    case rel=>exact ⟨i,m,rfl,rfl,HM,HB2⟩
    case measure=>simp [intOf];have:=HM.out.le;omega
   ·have HM:=Lib.hid (hm.out.left HR.out hml hmj ht)
    have HCm2:Hid (∀ W,Below w.heap.size w W → Calls Tryz.prog 59 #[.int .i64 (m:Int),.pointer (some p1),.pointer (some p2)] W fun e w'=>e = .returned (.bool false) ∧ ∃ n,w' = W.drewN n):=Lib.hid (fun W hb=>by have:=HCm.out W hb;rwa [decide_eq_false ht] at this)
    have HB:=hb
    have pm:(m:Int) ≤ 1024:=by omega
    have HMi:=Lib.hid him
    have HLt:=Lib.hid hlt
    clear hm hb HCm HC ht hmm him hij hjl pij hlt
    go_wp2_with fail
    refine (HCm2.out _ HB.out).mono ?_
    rintro e2 w2 ⟨rfl,nq,rfl⟩
    have HB2:=Lib.hid (HB.out.trans ((below_drew wr.heap.size wr nq).mono HB.out.size))
    generalize wr.drewN nq = W2 at HB2 ⊢
    clear HCm2
    go_wp2_with fail
    go_roundw
    case rel=>exact ⟨m + 1,j,by go_num,rfl,HM,HB2⟩
    case measure=>simp [intOf];have:=HMi.out;have:=HLt.out;omega
  ·obtain rfl:i = j:=by omega
   have hp:=hm.out.place
   have HB:=hb
   clear hm hb
   go_wp2_with fail
   go_ret
   exact ⟨by rw [hp];rfl,HB.out⟩
theorem notAbove_any (A:Option Addr) (c:Nat) (l:List Vr) (t:Int) (w:World) (hA:VrsAt w A l) (hr:l.Pairwise (fun x y=>x.ts < y.ts)) (hn:l.length ≤ 1024) :
  Calls Tryz.prog 35 #[.slice A l.length c,.int .i64 t] w fun e w'=>e = .returned (.int .i64 (placeN l t:Int)) ∧ Below w.heap.size w w':=by
 obtain ⟨W1,hW1⟩:∃ W1,w.alloc (.cells #[.slice A l.length c] 35) = W1:=⟨_,rfl⟩
 obtain ⟨W2,hW2⟩:∃ W2,W1.alloc (.cells #[.int .i64 t] 3) = W2:=⟨_,rfl⟩
 have hs1:W1.heap.size = w.heap.size + 1:=by rw [← hW1];simp
 have hs2:W2.heap.size = w.heap.size + 2:=by rw [← hW2];simp [hs1]
 have hb1:Below w.heap.size w W1:=by rw [← hW1];exact (Below.refl _ w).alloc (Nat.le_refl _) _
 have hb2:Below W1.heap.size W1 W2:=by rw [← hW2];exact (Below.refl _ W1).alloc (Nat.le_refl _) _
 have hbw:Below w.heap.size w W2:=hb1.trans (hb2.mono hb1.size)
 have c1:W1.cell? ⟨w.heap.size,0,none⟩ = some (.slice A l.length c):=by rw [← hW1];exact blk_cell (blk1 w _).2 rfl
 have c2:W2.cell? ⟨W1.heap.size,0,none⟩ = some (.int .i64 t):=by rw [← hW2];exact blk_cell (blk1 W1 _).2 rfl
 have c1':W2.cell? ⟨w.heap.size,0,none⟩ = some (.slice A l.length c):=(cell_kept hb2 _ (by rw [hs1];exact Nat.lt_succ_self _)).trans c1
 rw [hs1] at c2
 have HS:=Lib.hid (search_any A c l t ⟨w.heap.size,0,none⟩ ⟨w.heap.size + 1,0,none⟩ W2 (hA.below hbw) c1' c2 (by show w.heap.size < _;omega) (by show w.heap.size + 1 < _;omega) hr hn)
 have HB:=Lib.hid hbw
 have hlen:(l.length:Int) ≤ 1024:=by omega
 clear hA hr hn hb1 hb2 hbw c1 c2 hs2
 go_enter Tryz.func35,Tryz.ntmps35
 go_upto_region 1 with fail
 clear hW1 hW2
 go_wp2_with fail
 refine HS.out.mono ?_
 rintro e2 w2 ⟨rfl,hb⟩
 have HB2:=Lib.hid (HB.out.trans (hb.mono HB.out.size))
 clear hb HS HB
 go_wp2_with fail
 go_ret
 exact ⟨rfl,HB2.out⟩
end Ch
end Go.Proofs.YtlfkhlfkckfbpaaGreat
