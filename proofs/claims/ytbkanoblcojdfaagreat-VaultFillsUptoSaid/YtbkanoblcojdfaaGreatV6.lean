/- Parts of the proof, joined: ShMath3, ShMath4, ScMath, SuMath, SuRef, SuRef2, RdMath, SuRef3, SuRef4, RdHead, ScRep; their conditions stand with each. -/
import Derived.Test.YtbkanoblcojdfaaGreatRows
import Derived.Test.YtbkanoblcojdfaaGreatV0
import Derived.Test.YtbkanoblcojdfaaGreatV2
import Derived.Test.YtbkanoblcojdfaaGreatV4
import Derived.Test.YtbkanoblcojdfaaGreatV5

set_option maxRecDepth 20000
set_option maxHeartbeats 8000000
namespace Go.Proofs.YtbkanoblcojdfaaGreat
namespace Sh
open Ch Rc Lt
noncomputable def goP:List Rec → Shf → Shf × Bool
 | [],s=>(s,true)
 | r :: t,s=>((goP t (applyP s r).1).1,decide ((applyP s r).2 = 0) && (goP t (applyP s r).1).2)
theorem goP_cons (r:Rec) (t:List Rec) (s:Shf):goP (r :: t) s = ((goP t (applyP s r).1).1,decide ((applyP s r).2 = 0) && (goP t (applyP s r).1).2):=rfl
theorem goP_app (a b:List Rec):∀ s,goP (a ++ b) s = ((goP b (goP a s).1).1,(goP a s).2 && (goP b (goP a s).1).2):=by
 induction a with
 | nil=>intro s;simp [goP]
 | cons r t ih =>
  intro s
  rw [List.cons_append,goP_cons,ih,goP_cons]
  simp [Bool.and_assoc]
theorem goP_one {s s':Shf} {r:Rec} (h:applyP s r = (s',0)):goP [r] s = (s',true):=by
 rw [goP_cons,h]
 rfl
theorem sweepR_ok {t:Int} (h:stampOk t):RecOk (sweepR t):=⟨⟨.inl rfl,h,by simp [sweepR],by simp [sweepR]⟩,(Rc.kind_4 rfl).2 ⟨⟨⟨rfl,rfl⟩,⟨rfl,rfl,rfl⟩,rfl⟩,rfl⟩⟩
theorem verR_ok {key:ByteArray} {v:Vr} (hk:keyOk key) (hv:vrOk v):RecOk (verR key v):=by
 obtain ⟨h1,h2,h3,h4⟩:=hv
 refine ⟨⟨.inl rfl,⟨by show 0 ≤ v.ts;omega,h2⟩,by simp [verR],by simp [verR]⟩,(Rc.kind_3 rfl).2 ⟨⟨rfl,rfl⟩,rfl,rfl,by show v.ts ≠ 0;omega,hk,h3,?_⟩⟩
 show v.dead = false ∨ v.shard = ⟨#[]⟩
 by_cases hd:v.dead = true
 ·exact .inr (Classical.not_not.1 fun hn=>h4 ⟨hd,hn⟩)
 ·exact .inl (by simpa using hd)
theorem doR_ok {x:Int × Int} (h1:txnOk x.1) (h2:stampOk x.2):RecOk (doR x):=⟨⟨.inr h1,h2,by simp [doR],by simp [doR]⟩,(Rc.kind_2 rfl).2 ⟨⟨⟨rfl,rfl⟩,⟨rfl,rfl,rfl⟩,rfl⟩,by show x.1 ≠ 0;unfold txnOk at h1;omega⟩⟩
theorem apply_sweep {s:Shf} {t:Int} (h:stampOk t):applyP s (sweepR t) = sweepS s t:=by
 unfold applyP
 rw [if_neg (fun hn=>hn (sweepR_ok h)),if_neg (by simp [sweepR]),if_neg (by simp [sweepR]),if_neg (by simp [sweepR]),if_pos (show (sweepR t).kind = 4 from rfl)]
 rfl
theorem apply_ver {s:Shf} {key:ByteArray} {v:Vr} (hk:keyOk key) (hv:vrOk v):applyP s (verR key v) = verP s key v:=by
 unfold applyP
 rw [if_neg (fun hn=>hn (verR_ok hk hv)),if_neg (by simp [verR]),if_neg (by simp [verR]),if_pos (show (verR key v).kind = 3 from rfl)]
 rfl
theorem apply_do {s:Shf} {x:Int × Int} (h1:txnOk x.1) (h2:stampOk x.2):applyP s (doR x) = doP s x.1 x.2:=by
 unfold applyP
 rw [if_neg (fun hn=>hn (doR_ok h1 h2)),if_neg (by simp [doR]),if_pos (show (doR x).kind = 2 from rfl)]
 rfl
theorem apply_prep {s:Shf} {r:Rec} (h:RecOk r) (hk:r.kind = 1):applyP s r = prepareP s r:=by
 unfold applyP
 rw [if_neg (fun hn=>hn h),if_pos hk]
theorem put_last {k:List Kc} {key:ByteArray} {l:List Vr} (h:∀ x ∈ k,ltK x.name key = true):putK k key l = k ++ [⟨key,l⟩]:=by
 induction k with
 | nil=>rfl
 | cons x r ih =>
  unfold putK
  rw [if_pos (h x (List.mem_cons_self ..)),ih (fun y hy=>h y (List.mem_cons_of_mem _ hy)),List.cons_append]
theorem put_over {k:List Kc} {key:ByteArray} {l l':List Vr} (h:∀ x ∈ k,ltK x.name key = true):putK (k ++ [⟨key,l'⟩]) key l = k ++ [⟨key,l⟩]:=by
 induction k with
 | nil=>rw [List.nil_append];unfold putK;rw [if_neg (by rw [lt_irrefl];simp),if_pos rfl];rfl
 | cons x r ih =>
  rw [List.cons_append]
  unfold putK
  rw [if_pos (h x (List.mem_cons_self ..)),ih (fun y hy=>h y (List.mem_cons_of_mem _ hy)),List.cons_append]
theorem find_below {k:List Kc} {key:ByteArray} (h:∀ x ∈ k,ltK x.name key = true):findK k key = none:=by
 unfold findK
 rw [List.find?_eq_none]
 intro x hx e
 exact lt_ne (h x hx) (by simpa using e)
theorem find_end {k:List Kc} {key:ByteArray} {l:List Vr} (h:∀ x ∈ k,ltK x.name key = true):findK (k ++ [⟨key,l⟩]) key = some ⟨key,l⟩:=by
 have h1:=find_below h
 unfold findK at h1 ⊢
 rw [List.find?_append,h1,List.find?_cons_of_pos (by simp)]
 rfl
theorem take_ok {l:List Vr} (h:ChOk l) (i:Nat):ChOk (l.take i):=ok_sub h (List.take_sublist i l)
theorem go_vers {s:Shf} {key:ByteArray} {l:List Vr} (hk:keyOk key) (hl:ChOk l) (hb:∀ x ∈ s.k,ltK x.name key = true) (hn:s.k.length < 1024):∀ i,1 ≤ i → i ≤ l.length → goP ((l.take i).map (verR key)) s = (⟨s.k ++ [⟨key,l.take i⟩],s.p,s.e,s.over⟩,true):=by
 intro i h1
 induction i with
 | zero=>omega
 | succ i ih =>
  intro h2
  have hi:i < l.length:=by omega
  have ht:l.take (i + 1) = l.take i ++ [l[i]]:=List.take_succ_eq_append_getElem hi
  have hok:ChOk (l.take i ++ [l[i]]):=by rw [← ht];exact take_ok hl _
  have hv:vrOk l[i]:=hl.each _ (List.getElem_mem hi)
  have hlen:(l.take i).length = i:=by rw [List.length_take];omega
  have hll:=hl.len
  have hadd:addP (l.take i) l[i] = (l.take i ++ [l[i]],0):=by
   refine (added (add_may (take_ok hl i) hv ?_ (by omega))).2
   rcases Nat.eq_zero_or_pos i with rfl | hp
   ·have:=hv.1
    show (0:Int) < _
    omega
   ·have hr:=(List.pairwise_append.1 hok.rise).2.2
    have hne:l.take i ≠ []:=fun e=>by rw [e] at hlen;simp at hlen;omega
    have e:lastT (l.take i) = ((l.take i).getLast hne).ts:=by unfold lastT;rw [List.getLast?_eq_some_getLast hne]
    rw [e]
    exact hr _ (List.getLast_mem hne) _ (List.mem_singleton.2 rfl)
  rw [ht,List.map_append]
  rcases Nat.eq_zero_or_pos i with rfl | hp
  ·rw [List.take_zero,List.map_nil,List.nil_append,List.nil_append,List.map_cons,List.map_nil]
   refine goP_one ?_
   rw [apply_ver hk hv]
   have hf:=find_below hb
   rw [List.take_zero,List.nil_append] at hadd
   unfold verP
   rw [show chainK s.k key = [] by unfold chainK;rw [hf],hadd,if_neg (by simp),if_neg (by omega)]
   unfold addK
   rw [show chainK s.k key = [] by unfold chainK;rw [hf],hadd,put_last hb]
  ·rw [goP_app,ih hp (by omega),List.map_cons,List.map_nil]
   have h3:applyP ⟨s.k ++ [⟨key,l.take i⟩],s.p,s.e,s.over⟩ (verR key l[i]) = (⟨s.k ++ [⟨key,l.take i ++ [l[i]]⟩],s.p,s.e,s.over⟩,0):=by
    rw [apply_ver hk hv]
    have hf:=find_end (l:=l.take i) hb
    have hc:chainK (s.k ++ [⟨key,l.take i⟩]) key = l.take i:=by unfold chainK;rw [hf]
    unfold verP
    simp only
    rw [hc,hadd,if_neg (by simp),if_neg (by unfold hasK;rw [hf];simp)]
    unfold addK
    rw [hc,hadd,put_over hb]
   rw [goP_one h3]
   rfl
theorem go_keys:∀ (k a:List Kc) (over:Int),KOk (a ++ k) → (a ++ k).length ≤ 1024 → goP (k.flatMap fun x=>x.l.map (verR x.name)) ⟨a,[],[],over⟩ = (⟨a ++ k,[],[],over⟩,true)
 | [],a,over,_,_=>by rw [List.flatMap_nil,List.append_nil];rfl
 | x :: r,a,over,h,hn=>by
  have hs:=List.pairwise_append.1 h.ks
  have hx:x ∈ a ++ x :: r:=List.mem_append_right _ (List.mem_cons_self ..)
  have hz:=h.kz x hx
  have hp:1 ≤ x.l.length:=Nat.pos_of_ne_zero fun e=>hz (List.eq_nil_of_length_eq_zero e)
  have hlen:a.length < 1024:=by rw [List.length_append,List.length_cons] at hn;omega
  have h1:=go_vers (s:=⟨a,[],[],over⟩) (h.kn x hx) (h.kc x hx) (fun y hy=>hs.2.2 y hy x (List.mem_cons_self ..)) hlen x.l.length hp (Nat.le_refl _)
  rw [List.take_length] at h1
  rw [List.flatMap_cons,goP_app,h1]
  have e:a ++ x :: r = (a ++ [x]) ++ r:=by simp
  have h2:=go_keys r (a ++ [x]) over (by rw [← e];exact h) (by rw [← e];exact hn)
  show ((goP _ ⟨a ++ [⟨x.name,x.l⟩],[],[],over⟩).1,_) = _
  rw [show (⟨x.name,x.l⟩:Kc) = x from rfl,h2,e]
  rfl
theorem go_ends:∀ (e a:List (Int × Int)) (k:List Kc) (over:Int),(a ++ e).length ≤ 1024 → (a ++ e).Pairwise (fun x y=>x.1 ≠ y.1) → (∀ x ∈ e,txnOk x.1 ∧ stampOk x.2) → goP (e.map doR) ⟨k,[],a,over⟩ = (⟨k,[],a ++ e,over⟩,true)
 | [],a,k,over,_,_,_=>by rw [List.map_nil,List.append_nil];rfl
 | x :: r,a,k,over,hl,hp,ho=>by
  obtain ⟨o1,o2⟩:=ho x (List.mem_cons_self ..)
  have hn:endOf a x.1 = none:=end_none.2 fun y hy=>(List.pairwise_append.1 hp).2.2 y hy x (List.mem_cons_self ..)
  have e:a ++ x :: r = (a ++ [x]) ++ r:=by simp
  have h1:applyP ⟨k,[],a,over⟩ (doR x) = (⟨k,[],a ++ [x],over⟩,0):=by
   rw [apply_do o1 o2]
   have hst:stateP ⟨k,[],a,over⟩ x.1 = (0,0):=by
    unfold stateP
    rw [show prepOf (⟨k,[],a,over⟩:Shf).p x.1 = none from rfl]
    show (match endOf a x.1 with | none=>((0:Int),(0:Int)) | some x=>if 0 < x.2 then (2,x.2) else (3,0)) = _
    rw [hn]
   unfold doP
   rw [hst,if_neg (by decide)]
   show (endP ⟨k,[],a,over⟩ x.1 x.2,(0:Int)) = _
   unfold endP capE outP
   rw [if_neg (by simp only [List.length_append,List.length_cons,List.length_nil] at hl ⊢;omega)]
   rfl
  rw [List.map_cons]
  have h2:=goP_app [doR x] (r.map doR) ⟨k,[],a,over⟩
  rw [goP_one h1,go_ends r (a ++ [x]) k over (by rw [← e];exact hl) (by rw [← e];exact hp) (fun y hy=>ho y (List.mem_cons_of_mem _ hy))] at h2
  rw [e]
  exact h2
theorem go_preps:∀ (p a:List Rec) (k:List Kc) (e:List (Int × Int)) (over:Int),(a ++ p).length ≤ 1024 → (a ++ p).Pairwise (fun x y=>x.txn < y.txn) → (∀ r ∈ p,RecOk r ∧ r.kind = 1) → (∀ r ∈ a ++ p,∀ q ∈ a ++ p,r.txn ≠ q.txn → ∀ x ∈ r.ws,heldR q x.key true = false) → (∀ x ∈ e,∀ r ∈ p,r.txn ≠ x.1) →
  goP p ⟨k,a,e,over⟩ = (⟨k,a ++ p,e,over⟩,true)
 | [],a,k,e,over,_,_,_,_,_=>by rw [List.append_nil];rfl
 | r :: t,a,k,e,over,hl,hp,ho,ha,he=>by
  obtain ⟨o1,o2⟩:=ho r (List.mem_cons_self ..)
  have hlt:∀ q ∈ a,q.txn < r.txn:=fun q hq=>(List.pairwise_append.1 hp).2.2 q hq r (List.mem_cons_self ..)
  have hr:r ∈ a ++ r :: t:=List.mem_append_right _ (List.mem_cons_self ..)
  have ee:a ++ r :: t = (a ++ [r]) ++ t:=by simp
  have h1:applyP ⟨k,a,e,over⟩ r = (⟨k,a ++ [r],e,over⟩,0):=by
   rw [apply_prep o1 o2]
   have hst:(stateP ⟨k,a,e,over⟩ r.txn).1 = 0:=state_zero.2 ⟨prep_none.2 fun q hq=>by have:=hlt q hq;omega,end_none.2 fun x hx=>fun h=>he x hx r (List.mem_cons_self ..) h.symm⟩
   have hk1:r.keys.any (fun y=>heldB ⟨k,a,e,over⟩ y false) = false:=by
    rw [List.any_eq_false]
    intro y hy h
    obtain ⟨q,hq,hh⟩:=List.any_eq_true.1 h
    unfold heldR at hh
    simp only [Bool.false_and,Bool.or_false,List.any_eq_true,decide_eq_true_eq] at hh
    obtain ⟨x,hx,rfl⟩:=hh
    have h5:=ha q (List.mem_append_left _ hq) r hr (by have:=hlt q hq;omega) x hx
    unfold heldR at h5
    rw [Bool.or_eq_false_iff,Bool.true_and,List.any_eq_false,List.any_eq_false] at h5
    exact h5.2 _ hy (by simp)
   have hk2:r.ws.any (fun x=>heldB ⟨k,a,e,over⟩ x.key true) = false:=by
    rw [List.any_eq_false]
    intro x hx h
    obtain ⟨q,hq,hh⟩:=List.any_eq_true.1 h
    have h5:=ha r hr q (List.mem_append_left _ hq) (by have:=hlt q hq;omega) x hx
    rw [h5] at hh;cases hh
   unfold prepareP
   rw [if_neg (by rw [hst];simp),if_neg (by rw [hk1];simp),if_neg (by rw [hk2];simp),if_neg (by rw [List.length_append,List.length_cons] at hl;show ¬ 1024 ≤ a.length;omega)]
   show ((⟨k,insP a r,e,over⟩:Shf),(0:Int)) = _
   rw [ins_last hlt]
  have h2:=goP_app [r] t ⟨k,a,e,over⟩
  rw [goP_one h1,go_preps t (a ++ [r]) k e over (by rw [← ee];exact hl) (by rw [← ee];exact hp) (fun q hq=>ho q (List.mem_cons_of_mem _ hq)) (by rw [← ee];exact ha) (fun x hx q hq=>he x hx q (List.mem_cons_of_mem _ hq))] at h2
  rw [ee]
  exact h2
theorem go_again {s:Shf} (h:ShOk s):goP (recordsP s) empty = (s,true):=by
 have h0:goP (if 0 < s.over then [sweepR s.over] else []) empty = (⟨[],[],[],s.over⟩,true):=by
  by_cases hp:0 < s.over
  ·rw [if_pos hp]
   refine goP_one ?_
   rw [apply_sweep h.ov]
   unfold sweepS
   rw [if_neg (by show ¬ s.over < 0;omega)]
   rfl
  ·rw [if_neg hp]
   have:s.over = 0:=by have:=h.ov;unfold stampOk at this;omega
   rw [this];rfl
 unfold recordsP
 rw [goP_app,goP_app,goP_app,h0]
 simp only
 rw [go_keys s.k [] s.over h.kok h.kl]
 simp only
 rw [List.nil_append,go_ends s.e [] s.k s.over h.el h.ed h.eo]
 simp only
 rw [List.nil_append,go_preps s.p [] s.k s.e s.over h.pl h.pr h.po h.pa h.ep]
 rfl
theorem prep_some {p:List Rec} {r:Rec} (h:r ∈ p):∃ q,prepOf p r.txn = some q:=by
 cases hq:prepOf p r.txn with
 | some q=>exact ⟨q,rfl⟩
 | none=>exact absurd rfl (prep_none.1 hq r h)
end Sh
end Go.Proofs.YtbkanoblcojdfaaGreat
namespace Go.Proofs.YtbkanoblcojdfaaGreat
namespace Sc
structure Dev where
 on:List ByteArray
 new:List ByteArray
 left:Nat
 down:Bool
def nil0:ByteArray:=⟨#[]⟩
def zero64:ByteArray:=⟨(List.replicate 64 (0:UInt8)).toArray⟩
theorem zero64_size:zero64.size = 64:=by decide
theorem nil0_size:nil0.size = 0:=rfl
structure DevOk (D:Dev):Prop where
 len:D.new.length = D.on.length
 pos:1 ≤ D.on.length
 max:D.on.length ≤ 2048
 on64:∀ s ∈ D.on,s.size = 64
 new64:∀ s ∈ D.new,s = nil0 ∨ s.size = 64
 lft:D.left ≤ 1048576
def new0 (n:Nat):Dev:=⟨List.replicate n zero64,List.replicate n nil0,0,false⟩
theorem new0_ok {n:Nat} (h1:1 ≤ n) (h2:n ≤ 2048):DevOk (new0 n) :=
 ⟨by simp [new0],by simpa [new0] using h1,by simpa [new0] using h2,fun s hs=>by rw [List.eq_of_mem_replicate hs];exact zero64_size,fun s hs=>.inl (List.eq_of_mem_replicate hs),by simp [new0]⟩
def rdV (D:Dev) (i:Int):ByteArray × Int :=
 if D.down = true then (nil0,90) else if i < 0 ∨ (D.on.length:Int) ≤ i then (nil0,1) else
 (if D.new.getD i.toNat nil0 = nil0 then D.on.getD i.toNat nil0 else D.new.getD i.toNat nil0,0)
def burn (D:Dev):Dev × Bool:=if D.left = 0 then (D,false) else (⟨D.on,D.new,D.left - 1,D.left == 1⟩,D.left == 1)
def wrD (D:Dev) (i:Int) (t:ByteArray):Dev × Int :=
 if (rdV D i).2 ≠ 0 then (D,(rdV D i).2) else if t.size ≠ 64 then (D,3) else
 if (burn D).2 = true then ((burn D).1,90) else (⟨D.on,D.new.set i.toNat t,(burn D).1.left,(burn D).1.down⟩,0)
def upd (l:List ByteArray) (j:Nat) (f:Nat → ByteArray):List ByteArray:=(List.range l.length).map fun i=>if i < j then f i else l.getD i nil0
theorem upd_len (l:List ByteArray) (j:Nat) (f:Nat → ByteArray):(upd l j f).length = l.length:=by simp [upd]
theorem upd_at {l:List ByteArray} {j:Nat} {f:Nat → ByteArray} {i:Nat} (h:i < (upd l j f).length) (h':i < l.length):(upd l j f)[i] = if i < j then f i else l[i]:=by
 have e:(upd l j f)[i]? = some (if i < j then f i else l[i]):=by
  unfold upd
  rw [List.getElem?_map,List.getElem?_range h',Option.map_some,List.getD_eq_getElem?_getD,List.getElem?_eq_getElem h'];rfl
 rw [List.getElem?_eq_getElem h] at e
 exact Option.some.inj e
theorem upd_mem {l:List ByteArray} {j:Nat} {f:Nat → ByteArray} {s:ByteArray} (h:s ∈ upd l j f):(∃ i,i < l.length ∧ i < j ∧ s = f i) ∨ s ∈ l:=by
 obtain ⟨i,hi,rfl⟩:=List.mem_iff_getElem.1 h
 have h3:i < l.length:=by rw [upd_len] at hi;exact hi
 rw [upd_at hi h3]
 by_cases e:i < j
 ·rw [if_pos e];exact .inl ⟨i,h3,e,rfl⟩
 ·rw [if_neg e];exact .inr (List.getElem_mem h3)
theorem upd_all (l:List ByteArray) (x:ByteArray):upd l l.length (fun _=>x) = List.replicate l.length x:=by
 apply List.ext_getElem (by rw [upd_len,List.length_replicate])
 intro i h1 h2
 have h3:i < l.length:=by rw [upd_len] at h1;exact h1
 rw [upd_at h1 h3,if_pos h3,List.getElem_replicate]
def flushF (D:Dev) (i:Nat):ByteArray:=if D.new.getD i nil0 = nil0 then D.on.getD i nil0 else D.new.getD i nil0
def flD (D:Dev):Dev × Int :=
 if D.down = true then (D,90) else if (burn D).2 = true then ((burn D).1,90) else
 (⟨upd D.on D.on.length (flushF D),upd D.new D.on.length (fun _=>nil0),(burn D).1.left,(burn D).1.down⟩,0)
def fuD (D:Dev) (n:Int):Dev × Int :=
 if D.down = true then (D,90) else if n < 0 ∨ 1048576 < n then (D,1) else (⟨D.on,D.new,n.toNat,D.down⟩,0)
def cnt (new:List ByteArray) (i:Nat):Nat:=((new.take i).filter fun s=>decide (s ≠ nil0)).length
def cutN (p:Int):Nat:=if p = 0 then 0 else if p = 1 then 64 else (p % 64).toNat
def torn (o n:ByteArray) (p:Int):ByteArray:=⟨(n.data.toList.take (cutN p) ++ o.data.toList.drop (cutN p)).toArray⟩
def tearF (D:Dev) (ps:List Int) (i:Nat):ByteArray :=
 if D.new.getD i nil0 = nil0 then D.on.getD i nil0 else torn (D.on.getD i nil0) (D.new.getD i nil0) (ps.getD (cnt D.new i) 0)
def crD (D:Dev) (ps:List Int):Dev:=⟨upd D.on D.on.length (tearF D ps),upd D.new D.on.length (fun _=>nil0),0,false⟩
theorem cnt_succ {l:List ByteArray} {i:Nat} (h:i < l.length):cnt l (i + 1) = cnt l i + if l[i] = nil0 then 0 else 1:=by
 unfold cnt
 rw [List.take_add_one,List.getElem?_eq_getElem h,List.filter_append,List.length_append]
 congr 1
 by_cases e:l[i] = nil0
 ·simp [e]
 ·simp [e]
theorem cnt_le (l:List ByteArray) (i:Nat):cnt l i ≤ i:=by
 unfold cnt
 refine Nat.le_trans (List.length_filter_le _ _) ?_
 rw [List.length_take];omega
theorem cut_le (p:Int):cutN p ≤ 64:=by
 unfold cutN
 split
 ·omega
 split
 ·omega
 omega
theorem torn_size {o n:ByteArray} (ho:o.size = 64) (hn:n.size = 64) (p:Int):(torn o n p).size = 64:=by
 have h:=cut_le p
 show (n.data.toList.take (cutN p) ++ o.data.toList.drop (cutN p)).toArray.size = 64
 have h1:n.data.toList.length = 64:=hn
 have h2:o.data.toList.length = 64:=ho
 rw [List.size_toArray,List.length_append,List.length_take,List.length_drop]
 omega
theorem getD_mem {l:List ByteArray} {i:Nat} (h:i < l.length):l.getD i nil0 ∈ l:=by
 rw [List.getD_eq_getElem?_getD,List.getElem?_eq_getElem h]
 exact List.getElem_mem h
theorem getD_at {l:List ByteArray} {i:Nat} (h:i < l.length):l.getD i nil0 = l[i]:=by
 rw [List.getD_eq_getElem?_getD,List.getElem?_eq_getElem h];rfl
theorem burn_parts (D:Dev):(burn D).1.on = D.on ∧ (burn D).1.new = D.new ∧ (burn D).1.left ≤ D.left:=by
 unfold burn
 split
 ·exact ⟨rfl,rfl,Nat.le_refl _⟩
 ·exact ⟨rfl,rfl,Nat.sub_le _ _⟩
theorem burn_ok {D:Dev} (h:DevOk D):DevOk (burn D).1:=by
 obtain ⟨b1,b2,b3⟩:=burn_parts D
 exact ⟨by rw [b1,b2];exact h.len,by rw [b1];exact h.pos,by rw [b1];exact h.max,by rw [b1];exact h.on64,by rw [b2];exact h.new64,Nat.le_trans b3 h.lft⟩
theorem wrD_ok {D:Dev} (h:DevOk D) (i:Int) (t:ByteArray):DevOk (wrD D i t).1:=by
 unfold wrD
 split
 ·exact h
 split
 ·exact h
 next ht =>
 split
 ·exact burn_ok h
 ·refine ⟨by rw [List.length_set];exact h.len,h.pos,h.max,h.on64,fun s hs=>?_,Nat.le_trans (burn_parts D).2.2 h.lft⟩
  rcases List.mem_or_eq_of_mem_set hs with hs | rfl
  ·exact h.new64 s hs
  ·exact .inr (by simpa using ht)
theorem flush64 {D:Dev} (h:DevOk D) {i:Nat} (hi:i < D.on.length):(flushF D i).size = 64:=by
 unfold flushF
 have hi2:i < D.new.length:=by rw [h.len];exact hi
 split
 ·exact h.on64 _ (getD_mem hi)
 next hn=>exact (h.new64 _ (getD_mem hi2)).resolve_left hn
theorem tear64 {D:Dev} (h:DevOk D) (ps:List Int) {i:Nat} (hi:i < D.on.length):(tearF D ps i).size = 64:=by
 unfold tearF
 have hi2:i < D.new.length:=by rw [h.len];exact hi
 split
 ·exact h.on64 _ (getD_mem hi)
 next hn=>exact torn_size (h.on64 _ (getD_mem hi)) ((h.new64 _ (getD_mem hi2)).resolve_left hn) _
theorem cleared {D:Dev} (h:DevOk D):∀ s ∈ upd D.new D.on.length (fun _=>nil0),s = nil0 ∨ s.size = 64:=fun s hs=>by
 rcases upd_mem hs with ⟨_,_,_,rfl⟩ | hs
 ·exact .inl rfl
 ·exact h.new64 s hs
theorem made {D:Dev} (h:DevOk D) {f:Nat → ByteArray} (hf:∀ i,i < D.on.length → (f i).size = 64):∀ s ∈ upd D.on D.on.length f,s.size = 64:=fun s hs=>by
 rcases upd_mem hs with ⟨i,hi,_,rfl⟩ | hs
 ·exact hf i hi
 ·exact h.on64 s hs
theorem flD_ok {D:Dev} (h:DevOk D):DevOk (flD D).1:=by
 unfold flD
 split
 ·exact h
 split
 ·exact burn_ok h
 ·exact ⟨by rw [upd_len,upd_len];exact h.len,by rw [upd_len];exact h.pos,by rw [upd_len];exact h.max,made h (fun i hi=>flush64 h hi),cleared h,Nat.le_trans (burn_parts D).2.2 h.lft⟩
theorem fuD_ok {D:Dev} (h:DevOk D) (n:Int):DevOk (fuD D n).1:=by
 unfold fuD
 split
 ·exact h
 split
 ·exact h
 next hn=>exact ⟨h.len,h.pos,h.max,h.on64,h.new64,by show n.toNat ≤ 1048576;omega⟩
theorem crD_ok {D:Dev} (h:DevOk D) (ps:List Int):DevOk (crD D ps) :=
 ⟨by show (upd _ _ _).length = (upd _ _ _).length;rw [upd_len,upd_len];exact h.len,by show _ ≤ (upd _ _ _).length;rw [upd_len];exact h.pos,by show (upd _ _ _).length ≤ _;rw [upd_len];exact h.max,made h (fun i hi=>tear64 h ps hi),cleared h,Nat.zero_le _⟩
end Sc
end Go.Proofs.YtbkanoblcojdfaaGreat
namespace Go.Proofs.YtbkanoblcojdfaaGreat
namespace Su
def T (y:Nat):Nat:=if y % 2 = 1 then (y / 2) ^^^ 3988292384 else y / 2
def Tn:Nat → Nat → Nat
 | 0,y=>y
 | n + 1,y=>Tn n (T y)
theorem T_double (y:Nat):T (2 * y) = y:=by
 unfold T
 rw [if_neg (by omega)]
 omega
theorem T_lt {y:Nat} (h:y < 4294967296):T y < 4294967296:=by
 unfold T
 split
 ·exact Nat.xor_lt_two_pow (n:=32) (by omega) (by omega)
 ·omega
theorem Tn_add:∀ (a b y:Nat),Tn (a + b) y = Tn b (Tn a y)
 | 0,b,y=>by rw [Nat.zero_add];rfl
 | a + 1,b,y=>by
  rw [show a + 1 + b = (a + b) + 1 by omega]
  exact Tn_add a b (T y)
theorem Tn_lt:∀ (n:Nat) {y:Nat},y < 4294967296 → Tn n y < 4294967296
 | 0,_,h=>h
 | n + 1,_,h=>Tn_lt n (T_lt h)
theorem Tn_shift:∀ (n y:Nat),Tn n (y * 2 ^ n) = y
 | 0,y=>by rw [Nat.pow_zero,Nat.mul_one];rfl
 | n + 1,y=>by
  show Tn n (T (y * 2 ^ (n + 1))) = y
  rw [show y * 2 ^ (n + 1) = 2 * (y * 2 ^ n) by rw [Nat.pow_succ,Nat.mul_comm (2 ^ n) 2,← Nat.mul_assoc,← Nat.mul_assoc,Nat.mul_comm y 2],T_double,Tn_shift n]
def byteStep (x:Nat) (b:UInt8):Nat:=Tn 8 (x ^^^ b.toNat)
def reg (x:Nat) (L:List UInt8):Nat:=L.foldl byteStep x
def crc (L:List UInt8):Nat:=reg 4294967295 L ^^^ 4294967295
def num:List UInt8 → Nat
 | []=>0
 | b :: r=>b.toNat + 256 * num r
theorem reg_append (x:Nat) (A B:List UInt8):reg x (A ++ B) = reg (reg x A) B:=List.foldl_append ..
theorem reg_lt {x:Nat} (hx:x < 4294967296) (L:List UInt8):reg x L < 4294967296:=by
 induction L generalizing x with
 | nil=>exact hx
 | cons b r ih =>
  refine ih (Tn_lt 8 (Nat.xor_lt_two_pow (n:=32) hx ?_))
  have:=b.toNat_lt
  omega
theorem crc_lt (L:List UInt8):crc L < 4294967296:=Nat.xor_lt_two_pow (n:=32) (reg_lt (by omega) L) (by omega)
def le:Nat → Nat → List UInt8
 | 0,_=>[]
 | k + 1,n=>UInt8.ofNat (n % 256) :: le k (n / 256)
theorem le_length:∀ (k n:Nat),(le k n).length = k
 | 0,_=>rfl
 | k + 1,n=>by unfold le;rw [List.length_cons,le_length k]
theorem num_le:∀ (k n:Nat),n < 256 ^ k → num (le k n) = n
 | 0,n,h=>by simp at h;subst h;rfl
 | k + 1,n,h=>by
  unfold le num
  rw [num_le k (n / 256) (by rw [Nat.pow_succ] at h;exact Nat.div_lt_of_lt_mul (by rw [Nat.mul_comm];exact h)),UInt8.toNat_ofNat_of_lt' (by show n % 256 < 256;omega)]
  omega
theorem num_append:∀ (A B:List UInt8),num (A ++ B) = num A + 256 ^ A.length * num B
 | [],B=>by simp [num]
 | a :: A,B=>by
  show a.toNat + 256 * num (A ++ B) = a.toNat + 256 * num A + _
  rw [num_append A B,List.length_cons,Nat.pow_succ,Nat.mul_add,Nat.add_assoc,← Nat.mul_assoc,Nat.mul_comm 256 (256 ^ A.length)]
theorem num_lt:∀ (A:List UInt8),num A < 256 ^ A.length
 | []=>by simp [num]
 | a :: A=>by
  have h:=num_lt A
  have:=a.toNat_lt
  unfold num
  rw [List.length_cons,Nat.pow_succ]
  omega
theorem pow256 (n:Nat):256 ^ n = 2 ^ (8 * n):=by rw [Nat.pow_mul]
end Su
end Go.Proofs.YtbkanoblcojdfaaGreat
namespace Go.Proofs.YtbkanoblcojdfaaGreat
namespace Su
open Go.RowKit Bk
theorem T_even {x:Nat} (h:¬ x % 2 = 1):((x:Int) / 2) = ((T x:Nat):Int):=by
 unfold T
 rw [if_neg h,Int.natCast_ediv]
 rfl
theorem Tn_succ' (n y:Nat):Tn (n + 1) y = T (Tn n y):=by rw [Tn_add];rfl
def catL (l:List ByteArray):List UInt8:=l.flatMap fun s=>s.data.toList
theorem catL_take (l:List ByteArray) (j:Nat) (h:j < l.length):catL (l.take (j + 1)) = catL (l.take j) ++ l[j].data.toList:=by
 unfold catL
 rw [List.take_add_one,List.getElem?_eq_getElem h,List.flatMap_append]
 simp
theorem catL_le (l:List ByteArray) (j:Nat):(catL (l.take j)).length ≤ (catL l).length:=by
 have e:catL l = catL (l.take j) ++ catL (l.drop j):=by unfold catL;rw [← List.flatMap_append,List.take_append_drop]
 rw [e,List.length_append]
 omega
theorem cat_size (L:List UInt8):(⟨L.toArray⟩:ByteArray).size = L.length:=by
 show L.toArray.size = _
 simp
end Su
end Go.Proofs.YtbkanoblcojdfaaGreat
namespace Go.Proofs.YtbkanoblcojdfaaGreat
namespace Su
open Go.RowKit Bk
attribute [local go_sem ↓] Go.wp_at_zero Go.wp_at_succ
attribute [local go_sem] floatUpon pick
theorem extract_list (s:ByteArray) (a b:Nat):s.extract a b = ⟨((s.data.toList.drop a).take (b - a)).toArray⟩:=by
 apply ByteArray.ext
 apply Array.toList_inj.1
 simp [ByteArray.data_extract,Array.toList_extract,List.extract_eq_take_drop]
theorem str_from (s:ByteArray) (a:Nat) (h:a ≤ s.size) (i:Int) (hi:i = (a:Int)) (W:World) :
  (Instr.slice 9 (.string s) (some (.int .i64 i)) none none).run Tryz.prog W = .ok (.string ⟨(s.data.toList.drop a).toArray⟩) W:=by
 subst hi
 rw [run_slice_string_l W 9 s Tryz.underlying9 .i64 _ (by omega) (by omega),extract_list,Int.toNat_natCast,List.take_of_length_le (by rw [List.length_drop,Array.length_toList];exact Nat.le_refl _)]
theorem str_to (s:ByteArray) (b:Nat) (h:b ≤ s.size) (j:Int) (hj:j = (b:Int)) (W:World) :
  (Instr.slice 9 (.string s) none (some (.int .i64 j)) none).run Tryz.prog W = .ok (.string ⟨(s.data.toList.take b).toArray⟩) W:=by
 subst hj
 rw [run_slice_string_h W 9 s Tryz.underlying9 .i64 _ (by omega) (by omega),extract_list,Int.toNat_natCast,List.drop_zero,Nat.sub_zero]
theorem str_mid (s:ByteArray) (a b:Nat) (h1:a ≤ b) (h:b ≤ s.size) (i j:Int) (hi:i = (a:Int)) (hj:j = (b:Int)) (W:World) :
  (Instr.slice 9 (.string s) (some (.int .i64 i)) (some (.int .i64 j)) none).run Tryz.prog W = .ok (.string ⟨((s.data.toList.drop a).take (b - a)).toArray⟩) W:=by
 subst hi hj
 rw [run_slice_string W 9 s .i64 .i64 _ _ Tryz.underlying9 (by omega) (by omega) (by omega),extract_list,Int.toNat_natCast,Int.toNat_natCast]
def frameL (t:List UInt8):List UInt8:=(le 2 t.length ++ t) ++ le 4 (crc (le 2 t.length ++ t))
def frameB (s:ByteArray):ByteArray:=⟨(frameL s.data.toList).toArray⟩
theorem frameL_len (t:List UInt8):(frameL t).length = t.length + 6:=by
 unfold frameL
 rw [List.length_append,List.length_append,le_length,le_length]
 omega
theorem frameB_size (s:ByteArray):(frameB s).size = s.size + 6:=by
 unfold frameB
 rw [cat_size,frameL_len,Array.length_toList];rfl
theorem list_size (s:ByteArray):s.data.toList.length = s.size:=Array.length_toList
def frameV (s:ByteArray):Value:=if 4096 < s.size then .tuple #[.string ⟨#[]⟩,.int .i64 2] else .tuple #[.string (frameB s),.int .i64 0]
end Su
end Go.Proofs.YtbkanoblcojdfaaGreat
namespace Go.Proofs.YtbkanoblcojdfaaGreat
namespace Rd
open Sc Bk
def be (n k:Nat):List UInt8:=(List.range k).map fun i=>UInt8.ofNat (n / 256 ^ (7 - i) % 256)
def be8 (n:Nat):List UInt8:=be n 8
theorem be_succ (n k:Nat):be n (k + 1) = be n k ++ [UInt8.ofNat (n / 256 ^ (7 - k) % 256)]:=by
 unfold be;rw [List.range_succ,List.map_append];rfl
theorem be_len (n k:Nat):(be n k).length = k:=by simp [be]
theorem be8_len (n:Nat):(be8 n).length = 8:=be_len n 8
def numB (L:List UInt8):Nat:=L.foldl (fun x b=>x * 256 + b.toNat) 0
theorem numB_snoc (L:List UInt8) (b:UInt8):numB (L ++ [b]) = numB L * 256 + b.toNat:=by simp [numB]
theorem numB_lt:∀ (k:Nat) (L:List UInt8),L.length = k → numB L < 256 ^ k
 | 0,L,h=>by rw [List.length_eq_zero_iff.1 h];decide
 | k + 1,L,h=>by
  obtain ⟨M,b,rfl⟩:∃ M b,L = M ++ [b]:=⟨L.dropLast,L.getLast (by intro e;rw [e] at h;cases h),(List.dropLast_concat_getLast _).symm⟩
  rw [List.length_append,List.length_singleton] at h
  have:=numB_lt k M (by omega)
  have hb:=b.toNat_lt
  rw [numB_snoc,Nat.pow_succ]
  omega
theorem num_be (n:Nat) (h:n < 256 ^ 8):∀ k,k ≤ 8 → numB (be n k) = n / 256 ^ (8 - k)
 | 0,_=>by rw [Nat.div_eq_of_lt h];rfl
 | k + 1,hk=>by
  rw [be_succ,numB_snoc,num_be n h k (by omega),show 8 - k = (7 - k) + 1 by omega,show 8 - (k + 1) = 7 - k by omega,Nat.pow_succ,← Nat.div_div_eq_div_mul,UInt8.toNat_ofNat_of_lt' (by show _ < 256;omega)]
  omega
theorem num_be8 {n:Nat} (h:n < 256 ^ 8):numB (be8 n) = n:=by
 have:=num_be n h 8 (Nat.le_refl _)
 show numB (be n 8) = n
 simpa using this
def headP (c a l:Nat):List UInt8:=(([82,69,68,79] ++ be8 c) ++ [UInt8.ofNat (a % 256)]) ++ be8 l
def headL (c a l:Nat):List UInt8:=((headP c a l ++ headP c a l) ++ headP c a l) ++ [0]
def headB (c a l:Nat):ByteArray:=⟨(headL c a l).toArray⟩
theorem headP_len (c a l:Nat):(headP c a l).length = 21:=by
 unfold headP
 rw [List.length_append,List.length_append,List.length_append,be8_len,be8_len];rfl
theorem headL_len (c a l:Nat):(headL c a l).length = 64:=by
 unfold headL
 rw [List.length_append,List.length_append,List.length_append,headP_len];rfl
theorem headB_size (c a l:Nat):(headB c a l).size = 64:=by
 show (headL c a l).toArray.size = 64
 rw [List.size_toArray,headL_len]
def cOf (s:List UInt8):Nat:=numB ((s.drop 4).take 8)
def aOf (s:List UInt8):Nat:=(s.getD 12 0).toNat
def lOf (s:List UInt8):Nat:=numB ((s.drop 13).take 8)
def okH (ab:Nat) (s:List UInt8):Prop:=1 ≤ cOf s ∧ cOf s ≤ 4611686018427387904 ∧ aOf s ≤ 1 ∧ lOf s ≤ ab ∧ s = headL (cOf s) (aOf s) (lOf s)
instance (ab:Nat) (s:List UInt8):Decidable (okH ab s):=by unfold okH;exact inferInstance
theorem c_head {c:Nat} (a l:Nat) (h:c < 256 ^ 8):cOf (headL c a l) = c:=by
 have e:((headL c a l).drop 4).take 8 = be8 c:=by
  have h8:=be8_len c
  unfold headL headP
  simp only [List.cons_append,List.nil_append,List.append_assoc,List.drop_succ_cons,List.drop_zero]
  rw [List.take_append_of_le_length (by omega),List.take_of_length_le (by omega)]
 unfold cOf
 rw [e,num_be8 h]
theorem a_head {c a l:Nat} (h:a < 256):aOf (headL c a l) = a:=by
 have e:(headL c a l).getD 12 0 = UInt8.ofNat (a % 256):=by
  have h8:=be8_len c
  unfold headL headP
  simp only [List.cons_append,List.nil_append,List.append_assoc]
  rw [List.getD_eq_getElem?_getD]
  simp only [List.getElem?_cons_succ]
  rw [List.getElem?_append_right (by omega),h8]
  simp
 unfold aOf
 rw [e,UInt8.toNat_ofNat_of_lt' (by show _ < 256;omega)]
 omega
theorem l_head {l:Nat} (c a:Nat) (h:l < 256 ^ 8):lOf (headL c a l) = l:=by
 have e:((headL c a l).drop 13).take 8 = be8 l:=by
  have h8:=be8_len c
  have h9:=be8_len l
  unfold headL headP
  simp only [List.append_assoc]
  rw [← List.append_assoc ([82,69,68,79]:List UInt8),← List.append_assoc ([82,69,68,79] ++ be8 c:List UInt8)]
  rw [List.drop_append_of_le_length (by simp [h8]),List.drop_of_length_le (by simp [h8]),List.nil_append,List.take_append_of_le_length (by omega),List.take_of_length_le (by omega)]
 unfold lOf
 rw [e,num_be8 h]
theorem ok_head {ab c a l:Nat} (h1:1 ≤ c) (h2:c ≤ 4611686018427387904) (h3:a ≤ 1) (h4:l ≤ ab) (h5:ab < 256 ^ 8):okH ab (headL c a l):=by
 have e1:=c_head (c:=c) a l (by omega)
 have e2:=a_head (c:=c) (a:=a) (l:=l) (by omega)
 have e3:=l_head (l:=l) c a (by omega)
 unfold okH
 rw [e1,e2,e3]
 exact ⟨h1,h2,h3,h4,rfl⟩
end Rd
end Go.Proofs.YtbkanoblcojdfaaGreat
namespace Go.Proofs.YtbkanoblcojdfaaGreat
namespace Su
open Go.RowKit Bk
attribute [local go_sem ↓] Go.wp_at_zero Go.wp_at_succ
attribute [local go_sem] floatUpon pick
def restR (r:List UInt8):Except Nat (List UInt8) :=
 if r.length < 2 then .error 50
 else if 4096 < num (r.take 2) then .error 2
 else if r.length < num (r.take 2) + 6 then .error 50
 else if r.take (num (r.take 2) + 6) = frameL ((r.drop 2).take (num (r.take 2))) then .ok ((r.drop 2).take (num (r.take 2)))
 else .error 51
def errV (e:Nat):Value:=.tuple #[.string ⟨#[]⟩,.int .i64 0,.int .i64 (e:Int)]
def outV (a:Nat):Except Nat (List UInt8) → Value
 | .error e=>errV e
 | .ok t=>.tuple #[.string ⟨t.toArray⟩,.int .i64 ((a + t.length + 6:Nat):Int),.int .i64 0]
def nextV (s:ByteArray) (i:Int):Value:=if i < 0 ∨ (s.size:Int) < i then errV 1 else outV i.toNat (restR (s.data.toList.drop i.toNat))
theorem nextV_bad {s:ByteArray} {i:Int} (h:i < 0 ∨ (s.size:Int) < i):nextV s i = errV 1:=if_pos h
theorem nextV_at {s:ByteArray} {a:Nat} (h:a ≤ s.size):nextV s (a:Int) = outV a (restR (s.data.toList.drop a)):=by
 unfold nextV
 rw [if_neg (by omega),Int.toNat_natCast]
theorem restR_ok {r t:List UInt8} (h:restR r = .ok t):t.length ≤ 4096 ∧ t.length + 6 ≤ r.length ∧ r.take (t.length + 6) = frameL t:=by
 unfold restR at h
 split at h
 ·cases h
 ·split at h
  ·cases h
  ·split at h
   ·cases h
   ·split at h
    ·next h1 h2 h3 h4 =>
     have e:=Except.ok.inj h
     have hl:t.length = num (r.take 2):=by rw [← e,List.length_take,List.length_drop];omega
     rw [e] at h4
     rw [hl]
     exact ⟨by omega,by omega,h4⟩
    ·cases h
theorem restR_err {r:List UInt8} {e:Nat} (h:restR r = .error e):e = 50 ∨ e = 2 ∨ e = 51:=by
 unfold restR at h
 split at h
 ·cases h;omega
 ·split at h
  ·cases h;omega
  ·split at h
   ·cases h;omega
   ·split at h
    ·cases h
    ·cases h;omega
def walkR:Nat → List UInt8 → Nat → List ByteArray × Nat × Nat
 | 0,_,a=>([],a,0)
 | f + 1,r,a=>match r,restR r with
  | [],_=>([],a,0)
  | _ :: _,.error e=>([],a,e)
  | _ :: _,.ok t=>(⟨t.toArray⟩ :: (walkR f (r.drop (t.length + 6)) (a + t.length + 6)).1,(walkR f (r.drop (t.length + 6)) (a + t.length + 6)).2)
theorem walkR_nil (f a:Nat):walkR f [] a = ([],a,0):=by cases f <;> rfl
theorem walkR_err {f a e:Nat} {r:List UInt8} (hr:r ≠ []) (h:restR r = .error e):walkR (f + 1) r a = ([],a,e):=by
 cases r with
 | nil=>exact absurd rfl hr
 | cons b r=>simp only [walkR,h]
theorem walkR_ok {f a:Nat} {r t:List UInt8} (hr:r ≠ []) (h:restR r = .ok t):walkR (f + 1) r a = (⟨t.toArray⟩ :: (walkR f (r.drop (t.length + 6)) (a + t.length + 6)).1,(walkR f (r.drop (t.length + 6)) (a + t.length + 6)).2):=by
 cases r with
 | nil=>exact absurd rfl hr
 | cons b r=>simp only [walkR,h]
def allR (s:ByteArray):List ByteArray × Nat × Nat:=walkR s.size s.data.toList 0
def Upto (s:ByteArray) (O:List ByteArray) (a:Nat):Prop :=
 ∃ f,s.size - a ≤ f ∧ allR s = (O ++ (walkR f (s.data.toList.drop a) a).1,(walkR f (s.data.toList.drop a) a).2)
theorem Upto.start (s:ByteArray):Upto s [] 0:=⟨s.size,by omega,rfl⟩
theorem Upto.done {s:ByteArray} {O:List ByteArray} {a:Nat} (h:Upto s O a) (ha:s.size ≤ a):allR s = (O,a,0):=by
 obtain ⟨f,_,h⟩:=h
 rw [List.drop_eq_nil_of_le (by rw [list_size];exact ha),walkR_nil] at h
 simpa using h
theorem drop_ne {s:ByteArray} {a:Nat} (ha:a < s.size):s.data.toList.drop a ≠ []:=by
 intro h
 have:=List.drop_eq_nil_iff.1 h
 rw [list_size] at this
 omega
theorem Upto.err {s:ByteArray} {O:List ByteArray} {a e:Nat} (h:Upto s O a) (ha:a < s.size) (he:restR (s.data.toList.drop a) = .error e):allR s = (O,a,e):=by
 obtain ⟨f,hf,h⟩:=h
 obtain ⟨f,rfl⟩:∃ k,f = k + 1:=⟨f - 1,by omega⟩
 rw [walkR_err (drop_ne ha) he] at h
 simpa using h
theorem Upto.more {s:ByteArray} {O:List ByteArray} {a:Nat} {t:List UInt8} (h:Upto s O a) (ha:a < s.size) (he:restR (s.data.toList.drop a) = .ok t):Upto s (O ++ [⟨t.toArray⟩]) (a + t.length + 6):=by
 obtain ⟨f,hf,h⟩:=h
 obtain ⟨f,rfl⟩:∃ k,f = k + 1:=⟨f - 1,by omega⟩
 rw [walkR_ok (drop_ne ha) he,List.drop_drop] at h
 refine ⟨f,by omega,?_⟩
 rw [h,show a + (t.length + 6) = a + t.length + 6 by omega]
 simp
theorem strV_snoc (O:List ByteArray) (t:ByteArray):strV (O ++ [t]) = strV O ++ [.string t]:=by simp [strV]
end Su
end Go.Proofs.YtbkanoblcojdfaaGreat
namespace Go.Proofs.YtbkanoblcojdfaaGreat
namespace Rd
open Go.RowKit Sc Bk
attribute [local go_sem ↓] Go.wp_at_zero Go.wp_at_succ
attribute [local go_sem] floatUpon pick
theorem back_one {w:World} {g:Nat} {b:UInt8} (h:w.heap[g]? = some (.cells #[.int .u8 (b.toNat:Int)] 5 (0,0))) :
  (convert 142 9 (.slice (some ⟨g,0,none⟩) 1 1)).run Tryz.prog w = .ok (.string ⟨[b].toArray⟩) w:=by
 have:=run_convert_bytes_back (P:=Tryz.prog) w 142 9 5 ⟨g,0,none⟩ 1 [b] Tryz.underlying142 Tryz.underlying5 Tryz.underlying9 (fun j hj=>by
  rw [addr_head]
  refine blk_cell h ?_
  match j,hj with
  | 0,_=>rfl)
 exact this
theorem list_sum (X Y:List UInt8) (h:X.length + Y.length ≤ 1000) (W:World):(Op.stringOp .add ⟨X.toArray⟩ ⟨Y.toArray⟩).run Tryz.prog W = .ok (.string ⟨(X ++ Y).toArray⟩) W:=by
 have h1:(⟨X.toArray⟩:ByteArray).size = X.length:=text_size X
 have h2:(⟨Y.toArray⟩:ByteArray).size = Y.length:=text_size Y
 rw [run_string_add_sum W _ _ (by omega),ByteArray.mk_append_mk]
end Rd
end Go.Proofs.YtbkanoblcojdfaaGreat
namespace Go.Proofs.YtbkanoblcojdfaaGreat
namespace Sc
open Go.RowKit Bk
structure Fr (F F':Nat → Prop) (w w':World):Prop where
 os:w'.os = w.os
 tape:w'.tape = w.tape
 output:w'.output = w.output
 size:w.heap.size ≤ w'.heap.size
 block:∀ k,k < w.heap.size → ¬ F k → w'.heap[k]? = w.heap[k]?
 foot:∀ k,F' k → F k ∨ w.heap.size ≤ k
theorem Fr.refl (F:Nat → Prop) (w:World):Fr F F w w:=⟨rfl,rfl,rfl,Nat.le_refl _,fun _ _ _=>rfl,fun _ h=>.inl h⟩
theorem Fr.trans {F G H:Nat → Prop} {a b c:World} (h:Fr F G a b) (k:Fr G H b c):Fr F H a c :=
 ⟨k.os.trans h.os,k.tape.trans h.tape,k.output.trans h.output,Nat.le_trans h.size k.size,
  fun i hi hn=>(k.block i (Nat.lt_of_lt_of_le hi h.size) (fun hg=>(h.foot i hg).elim hn (by omega))).trans (h.block i hi hn),
  fun i hi=>(k.foot i hi).elim (fun hg=>h.foot i hg) (fun hs=>.inr (Nat.le_trans h.size hs))⟩
theorem Fr.below {F:Nat → Prop} {a b c:World} {G:Nat → Prop} (h:Fr F G a b) (k:Below b.heap.size b c):Fr F G a c :=
 ⟨k.os.trans h.os,k.tape.trans h.tape,k.output.trans h.output,Nat.le_trans h.size k.size,
  fun i hi hn=>(k.block i (Nat.lt_of_lt_of_le hi h.size)).trans (h.block i hi hn),h.foot⟩
theorem Fr.set {F G:Nat → Prop} {a b:World} (h:Fr F G a b) {p:Addr} (hp:F p.block) (v:Value):Fr F G a (b.setCell p v) :=
 ⟨h.os,h.tape,h.output,by simpa [World.setCell] using h.size,fun i hi hn=>(Below.heap_setCell b p v i (fun e=>hn (by rw [e];exact hp))).trans (h.block i hi hn),h.foot⟩
theorem Fr.belowB {F G:Nat → Prop} {a b:World} {B:Nat} (h:Fr F G a b) (hF:∀ k,F k → B ≤ k) (hB:B ≤ a.heap.size):Below B a b :=
 ⟨h.os,h.tape,h.output,h.size,fun k hk=>h.block k (by omega) (fun hf=>by have:=hF k hf;omega)⟩
section
variable {w w':World} {g:Nat} {ao an:Addr} {co cn:Nat} {so sn:List Value} {D:Dev}
end
end Sc
end Go.Proofs.YtbkanoblcojdfaaGreat
