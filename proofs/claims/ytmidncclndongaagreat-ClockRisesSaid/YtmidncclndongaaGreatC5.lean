/- Parts of the proof, joined: RcMath, RcOpen, LtDec0, RcEnv, LtBook, LtLaw, LtCopy, RcBook, RcLaw, ScMath, SuMath; their conditions stand with each. -/
import Derived.Test.YtmidncclndongaaGreatRows
import Derived.Test.YtmidncclndongaaGreatC0
import Derived.Test.YtmidncclndongaaGreatC2
import Derived.Test.YtmidncclndongaaGreatC4

set_option maxRecDepth 20000
set_option maxHeartbeats 8000000
namespace Go.Proofs.YtmidncclndongaaGreat
namespace Rc
open Lt
structure Rec where
 kind:Int
 txn:Int
 ts:Int
 coord:Int
 key:ByteArray
 text:ByteArray
 dead:Bool
 keys:List ByteArray
 ws:List Wr
def flag (b:Bool):Int:=if b then 1 else 0
def headOk (r:Rec):Prop:=(r.txn = 0 ∨ txnOk r.txn) ∧ stampOk r.ts ∧ 0 ≤ r.coord ∧ r.coord < 16
def ListsOk (r:Rec):Prop:=r.keys = [] ∧ r.ws = []
def TextOk (r:Rec):Prop:=r.key = ⟨#[]⟩ ∧ r.text = ⟨#[]⟩ ∧ r.dead = false
def BareOk (r:Rec):Prop:=ListsOk r ∧ TextOk r ∧ r.coord = 0
def kindOk (r:Rec):Prop :=
 (r.kind = 1 ∧ TextOk r ∧ r.txn ≠ 0 ∧ r.keys.length ≤ 16 ∧ Rises r.keys ∧ WritesOk r.ws) ∨
 (r.kind = 2 ∧ BareOk r ∧ r.txn ≠ 0) ∨
 (r.kind = 3 ∧ ListsOk r ∧ r.coord = 0 ∧ r.txn = 0 ∧ r.ts ≠ 0 ∧ keyOk r.key ∧ r.text.size ≤ 2052 ∧ (r.dead = false ∨ r.text = ⟨#[]⟩)) ∨
 (r.kind = 4 ∧ BareOk r ∧ r.txn = 0) ∨
 (r.kind = 5 ∧ BareOk r ∧ r.txn ≠ 0 ∧ r.ts ≠ 0) ∨
 (r.kind = 6 ∧ BareOk r ∧ r.txn ≠ 0 ∧ r.ts = 0) ∨
 (r.kind = 7 ∧ BareOk r ∧ r.txn = 0 ∧ r.ts ≠ 0)
def RecOk (r:Rec):Prop:=headOk r ∧ kindOk r
def numsOf (r:Rec):List Int:=[r.kind,r.txn,r.ts,r.coord,flag r.dead,(r.keys.length:Int)] ++ r.ws.map fun x=>if x.dead then 1 else 0
def textsOf (r:Rec):List ByteArray:=r.key :: r.text :: (r.keys ++ r.ws.flatMap fun x=>[x.key,x.shard])
def recL (r:Rec):List UInt8:=Pk.bytesL (numsOf r) (textsOf r)
theorem rises_keys {m:List ByteArray} (hm:Rises m):∀ k ∈ m,keyOk k:=fun k hk=>by
 obtain ⟨i,hi,e⟩:=List.mem_iff_getElem.1 hk
 rw [← e];exact (hm i hi).1
theorem RecOk.bounds {r:Rec} (h:RecOk r):r.keys.length ≤ 16 ∧ r.ws.length ≤ 16 ∧ r.key.size ≤ 32 ∧ r.text.size ≤ 2052 ∧ (∀ k ∈ r.keys,keyOk k) ∧ (∀ x ∈ r.ws,keyOk x.key ∧ x.shard.size ≤ 2052) ∧ 1 ≤ r.kind ∧ r.kind ≤ 7:=by
 obtain ⟨_,h⟩:=h
 have e0:(⟨#[]⟩:ByteArray).size = 0:=rfl
 have bare:BareOk r → r.keys.length ≤ 16 ∧ r.ws.length ≤ 16 ∧ r.key.size ≤ 32 ∧ r.text.size ≤ 2052 ∧ (∀ k ∈ r.keys,keyOk k) ∧ (∀ x ∈ r.ws,keyOk x.key ∧ x.shard.size ≤ 2052):=by
  rintro ⟨⟨h1,h2⟩,⟨h3,h4,_⟩,_⟩
  rw [h1,h2,h3,h4]
  exact ⟨by simp,by simp,by rw [e0];omega,by rw [e0];omega,by simp,by simp⟩
 rcases h with ⟨h1,⟨h2,h3,_⟩,_,h4,h5,h6,h7,h8⟩ | ⟨h1,h2,_⟩ | ⟨h1,⟨h2,h3⟩,_,_,_,h4,h5,_⟩ | ⟨h1,h2,_⟩ | ⟨h1,h2,_⟩ | ⟨h1,h2,_⟩ | ⟨h1,h2,_⟩
 ·rw [h2,h3]
  exact ⟨h4,h6,by rw [e0];omega,by rw [e0];omega,rises_keys h5,fun x hx=>⟨rises_keys h8 _ (List.mem_map.2 ⟨x,hx,rfl⟩),(h7 x hx).1⟩,by omega,by omega⟩
 ·obtain ⟨a,b,c,d,e,f⟩:=bare h2;exact ⟨a,b,c,d,e,f,by omega,by omega⟩
 ·rw [h2,h3]
  exact ⟨by simp,by simp,h4.2,h5,by simp,by simp,by omega,by omega⟩
 all_goals obtain ⟨a,b,c,d,e,f⟩:=bare h2;exact ⟨a,b,c,d,e,f,by omega,by omega⟩
theorem RecOk.pack {r:Rec} (h:RecOk r):Pk.MayBe (numsOf r) (textsOf r):=by
 obtain ⟨b1,b2,b3,b4,b5,b6,b7,b8⟩:=h.bounds
 obtain ⟨⟨h1,h2,h3,h4⟩,_⟩:=h
 have hfl:∀ b,Pk.numOk (flag b):=fun b=>by cases b <;> (unfold flag Pk.numOk;simp)
 refine ⟨?_,?_,fun n hn=>?_,fun t ht=>?_⟩
 ·unfold numsOf
  rw [List.length_append,List.length_map]
  show 6 + _ ≤ _
  omega
 ·unfold textsOf
  rw [List.length_cons,List.length_cons,List.length_append,flat_len]
  omega
 ·unfold numsOf at hn
  rcases List.mem_append.1 hn with hn | hn
  ·simp only [List.mem_cons,List.not_mem_nil,or_false] at hn
   unfold txnOk at h1
   unfold stampOk at h2
   rcases hn with rfl | rfl | rfl | rfl | rfl | rfl
   all_goals first | exact hfl _ | (unfold Pk.numOk;omega)
  ·obtain ⟨x,_,rfl⟩:=List.mem_map.1 hn
   unfold Pk.numOk
   split <;> omega
 ·unfold textsOf at ht
  rcases List.mem_cons.1 ht with rfl | ht
  ·omega
  rcases List.mem_cons.1 ht with rfl | ht
  ·omega
  rcases List.mem_append.1 ht with ht | ht
  ·have:=b5 t ht;unfold keyOk at this;omega
  ·obtain ⟨x,hx,hx2⟩:=List.mem_flatMap.1 ht
   have:=b6 x hx
   unfold keyOk at this
   simp only [List.mem_cons,List.not_mem_nil,or_false] at hx2
   rcases hx2 with rfl | rfl <;> omega
def manyOf (ns:List Int):Nat:=(ns.getD 5 0).toNat
def cand (ns:List Int) (ts:List ByteArray):Rec :=
 ⟨ns.getD 0 0,ns.getD 1 0,ns.getD 2 0,ns.getD 3 0,ts.getD 0 ⟨#[]⟩,ts.getD 1 ⟨#[]⟩,ns.getD 4 0 == 1,(ts.drop 2).take (manyOf ns),pairL (ns.drop 6) (ts.drop (2 + manyOf ns))⟩
theorem flag_one (b:Bool):(flag b == 1) = b:=by cases b <;> rfl
theorem cand_of (r:Rec):cand (numsOf r) (textsOf r) = r:=by
 obtain ⟨kd,tn,ts,co,ky,tt,dd,ks,ws⟩:=r
 have hm:manyOf (numsOf ⟨kd,tn,ts,co,ky,tt,dd,ks,ws⟩) = ks.length:=by simp [manyOf,numsOf]
 unfold cand
 rw [hm]
 have e1:(textsOf ⟨kd,tn,ts,co,ky,tt,dd,ks,ws⟩).drop 2 = ks ++ ws.flatMap fun x=>[x.key,x.shard]:=rfl
 have e2:(textsOf ⟨kd,tn,ts,co,ky,tt,dd,ks,ws⟩).drop (2 + ks.length) = ws.flatMap fun x=>[x.key,x.shard]:=by
  rw [← List.drop_drop,e1,List.drop_left]
 have e3:(numsOf ⟨kd,tn,ts,co,ky,tt,dd,ks,ws⟩).drop 6 = ws.map fun x=>if x.dead then 1 else 0:=rfl
 have e4:((numsOf ⟨kd,tn,ts,co,ky,tt,dd,ks,ws⟩).getD 4 0 == 1) = dd:=flag_one dd
 rw [e1,e2,e3,e4,List.take_left,pairL_of]
 rfl
theorem nums_len (r:Rec):(numsOf r).length = 6 + r.ws.length:=by
 unfold numsOf;rw [List.length_append,List.length_map];rfl
theorem texts_len (r:Rec):(textsOf r).length = 2 + r.keys.length + 2 * r.ws.length:=by
 unfold textsOf;rw [List.length_cons,List.length_cons,List.length_append,flat_len];omega
theorem five_of (r:Rec):(numsOf r).getD 5 0 = (r.keys.length:Int):=by simp [numsOf]
theorem recL_inj {r q:Rec} (hr:RecOk r) (hq:RecOk q) (h:recL r = recL q):r = q:=by
 have h1:=Pk.decL_back hr.pack
 have h2:=Pk.decL_back hq.pack
 unfold recL at h
 rw [h,h2] at h1
 simp only [Except.ok.injEq,Prod.mk.injEq] at h1
 rw [← cand_of r,← cand_of q,h1.1,h1.2]
theorem says_nums {s:List UInt8} {ns:List Int} {ts:List ByteArray} {r:Rec} (h:Pk.decL s = .ok (ns,ts)) (hr:RecOk r) (hs:s = recL r):ns = numsOf r ∧ ts = textsOf r:=by
 rw [hs] at h
 unfold recL at h
 rw [Pk.decL_back hr.pack] at h
 simp only [Except.ok.injEq,Prod.mk.injEq] at h
 exact ⟨h.1.symm,h.2.symm⟩
def noRec:Rec:=⟨0,0,0,0,⟨#[]⟩,⟨#[]⟩,false,[],[]⟩
def NoRec (s:ByteArray):Prop:=∀ r,RecOk r → s.data.toList ≠ recL r
theorem NoRec.err {s:ByteArray} {e:Pk.Er} (h:Pk.decL s.data.toList = .error e):NoRec s:=fun r hr hs=>by
 rw [hs] at h
 unfold recL at h
 rw [Pk.decL_back hr.pack] at h
 cases h
theorem NoRec.of {s:ByteArray} {ns:List Int} {ts:List ByteArray} (h:Pk.decL s.data.toList = .ok (ns,ts)) (hn:∀ r,RecOk r → ns = numsOf r → ts = textsOf r → s.data.toList = recL r → False):NoRec s:=fun r hr hs=>by
 obtain ⟨e1,e2⟩:=says_nums h hr hs
 exact hn r hr e1 e2 hs
def Shape (ns:List Int) (ts:List ByteArray):Prop:=6 ≤ ns.length ∧ 0 ≤ ns.getD 5 0 ∧ (ts.length:Int) = 2 + ns.getD 5 0 + 2 * ((ns.length - 6:Nat):Int) ∧ (ns.getD 4 0 = 0 ∨ ns.getD 4 0 = 1) ∧ ∀ f ∈ ns.drop 6,f = 0 ∨ f = 1
theorem shape_of (r:Rec):Shape (numsOf r) (textsOf r):=by
 refine ⟨by rw [nums_len];omega,by rw [five_of];omega,by rw [five_of,nums_len,texts_len];omega,?_,fun f hf=>?_⟩
 ·show flag r.dead = 0 ∨ flag r.dead = 1
  cases r.dead
  ·exact .inl rfl
  ·exact .inr rfl
 ·have e3:(numsOf r).drop 6 = r.ws.map fun x=>if x.dead then 1 else 0:=rfl
  rw [e3] at hf
  obtain ⟨x,_,rfl⟩:=List.mem_map.1 hf
  split
  ·exact .inr rfl
  ·exact .inl rfl
theorem six {ns:List Int} (h:6 ≤ ns.length):ns = [ns.getD 0 0,ns.getD 1 0,ns.getD 2 0,ns.getD 3 0,ns.getD 4 0,ns.getD 5 0] ++ ns.drop 6:=by
 match ns,h with
 | a :: b :: c :: d :: e :: f :: r,_=>rfl
theorem two {ts:List ByteArray} (h:2 ≤ ts.length):ts = ts.getD 0 ⟨#[]⟩ :: ts.getD 1 ⟨#[]⟩ :: ts.drop 2:=by
 match ts,h with
 | a :: b :: r,_=>rfl
theorem shape_cand {ns:List Int} {ts:List ByteArray} (h:Shape ns ts):numsOf (cand ns ts) = ns ∧ textsOf (cand ns ts) = ts:=by
 obtain ⟨h1,h2,h3,h5,h4⟩:=h
 have hm:((manyOf ns:Nat):Int) = ns.getD 5 0:=by unfold manyOf;omega
 have hp:=pair_flags (ns.drop 6) (ts.drop (2 + manyOf ns)) (by rw [List.length_drop,List.length_drop];omega) h4
 have hkl:((ts.drop 2).take (manyOf ns)).length = manyOf ns:=by rw [List.length_take,List.length_drop];omega
 have hf:flag (ns.getD 4 0 == 1) = ns.getD 4 0:=by
  rcases h5 with e | e <;> (rw [e];rfl)
 constructor
 ·show [ns.getD 0 0,ns.getD 1 0,ns.getD 2 0,ns.getD 3 0,flag (ns.getD 4 0 == 1),(((ts.drop 2).take (manyOf ns)).length:Int)] ++ (pairL (ns.drop 6) (ts.drop (2 + manyOf ns))).map _ = ns
  rw [hp.1,hkl,hm,hf]
  exact (six h1).symm
 ·show ts.getD 0 ⟨#[]⟩ :: ts.getD 1 ⟨#[]⟩ :: ((ts.drop 2).take (manyOf ns) ++ (pairL (ns.drop 6) (ts.drop (2 + manyOf ns))).flatMap _) = ts
  rw [hp.2,show ts.drop (2 + manyOf ns) = (ts.drop 2).drop (manyOf ns) by rw [List.drop_drop],List.take_append_drop]
  exact (two (by omega)).symm
theorem NoRec.shape {s:ByteArray} {ns:List Int} {ts:List ByteArray} (h:Pk.decL s.data.toList = .ok (ns,ts)) (hn:¬ Shape ns ts):NoRec s:=NoRec.of h fun r _ e1 e2 _=>hn (by rw [e1,e2];exact shape_of r)
theorem NoRec.bad {s:ByteArray} {ns:List Int} {ts:List ByteArray} (h:Pk.decL s.data.toList = .ok (ns,ts)) (hn:¬ RecOk (cand ns ts)):NoRec s:=NoRec.of h fun r hr e1 e2 _=>hn (by rw [e1,e2,cand_of];exact hr)
theorem cand_bytes {s:ByteArray} {ns:List Int} {ts:List ByteArray} (h:Pk.decL s.data.toList = .ok (ns,ts)) (hs:Shape ns ts):s.data.toList = recL (cand ns ts):=by
 obtain ⟨e1,e2⟩:=shape_cand hs
 unfold recL
 rw [e1,e2]
 exact (Pk.decL_ok h).2
end Rc
end Go.Proofs.YtmidncclndongaaGreat
namespace Go.Proofs.YtmidncclndongaaGreat
namespace Rc
open Go.ChangeShapes Go.WideShapes Go.ChangeAt Go.RowKit Go.Joins Go.Deep Bk Lt
section
variable {H:Type} {enc:TypeId × Value → H} {W:World}
structure RecRng (r:Rec):Prop where
 kind:-9223372036854775808 ≤ r.kind ∧ r.kind ≤ 9223372036854775807
 txn:-9223372036854775808 ≤ r.txn ∧ r.txn ≤ 9223372036854775807
 ts:-9223372036854775808 ≤ r.ts ∧ r.ts ≤ 9223372036854775807
 coord:-9223372036854775808 ≤ r.coord ∧ r.coord ≤ 9223372036854775807
 key:r.key.size ≤ reachBytes
 text:r.text.size ≤ reachBytes
 k16:r.keys.length * 16 ≤ reachBytes
 w40:r.ws.length * 40 ≤ reachBytes
 kr:∀ s ∈ r.keys,s.size ≤ reachBytes
 wr:∀ x ∈ r.ws,x.key.size ≤ reachBytes ∧ x.shard.size ≤ reachBytes
structure RecRange (r:Rec) (c d:Nat):Prop extends RecRng r where
 kc:r.keys.length ≤ c
 wd:r.ws.length ≤ d
 c63:c ≤ maxLen
 d63:d ≤ maxLen
def recV (r:Rec) (A B:Option Addr) (c d:Nat):Value:=.agg #[.int .i64 r.kind,.int .i64 r.txn,.int .i64 r.ts,.int .i64 r.coord,.string r.key,.string r.text,.bool r.dead,.slice A r.keys.length c,.slice B r.ws.length d]
end
end Rc
end Go.Proofs.YtmidncclndongaaGreat
namespace Go.Proofs.YtmidncclndongaaGreat
namespace Lt
open Go.RowKit Bk
attribute [local go_sem ↓] Go.wp_at_zero Go.wp_at_succ
attribute [local go_sem] floatUpon pick
theorem add_add (a:Addr) (k i:Nat):(a.add k).add i = a.add (k + i):=by
 unfold Addr.add
 by_cases hk:k = 0
 ·subst hk;simp
 ·by_cases hi:i = 0
  ·subst hi;simp [hk]
  ·simp [hk,hi,Nat.add_assoc]
theorem add_lit (a:Addr) (k:Nat) (h:0 < k):(⟨a.block,a.off + k,none⟩:Addr) = a.add k:=by unfold Addr.add;rw [if_neg (by omega)]
theorem ints_sub {w:World} {a:Addr} {l:List Int} {k c:Nat} (h:IntsAt w (some a) l) (hc:l.length ≤ c):IntsAt w (if c = k then some a else some (a.add k)) (l.drop k):=fun hp=>by
 rw [List.length_drop] at hp
 obtain ⟨a',e,hb,hcl⟩:=h (by omega)
 obtain rfl:=Option.some.inj e
 refine ⟨a.add k,by rw [if_neg (by omega)],by rw [st_block];exact hb,fun i hi=>?_⟩
 rw [List.length_drop] at hi
 rw [add_add,hcl (k + i) (by omega),List.getElem_drop]
theorem strs_sub {w:World} {a:Addr} {l:List ByteArray} {k c:Nat} (h:StrsAt w (some a) l) (hc:l.length ≤ c):StrsAt w (if c = k then some a else some (a.add k)) (l.drop k):=fun hp=>by
 rw [List.length_drop] at hp
 obtain ⟨a',e,hb,hcl⟩:=h (by omega)
 obtain rfl:=Option.some.inj e
 refine ⟨a.add k,by rw [if_neg (by omega)],by rw [st_block];exact hb,fun i hi=>?_⟩
 rw [List.length_drop] at hi
 rw [add_add,hcl (k + i) (by omega),List.getElem_drop]
theorem strs_take {w:World} {A:Option Addr} {l:List ByteArray} (h:StrsAt w A l) (q:Nat):StrsAt w A (l.take q):=fun hp=>by
 rw [List.length_take] at hp
 obtain ⟨a,e,hb,hcl⟩:=h (by omega)
 refine ⟨a,e,hb,fun i hi=>?_⟩
 rw [List.length_take] at hi
 rw [hcl i (by omega),List.getElem_take]
theorem strs_far {w W:World} {A:Option Addr} {l:List ByteArray} (h:StrsAt w A l) {R:Nat} (hR:∀ a,A = some a → a.block ≠ R) (hs:w.heap.size ≤ W.heap.size) (he:∀ a:Addr,a.block ≠ R → W.cell? a = w.cell? a):StrsAt W A l:=fun hp=>by
 obtain ⟨a,e,hb,hcl⟩:=h hp
 exact ⟨a,e,Nat.lt_of_lt_of_le hb hs,fun i hi=>(he _ (by rw [st_block];exact hR a e)).trans (hcl i hi)⟩
theorem wrs_far {w W:World} {A:Option Addr} {l:List Wr} (h:WrsAt w A l) {R:Nat} (hR:∀ a,A = some a → a.block ≠ R) (hs:w.heap.size ≤ W.heap.size) (he:∀ a:Addr,a.block ≠ R → W.cell? a = w.cell? a):WrsAt W A l:=fun hp=>by
 obtain ⟨a,e,hb,hcl⟩:=h hp
 exact ⟨a,e,Nat.lt_of_lt_of_le hb hs,fun i hi=>⟨(he _ (by rw [st_block];exact hR a e)).trans (hcl i hi).1,(he _ (by rw [st_block];exact hR a e)).trans (hcl i hi).2.1,(he _ (by rw [st_block];exact hR a e)).trans (hcl i hi).2.2⟩⟩
theorem below_row {w W:World} {H o:Nat} (h:Below H w W) (ho:H ≤ o) (cs:Array Value):Below H w (W.setRow o cs) :=
 h.trans ⟨rfl,rfl,rfl,by simp,fun k hk=>setRow_other _ _ _ _ (by omega)⟩
def set9 (W:World) (R:Nat) (v0 v1 v2 v3 v4 v5 v6 v7 v8:Value):World :=
 (((((((((W.setCell ⟨R,0,none⟩ v0).setCell ⟨R,1,none⟩ v1).setCell ⟨R,2,none⟩ v2).setCell ⟨R,3,none⟩ v3).setCell ⟨R,4,none⟩ v4).setCell ⟨R,5,none⟩ v5).setCell ⟨R,6,none⟩ v6).setCell ⟨R,7,none⟩ v7).setCell ⟨R,8,none⟩ v8)
theorem set9_cel {W:World} {R:Nat} {t:TypeId} {u0 u1 u2 u3 u4 u5 u6 u7 u8 v0 v1 v2 v3 v4 v5 v6 v7 v8:Value} (h:Cel W R t [u0,u1,u2,u3,u4,u5,u6,u7,u8]):Cel (set9 W R v0 v1 v2 v3 v4 v5 v6 v7 v8) R t [v0,v1,v2,v3,v4,v5,v6,v7,v8] :=
 ((((((((h.set (i:=0) (v:=v0)).set (i:=1) (v:=v1)).set (i:=2) (v:=v2)).set (i:=3) (v:=v3)).set (i:=4) (v:=v4)).set (i:=5) (v:=v5)).set (i:=6) (v:=v6)).set (i:=7) (v:=v7)).set (i:=8) (v:=v8)
theorem set9_below {w W:World} {H R:Nat} {v0 v1 v2 v3 v4 v5 v6 v7 v8:Value} (h:Below H w W) (hR:H ≤ R):Below H w (set9 W R v0 v1 v2 v3 v4 v5 v6 v7 v8) :=
 ((((((((h.setCell (p:=⟨R,0,none⟩) hR v0).setCell (p:=⟨R,1,none⟩) hR v1).setCell (p:=⟨R,2,none⟩) hR v2).setCell (p:=⟨R,3,none⟩) hR v3).setCell (p:=⟨R,4,none⟩) hR v4).setCell (p:=⟨R,5,none⟩) hR v5).setCell (p:=⟨R,6,none⟩) hR v6).setCell (p:=⟨R,7,none⟩) hR v7).setCell (p:=⟨R,8,none⟩) hR v8
theorem set9_other {W:World} {R:Nat} {v0 v1 v2 v3 v4 v5 v6 v7 v8:Value} {a:Addr} (h:a.block ≠ R):(set9 W R v0 v1 v2 v3 v4 v5 v6 v7 v8).cell? a = W.cell? a:=by
 have hh:(set9 W R v0 v1 v2 v3 v4 v5 v6 v7 v8).heap[a.block]? = W.heap[a.block]?:=by
  have e:∀ (W:World) (i:Nat) (v:Value),(W.setCell ⟨R,i,none⟩ v).heap[a.block]? = W.heap[a.block]?:=fun W i v=>Below.heap_setCell W ⟨R,i,none⟩ v a.block h
  unfold set9
  rw [e,e,e,e,e,e,e,e,e]
 exact World.cell?_of_block hh
theorem set9_size {W:World} {R:Nat} {v0 v1 v2 v3 v4 v5 v6 v7 v8:Value}:(set9 W R v0 v1 v2 v3 v4 v5 v6 v7 v8).heap.size = W.heap.size:=by
 unfold set9;simp
def SW (X n:Nat) (L:List Wr) (A:Option Addr) (c:Nat) (W:World):Prop:=WrsAt W A L ∧ n ≤ c ∧ c ≤ maxLen ∧ (A = none → c = 0) ∧ ∀ a,A = some a → X ≤ a.block
theorem SW.keep {X n:Nat} {L:List Wr} {A:Option Addr} {c:Nat} {W W':World} (h:SW X n L A c W) (hb:Below W.heap.size W W'):SW X n L A c W':=⟨h.1.below hb,h.2⟩
def S85 (X n:Nat) (L:List Wr) (v:Value) (W:World):Prop:=∃ A c,v = .tuple #[.slice A n c,.bool true] ∧ SW X n L A c W
def S86 (X n:Nat) (L:List Wr) (v:Value) (W:World):Prop:=∃ A c,v = .slice A n c ∧ SW X n L A c W
theorem S85.keep {X n:Nat} {L:List Wr} {v:Value} {W W':World} (h:S85 X n L v W) (hb:Below W.heap.size W W'):S85 X n L v W':=by
 obtain ⟨A,c,e,h⟩:=h;exact ⟨A,c,e,h.keep hb⟩
theorem S86.keep {X n:Nat} {L:List Wr} {v:Value} {W W':World} (h:S86 X n L v W) (hb:Below W.heap.size W W'):S86 X n L v W':=by
 obtain ⟨A,c,e,h⟩:=h;exact ⟨A,c,e,h.keep hb⟩
theorem wrs_own2 {w:World} {H n:Nat} {v:Value} {e:TypeId} {l:List Wr} (h:w.ownsRow H e 3 v n (wrV l)) (hl:n = l.length) {X:Nat} (hX:X ≤ H):∃ (A:Option Addr) (c:Nat),v = .slice A n c ∧ SW X n l A c w:=by
 obtain ⟨A,c,rfl,h1,h2,h3,h4⟩:=wrs_own h hl
 exact ⟨A,c,rfl,h1,h2,h3,h4,fun a ea=>Nat.le_trans hX (h.lt a.block (by rw [ea];rfl)).1⟩
end Lt
end Go.Proofs.YtmidncclndongaaGreat
namespace Go.Proofs.YtmidncclndongaaGreat
namespace Rc
open Go.RowKit Bk Lt
structure RcEnv (w W:World) (g:Nat) (A B:Option Addr) (c d:Nat) (r:Rec):Prop where
 ks:StrsAt W A r.keys
 ws:WrsAt W B r.ws
 cel:Cel W g 39 [.int .i64 r.kind,.int .i64 r.txn,.int .i64 r.ts,.int .i64 r.coord,.string r.key,.string r.text,.bool r.dead,.slice A r.keys.length c,.slice B r.ws.length d]
 bel:Below w.heap.size w W
theorem RcEnv.step {w W W':World} {g:Nat} {A B:Option Addr} {c d:Nat} {r:Rec} (h:RcEnv w W g A B c d r) (hb:Below W.heap.size W W'):RcEnv w W' g A B c d r :=
 ⟨h.ks.below hb,h.ws.below hb,h.cel.below hb,h.bel.trans (hb.mono h.bel.size)⟩
theorem RcEnv.start {w:World} {A B:Option Addr} {c d:Nat} {r:Rec} (ha:StrsAt w A r.keys) (hb:WrsAt w B r.ws) :
  RcEnv w (w.alloc (.cells #[.int .i64 r.kind,.int .i64 r.txn,.int .i64 r.ts,.int .i64 r.coord,.string r.key,.string r.text,.bool r.dead,.slice A r.keys.length c,.slice B r.ws.length d] 39)) w.heap.size A B c d r :=
 ⟨ha.alloc _,hb.alloc _,(blk1 w _).2,(Below.refl _ w).alloc (Nat.le_refl _) _⟩
open Classical in
noncomputable def ckN (r:Rec):Nat:=if RecOk r then 0 else 80
theorem ckN_of {r:Rec} (h:RecOk r):ckN r = 0:=by unfold ckN;rw [if_pos h]
theorem ckN_not {r:Rec} (h:¬ RecOk r):ckN r = 80:=by unfold ckN;rw [if_neg h]
theorem ckN_ok {r:Rec} (h:headOk r) (h2:kindOk r):ckN r = 0:=ckN_of ⟨h,h2⟩
theorem ckN_bad {r:Rec} (h:¬ kindOk r):ckN r = 80:=ckN_not (fun hh=>h hh.2)
theorem ckN_head {r:Rec} (h:¬ headOk r):ckN r = 80:=ckN_not (fun hh=>h hh.1)
theorem kind_1 {r:Rec} (h:r.kind = 1):kindOk r ↔ TextOk r ∧ r.txn ≠ 0 ∧ r.keys.length ≤ 16 ∧ Rises r.keys ∧ WritesOk r.ws:=by
 constructor
 ·rintro (h2 | h2 | h2 | h2 | h2 | h2 | h2)
  ·exact h2.2
  all_goals omega
 ·intro h2;exact .inl ⟨h,h2⟩
theorem kind_2 {r:Rec} (h:r.kind = 2):kindOk r ↔ BareOk r ∧ r.txn ≠ 0:=by
 constructor
 ·rintro (h2 | h2 | h2 | h2 | h2 | h2 | h2)
  ·omega
  ·exact h2.2
  all_goals omega
 ·intro h2;exact .inr (.inl ⟨h,h2⟩)
theorem kind_3 {r:Rec} (h:r.kind = 3):kindOk r ↔ ListsOk r ∧ r.coord = 0 ∧ r.txn = 0 ∧ r.ts ≠ 0 ∧ keyOk r.key ∧ r.text.size ≤ 2052 ∧ (r.dead = false ∨ r.text = ⟨#[]⟩):=by
 constructor
 ·rintro (h2 | h2 | h2 | h2 | h2 | h2 | h2)
  ·omega
  ·omega
  ·exact h2.2
  all_goals omega
 ·intro h2;exact .inr (.inr (.inl ⟨h,h2⟩))
theorem kind_4 {r:Rec} (h:r.kind = 4):kindOk r ↔ BareOk r ∧ r.txn = 0:=by
 constructor
 ·rintro (h2 | h2 | h2 | h2 | h2 | h2 | h2)
  ·omega
  ·omega
  ·omega
  ·exact h2.2
  all_goals omega
 ·intro h2;exact .inr (.inr (.inr (.inl ⟨h,h2⟩)))
theorem kind_5 {r:Rec} (h:r.kind = 5):kindOk r ↔ BareOk r ∧ r.txn ≠ 0 ∧ r.ts ≠ 0:=by
 constructor
 ·rintro (h2 | h2 | h2 | h2 | h2 | h2 | h2)
  ·omega
  ·omega
  ·omega
  ·omega
  ·exact h2.2
  all_goals omega
 ·intro h2;exact .inr (.inr (.inr (.inr (.inl ⟨h,h2⟩))))
theorem kind_6 {r:Rec} (h:r.kind = 6):kindOk r ↔ BareOk r ∧ r.txn ≠ 0 ∧ r.ts = 0:=by
 constructor
 ·rintro (h2 | h2 | h2 | h2 | h2 | h2 | h2)
  ·omega
  ·omega
  ·omega
  ·omega
  ·omega
  ·exact h2.2
  ·omega
 ·intro h2;exact .inr (.inr (.inr (.inr (.inr (.inl ⟨h,h2⟩)))))
theorem kind_7 {r:Rec} (h:r.kind = 7):kindOk r ↔ BareOk r ∧ r.txn = 0 ∧ r.ts ≠ 0:=by
 constructor
 ·rintro (h2 | h2 | h2 | h2 | h2 | h2 | h2)
  ·omega
  ·omega
  ·omega
  ·omega
  ·omega
  ·omega
  ·exact h2.2
 ·intro h2;exact .inr (.inr (.inr (.inr (.inr (.inr ⟨h,h2⟩)))))
theorem kind_no {r:Rec} (h:r.kind < 1 ∨ 7 < r.kind):¬ kindOk r:=by
 rintro (h2 | h2 | h2 | h2 | h2 | h2 | h2) <;> omega
structure RecVal (w:World) (A B:Option Addr) (c d:Nat) (r:Rec):Prop where
 ks:StrsAt w A r.keys
 ws:WrsAt w B r.ws
 rng:RecRange r c d
 kn:A = none → r.keys = [] ∧ c = 0
 wn:B = none → r.ws = [] ∧ d = 0
theorem RecVal.below {w W:World} {A B:Option Addr} {c d:Nat} {r:Rec} (h:RecVal w A B c d r) (hb:Below w.heap.size w W):RecVal W A B c d r :=
 ⟨h.ks.below hb,h.ws.below hb,h.rng,h.kn,h.wn⟩
theorem cand_range {ns:List Int} {ts:List ByteArray} (h:Pk.MayBe ns ts):RecRng (cand ns ts):=by
 obtain ⟨h1,h2,h3,h4⟩:=h
 have rb:reachBytes = 140737488351232:=by unfold reachBytes;rfl
 have hi:∀ i,-9223372036854775808 ≤ ns.getD i 0 ∧ ns.getD i 0 ≤ 9223372036854775807:=fun i=>by
  rw [List.getD_eq_getElem?_getD]
  cases e:ns[i]? with
  | none=>simp
  | some z =>
   have hz:=h3 z (List.mem_of_getElem? e)
   unfold Pk.numOk at hz
   simp only [Option.getD_some];omega
 have ht:∀ t ∈ ts,t.size ≤ reachBytes:=fun t ht=>by have:=h4 t ht;omega
 have hp:∀ (fs:List Int) (us:List ByteArray),(∀ u ∈ us,u.size ≤ reachBytes) → ∀ x ∈ pairL fs us,x.key.size ≤ reachBytes ∧ x.shard.size ≤ reachBytes:=by
  intro fs
  induction fs with
  | nil=>intro us _ x hx;simp [pairL] at hx
  | cons f fs ih =>
   intro us hu x hx
   match us,hu,hx with
   | [],_,hx=>simp [pairL] at hx
   | [k],_,hx=>simp [pairL] at hx
   | k :: s :: r,hu,hx =>
    rcases List.mem_cons.1 hx with rfl | hx
    ·exact ⟨hu _ (by simp),hu _ (by simp)⟩
    ·exact ih r (fun u hr=>hu u (by simp [hr])) x hx
 have hpl:∀ (fs:List Int) (us:List ByteArray),(pairL fs us).length ≤ fs.length:=by
  intro fs
  induction fs with
  | nil=>intro us;simp [pairL]
  | cons f fs ih =>
   intro us
   match us with
   | []=>simp [pairL]
   | [k]=>simp [pairL]
   | k :: s :: r=>rw [pairL,List.length_cons,List.length_cons];have:=ih r;omega
 have hg:∀ i,(ts.getD i ⟨#[]⟩).size ≤ reachBytes:=fun i=>by
  rw [List.getD_eq_getElem?_getD]
  cases e:ts[i]? with
  | none=>simp only [Option.getD_none];show (0:Nat) ≤ _;omega
  | some t=>exact ht t (List.mem_of_getElem? e)
 refine ⟨hi 0,hi 1,hi 2,hi 3,hg 0,hg 1,?_,?_,?_,?_⟩
 ·show ((ts.drop 2).take (manyOf ns)).length * 16 ≤ _
  rw [List.length_take,List.length_drop];omega
 ·show (pairL (ns.drop 6) (ts.drop (2 + manyOf ns))).length * 40 ≤ _
  have:=hpl (ns.drop 6) (ts.drop (2 + manyOf ns))
  rw [List.length_drop] at this;omega
 ·intro t ht2
  exact ht t (List.mem_of_mem_drop (List.mem_of_mem_take ht2))
 ·exact hp _ _ (fun u hu=>ht u (List.mem_of_mem_drop hu))
theorem RecOk.rng {r:Rec} (h:RecOk r):RecRng r:=by
 obtain ⟨b1,b2,b3,b4,b5,b6,b7,b8⟩:=h.bounds
 obtain ⟨⟨h1,h2,h3,h4⟩,_⟩:=h
 have rb:reachBytes = 140737488351232:=by unfold reachBytes;rfl
 unfold txnOk at h1
 unfold stampOk at h2
 exact ⟨by omega,by omega,by omega,by omega,by omega,by omega,by omega,by omega,fun k hk=>by have:=b5 k hk;unfold keyOk at this;omega,fun x hx=>by have:=b6 x hx;unfold keyOk at this;omega⟩
noncomputable def decX (s:ByteArray):Rec × Nat:=open Classical in if h:∃ r,RecOk r ∧ s.data.toList = recL r then (Classical.choose h,0) else (noRec,80)
theorem decX_ok {s:ByteArray} {r:Rec} (h:RecOk r) (hs:s.data.toList = recL r):decX s = (r,0):=by
 have hx:∃ r,RecOk r ∧ s.data.toList = recL r:=⟨r,h,hs⟩
 unfold decX
 rw [dif_pos hx]
 have hc:=Classical.choose_spec hx
 rw [recL_inj hc.1 h (hc.2.symm.trans hs)]
theorem decX_no {s:ByteArray} (h:NoRec s):decX s = (noRec,80):=by
 unfold decX
 rw [dif_neg (fun ⟨r,h1,h2⟩=>h r h1 h2)]
theorem decX_cases (s:ByteArray):(∃ r,RecOk r ∧ s.data.toList = recL r ∧ decX s = (r,0)) ∨ (NoRec s ∧ decX s = (noRec,80)):=by
 by_cases h:∃ r,RecOk r ∧ s.data.toList = recL r
 ·obtain ⟨r,h1,h2⟩:=h
  exact .inl ⟨r,h1,h2,decX_ok h1 h2⟩
 ·have hn:NoRec s:=fun r h1 h2=>h ⟨r,h1,h2⟩
  exact .inr ⟨hn,decX_no hn⟩
theorem decX_bytes {r:Rec} (h:RecOk r):decX ⟨(recL r).toArray⟩ = (r,0):=decX_ok h (by simp)
open Classical in
noncomputable def encV (r:Rec):Value:=if RecOk r then .tuple #[.string ⟨(recL r).toArray⟩,.int .i64 0] else .tuple #[.string ⟨#[]⟩,.int .i64 80]
theorem encV_ok {r:Rec} (h:RecOk r):encV r = .tuple #[.string ⟨(recL r).toArray⟩,.int .i64 0]:=by unfold encV;rw [if_pos h]
theorem encV_bad {r:Rec} (h:¬ RecOk r):encV r = .tuple #[.string ⟨#[]⟩,.int .i64 80]:=by unfold encV;rw [if_neg h]
end Rc
end Go.Proofs.YtmidncclndongaaGreat
namespace Go.Proofs.YtmidncclndongaaGreat
namespace Lt
open Go.RowKit Bk
attribute [local go_sem ↓] Go.wp_at_zero Go.wp_at_succ
attribute [local go_sem] floatUpon pick
theorem own_wrs {w:World} {H c:Nat} {A:Option Addr} {e:TypeId} {l:List Wr} (h:w.ownsRow H e 3 (.slice A l.length c) l.length (wrV l)):WrsAt w A l ∧ l.length ≤ c ∧ c ≤ maxLen ∧ (A = none → l = [] ∧ c = 0):=by
 obtain ⟨A',c',e1,h1,h2,h3,h4⟩:=wrs_own h rfl
 simp only [Value.slice.injEq] at e1
 obtain ⟨rfl,_,rfl⟩:=e1
 exact ⟨h1,h2,h3,fun e=>⟨List.eq_nil_of_length_eq_zero (by have:=h4 e;omega),h4 e⟩⟩
theorem own_strs {w:World} {H c:Nat} {A:Option Addr} {e:TypeId} {l:List ByteArray} (h:w.ownsRow H e 1 (.slice A l.length c) l.length (strV l)):StrsAt w A l ∧ l.length ≤ c ∧ c ≤ maxLen ∧ (A = none → l = [] ∧ c = 0):=by
 obtain ⟨A',c',hv,hs⟩:=strs_of_own2 h rfl
 simp only [Value.slice.injEq] at hv
 obtain ⟨rfl,_,rfl⟩:=hv
 rcases h.2 with ⟨h1,h2⟩ | ⟨g,cap,cur,h1,_,_,h3,h4,_⟩
 ·simp only [Value.slice.injEq] at h1
  obtain ⟨rfl,hl,rfl⟩:=h1
  exact ⟨hs,by omega,Nat.zero_le _,fun _=>⟨List.eq_nil_of_length_eq_zero hl,rfl⟩⟩
 ·simp only [Value.slice.injEq] at h1
  obtain ⟨rfl,_,rfl⟩:=h1
  exact ⟨hs,h3,h4,fun e=>by cases e⟩
theorem set9_own {W:World} {H R s n:Nat} {e:TypeId} {v v0 v1 v2 v3 v4 v5 v6 v7 v8:Value} {xs:List Value} (h:W.ownsRow H e s v n xs) (hn:v.ownBlock ≠ some R):(set9 W R v0 v1 v2 v3 v4 v5 v6 v7 v8).ownsRow H e s v n xs :=
 ownsRow_setCell_other (a:=⟨R,8,none⟩) (ownsRow_setCell_other (a:=⟨R,7,none⟩) (ownsRow_setCell_other (a:=⟨R,6,none⟩) (ownsRow_setCell_other (a:=⟨R,5,none⟩) (ownsRow_setCell_other (a:=⟨R,4,none⟩) (ownsRow_setCell_other (a:=⟨R,3,none⟩) (ownsRow_setCell_other (a:=⟨R,2,none⟩) (ownsRow_setCell_other (a:=⟨R,1,none⟩) (ownsRow_setCell_other (a:=⟨R,0,none⟩) h hn _) hn _) hn _) hn _) hn _) hn _) hn _) hn _) hn _
end Lt
end Go.Proofs.YtmidncclndongaaGreat
namespace Go.Proofs.YtmidncclndongaaGreat
namespace Rc
open Go.RowKit Bk Lt
attribute [local go_sem ↓] Go.wp_at_zero Go.wp_at_succ
attribute [local go_sem] floatUpon pick
def EncodeAll:Prop:=∀ (A B:Option Addr) (c d:Nat) (r:Rec) (w:World),RecVal w A B c d r →
 Calls Tryz.prog 99 #[recV r A B c d] w fun e w'=>e = .returned (encV r) ∧ Below w.heap.size w w'
theorem nil_strs (w:World) (A:Option Addr):StrsAt w A []:=fun h=>absurd h (by simp)
theorem nil_wrs (w:World) (A:Option Addr):WrsAt w A []:=fun h=>absurd h (by simp)
def bareR (k t s:Int):Rec:=⟨k,t,s,0,⟨#[]⟩,⟨#[]⟩,false,[],[]⟩
theorem bare_val (w:World) (k t s:Int) (h:RecOk (bareR k t s)):RecVal w none none 0 0 (bareR k t s) :=
 ⟨nil_strs _ _,nil_wrs _ _,⟨h.rng,Nat.le_refl _,Nat.le_refl _,Nat.zero_le _,Nat.zero_le _⟩,fun _=>⟨rfl,rfl⟩,fun _=>⟨rfl,rfl⟩⟩
theorem no_val (w:World):RecVal w none none 0 0 noRec:=by
 refine ⟨nil_strs _ _,nil_wrs _ _,⟨⟨?_,?_,?_,?_,Nat.zero_le _,Nat.zero_le _,Nat.zero_le _,Nat.zero_le _,fun s h=>absurd h (by simp [noRec]),fun x h=>absurd h (by simp [noRec])⟩,Nat.le_refl _,Nat.le_refl _,Nat.zero_le _,Nat.zero_le _⟩,fun _=>⟨rfl,rfl⟩,fun _=>⟨rfl,rfl⟩⟩ <;> (show (-9223372036854775808:Int) ≤ 0 ∧ (0:Int) ≤ 9223372036854775807;omega)
end Rc
end Go.Proofs.YtmidncclndongaaGreat
namespace Go.Proofs.YtmidncclndongaaGreat
namespace Sc
structure Dev where
 on:List ByteArray
 new:List ByteArray
 left:Nat
 down:Bool
def nil0:ByteArray:=⟨#[]⟩
def zero64:ByteArray:=⟨(List.replicate 64 (0:UInt8)).toArray⟩
theorem zero64_size:zero64.size = 64:=by decide
theorem nil0_size:nil0.size = 0:=rfl
structure DevOk (D:Dev):Prop where
 len:D.new.length = D.on.length
 pos:1 ≤ D.on.length
 max:D.on.length ≤ 2048
 on64:∀ s ∈ D.on,s.size = 64
 new64:∀ s ∈ D.new,s = nil0 ∨ s.size = 64
 lft:D.left ≤ 1048576
def new0 (n:Nat):Dev:=⟨List.replicate n zero64,List.replicate n nil0,0,false⟩
theorem new0_ok {n:Nat} (h1:1 ≤ n) (h2:n ≤ 2048):DevOk (new0 n) :=
 ⟨by simp [new0],by simpa [new0] using h1,by simpa [new0] using h2,fun s hs=>by rw [List.eq_of_mem_replicate hs];exact zero64_size,fun s hs=>.inl (List.eq_of_mem_replicate hs),by simp [new0]⟩
def rdV (D:Dev) (i:Int):ByteArray × Int :=
 if D.down = true then (nil0,90) else if i < 0 ∨ (D.on.length:Int) ≤ i then (nil0,1) else
 (if D.new.getD i.toNat nil0 = nil0 then D.on.getD i.toNat nil0 else D.new.getD i.toNat nil0,0)
def burn (D:Dev):Dev × Bool:=if D.left = 0 then (D,false) else (⟨D.on,D.new,D.left - 1,D.left == 1⟩,D.left == 1)
def wrD (D:Dev) (i:Int) (t:ByteArray):Dev × Int :=
 if (rdV D i).2 ≠ 0 then (D,(rdV D i).2) else if t.size ≠ 64 then (D,3) else
 if (burn D).2 = true then ((burn D).1,90) else (⟨D.on,D.new.set i.toNat t,(burn D).1.left,(burn D).1.down⟩,0)
def upd (l:List ByteArray) (j:Nat) (f:Nat → ByteArray):List ByteArray:=(List.range l.length).map fun i=>if i < j then f i else l.getD i nil0
theorem upd_len (l:List ByteArray) (j:Nat) (f:Nat → ByteArray):(upd l j f).length = l.length:=by simp [upd]
theorem upd_at {l:List ByteArray} {j:Nat} {f:Nat → ByteArray} {i:Nat} (h:i < (upd l j f).length) (h':i < l.length):(upd l j f)[i] = if i < j then f i else l[i]:=by
 have e:(upd l j f)[i]? = some (if i < j then f i else l[i]):=by
  unfold upd
  rw [List.getElem?_map,List.getElem?_range h',Option.map_some,List.getD_eq_getElem?_getD,List.getElem?_eq_getElem h'];rfl
 rw [List.getElem?_eq_getElem h] at e
 exact Option.some.inj e
theorem upd_zero (l:List ByteArray) (f:Nat → ByteArray):upd l 0 f = l:=by
 apply List.ext_getElem (upd_len _ _ _)
 intro i h1 h2
 rw [upd_at h1 h2,if_neg (by omega)]
theorem upd_set {l:List ByteArray} {j:Nat} {f:Nat → ByteArray} {t:ByteArray} (_h:j < l.length) (ht:t = f j):(upd l j f).set j t = upd l (j + 1) f:=by
 subst ht
 apply List.ext_getElem (by rw [List.length_set,upd_len,upd_len])
 intro i h1 h2
 rw [List.length_set] at h1
 have h3:i < l.length:=by rw [upd_len] at h1;exact h1
 rw [List.getElem_set,upd_at h1 h3,upd_at h2 h3]
 by_cases e:j = i
 ·subst e;rw [if_pos rfl,if_pos (by omega)]
 ·rw [if_neg e]
  by_cases e2:i < j
  ·rw [if_pos e2,if_pos (by omega)]
  ·rw [if_neg e2,if_neg (by omega)]
theorem upd_same {l:List ByteArray} {j:Nat} {f:Nat → ByteArray} (h:j < l.length) (hf:f j = l[j]):upd l (j + 1) f = upd l j f:=by
 rw [← upd_set h rfl,hf]
 apply List.ext_getElem (by rw [List.length_set])
 intro i h1 h2
 have h3:i < l.length:=by rw [upd_len] at h2;exact h2
 rw [List.getElem_set,upd_at h2 h3]
 by_cases e:j = i
 ·subst e;rw [if_pos rfl,if_neg (by omega)]
 ·rw [if_neg e]
theorem upd_mem {l:List ByteArray} {j:Nat} {f:Nat → ByteArray} {s:ByteArray} (h:s ∈ upd l j f):(∃ i,i < l.length ∧ i < j ∧ s = f i) ∨ s ∈ l:=by
 obtain ⟨i,hi,rfl⟩:=List.mem_iff_getElem.1 h
 have h3:i < l.length:=by rw [upd_len] at hi;exact hi
 rw [upd_at hi h3]
 by_cases e:i < j
 ·rw [if_pos e];exact .inl ⟨i,h3,e,rfl⟩
 ·rw [if_neg e];exact .inr (List.getElem_mem h3)
theorem upd_all (l:List ByteArray) (x:ByteArray):upd l l.length (fun _=>x) = List.replicate l.length x:=by
 apply List.ext_getElem (by rw [upd_len,List.length_replicate])
 intro i h1 h2
 have h3:i < l.length:=by rw [upd_len] at h1;exact h1
 rw [upd_at h1 h3,if_pos h3,List.getElem_replicate]
def flushF (D:Dev) (i:Nat):ByteArray:=if D.new.getD i nil0 = nil0 then D.on.getD i nil0 else D.new.getD i nil0
def flD (D:Dev):Dev × Int :=
 if D.down = true then (D,90) else if (burn D).2 = true then ((burn D).1,90) else
 (⟨upd D.on D.on.length (flushF D),upd D.new D.on.length (fun _=>nil0),(burn D).1.left,(burn D).1.down⟩,0)
def fuD (D:Dev) (n:Int):Dev × Int :=
 if D.down = true then (D,90) else if n < 0 ∨ 1048576 < n then (D,1) else (⟨D.on,D.new,n.toNat,D.down⟩,0)
def cnt (new:List ByteArray) (i:Nat):Nat:=((new.take i).filter fun s=>decide (s ≠ nil0)).length
def cutN (p:Int):Nat:=if p = 0 then 0 else if p = 1 then 64 else (p % 64).toNat
def torn (o n:ByteArray) (p:Int):ByteArray:=⟨(n.data.toList.take (cutN p) ++ o.data.toList.drop (cutN p)).toArray⟩
def tearF (D:Dev) (ps:List Int) (i:Nat):ByteArray :=
 if D.new.getD i nil0 = nil0 then D.on.getD i nil0 else torn (D.on.getD i nil0) (D.new.getD i nil0) (ps.getD (cnt D.new i) 0)
def crD (D:Dev) (ps:List Int):Dev:=⟨upd D.on D.on.length (tearF D ps),upd D.new D.on.length (fun _=>nil0),0,false⟩
theorem cnt_succ {l:List ByteArray} {i:Nat} (h:i < l.length):cnt l (i + 1) = cnt l i + if l[i] = nil0 then 0 else 1:=by
 unfold cnt
 rw [List.take_add_one,List.getElem?_eq_getElem h,List.filter_append,List.length_append]
 congr 1
 by_cases e:l[i] = nil0
 ·simp [e]
 ·simp [e]
theorem cnt_le (l:List ByteArray) (i:Nat):cnt l i ≤ i:=by
 unfold cnt
 refine Nat.le_trans (List.length_filter_le _ _) ?_
 rw [List.length_take];omega
theorem cut_le (p:Int):cutN p ≤ 64:=by
 unfold cutN
 split
 ·omega
 split
 ·omega
 omega
theorem torn_size {o n:ByteArray} (ho:o.size = 64) (hn:n.size = 64) (p:Int):(torn o n p).size = 64:=by
 have h:=cut_le p
 show (n.data.toList.take (cutN p) ++ o.data.toList.drop (cutN p)).toArray.size = 64
 have h1:n.data.toList.length = 64:=hn
 have h2:o.data.toList.length = 64:=ho
 rw [List.size_toArray,List.length_append,List.length_take,List.length_drop]
 omega
theorem getD_mem {l:List ByteArray} {i:Nat} (h:i < l.length):l.getD i nil0 ∈ l:=by
 rw [List.getD_eq_getElem?_getD,List.getElem?_eq_getElem h]
 exact List.getElem_mem h
theorem getD_at {l:List ByteArray} {i:Nat} (h:i < l.length):l.getD i nil0 = l[i]:=by
 rw [List.getD_eq_getElem?_getD,List.getElem?_eq_getElem h];rfl
theorem burn_parts (D:Dev):(burn D).1.on = D.on ∧ (burn D).1.new = D.new ∧ (burn D).1.left ≤ D.left:=by
 unfold burn
 split
 ·exact ⟨rfl,rfl,Nat.le_refl _⟩
 ·exact ⟨rfl,rfl,Nat.sub_le _ _⟩
theorem burn_ok {D:Dev} (h:DevOk D):DevOk (burn D).1:=by
 obtain ⟨b1,b2,b3⟩:=burn_parts D
 exact ⟨by rw [b1,b2];exact h.len,by rw [b1];exact h.pos,by rw [b1];exact h.max,by rw [b1];exact h.on64,by rw [b2];exact h.new64,Nat.le_trans b3 h.lft⟩
theorem wrD_ok {D:Dev} (h:DevOk D) (i:Int) (t:ByteArray):DevOk (wrD D i t).1:=by
 unfold wrD
 split
 ·exact h
 split
 ·exact h
 next ht =>
 split
 ·exact burn_ok h
 ·refine ⟨by rw [List.length_set];exact h.len,h.pos,h.max,h.on64,fun s hs=>?_,Nat.le_trans (burn_parts D).2.2 h.lft⟩
  rcases List.mem_or_eq_of_mem_set hs with hs | rfl
  ·exact h.new64 s hs
  ·exact .inr (by simpa using ht)
theorem flush64 {D:Dev} (h:DevOk D) {i:Nat} (hi:i < D.on.length):(flushF D i).size = 64:=by
 unfold flushF
 have hi2:i < D.new.length:=by rw [h.len];exact hi
 split
 ·exact h.on64 _ (getD_mem hi)
 next hn=>exact (h.new64 _ (getD_mem hi2)).resolve_left hn
theorem tear64 {D:Dev} (h:DevOk D) (ps:List Int) {i:Nat} (hi:i < D.on.length):(tearF D ps i).size = 64:=by
 unfold tearF
 have hi2:i < D.new.length:=by rw [h.len];exact hi
 split
 ·exact h.on64 _ (getD_mem hi)
 next hn=>exact torn_size (h.on64 _ (getD_mem hi)) ((h.new64 _ (getD_mem hi2)).resolve_left hn) _
theorem cleared {D:Dev} (h:DevOk D):∀ s ∈ upd D.new D.on.length (fun _=>nil0),s = nil0 ∨ s.size = 64:=fun s hs=>by
 rcases upd_mem hs with ⟨_,_,_,rfl⟩ | hs
 ·exact .inl rfl
 ·exact h.new64 s hs
theorem made {D:Dev} (h:DevOk D) {f:Nat → ByteArray} (hf:∀ i,i < D.on.length → (f i).size = 64):∀ s ∈ upd D.on D.on.length f,s.size = 64:=fun s hs=>by
 rcases upd_mem hs with ⟨i,hi,_,rfl⟩ | hs
 ·exact hf i hi
 ·exact h.on64 s hs
theorem flD_ok {D:Dev} (h:DevOk D):DevOk (flD D).1:=by
 unfold flD
 split
 ·exact h
 split
 ·exact burn_ok h
 ·exact ⟨by rw [upd_len,upd_len];exact h.len,by rw [upd_len];exact h.pos,by rw [upd_len];exact h.max,made h (fun i hi=>flush64 h hi),cleared h,Nat.le_trans (burn_parts D).2.2 h.lft⟩
theorem fuD_ok {D:Dev} (h:DevOk D) (n:Int):DevOk (fuD D n).1:=by
 unfold fuD
 split
 ·exact h
 split
 ·exact h
 next hn=>exact ⟨h.len,h.pos,h.max,h.on64,h.new64,by show n.toNat ≤ 1048576;omega⟩
theorem crD_ok {D:Dev} (h:DevOk D) (ps:List Int):DevOk (crD D ps) :=
 ⟨by show (upd _ _ _).length = (upd _ _ _).length;rw [upd_len,upd_len];exact h.len,by show _ ≤ (upd _ _ _).length;rw [upd_len];exact h.pos,by show (upd _ _ _).length ≤ _;rw [upd_len];exact h.max,made h (fun i hi=>tear64 h ps hi),cleared h,Nat.zero_le _⟩
end Sc
end Go.Proofs.YtmidncclndongaaGreat
namespace Go.Proofs.YtmidncclndongaaGreat
namespace Su
def T (y:Nat):Nat:=if y % 2 = 1 then (y / 2) ^^^ 3988292384 else y / 2
def Tn:Nat → Nat → Nat
 | 0,y=>y
 | n + 1,y=>Tn n (T y)
theorem T_lt {y:Nat} (h:y < 4294967296):T y < 4294967296:=by
 unfold T
 split
 ·exact Nat.xor_lt_two_pow (n:=32) (by omega) (by omega)
 ·omega
theorem Tn_add:∀ (a b y:Nat),Tn (a + b) y = Tn b (Tn a y)
 | 0,b,y=>by rw [Nat.zero_add];rfl
 | a + 1,b,y=>by
  rw [show a + 1 + b = (a + b) + 1 by omega]
  exact Tn_add a b (T y)
theorem Tn_lt:∀ (n:Nat) {y:Nat},y < 4294967296 → Tn n y < 4294967296
 | 0,_,h=>h
 | n + 1,_,h=>Tn_lt n (T_lt h)
def byteStep (x:Nat) (b:UInt8):Nat:=Tn 8 (x ^^^ b.toNat)
def reg (x:Nat) (L:List UInt8):Nat:=L.foldl byteStep x
def crc (L:List UInt8):Nat:=reg 4294967295 L ^^^ 4294967295
def num:List UInt8 → Nat
 | []=>0
 | b :: r=>b.toNat + 256 * num r
theorem reg_append (x:Nat) (A B:List UInt8):reg x (A ++ B) = reg (reg x A) B:=List.foldl_append ..
theorem reg_lt {x:Nat} (hx:x < 4294967296) (L:List UInt8):reg x L < 4294967296:=by
 induction L generalizing x with
 | nil=>exact hx
 | cons b r ih =>
  refine ih (Tn_lt 8 (Nat.xor_lt_two_pow (n:=32) hx ?_))
  have:=b.toNat_lt
  omega
theorem crc_lt (L:List UInt8):crc L < 4294967296:=Nat.xor_lt_two_pow (n:=32) (reg_lt (by omega) L) (by omega)
def le:Nat → Nat → List UInt8
 | 0,_=>[]
 | k + 1,n=>UInt8.ofNat (n % 256) :: le k (n / 256)
theorem le_length:∀ (k n:Nat),(le k n).length = k
 | 0,_=>rfl
 | k + 1,n=>by unfold le;rw [List.length_cons,le_length k]
theorem num_le:∀ (k n:Nat),n < 256 ^ k → num (le k n) = n
 | 0,n,h=>by simp at h;subst h;rfl
 | k + 1,n,h=>by
  unfold le num
  rw [num_le k (n / 256) (by rw [Nat.pow_succ] at h;exact Nat.div_lt_of_lt_mul (by rw [Nat.mul_comm];exact h)),UInt8.toNat_ofNat_of_lt' (by show n % 256 < 256;omega)]
  omega
theorem num_append:∀ (A B:List UInt8),num (A ++ B) = num A + 256 ^ A.length * num B
 | [],B=>by simp [num]
 | a :: A,B=>by
  show a.toNat + 256 * num (A ++ B) = a.toNat + 256 * num A + _
  rw [num_append A B,List.length_cons,Nat.pow_succ,Nat.mul_add,Nat.add_assoc,← Nat.mul_assoc,Nat.mul_comm 256 (256 ^ A.length)]
theorem num_lt:∀ (A:List UInt8),num A < 256 ^ A.length
 | []=>by simp [num]
 | a :: A=>by
  have h:=num_lt A
  have:=a.toNat_lt
  unfold num
  rw [List.length_cons,Nat.pow_succ]
  omega
theorem pow256 (n:Nat):256 ^ n = 2 ^ (8 * n):=by rw [Nat.pow_mul]
end Su
end Go.Proofs.YtmidncclndongaaGreat
