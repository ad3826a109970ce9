/- Parts of the proof, joined: CkMath, RdSide, CkAt, BkStrApp, RlBase, SuTab, SuDone1, SuDone2, RlHead; their conditions stand with each. -/
import Derived.Lib.AppendStr
import Derived.Test.YtmidncclndongaaGreatC2
import Derived.Test.YtmidncclndongaaGreatC5
import Derived.Test.YtmidncclndongaaGreatC6
import Derived.Test.YtmidncclndongaaGreatC12

set_option maxRecDepth 20000
set_option maxHeartbeats 8000000
namespace Go.Proofs.YtmidncclndongaaGreat
namespace Ck
open Rd Sc Rc
def mxS:Int:=1125899906842624
theorem mx_eq:mxS = 1125899906842624:=rfl
def upB (n:Int):ByteArray:=⟨(recL (bareR 7 0 n)).toArray⟩
theorem up_ok {n:Int} (h1:1 ≤ n) (h2:n ≤ mxS):RecOk (bareR 7 0 n):=by
 have h3:=mx_eq
 refine ⟨⟨.inl rfl,?_,?_,?_⟩,(kind_7 rfl).2 ⟨⟨⟨rfl,rfl⟩,⟨rfl,rfl,rfl⟩,rfl⟩,rfl,?_⟩⟩
 ·show 0 ≤ n ∧ n ≤ 1125899906842624
  omega
 ·show (0:Int) ≤ 0;decide
 ·show (0:Int) < 16;decide
 ·show n ≠ 0;omega
theorem up_dec {n:Int} (h1:1 ≤ n) (h2:n ≤ mxS):decX (upB n) = (bareR 7 0 n,0):=decX_bytes (up_ok h1 h2)
theorem up_size {n:Int} (h1:1 ≤ n) (h2:n ≤ mxS):(upB n).size ≤ 80:=by
 have h3:=mx_eq
 have k:∀ z:Int,0 ≤ z → z ≤ 1125899906842624 → (Pk.signed z).length ≤ 9:=fun z z1 z2=>by
  refine (Pk.signed_len ?_).2
  constructor <;> omega
 have a1:=k 7 (by omega) (by omega)
 have a2:=k 0 (by omega) (by omega)
 have a3:=k n (by omega) (by omega)
 have h0:Pk.plain 6 = [6]:=Pk.plain_small (by omega)
 have h5:Pk.plain 2 = [2]:=Pk.plain_small (by omega)
 have h6:Pk.plain 0 = [0]:=Pk.plain_small (by omega)
 have e:recL (bareR 7 0 n) = Pk.plain 6 ++ ((Pk.signed 7 ++ (Pk.signed 0 ++ (Pk.signed n ++ (Pk.signed 0 ++ (Pk.signed 0 ++ (Pk.signed 0 ++ [])))))) ++ (Pk.plain 2 ++ ((Pk.plain 0 ++ []) ++ ((Pk.plain 0 ++ []) ++ [])))):=rfl
 show (recL (bareR 7 0 n)).toArray.size ≤ 80
 rw [List.size_toArray,e,h0,h5,h6]
 simp only [List.length_append,List.length_cons,List.length_nil]
 omega
noncomputable def loadC:List ByteArray → Int → Option Int
 | [],b=>some b
 | t :: r,b=>if (decX t).2 = 0 ∧ (decX t).1.kind = 7 ∧ b < (decX t).1.ts then loadC r (decX t).1.ts else none
theorem load_app (a c:List ByteArray):∀ b,loadC (a ++ c) b = (loadC a b).bind (loadC c):=by
 induction a with
 | nil=>intro b;rfl
 | cons t r ih =>
  intro b
  show (if (decX t).2 = 0 ∧ (decX t).1.kind = 7 ∧ b < (decX t).1.ts then loadC (r ++ c) (decX t).1.ts else none) = (if (decX t).2 = 0 ∧ (decX t).1.kind = 7 ∧ b < (decX t).1.ts then loadC r (decX t).1.ts else none).bind (loadC c)
  split
  ·exact ih _
  ·rfl
theorem load_snoc {ts:List ByteArray} {t:ByteArray} {b0 b:Int} (h:loadC ts b0 = some b):loadC (ts ++ [t]) b0 = if (decX t).2 = 0 ∧ (decX t).1.kind = 7 ∧ b < (decX t).1.ts then some (decX t).1.ts else none:=by
 rw [load_app,h]
 rfl
theorem load_up {ts:List ByteArray} {b n:Int} (h:loadC ts 0 = some b) (h1:b < n) (h0:0 ≤ b) (h2:n ≤ mxS):loadC (ts ++ [upB n]) 0 = some n:=by
 rw [load_snoc h,up_dec (by omega) h2]
 exact if_pos ⟨rfl,rfl,h1⟩
theorem load_one {n:Int} (h1:1 ≤ n) (h2:n ≤ mxS):loadC [upB n] 0 = some n:=load_up (ts:=[]) (b:=0) rfl (by omega) (by omega) h2
theorem dec_stamp {t:ByteArray} (h:(decX t).2 = 0):(decX t).1.ts ≤ mxS:=by
 rcases decX_cases t with ⟨r,h1,_,h3⟩ | ⟨_,h3⟩
 ·rw [h3]
  have:Lt.stampOk r.ts:=h1.1.2.1
  exact this.2
 ·rw [h3] at h
  exact absurd h (by decide)
theorem load_rng:∀ {ts:List ByteArray} {b0 b:Int},loadC ts b0 = some b → b0 ≤ mxS → b0 ≤ b ∧ b ≤ mxS
 | [],b0,b,h,h0=>by cases h;exact ⟨Int.le_refl _,h0⟩
 | t :: r,b0,b,h,h0=>by
  unfold loadC at h
  split at h
  next hc =>
   have h2:=load_rng h (dec_stamp hc.1)
   exact ⟨by omega,h2.2⟩
  ·cases h
def writeC (D:Dev) (l:Lg) (t:ByteArray):Dev × Lg × Int :=
 if (appendP D l t).2 = 100 then restartP D (appendP D l t).1 [t]
 else if (appendP D l t).2 = 0 then syncP D (appendP D l t).1
 else (D,appendP D l t)
structure Cl where
 l:Lg
 last:Int
 bound:Int
def raiseC (D:Dev) (k:Cl) (n:Int):Dev × Cl × Int :=
 ((writeC D k.l (upB n)).1,⟨(writeC D k.l (upB n)).2.1,k.last,if (writeC D k.l (upB n)).2.2 = 0 then n else k.bound⟩,(writeC D k.l (upB n)).2.2)
def nextC (D:Dev) (k:Cl) (blk:Int):Dev × Cl × Int × Int :=
 if k.last = mxS then (D,k,0,160)
 else if k.last = k.bound then
  if (raiseC D k (min (k.bound + blk) mxS)).2.2 = 0 then
   ((raiseC D k (min (k.bound + blk) mxS)).1,⟨(raiseC D k (min (k.bound + blk) mxS)).2.1.l,k.last + 1,(raiseC D k (min (k.bound + blk) mxS)).2.1.bound⟩,k.last + 1,0)
  else ((raiseC D k (min (k.bound + blk) mxS)).1,(raiseC D k (min (k.bound + blk) mxS)).2.1,0,(raiseC D k (min (k.bound + blk) mxS)).2.2)
 else (D,⟨k.l,k.last + 1,k.bound⟩,k.last + 1,0)
def skipC (D:Dev) (k:Cl) (to':Int):Dev × Cl × Int :=
 if to' < k.last ∨ mxS < to' then (D,k,1)
 else if k.bound < to' then
  if (raiseC D k to').2.2 = 0 then ((raiseC D k to').1,⟨(raiseC D k to').2.1.l,to',(raiseC D k to').2.1.bound⟩,0)
  else raiseC D k to'
 else (D,⟨k.l,to',k.bound⟩,0)
noncomputable def openC (D:Dev) (blk:Int):Dev × Option Cl × Int :=
 if blk < 1 ∨ 4096 < blk then (D,none,1) else
 match (openP D).2.1 with
 | none=>((openP D).1,none,(openP D).2.2)
 | some l=>match loadC l.ts 0 with
  | none=>((openP D).1,none,101)
  | some b=>((openP D).1,some ⟨l,b,b⟩,0)
structure ClOk (k:Cl):Prop where
 l0:0 ≤ k.last
 lb:k.last ≤ k.bound
 bm:k.bound ≤ mxS
theorem raise_ok {D:Dev} {k:Cl} {n:Int} (h:ClOk k) (h1:k.bound ≤ n) (h2:n ≤ mxS):ClOk (raiseC D k n).2.1:=by
 have h3:=h.l0
 have h4:=h.lb
 have h5:=h.bm
 unfold raiseC
 refine ⟨h3,?_,?_⟩
 ·show k.last ≤ if _ then _ else _
  split <;> omega
 ·show (if _ then _ else _) ≤ _
  split <;> omega
theorem raise_bound {D:Dev} {k:Cl} {n:Int} (h:(raiseC D k n).2.2 = 0):(raiseC D k n).2.1.bound = n:=if_pos h
theorem next_ok {D:Dev} {k:Cl} {blk:Int} (h:ClOk k) (hb:1 ≤ blk):ClOk (nextC D k blk).2.1:=by
 have h3:=h.l0
 have h4:=h.lb
 have h5:=h.bm
 unfold nextC
 split
 ·exact h
 next h6 =>
 split
 next h7 =>
  have h8:k.bound < min (k.bound + blk) mxS:=by
   rcases Int.min_def (k.bound + blk) mxS with e
   rw [e];split <;> omega
  have h9:min (k.bound + blk) mxS ≤ mxS:=Int.min_le_right _ _
  have hr:=raise_ok (D:=D) h (n:=min (k.bound + blk) mxS) (by omega) h9
  split
  next h10 =>
   refine ⟨by show 0 ≤ k.last + 1;omega,?_,hr.bm⟩
   show k.last + 1 ≤ (raiseC D k _).2.1.bound
   rw [raise_bound h10]
   omega
  ·exact hr
 next h7 =>
  exact ⟨by show 0 ≤ k.last + 1;omega,by show k.last + 1 ≤ k.bound;omega,h5⟩
theorem skip_ok {D:Dev} {k:Cl} {n:Int} (h:ClOk k):ClOk (skipC D k n).2.1:=by
 have h3:=h.l0
 have h4:=h.lb
 have h5:=h.bm
 unfold skipC
 split
 ·exact h
 next h6 =>
 split
 next h7 =>
  have hr:=raise_ok (D:=D) h (n:=n) (by omega) (by omega)
  split
  next h10 =>
   refine ⟨by show 0 ≤ n;omega,?_,hr.bm⟩
   show n ≤ (raiseC D k n).2.1.bound
   rw [raise_bound h10]
   exact Int.le_refl _
  ·exact hr
 next h7 =>
  exact ⟨by show 0 ≤ n;omega,by show n ≤ k.bound;omega,h5⟩
theorem open_ok {D:Dev} {blk:Int} {k:Cl} (h:(openC D blk).2.1 = some k):ClOk k:=by
 unfold openC at h
 split at h
 ·cases h
 split at h
 ·cases h
 split at h
 ·cases h
 next hl =>
  cases h
  have:=load_rng hl (by rw [mx_eq];omega)
  exact ⟨this.1,Int.le_refl _,this.2⟩
theorem app_cnt (D:Dev) (l:Lg) (t:ByteArray):(appendP D l t).1.cnt = l.cnt:=by
 unfold appendP
 split
 ·rfl
 split
 ·rfl
 ·rfl
section
variable {D:Dev} {l:Lg} {k:Cl}
theorem write_in (hok:DevOk D) (h:LgIn D l) (hu:D.down = false) (hc:l.cnt < 4611686018427388000) (t:ByteArray) :
  ((writeC D l t).1.down = false ∧ LgIn (writeC D l t).1 (writeC D l t).2.1 ∧ (writeC D l t).2.1.cnt ≤ l.cnt + 1) ∨ ((writeC D l t).2.2 = 90 ∧ (writeC D l t).1.down = true):=by
 have ha:=app_in hok h t
 have hac:=app_cnt D l t
 unfold writeC
 split
 ·rcases rst_in hok ha hu (by omega) [t] with ⟨q1,q2,q3⟩ | q
  ·exact .inl ⟨q1,q2,by omega⟩
  ·exact .inr q
 split
 ·rcases sync_in hok ha hu (by omega) with ⟨_,q1,q2,q3⟩ | q
  ·exact .inl ⟨q1,q2,by omega⟩
  ·exact .inr q
 ·exact .inl ⟨hu,ha,by rw [hac];exact Nat.le_succ _⟩
theorem next_in (hok:DevOk D) (h:LgIn D k.l) (hu:D.down = false) (hc:k.l.cnt < 4611686018427388000) (blk:Int) :
  (nextC D k blk).1.down = false → LgIn (nextC D k blk).1 (nextC D k blk).2.1.l ∧ (nextC D k blk).2.1.l.cnt ≤ k.l.cnt + 1:=by
 have hw:=fun n=>write_in hok h hu hc (upB n)
 have hr:∀ n,(raiseC D k n).1.down = false → LgIn (raiseC D k n).1 (raiseC D k n).2.1.l ∧ (raiseC D k n).2.1.l.cnt ≤ k.l.cnt + 1:=fun n hd=>by
  rcases hw n with q | ⟨_,q⟩
  ·exact q.2
  ·exact absurd (hd.symm.trans q) (by decide)
 unfold nextC
 split
 ·exact fun _=>⟨h,Nat.le_succ _⟩
 split
 ·split
  ·exact hr _
  ·exact hr _
 ·exact fun _=>⟨h,Nat.le_succ _⟩
theorem skip_in (hok:DevOk D) (h:LgIn D k.l) (hu:D.down = false) (hc:k.l.cnt < 4611686018427388000) (n:Int) :
  (skipC D k n).1.down = false → LgIn (skipC D k n).1 (skipC D k n).2.1.l ∧ (skipC D k n).2.1.l.cnt ≤ k.l.cnt + 1:=by
 have hr:(raiseC D k n).1.down = false → LgIn (raiseC D k n).1 (raiseC D k n).2.1.l ∧ (raiseC D k n).2.1.l.cnt ≤ k.l.cnt + 1:=fun hd=>by
  rcases write_in hok h hu hc (upB n) with q | ⟨_,q⟩
  ·exact q.2
  ·exact absurd (hd.symm.trans q) (by decide)
 unfold skipC
 split
 ·exact fun _=>⟨h,Nat.le_succ _⟩
 split
 ·split
  ·exact hr
  ·exact hr
 ·exact fun _=>⟨h,Nat.le_succ _⟩
theorem open_keeps (hok:DevOk D) {blk:Int} (h:(openC D blk).2.1 = some k):LgIn (openC D blk).1 k.l ∧ k.l.cnt ≤ 4611686018427387904 ∧ (openC D blk).1.down = false ∧ (openC D blk).2.2 = 0:=by
 unfold openC at h ⊢
 split at h
 ·cases h
 next hb =>
 rw [if_neg hb]
 cases ho:(openP D).2.1 with
 | none=>rw [ho] at h;cases h
 | some l =>
  rw [ho] at h
  have hi:=open_in hok ho
  simp only at h ⊢
  cases hl:loadC l.ts 0 with
  | none=>rw [hl] at h;cases h
  | some b =>
   rw [hl] at h
   cases h
   exact ⟨hi.1,hi.2.1,hi.2.2.1,rfl⟩
end
end Ck
end Go.Proofs.YtmidncclndongaaGreat
namespace Go.Proofs.YtmidncclndongaaGreat
namespace Rd
open Go.RowKit Sc Bk
theorem devF_of {Rep:RepT} (H:DevBase Rep):DevF 20 235 237 24 26 Rep :=
 ⟨H.lt,H.ok,H.kept,H.read,H.write,H.flush,H.fuse,H.crash⟩
section
variable {f1 f2 f3 f4 f5 f6 f7 f8 f9 f10:FuncId} {Rep:RepT} {LRep:LRepT} {w0 W W':World} {F F':Nat → Prop} {g p:Nat} {D D':Dev} {l:Lg} {o o':Option (Nat × Lg)}
theorem strs_fr {A:Option Addr} {ts:List ByteArray} (h:StrsAt W A ts) (hf:Fr F F' W W') (hn:∀ x,A = some x → ¬ F x.block):StrsAt W' A ts:=fun hp=>by
 obtain ⟨ad,e,hl,hc⟩:=h hp
 refine ⟨ad,e,Nat.lt_of_lt_of_le hl hf.size,fun i hi=>?_⟩
 have hkp:=hf.block ad.block hl (hn ad e)
 rw [← st_block ad i] at hkp
 refine Eq.trans ?_ (hc i hi)
 unfold World.cell?
 rw [hkp]
end
end Rd
end Go.Proofs.YtmidncclndongaaGreat
namespace Go.Proofs.YtmidncclndongaaGreat
namespace Ck
open Go.RowKit Bk Sc Rd
def Tc (F:Nat → Prop) (b:Nat):Nat → Prop:=fun k=>F k ∨ k = b
structure CAt (Rep:RepT) (LRep:LRepT) (t:TypeId) (W:World) (F:Nat → Prop) (b g p:Nat) (D:Dev) (blk:Int) (k:Cl):Prop where
 sd:Side Rep LRep W F g D (some (p,k.l))
 cel:Cel W b t [.pointer (some ⟨p,0,none⟩),.int .i64 blk,.int .i64 k.last,.int .i64 k.bound]
 nf:¬ F b
theorem Fr.after {F F':Nat → Prop} {w W W':World} (h:Below w.heap.size w W) (k:Fr F F' W W'):Fr F F' w W' :=
 ⟨k.os.trans h.os,k.tape.trans h.tape,k.output.trans h.output,Nat.le_trans h.size k.size,fun i hi hn=>(k.block i (Nat.lt_of_lt_of_le hi h.size) hn).trans (h.block i hi),fun i hi=>(k.foot i hi).elim .inl (fun hs=>.inr (Nat.le_trans h.size hs))⟩
theorem fr_less {w W:World} {P Q R:Nat → Prop} (h:Fr P Q w W) (hs:∀ k,R k → Q k):Fr P R w W:=⟨h.os,h.tape,h.output,h.size,h.block,fun k hk=>h.foot k (hs k hk)⟩
theorem fr_below {w W W':World} {P Q:Nat → Prop} (h:Fr P Q w W) (hb:Below W.heap.size W W'):Fr P Q w W' :=
 ⟨hb.os.trans h.os,hb.tape.trans h.tape,hb.output.trans h.output,Nat.le_trans h.size hb.size,fun k hk hn=>(hb.block k (Nat.lt_of_lt_of_le hk h.size)).trans (h.block k hk hn),h.foot⟩
theorem side_none {Rep:RepT} {LRep:LRepT} {w:World} {D:Dev} {g:Nat} {F:Nat → Prop} {o:Option (Nat × Lg)} (h:Side Rep LRep w F g D o):∃ F':Nat → Prop,(∀ k,F' k → F k) ∧ Side Rep LRep w F' g D none:=by
 obtain ⟨Fd,hs,h1⟩:=h.dev
 exact ⟨Fd,hs,h1⟩
section
variable {f1 f2 f3 f4 f5 f6 f7 f8 f9 f10:FuncId} {Rep:RepT} {LRep:LRepT} {t:TypeId} {w W W':World} {F F':Nat → Prop} {b g p:Nat} {D D':Dev} {blk:Int} {k k':Cl} {l':Lg}
theorem CAt.below (HD:DevF f1 f2 f3 f4 f5 Rep) (HL:LogF f6 f7 f8 f9 f10 Rep LRep) (h:CAt Rep LRep t W F b g p D blk k) (hb:Below W.heap.size W W'):CAt Rep LRep t W' F b g p D blk k :=
 ⟨h.sd.kept HD HL (fun j hj=>hb.block j (h.sd.lt HD HL j hj)),h.cel.below hb,h.nf⟩
theorem CAt.lt (HD:DevF f1 f2 f3 f4 f5 Rep) (HL:LogF f6 f7 f8 f9 f10 Rep LRep) (h:CAt Rep LRep t W F b g p D blk k):∀ j,Tc F b j → j < W.heap.size:=fun j hj=>hj.elim (h.sd.lt HD HL j) (fun e=>e ▸ h.cel.lt)
theorem CAt.kept (HD:DevF f1 f2 f3 f4 f5 Rep) (HL:LogF f6 f7 f8 f9 f10 Rep LRep) (h:CAt Rep LRep t W F b g p D blk k) (hk:∀ j,Tc F b j → W'.heap[j]? = W.heap[j]?):CAt Rep LRep t W' F b g p D blk k :=
 ⟨h.sd.kept HD HL (fun j hj=>hk j (.inl hj)),(hk b (.inr rfl)).trans h.cel,h.nf⟩
theorem CAt.dev (h:CAt Rep LRep t W F b g p D blk k) (h1:Side Rep LRep W' F' g D' (some (p,l'))) (h2:Fr F F' W W'):CAt Rep LRep t W' F' b g p D' blk ⟨l',k.last,k.bound⟩ ∧ Fr (Tc F b) (Tc F' b) W W' :=
 ⟨⟨h1,(h2.block b h.cel.lt h.nf).trans h.cel,fun hk=>(h2.foot b hk).elim h.nf (fun hs=>by have:=h.cel.lt;omega)⟩,
  ⟨h2.os,h2.tape,h2.output,h2.size,fun j hj hn=>h2.block j hj (fun hf=>hn (.inl hf)),fun j hj=>by
   rcases hj with h3 | h3
   ·exact (h2.foot j h3).elim (fun h4=>.inl (.inl h4)) .inr
   ·exact .inl (.inr h3)⟩⟩
theorem CAt.setLast (HD:DevF f1 f2 f3 f4 f5 Rep) (HL:LogF f6 f7 f8 f9 f10 Rep LRep) (h:CAt Rep LRep t W F b g p D blk k) (n:Int):CAt Rep LRep t (W.setCell ⟨b,2,none⟩ (.int .i64 n)) F b g p D blk ⟨k.l,n,k.bound⟩ :=
 ⟨h.sd.kept HD HL (fun j hj=>Below.heap_setCell W ⟨b,2,none⟩ _ j (fun e=>h.nf ((show j = b from e) ▸ hj))),h.cel.set (i:=2),h.nf⟩
theorem CAt.setBound (HD:DevF f1 f2 f3 f4 f5 Rep) (HL:LogF f6 f7 f8 f9 f10 Rep LRep) (h:CAt Rep LRep t W F b g p D blk k) (n:Int):CAt Rep LRep t (W.setCell ⟨b,3,none⟩ (.int .i64 n)) F b g p D blk ⟨k.l,k.last,n⟩ :=
 ⟨h.sd.kept HD HL (fun j hj=>Below.heap_setCell W ⟨b,3,none⟩ _ j (fun e=>h.nf ((show j = b from e) ▸ hj))),h.cel.set (i:=3),h.nf⟩
theorem fr_set {P Q:Nat → Prop} (h:Fr P Q w W) (hP:P b ∨ w.heap.size ≤ b) (i:Nat) (v:Value):Fr P Q w (W.setCell ⟨b,i,none⟩ v) :=
 ⟨h.os,h.tape,h.output,by simp only [World.setCell,Array.size_modify];exact h.size,fun j hj hn=>(Below.heap_setCell W ⟨b,i,none⟩ v j (fun e=>by
  have e2:j = b:=e
  rcases hP with q | q
  ·exact hn (e2 ▸ q)
  ·omega)).trans (h.block j hj hn),h.foot⟩
end
def CPost (Rep:RepT) (LRep:LRepT) (t:TypeId) (w:World) (F:Nat → Prop) (b g p:Nat) (blk:Int) (D:Dev) (k:Cl) (w':World):Prop :=
 ∃ F',CAt Rep LRep t w' F' b g p D blk k ∧ Fr (Tc F b) (Tc F' b) w w'
def OPost (Rep:RepT) (LRep:LRepT) (t:TypeId) (w:World) (F:Nat → Prop) (g:Nat) (blk:Int) (R:Dev × Option Cl × Int) (e:Ending) (w':World):Prop :=
 (∃ k,R.2.1 = some k ∧ R.2.2 = 0 ∧ ∃ (F':Nat → Prop) (b p:Nat),e = .returned (.tuple #[.pointer (some ⟨b,0,none⟩),.int .i64 0]) ∧ CAt Rep LRep t w' F' b g p R.1 blk k ∧ Fr F (Tc F' b) w w') ∨
 (R.2.1 = none ∧ R.2.2 ≠ 0 ∧ e = .returned (.tuple #[.pointer none,.int .i64 R.2.2]) ∧ ∃ F':Nat → Prop,Side Rep LRep w' F' g R.1 none ∧ Fr F F' w w')
end Ck
end Go.Proofs.YtmidncclndongaaGreat
namespace Go.Proofs.YtmidncclndongaaGreat
namespace Bk
open Go.RowKit Go.Lib
theorem run_append_string_at {P:Program} (w:World) (base:Nat) (t u ty e:TypeId) (i:TypeInfo) (ht:P.underlying t = some (.slice e)) (hu:P.underlying u = some .string) (hi:P.info? e = some i) (hz:i.zero = some (.int .u8 0))
  (hsize:i.size = 1) (hby:i.bytes = 1) (v:Value) (n:Nat) (xs:List Value) (hown:w.ownsRow base e 1 v n xs) (s:ByteArray) (h63:n + s.size ≤ maxLen) (hbytes:n + s.size ≤ 140737488355328) (hbase:base ≤ w.heap.size) :
  ∃ v' w',(Builtin.append_ #[t,u] ty #[v,.string s]).run P w = .ok v' w' ∧ w'.ownsRow base e 1 v' (n + s.size) (xs ++ strCells s) ∧ w.grownBy w' v.ownBlock ∧ (v'.ownBlock = v.ownBlock ∨ v'.ownBlock = some w.heap.size):=by
 obtain ⟨v',w',hr,h2,h3,h4⟩:=run_append_own_string (P:=P) w base t u ty e i ht hu hi hz hsize hby v n xs hown s h63 hbytes hbase
 refine ⟨v',w',hr,h2,h3,?_⟩
 have hxl:xs.length = n:=by simpa using hown.1
 rcases hown.2 with ⟨rfl,rfl⟩ | ⟨g,cap,cur,rfl,hbg,hg,hnc,hcm,hcs,htake⟩
 ·by_cases hm:s.size = 0
  ·rw [h4.2 ⟨rfl,hm⟩]
   exact .inl rfl
  ·have hr2:=run_append_nil_string (P:=P) w t u ty e i (.int .u8 0) ht hu hi hz s (by omega) (by unfold maxLen at h63;omega) (by rw [hby];omega)
   rw [hr] at hr2
   simp only [Result.ok.injEq] at hr2
   rw [hr2.1]
   exact .inr rfl
 ·by_cases hroom:n + s.size ≤ cap
  ·have hsz:cur.size = cap:=by simpa using hcs
   have hr2:=run_append_room_string (P:=P) w t u ty e i ht hu hi hsize g n cap cur hg s hroom (by omega)
   rw [hr] at hr2
   simp only [Result.ok.injEq] at hr2
   rw [hr2.1]
   exact .inl rfl
  ·have hr2:=run_append_grow_string (P:=P) w t u ty e i (.int .u8 0) ht hu hi hz ⟨g,0,none⟩ n cap xs (by rw [hsize];simpa using hxl) (hown.cells (g:=g) rfl) s (by omega) (by unfold maxLen at h63;omega) (by rw [hby];exact growslice_fits (by omega) (by omega))
   rw [hr] at hr2
   simp only [Result.ok.injEq] at hr2
   rw [hr2.1]
   exact .inr rfl
theorem wpList_append_string_at {P:Program} {w:World} {ops:Array Oper} {rest:List Oper} {o:Oper} {a:Act} {Q:Exit → Act → World → Prop} (hgd:o.guard = none) (sl x:Operand) (t u:TypeId)
  (ho:o.op = .call { callee:=.builtin .append,args:=#[sl,x],argTypes:=#[t,u] })
  (base:Nat) (e:TypeId) (i:TypeInfo) (ht:P.underlying t = some (.slice e)) (hu:P.underlying u = some .string) (hi:P.info? e = some i) (hz:i.zero = some (.int .u8 0))
  (hsize:i.size = 1) (hby:i.bytes = 1)
  (v:Value) (n:Nat) (xs:List Value) (hs:a.eval sl = v) (hown:w.ownsRow base e 1 v n xs) (s:ByteArray) (hx:a.eval x = .string s)
  (h63:n + s.size ≤ maxLen) (hbytes:n + s.size ≤ 140737488355328) (hbase:base ≤ w.heap.size)
  (h:∀ v' w',w'.ownsRow base e 1 v' (n + s.size) (xs ++ strCells s) → w.grownBy w' v.ownBlock → (v'.ownBlock = v.ownBlock ∨ v'.ownBlock = some w.heap.size) → wpList P ops Q rest (a.put o.dst v') w'):wpList P ops Q (o :: rest) a w:=by
 refine wpList_plain hgd fun K hK=>?_
 obtain ⟨v',w',hr,h2,h3,h4⟩:=run_append_string_at (P:=P) w base t u o.type e i ht hu hi hz hsize hby v n xs hown s h63 hbytes hbase
 unfold Oper.wp execOp
 simp only [ho,resolve,invoke,builtin,Sem.run_bind,Sem.run_pure,Result.andThen_ok,List.map_toArray,List.map_cons,List.map_nil,hs,hx,hr]
 exact hK _ _ (h v' w' h2 h3 h4)
end Bk
end Go.Proofs.YtmidncclndongaaGreat
namespace Go.Proofs.YtmidncclndongaaGreat
namespace Rd
open Go.RowKit Sc Bk
attribute [local go_sem ↓] Go.wp_at_zero Go.wp_at_succ
attribute [local go_sem] floatUpon pick
structure DevQ (Rep:RepT):Prop where
 lt:∀ {W F g D},Rep W F g D → ∀ k,F k → k < W.heap.size
 ok:∀ {W F g D},Rep W F g D → DevOk D
 kept:∀ {W W' F g D},Rep W F g D → (∀ k,F k → W'.heap[k]? = W.heap[k]?) → Rep W' F g D
 size:∀ {F g D} (w:World),Rep w F g D → Calls Tryz.prog 94 #[.pointer (some ⟨g,0,none⟩)] w fun e w'=>e = .returned (.int .i64 (D.on.length:Int)) ∧ w' = w
 read:∀ {F g D} (i:Int) (w:World),Rep w F g D → -9223372036854775808 ≤ i ∧ i ≤ 9223372036854775807 → Calls Tryz.prog 20 #[.pointer (some ⟨g,0,none⟩),.int .i64 i] w fun e w'=>e = .returned (.tuple #[.string (rdV D i).1,.int .i64 (rdV D i).2]) ∧ Below w.heap.size w w'
def LC (W:World) (p g c a n:Nat) (A:Value) (mn:Nat) (B:Value):Prop :=
 Cel W p 184 [.pointer (some ⟨g,0,none⟩),.int .i64 (c:Int),.int .i64 (a:Int),.int .i64 (n:Int),A,.int .i64 (mn:Int),B]
def LFt (p:Nat) (A B:Value):Nat → Prop:=fun k=>k = p ∨ A.ownBlock = some k ∨ B.ownBlock = some k
structure LL (W:World) (p g:Nat) (A B:Value) (l:Lg):Prop where
 cel:LC W p g l.cnt l.ar l.bs.length A l.mn B
 txt:W.ownsRow 0 9 1 A l.ts.length (strV l.ts)
 wt:W.ownsRow 0 5 1 B (waitL l).length (Lib.byteCells (waitL l))
def LRep (W:World) (L:Nat → Prop) (p g _n:Nat) (l:Lg):Prop:=∃ A B,L = LFt p A B ∧ LL W p g A B l
section
variable {Rep:RepT} {W W' w:World} {F:Nat → Prop} {p g c a n m mn:Nat} {A B:Value} {l:Lg} {D:Dev}
theorem DevQ.step (H:DevQ Rep) (h:Rep W F g D) (hb:Below W.heap.size W W'):Rep W' F g D:=H.kept h fun k hk=>hb.block k (H.lt h k hk)
theorem own_kept {e:TypeId} {H:Nat} {v:Value} {k:Nat} {xs:List Value} (h:W.ownsRow H e 1 v k xs) (hk:∀ j,v.ownBlock = some j → W'.heap[j]? = W.heap[j]?):W'.ownsRow H e 1 v k xs:=by
 rcases h with ⟨hl,hn | ⟨j,cap,cur,hv,hb,hg,rest⟩⟩
 ·exact ⟨hl,.inl hn⟩
 ·exact ⟨hl,.inr ⟨j,cap,cur,hv,hb,(hk j (by rw [hv];rfl)).trans hg,rest⟩⟩
theorem own_lt {e:TypeId} {H:Nat} {v:Value} {k:Nat} {xs:List Value} (h:W.ownsRow H e 1 v k xs):∀ j,v.ownBlock = some j → j < W.heap.size:=fun j hj=>by
 rcases h with ⟨hl,⟨hn,_⟩ | ⟨i,cap,cur,hv,hb,hg,rest⟩⟩
 ·rw [hn] at hj;cases hj
 ·rw [hv] at hj;cases hj;exact (Array.getElem?_eq_some_iff.1 hg).1
theorem own_far {e t:TypeId} {H:Nat} {v:Value} {k q:Nat} {xs ys:List Value} (h:W.ownsRow H e 1 v k xs) (hc:Cel W q t ys) (hn:e ≠ t):v.ownBlock ≠ some q:=fun e'=>by
 rcases h with ⟨hl,⟨hn,_⟩ | ⟨i,cap,cur,hv,hb,hg,rest⟩⟩
 ·rw [hn] at e';cases e'
 ·rw [hv] at e';cases e'
  unfold Cel at hc
  rw [hg] at hc
  simp only [Option.some.injEq,Obj.cells.injEq] at hc
  exact hn hc.2.1
theorem LL.lt (h:LL W p g A B l):∀ k,LFt p A B k → k < W.heap.size:=fun k hk=>by
 rcases hk with rfl | hk | hk
 ·exact h.cel.lt
 ·exact own_lt h.txt k hk
 ·exact own_lt h.wt k hk
theorem LL.kept (h:LL W p g A B l) (hk:∀ k,LFt p A B k → W'.heap[k]? = W.heap[k]?):LL W' p g A B l :=
 ⟨(hk p (.inl rfl)).trans h.cel,own_kept h.txt fun j hj=>hk j (.inr (.inl hj)),own_kept h.wt fun j hj=>hk j (.inr (.inr hj))⟩
theorem LL.step (h:LL W p g A B l) (hb:Below W.heap.size W W'):LL W' p g A B l:=h.kept fun k hk=>hb.block k (h.lt k hk)
theorem LL.dA (h:LL W p g A B l):A.ownBlock ≠ some p:=own_far h.txt h.cel (by decide)
theorem LL.dB (h:LL W p g A B l):B.ownBlock ≠ some p:=own_far h.wt h.cel (by decide)
theorem sectors_any (H:DevQ Rep) (hr:Rep w F g D) (hc:LC w p g c a n A mn B) (h2:4 ≤ D.on.length) :
  Calls Tryz.prog 304 #[.pointer (some ⟨p,0,none⟩)] w fun e w'=>e = .returned (.int .i64 (((D.on.length - 2) / 2:Nat):Int)) ∧ w' = w:=by
 have k0:=hc.cell (i:=0) rfl
 have hmx:=(H.ok hr).max
 have HS:=Lib.hid (H.size w hr)
 obtain ⟨x,hx⟩:∃ x,x = (D.on.length - 2) / 2:=⟨_,rfl⟩
 have e2:((D.on.length:Int) - 2).tdiv 2 = (x:Int):=by rw [Int.tdiv_eq_ediv_of_nonneg (by omega)];omega
 have b1:x ≤ 1024:=by omega
 rw [← hx]
 clear hx hc hr
 generalize D.on.length = N at *
 go_enter Tryz.func304,Tryz.ntmps304
 go_wp2_with fail
 refine HS.out.mono ?_
 rintro e w' ⟨rfl,rfl⟩
 go_wp2_with fail
 go_ret
 exact ⟨rfl,rfl⟩
theorem most_any (H:DevQ Rep) (hr:Rep w F g D) (hc:LC w p g c a n A mn B) (h2:4 ≤ D.on.length) :
  Calls Tryz.prog 229 #[.pointer (some ⟨p,0,none⟩)] w fun e w'=>e = .returned (.int .i64 (areaN D:Int)) ∧ w' = w:=by
 have HS:=Lib.hid (sectors_any H hr hc h2)
 have hmx:=(H.ok hr).max
 obtain ⟨x,hx⟩:∃ x,x = (D.on.length - 2) / 2:=⟨_,rfl⟩
 have e3:(x:Int) * 64 = (areaN D:Int):=by unfold areaN;omega
 have b1:x ≤ 1024:=by omega
 have b2:areaN D ≤ 65536:=by omega
 rw [← hx] at HS
 clear hx hc hr hmx
 generalize areaN D = ab at *
 go_enter Tryz.func229,Tryz.ntmps229
 go_wp2_with fail
 refine HS.out.mono ?_
 rintro e w' ⟨rfl,rfl⟩
 go_wp2_with fail
 go_ret
 exact ⟨rfl,rfl⟩
theorem first_any (H:DevQ Rep) (hr:Rep w F g D) (hc:LC w p g c a n A mn B) (h2:4 ≤ D.on.length) (i:Nat) (hi:i ≤ 1) :
  Calls Tryz.prog 238 #[.pointer (some ⟨p,0,none⟩),.int .i64 (i:Int)] w fun e w'=>e = .returned (.int .i64 (areaAt D i:Int)) ∧ w' = w:=by
 have HS:=Lib.hid (sectors_any H hr hc h2)
 have hmx:=(H.ok hr).max
 obtain ⟨x,hx⟩:∃ x,x = (D.on.length - 2) / 2:=⟨_,rfl⟩
 have b1:x ≤ 1024:=by omega
 have e4:areaAt D i = 2 + i * x:=by unfold areaAt areaN;rw [← hx,Nat.mul_div_cancel _ (by omega)]
 rw [← hx] at HS
 rw [e4]
 clear hx hc hr hmx e4
 have hi':i = 0 ∨ i = 1:=by omega
 rcases hi' with rfl | rfl
 ·simp only [Nat.zero_mul,Nat.add_zero]
  go_enter Tryz.func238,Tryz.ntmps238
  go_wp2_with fail
  refine HS.out.mono ?_
  rintro e w' ⟨rfl,rfl⟩
  go_wp2_with fail
  go_ret
  exact ⟨by simp,rfl⟩
 ·have e5:2 + 1 * (x:Int) = ((2 + 1 * x:Nat):Int):=by omega
  go_enter Tryz.func238,Tryz.ntmps238
  go_wp2_with fail
  refine HS.out.mono ?_
  rintro e w' ⟨rfl,rfl⟩
  go_wp2_with fail
  go_ret
  exact ⟨by simp,rfl⟩
end
end Rd
end Go.Proofs.YtmidncclndongaaGreat
namespace Go.Proofs.YtmidncclndongaaGreat
namespace Su
end Su
end Go.Proofs.YtmidncclndongaaGreat
namespace Go.Proofs.YtmidncclndongaaGreat
namespace Su
open Go.RowKit Bk
attribute [local go_sem ↓] Go.wp_at_zero Go.wp_at_succ
attribute [local go_sem] floatUpon pick
theorem u32_and1 (x:Nat) (hx:x < 4294967296):bits .and .u32 (x:Int) 1 = ((x % 2:Nat):Int):=by
 have h:=u32_and_nat x 1 hx (by omega)
 rw [nat_mask1] at h
 exact h
theorem step_any (x:Nat) (w:World) (hx:x < 4294967296) :
  Calls Tryz.prog 342 #[.int .u32 (x:Int)] w fun e w'=>e = .returned (.int .u32 ((T x:Nat):Int)) ∧ w' = w:=by
 have ha:=u32_and1 x hx
 by_cases h:x % 2 = 1
 ·have ht:T x = (x / 2) ^^^ 3988292384:=by unfold T;rw [if_pos h]
  have hb:bits .xor .u32 ((x:Int) / 2) 3988292384 = ((T x:Nat):Int):=by
   have:=u32_xor_nat (x / 2) 3988292384 (by omega) (by omega)
   rw [← ht,Int.natCast_ediv] at this
   exact this
  rw [h] at ha
  have ha':(bits .and .u32 (x:Int) 1 == 1) = true:=by rw [ha];rfl
  clear ha ht
  go_enter Tryz.func342,Tryz.ntmps342
  go_wp2_with fail
  go_ret
  exact ⟨rfl,rfl⟩
 ·have h0:x % 2 = 0:=by omega
  have ht:((x:Int) / 2) = ((T x:Nat):Int):=T_even h
  rw [h0] at ha
  have ha':(bits .and .u32 (x:Int) 1 == 1) = false:=by rw [ha];rfl
  clear ha
  go_enter Tryz.func342,Tryz.ntmps342
  go_wp2_with fail
  go_ret
  exact ⟨rfl,rfl⟩
theorem over_any (x:Nat) (s:ByteArray) (w:World) (hx:x < 4294967296) (hs:s.size ≤ 9223372036854775807) :
  Calls Tryz.prog 303 #[.int .u32 (x:Int),.string s] w fun e w'=>e = .returned (.int .u32 ((reg x s.data.toList:Nat):Int)) ∧ w' = w:=by
 have hb:(s.size:Int) ≤ 9223372036854775807:=by omega
 have HX:=Lib.hid hx
 clear hx
 go_enter Tryz.func303,Tryz.ntmps303
 go_wp2_with fail
 go_loopw [0,8] (fun y i wr=>∃ j:Nat,j ≤ s.size ∧ i = .int .i64 (j:Int) ∧ y = .int .u32 ((reg x (s.data.toList.take j):Nat):Int) ∧ wr = w) (fun _ i _=>s.size - (intOf i).toNat)
 case atStart=>exact ⟨0,by omega,rfl,rfl,rfl⟩
 case round =>
  obtain ⟨j,hj,rfl,rfl,rfl⟩:=hrel
  by_cases hlt:j < s.size
  ·have pj:(j:Int) < (s.size:Int):=by omega
   have hlen:j < s.data.toList.length:=by rw [Array.length_toList];exact hlt
   have hstep:reg x (s.data.toList.take (j + 1)) = Tn 8 (reg x (s.data.toList.take j) ^^^ (s[j]'hlt).toNat):=by
    rw [List.take_add_one,List.getElem?_eq_getElem hlen,reg_append,Array.getElem_toList];rfl
   have hr:=reg_lt HX.out (s.data.toList.take j)
   have HS:=Lib.hid hstep
   have hb8:(s[j]'hlt).toNat < 256:=(s[j]'hlt).toNat_lt
   generalize hbv:(s[j]'hlt).toNat = b at hb8
   have hix:∀ W,(Instr.index 9 (.string s) (.int .i64 (j:Int))).run Tryz.prog W = .ok (.int .u8 (b:Int)) W:=fun W=>by
    rw [run_index_string W 9 s .i64 _ Tryz.underlying9,dif_pos (by omega)]
    simp only [Int.toNat_natCast,hbv]
   rw [hbv] at HS
   generalize reg x (s.data.toList.take j) = z0 at hr HS ⊢
   have hxx:=u32_xor_nat z0 b hr (by omega)
   have hx2:z0 ^^^ b < 4294967296:=Nat.xor_lt_two_pow (n:=32) hr (by omega)
   generalize hy:z0 ^^^ b = y at hxx hx2
   rw [hy] at HS
   have HX2:=Lib.hid hx2
   clear hstep hbv hy hlen hx2
   go_wp2_with fail
   obtain ⟨wo,rfl⟩:∃ wo:World,wo = wr:=⟨_,rfl⟩
   go_loopw [0,17] (fun x i wr=>∃ k:Nat,k ≤ 8 ∧ i = .int .i64 (k:Int) ∧ x = .int .u32 ((Tn k y:Nat):Int) ∧ wr = wo) (fun _ i _=>8 - (intOf i).toNat)
   case atStart=>exact ⟨0,by omega,rfl,rfl,rfl⟩
   case round =>
    obtain ⟨k,hk,rfl,rfl,rfl⟩:=hrel
    by_cases hk8:k < 8
    ·have pk:(k:Int) < 8:=by omega
     have hz:=Tn_lt k HX2.out
     have hs2:=Tn_succ' k y
     generalize Tn k y = z at hz hs2 ⊢
     have HC:=Lib.hid (fun W=>step_any z W hz)
     rw [← hs2] at HC
     clear hs2 hz
     go_wp2_with fail
     refine (HC.out _).mono ?_
     rintro e w' ⟨rfl,rfl⟩
     go_wp2_with fail
     go_roundw
     case rel=>exact ⟨k + 1,by omega,by go_num,rfl,trivial⟩
     case measure=>simp [intOf];omega
    ·obtain rfl:k = 8:=by omega
     have HSo:=HS.out
     go_wp2_with fail
     go_roundw
     case rel=>exact ⟨j + 1,by omega,by go_num,by rw [HSo],trivial⟩
     case measure=>simp [intOf];omega
  ·obtain rfl:j = s.size:=by omega
   have hc:s.data.toList.take s.size = s.data.toList:=List.take_of_length_le (by rw [Array.length_toList];exact Nat.le_refl _)
   rw [hc]
   clear hc
   go_wp2_with fail
   go_ret
   exact ⟨rfl,rfl⟩
theorem of_any (A:Option Addr) (c:Nat) (l:List ByteArray) (w:World) (h:StrsAt w A l) (hn:l.length ≤ 9223372036854775807) (hs:(catL l).length ≤ 9223372036854775807) :
  Calls Tryz.prog 228 #[.slice A l.length c] w fun e w'=>e = .returned (.int .i64 ((crc (catL l):Nat):Int)) ∧ w' = w:=by
 have HA:=Lib.hid h
 clear h
 go_enter Tryz.func228,Tryz.ntmps228
 go_wp2_with fail
 go_loopw [3,8] (fun x i wr=>∃ j:Nat,j ≤ l.length ∧ i = .int .i64 (j:Int) ∧ x = .int .u32 ((reg 4294967295 (catL (l.take j)):Nat):Int) ∧ wr = w) (fun _ i _=>l.length - (intOf i).toNat)
 case atStart=>exact ⟨0,by omega,rfl,rfl,rfl⟩
 case round =>
  obtain ⟨j,hj,rfl,rfl,rfl⟩:=hrel
  have hr:=reg_lt (x:=4294967295) (by omega) (catL (l.take j))
  by_cases hlt:j < l.length
  ·have pj:(j:Int) < (l.length:Int):=by omega
   obtain ⟨ad,rfl,hab,hcl⟩:=HA.out (by omega)
   have x1:=hcl j hlt
   have hz:=catL_le l (j + 1)
   have hz2:l[j].data.toList.length = l[j].size:=Array.length_toList
   have hct:=catL_take l j hlt
   rw [hct,List.length_append,hz2] at hz
   have hst:reg 4294967295 (catL (l.take (j + 1))) = reg (reg 4294967295 (catL (l.take j))) l[j].data.toList:=by rw [hct,reg_append]
   have HO:=Lib.hid (fun W=>over_any (reg 4294967295 (catL (l.take j))) l[j] W hr (by omega))
   rw [← hst] at HO
   clear hst hct hcl
   generalize reg 4294967295 (catL (l.take j)) = z at hr HO ⊢
   generalize l[j] = s at x1 HO hz hz2
   clear hz hz2
   go_wp2_with fail
   refine (HO.out _).mono ?_
   rintro e w' ⟨rfl,rfl⟩
   go_wp2_with fail
   go_roundw
   case rel=>exact ⟨j + 1,by omega,by go_num,rfl,trivial⟩
   case measure=>simp [intOf];omega
  ·obtain rfl:j = l.length:=by omega
   rw [List.take_of_length_le (Nat.le_refl _)] at hr ⊢
   have hx:=u32_xor_nat (reg 4294967295 (catL l)) 4294967295 hr (by omega)
   have hcl:=crc_lt (catL l)
   have hc:reg 4294967295 (catL l) ^^^ 4294967295 = crc (catL l):=rfl
   rw [hc] at hx
   clear hc
   generalize reg 4294967295 (catL l) = x at hr hx ⊢
   obtain ⟨C,hC⟩:∃ C,C = crc (catL l):=⟨_,rfl⟩
   rw [← hC] at hx hcl
   have hx':bits .xor .u32 (x:Int) 4294967295 = (C:Int):=hx
   have HC:=Lib.hid hC
   clear hx hC
   go_wp2_with fail
   go_ret
   exact ⟨by rw [← HC.out];rfl,rfl⟩
theorem byte_set (L:List UInt8) (j:Nat) (h:j < L.length):(Lib.byteCells L)[j]? = some (.int .u8 ((L[j].toNat:Nat):Int)):=by
 unfold Lib.byteCells
 rw [List.getElem?_map,List.getElem?_eq_getElem h];rfl
theorem le_at:∀ (k n i:Nat),i < k → (le k n)[i]? = some (UInt8.ofNat (n / 256 ^ i % 256))
 | 0,_,_,h=>absurd h (by omega)
 | k + 1,n,0,_=>by simp [le]
 | k + 1,n,i + 1,h=>by
  show (le k (n / 256))[i]? = _
  rw [le_at k (n / 256) i (by omega),Nat.div_div_eq_div_mul,Nat.pow_succ,Nat.mul_comm 256]
theorem low_any (n k:Nat) (w:World) (_hn:n ≤ 9223372036854775807) (h1:1 ≤ k) (hk:k ≤ 7) :
  Calls Tryz.prog 227 #[.int .i64 (k:Int),.int .i64 (n:Int)] w fun e w'=>e = .returned (.string ⟨(le k n).toArray⟩) ∧ Below w.heap.size w w':=by
 obtain ⟨i0,hi,hz0,hz1,hz2⟩:=info_parts Tryz.infoU8
 have hV:(Lib.byteCells (le k n)).length = k:=by rw [Lib.byteCells_length,le_length]
 go_enter Tryz.func227,Tryz.ntmps227
 go_wp2_with (at_make;refine wpList_make_full _ rfl (.tmp 7) (.tmp 7) 119 rfl w.heap.size 5 i0 (.int .u8 0) 1 Tryz.underlying119 hi hz0 hz1 .i64 .i64 _ _ k rfl rfl rfl rfl (by rw [hz2];omega) (by unfold maxLen;omega) (by simp) ?_;intro w2 hown hgrow)
 have hown0:w2.ownsRow w.heap.size 5 1 (.slice (some ⟨w.heap.size,0,none⟩) k k) k (preV (Lib.byteCells (le k n)) (.int .u8 0) 0):=by
  rw [preV_zero (Lib.byteCells (le k n)) (.int .u8 0) k hV rfl] at hown;exact hown
 have hbel0:Below w.heap.size w w2:=(Below.refl _ _).grown hgrow (Nat.le_refl _) (fun k hk=>by cases hk)
 have HV:=Lib.hid hV
 clear hown hgrow hV
 go_loopw [11] (fun i wr=>∃ j:Nat,j ≤ k ∧ i = .int .i64 (j:Int) ∧ Hid (wr.ownsRow w.heap.size 5 1 (.slice (some ⟨w.heap.size,0,none⟩) k k) k (preV (Lib.byteCells (le k n)) (.int .u8 0) j)) ∧ Hid (Below w.heap.size w wr)) (fun i _=>k - (intOf i).toNat)
 case atStart=>exact ⟨0,by omega,rfl,hown0,hbel0⟩
 case round =>
  obtain ⟨j,hj,rfl,hown,hbel⟩:=hrel
  clear hown0 hbel0
  by_cases hlt:j < k
  ·have hat:(Lib.byteCells (le k n))[j]? = some (.int .u8 ((n / 256 ^ j % 256:Nat):Int)):=by
    have h:=le_at k n j hlt
    obtain ⟨hl,he⟩:=List.getElem?_eq_some_iff.1 h
    rw [byte_set _ _ hl,he,UInt8.toNat_ofNat_of_lt' (by show n / 256 ^ j % 256 < 256;omega)]
   obtain ⟨v,hv⟩:=preV_at (Lib.byteCells (le k n)) (.int .u8 0) j j (by rw [HV.out];omega) (by rw [HV.out];omega)
   have hcell:=(hown.out.cellAt j (by omega)).trans hv
   have hfro:=hown.out.frozenAt j
   have R:=hown.out.stored j (.int .u8 (((n / 256 ^ j % 256:Nat):Nat):Int))
   rw [preV_set (Lib.byteCells (le k n)) (.int .u8 0) _ j (by rw [HV.out];omega) hat] at R
   have HR:=Lib.hid R.1
   have pj:(j:Int) < (k:Int):=by omega
   have hsh:(n:Int) / 2 ^ (8 * (j:Int)).toNat = ((n / 256 ^ j:Nat):Int):=by
    rw [show (8 * (j:Int)).toNat = 8 * j by omega,pow256,Int.natCast_ediv,Int.natCast_pow];rfl
   have hcv:IntKind.u8.wrap ((n / 256 ^ j:Nat):Int) = ((n / 256 ^ j % 256:Nat):Int):=by
    simp [IntKind.wrap,IntKind.bits,IntKind.signed]
   generalize n / 256 ^ j % 256 = b at hcv HR hat
   generalize n / 256 ^ j = q at hsh hcv
   clear hv R hat
   go_wp2_with fail
   go_roundw
   case rel=>exact ⟨j + 1,by omega,by go_num,HR.out,hbel.out.setCell (Nat.le_refl _) _⟩
   case measure=>simp [intOf];omega
  ·obtain rfl:j = k:=by omega
   have hown':=hown.out
   have e:preV (Lib.byteCells (le j n)) (.int .u8 0) j = Lib.byteCells (le j n):=by
    have h2:=preV_end (Lib.byteCells (le j n)) (.int .u8 0)
    rw [HV.out] at h2
    exact h2
   rw [e] at hown'
   have hcv:=own_bytes hown' (le_length j n).symm 0 j j (by rw [le_length];omega)
   rw [List.drop_zero,List.take_of_length_le (by rw [le_length];exact Nat.le_refl _)] at hcv
   have HB:=Lib.hid hbel.out
   clear hown' hown e hbel
   go_wp2_with fail
   go_ret
   exact ⟨rfl,HB.out⟩
theorem i64_or_nat (a b:Nat) (ha:a < 9223372036854775808) (hb:b < 9223372036854775808):bits .or .i64 (a:Int) (b:Int) = ((a ||| b:Nat):Int):=by
 have hx:a ||| b < 2 ^ 63:=Nat.or_lt_two_pow (by omega) (by omega)
 show IntKind.i64.wrap ((BitVec.ofInt 64 (a:Int) ||| BitVec.ofInt 64 (b:Int)).toNat:Int) = _
 rw [BitVec.toNat_or,ofInt_i64 a ha,ofInt_i64 b hb,i64_wrap (by omega) (by omega)]
theorem num_take (L:List UInt8) (j:Nat) (h:j < L.length):num (L.take (j + 1)) = num (L.take j) + 256 ^ j * L[j].toNat:=by
 rw [List.take_add_one,List.getElem?_eq_getElem h,num_append,List.length_take,Nat.min_eq_left (Nat.le_of_lt h)]
 simp [num]
theorem number_any (s:ByteArray) (w:World) (hk:s.size ≤ 7) :
  Calls Tryz.prog 311 #[.string s] w fun e w'=>e = .returned (.int .i64 ((num s.data.toList:Nat):Int)) ∧ w' = w:=by
 have hb:(s.size:Int) ≤ 7:=by omega
 go_enter Tryz.func311,Tryz.ntmps311
 go_wp2_with fail
 go_loopw [3,7] (fun x i wr=>∃ j:Nat,j ≤ s.size ∧ i = .int .i64 (j:Int) ∧ x = .int .i64 ((num (s.data.toList.take j):Nat):Int) ∧ wr = w) (fun _ i _=>s.size - (intOf i).toNat)
 case atStart=>exact ⟨0,by omega,rfl,rfl,rfl⟩
 case round =>
  obtain ⟨j,hj,rfl,rfl,rfl⟩:=hrel
  by_cases hlt:j < s.size
  ·have pj:(j:Int) < (s.size:Int):=by omega
   have hlen:j < s.data.toList.length:=by rw [Array.length_toList];exact hlt
   have hstep:=num_take s.data.toList j hlen
   rw [Array.getElem_toList] at hstep
   have hl:=num_lt (s.data.toList.take j)
   rw [List.length_take,Nat.min_eq_left (Nat.le_of_lt hlen)] at hl
   have hb8:(s[j]'hlt).toNat < 256:=(s[j]'hlt).toNat_lt
   have hst2:num (s.data.toList.take (j + 1)) = num (s.data.toList.take j) + 256 ^ j * (s[j]'hlt).toNat:=hstep
   generalize hbv:(s[j]'hlt).toNat = b at hb8 hst2
   have hix:∀ W,(Instr.index 9 (.string s) (.int .i64 (j:Int))).run Tryz.prog W = .ok (.int .u8 (b:Int)) W:=fun W=>by
    rw [run_index_string W 9 s .i64 _ Tryz.underlying9,dif_pos (by omega)]
    simp only [Int.toNat_natCast,hbv]
   have hp:256 ^ j ≤ 256 ^ 6:=Nat.pow_le_pow_right (by omega) (by omega)
   have hm:256 ^ j * b ≤ 256 ^ 6 * 255:=Nat.mul_le_mul hp (by omega)
   have hjn:num (s.data.toList.take j) ||| 256 ^ j * b = num (s.data.toList.take (j + 1)):=by
    rw [Nat.or_comm,nat_join (8 * j) (256 ^ j * b) _ (by rw [pow256];exact Nat.mul_mod_right _ _) (by rw [← pow256];exact hl),hst2]
    omega
   have hor:=i64_or_nat (num (s.data.toList.take j)) (256 ^ j * b) (by omega) (by omega)
   rw [hjn] at hor
   have hshl:(b:Int) * 2 ^ (8 * (j:Int)).toNat = ((256 ^ j * b:Nat):Int):=by
    rw [show (8 * (j:Int)).toNat = 8 * j by omega,Nat.mul_comm (256 ^ j),Int.natCast_mul,pow256,Int.natCast_pow];rfl
   have hwr:IntKind.i64.wrap ((256 ^ j * b:Nat):Int) = ((256 ^ j * b:Nat):Int):=i64_wrap (by omega) (by omega)
   obtain ⟨y,hy⟩:∃ y,y = num (s.data.toList.take (j + 1)):=⟨_,rfl⟩
   rw [← hy] at hor
   have HY:=Lib.hid hy
   generalize num (s.data.toList.take j) = x at hor
   generalize 256 ^ j * b = m at hor hshl hwr
   clear hstep hst2 hl hbv hjn hp hm hlen hy
   go_wp2_with fail
   go_roundw
   case rel=>exact ⟨j + 1,by omega,by go_num,by rw [HY.out],trivial⟩
   case measure=>simp [intOf];omega
  ·obtain rfl:j = s.size:=by omega
   have hc:s.data.toList.take s.size = s.data.toList:=List.take_of_length_le (by rw [Array.length_toList];exact Nat.le_refl _)
   rw [hc]
   clear hc
   go_wp2_with fail
   go_ret
   exact ⟨rfl,rfl⟩
end Su
end Go.Proofs.YtmidncclndongaaGreat
namespace Go.Proofs.YtmidncclndongaaGreat
namespace Rd
open Go.RowKit Sc Bk
attribute [local go_sem ↓] Go.wp_at_zero Go.wp_at_succ
attribute [local go_sem] floatUpon pick
theorem be_at (n:Nat):∀ (k i:Nat),i < k → (be n k)[i]? = some (UInt8.ofNat (n / 256 ^ (7 - i) % 256)):=fun k i h=>by
 unfold be
 rw [List.getElem?_map,List.getElem?_range h];rfl
theorem high_any (n:Nat) (w:World) (_hn:n ≤ 9223372036854775807) :
  Calls Tryz.prog 308 #[.int .i64 (n:Int)] w fun e w'=>e = .returned (.string ⟨(be8 n).toArray⟩) ∧ Below w.heap.size w w':=by
 obtain ⟨i0,hi,hz0,hz1,hz2⟩:=info_parts Tryz.infoU8
 have hV:(Lib.byteCells (be8 n)).length = 8:=by rw [Lib.byteCells_length,be8_len]
 go_enter Tryz.func308,Tryz.ntmps308
 go_wp2_with (at_make;refine wpList_make_full _ rfl _ _ 119 rfl w.heap.size 5 i0 (.int .u8 0) 1 Tryz.underlying119 hi hz0 hz1 .i64 .i64 _ _ 8 rfl rfl rfl rfl (by rw [hz2];omega) (by unfold maxLen;omega) (by simp) ?_;intro w2 hown hgrow)
 have hown0:w2.ownsRow w.heap.size 5 1 (.slice (some ⟨w.heap.size,0,none⟩) 8 8) 8 (preV (Lib.byteCells (be8 n)) (.int .u8 0) 0):=by
  rw [preV_zero (Lib.byteCells (be8 n)) (.int .u8 0) 8 hV rfl] at hown;exact hown
 have hbel0:Below w.heap.size w w2:=(Below.refl _ _).grown hgrow (Nat.le_refl _) (fun k hk=>by cases hk)
 have HV:=Lib.hid hV
 clear hown hgrow hV
 go_wp2_with fail
 go_loopw [8] (fun i wr=>∃ j:Nat,j ≤ 8 ∧ i = .int .i64 (j:Int) ∧ Hid (wr.ownsRow w.heap.size 5 1 (.slice (some ⟨w.heap.size,0,none⟩) 8 8) 8 (preV (Lib.byteCells (be8 n)) (.int .u8 0) j)) ∧ Hid (Below w.heap.size w wr)) (fun i _=>8 - (intOf i).toNat)
 case atStart=>exact ⟨0,by omega,rfl,hown0,hbel0⟩
 case round =>
  obtain ⟨j,hj,rfl,hown,hbel⟩:=hrel
  clear hown0 hbel0
  by_cases hlt:j < 8
  ·have hat:(Lib.byteCells (be8 n))[j]? = some (.int .u8 ((n / 256 ^ (7 - j) % 256:Nat):Int)):=by
    have h:(be8 n)[j]? = some (UInt8.ofNat (n / 256 ^ (7 - j) % 256)):=be_at n 8 j hlt
    obtain ⟨hl,he⟩:=List.getElem?_eq_some_iff.1 h
    have h2:=Su.byte_set (be8 n) j hl
    rw [h2,he,UInt8.toNat_ofNat_of_lt' (by show n / 256 ^ (7 - j) % 256 < 256;omega)]
   obtain ⟨v,hv⟩:=preV_at (Lib.byteCells (be8 n)) (.int .u8 0) j j (by rw [HV.out];omega) (by rw [HV.out];omega)
   have hcell:=(hown.out.cellAt j (by omega)).trans hv
   have hfro:=hown.out.frozenAt j
   have R:=hown.out.stored j (.int .u8 (((n / 256 ^ (7 - j) % 256:Nat):Nat):Int))
   rw [preV_set (Lib.byteCells (be8 n)) (.int .u8 0) _ j (by rw [HV.out];omega) hat] at R
   have HR:=Lib.hid R.1
   have pj:(j:Int) < 8:=by omega
   have hsh:(n:Int) / 2 ^ (56 - 8 * (j:Int)).toNat = ((n / 256 ^ (7 - j):Nat):Int):=by
    rw [show (56 - 8 * (j:Int)).toNat = 8 * (7 - j) by omega,Su.pow256,Int.natCast_ediv,Int.natCast_pow];rfl
   have hcv:IntKind.u8.wrap ((n / 256 ^ (7 - j):Nat):Int) = ((n / 256 ^ (7 - j) % 256:Nat):Int):=by
    simp [IntKind.wrap,IntKind.bits,IntKind.signed]
   generalize n / 256 ^ (7 - j) % 256 = b at hcv HR hat
   generalize n / 256 ^ (7 - j) = q at hsh hcv
   clear hv R hat
   go_wp2_with fail
   go_roundw
   case rel=>exact ⟨j + 1,by omega,by go_num,HR.out,hbel.out.setCell (Nat.le_refl _) _⟩
   case measure=>simp [intOf];omega
  ·obtain rfl:j = 8:=by omega
   have hown':=hown.out
   have e:preV (Lib.byteCells (be8 n)) (.int .u8 0) 8 = Lib.byteCells (be8 n):=by
    have h2:=preV_end (Lib.byteCells (be8 n)) (.int .u8 0)
    rw [HV.out] at h2
    exact h2
   rw [e] at hown'
   have hcv:=own_bytes hown' (be8_len n).symm 0 8 8 (by rw [be8_len];omega)
   rw [List.drop_zero,List.take_of_length_le (by rw [be8_len];exact Nat.le_refl _)] at hcv
   have HB:=Lib.hid hbel.out
   clear hown' hown e hbel
   go_wp2_with fail
   go_ret
   exact ⟨rfl,HB.out⟩
theorem u64_or_nat (a b:Nat) (ha:a < 18446744073709551616) (hb:b < 18446744073709551616):bits .or .u64 (a:Int) (b:Int) = ((a ||| b:Nat):Int):=by
 have hx:a ||| b < 2 ^ 64:=Nat.or_lt_two_pow (by omega) (by omega)
 have h1:∀ x:Nat,x < 18446744073709551616 → (BitVec.ofInt 64 (x:Int)).toNat = x:=fun x hx=>by
  rw [BitVec.toNat_ofInt];omega
 show IntKind.u64.wrap ((BitVec.ofInt 64 (a:Int) ||| BitVec.ofInt 64 (b:Int)).toNat:Int) = _
 rw [BitVec.toNat_or,h1 a ha,h1 b hb]
 simp only [IntKind.wrap,IntKind.bits,IntKind.signed];simp;omega
theorem numB_step (L:List UInt8) {j:Nat} (h:j < L.length):numB (L.take (j + 1)) = numB (L.take j) * 256 + L[j].toNat:=by
 rw [List.take_add_one,List.getElem?_eq_getElem h];exact numB_snoc _ _
theorem lnumber_any (s:ByteArray) (w:World) (hs:s.size = 8) :
  Calls Tryz.prog 306 #[.string s] w fun e w'=>e = .returned (.int .u64 (numB s.data.toList:Int)) ∧ w' = w:=by
 have hl:s.data.toList.length = 8:=by rw [Array.length_toList];exact hs
 go_enter Tryz.func306,Tryz.ntmps306
 go_wp2_with fail
 go_loopw [3,7] (fun u c wr=>∃ i:Nat,i ≤ 8 ∧ u = .int .u64 (numB (s.data.toList.take i):Int) ∧ c = .int .i64 (i:Int) ∧ wr = w) (fun _ c _=>8 - (intOf c).toNat)
 case atStart=>exact ⟨0,by omega,rfl,rfl,rfl⟩
 case round =>
  obtain ⟨i,hi,rfl,rfl,rfl⟩:=hrel
  by_cases hlt:i < 8
  ·have pi:(i:Int) < 8:=by omega
   have hil:i < s.data.toList.length:=by omega
   have hix:=fun W=>str_at s i _ (List.getElem?_eq_getElem hil) (i:Int) rfl W
   have hst:=numB_step s.data.toList hil
   have hb:=(s.data.toList[i]'hil).toNat_lt
   have hk:=numB_lt i (s.data.toList.take i) (by rw [List.length_take];omega)
   have hk2:numB (s.data.toList.take i) < 72057594037927936:=Nat.lt_of_lt_of_le hk (by have:256 ^ i ≤ 256 ^ 7:=Nat.pow_le_pow_right (by omega) (by omega);omega)
   generalize (s.data.toList[i]'hil).toNat = b at hix hst hb
   have hor:bits .or .u64 ((numB (s.data.toList.take i):Int) * 256) (b:Int) = (numB (s.data.toList.take (i + 1)):Int):=by
    have e:=u64_or_nat (numB (s.data.toList.take i) * 256) b (by omega) (by omega)
    rw [Int.natCast_mul] at e
    have e2:=Nat.two_pow_add_eq_or_of_lt (i:=8) (show b < 2 ^ 8 by omega) (numB (s.data.toList.take i))
    rw [hst]
    refine e.trans ?_
    rw [show numB (s.data.toList.take i) * 256 = 2 ^ 8 * numB (s.data.toList.take i) by omega,← e2]
   have HOR:=Lib.hid hor
   generalize hz:numB (s.data.toList.take i) = z at hk2 HOR
   clear hk hor hst hz
   go_wp2_with fail
   go_roundw
   case rel=>exact ⟨i + 1,by omega,by rw [HOR.out],by go_num,trivial⟩
   case measure=>simp [intOf];omega
  ·obtain rfl:i = 8:=by omega
   rw [List.take_of_length_le (by omega)]
   go_wp2_with fail
   go_ret
   exact ⟨rfl,rfl⟩
end Rd
end Go.Proofs.YtmidncclndongaaGreat
