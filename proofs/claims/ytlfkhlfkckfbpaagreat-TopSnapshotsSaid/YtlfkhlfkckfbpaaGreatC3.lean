/- Parts of the proof, joined: ShMath, ChRow, ChSame, ChBook, ChRef, ChRef2, ChRef3, ChRef4, ChRef5, ChRef6, LtBook, LtLaw, LtCopy, RcBook, RcLaw, RcBackW, TrRow, ShRow, ShRep; their conditions stand with each. -/
import Derived.Deep.SlicePairs
import Derived.Deep.QuietTactic
import Derived.BigQuiet
import Derived.Test.YtlfkhlfkckfbpaaGreatC0
import Derived.Test.YtlfkhlfkckfbpaaGreatC1
import Derived.Test.YtlfkhlfkckfbpaaGreatC2

set_option maxRecDepth 20000
set_option maxHeartbeats 8000000
namespace Go.Proofs.YtlfkhlfkckfbpaaGreat
namespace Sh
open Ch Rc Lt
theorem bytesLess_nil2 (l:List UInt8):Op.bytesLess l [] = false:=by cases l <;> rfl
theorem less_irrefl:∀ l:List UInt8,Op.bytesLess l l = false
 | []=>rfl
 | a :: x=>by
  unfold Op.bytesLess
  rw [less_irrefl x]
  simp
theorem less_trans:∀ x y z:List UInt8,Op.bytesLess x y = true → Op.bytesLess y z = true → Op.bytesLess x z = true
 | _,[],_,h,_=>by rw [bytesLess_nil2] at h;cases h
 | _,_ :: _,[],_,h=>by rw [bytesLess_nil2] at h;cases h
 | [],_ :: _,_ :: _,_,_=>rfl
 | a :: x,b :: y,c :: z,h1,h2=>by
  unfold Op.bytesLess at h1 h2 ⊢
  simp only [Bool.or_eq_true,Bool.and_eq_true,decide_eq_true_eq,beq_iff_eq] at h1 h2 ⊢
  rcases h1 with h1 | ⟨rfl,h1⟩
  ·rcases h2 with h2 | ⟨rfl,h2⟩
   ·exact .inl (by rw [UInt8.lt_iff_toNat_lt] at *;omega)
   ·exact .inl h1
  ·rcases h2 with h2 | ⟨rfl,h2⟩
   ·exact .inl h2
   ·exact .inr ⟨rfl,less_trans x y z h1 h2⟩
theorem less_total:∀ x y:List UInt8,Op.bytesLess x y = true ∨ x = y ∨ Op.bytesLess y x = true
 | [],[]=>.inr (.inl rfl)
 | [],_ :: _=>.inl rfl
 | _ :: _,[]=>.inr (.inr rfl)
 | a :: x,b :: y=>by
  unfold Op.bytesLess
  simp only [Bool.or_eq_true,Bool.and_eq_true,decide_eq_true_eq,beq_iff_eq]
  rcases less_total x y with h | h | h
  ·by_cases e:a = b
   ·exact .inl (.inr ⟨e,h⟩)
   ·rcases Nat.lt_or_gt_of_ne (fun h=>e (UInt8.toNat_inj.1 h)) with h2 | h2
    ·exact .inl (.inl (UInt8.lt_iff_toNat_lt.2 h2))
    ·exact .inr (.inr (.inl (UInt8.lt_iff_toNat_lt.2 h2)))
  ·by_cases e:a = b
   ·exact .inr (.inl (by rw [e,h]))
   ·rcases Nat.lt_or_gt_of_ne (fun h=>e (UInt8.toNat_inj.1 h)) with h2 | h2
    ·exact .inl (.inl (UInt8.lt_iff_toNat_lt.2 h2))
    ·exact .inr (.inr (.inl (UInt8.lt_iff_toNat_lt.2 h2)))
  ·by_cases e:a = b
   ·exact .inr (.inr (.inr ⟨e.symm,h⟩))
   ·rcases Nat.lt_or_gt_of_ne (fun h=>e (UInt8.toNat_inj.1 h)) with h2 | h2
    ·exact .inl (.inl (UInt8.lt_iff_toNat_lt.2 h2))
    ·exact .inr (.inr (.inl (UInt8.lt_iff_toNat_lt.2 h2)))
def ltK (a b:ByteArray):Bool:=Op.bytesLess a.toList b.toList
theorem toList_inj {a b:ByteArray} (h:a.toList = b.toList):a = b:=by
 rw [ByteArray.toList_eq,ByteArray.toList_eq] at h
 obtain ⟨a⟩:=a
 obtain ⟨b⟩:=b
 congr 1
 exact Array.toList_inj.1 h
theorem lt_irrefl (a:ByteArray):ltK a a = false:=less_irrefl _
theorem lt_trans {a b c:ByteArray} (h:ltK a b = true) (h2:ltK b c = true):ltK a c = true:=less_trans _ _ _ h h2
theorem lt_total (a b:ByteArray):ltK a b = true ∨ a = b ∨ ltK b a = true:=by
 rcases less_total a.toList b.toList with h | h | h
 ·exact .inl h
 ·exact .inr (.inl (toList_inj h))
 ·exact .inr (.inr h)
theorem lt_ne {a b:ByteArray} (h:ltK a b = true):a ≠ b:=fun e=>by rw [e,lt_irrefl] at h;cases h
structure Kc where
 name:ByteArray
 l:List Vr
structure Shf where
 k:List Kc
 p:List Rec
 e:List (Int × Int)
 over:Int
def empty:Shf:=⟨[],[],[],0⟩
def findK (k:List Kc) (key:ByteArray):Option Kc:=k.find? (fun x=>decide (x.name = key))
def hasK (k:List Kc) (key:ByteArray):Bool:=(findK k key).isSome
def chainK (k:List Kc) (key:ByteArray):List Vr:=match findK k key with | none=>[] | some x=>x.l
def putK:List Kc → ByteArray → List Vr → List Kc
 | [],key,l=>[⟨key,l⟩]
 | x :: r,key,l=>if ltK x.name key then x :: putK r key l else if x.name = key then ⟨key,l⟩ :: r else ⟨key,l⟩ :: x :: r
def heldR (r:Rec) (key:ByteArray) (w:Bool):Bool:=r.ws.any (fun x=>decide (x.key = key)) || (w && r.keys.any (fun y=>decide (y = key)))
def heldB (s:Shf) (key:ByteArray) (w:Bool):Bool:=s.p.any (fun r=>heldR r key w)
def prepOf (p:List Rec) (txn:Int):Option Rec:=p.find? (fun r=>decide (r.txn = txn))
def endOf (e:List (Int × Int)) (txn:Int):Option (Int × Int):=e.find? (fun x=>decide (x.1 = txn))
def stateP (s:Shf) (txn:Int):Int × Int :=
 match prepOf s.p txn with
 | some _=>(1,0)
 | none=>match endOf s.e txn with
  | none=>(0,0)
  | some x=>if 0 < x.2 then (2,x.2) else (3,0)
def insP (p:List Rec) (r:Rec):List Rec:=p.takeWhile (fun q=>decide (q.txn < r.txn)) ++ r :: p.dropWhile (fun q=>decide (q.txn < r.txn))
def outP (p:List Rec) (txn:Int):List Rec:=p.eraseP (fun q=>decide (q.txn = txn))
def capE (e:List (Int × Int)):List (Int × Int):=if 1024 < e.length then e.drop 1 else e
def endP (s:Shf) (txn ts:Int):Shf:=⟨s.k,outP s.p txn,capE (s.e ++ [(txn,ts)]),s.over⟩
def prepareP (s:Shf) (r:Rec):Shf × Int :=
 if (stateP s r.txn).1 ≠ 0 then (s,6)
 else if r.keys.any (fun y=>heldB s y false) then (s,180)
 else if r.ws.any (fun x=>heldB s x.key true) then (s,180)
 else if 1024 ≤ s.p.length then (s,2)
 else (⟨s.k,insP s.p r,s.e,s.over⟩,0)
def addK (k:List Kc) (key:ByteArray) (v:Vr):List Kc:=putK k key (addP (chainK k key) v).1
def addW (ts:Int):List Wr → List Kc → List Kc
 | [],k=>k
 | x :: r,k=>addW ts r (addK k x.key ⟨ts,x.shard,x.dead⟩)
def longW (k:List Kc):List Wr → Nat → Bool
 | [],_=>false
 | x :: r,n=>(decide (1024 ≤ (chainK k x.key).length) || decide (1024 < if hasK k x.key then n else n + 1)) || longW k r (if hasK k x.key then n else n + 1)
def doP (s:Shf) (txn ts:Int):Shf × Int :=
 if 1 < (stateP s txn).1 then (if (stateP s txn).2 = ts then (s,6) else (s,120))
 else match prepOf s.p txn with
  | none=>(endP s txn ts,0)
  | some r =>
   if 0 < ts then
    if r.ws.any (fun x=>decide (ts ≤ lastT (chainK s.k x.key))) then (s,110)
    else if longW s.k r.ws s.k.length then (s,2)
    else (endP ⟨addW ts r.ws s.k,s.p,s.e,s.over⟩ txn ts,0)
   else (endP s txn ts,0)
def verP (s:Shf) (key:ByteArray) (v:Vr):Shf × Int :=
 if (addP (chainK s.k key) v).2 ≠ 0 then (s,(addP (chainK s.k key) v).2)
 else if hasK s.k key = false ∧ 1024 ≤ s.k.length then (s,2)
 else (⟨addK s.k key v,s.p,s.e,s.over⟩,0)
def sweepK (k:List Kc) (t:Int):List Kc:=(k.map (fun x=>⟨x.name,sweepL x.l t⟩)).filter (fun x=>!x.l.isEmpty)
def sweepS (s:Shf) (t:Int):Shf × Int:=if t < s.over then (s,110) else (⟨sweepK s.k t,s.p,s.e,t⟩,0)
open Classical in
noncomputable def applyP (s:Shf) (r:Rec):Shf × Int :=
 if ¬ RecOk r then (s,80)
 else if r.kind = 1 then prepareP s r
 else if r.kind = 2 then doP s r.txn r.ts
 else if r.kind = 3 then verP s r.key ⟨r.ts,r.text,r.dead⟩
 else if r.kind = 4 then sweepS s r.ts
 else (s,80)
def readP (s:Shf) (key:ByteArray) (t:Int):Int × Vr :=
 if t < s.over then (4,noVr)
 else if heldB s key false then (3,noVr)
 else if (atV (chainK s.k key) t).2 = false then (0,noVr)
 else if (atV (chainK s.k key) t).1.dead then (2,(atV (chainK s.k key) t).1)
 else (1,(atV (chainK s.k key) t).1)
abbrev Sorted (k:List Kc):Prop:=k.Pairwise (fun x y=>ltK x.name y.name = true)
structure ShOk (s:Shf):Prop where
 ks:Sorted s.k
 kn:∀ x ∈ s.k,keyOk x.name
 kc:∀ x ∈ s.k,ChOk x.l
 kz:∀ x ∈ s.k,x.l ≠ []
 kl:s.k.length ≤ 1024
 pr:s.p.Pairwise (fun x y=>x.txn < y.txn)
 po:∀ r ∈ s.p,RecOk r ∧ r.kind = 1
 pl:s.p.length ≤ 1024
 pa:∀ r ∈ s.p,∀ q ∈ s.p,r.txn ≠ q.txn → ∀ x ∈ r.ws,heldR q x.key true = false
 el:s.e.length ≤ 1024
 ed:s.e.Pairwise (fun x y=>x.1 ≠ y.1)
 eo:∀ x ∈ s.e,txnOk x.1 ∧ stampOk x.2
 ep:∀ x ∈ s.e,∀ r ∈ s.p,r.txn ≠ x.1
 ov:stampOk s.over
theorem ok_empty:ShOk empty:=by
 refine ⟨List.Pairwise.nil,?_,?_,?_,?_,List.Pairwise.nil,?_,?_,?_,?_,List.Pairwise.nil,?_,?_,?_⟩
 all_goals first | (intro x hx;simp [empty] at hx;done) | (simp [empty];done) | (unfold empty stampOk;simp)
theorem find_put:∀ (k:List Kc) (key:ByteArray) (l:List Vr) (key':ByteArray),findK (putK k key l) key' = if key' = key then some ⟨key,l⟩ else findK k key'
 | [],key,l,key'=>by
  unfold putK findK
  by_cases h:key' = key
  ·rw [if_pos h,List.find?_cons_of_pos (by simp [h])]
  ·rw [if_neg h,List.find?_cons_of_neg (by simp;exact fun e=>h e.symm)]
 | x :: r,key,l,key'=>by
  unfold putK
  by_cases h1:ltK x.name key = true
  ·rw [if_pos h1]
   have ih:=find_put r key l key'
   unfold findK at ih ⊢
   by_cases h2:x.name = key'
   ·rw [List.find?_cons_of_pos (by simp [h2]),List.find?_cons_of_pos (by simp [h2]),if_neg (fun e=>lt_ne h1 (h2.trans e))]
   ·rw [List.find?_cons_of_neg (by simp [h2]),List.find?_cons_of_neg (by simp [h2]),ih]
  ·rw [if_neg h1]
   by_cases h3:x.name = key
   ·rw [if_pos h3]
    unfold findK
    by_cases h:key' = key
    ·rw [if_pos h,List.find?_cons_of_pos (by simp [h])]
    ·rw [if_neg h,List.find?_cons_of_neg (by simp;exact fun e=>h e.symm),List.find?_cons_of_neg (by simp;exact fun e=>h (e.symm.trans h3))]
   ·rw [if_neg h3]
    unfold findK
    by_cases h:key' = key
    ·rw [if_pos h,List.find?_cons_of_pos (by simp [h])]
    ·rw [if_neg h,List.find?_cons_of_neg (by simp;exact fun e=>h e.symm)]
theorem chain_put (k:List Kc) (key:ByteArray) (l:List Vr) (key':ByteArray):chainK (putK k key l) key' = if key' = key then l else chainK k key':=by
 unfold chainK
 rw [find_put]
 by_cases h:key' = key
 ·rw [if_pos h,if_pos h]
 ·rw [if_neg h,if_neg h]
theorem mem_put:∀ (k:List Kc) (key:ByteArray) (l:List Vr) (y:Kc),y ∈ putK k key l → y = ⟨key,l⟩ ∨ y ∈ k
 | [],key,l,y,h=>by
  unfold putK at h
  exact .inl (List.mem_singleton.1 h)
 | x :: r,key,l,y,h=>by
  unfold putK at h
  by_cases h1:ltK x.name key = true
  ·rw [if_pos h1] at h
   rcases List.mem_cons.1 h with h | h
   ·exact .inr (by rw [h];exact List.mem_cons_self ..)
   ·exact (mem_put r key l y h).imp id (fun h=>List.mem_cons_of_mem _ h)
  ·rw [if_neg h1] at h
   by_cases h3:x.name = key
   ·rw [if_pos h3] at h
    rcases List.mem_cons.1 h with h | h
    ·exact .inl h
    ·exact .inr (List.mem_cons_of_mem _ h)
   ·rw [if_neg h3] at h
    rcases List.mem_cons.1 h with h | h
    ·exact .inl h
    ·exact .inr h
theorem put_sorted:∀ {k:List Kc} (key:ByteArray) (l:List Vr),Sorted k → Sorted (putK k key l)
 | [],key,l,_=>by unfold putK;simp [Sorted]
 | x :: r,key,l,h=>by
  obtain ⟨h1,h2⟩:=List.pairwise_cons.1 h
  unfold putK
  by_cases hl:ltK x.name key = true
  ·rw [if_pos hl]
   refine List.pairwise_cons.2 ⟨fun y hy=>?_,put_sorted key l h2⟩
   rcases mem_put r key l y hy with rfl | hy
   ·exact hl
   ·exact h1 y hy
  ·rw [if_neg hl]
   by_cases h3:x.name = key
   ·rw [if_pos h3]
    exact List.pairwise_cons.2 ⟨fun y hy=>by show ltK key y.name = true;rw [← h3];exact h1 y hy,h2⟩
   ·rw [if_neg h3]
    have hk:ltK key x.name = true:=by
     rcases lt_total key x.name with h | h | h
     ·exact h
     ·exact absurd h.symm h3
     ·exact absurd h hl
    refine List.pairwise_cons.2 ⟨fun y hy=>?_,h⟩
    rcases List.mem_cons.1 hy with rfl | hy
    ·exact hk
    ·exact lt_trans hk (h1 y hy)
theorem find_mem {k:List Kc} {key:ByteArray} {x:Kc} (h:findK k key = some x):x ∈ k ∧ x.name = key:=⟨List.mem_of_find?_eq_some h,by simpa using List.find?_some h⟩
theorem find_above {k:List Kc} {key:ByteArray} (h:∀ x ∈ k,ltK key x.name = true):findK k key = none:=by
 unfold findK
 rw [List.find?_eq_none]
 intro x hx e
 exact lt_ne (h x hx) (by simpa using (of_decide_eq_true e).symm)
theorem put_len:∀ {k:List Kc} (key:ByteArray) (l:List Vr),Sorted k → (putK k key l).length = if hasK k key then k.length else k.length + 1
 | [],key,l,_=>rfl
 | x :: r,key,l,h=>by
  obtain ⟨h1,h2⟩:=List.pairwise_cons.1 h
  have ih:=put_len key l h2
  unfold hasK findK at ih ⊢
  unfold putK
  by_cases hl:ltK x.name key = true
  ·rw [if_pos hl,List.find?_cons_of_neg (by simp;exact lt_ne hl),List.length_cons,ih,List.length_cons]
   split <;> rfl
  ·rw [if_neg hl]
   by_cases h3:x.name = key
   ·rw [if_pos h3,List.find?_cons_of_pos (by simp [h3])]
    rfl
   ·rw [if_neg h3]
    have hk:ltK key x.name = true:=by
     rcases lt_total key x.name with h | h | h
     ·exact h
     ·exact absurd h.symm h3
     ·exact absurd h hl
    have:=find_above (k:=x :: r) (key:=key) (fun y hy=>by
     rcases List.mem_cons.1 hy with rfl | hy
     ·exact hk
     ·exact lt_trans hk (h1 y hy))
    unfold findK at this
    rw [this]
    rfl
theorem sweep_sorted {k:List Kc} (t:Int) (h:Sorted k):Sorted (sweepK k t):=by
 unfold sweepK
 refine List.Pairwise.filter _ (List.pairwise_map.2 h)
theorem mem_sweep {k:List Kc} {t:Int} {y:Kc} (h:y ∈ sweepK k t):∃ x ∈ k,y = ⟨x.name,sweepL x.l t⟩ ∧ sweepL x.l t ≠ []:=by
 unfold sweepK at h
 obtain ⟨h1,h2⟩:=List.mem_filter.1 h
 obtain ⟨x,hx,rfl⟩:=List.mem_map.1 h1
 exact ⟨x,hx,rfl,fun e=>by simp [e] at h2⟩
theorem sweep_len (k:List Kc) (t:Int):(sweepK k t).length ≤ k.length:=by
 unfold sweepK
 refine Nat.le_trans (List.length_filter_le ..) ?_
 rw [List.length_map]
 exact Nat.le_refl _
end Sh
end Go.Proofs.YtlfkhlfkckfbpaaGreat
namespace Go.Proofs.YtlfkhlfkckfbpaaGreat
namespace Ch
open Go.ChangeShapes Go.WideShapes Go.ChangeAt Go.RowKit Go.Joins Go.Deep Bk
def vcs (x:Vr):List Value:=[.int .i64 x.ts,.string x.shard,.bool x.dead]
def vrV (l:List Vr):List Value:=l.flatMap vcs
def VrsAt (w:World) (A:Option Addr) (l:List Vr):Prop :=
 0 < l.length → ∃ ad,A = some ad ∧ ad.block < w.heap.size ∧ ∀ i (h:i < l.length),w.cell? (ad.add (i * 3)) = some (.int .i64 l[i].ts) ∧ w.cell? (ad.add (i * 3 + 1)) = some (.string l[i].shard) ∧ w.cell? (ad.add (i * 3 + 2)) = some (.bool l[i].dead)
theorem VrsAt.below {w w':World} {A:Option Addr} {l:List Vr} (h:VrsAt w A l) (hb:Below w.heap.size w w'):VrsAt w' A l:=fun hp=>by
 obtain ⟨ad,h1,h2,h3⟩:=h hp
 exact ⟨ad,h1,Nat.lt_of_lt_of_le h2 hb.size,fun i hi=>⟨(cell_kept hb _ (by rw [st_block];exact h2)).trans (h3 i hi).1,(cell_kept hb _ (by rw [st_block];exact h2)).trans (h3 i hi).2.1,(cell_kept hb _ (by rw [st_block];exact h2)).trans (h3 i hi).2.2⟩⟩
structure VrRng (x:Vr):Prop where
 ts:-9223372036854775808 ≤ x.ts ∧ x.ts ≤ 9223372036854775807
 shard:x.shard.size ≤ reachBytes
section
variable {H:Type} {enc:TypeId × Value → H} {W:World}
end
theorem Tryz.infoVer:(Tryz.prog.info? 43).map (fun i=>(i.zero,i.size,i.bytes)) = some (some (.agg #[.int .i64 0,.string ⟨#[]⟩,.bool false]),3,32):=by kernel_rfl
theorem vrV_len (l:List Vr):(vrV l).length = l.length * 3:=by
 induction l with
 | nil=>rfl
 | cons x r ih=>unfold vrV at ih ⊢;rw [List.flatMap_cons,List.length_append,ih,List.length_cons];show 3 + _ = _;omega
theorem vrV_at:∀ (l:List Vr) (i:Nat) (h:i < l.length),(vrV l)[i * 3]? = some (.int .i64 l[i].ts) ∧ (vrV l)[i * 3 + 1]? = some (.string l[i].shard) ∧ (vrV l)[i * 3 + 2]? = some (.bool l[i].dead)
 | [],_,h=>absurd h (by simp)
 | x :: r,0,_=>⟨rfl,rfl,rfl⟩
 | x :: r,i + 1,h=>by
  have h3:(vcs x).length = 3:=rfl
  obtain ⟨h0,h1,h2⟩:=vrV_at r i (by simpa using h)
  unfold vrV at h0 h1 h2 ⊢
  rw [List.flatMap_cons,List.getElem?_append_right (by omega),List.getElem?_append_right (by omega),List.getElem?_append_right (by omega),h3]
  rw [show (i + 1) * 3 - 3 = i * 3 by omega,show (i + 1) * 3 + 1 - 3 = i * 3 + 1 by omega,show (i + 1) * 3 + 2 - 3 = i * 3 + 2 by omega]
  exact ⟨h0,h1,h2⟩
theorem vrV_app (a b:List Vr):vrV (a ++ b) = vrV a ++ vrV b:=by unfold vrV;rw [List.flatMap_append]
theorem vrV_one (l:List Vr):∀ u ∈ vrV l,u.oneCell' = true:=fun u hu=>by
 obtain ⟨x,_,hx⟩:=List.mem_flatMap.1 hu
 unfold vcs at hx
 simp only [List.mem_cons,List.not_mem_nil,or_false] at hx
 rcases hx with rfl | rfl | rfl <;> rfl
theorem VrsAt.news {w:World} {ad:Addr} {l:List Vr} (h:VrsAt w (some ad) l):∀ j u,(vrV l)[j]? = some u → w.cell? (ad.add j) = some u:=fun j u hu=>by
 have hj:j < l.length * 3:=by
  have:=(List.getElem?_eq_some_iff.1 hu).1
  rwa [vrV_len] at this
 obtain ⟨a',e,_,h3⟩:=h (by omega)
 obtain rfl:=Option.some.inj e
 obtain ⟨y0,y1,y2⟩:=vrV_at l (j / 3) (by omega)
 obtain ⟨x0,x1,x2⟩:=h3 (j / 3) (by omega)
 have hc:j % 3 = 0 ∨ j % 3 = 1 ∨ j % 3 = 2:=by omega
 rcases hc with r | r | r
 ·have ej:j = j / 3 * 3:=by omega
  rw [← ej] at y0 x0
  rw [y0] at hu;rw [x0];exact hu
 ·have ej:j = j / 3 * 3 + 1:=by omega
  rw [← ej] at y1 x1
  rw [y1] at hu;rw [x1];exact hu
 ·have ej:j = j / 3 * 3 + 2:=by omega
  rw [← ej] at y2 x2
  rw [y2] at hu;rw [x2];exact hu
end Ch
end Go.Proofs.YtlfkhlfkckfbpaaGreat
namespace Go.Proofs.YtlfkhlfkckfbpaaGreat
namespace Ch
open Go.RowKit Bk
attribute [local go_sem ↓] Go.wp_at_zero Go.wp_at_succ
attribute [local go_sem] floatUpon pick
theorem add_field (a:Addr) (n k:Nat) (hk:0 < k):(⟨(a.add n).block,(a.add n).off + k,none⟩:Addr) = a.add (n + k):=by
 unfold Addr.add
 by_cases h:n = 0
 ·rw [if_pos h,if_neg (by omega),h,Nat.zero_add]
 ·rw [if_neg h,if_neg (by omega)]
  simp only [Nat.add_assoc]
theorem run_append_opt3 {P:Program} (w:World) (base:Nat) (t ty e:TypeId) (i:TypeInfo) (z:Value) (bytes:Nat) (ht:P.underlying t = some (.slice e)) (hi:P.info? e = some i) (hz:i.zero = some z)
  (hsize:i.size = 3) (hby:i.bytes = bytes) (hzs:z.cells.size = 3) (v:Value) (n:Nat) (xs:List Value) (hown:w.ownsRow base e 3 v n xs)
  (A:Option Addr) (m c:Nat) (news:List Value) (hl:news.length = m * 3) (hA:A = none → m = 0 ∧ c = 0) (hnews:∀ ad,A = some ad → ∀ j u,news[j]? = some u → w.cell? (ad.add j) = some u) (h1:∀ u ∈ news,u.oneCell' = true)
  (h63:n + m ≤ maxLen) (hbytes:(n + m) * bytes ≤ 140737488355328) (hbase:base ≤ w.heap.size) :
  ∃ v' w',(Builtin.append_ #[t,t] ty #[v,.slice A m c]).run P w = .ok v' w' ∧ w'.ownsRow base e 3 v' (n + m) (xs ++ news) ∧ w.grownBy w' v.ownBlock ∧ (v'.ownBlock = v.ownBlock ∨ v'.ownBlock = some w.heap.size):=by
 cases A with
 | none =>
  obtain ⟨rfl,rfl⟩:=hA rfl
  obtain rfl:news = []:=List.eq_nil_of_length_eq_zero (by omega)
  exact ⟨v,w,run_append_owned_none (P:=P) w base t ty e i 3 ht hi _ _ _ hown,by rw [List.append_nil];exact hown,⟨rfl,rfl,rfl,Nat.le_refl _,fun _ _ _=>rfl⟩,.inl rfl⟩
 | some ad =>
  obtain ⟨v',w',hr,h2,h3,_,h5⟩:=run_append_own_at (P:=P) w base t ty e i z 3 bytes ht hi hz hsize hby hzs (by omega) v n xs hown ad m c news hl (hnews ad rfl) h1 h63 hbytes hbase
  exact ⟨v',w',hr,h2,h3,h5⟩
theorem wpList_append_opt3 {P:Program} {w:World} {ops:Array Oper} {rest:List Oper} {o:Oper} {a:Act} {Q:Exit → Act → World → Prop} (hgd:o.guard = none) (s x:Operand) (t:TypeId)
  (ho:o.op = .call { callee:=.builtin .append,args:=#[s,x],argTypes:=#[t,t] })
  (base:Nat) (e:TypeId) (i:TypeInfo) (z:Value) (bytes:Nat) (ht:P.underlying t = some (.slice e)) (hi:P.info? e = some i) (hz:i.zero = some z)
  (hsize:i.size = 3) (hby:i.bytes = bytes) (hzs:z.cells.size = 3) (v:Value) (n:Nat) (xs:List Value) (hs:a.eval s = v) (hown:w.ownsRow base e 3 v n xs)
  (A:Option Addr) (m c:Nat) (news:List Value) (hx:a.eval x = .slice A m c) (hl:news.length = m * 3) (hA:A = none → m = 0 ∧ c = 0) (hnews:∀ ad,A = some ad → ∀ j u,news[j]? = some u → w.cell? (ad.add j) = some u) (h1:∀ u ∈ news,u.oneCell' = true)
  (h63:n + m ≤ maxLen) (hbytes:(n + m) * bytes ≤ 140737488355328) (hbase:base ≤ w.heap.size)
  (h:∀ v' w',w'.ownsRow base e 3 v' (n + m) (xs ++ news) → w.grownBy w' v.ownBlock → (v'.ownBlock = v.ownBlock ∨ v'.ownBlock = some w.heap.size) → wpList P ops Q rest (a.put o.dst v') w') :
  wpList P ops Q (o :: rest) a w:=by
 refine wpList_plain hgd fun K hK=>?_
 obtain ⟨v',w',hr,h2,h3,h5⟩:=run_append_opt3 (P:=P) w base t o.type e i z bytes ht hi hz hsize hby hzs v n xs hown A m c news hl hA hnews h1 h63 hbytes hbase
 unfold Oper.wp execOp
 simp only [ho,resolve,invoke,builtin,Sem.run_bind,Sem.run_pure,Result.andThen_ok,List.map_toArray,List.map_cons,List.map_nil,hs,hx,hr]
 exact hK _ _ (h v' w' h2 h3 h5)
theorem new_cells (w:World) (x:Vr) (t:TypeId):∀ j u,(vcs x)[j]? = some u → (w.alloc (.cells (vcs x).toArray t)).cell? ((⟨w.heap.size,0,none⟩:Addr).add j) = some u:=fun j u hj=>by
 rw [addr_head]
 exact blk_cell (blk1 w _).2 (by rw [List.getElem?_toArray];exact hj)
theorem vrs_own {w:World} {H n:Nat} {v:Value} {e:TypeId} {l:List Vr} (h:w.ownsRow H e 3 v n (vrV l)) (hl:n = l.length):∃ (A:Option Addr) (c:Nat),v = .slice A n c ∧ VrsAt w A l ∧ n ≤ c ∧ c ≤ maxLen ∧ (A = none → n = 0 ∧ c = 0):=by
 rcases h.2 with ⟨rfl,rfl⟩ | ⟨g,cap,cur,rfl,_,hg,h1,h2,hsz,htk⟩
 ·exact ⟨none,0,rfl,fun hp=>by omega,Nat.le_refl _,Nat.zero_le _,fun _=>⟨rfl,rfl⟩⟩
 ·refine ⟨_,cap,rfl,fun _=>⟨_,rfl,(Array.getElem?_eq_some_iff.1 hg).1,fun i hi=>?_⟩,h1,h2,fun e=>by cases e⟩
  obtain ⟨x0,x1,x2⟩:=vrV_at l i hi
  have hlen:(vrV l).length = n * 3:=by rw [vrV_len,hl]
  have hc:∀ j u,(vrV l)[j]? = some u → w.cell? ((⟨g,0,none⟩:Addr).add j) = some u:=fun j u hu=>by
   rw [addr_head]
   refine blk_cell hg ?_
   have hj:=(List.getElem?_eq_some_iff.1 hu).1
   rw [← htk,List.getElem?_take_of_lt (by omega)] at hu
   rw [← Array.getElem?_toList];exact hu
  exact ⟨hc _ _ x0,hc _ _ x1,hc _ _ x2⟩
theorem below_drew (B:Nat) (W:World) (n:Nat):Below B W (W.drewN n):=⟨rfl,rfl,rfl,Nat.le_refl _,fun _ _=>rfl⟩
def prevT (l:List Vr) (j:Nat):Option Int:=match j with | 0=>none | k + 1=>(l[k]?).map (·.ts)
theorem chk_step {l:List Vr} {j:Nat} (h:j < l.length):chkL (prevT l j) (l.drop j) j = if bad (prevT l j) l[j] = 0 then chkL (prevT l (j + 1)) (l.drop (j + 1)) (j + 1) else ((j:Int),bad (prevT l j) l[j]):=by
 rw [List.drop_eq_getElem_cons h]
 show (if bad (prevT l j) l[j] = 0 then chkL (some l[j].ts) (l.drop (j + 1)) (j + 1) else _) = _
 have:prevT l (j + 1) = some l[j].ts:=by show (l[j]?).map _ = _;rw [List.getElem?_eq_getElem h];rfl
 rw [this]
theorem bad_1 {p:Option Int} {x:Vr} (h:x.ts < 1 ∨ 1125899906842624 < x.ts):bad p x = 1:=by unfold bad;rw [if_pos h]
theorem bad_2 {p:Option Int} {x:Vr} (h1:¬ x.ts < 1) (h1':¬ 1125899906842624 < x.ts) (h2:2052 < x.shard.size):bad p x = 2:=by unfold bad;rw [if_neg (by omega),if_pos h2]
theorem bad_4 {p:Option Int} {x:Vr} (h1:¬ x.ts < 1) (h1':¬ 1125899906842624 < x.ts) (h2:¬ 2052 < x.shard.size) (h3:x.dead = true ∧ x.shard ≠ ⟨#[]⟩):bad p x = 4:=by unfold bad;rw [if_neg (by omega),if_neg h2,if_pos h3]
theorem bad_go {p:Option Int} {t:Int} {s:ByteArray} {d:Bool} (h:¬ t < 1 ∧ ¬ 1125899906842624 < t ∧ ¬ 2052 < s.size ∧ ¬ (d = true ∧ s ≠ ⟨#[]⟩)) (h4:∀ q,p = some q → q < t):bad p ⟨t,s,d⟩ = 0:=bad_ok.2 ⟨⟨by simp only;omega,by simp only;omega,by simp only;omega,h.2.2.2⟩,h4⟩
theorem low_at {l:List Vr} {t:Int}:∀ {n:Nat},n ≤ l.length → (∀ i (h:i < l.length),i < n → l[i].ts ≤ t) → (∀ h:n < l.length,t < l[n].ts) → lowL l t = l.take n:=by
 induction l with
 | nil=>intro n _ _ _;simp [lowL]
 | cons x r ih =>
  intro n hn h1 h2
  cases n with
  | zero =>
   have:=h2 (by simp)
   unfold lowL
   rw [List.takeWhile_cons_of_neg (by simp;exact this),List.take_zero]
  | succ k =>
   have hx:=h1 0 (by simp) (by omega)
   unfold lowL at ih ⊢
   rw [List.takeWhile_cons_of_pos (by simpa using hx),List.take_succ_cons,ih (n:=k) (by simpa using hn) (fun i h hi=>h1 (i + 1) (by simpa using h) (by omega)) (fun h=>h2 (by simpa using h))]
theorem place_at {l:List Vr} {t:Int} {n:Nat} (hn:n ≤ l.length) (h1:∀ i (h:i < l.length),i < n → l[i].ts ≤ t) (h2:∀ h:n < l.length,t < l[n].ts):placeN l t = n:=by
 unfold placeN
 rw [low_at hn h1 h2,List.length_take]
 omega
theorem lastT_at {l:List Vr} (h:0 < l.length):lastT l = (l[l.length - 1]'(by omega)).ts:=by
 unfold lastT
 rw [List.getLast?_eq_getElem?,List.getElem?_eq_getElem (by omega)]
theorem low_take (l:List Vr) (t:Int):lowL l t = l.take (placeN l t):=List.prefix_iff_eq_take.1 (List.takeWhile_prefix _)
theorem place_le (l:List Vr) (t:Int):placeN l t ≤ l.length:=(List.takeWhile_prefix _).length_le
theorem low_last {l:List Vr} {t:Int} {k:Nat} (h:placeN l t = k + 1):∃ hk:k < l.length,(lowL l t).getLast? = some l[k]:=by
 have hl:=place_le l t
 refine ⟨by omega,?_⟩
 rw [low_take,h,List.getLast?_eq_getElem?,List.length_take,List.getElem?_take,Nat.min_eq_left (by omega),if_pos (by omega),Nat.add_sub_cancel,List.getElem?_eq_getElem (by omega)]
theorem low_none {l:List Vr} {t:Int} (h:placeN l t = 0):lowL l t = []:=by rw [low_take,h,List.take_zero]
def set3 (W:World) (R:Nat) (v0 v1 v2:Value):World:=((W.setCell ⟨R,0,none⟩ v0).setCell ⟨R,1,none⟩ v1).setCell ⟨R,2,none⟩ v2
theorem set3_cel {W:World} {R:Nat} {t:TypeId} {a b c v0 v1 v2:Value} (h:Cel W R t [a,b,c]):Cel (set3 W R v0 v1 v2) R t [v0,v1,v2]:=((h.set (i:=0)).set (i:=1)).set (i:=2)
theorem set3_below {W:World} {R B:Nat} {w:World} {v0 v1 v2:Value} (h:Below B w W) (hR:B ≤ R):Below B w (set3 W R v0 v1 v2):=((h.setCell (p:=⟨R,0,none⟩) hR v0).setCell (p:=⟨R,1,none⟩) hR v1).setCell (p:=⟨R,2,none⟩) hR v2
theorem go_zero {l:List Vr} {t:Int} (h:placeN l t = 0):goN l t = 0:=by unfold goN;rw [low_none h];rfl
theorem go_succ {l:List Vr} {t:Int} {k:Nat} (h:placeN l t = k + 1) (hk:k < l.length):goN l t = if l[k].dead then k + 1 else k:=by
 obtain ⟨hk',hl⟩:=low_last h
 unfold goN
 rw [hl,h]
 rfl
theorem VrsAt.drop {w:World} {ad:Addr} {l:List Vr} (h:VrsAt w (some ad) l) (n:Nat):VrsAt w (some (ad.add (n * 3))) (l.drop n):=fun hp=>by
 rw [List.length_drop] at hp
 obtain ⟨a',e,h2,h3⟩:=h (by omega)
 obtain rfl:=Option.some.inj e
 refine ⟨_,rfl,by rw [st_block];exact h2,fun i hi=>?_⟩
 rw [List.length_drop] at hi
 have:=h3 (n + i) (by omega)
 rw [List.getElem_drop,Go.Deep.add_add,Go.Deep.add_add,Go.Deep.add_add]
 rw [show n * 3 + i * 3 = (n + i) * 3 by omega,show n * 3 + (i * 3 + 1) = (n + i) * 3 + 1 by omega,show n * 3 + (i * 3 + 2) = (n + i) * 3 + 2 by omega]
 exact this
theorem drop_off (w:World) (ad:Addr) (l:List Vr) (n:Nat) (h:VrsAt w (some ad) l):VrsAt w (some (ad.add (n * 3))) (l.drop n):=h.drop n
theorem drop_none {w:World} {A:Option Addr} {l:List Vr} {n:Nat} (h:l.length ≤ n):VrsAt w A (l.drop n):=fun hp=>by rw [List.length_drop] at hp;omega
theorem VrsAt.take {w:World} {A:Option Addr} {l:List Vr} (h:VrsAt w A l) (n:Nat):VrsAt w A (l.take n):=fun hp=>by
 rw [List.length_take] at hp
 obtain ⟨ad,e,h2,h3⟩:=h (by omega)
 refine ⟨ad,e,h2,fun i hi=>?_⟩
 rw [List.length_take] at hi
 rw [List.getElem_take]
 exact h3 i (by omega)
theorem slice_from (A:Option Addr) (m c n:Nat) (hn:n ≤ m) (hc:m ≤ c) (hnil:A = none → m = 0 ∧ c = 0):∃ (A':Option Addr) (c':Nat),
  (∀ W,(Instr.slice 35 (.slice A m c) (some (.int .i64 (n:Int))) none none).run Tryz.prog W = .ok (.slice A' (m - n) c') W) ∧
  (∀ W (l:List Vr),l.length = m → VrsAt W A l → VrsAt W A' (l.drop n)) ∧ (A' = none → m - n = 0 ∧ c' = 0) ∧ m - n ≤ c' ∧ c' ≤ c:=by
 obtain ⟨i1,hi',hz0',hz1',hz2'⟩:=info_parts Tryz.infoVer
 refine ⟨if c = n then A else A.map (·.add (n * 3)),c - n,fun W=>?_,fun W l hl h=>?_,fun h=>?_,by omega,by omega⟩
 ·have e:=run_slice_l (P:=Tryz.prog) W 35 A m c (by kernel_rfl) .i64 (n:Int) (by omega) (by omega)
  rw [e,show Tryz.prog.elem 35 = 43 by kernel_rfl]
  simp [sizeOf,typeInfo,hi',hz1',sliced]
 ·by_cases e:c = n
  ·exact drop_none (by omega)
  ·rw [if_neg e]
   cases A with
   | none=>exact drop_none (by have:=(hnil rfl).1;omega)
   | some ad=>exact drop_off W ad l n h
 ·by_cases e:c = n
  ·rw [if_pos e] at h;have:=hnil h;omega
  ·rw [if_neg e] at h
   cases A with
   | none=>have:=hnil rfl;omega
   | some ad=>simp at h
theorem slice_to (A:Option Addr) (m c n:Nat) (hn:n ≤ c):∀ W,(Instr.slice 35 (.slice A m c) none (some (.int .i64 (n:Int))) none).run Tryz.prog W = .ok (.slice A n c) W:=fun W=>by
 obtain ⟨i1,hi',hz0',hz1',hz2'⟩:=info_parts Tryz.infoVer
 have e:=run_slice_h (P:=Tryz.prog) W 35 A m c (by kernel_rfl) .i64 (n:Int) (by omega) (by omega)
 rw [e,show Tryz.prog.elem 35 = 43 by kernel_rfl]
 have ha:∀ a:Addr,a.add 0 = a:=fun a=>by unfold Addr.add;rw [if_pos rfl]
 by_cases h:c = 0
 ·simp [sizeOf,typeInfo,hi',sliced,h]
 ·cases A with
  | none=>simp [sizeOf,typeInfo,hi',sliced]
  | some a=>simp [sizeOf,typeInfo,hi',sliced,ha]
theorem own_base {w:World} {b b':Nat} {e:TypeId} {k:Nat} {v:Value} {n:Nat} {xs:List Value} (h:w.ownsRow b e k v n xs) (hb:b' ≤ b):w.ownsRow b' e k v n xs:=by
 obtain ⟨h1,h2⟩:=h
 refine ⟨h1,?_⟩
 rcases h2 with h2 | ⟨g,cap,cur,h2,h3,h4⟩
 ·exact .inl h2
 ·exact .inr ⟨g,cap,cur,h2,Nat.le_trans hb h3,h4⟩
def RowAns (w:World) (r:List Vr × Int) (e:Ending) (w':World):Prop :=
 ∃ v:Value,e = .returned (.tuple #[v,.int .i64 r.2]) ∧ w'.ownsRow w.heap.size 43 3 v r.1.length (vrV r.1) ∧ Below w.heap.size w w'
theorem one_at (W:World) (x:Vr):VrsAt (W.alloc (.cells (vcs x).toArray 43)) (some ⟨W.heap.size,0,none⟩) [x]:=fun _=>by
 refine ⟨_,rfl,by simp,fun i hi=>?_⟩
 obtain rfl:i = 0:=by simpa using hi
 have h:=new_cells W x 43
 exact ⟨h 0 _ rfl,h 1 _ rfl,h 2 _ rfl⟩
theorem row_ans_none {w W:World} {r:List Vr × Int} {e:Int} (h:r = ([],e)) (hb:Below w.heap.size w W):RowAns w r (.returned (.tuple #[.slice none 0 0,.int .i64 e])) W:=by
 subst h
 exact ⟨_,rfl,World.ownsRow_nil _ _ _ _,hb⟩
end Ch
end Go.Proofs.YtlfkhlfkckfbpaaGreat
namespace Go.Proofs.YtlfkhlfkckfbpaaGreat
namespace Lt
open Go.RowKit Bk
attribute [local go_sem ↓] Go.wp_at_zero Go.wp_at_succ
attribute [local go_sem] floatUpon pick
theorem own_wrs {w:World} {H c:Nat} {A:Option Addr} {e:TypeId} {l:List Wr} (h:w.ownsRow H e 3 (.slice A l.length c) l.length (wrV l)):WrsAt w A l ∧ l.length ≤ c ∧ c ≤ maxLen ∧ (A = none → l = [] ∧ c = 0):=by
 obtain ⟨A',c',e1,h1,h2,h3,h4⟩:=wrs_own h rfl
 simp only [Value.slice.injEq] at e1
 obtain ⟨rfl,_,rfl⟩:=e1
 exact ⟨h1,h2,h3,fun e=>⟨List.eq_nil_of_length_eq_zero (by have:=h4 e;omega),h4 e⟩⟩
theorem own_strs {w:World} {H c:Nat} {A:Option Addr} {e:TypeId} {l:List ByteArray} (h:w.ownsRow H e 1 (.slice A l.length c) l.length (strV l)):StrsAt w A l ∧ l.length ≤ c ∧ c ≤ maxLen ∧ (A = none → l = [] ∧ c = 0):=by
 obtain ⟨A',c',hv,hs⟩:=strs_of_own2 h rfl
 simp only [Value.slice.injEq] at hv
 obtain ⟨rfl,_,rfl⟩:=hv
 rcases h.2 with ⟨h1,h2⟩ | ⟨g,cap,cur,h1,_,_,h3,h4,_⟩
 ·simp only [Value.slice.injEq] at h1
  obtain ⟨rfl,hl,rfl⟩:=h1
  exact ⟨hs,by omega,Nat.zero_le _,fun _=>⟨List.eq_nil_of_length_eq_zero hl,rfl⟩⟩
 ·simp only [Value.slice.injEq] at h1
  obtain ⟨rfl,_,rfl⟩:=h1
  exact ⟨hs,h3,h4,fun e=>by cases e⟩
theorem set9_own {W:World} {H R s n:Nat} {e:TypeId} {v v0 v1 v2 v3 v4 v5 v6 v7 v8:Value} {xs:List Value} (h:W.ownsRow H e s v n xs) (hn:v.ownBlock ≠ some R):(set9 W R v0 v1 v2 v3 v4 v5 v6 v7 v8).ownsRow H e s v n xs :=
 ownsRow_setCell_other (a:=⟨R,8,none⟩) (ownsRow_setCell_other (a:=⟨R,7,none⟩) (ownsRow_setCell_other (a:=⟨R,6,none⟩) (ownsRow_setCell_other (a:=⟨R,5,none⟩) (ownsRow_setCell_other (a:=⟨R,4,none⟩) (ownsRow_setCell_other (a:=⟨R,3,none⟩) (ownsRow_setCell_other (a:=⟨R,2,none⟩) (ownsRow_setCell_other (a:=⟨R,1,none⟩) (ownsRow_setCell_other (a:=⟨R,0,none⟩) h hn _) hn _) hn _) hn _) hn _) hn _) hn _) hn _) hn _
end Lt
end Go.Proofs.YtlfkhlfkckfbpaaGreat
namespace Go.Proofs.YtlfkhlfkckfbpaaGreat
namespace Rc
open Go.RowKit Bk Lt
attribute [local go_sem ↓] Go.wp_at_zero Go.wp_at_succ
attribute [local go_sem] floatUpon pick
def CheckAll:Prop:=∀ (A B:Option Addr) (c d:Nat) (r:Rec) (w:World),RecVal w A B c d r →
 Calls Tryz.prog 69 #[recV r A B c d] w fun e w'=>e = .returned (.int .i64 (ckN r:Int)) ∧ Below w.heap.size w w'
def EncodeAll:Prop:=∀ (A B:Option Addr) (c d:Nat) (r:Rec) (w:World),RecVal w A B c d r →
 Calls Tryz.prog 53 #[recV r A B c d] w fun e w'=>e = .returned (encV r) ∧ Below w.heap.size w w'
theorem nil_strs (w:World) (A:Option Addr):StrsAt w A []:=fun h=>absurd h (by simp)
theorem nil_wrs (w:World) (A:Option Addr):WrsAt w A []:=fun h=>absurd h (by simp)
def bareR (k t s:Int):Rec:=⟨k,t,s,0,⟨#[]⟩,⟨#[]⟩,false,[],[]⟩
theorem bare_val (w:World) (k t s:Int) (h:RecOk (bareR k t s)):RecVal w none none 0 0 (bareR k t s) :=
 ⟨nil_strs _ _,nil_wrs _ _,⟨h.rng,Nat.le_refl _,Nat.le_refl _,Nat.zero_le _,Nat.zero_le _⟩,fun _=>⟨rfl,rfl⟩,fun _=>⟨rfl,rfl⟩⟩
theorem no_val (w:World):RecVal w none none 0 0 noRec:=by
 refine ⟨nil_strs _ _,nil_wrs _ _,⟨⟨?_,?_,?_,?_,Nat.zero_le _,Nat.zero_le _,Nat.zero_le _,Nat.zero_le _,fun s h=>absurd h (by simp [noRec]),fun x h=>absurd h (by simp [noRec])⟩,Nat.le_refl _,Nat.le_refl _,Nat.zero_le _,Nat.zero_le _⟩,fun _=>⟨rfl,rfl⟩,fun _=>⟨rfl,rfl⟩⟩ <;> (show (-9223372036854775808:Int) ≤ 0 ∧ (0:Int) ≤ 9223372036854775807;omega)
end Rc
end Go.Proofs.YtlfkhlfkckfbpaaGreat
namespace Go.Proofs.YtlfkhlfkckfbpaaGreat
namespace Tr
open Go.ChangeShapes Go.WideShapes Go.ChangeAt Go.RowKit Go.Joins Go.Deep Bk Lt Rc
structure RI where
 l:Rec
 A:Option Addr
 B:Option Addr
 c:Nat
 d:Nat
instance:Inhabited RI:=⟨⟨noRec,none,none,0,0⟩⟩
def rcs (x:RI):List Value:=[.int .i64 x.l.kind,.int .i64 x.l.txn,.int .i64 x.l.ts,.int .i64 x.l.coord,.string x.l.key,.string x.l.text,.bool x.l.dead,.slice x.A x.l.keys.length x.c,.slice x.B x.l.ws.length x.d]
section
variable {H:Type} {enc:TypeId × Value → H} {W:World}
end
end Tr
end Go.Proofs.YtlfkhlfkckfbpaaGreat
namespace Go.Proofs.YtlfkhlfkckfbpaaGreat
namespace Sh
open Go.RowKit Bk Ch
structure Away (F:Nat → Prop) (w w':World):Prop where
 size:w.heap.size ≤ w'.heap.size
 block:∀ k,k < w.heap.size → ¬ F k → w'.heap[k]? = w.heap[k]?
theorem Away.of {F:Nat → Prop} {w w':World} (h:Below w.heap.size w w'):Away F w w':=⟨h.size,fun k hk _=>h.block k hk⟩
theorem Away.trans {F:Nat → Prop} {a b c:World} (h:Away F a b) (k:Away F b c):Away F a c :=
 ⟨Nat.le_trans h.size k.size,fun i hi hn=>(k.block i (Nat.lt_of_lt_of_le hi h.size) hn).trans (h.block i hi hn)⟩
theorem Away.cell {F:Nat → Prop} {w w':World} (h:Away F w w') (a:Addr) (ha:a.block < w.heap.size) (hF:¬ F a.block):w'.cell? a = w.cell? a:=by
 unfold World.cell?
 rw [h.block a.block ha hF]
def RowF (W:World) (F:Nat → Prop) (A:Option Addr) (cs:List Value):Prop :=
 0 < cs.length → ∃ ad,A = some ad ∧ ad.block < W.heap.size ∧ ¬ F ad.block ∧ ∀ (j:Nat) (v:Value),cs[j]? = some v → W.cell? (ad.add j) = some v
theorem RowF.away {W W':World} {F:Nat → Prop} {A:Option Addr} {cs:List Value} (h:RowF W F A cs) (k:Away F W W'):RowF W' F A cs:=fun hp=>by
 obtain ⟨ad,e,h1,h2,h3⟩:=h hp
 exact ⟨ad,e,Nat.lt_of_lt_of_le h1 k.size,h2,fun j v hv=>(k.cell _ (by rw [st_block];exact h1) (by rw [st_block];exact h2)).trans (h3 j v hv)⟩
theorem RowF.below {W W':World} {F:Nat → Prop} {A:Option Addr} {cs:List Value} (h:RowF W F A cs) (k:Below W.heap.size W W'):RowF W' F A cs:=h.away (Away.of k)
theorem RowF.turn {W:World} {F F':Nat → Prop} {A:Option Addr} {cs:List Value} (h:RowF W F A cs) (hF:∀ k,F' k → F k ∨ W.heap.size ≤ k):RowF W F' A cs:=fun hp=>by
 obtain ⟨ad,e,h1,h2,h3⟩:=h hp
 exact ⟨ad,e,h1,fun hf=>(hF _ hf).elim h2 (fun h=>by omega),h3⟩
theorem RowF.news {W:World} {F:Nat → Prop} {ad:Addr} {cs:List Value} (h:RowF W F (some ad) cs):∀ j u,cs[j]? = some u → W.cell? (ad.add j) = some u:=fun j u hu=>by
 obtain ⟨a',e,_,_,h3⟩:=h (Nat.lt_of_le_of_lt (Nat.zero_le _) (List.getElem?_eq_some_iff.1 hu).1)
 obtain rfl:=Option.some.inj e
 exact h3 j u hu
theorem own_rowF {W:World} {F:Nat → Prop} {H n sz:Nat} {v:Value} {e:TypeId} {cs:List Value} (h:W.ownsRow H e sz v n cs) (hl:cs.length = n * sz) (hF:∀ k,F k → k < H):∃ (A:Option Addr) (c:Nat),v = .slice A n c ∧ RowF W F A cs ∧ n ≤ c ∧ c ≤ maxLen ∧ (A = none → n = 0 ∧ c = 0):=by
 rcases h.2 with ⟨rfl,rfl⟩ | ⟨g,cap,cur,rfl,hH,hg,h1,h2,hsz,htk⟩
 ·exact ⟨none,0,rfl,fun hp=>by rw [hl] at hp;simp at hp,Nat.le_refl _,Nat.zero_le _,fun _=>⟨rfl,rfl⟩⟩
 ·refine ⟨_,cap,rfl,fun _=>⟨_,rfl,(Array.getElem?_eq_some_iff.1 hg).1,fun hf=>by have:=hF _ hf;simp only at this;omega,fun j u hu=>?_⟩,h1,h2,fun e=>by cases e⟩
  rw [addr_head]
  refine blk_cell hg ?_
  have hj:=(List.getElem?_eq_some_iff.1 hu).1
  rw [← htk,List.getElem?_take_of_lt (by omega)] at hu
  rw [← Array.getElem?_toList];exact hu
theorem flatN_len {α:Type} {f:α → List Value} {sz:Nat} (hf:∀ x,(f x).length = sz) (L:List α):(L.flatMap f).length = L.length * sz:=by
 induction L with
 | nil=>simp
 | cons x r ih=>rw [List.flatMap_cons,List.length_append,ih,hf,List.length_cons,Nat.succ_mul];omega
theorem run_append_optN {P:Program} (w:World) (base:Nat) (t ty e:TypeId) (i:TypeInfo) (z:Value) (sz bytes:Nat) (ht:P.underlying t = some (.slice e)) (hi:P.info? e = some i) (hz:i.zero = some z)
  (hsize:i.size = sz) (hby:i.bytes = bytes) (hzs:z.cells.size = sz) (h0:0 < sz) (v:Value) (n:Nat) (xs:List Value) (hown:w.ownsRow base e sz v n xs)
  (A:Option Addr) (m c:Nat) (news:List Value) (hl:news.length = m * sz) (hA:A = none → m = 0 ∧ c = 0) (hnews:∀ ad,A = some ad → ∀ j u,news[j]? = some u → w.cell? (ad.add j) = some u) (h1:∀ u ∈ news,u.oneCell' = true)
  (h63:n + m ≤ maxLen) (hbytes:(n + m) * bytes ≤ 140737488355328) (hbase:base ≤ w.heap.size) :
  ∃ v' w',(Builtin.append_ #[t,t] ty #[v,.slice A m c]).run P w = .ok v' w' ∧ w'.ownsRow base e sz v' (n + m) (xs ++ news) ∧ w.grownBy w' v.ownBlock ∧ (v'.ownBlock = v.ownBlock ∨ v'.ownBlock = some w.heap.size):=by
 cases A with
 | none =>
  obtain ⟨rfl,rfl⟩:=hA rfl
  obtain rfl:news = []:=List.eq_nil_of_length_eq_zero (by omega)
  exact ⟨v,w,run_append_owned_none (P:=P) w base t ty e i sz ht hi _ _ _ hown,by rw [List.append_nil];exact hown,⟨rfl,rfl,rfl,Nat.le_refl _,fun _ _ _=>rfl⟩,.inl rfl⟩
 | some ad =>
  obtain ⟨v',w',hr,h2,h3,_,h5⟩:=run_append_own_at (P:=P) w base t ty e i z sz bytes ht hi hz hsize hby hzs h0 v n xs hown ad m c news hl (hnews ad rfl) h1 h63 hbytes hbase
  exact ⟨v',w',hr,h2,h3,h5⟩
theorem wpList_append_optN {P:Program} {w:World} {ops:Array Oper} {rest:List Oper} {o:Oper} {a:Act} {Q:Exit → Act → World → Prop} (hgd:o.guard = none) (s x:Operand) (t:TypeId)
  (ho:o.op = .call { callee:=.builtin .append,args:=#[s,x],argTypes:=#[t,t] })
  (base:Nat) (e:TypeId) (i:TypeInfo) (z:Value) (sz bytes:Nat) (ht:P.underlying t = some (.slice e)) (hi:P.info? e = some i) (hz:i.zero = some z)
  (hsize:i.size = sz) (hby:i.bytes = bytes) (hzs:z.cells.size = sz) (h0:0 < sz) (v:Value) (n:Nat) (xs:List Value) (hs:a.eval s = v) (hown:w.ownsRow base e sz v n xs)
  (A:Option Addr) (m c:Nat) (news:List Value) (hx:a.eval x = .slice A m c) (hl:news.length = m * sz) (hA:A = none → m = 0 ∧ c = 0) (hnews:∀ ad,A = some ad → ∀ j u,news[j]? = some u → w.cell? (ad.add j) = some u) (h1:∀ u ∈ news,u.oneCell' = true)
  (h63:n + m ≤ maxLen) (hbytes:(n + m) * bytes ≤ 140737488355328) (hbase:base ≤ w.heap.size)
  (h:∀ v' w',w'.ownsRow base e sz v' (n + m) (xs ++ news) → w.grownBy w' v.ownBlock → (v'.ownBlock = v.ownBlock ∨ v'.ownBlock = some w.heap.size) → wpList P ops Q rest (a.put o.dst v') w') :
  wpList P ops Q (o :: rest) a w:=by
 refine wpList_plain hgd fun K hK=>?_
 obtain ⟨v',w',hr,h2,h3,h5⟩:=run_append_optN (P:=P) w base t o.type e i z sz bytes ht hi hz hsize hby hzs h0 v n xs hown A m c news hl hA hnews h1 h63 hbytes hbase
 unfold Oper.wp execOp
 simp only [ho,resolve,invoke,builtin,Sem.run_bind,Sem.run_pure,Result.andThen_ok,List.map_toArray,List.map_cons,List.map_nil,hs,hx,hr]
 exact hK _ _ (h v' w' h2 h3 h5)
theorem rgrow2 {W W':World} {e e':TypeId} {H H' s s' n n':Nat} {v v':Value} {xs xs':List Value} (h:W.ownsRow H e s v n xs) (h':W.ownsRow H' e' s' v' n' xs') (hne:e ≠ e') (hg:W.grownBy W' v'.ownBlock):W'.ownsRow H e s v n xs:=by
 rcases h with ⟨hl,h0 | ⟨i,cap,cur,hv,hb,hgt,rest⟩⟩
 ·exact ⟨hl,.inl h0⟩
 ·refine ⟨hl,.inr ⟨i,cap,cur,hv,hb,(hg.block i (Array.getElem?_eq_some_iff.1 hgt).1 (fun hi=>?_)).trans hgt,rest⟩⟩
  rcases h' with ⟨_,⟨hn,_⟩ | ⟨i',cap',cur',hv',_,hgt',_⟩⟩
  ·rw [hn] at hi;cases hi
  ·rw [hv'] at hi
   obtain rfl:i = i':=by simpa [Value.ownBlock] using hi
   rw [hgt] at hgt'
   simp only [Option.some.injEq,Obj.cells.injEq] at hgt'
   exact hne hgt'.2.1
theorem own_row_at {W:World} {F:Nat → Prop} {H n sz c:Nat} {A:Option Addr} {e:TypeId} {cs:List Value} (h:W.ownsRow H e sz (.slice A n c) n cs) (hl:cs.length = n * sz) (hF:∀ k,F k → k < H):RowF W F A cs ∧ n ≤ c ∧ c ≤ maxLen ∧ (A = none → n = 0 ∧ c = 0):=by
 obtain ⟨A',c',e1,h1⟩:=own_rowF h hl hF
 simp only [Value.slice.injEq] at e1
 obtain ⟨rfl,-,rfl⟩:=e1
 exact h1
end Sh
end Go.Proofs.YtlfkhlfkckfbpaaGreat
namespace Go.Proofs.YtlfkhlfkckfbpaaGreat
namespace Sh
open Go.RowKit Bk Ch Lt Rc Tr
structure KI where
 k:Kc
 A:Option Addr
 c:Nat
instance:Inhabited KI:=⟨⟨⟨⟨#[]⟩,[]⟩,none,0⟩⟩
def ecs (x:Int × Int):List Value:=[.int .i64 x.1,.int .i64 x.2]
theorem ecs_len (x:Int × Int):(ecs x).length = 2:=rfl
structure KVal (W:World) (F:Nat → Prop) (x:KI):Prop where
 row:RowF W F x.A (vrV x.k.l)
 nil:x.A = none → x.k.l.length = 0 ∧ x.c = 0
 le:x.k.l.length ≤ x.c
 cap:x.c ≤ maxLen
theorem RowF.vrs {W:World} {F:Nat → Prop} {A:Option Addr} {l:List Vr} (h:RowF W F A (vrV l)):VrsAt W A l:=fun hp=>by
 obtain ⟨ad,e,h1,_,h3⟩:=h (by rw [vrV_len];omega)
 refine ⟨ad,e,h1,fun i hi=>?_⟩
 obtain ⟨x0,x1,x2⟩:=vrV_at l i hi
 exact ⟨h3 _ _ x0,h3 _ _ x1,h3 _ _ x2⟩
theorem KVal.away {W W':World} {F:Nat → Prop} {x:KI} (h:KVal W F x) (k:Away F W W'):KVal W' F x:=⟨h.row.away k,h.nil,h.le,h.cap⟩
theorem KVal.turn {W:World} {F F':Nat → Prop} {x:KI} (h:KVal W F x) (hF:∀ k,F' k → F k ∨ W.heap.size ≤ k):KVal W F' x:=⟨h.row.turn hF,h.nil,h.le,h.cap⟩
structure PVal (W:World) (F:Nat → Prop) (x:RI):Prop where
 val:RecVal W x.A x.B x.c x.d x.l
 ka:0 < x.l.keys.length → ∀ ad,x.A = some ad → ¬ F ad.block
 wa:0 < x.l.ws.length → ∀ ad,x.B = some ad → ¬ F ad.block
theorem strs_away {W W':World} {F:Nat → Prop} {A:Option Addr} {l:List ByteArray} (h:StrsAt W A l) (ha:0 < l.length → ∀ ad,A = some ad → ¬ F ad.block) (k:Away F W W'):StrsAt W' A l:=fun hp=>by
 obtain ⟨ad,e,h1,h2⟩:=h hp
 have hn:=ha hp ad e
 exact ⟨ad,e,Nat.lt_of_lt_of_le h1 k.size,fun i hi=>(k.cell _ (by rw [st_block];exact h1) (by rw [st_block];exact hn)).trans (h2 i hi)⟩
theorem wrs_away {W W':World} {F:Nat → Prop} {A:Option Addr} {l:List Wr} (h:WrsAt W A l) (ha:0 < l.length → ∀ ad,A = some ad → ¬ F ad.block) (k:Away F W W'):WrsAt W' A l:=fun hp=>by
 obtain ⟨ad,e,h1,h2⟩:=h hp
 have hn:=ha hp ad e
 exact ⟨ad,e,Nat.lt_of_lt_of_le h1 k.size,fun i hi=>⟨(k.cell _ (by rw [st_block];exact h1) (by rw [st_block];exact hn)).trans (h2 i hi).1,(k.cell _ (by rw [st_block];exact h1) (by rw [st_block];exact hn)).trans (h2 i hi).2.1,(k.cell _ (by rw [st_block];exact h1) (by rw [st_block];exact hn)).trans (h2 i hi).2.2⟩⟩
theorem PVal.away {W W':World} {F:Nat → Prop} {x:RI} (h:PVal W F x) (k:Away F W W'):PVal W' F x :=
 ⟨⟨strs_away h.val.ks h.ka k,wrs_away h.val.ws h.wa k,h.val.rng,h.val.kn,h.val.wn⟩,h.ka,h.wa⟩
theorem PVal.turn {W:World} {F F':Nat → Prop} {x:RI} (h:PVal W F x) (hF:∀ k,F' k → F k ∨ W.heap.size ≤ k):PVal W F' x :=
 ⟨h.val,fun hp ad e hf=>by
  obtain ⟨a',e',h1,_⟩:=h.val.ks hp
  obtain rfl:=Option.some.inj (e.symm.trans e')
  exact (hF _ hf).elim (h.ka hp ad e) (fun h=>by omega),fun hp ad e hf=>by
  obtain ⟨a',e',h1,_⟩:=h.val.ws hp
  obtain rfl:=Option.some.inj (e.symm.trans e')
  exact (hF _ hf).elim (h.wa hp ad e) (fun h=>by omega)⟩
def G (F:Nat → Prop) (g:Nat):Nat → Prop:=fun k=>F k ∨ k = g
section
variable {W W':World} {F F':Nat → Prop} {g:Nat} {A B C:Option Addr} {a b c:Nat} {K:List KI} {P:List RI} {s:Shf}
end
end Sh
end Go.Proofs.YtlfkhlfkckfbpaaGreat
