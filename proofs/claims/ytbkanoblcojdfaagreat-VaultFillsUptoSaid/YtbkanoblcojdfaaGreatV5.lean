/- Parts of the proof, joined: RcEnv, ShMath, ShMath2; their conditions stand with each. -/
import Derived.Test.YtbkanoblcojdfaaGreatV0
import Derived.Test.YtbkanoblcojdfaaGreatV4

set_option maxRecDepth 20000
set_option maxHeartbeats 8000000
namespace Go.Proofs.YtbkanoblcojdfaaGreat
namespace Rc
open Go.RowKit Bk Lt
structure RcEnv (w W:World) (g:Nat) (A B:Option Addr) (c d:Nat) (r:Rec):Prop where
 ks:StrsAt W A r.keys
 ws:WrsAt W B r.ws
 cel:Cel W g 37 [.int .i64 r.kind,.int .i64 r.txn,.int .i64 r.ts,.int .i64 r.coord,.string r.key,.string r.text,.bool r.dead,.slice A r.keys.length c,.slice B r.ws.length d]
 bel:Below w.heap.size w W
theorem RcEnv.step {w W W':World} {g:Nat} {A B:Option Addr} {c d:Nat} {r:Rec} (h:RcEnv w W g A B c d r) (hb:Below W.heap.size W W'):RcEnv w W' g A B c d r :=
 ⟨h.ks.below hb,h.ws.below hb,h.cel.below hb,h.bel.trans (hb.mono h.bel.size)⟩
theorem RcEnv.start {w:World} {A B:Option Addr} {c d:Nat} {r:Rec} (ha:StrsAt w A r.keys) (hb:WrsAt w B r.ws) :
  RcEnv w (w.alloc (.cells #[.int .i64 r.kind,.int .i64 r.txn,.int .i64 r.ts,.int .i64 r.coord,.string r.key,.string r.text,.bool r.dead,.slice A r.keys.length c,.slice B r.ws.length d] 37)) w.heap.size A B c d r :=
 ⟨ha.alloc _,hb.alloc _,(blk1 w _).2,(Below.refl _ w).alloc (Nat.le_refl _) _⟩
open Classical in
noncomputable def ckN (r:Rec):Nat:=if RecOk r then 0 else 80
theorem ckN_of {r:Rec} (h:RecOk r):ckN r = 0:=by unfold ckN;rw [if_pos h]
theorem ckN_not {r:Rec} (h:¬ RecOk r):ckN r = 80:=by unfold ckN;rw [if_neg h]
theorem kind_1 {r:Rec} (h:r.kind = 1):kindOk r ↔ TextOk r ∧ r.txn ≠ 0 ∧ r.keys.length ≤ 16 ∧ Rises r.keys ∧ WritesOk r.ws:=by
 constructor
 ·rintro (h2 | h2 | h2 | h2 | h2 | h2 | h2)
  ·exact h2.2
  all_goals omega
 ·intro h2;exact .inl ⟨h,h2⟩
theorem kind_2 {r:Rec} (h:r.kind = 2):kindOk r ↔ BareOk r ∧ r.txn ≠ 0:=by
 constructor
 ·rintro (h2 | h2 | h2 | h2 | h2 | h2 | h2)
  ·omega
  ·exact h2.2
  all_goals omega
 ·intro h2;exact .inr (.inl ⟨h,h2⟩)
theorem kind_3 {r:Rec} (h:r.kind = 3):kindOk r ↔ ListsOk r ∧ r.coord = 0 ∧ r.txn = 0 ∧ r.ts ≠ 0 ∧ keyOk r.key ∧ r.text.size ≤ 2052 ∧ (r.dead = false ∨ r.text = ⟨#[]⟩):=by
 constructor
 ·rintro (h2 | h2 | h2 | h2 | h2 | h2 | h2)
  ·omega
  ·omega
  ·exact h2.2
  all_goals omega
 ·intro h2;exact .inr (.inr (.inl ⟨h,h2⟩))
theorem kind_4 {r:Rec} (h:r.kind = 4):kindOk r ↔ BareOk r ∧ r.txn = 0:=by
 constructor
 ·rintro (h2 | h2 | h2 | h2 | h2 | h2 | h2)
  ·omega
  ·omega
  ·omega
  ·exact h2.2
  all_goals omega
 ·intro h2;exact .inr (.inr (.inr (.inl ⟨h,h2⟩)))
theorem kind_5 {r:Rec} (h:r.kind = 5):kindOk r ↔ BareOk r ∧ r.txn ≠ 0 ∧ r.ts ≠ 0:=by
 constructor
 ·rintro (h2 | h2 | h2 | h2 | h2 | h2 | h2)
  ·omega
  ·omega
  ·omega
  ·omega
  ·exact h2.2
  all_goals omega
 ·intro h2;exact .inr (.inr (.inr (.inr (.inl ⟨h,h2⟩))))
theorem kind_6 {r:Rec} (h:r.kind = 6):kindOk r ↔ BareOk r ∧ r.txn ≠ 0 ∧ r.ts = 0:=by
 constructor
 ·rintro (h2 | h2 | h2 | h2 | h2 | h2 | h2)
  ·omega
  ·omega
  ·omega
  ·omega
  ·omega
  ·exact h2.2
  ·omega
 ·intro h2;exact .inr (.inr (.inr (.inr (.inr (.inl ⟨h,h2⟩)))))
theorem kind_7 {r:Rec} (h:r.kind = 7):kindOk r ↔ BareOk r ∧ r.txn = 0 ∧ r.ts ≠ 0:=by
 constructor
 ·rintro (h2 | h2 | h2 | h2 | h2 | h2 | h2)
  ·omega
  ·omega
  ·omega
  ·omega
  ·omega
  ·omega
  ·exact h2.2
 ·intro h2;exact .inr (.inr (.inr (.inr (.inr (.inr ⟨h,h2⟩)))))
theorem kind_no {r:Rec} (h:r.kind < 1 ∨ 7 < r.kind):¬ kindOk r:=by
 rintro (h2 | h2 | h2 | h2 | h2 | h2 | h2) <;> omega
structure RecVal (w:World) (A B:Option Addr) (c d:Nat) (r:Rec):Prop where
 ks:StrsAt w A r.keys
 ws:WrsAt w B r.ws
 rng:RecRange r c d
 kn:A = none → r.keys = [] ∧ c = 0
 wn:B = none → r.ws = [] ∧ d = 0
theorem RecVal.below {w W:World} {A B:Option Addr} {c d:Nat} {r:Rec} (h:RecVal w A B c d r) (hb:Below w.heap.size w W):RecVal W A B c d r :=
 ⟨h.ks.below hb,h.ws.below hb,h.rng,h.kn,h.wn⟩
theorem cand_range {ns:List Int} {ts:List ByteArray} (h:Pk.MayBe ns ts):RecRng (cand ns ts):=by
 obtain ⟨h1,h2,h3,h4⟩:=h
 have rb:reachBytes = 140737488351232:=by unfold reachBytes;rfl
 have hi:∀ i,-9223372036854775808 ≤ ns.getD i 0 ∧ ns.getD i 0 ≤ 9223372036854775807:=fun i=>by
  rw [List.getD_eq_getElem?_getD]
  cases e:ns[i]? with
  | none=>simp
  | some z =>
   have hz:=h3 z (List.mem_of_getElem? e)
   unfold Pk.numOk at hz
   simp only [Option.getD_some];omega
 have ht:∀ t ∈ ts,t.size ≤ reachBytes:=fun t ht=>by have:=h4 t ht;omega
 have hp:∀ (fs:List Int) (us:List ByteArray),(∀ u ∈ us,u.size ≤ reachBytes) → ∀ x ∈ pairL fs us,x.key.size ≤ reachBytes ∧ x.shard.size ≤ reachBytes:=by
  intro fs
  induction fs with
  | nil=>intro us _ x hx;simp [pairL] at hx
  | cons f fs ih =>
   intro us hu x hx
   match us,hu,hx with
   | [],_,hx=>simp [pairL] at hx
   | [k],_,hx=>simp [pairL] at hx
   | k :: s :: r,hu,hx =>
    rcases List.mem_cons.1 hx with rfl | hx
    ·exact ⟨hu _ (by simp),hu _ (by simp)⟩
    ·exact ih r (fun u hr=>hu u (by simp [hr])) x hx
 have hpl:∀ (fs:List Int) (us:List ByteArray),(pairL fs us).length ≤ fs.length:=by
  intro fs
  induction fs with
  | nil=>intro us;simp [pairL]
  | cons f fs ih =>
   intro us
   match us with
   | []=>simp [pairL]
   | [k]=>simp [pairL]
   | k :: s :: r=>rw [pairL,List.length_cons,List.length_cons];have:=ih r;omega
 have hg:∀ i,(ts.getD i ⟨#[]⟩).size ≤ reachBytes:=fun i=>by
  rw [List.getD_eq_getElem?_getD]
  cases e:ts[i]? with
  | none=>simp only [Option.getD_none];show (0:Nat) ≤ _;omega
  | some t=>exact ht t (List.mem_of_getElem? e)
 refine ⟨hi 0,hi 1,hi 2,hi 3,hg 0,hg 1,?_,?_,?_,?_⟩
 ·show ((ts.drop 2).take (manyOf ns)).length * 16 ≤ _
  rw [List.length_take,List.length_drop];omega
 ·show (pairL (ns.drop 6) (ts.drop (2 + manyOf ns))).length * 40 ≤ _
  have:=hpl (ns.drop 6) (ts.drop (2 + manyOf ns))
  rw [List.length_drop] at this;omega
 ·intro t ht2
  exact ht t (List.mem_of_mem_drop (List.mem_of_mem_take ht2))
 ·exact hp _ _ (fun u hu=>ht u (List.mem_of_mem_drop hu))
theorem RecOk.rng {r:Rec} (h:RecOk r):RecRng r:=by
 obtain ⟨b1,b2,b3,b4,b5,b6,b7,b8⟩:=h.bounds
 obtain ⟨⟨h1,h2,h3,h4⟩,_⟩:=h
 have rb:reachBytes = 140737488351232:=by unfold reachBytes;rfl
 unfold txnOk at h1
 unfold stampOk at h2
 exact ⟨by omega,by omega,by omega,by omega,by omega,by omega,by omega,by omega,fun k hk=>by have:=b5 k hk;unfold keyOk at this;omega,fun x hx=>by have:=b6 x hx;unfold keyOk at this;omega⟩
noncomputable def decX (s:ByteArray):Rec × Nat:=open Classical in if h:∃ r,RecOk r ∧ s.data.toList = recL r then (Classical.choose h,0) else (noRec,80)
theorem decX_ok {s:ByteArray} {r:Rec} (h:RecOk r) (hs:s.data.toList = recL r):decX s = (r,0):=by
 have hx:∃ r,RecOk r ∧ s.data.toList = recL r:=⟨r,h,hs⟩
 unfold decX
 rw [dif_pos hx]
 have hc:=Classical.choose_spec hx
 rw [recL_inj hc.1 h (hc.2.symm.trans hs)]
theorem decX_no {s:ByteArray} (h:NoRec s):decX s = (noRec,80):=by
 unfold decX
 rw [dif_neg (fun ⟨r,h1,h2⟩=>h r h1 h2)]
theorem decX_bytes {r:Rec} (h:RecOk r):decX ⟨(recL r).toArray⟩ = (r,0):=decX_ok h (by simp)
open Classical in
noncomputable def encV (r:Rec):Value:=if RecOk r then .tuple #[.string ⟨(recL r).toArray⟩,.int .i64 0] else .tuple #[.string ⟨#[]⟩,.int .i64 80]
theorem encV_ok {r:Rec} (h:RecOk r):encV r = .tuple #[.string ⟨(recL r).toArray⟩,.int .i64 0]:=by unfold encV;rw [if_pos h]
theorem encV_bad {r:Rec} (h:¬ RecOk r):encV r = .tuple #[.string ⟨#[]⟩,.int .i64 80]:=by unfold encV;rw [if_neg h]
end Rc
end Go.Proofs.YtbkanoblcojdfaaGreat
namespace Go.Proofs.YtbkanoblcojdfaaGreat
namespace Sh
open Ch Rc Lt
theorem bytesLess_nil2 (l:List UInt8):Op.bytesLess l [] = false:=by cases l <;> rfl
theorem less_irrefl:∀ l:List UInt8,Op.bytesLess l l = false
 | []=>rfl
 | a :: x=>by
  unfold Op.bytesLess
  rw [less_irrefl x]
  simp
theorem less_trans:∀ x y z:List UInt8,Op.bytesLess x y = true → Op.bytesLess y z = true → Op.bytesLess x z = true
 | _,[],_,h,_=>by rw [bytesLess_nil2] at h;cases h
 | _,_ :: _,[],_,h=>by rw [bytesLess_nil2] at h;cases h
 | [],_ :: _,_ :: _,_,_=>rfl
 | a :: x,b :: y,c :: z,h1,h2=>by
  unfold Op.bytesLess at h1 h2 ⊢
  simp only [Bool.or_eq_true,Bool.and_eq_true,decide_eq_true_eq,beq_iff_eq] at h1 h2 ⊢
  rcases h1 with h1 | ⟨rfl,h1⟩
  ·rcases h2 with h2 | ⟨rfl,h2⟩
   ·exact .inl (by rw [UInt8.lt_iff_toNat_lt] at *;omega)
   ·exact .inl h1
  ·rcases h2 with h2 | ⟨rfl,h2⟩
   ·exact .inl h2
   ·exact .inr ⟨rfl,less_trans x y z h1 h2⟩
theorem less_total:∀ x y:List UInt8,Op.bytesLess x y = true ∨ x = y ∨ Op.bytesLess y x = true
 | [],[]=>.inr (.inl rfl)
 | [],_ :: _=>.inl rfl
 | _ :: _,[]=>.inr (.inr rfl)
 | a :: x,b :: y=>by
  unfold Op.bytesLess
  simp only [Bool.or_eq_true,Bool.and_eq_true,decide_eq_true_eq,beq_iff_eq]
  rcases less_total x y with h | h | h
  ·by_cases e:a = b
   ·exact .inl (.inr ⟨e,h⟩)
   ·rcases Nat.lt_or_gt_of_ne (fun h=>e (UInt8.toNat_inj.1 h)) with h2 | h2
    ·exact .inl (.inl (UInt8.lt_iff_toNat_lt.2 h2))
    ·exact .inr (.inr (.inl (UInt8.lt_iff_toNat_lt.2 h2)))
  ·by_cases e:a = b
   ·exact .inr (.inl (by rw [e,h]))
   ·rcases Nat.lt_or_gt_of_ne (fun h=>e (UInt8.toNat_inj.1 h)) with h2 | h2
    ·exact .inl (.inl (UInt8.lt_iff_toNat_lt.2 h2))
    ·exact .inr (.inr (.inl (UInt8.lt_iff_toNat_lt.2 h2)))
  ·by_cases e:a = b
   ·exact .inr (.inr (.inr ⟨e.symm,h⟩))
   ·rcases Nat.lt_or_gt_of_ne (fun h=>e (UInt8.toNat_inj.1 h)) with h2 | h2
    ·exact .inl (.inl (UInt8.lt_iff_toNat_lt.2 h2))
    ·exact .inr (.inr (.inl (UInt8.lt_iff_toNat_lt.2 h2)))
def ltK (a b:ByteArray):Bool:=Op.bytesLess a.toList b.toList
theorem toList_inj {a b:ByteArray} (h:a.toList = b.toList):a = b:=by
 rw [ByteArray.toList_eq,ByteArray.toList_eq] at h
 obtain ⟨a⟩:=a
 obtain ⟨b⟩:=b
 congr 1
 exact Array.toList_inj.1 h
theorem lt_irrefl (a:ByteArray):ltK a a = false:=less_irrefl _
theorem lt_trans {a b c:ByteArray} (h:ltK a b = true) (h2:ltK b c = true):ltK a c = true:=less_trans _ _ _ h h2
theorem lt_total (a b:ByteArray):ltK a b = true ∨ a = b ∨ ltK b a = true:=by
 rcases less_total a.toList b.toList with h | h | h
 ·exact .inl h
 ·exact .inr (.inl (toList_inj h))
 ·exact .inr (.inr h)
theorem lt_ne {a b:ByteArray} (h:ltK a b = true):a ≠ b:=fun e=>by rw [e,lt_irrefl] at h;cases h
structure Kc where
 name:ByteArray
 l:List Vr
structure Shf where
 k:List Kc
 p:List Rec
 e:List (Int × Int)
 over:Int
def empty:Shf:=⟨[],[],[],0⟩
def findK (k:List Kc) (key:ByteArray):Option Kc:=k.find? (fun x=>decide (x.name = key))
def hasK (k:List Kc) (key:ByteArray):Bool:=(findK k key).isSome
def chainK (k:List Kc) (key:ByteArray):List Vr:=match findK k key with | none=>[] | some x=>x.l
def putK:List Kc → ByteArray → List Vr → List Kc
 | [],key,l=>[⟨key,l⟩]
 | x :: r,key,l=>if ltK x.name key then x :: putK r key l else if x.name = key then ⟨key,l⟩ :: r else ⟨key,l⟩ :: x :: r
def heldR (r:Rec) (key:ByteArray) (w:Bool):Bool:=r.ws.any (fun x=>decide (x.key = key)) || (w && r.keys.any (fun y=>decide (y = key)))
def heldB (s:Shf) (key:ByteArray) (w:Bool):Bool:=s.p.any (fun r=>heldR r key w)
def prepOf (p:List Rec) (txn:Int):Option Rec:=p.find? (fun r=>decide (r.txn = txn))
def endOf (e:List (Int × Int)) (txn:Int):Option (Int × Int):=e.find? (fun x=>decide (x.1 = txn))
def stateP (s:Shf) (txn:Int):Int × Int :=
 match prepOf s.p txn with
 | some _=>(1,0)
 | none=>match endOf s.e txn with
  | none=>(0,0)
  | some x=>if 0 < x.2 then (2,x.2) else (3,0)
def insP (p:List Rec) (r:Rec):List Rec:=p.takeWhile (fun q=>decide (q.txn < r.txn)) ++ r :: p.dropWhile (fun q=>decide (q.txn < r.txn))
def outP (p:List Rec) (txn:Int):List Rec:=p.eraseP (fun q=>decide (q.txn = txn))
def capE (e:List (Int × Int)):List (Int × Int):=if 1024 < e.length then e.drop 1 else e
def endP (s:Shf) (txn ts:Int):Shf:=⟨s.k,outP s.p txn,capE (s.e ++ [(txn,ts)]),s.over⟩
def prepareP (s:Shf) (r:Rec):Shf × Int :=
 if (stateP s r.txn).1 ≠ 0 then (s,6)
 else if r.keys.any (fun y=>heldB s y false) then (s,180)
 else if r.ws.any (fun x=>heldB s x.key true) then (s,180)
 else if 1024 ≤ s.p.length then (s,2)
 else (⟨s.k,insP s.p r,s.e,s.over⟩,0)
def addK (k:List Kc) (key:ByteArray) (v:Vr):List Kc:=putK k key (addP (chainK k key) v).1
def addW (ts:Int):List Wr → List Kc → List Kc
 | [],k=>k
 | x :: r,k=>addW ts r (addK k x.key ⟨ts,x.shard,x.dead⟩)
def longW (k:List Kc):List Wr → Nat → Bool
 | [],_=>false
 | x :: r,n=>(decide (1024 ≤ (chainK k x.key).length) || decide (1024 < if hasK k x.key then n else n + 1)) || longW k r (if hasK k x.key then n else n + 1)
def doP (s:Shf) (txn ts:Int):Shf × Int :=
 if 1 < (stateP s txn).1 then (if (stateP s txn).2 = ts then (s,6) else (s,120))
 else match prepOf s.p txn with
  | none=>(endP s txn ts,0)
  | some r =>
   if 0 < ts then
    if r.ws.any (fun x=>decide (ts ≤ lastT (chainK s.k x.key))) then (s,110)
    else if longW s.k r.ws s.k.length then (s,2)
    else (endP ⟨addW ts r.ws s.k,s.p,s.e,s.over⟩ txn ts,0)
   else (endP s txn ts,0)
def verP (s:Shf) (key:ByteArray) (v:Vr):Shf × Int :=
 if (addP (chainK s.k key) v).2 ≠ 0 then (s,(addP (chainK s.k key) v).2)
 else if hasK s.k key = false ∧ 1024 ≤ s.k.length then (s,2)
 else (⟨addK s.k key v,s.p,s.e,s.over⟩,0)
def sweepK (k:List Kc) (t:Int):List Kc:=(k.map (fun x=>⟨x.name,sweepL x.l t⟩)).filter (fun x=>!x.l.isEmpty)
def sweepS (s:Shf) (t:Int):Shf × Int:=if t < s.over then (s,110) else (⟨sweepK s.k t,s.p,s.e,t⟩,0)
open Classical in
noncomputable def applyP (s:Shf) (r:Rec):Shf × Int :=
 if ¬ RecOk r then (s,80)
 else if r.kind = 1 then prepareP s r
 else if r.kind = 2 then doP s r.txn r.ts
 else if r.kind = 3 then verP s r.key ⟨r.ts,r.text,r.dead⟩
 else if r.kind = 4 then sweepS s r.ts
 else (s,80)
def sweepR (t:Int):Rec:=⟨4,0,t,0,⟨#[]⟩,⟨#[]⟩,false,[],[]⟩
def verR (key:ByteArray) (v:Vr):Rec:=⟨3,0,v.ts,0,key,v.shard,v.dead,[],[]⟩
def doR (x:Int × Int):Rec:=⟨2,x.1,x.2,0,⟨#[]⟩,⟨#[]⟩,false,[],[]⟩
def recordsP (s:Shf):List Rec:=(if 0 < s.over then [sweepR s.over] else []) ++ (s.k.flatMap fun x=>x.l.map (verR x.name)) ++ s.e.map doR ++ s.p
abbrev Sorted (k:List Kc):Prop:=k.Pairwise (fun x y=>ltK x.name y.name = true)
structure ShOk (s:Shf):Prop where
 ks:Sorted s.k
 kn:∀ x ∈ s.k,keyOk x.name
 kc:∀ x ∈ s.k,ChOk x.l
 kz:∀ x ∈ s.k,x.l ≠ []
 kl:s.k.length ≤ 1024
 pr:s.p.Pairwise (fun x y=>x.txn < y.txn)
 po:∀ r ∈ s.p,RecOk r ∧ r.kind = 1
 pl:s.p.length ≤ 1024
 pa:∀ r ∈ s.p,∀ q ∈ s.p,r.txn ≠ q.txn → ∀ x ∈ r.ws,heldR q x.key true = false
 el:s.e.length ≤ 1024
 ed:s.e.Pairwise (fun x y=>x.1 ≠ y.1)
 eo:∀ x ∈ s.e,txnOk x.1 ∧ stampOk x.2
 ep:∀ x ∈ s.e,∀ r ∈ s.p,r.txn ≠ x.1
 ov:stampOk s.over
theorem ok_empty:ShOk empty:=by
 refine ⟨List.Pairwise.nil,?_,?_,?_,?_,List.Pairwise.nil,?_,?_,?_,?_,List.Pairwise.nil,?_,?_,?_⟩
 all_goals first | (intro x hx;simp [empty] at hx;done) | (simp [empty];done) | (unfold empty stampOk;simp)
theorem find_put:∀ (k:List Kc) (key:ByteArray) (l:List Vr) (key':ByteArray),findK (putK k key l) key' = if key' = key then some ⟨key,l⟩ else findK k key'
 | [],key,l,key'=>by
  unfold putK findK
  by_cases h:key' = key
  ·rw [if_pos h,List.find?_cons_of_pos (by simp [h])]
  ·rw [if_neg h,List.find?_cons_of_neg (by simp;exact fun e=>h e.symm)]
 | x :: r,key,l,key'=>by
  unfold putK
  by_cases h1:ltK x.name key = true
  ·rw [if_pos h1]
   have ih:=find_put r key l key'
   unfold findK at ih ⊢
   by_cases h2:x.name = key'
   ·rw [List.find?_cons_of_pos (by simp [h2]),List.find?_cons_of_pos (by simp [h2]),if_neg (fun e=>lt_ne h1 (h2.trans e))]
   ·rw [List.find?_cons_of_neg (by simp [h2]),List.find?_cons_of_neg (by simp [h2]),ih]
  ·rw [if_neg h1]
   by_cases h3:x.name = key
   ·rw [if_pos h3]
    unfold findK
    by_cases h:key' = key
    ·rw [if_pos h,List.find?_cons_of_pos (by simp [h])]
    ·rw [if_neg h,List.find?_cons_of_neg (by simp;exact fun e=>h e.symm),List.find?_cons_of_neg (by simp;exact fun e=>h (e.symm.trans h3))]
   ·rw [if_neg h3]
    unfold findK
    by_cases h:key' = key
    ·rw [if_pos h,List.find?_cons_of_pos (by simp [h])]
    ·rw [if_neg h,List.find?_cons_of_neg (by simp;exact fun e=>h e.symm)]
theorem chain_put (k:List Kc) (key:ByteArray) (l:List Vr) (key':ByteArray):chainK (putK k key l) key' = if key' = key then l else chainK k key':=by
 unfold chainK
 rw [find_put]
 by_cases h:key' = key
 ·rw [if_pos h,if_pos h]
 ·rw [if_neg h,if_neg h]
theorem mem_put:∀ (k:List Kc) (key:ByteArray) (l:List Vr) (y:Kc),y ∈ putK k key l → y = ⟨key,l⟩ ∨ y ∈ k
 | [],key,l,y,h=>by
  unfold putK at h
  exact .inl (List.mem_singleton.1 h)
 | x :: r,key,l,y,h=>by
  unfold putK at h
  by_cases h1:ltK x.name key = true
  ·rw [if_pos h1] at h
   rcases List.mem_cons.1 h with h | h
   ·exact .inr (by rw [h];exact List.mem_cons_self ..)
   ·exact (mem_put r key l y h).imp id (fun h=>List.mem_cons_of_mem _ h)
  ·rw [if_neg h1] at h
   by_cases h3:x.name = key
   ·rw [if_pos h3] at h
    rcases List.mem_cons.1 h with h | h
    ·exact .inl h
    ·exact .inr (List.mem_cons_of_mem _ h)
   ·rw [if_neg h3] at h
    rcases List.mem_cons.1 h with h | h
    ·exact .inl h
    ·exact .inr h
theorem put_sorted:∀ {k:List Kc} (key:ByteArray) (l:List Vr),Sorted k → Sorted (putK k key l)
 | [],key,l,_=>by unfold putK;simp [Sorted]
 | x :: r,key,l,h=>by
  obtain ⟨h1,h2⟩:=List.pairwise_cons.1 h
  unfold putK
  by_cases hl:ltK x.name key = true
  ·rw [if_pos hl]
   refine List.pairwise_cons.2 ⟨fun y hy=>?_,put_sorted key l h2⟩
   rcases mem_put r key l y hy with rfl | hy
   ·exact hl
   ·exact h1 y hy
  ·rw [if_neg hl]
   by_cases h3:x.name = key
   ·rw [if_pos h3]
    exact List.pairwise_cons.2 ⟨fun y hy=>by show ltK key y.name = true;rw [← h3];exact h1 y hy,h2⟩
   ·rw [if_neg h3]
    have hk:ltK key x.name = true:=by
     rcases lt_total key x.name with h | h | h
     ·exact h
     ·exact absurd h.symm h3
     ·exact absurd h hl
    refine List.pairwise_cons.2 ⟨fun y hy=>?_,h⟩
    rcases List.mem_cons.1 hy with rfl | hy
    ·exact hk
    ·exact lt_trans hk (h1 y hy)
theorem find_mem {k:List Kc} {key:ByteArray} {x:Kc} (h:findK k key = some x):x ∈ k ∧ x.name = key:=⟨List.mem_of_find?_eq_some h,by simpa using List.find?_some h⟩
theorem find_of_mem {k:List Kc} (hs:Sorted k) {x:Kc} (hx:x ∈ k):findK k x.name = some x:=by
 induction k with
 | nil=>cases hx
 | cons y r ih =>
  obtain ⟨h1,h2⟩:=List.pairwise_cons.1 hs
  unfold findK
  rcases List.mem_cons.1 hx with rfl | hx
  ·rw [List.find?_cons_of_pos (by simp)]
  ·rw [List.find?_cons_of_neg (by simp;exact lt_ne (h1 x hx))]
   exact ih h2 hx
theorem find_above {k:List Kc} {key:ByteArray} (h:∀ x ∈ k,ltK key x.name = true):findK k key = none:=by
 unfold findK
 rw [List.find?_eq_none]
 intro x hx e
 exact lt_ne (h x hx) (by simpa using (of_decide_eq_true e).symm)
theorem put_len:∀ {k:List Kc} (key:ByteArray) (l:List Vr),Sorted k → (putK k key l).length = if hasK k key then k.length else k.length + 1
 | [],key,l,_=>rfl
 | x :: r,key,l,h=>by
  obtain ⟨h1,h2⟩:=List.pairwise_cons.1 h
  have ih:=put_len key l h2
  unfold hasK findK at ih ⊢
  unfold putK
  by_cases hl:ltK x.name key = true
  ·rw [if_pos hl,List.find?_cons_of_neg (by simp;exact lt_ne hl),List.length_cons,ih,List.length_cons]
   split <;> rfl
  ·rw [if_neg hl]
   by_cases h3:x.name = key
   ·rw [if_pos h3,List.find?_cons_of_pos (by simp [h3])]
    rfl
   ·rw [if_neg h3]
    have hk:ltK key x.name = true:=by
     rcases lt_total key x.name with h | h | h
     ·exact h
     ·exact absurd h.symm h3
     ·exact absurd h hl
    have:=find_above (k:=x :: r) (key:=key) (fun y hy=>by
     rcases List.mem_cons.1 hy with rfl | hy
     ·exact hk
     ·exact lt_trans hk (h1 y hy))
    unfold findK at this
    rw [this]
    rfl
theorem sweep_sorted {k:List Kc} (t:Int) (h:Sorted k):Sorted (sweepK k t):=by
 unfold sweepK
 refine List.Pairwise.filter _ (List.pairwise_map.2 h)
theorem mem_sweep {k:List Kc} {t:Int} {y:Kc} (h:y ∈ sweepK k t):∃ x ∈ k,y = ⟨x.name,sweepL x.l t⟩ ∧ sweepL x.l t ≠ []:=by
 unfold sweepK at h
 obtain ⟨h1,h2⟩:=List.mem_filter.1 h
 obtain ⟨x,hx,rfl⟩:=List.mem_map.1 h1
 exact ⟨x,hx,rfl,fun e=>by simp [e] at h2⟩
theorem sweep_len (k:List Kc) (t:Int):(sweepK k t).length ≤ k.length:=by
 unfold sweepK
 refine Nat.le_trans (List.length_filter_le ..) ?_
 rw [List.length_map]
 exact Nat.le_refl _
end Sh
end Go.Proofs.YtbkanoblcojdfaaGreat
namespace Go.Proofs.YtbkanoblcojdfaaGreat
namespace Sh
open Ch Rc Lt
theorem prep_mem {p:List Rec} {txn:Int} {r:Rec} (h:prepOf p txn = some r):r ∈ p ∧ r.txn = txn:=⟨List.mem_of_find?_eq_some h,by simpa using List.find?_some h⟩
theorem prep_none {p:List Rec} {txn:Int}:prepOf p txn = none ↔ ∀ r ∈ p,r.txn ≠ txn:=by
 unfold prepOf
 rw [List.find?_eq_none]
 constructor
 ·intro h r hr e;exact h r hr (by simp [e])
 ·intro h r hr e;exact h r hr (by simpa using e)
theorem end_none {e:List (Int × Int)} {txn:Int}:endOf e txn = none ↔ ∀ x ∈ e,x.1 ≠ txn:=by
 unfold endOf
 rw [List.find?_eq_none]
 constructor
 ·intro h r hr e;exact h r hr (by simp [e])
 ·intro h r hr e;exact h r hr (by simpa using e)
theorem state_zero {s:Shf} {txn:Int}:(stateP s txn).1 = 0 ↔ prepOf s.p txn = none ∧ endOf s.e txn = none:=by
 unfold stateP
 cases prepOf s.p txn with
 | some r=>simp
 | none =>
  cases endOf s.e txn with
  | none=>simp
  | some x =>
   by_cases h:0 < x.2
   ·simp [h]
   ·simp [h]
theorem state_le {s:Shf} {txn:Int} (h:¬ 1 < (stateP s txn).1):endOf s.e txn = none ∨ ∃ r,prepOf s.p txn = some r:=by
 unfold stateP at h
 cases hp:prepOf s.p txn with
 | some r=>exact .inr ⟨r,rfl⟩
 | none =>
  rw [hp] at h
  cases he:endOf s.e txn with
  | none=>exact .inl rfl
  | some x =>
   rw [he] at h
   simp only at h
   by_cases h0:0 < x.2
   ·rw [if_pos h0] at h;simp at h
   ·rw [if_neg h0] at h;simp at h
theorem mem_ins {p:List Rec} {r q:Rec}:q ∈ insP p r ↔ q = r ∨ q ∈ p:=by
 unfold insP
 rw [List.mem_append,List.mem_cons]
 constructor
 ·rintro (h | h | h)
  ·exact .inr ((List.takeWhile_prefix _).subset h)
  ·exact .inl h
  ·exact .inr ((List.dropWhile_suffix _).subset h)
 ·rintro (h | h)
  ·exact .inr (.inl h)
  ·have:=List.takeWhile_append_dropWhile (p:=fun q:Rec=>decide (q.txn < r.txn)) (l:=p)
   rw [← this] at h
   rcases List.mem_append.1 h with h | h
   ·exact .inl h
   ·exact .inr (.inr h)
theorem ins_len (p:List Rec) (r:Rec):(insP p r).length = p.length + 1:=by
 unfold insP
 have:=congrArg List.length (List.takeWhile_append_dropWhile (p:=fun q:Rec=>decide (q.txn < r.txn)) (l:=p))
 rw [List.length_append] at this
 rw [List.length_append,List.length_cons]
 omega
theorem ins_rise:∀ {p:List Rec} {r:Rec},p.Pairwise (fun x y=>x.txn < y.txn) → (∀ q ∈ p,q.txn ≠ r.txn) → (insP p r).Pairwise (fun x y=>x.txn < y.txn)
 | [],r,_,_=>by unfold insP;simp
 | x :: t,r,h,hn=>by
  obtain ⟨h1,h2⟩:=List.pairwise_cons.1 h
  have ih:=ins_rise (r:=r) h2 (fun q hq=>hn q (List.mem_cons_of_mem _ hq))
  have hx:=hn x (List.mem_cons_self ..)
  unfold insP at ih ⊢
  by_cases hl:x.txn < r.txn
  ·rw [List.takeWhile_cons_of_pos (by simpa using hl),List.dropWhile_cons_of_pos (by simpa using hl),List.cons_append]
   refine List.pairwise_cons.2 ⟨fun y hy=>?_,ih⟩
   have:y = r ∨ y ∈ t:=(mem_ins (p:=t) (r:=r)).1 hy
   rcases this with rfl | hy
   ·exact hl
   ·exact h1 y hy
  ·rw [List.takeWhile_cons_of_neg (by simpa using hl),List.dropWhile_cons_of_neg (by simpa using hl),List.nil_append]
   refine List.pairwise_cons.2 ⟨fun y hy=>?_,h⟩
   rcases List.mem_cons.1 hy with rfl | hy
   ·omega
   ·have:=h1 y hy;omega
theorem ins_last {p:List Rec} {r:Rec} (h:∀ q ∈ p,q.txn < r.txn):insP p r = p ++ [r]:=by
 have h1:p.takeWhile (fun q=>decide (q.txn < r.txn)) = p:=by
  induction p with
  | nil=>rfl
  | cons x t ih=>rw [List.takeWhile_cons_of_pos (by simpa using h x (List.mem_cons_self ..)),ih (fun q hq=>h q (List.mem_cons_of_mem _ hq))]
 have h2:=List.takeWhile_append_dropWhile (p:=fun q:Rec=>decide (q.txn < r.txn)) (l:=p)
 rw [h1] at h2
 have h3:p.dropWhile (fun q=>decide (q.txn < r.txn)) = []:=by
  have h4:=congrArg List.length h2
  rw [List.length_append] at h4
  exact List.eq_nil_of_length_eq_zero (by omega)
 unfold insP
 rw [h1,h3]
theorem out_sub (p:List Rec) (txn:Int):(outP p txn).Sublist p:=List.eraseP_sublist
theorem out_not {p:List Rec} {txn:Int} (h:p.Pairwise (fun x y=>x.txn < y.txn)):∀ r ∈ outP p txn,r.txn ≠ txn:=by
 induction p with
 | nil=>intro r hr;cases hr
 | cons x t ih =>
  obtain ⟨h1,h2⟩:=List.pairwise_cons.1 h
  intro r hr
  unfold outP at hr ih
  by_cases hx:x.txn = txn
  ·rw [List.eraseP_cons_of_pos (by simpa using hx)] at hr
   have:=h1 r hr;omega
  ·rw [List.eraseP_cons_of_neg (by simpa using hx)] at hr
   rcases List.mem_cons.1 hr with rfl | hr
   ·exact hx
   ·exact ih h2 r hr
theorem cap_sub (e:List (Int × Int)):(capE e).Sublist e:=by
 unfold capE
 by_cases h:1024 < e.length
 ·rw [if_pos h];exact List.drop_sublist _ _
 ·rw [if_neg h];exact List.Sublist.refl _
theorem cap_len {e:List (Int × Int)} (h:e.length ≤ 1025):(capE e).length ≤ 1024:=by
 unfold capE
 by_cases h2:1024 < e.length
 ·rw [if_pos h2,List.length_drop];omega
 ·rw [if_neg h2];omega
theorem end_ok {s:Shf} (h:ShOk s) {txn ts:Int} (ht:txnOk txn) (hs:stampOk ts) (hn:endOf s.e txn = none):ShOk (endP s txn ts):=by
 have hn':=end_none.1 hn
 have hos:=out_sub s.p txn
 have hcs:=cap_sub (s.e ++ [(txn,ts)])
 have hmem:∀ x ∈ capE (s.e ++ [(txn,ts)]),x ∈ s.e ∨ x = (txn,ts):=fun x hx=>by
  rcases List.mem_append.1 (hcs.subset hx) with h | h
  ·exact .inl h
  ·exact .inr (List.mem_singleton.1 h)
 refine ⟨h.ks,h.kn,h.kc,h.kz,h.kl,h.pr.sublist hos,fun r hr=>h.po r (hos.subset hr),Nat.le_trans hos.length_le h.pl,fun r hr q hq=>h.pa r (hos.subset hr) q (hos.subset hq),cap_len (by rw [List.length_append];have:=h.el;simp;omega),?_,fun x hx=>?_,fun x hx r hr=>?_,h.ov⟩
 ·refine List.Pairwise.sublist hcs (List.pairwise_append.2 ⟨h.ed,by simp,fun x hx y hy=>?_⟩)
  obtain rfl:=List.mem_singleton.1 hy
  exact hn' x hx
 ·rcases hmem x hx with h2 | rfl
  ·exact h.eo x h2
  ·exact ⟨ht,hs⟩
 ·rcases hmem x hx with h2 | rfl
  ·exact h.ep x h2 r (hos.subset hr)
  ·exact out_not h.pr r hr
theorem prep_end {s:Shf} (h:ShOk s) {txn:Int} {r:Rec} (hp:prepOf s.p txn = some r):endOf s.e txn = none:=by
 obtain ⟨h1,h2⟩:=prep_mem hp
 exact end_none.2 fun x hx e=>h.ep x hx r h1 (by rw [h2,e])
structure KOk (k:List Kc):Prop where
 ks:Sorted k
 kn:∀ x ∈ k,keyOk x.name
 kc:∀ x ∈ k,ChOk x.l
 kz:∀ x ∈ k,x.l ≠ []
theorem ShOk.kok {s:Shf} (h:ShOk s):KOk s.k:=⟨h.ks,h.kn,h.kc,h.kz⟩
theorem KOk.chain {k:List Kc} (h:KOk k) (key:ByteArray):ChOk (chainK k key):=by
 unfold chainK
 cases hf:findK k key with
 | none=>exact ⟨by simp,by simp,List.Pairwise.nil⟩
 | some x=>exact h.kc x (find_mem hf).1
theorem KOk.add {k:List Kc} (h:KOk k) {key:ByteArray} (hk:keyOk key) {v:Vr} (hv:(addP (chainK k key) v).2 = 0):KOk (addK k key v):=by
 obtain ⟨h1,h2⟩:=added hv
 unfold addK
 rw [h2]
 refine ⟨put_sorted _ _ h.ks,fun x hx=>?_,fun x hx=>?_,fun x hx=>?_⟩
 all_goals rcases mem_put _ _ _ _ hx with rfl | hx
 ·exact hk
 ·exact h.kn x hx
 ·exact h1.more
 ·exact h.kc x hx
 ·simp
 ·exact h.kz x hx
theorem KOk.sweep {k:List Kc} (h:KOk k) (t:Int):KOk (sweepK k t):=by
 refine ⟨sweep_sorted t h.ks,fun x hx=>?_,fun x hx=>?_,fun x hx=>?_⟩
 all_goals obtain ⟨y,hy,rfl,he⟩:=mem_sweep hx
 ·exact h.kn y hy
 ·exact ok_sub (h.kc y hy) (sweep_sub t)
 ·exact he
theorem add_may {l:List Vr} (h:ChOk l) {v:Vr} (hv:vrOk v) (hl:lastT l < v.ts) (hn:l.length < 1024):(addP l v).2 = 0:=by
 unfold addP
 have h2:(chkP [v]).2 = 0:=chk_ok.2 ⟨by simp,fun x hx=>by rw [List.mem_singleton.1 hx];exact hv,by simp⟩
 rw [if_neg (by rw [chk_zero h];simp),if_neg (by rw [h2];simp),if_neg (by omega),if_neg (by omega)]
theorem rises_ne {l:List ByteArray} (h:Rises l):l.Pairwise (fun x y=>ltK x y = true):=by
 rw [List.pairwise_iff_getElem]
 have step:∀ i (h1:i + 1 < l.length),ltK (l[i]'(by omega)) l[i + 1] = true:=fun i h1=>by
  have:=(h (i + 1) h1).2 (by omega)
  unfold leT at this
  rw [Bool.or_eq_false_iff] at this
  simp only [Nat.add_sub_cancel] at this
  rcases lt_total (l[i]'(by omega)) l[i + 1] with h2 | h2 | h2
  ·exact h2
  ·rw [h2] at this;simp at this
  ·unfold ltK at h2;rw [this.1] at h2;cases h2
 intro i j hi hj hij
 induction j with
 | zero=>omega
 | succ j ih =>
  by_cases e:i = j
  ·subst e;exact step i hj
  ·exact lt_trans (ih (by omega) (by omega)) (step j hj)
theorem addW_ok {ts:Int} (hts:1 ≤ ts ∧ ts ≤ 1125899906842624):∀ (ws:List Wr) (k:List Kc),KOk k → (∀ x ∈ ws,keyOk x.key ∧ wrOk x) → ws.Pairwise (fun x y=>x.key ≠ y.key) → (∀ x ∈ ws,lastT (chainK k x.key) < ts) → (∀ x ∈ ws,(chainK k x.key).length < 1024) →
  KOk (addW ts ws k) ∧ (∀ key,(∀ x ∈ ws,x.key ≠ key) → chainK (addW ts ws k) key = chainK k key) ∧ (∀ x ∈ ws,chainK (addW ts ws k) x.key = chainK k x.key ++ [⟨ts,x.shard,x.dead⟩])
 | [],k,h,_,_,_,_=>⟨h,fun _ _=>rfl,fun x hx=>by cases hx⟩
 | x :: r,k,h,hw,hp,hl,hn=>by
  obtain ⟨hp1,hp2⟩:=List.pairwise_cons.1 hp
  have hx:=hw x (List.mem_cons_self ..)
  have hv:vrOk ⟨ts,x.shard,x.dead⟩:=by
   have:=hx.2
   unfold wrOk at this
   exact ⟨hts.1,hts.2,this.1,this.2⟩
  have h0:=add_may (h.chain x.key) hv (hl x (List.mem_cons_self ..)) (hn x (List.mem_cons_self ..))
  have hk':KOk (addK k x.key ⟨ts,x.shard,x.dead⟩):=h.add hx.1 h0
  have hch:∀ key,chainK (addK k x.key ⟨ts,x.shard,x.dead⟩) key = if key = x.key then chainK k x.key ++ [⟨ts,x.shard,x.dead⟩] else chainK k key:=fun key=>by
   unfold addK
   rw [chain_put,(added h0).2]
  have hne:∀ y ∈ r,y.key ≠ x.key:=fun y hy e=>hp1 y hy e.symm
  obtain ⟨i1,i2,i3⟩:=addW_ok hts r _ hk' (fun y hy=>hw y (List.mem_cons_of_mem _ hy)) hp2 (fun y hy=>by rw [hch,if_neg (hne y hy)];exact hl y (List.mem_cons_of_mem _ hy)) (fun y hy=>by rw [hch,if_neg (hne y hy)];exact hn y (List.mem_cons_of_mem _ hy))
  refine ⟨i1,fun key hkey=>?_,fun y hy=>?_⟩
  ·show chainK (addW ts r _) key = _
   rw [i2 key (fun y hy=>hkey y (List.mem_cons_of_mem _ hy)),hch,if_neg (fun e=>hkey x (List.mem_cons_self ..) e.symm)]
  ·rcases List.mem_cons.1 hy with rfl | hy
   ·show chainK (addW ts r _) y.key = _
    rw [i2 y.key (fun z hz=>hne z hz),hch,if_pos rfl]
   ·show chainK (addW ts r _) y.key = _
    rw [i3 y hy,hch,if_neg (hne y hy)]
theorem add_len {k:List Kc} (h:KOk k) (key:ByteArray) (v:Vr):(addK k key v).length = if hasK k key then k.length else k.length + 1:=put_len key _ h.ks
theorem has_put (k:List Kc) (key:ByteArray) (l:List Vr) (key':ByteArray):hasK (putK k key l) key' = (decide (key' = key) || hasK k key'):=by
 unfold hasK
 rw [find_put]
 by_cases h:key' = key
 ·simp [h]
 ·simp [h]
theorem longW_far {k k':List Kc}:∀ {ws:List Wr} {n:Nat},(∀ y ∈ ws,chainK k' y.key = chainK k y.key ∧ hasK k' y.key = hasK k y.key) → longW k' ws n = longW k ws n
 | [],_,_=>rfl
 | x :: r,n,h=>by
  unfold longW
  rw [(h x (List.mem_cons_self ..)).1,(h x (List.mem_cons_self ..)).2,longW_far (fun y hy=>h y (List.mem_cons_of_mem _ hy))]
theorem longW_chain {k:List Kc}:∀ {ws:List Wr} {n:Nat},longW k ws n = false → ∀ x ∈ ws,(chainK k x.key).length < 1024
 | [],_,_,x,hx=>by cases hx
 | x :: r,n,h,y,hy=>by
  unfold longW at h
  rw [Bool.or_eq_false_iff,Bool.or_eq_false_iff] at h
  rcases List.mem_cons.1 hy with rfl | hy
  ·have:=h.1.1;simp at this;omega
  ·exact longW_chain h.2 y hy
theorem addW_len {ts:Int} (hts:1 ≤ ts ∧ ts ≤ 1125899906842624):∀ (ws:List Wr) (k:List Kc),KOk k → (∀ x ∈ ws,keyOk x.key ∧ wrOk x) → ws.Pairwise (fun x y=>x.key ≠ y.key) → (∀ x ∈ ws,lastT (chainK k x.key) < ts) → k.length ≤ 1024 → longW k ws k.length = false → (addW ts ws k).length ≤ 1024
 | [],k,_,_,_,_,hl,_=>hl
 | x :: r,k,h,hw,hp,hl,hk,hlong=>by
  obtain ⟨hp1,hp2⟩:=List.pairwise_cons.1 hp
  have hx:=hw x (List.mem_cons_self ..)
  have hlen:=longW_chain hlong x (List.mem_cons_self ..)
  have hv:vrOk ⟨ts,x.shard,x.dead⟩:=by
   have:=hx.2
   unfold wrOk at this
   exact ⟨hts.1,hts.2,this.1,this.2⟩
  have h0:=add_may (h.chain x.key) hv (hl x (List.mem_cons_self ..)) hlen
  have hk':KOk (addK k x.key ⟨ts,x.shard,x.dead⟩):=h.add hx.1 h0
  have hne:∀ y ∈ r,y.key ≠ x.key:=fun y hy e=>hp1 y hy e.symm
  have hch:∀ y ∈ r,chainK (addK k x.key ⟨ts,x.shard,x.dead⟩) y.key = chainK k y.key ∧ hasK (addK k x.key ⟨ts,x.shard,x.dead⟩) y.key = hasK k y.key:=fun y hy=>by
   unfold addK
   rw [chain_put,if_neg (hne y hy),has_put]
   exact ⟨rfl,by simp [hne y hy]⟩
  unfold longW at hlong
  rw [Bool.or_eq_false_iff,Bool.or_eq_false_iff] at hlong
  have hal:=add_len h x.key ⟨ts,x.shard,x.dead⟩
  refine addW_len hts r _ hk' (fun y hy=>hw y (List.mem_cons_of_mem _ hy)) hp2 (fun y hy=>by rw [(hch y hy).1];exact hl y (List.mem_cons_of_mem _ hy)) ?_ ?_
  ·rw [hal]
   have:=hlong.1.2
   simp at this
   omega
  ·rw [hal,longW_far hch]
   exact hlong.2
theorem prep_writes {r:Rec} (h:RecOk r) (hk:r.kind = 1):(∀ x ∈ r.ws,keyOk x.key ∧ wrOk x) ∧ r.ws.Pairwise (fun x y=>x.key ≠ y.key):=by
 have h2:=((kind_1 hk).1 h.2).2.2.2.2
 obtain ⟨_,h3,h4⟩:=h2
 have h5:=rises_ne h4
 refine ⟨fun x hx=>⟨(h.bounds.2.2.2.2.2.1 x hx).1,h3 x hx⟩,?_⟩
 exact (List.pairwise_map.1 h5).imp (fun h=>lt_ne h)
theorem do_ok {s:Shf} (h:ShOk s) {txn ts:Int} (ht:txnOk txn) (hs:stampOk ts):ShOk (doP s txn ts).1:=by
 unfold doP
 by_cases h1:1 < (stateP s txn).1
 ·rw [if_pos h1];split <;> exact h
 rw [if_neg h1]
 cases hp:prepOf s.p txn with
 | none =>
  have hn:endOf s.e txn = none:=by
   rcases state_le h1 with h2 | ⟨r,h2⟩
   ·exact h2
   ·rw [hp] at h2;cases h2
  exact end_ok h ht hs hn
 | some r =>
  have hn:=prep_end h hp
  simp only
  by_cases h2:0 < ts
  ·rw [if_pos h2]
   by_cases h3:r.ws.any (fun x=>decide (ts ≤ lastT (chainK s.k x.key))) = true
   ·rw [if_pos h3];exact h
   rw [if_neg h3]
   by_cases h4:longW s.k r.ws s.k.length = true
   ·rw [if_pos h4];exact h
   rw [if_neg h4]
   have h3':∀ x ∈ r.ws,lastT (chainK s.k x.key) < ts:=fun x hx=>by
    simp only [List.any_eq_true,not_exists,not_and] at h3
    have:=h3 x hx
    simp at this
    omega
   have h4':longW s.k r.ws s.k.length = false:=by simpa using h4
   have hpo:=h.po r (prep_mem hp).1
   obtain ⟨w1,w2⟩:=prep_writes hpo.1 hpo.2
   unfold stampOk at hs
   have hts:1 ≤ ts ∧ ts ≤ 1125899906842624:=by omega
   obtain ⟨k1,_,_⟩:=addW_ok hts r.ws s.k h.kok w1 w2 h3' (longW_chain h4')
   have k2:=addW_len hts r.ws s.k h.kok w1 w2 h3' h.kl h4'
   have h5:ShOk ⟨addW ts r.ws s.k,s.p,s.e,s.over⟩:=⟨k1.ks,k1.kn,k1.kc,k1.kz,k2,h.pr,h.po,h.pl,h.pa,h.el,h.ed,h.eo,h.ep,h.ov⟩
   exact end_ok h5 ht (by unfold stampOk;omega) hn
  ·rw [if_neg h2]
   exact end_ok h ht hs hn
theorem prepare_ok {s:Shf} (h:ShOk s) {r:Rec} (hr:RecOk r) (hk:r.kind = 1):ShOk (prepareP s r).1:=by
 unfold prepareP
 by_cases h1:(stateP s r.txn).1 ≠ 0
 ·rw [if_pos h1];exact h
 rw [if_neg h1]
 by_cases h2:r.keys.any (fun y=>heldB s y false) = true
 ·rw [if_pos h2];exact h
 rw [if_neg h2]
 by_cases h3:r.ws.any (fun x=>heldB s x.key true) = true
 ·rw [if_pos h3];exact h
 rw [if_neg h3]
 by_cases h4:1024 ≤ s.p.length
 ·rw [if_pos h4];exact h
 rw [if_neg h4]
 obtain ⟨hp,he⟩:=state_zero.1 (Decidable.not_not.1 h1)
 have hp':=prep_none.1 hp
 have he':=end_none.1 he
 have hA:∀ q ∈ s.p,∀ x ∈ r.ws,heldR q x.key true = false:=fun q hq x hx=>by
  cases hh:heldR q x.key true with
  | false=>rfl
  | true=>exact absurd (List.any_eq_true.2 ⟨x,hx,List.any_eq_true.2 ⟨q,hq,hh⟩⟩) h3
 have hB:∀ q ∈ s.p,∀ x ∈ q.ws,heldR r x.key true = false:=fun q hq x hx=>by
  cases hh:heldR r x.key true with
  | false=>rfl
  | true =>
   exfalso
   unfold heldR at hh
   simp only [Bool.or_eq_true,Bool.true_and,List.any_eq_true,decide_eq_true_eq] at hh
   rcases hh with ⟨y,hy,e⟩ | ⟨y,hy,e⟩
   ·have:=hA q hq y hy
    unfold heldR at this
    rw [Bool.or_eq_false_iff] at this
    have h5:=this.1
    rw [List.any_eq_false] at h5
    exact h5 x hx (by simp [e])
   ·refine h2 (List.any_eq_true.2 ⟨y,hy,List.any_eq_true.2 ⟨q,hq,?_⟩⟩)
    unfold heldR
    rw [Bool.or_eq_true]
    exact .inl (List.any_eq_true.2 ⟨x,hx,by simp [e]⟩)
 refine ⟨h.ks,h.kn,h.kc,h.kz,h.kl,ins_rise h.pr hp',fun q hq=>?_,by show (insP s.p r).length ≤ 1024;rw [ins_len];omega,fun a ha b hb hab=>?_,h.el,h.ed,h.eo,fun x hx q hq=>?_,h.ov⟩
 ·rcases mem_ins.1 hq with rfl | hq
  ·exact ⟨hr,hk⟩
  ·exact h.po q hq
 ·rcases mem_ins.1 ha with ha1 | ha1
  ·rcases mem_ins.1 hb with hb1 | hb1
   ·exact absurd (by rw [ha1,hb1]) hab
   ·rw [ha1];exact hA b hb1
  ·rcases mem_ins.1 hb with hb1 | hb1
   ·rw [hb1];exact hB a ha1
   ·exact h.pa a ha1 b hb1 hab
 ·rcases mem_ins.1 hq with rfl | hq
  ·exact fun e=>he' x hx e.symm
  ·exact h.ep x hx q hq
theorem ver_ok {s:Shf} (h:ShOk s) {key:ByteArray} (hk:keyOk key) (v:Vr):ShOk (verP s key v).1:=by
 unfold verP
 by_cases h1:(addP (chainK s.k key) v).2 ≠ 0
 ·rw [if_pos h1];exact h
 rw [if_neg h1]
 by_cases h2:hasK s.k key = false ∧ 1024 ≤ s.k.length
 ·rw [if_pos h2];exact h
 rw [if_neg h2]
 have k1:=h.kok.add hk (Decidable.not_not.1 h1)
 have k2:=add_len h.kok key v
 have hkl:=h.kl
 refine ⟨k1.ks,k1.kn,k1.kc,k1.kz,?_,h.pr,h.po,h.pl,h.pa,h.el,h.ed,h.eo,h.ep,h.ov⟩
 show (addK s.k key v).length ≤ 1024
 rw [k2]
 cases hh:hasK s.k key with
 | true=>simpa using hkl
 | false =>
  have:¬ 1024 ≤ s.k.length:=fun e=>h2 ⟨hh,e⟩
  simp only [Bool.false_eq_true,if_false]
  omega
theorem sweep_ok {s:Shf} (h:ShOk s) {t:Int} (ht:stampOk t):ShOk (sweepS s t).1:=by
 unfold sweepS
 by_cases h1:t < s.over
 ·rw [if_pos h1];exact h
 rw [if_neg h1]
 have k1:=h.kok.sweep t
 exact ⟨k1.ks,k1.kn,k1.kc,k1.kz,Nat.le_trans (sweep_len s.k t) h.kl,h.pr,h.po,h.pl,h.pa,h.el,h.ed,h.eo,h.ep,ht⟩
theorem apply_ok {s:Shf} (h:ShOk s) (r:Rec):ShOk (applyP s r).1:=by
 unfold applyP
 by_cases h0:¬ RecOk r
 ·rw [if_pos h0];exact h
 rw [if_neg h0]
 have hr:=Classical.not_not.1 h0
 have t1:=hr.1.1
 have t2:=hr.1.2.1
 by_cases h1:r.kind = 1
 ·rw [if_pos h1];exact prepare_ok h hr h1
 rw [if_neg h1]
 by_cases h2:r.kind = 2
 ·rw [if_pos h2]
  have:=((kind_2 h2).1 hr.2).2
  exact do_ok h (t1.resolve_left this) t2
 rw [if_neg h2]
 by_cases h3:r.kind = 3
 ·rw [if_pos h3]
  exact ver_ok h ((kind_3 h3).1 hr.2).2.2.2.2.1 _
 rw [if_neg h3]
 by_cases h4:r.kind = 4
 ·rw [if_pos h4];exact sweep_ok h t2
 rw [if_neg h4];exact h
end Sh
end Go.Proofs.YtbkanoblcojdfaaGreat
