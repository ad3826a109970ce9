/- Parts of the proof, joined: PkMath, LtMath; their conditions stand with each. -/
import Derived.Test.YtbkanoblcojdfaaGreatRows
import Derived.Test.YtbkanoblcojdfaaGreatV0

set_option maxRecDepth 20000
set_option maxHeartbeats 8000000
namespace Go.Proofs.YtbkanoblcojdfaaGreat
namespace Pk
def plain (n:Nat):List UInt8:=if n < 128 then [UInt8.ofNat n] else UInt8.ofNat (n % 128 + 128) :: plain (n / 128)
termination_by n
decreasing_by omega
theorem plain_small {n:Nat} (h:n < 128):plain n = [UInt8.ofNat n]:=by rw [plain,if_pos h]
theorem plain_big {n:Nat} (h:128 ≤ n):plain n = UInt8.ofNat (n % 128 + 128) :: plain (n / 128):=by rw [plain,if_neg (by omega)]
theorem plain_pos (n:Nat):1 ≤ (plain n).length:=by
 rw [plain];split <;> simp
inductive Rd
 | ok (n used:Nat)
 | fin
 | form
def Rd.push (x:Nat):Rd → Rd
 | .ok n u=>.ok (x + 128 * n) (u + 1)
 | .fin=>.fin
 | .form=>.form
def readK:Nat → Nat → List UInt8 → Rd
 | 0,_,_=>.form
 | _ + 1,_,[]=>.fin
 | k + 1,i,b :: r=>if b.toNat < 128 then (if b.toNat = 0 ∧ 0 < i then .form else .ok b.toNat 1) else (readK k (i + 1) r).push (b.toNat % 128)
def readR (L:List UInt8):Rd:=readK 9 0 L
theorem ofNat_toNat_lt {n:Nat} (h:n < 256):(UInt8.ofNat n).toNat = n:=UInt8.toNat_ofNat_of_lt' (by show n < 256;exact h)
theorem readK_plain:∀ (k i n:Nat) (rest:List UInt8),n < 128 ^ k → (0 < i → 0 < n) → 1 ≤ k → readK k i (plain n ++ rest) = .ok n (plain n).length
 | 0,i,n,rest,h,hp,hk=>absurd hk (by omega)
 | k + 1,i,n,rest,h,hp,_=>by
  by_cases hs:n < 128
  ·rw [plain_small hs]
   show (if (UInt8.ofNat n).toNat < 128 then _ else _) = _
   rw [ofNat_toNat_lt (by omega),if_pos hs,if_neg (by omega)];rfl
  ·rw [plain_big (by omega)]
   show (if (UInt8.ofNat (n % 128 + 128)).toNat < 128 then _ else _) = _
   rw [ofNat_toNat_lt (by omega),if_neg (by omega)]
   have h2:n / 128 < 128 ^ k:=Nat.div_lt_of_lt_mul (by rw [Nat.pow_succ] at h;omega)
   have hk:1 ≤ k:=by
    rcases Nat.eq_zero_or_pos k with e | e
    ·subst e;simp at h2;omega
    ·exact e
   show (readK k (i + 1) (plain (n / 128) ++ rest)).push _ = _
   rw [readK_plain k (i + 1) (n / 128) rest h2 (fun _=>by omega) hk]
   show Rd.ok _ _ = Rd.ok _ _
   rw [List.length_cons,show (n % 128 + 128) % 128 + 128 * (n / 128) = n by omega]
theorem readK_ok:∀ (k i:Nat) (L:List UInt8) {n u:Nat},readK k i L = .ok n u → L = plain n ++ L.drop u ∧ u = (plain n).length ∧ n < 128 ^ k ∧ (0 < i → 0 < n)
 | 0,_,_,_,_,h=>by simp [readK] at h
 | _ + 1,_,[],_,_,h=>by simp [readK] at h
 | k + 1,i,b :: r,n,u,h=>by
  have hb:b.toNat < 256:=b.toNat_lt
  rw [readK] at h
  split at h
  ·next hs =>
   split at h
   ·cases h
   ·next hz =>
    simp only [Rd.ok.injEq] at h
    obtain ⟨rfl,rfl⟩:=h
    rw [plain_small hs]
    refine ⟨by simp,rfl,?_,fun hi=>by omega⟩
    have:128 ^ 1 ≤ 128 ^ (k + 1):=Nat.pow_le_pow_right (by omega) (by omega)
    omega
  ·next hs =>
   cases hr:readK k (i + 1) r with
   | fin=>rw [hr] at h;simp [Rd.push] at h
   | form=>rw [hr] at h;simp [Rd.push] at h
   | ok m v =>
    obtain ⟨e1,e2,e3,e4⟩:=readK_ok k (i + 1) r hr
    rw [hr] at h
    simp only [Rd.push,Rd.ok.injEq] at h
    obtain ⟨rfl,rfl⟩:=h
    have hm:=e4 (by omega)
    have hp:plain (b.toNat % 128 + 128 * m) = b :: plain m:=by
     rw [plain_big (by omega),show (b.toNat % 128 + 128 * m) / 128 = m by omega,show (b.toNat % 128 + 128 * m) % 128 + 128 = b.toNat by omega,UInt8.ofNat_toNat]
    rw [hp]
    refine ⟨?_,by rw [List.length_cons,e2],by rw [Nat.pow_succ];omega,fun _=>by omega⟩
    rw [List.drop_succ_cons,List.cons_append,← e1]
theorem readK_cut:∀ (k i n j:Nat),n < 128 ^ k → 1 ≤ k → j < (plain n).length → readK k i ((plain n).take j) = .fin
 | 0,i,n,j,h,hk,hj=>absurd hk (by omega)
 | k + 1,i,n,0,h,_,hj=>rfl
 | k + 1,i,n,j + 1,h,_,hj=>by
  by_cases hs:n < 128
  ·rw [plain_small hs] at hj;simp at hj
  ·rw [plain_big (by omega)] at hj ⊢
   rw [List.length_cons] at hj
   have h2:n / 128 < 128 ^ k:=Nat.div_lt_of_lt_mul (by rw [Nat.pow_succ] at h;omega)
   have hk:1 ≤ k:=by
    rcases Nat.eq_zero_or_pos k with e | e
    ·subst e;simp at h2;omega
    ·exact e
   show (if (UInt8.ofNat (n % 128 + 128)).toNat < 128 then _ else _) = _
   rw [ofNat_toNat_lt (by omega),if_neg (by omega)]
   show (readK k (i + 1) ((plain (n / 128)).take j)).push _ = _
   rw [readK_cut k (i + 1) (n / 128) j h2 hk (by omega)];rfl
theorem plain_len:∀ (k n:Nat),n < 128 ^ k → 1 ≤ k → (plain n).length ≤ k
 | 0,_,_,h=>absurd h (by omega)
 | k + 1,n,h,_=>by
  by_cases hs:n < 128
  ·rw [plain_small hs];simp
  ·have h2:n / 128 < 128 ^ k:=Nat.div_lt_of_lt_mul (by rw [Nat.pow_succ] at h;omega)
   have hk:1 ≤ k:=by
    rcases Nat.eq_zero_or_pos k with e | e
    ·subst e;simp at h2;omega
    ·exact e
   have:=plain_len k (n / 128) h2 hk
   rw [plain_big (by omega),List.length_cons]
   omega
termination_by n=>n
decreasing_by omega
theorem plain_inj {n m:Nat} (hn:n < 128 ^ 9) (hm:m < 128 ^ 9) (h:plain n = plain m):n = m:=by
 have h1:=readK_plain 9 0 n [] hn (fun h=>absurd h (by omega)) (by omega)
 have h2:=readK_plain 9 0 m [] hm (fun h=>absurd h (by omega)) (by omega)
 rw [h,h2] at h1
 exact ((Rd.ok.inj h1).1).symm
def zig (z:Int):Nat:=if z < 0 then (-2 * z - 1).toNat else (2 * z).toNat
def unzig (n:Nat):Int:=if n % 2 = 1 then -((n / 2:Nat):Int) - 1 else ((n / 2:Nat):Int)
theorem unzig_zig (z:Int):unzig (zig z) = z:=by
 unfold unzig zig
 split <;> split <;> omega
theorem zig_unzig (n:Nat):zig (unzig n) = n:=by
 unfold unzig zig
 split <;> split <;> omega
def numOk (z:Int):Prop:=-4611686018427387904 ≤ z ∧ z ≤ 4611686018427387903
instance (z:Int):Decidable (numOk z):=inferInstanceAs (Decidable (_ ∧ _))
theorem zig_lt {z:Int} (h:numOk z):zig z < 128 ^ 9:=by
 obtain ⟨h1,h2⟩:=h
 show zig z < 9223372036854775808
 unfold zig
 split <;> omega
theorem unzig_ok {n:Nat} (h:n < 128 ^ 9):numOk (unzig n):=by
 have h':n < 9223372036854775808:=h
 unfold unzig numOk
 split <;> omega
def signed (z:Int):List UInt8:=plain (zig z)
theorem signed_len {z:Int} (h:numOk z):1 ≤ (signed z).length ∧ (signed z).length ≤ 9:=⟨plain_pos _,plain_len 9 _ (zig_lt h) (by omega)⟩
def MayBe (ns:List Int) (ts:List ByteArray):Prop:=ns.length ≤ 1024 ∧ ts.length ≤ 1024 ∧ (∀ n ∈ ns,numOk n) ∧ ∀ t ∈ ts,t.size ≤ 4096
def textL (t:ByteArray):List UInt8:=plain t.size ++ t.data.toList
def numsL (ns:List Int):List UInt8:=ns.flatMap signed
def textsL (ts:List ByteArray):List UInt8:=ts.flatMap textL
def bytesL (ns:List Int) (ts:List ByteArray):List UInt8:=plain ns.length ++ (numsL ns ++ (plain ts.length ++ textsL ts))
inductive Er
 | fin
 | bad (left code:Nat)
def Er.place (n:Nat):Er → Nat
 | .fin=>n
 | .bad left _=>n - left
def Er.code:Er → Nat
 | .fin=>50
 | .bad _ c=>c
def cnt (most:Nat) (L:List UInt8):Except Er (Nat × List UInt8) :=
 match readR L with
 | .ok n u=>if most < n then .error (.bad L.length 2) else .ok (n,L.drop u)
 | .fin=>.error .fin
 | .form=>.error (.bad L.length 3)
def numF (L:List UInt8):Except Er (Nat × List UInt8) :=
 match readR L with
 | .ok n u=>.ok (n,L.drop u)
 | .fin=>.error .fin
 | .form=>.error (.bad L.length 3)
def numsF:Nat → List UInt8 → Except Er (List Int × List UInt8)
 | 0,L=>.ok ([],L)
 | k + 1,L=>match numF L with
  | .error e=>.error e
  | .ok (n,r)=>match numsF k r with
   | .error e=>.error e
   | .ok (ns,r2)=>.ok (unzig n :: ns,r2)
def textF (L:List UInt8):Except Er (ByteArray × List UInt8) :=
 match cnt 4096 L with
 | .error e=>.error e
 | .ok (n,r)=>if r.length < n then .error .fin else .ok (⟨(r.take n).toArray⟩,r.drop n)
def textsF:Nat → List UInt8 → Except Er (List ByteArray × List UInt8)
 | 0,L=>.ok ([],L)
 | k + 1,L=>match textF L with
  | .error e=>.error e
  | .ok (t,r)=>match textsF k r with
   | .error e=>.error e
   | .ok (ts,r2)=>.ok (t :: ts,r2)
def decL (L:List UInt8):Except Er (List Int × List ByteArray) :=
 match cnt 1024 L with
 | .error e=>.error e
 | .ok (k,r1)=>match numsF k r1 with
  | .error e=>.error e
  | .ok (ns,r2)=>match cnt 1024 r2 with
   | .error e=>.error e
   | .ok (m,r3)=>match textsF m r3 with
    | .error e=>.error e
    | .ok (ts,r4)=>if r4 = [] then .ok (ns,ts) else .error (.bad r4.length 3)
structure Good {α:Type} (f:List UInt8 → Except Er (α × List UInt8)) (A:List UInt8) (a:α):Prop where
 whole:∀ rest,f (A ++ rest) = .ok (a,rest)
 cut:∀ j,j < A.length → f (A.take j) = .error .fin
theorem Good.of_eq {α:Type} {f g:List UInt8 → Except Er (α × List UInt8)} {A:List UInt8} {a:α} (h:Good f A a) (e:∀ L,g L = f L):Good g A a :=
 ⟨fun rest=>by rw [e];exact h.whole rest,fun j hj=>by rw [e];exact h.cut j hj⟩
theorem Good.then {α β γ:Type} {f:List UInt8 → Except Er (α × List UInt8)} {g:α → List UInt8 → Except Er (β × List UInt8)} {h:α → β → γ} {A B:List UInt8} {a:α} {b:β} (hA:Good f A a) (hB:Good (g a) B b) :
  Good (fun L=>match f L with | .error e=>.error e | .ok (a,r)=>match g a r with | .error e=>.error e | .ok (b,r2)=>.ok (h a b,r2)) (A ++ B) (h a b):=by
 refine ⟨fun rest=>?_,fun j hj=>?_⟩
 ·rw [List.append_assoc]
  simp only [hA.whole,hB.whole]
 ·by_cases hlt:j < A.length
  ·rw [List.take_append_of_le_length (by omega)]
   simp only [hA.cut j hlt]
  ·rw [List.length_append] at hj
   rw [List.take_append,List.take_of_length_le (by omega)]
   simp only [hA.whole,hB.cut (j - A.length) (by omega)]
theorem readR_plain {n:Nat} (rest:List UInt8) (h:n < 128 ^ 9):readR (plain n ++ rest) = .ok n (plain n).length:=readK_plain 9 0 n rest h (fun h=>absurd h (by omega)) (by omega)
theorem readR_cut {n j:Nat} (h:n < 128 ^ 9) (hj:j < (plain n).length):readR ((plain n).take j) = .fin:=readK_cut 9 0 n j h (by omega) hj
theorem readR_ok {L:List UInt8} {n u:Nat} (h:readR L = .ok n u):L = plain n ++ L.drop u ∧ u = (plain n).length ∧ n < 128 ^ 9:=by
 obtain ⟨h1,h2,h3,_⟩:=readK_ok 9 0 L h
 exact ⟨h1,h2,h3⟩
theorem cnt_good {most n:Nat} (h:n ≤ most) (h9:n < 128 ^ 9):Good (cnt most) (plain n) n:=by
 refine ⟨fun rest=>?_,fun j hj=>?_⟩
 ·unfold cnt
  rw [readR_plain rest h9]
  simp only [if_neg (show ¬ most < n by omega),List.drop_left]
 ·unfold cnt
  rw [readR_cut h9 hj]
theorem numF_good {n:Nat} (h9:n < 128 ^ 9):Good numF (plain n) n:=by
 refine ⟨fun rest=>?_,fun j hj=>?_⟩
 ·unfold numF
  rw [readR_plain rest h9]
  simp only [List.drop_left]
 ·unfold numF
  rw [readR_cut h9 hj]
theorem numsF_good:∀ (ns:List Int),(∀ n ∈ ns,numOk n) → Good (numsF ns.length) (numsL ns) ns
 | [],_=>⟨fun _=>rfl,fun j hj=>absurd hj (by simp [numsL])⟩
 | z :: ns,h=>by
  have hz:=h z (List.mem_cons_self ..)
  have h1:=numF_good (zig_lt hz)
  have h2:=numsF_good ns (fun n hn=>h n (List.mem_cons_of_mem _ hn))
  have h3:=Good.then (h:=fun n (ns:List Int)=>unzig n :: ns) h1 (g:=fun _=>numsF ns.length) h2
  rw [unzig_zig] at h3
  refine h3.of_eq fun L=>?_
  rw [List.length_cons,numsF]
  cases numF L with
  | error e=>rfl
  | ok x=>obtain ⟨n,r⟩:=x;simp only;cases numsF ns.length r <;> rfl
theorem take_good {t:ByteArray}:Good (fun r=>if r.length < t.size then Except.error Er.fin else .ok ((⟨(r.take t.size).toArray⟩:ByteArray),r.drop t.size)) t.data.toList t:=by
 have hl:t.data.toList.length = t.size:=Array.length_toList
 refine ⟨fun rest=>?_,fun j hj=>?_⟩
 ·rw [if_neg (by rw [List.length_append];omega),← hl,List.take_left,List.drop_left]
 ·rw [if_pos (by rw [List.length_take];omega)]
theorem textF_good {t:ByteArray} (h:t.size ≤ 4096):Good textF (textL t) t:=by
 have h1:=cnt_good (most:=4096) (n:=t.size) h (by show _ < 9223372036854775808;omega)
 refine ⟨fun rest=>?_,fun j hj=>?_⟩
 ·unfold textF textL
  rw [List.append_assoc,h1.whole]
  exact take_good.whole rest
 ·unfold textF
  by_cases hlt:j < (plain t.size).length
  ·unfold textL
   rw [List.take_append_of_le_length (by omega),h1.cut j hlt]
  ·unfold textL at hj ⊢
   rw [List.length_append] at hj
   rw [List.take_append,List.take_of_length_le (by omega),h1.whole]
   exact take_good.cut (j - (plain t.size).length) (by omega)
theorem textsF_good:∀ (ts:List ByteArray),(∀ t ∈ ts,t.size ≤ 4096) → Good (textsF ts.length) (textsL ts) ts
 | [],_=>⟨fun _=>rfl,fun j hj=>absurd hj (by simp [textsL])⟩
 | t :: ts,h=>by
  have h1:=textF_good (h t (List.mem_cons_self ..))
  have h2:=textsF_good ts (fun n hn=>h n (List.mem_cons_of_mem _ hn))
  have h3:=Good.then (h:=fun t (ts:List ByteArray)=>t :: ts) h1 (g:=fun _=>textsF ts.length) h2
  refine h3.of_eq fun L=>?_
  rw [List.length_cons,textsF]
  cases textF L with
  | error e=>rfl
  | ok x=>obtain ⟨n,r⟩:=x;simp only;cases textsF ts.length r <;> rfl
theorem decL_bytes {ns:List Int} {ts:List ByteArray} (h:MayBe ns ts) (rest:List UInt8):decL (bytesL ns ts ++ rest) = if rest = [] then .ok (ns,ts) else .error (.bad rest.length 3):=by
 obtain ⟨h1,h2,h3,h4⟩:=h
 unfold decL bytesL
 rw [List.append_assoc,(cnt_good h1 (by show _ < 9223372036854775808;omega)).whole]
 simp only
 rw [List.append_assoc,(numsF_good ns h3).whole]
 simp only
 rw [List.append_assoc,(cnt_good h2 (by show _ < 9223372036854775808;omega)).whole]
 simp only
 rw [(textsF_good ts h4).whole]
theorem decL_back {ns:List Int} {ts:List ByteArray} (h:MayBe ns ts):decL (bytesL ns ts) = .ok (ns,ts):=by
 have:=decL_bytes h []
 rwa [List.append_nil,if_pos rfl] at this
theorem cnt_ok {most n:Nat} {L r:List UInt8} (h:cnt most L = .ok (n,r)):L = plain n ++ r ∧ n ≤ most ∧ n < 128 ^ 9:=by
 unfold cnt at h
 cases hr:readR L with
 | fin=>rw [hr] at h;cases h
 | form=>rw [hr] at h;cases h
 | ok m u =>
  obtain ⟨e1,_,e3⟩:=readR_ok hr
  rw [hr] at h
  simp only at h
  split at h
  ·cases h
  ·simp only [Except.ok.injEq,Prod.mk.injEq] at h
   obtain ⟨rfl,rfl⟩:=h
   exact ⟨e1,by omega,e3⟩
theorem numF_ok {n:Nat} {L r:List UInt8} (h:numF L = .ok (n,r)):L = plain n ++ r ∧ n < 128 ^ 9:=by
 unfold numF at h
 cases hr:readR L with
 | fin=>rw [hr] at h;cases h
 | form=>rw [hr] at h;cases h
 | ok m u =>
  obtain ⟨e1,_,e3⟩:=readR_ok hr
  rw [hr] at h
  simp only [Except.ok.injEq,Prod.mk.injEq] at h
  obtain ⟨rfl,rfl⟩:=h
  exact ⟨e1,e3⟩
theorem numsF_ok:∀ (k:Nat) {L r:List UInt8} {ns:List Int},numsF k L = .ok (ns,r) → L = numsL ns ++ r ∧ ns.length = k ∧ ∀ n ∈ ns,numOk n
 | 0,L,r,ns,h=>by
  simp only [numsF,Except.ok.injEq,Prod.mk.injEq] at h
  obtain ⟨rfl,rfl⟩:=h
  exact ⟨rfl,rfl,fun n hn=>absurd hn (by simp)⟩
 | k + 1,L,r,ns,h=>by
  rw [numsF] at h
  cases h1:numF L with
  | error e=>rw [h1] at h;cases h
  | ok x =>
   obtain ⟨n,r1⟩:=x
   obtain ⟨e1,e2⟩:=numF_ok h1
   rw [h1] at h
   simp only at h
   cases h2:numsF k r1 with
   | error e=>rw [h2] at h;cases h
   | ok y =>
    obtain ⟨ns',r2⟩:=y
    obtain ⟨f1,f2,f3⟩:=numsF_ok k h2
    rw [h2] at h
    simp only [Except.ok.injEq,Prod.mk.injEq] at h
    obtain ⟨rfl,rfl⟩:=h
    refine ⟨?_,by rw [List.length_cons,f2],fun z hz=>?_⟩
    ·rw [e1,f1]
     show _ = (signed (unzig n) ++ numsL ns') ++ r2
     unfold signed
     rw [zig_unzig,List.append_assoc]
    ·rcases List.mem_cons.1 hz with rfl | hz
     ·exact unzig_ok e2
     ·exact f3 z hz
theorem textF_ok {t:ByteArray} {L r:List UInt8} (h:textF L = .ok (t,r)):L = textL t ++ r ∧ t.size ≤ 4096:=by
 unfold textF at h
 cases h1:cnt 4096 L with
 | error e=>rw [h1] at h;cases h
 | ok x =>
  obtain ⟨n,r1⟩:=x
  obtain ⟨e1,e2,_⟩:=cnt_ok h1
  rw [h1] at h
  simp only at h
  split at h
  ·cases h
  ·simp only [Except.ok.injEq,Prod.mk.injEq] at h
   obtain ⟨rfl,rfl⟩:=h
   have hz:(⟨(r1.take n).toArray⟩:ByteArray).size = n:=by
    show (r1.take n).toArray.size = n
    rw [List.size_toArray,List.length_take];omega
   unfold textL
   rw [hz]
   refine ⟨?_,e2⟩
   rw [e1,List.append_assoc]
   congr 1
   exact (List.take_append_drop n r1).symm
theorem textsF_ok:∀ (k:Nat) {L r:List UInt8} {ts:List ByteArray},textsF k L = .ok (ts,r) → L = textsL ts ++ r ∧ ts.length = k ∧ ∀ t ∈ ts,t.size ≤ 4096
 | 0,L,r,ts,h=>by
  simp only [textsF,Except.ok.injEq,Prod.mk.injEq] at h
  obtain ⟨rfl,rfl⟩:=h
  exact ⟨rfl,rfl,fun n hn=>absurd hn (by simp)⟩
 | k + 1,L,r,ts,h=>by
  rw [textsF] at h
  cases h1:textF L with
  | error e=>rw [h1] at h;cases h
  | ok x =>
   obtain ⟨t,r1⟩:=x
   obtain ⟨e1,e2⟩:=textF_ok h1
   rw [h1] at h
   simp only at h
   cases h2:textsF k r1 with
   | error e=>rw [h2] at h;cases h
   | ok y =>
    obtain ⟨ts',r2⟩:=y
    obtain ⟨f1,f2,f3⟩:=textsF_ok k h2
    rw [h2] at h
    simp only [Except.ok.injEq,Prod.mk.injEq] at h
    obtain ⟨rfl,rfl⟩:=h
    refine ⟨?_,by rw [List.length_cons,f2],fun z hz=>?_⟩
    ·rw [e1,f1]
     show _ = (textL t ++ textsL ts') ++ r2
     rw [List.append_assoc]
    ·rcases List.mem_cons.1 hz with rfl | hz
     ·exact e2
     ·exact f3 z hz
theorem decL_ok {L:List UInt8} {ns:List Int} {ts:List ByteArray} (h:decL L = .ok (ns,ts)):MayBe ns ts ∧ L = bytesL ns ts:=by
 unfold decL at h
 cases h1:cnt 1024 L with
 | error e=>rw [h1] at h;cases h
 | ok x =>
  obtain ⟨k,r1⟩:=x
  obtain ⟨a1,a2,_⟩:=cnt_ok h1
  rw [h1] at h
  simp only at h
  cases h2:numsF k r1 with
  | error e=>rw [h2] at h;cases h
  | ok x =>
   obtain ⟨ns',r2⟩:=x
   obtain ⟨b1,b2,b3⟩:=numsF_ok k h2
   rw [h2] at h
   simp only at h
   cases h3:cnt 1024 r2 with
   | error e=>rw [h3] at h;cases h
   | ok x =>
    obtain ⟨m,r3⟩:=x
    obtain ⟨c1,c2,_⟩:=cnt_ok h3
    rw [h3] at h
    simp only at h
    cases h4:textsF m r3 with
    | error e=>rw [h4] at h;cases h
    | ok x =>
     obtain ⟨ts',r4⟩:=x
     obtain ⟨d1,d2,d3⟩:=textsF_ok m h4
     rw [h4] at h
     simp only at h
     split at h
     ·next hr =>
      simp only [Except.ok.injEq,Prod.mk.injEq] at h
      obtain ⟨rfl,rfl⟩:=h
      refine ⟨⟨by omega,by omega,b3,d3⟩,?_⟩
      unfold bytesL
      rw [a1,b1,c1,d1,hr,List.append_nil,b2,d2]
     ·cases h
def ckE (ns:List Int) (ts:List ByteArray):Nat :=
 if 1024 < ns.length ∨ 1024 < ts.length then 2 else if ¬ ∀ n ∈ ns,numOk n then 1 else if ¬ ∀ t ∈ ts,t.size ≤ 4096 then 2 else 0
theorem ckE_zero {ns:List Int} {ts:List ByteArray}:ckE ns ts = 0 ↔ MayBe ns ts:=by
 unfold ckE MayBe
 constructor
 ·intro h
  split at h
  ·cases h
  ·next h1 =>
   split at h
   ·cases h
   ·next h2 =>
    split at h
    ·cases h
    ·next h3=>exact ⟨by omega,by omega,Decidable.not_not.1 h2,Decidable.not_not.1 h3⟩
 ·rintro ⟨h1,h2,h3,h4⟩
  rw [if_neg (by omega),if_neg (by simpa using h3),if_neg (by simpa using h4)]
theorem numsL_le:∀ (ns:List Int),(∀ n ∈ ns,numOk n) → (numsL ns).length ≤ 9 * ns.length
 | [],_=>by simp [numsL]
 | z :: ns,h=>by
  have h1:=(signed_len (h z (List.mem_cons_self ..))).2
  have h2:=numsL_le ns (fun n hn=>h n (List.mem_cons_of_mem _ hn))
  show (signed z ++ numsL ns).length ≤ _
  rw [List.length_append,List.length_cons]
  omega
theorem textL_le {t:ByteArray} (h:t.size ≤ 4096):(textL t).length ≤ 4105:=by
 have h1:=plain_len 9 t.size (by show _ < 9223372036854775808;omega) (by omega)
 have h2:t.data.toList.length = t.size:=Array.length_toList
 unfold textL
 rw [List.length_append]
 omega
theorem textsL_le:∀ (ts:List ByteArray),(∀ t ∈ ts,t.size ≤ 4096) → (textsL ts).length ≤ 4105 * ts.length
 | [],_=>by simp [textsL]
 | t :: ts,h=>by
  have h1:=textL_le (h t (List.mem_cons_self ..))
  have h2:=textsL_le ts (fun n hn=>h n (List.mem_cons_of_mem _ hn))
  show (textL t ++ textsL ts).length ≤ _
  rw [List.length_append,List.length_cons]
  omega
theorem bytesL_le {ns:List Int} {ts:List ByteArray} (h:MayBe ns ts):(bytesL ns ts).length ≤ 5000000:=by
 obtain ⟨h1,h2,h3,h4⟩:=h
 have a1:=plain_len 9 ns.length (by show _ < 9223372036854775808;omega) (by omega)
 have a2:=plain_len 9 ts.length (by show _ < 9223372036854775808;omega) (by omega)
 have a3:=numsL_le ns h3
 have a4:=textsL_le ts h4
 unfold bytesL
 rw [List.length_append,List.length_append,List.length_append]
 omega
end Pk
end Go.Proofs.YtbkanoblcojdfaaGreat
namespace Go.Proofs.YtbkanoblcojdfaaGreat
namespace Lt
def keyOk (s:ByteArray):Prop:=1 ≤ s.size ∧ s.size ≤ 32
instance (s:ByteArray):Decidable (keyOk s):=inferInstanceAs (Decidable (_ ∧ _))
def leT (a b:ByteArray):Bool:=Op.bytesLess a.toList b.toList || a.toList == b.toList
def Rises (l:List ByteArray):Prop:=∀ i (h:i < l.length),keyOk l[i] ∧ (0 < i → leT l[i] (l[i - 1]'(by omega)) = false)
theorem Rises.nil:Rises []:=fun i h=>absurd h (by simp)
def RisesTo (l:List ByteArray) (j:Nat):Prop:=∀ i (h:i < l.length),i < j → keyOk l[i] ∧ (0 < i → leT l[i] (l[i - 1]'(by omega)) = false)
theorem RisesTo.zero (l:List ByteArray):RisesTo l 0:=fun i _ hj=>absurd hj (by omega)
theorem RisesTo.succ {l:List ByteArray} {j:Nat} (h:RisesTo l j) (hj:j < l.length) (hk:keyOk l[j]) (hr:0 < j → leT l[j] (l[j - 1]'(by omega)) = false):RisesTo l (j + 1):=fun i hi hij=>by
 by_cases e:i = j
 ·subst e;exact ⟨hk,hr⟩
 ·exact h i hi (by omega)
theorem RisesTo.all {l:List ByteArray} (h:RisesTo l l.length):Rises l:=fun i hi=>h i hi hi
theorem not_rises {l:List ByteArray} {j:Nat} (hj:j < l.length) (h:¬ (keyOk l[j] ∧ (0 < j → leT l[j] (l[j - 1]'(by omega)) = false))):¬ Rises l:=fun hr=>h (hr j hj)
structure Wr where
 key:ByteArray
 shard:ByteArray
 dead:Bool
def wrOk (x:Wr):Prop:=x.shard.size ≤ 2052 ∧ ¬ (x.dead = true ∧ x.shard ≠ ⟨#[]⟩)
instance (x:Wr):Decidable (wrOk x):=inferInstanceAs (Decidable (_ ∧ _))
def WritesOk (l:List Wr):Prop:=l.length ≤ 16 ∧ (∀ x ∈ l,wrOk x) ∧ Rises (l.map Wr.key)
def addr (n:Int):Prop:=(0 ≤ n ∧ n < 12) ∨ (100 ≤ n ∧ n < 116)
def txnOk (n:Int):Prop:=1 ≤ n ∧ n ≤ 1125899906842623
def stampOk (n:Int):Prop:=0 ≤ n ∧ n ≤ 1125899906842624
instance (n:Int):Decidable (addr n):=inferInstanceAs (Decidable (_ ∨ _))
instance (n:Int):Decidable (txnOk n):=inferInstanceAs (Decidable (_ ∧ _))
instance (n:Int):Decidable (stampOk n):=inferInstanceAs (Decidable (_ ∧ _))
structure Let where
 kind:Int
 src:Int
 dst:Int
 txn:Int
 ts:Int
 code:Int
 text:ByteArray
 keys:List ByteArray
 ws:List Wr
def kindOk (l:Let):Prop :=
 (l.kind = 1 ∧ (l.keys.length = 1 ∧ (∀ k ∈ l.keys,keyOk k) ∧ l.ws = []) ∧ l.text = ⟨#[]⟩ ∧ l.code = 0) ∨
 (l.kind = 2 ∧ (l.keys.length = 1 ∧ (∀ k ∈ l.keys,keyOk k) ∧ l.ws = []) ∧ l.text.size ≤ 2052 ∧ (l.text = ⟨#[]⟩ ∨ l.code = 1)) ∨
 (l.kind = 3 ∧ l.keys.length ≤ 16 ∧ Rises l.keys ∧ WritesOk l.ws ∧ l.text = ⟨#[]⟩ ∧ l.code = 0) ∨
 (l.kind = 4 ∧ (l.keys = [] ∧ l.ws = [] ∧ l.text = ⟨#[]⟩) ∧ l.code ≤ 1) ∨
 ((l.kind = 5 ∨ l.kind = 6 ∨ l.kind = 7) ∧ (l.keys = [] ∧ l.ws = [] ∧ l.text = ⟨#[]⟩) ∧ l.code = 0) ∨
 (l.kind = 8 ∧ (l.keys = [] ∧ l.ws = [] ∧ l.text = ⟨#[]⟩) ∧ l.code ≤ 2)
def headOk (l:Let):Prop:=addr l.src ∧ addr l.dst ∧ txnOk l.txn ∧ stampOk l.ts ∧ 0 ≤ l.code ∧ l.code ≤ 4
def LetOk (l:Let):Prop:=headOk l ∧ kindOk l
end Lt
end Go.Proofs.YtbkanoblcojdfaaGreat
