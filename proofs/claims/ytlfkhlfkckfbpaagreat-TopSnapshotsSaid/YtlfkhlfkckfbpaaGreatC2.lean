/- Parts of the proof, joined: PkRead, PkDecEnv, BkStr, PkDecMath, PkDec, BkAppend, LtBytes, LtCheck, LtEnc, LtPairs, LtCand, LtShape, RcMath, RcOpen, LtDec0, RcEnv; their conditions stand with each. -/
import Derived.Maps.AppendAt
import Derived.OneCell
import Derived.Test.YtlfkhlfkckfbpaaGreatC0
import Derived.Test.YtlfkhlfkckfbpaaGreatC1

set_option maxRecDepth 20000
set_option maxHeartbeats 8000000
namespace Go.Proofs.YtlfkhlfkckfbpaaGreat
namespace Pk
open Go.RowKit Bk
attribute [local go_sem ↓] Go.wp_at_zero Go.wp_at_succ
attribute [local go_sem] floatUpon pick
def liftR (i x:Nat):Rd → Rd
 | .ok n u=>.ok (x + 128 ^ i * n) (i + u)
 | .fin=>.fin
 | .form=>.form
theorem liftR_push (i x y:Nat) (r:Rd):liftR i x (r.push y) = liftR (i + 1) (x + 128 ^ i * y) r:=by
 cases r with
 | ok n u =>
  simp only [Rd.push,liftR,Rd.ok.injEq]
  refine ⟨?_,by omega⟩
  rw [Nat.mul_add,Nat.pow_succ,Nat.add_assoc,Nat.mul_assoc]
 | fin=>rfl
 | form=>rfl
theorem readK_hi {k i:Nat} {b:UInt8} {r:List UInt8} (h:128 ≤ b.toNat):readK (k + 1) i (b :: r) = (readK k (i + 1) r).push (b.toNat % 128):=by
 rw [readK,if_neg (by omega)]
theorem readK_zero {k i:Nat} {b:UInt8} {r:List UInt8} (h:b.toNat = 0) (hi:0 < i):readK (k + 1) i (b :: r) = .form:=by
 rw [readK,if_pos (by omega),if_pos ⟨h,hi⟩]
theorem readK_last {k i:Nat} {b:UInt8} {r:List UInt8} (h:b.toNat < 128) (hi:¬ (b.toNat = 0 ∧ 0 < i)):readK (k + 1) i (b :: r) = .ok b.toNat 1:=by
 rw [readK,if_pos h,if_neg hi]
def readV (s:ByteArray) (a:Nat):Value :=
 match readR (s.data.toList.drop a) with
 | .ok n u=>.tuple #[.int .i64 (n:Int),.int .i64 ((a + u:Nat):Int),.int .i64 0]
 | .fin=>.tuple #[.int .i64 0,.int .i64 (s.size:Int),.int .i64 50]
 | .form=>.tuple #[.int .i64 0,.int .i64 (a:Int),.int .i64 3]
theorem list_size (s:ByteArray):s.data.toList.length = s.size:=Array.length_toList
theorem drop_at (s:ByteArray) (p:Nat) (h:p < s.size):s.data.toList.drop p = s[p] :: s.data.toList.drop (p + 1):=by
 have h':p < s.data.toList.length:=by rw [list_size];exact h
 rw [List.drop_eq_getElem_cons h',Array.getElem_toList];rfl
theorem pow128 (n:Nat):128 ^ n = 2 ^ (7 * n):=by rw [Nat.pow_mul]
def cntV (s:ByteArray) (a most:Nat):Value :=
 match readR (s.data.toList.drop a) with
 | .ok n u=>if most < n then .tuple #[.int .i64 0,.int .i64 (a:Int),.int .i64 2] else .tuple #[.int .i64 (n:Int),.int .i64 ((a + u:Nat):Int),.int .i64 0]
 | .fin=>.tuple #[.int .i64 0,.int .i64 (s.size:Int),.int .i64 50]
 | .form=>.tuple #[.int .i64 0,.int .i64 (a:Int),.int .i64 3]
end Pk
end Go.Proofs.YtlfkhlfkckfbpaaGreat
namespace Go.Proofs.YtlfkhlfkckfbpaaGreat
namespace Pk
open Go.RowKit Bk
theorem Tryz.infoInt:(Tryz.prog.info? 3).map (fun i=>(i.zero,i.size,i.bytes)) = some (some (.int .i64 0),1,8):=by kernel_rfl
def goN (O:List Int) (k:Nat) (L:List UInt8):Except Er (List Int × List UInt8) :=
 match numsF k L with
 | .error e=>.error e
 | .ok (ns,r)=>.ok (O ++ ns,r)
theorem goN_start (k:Nat) (L:List UInt8):goN [] k L = numsF k L:=by
 unfold goN
 cases numsF k L with
 | error e=>rfl
 | ok x=>rfl
theorem goN_done (O:List Int) (L:List UInt8):goN O 0 L = .ok (O,L):=by simp [goN,numsF]
theorem goN_more {O:List Int} {k n:Nat} {L r:List UInt8} (h:numF L = .ok (n,r)):goN O (k + 1) L = goN (O ++ [unzig n]) k r:=by
 unfold goN
 rw [numsF,h]
 simp only
 cases numsF k r with
 | error e=>rfl
 | ok x=>obtain ⟨ns,r2⟩:=x;simp
theorem goN_err {O:List Int} {k:Nat} {L:List UInt8} {e:Er} (h:numF L = .error e):goN O (k + 1) L = .error e:=by
 unfold goN
 rw [numsF,h]
def goT (O:List ByteArray) (k:Nat) (L:List UInt8):Except Er (List ByteArray × List UInt8) :=
 match textsF k L with
 | .error e=>.error e
 | .ok (ts,r)=>.ok (O ++ ts,r)
theorem goT_start (k:Nat) (L:List UInt8):goT [] k L = textsF k L:=by
 unfold goT
 cases textsF k L with
 | error e=>rfl
 | ok x=>rfl
theorem goT_done (O:List ByteArray) (L:List UInt8):goT O 0 L = .ok (O,L):=by simp [goT,textsF]
theorem goT_more {O:List ByteArray} {k:Nat} {t:ByteArray} {L r:List UInt8} (h:textF L = .ok (t,r)):goT O (k + 1) L = goT (O ++ [t]) k r:=by
 unfold goT
 rw [textsF,h]
 simp only
 cases textsF k r with
 | error e=>rfl
 | ok x=>obtain ⟨ns,r2⟩:=x;simp
theorem goT_err {O:List ByteArray} {k:Nat} {L:List UInt8} {e:Er} (h:textF L = .error e):goT O (k + 1) L = .error e:=by
 unfold goT
 rw [textsF,h]
def Said (s:ByteArray) (r:Except Er (Nat × List UInt8)) (n a c:Nat):Prop :=
 (c = 0 ∧ a ≤ s.size ∧ n < 9223372036854775808 ∧ r = .ok (n,s.data.toList.drop a)) ∨ (c ≠ 0 ∧ c ≤ 50 ∧ a ≤ s.size ∧ n = 0 ∧ ∃ e:Er,r = .error e ∧ a = e.place s.size ∧ c = e.code)
theorem readR_in {s:ByteArray} {a n u:Nat} (ha:a ≤ s.size) (h:readR (s.data.toList.drop a) = .ok n u):a + u ≤ s.size:=by
 obtain ⟨h1,h2,_⟩:=readR_ok h
 have h3:=congrArg List.length h1
 rw [List.length_append,List.length_drop,List.length_drop,List.length_drop,list_size,← h2] at h3
 omega
theorem cnt_said (s:ByteArray) (a most:Nat) (ha:a ≤ s.size):∃ n p c:Nat,cntV s a most = .tuple #[.int .i64 (n:Int),.int .i64 (p:Int),.int .i64 (c:Int)] ∧ Said s (cnt most (s.data.toList.drop a)) n p c ∧ n ≤ most:=by
 cases hr:readR (s.data.toList.drop a) with
 | ok n u =>
  have h9:n < 9223372036854775808:=(readR_ok hr).2.2
  by_cases hm:most < n
  ·refine ⟨0,a,2,by unfold cntV;rw [hr];simp only;rw [if_pos hm];rfl,.inr ⟨by omega,by omega,by omega,rfl,.bad (s.data.toList.drop a).length 2,?_,by simp only [Er.place,List.length_drop,list_size];omega,rfl⟩,by omega⟩
   unfold cnt;rw [hr];simp only;rw [if_pos hm]
  ·refine ⟨n,a + u,0,by unfold cntV;rw [hr];simp only;rw [if_neg hm];rfl,.inl ⟨rfl,readR_in ha hr,h9,?_⟩,by omega⟩
   unfold cnt;rw [hr];simp only;rw [if_neg hm,List.drop_drop]
 | fin=>exact ⟨0,s.size,50,by unfold cntV;rw [hr];rfl,.inr ⟨by omega,by omega,by omega,rfl,.fin,by unfold cnt;rw [hr],rfl,rfl⟩,by omega⟩
 | form=>exact ⟨0,a,3,by unfold cntV;rw [hr];rfl,.inr ⟨by omega,by omega,by omega,rfl,.bad (s.data.toList.drop a).length 3,by unfold cnt;rw [hr],by simp only [Er.place,List.length_drop,list_size];omega,rfl⟩,by omega⟩
end Pk
end Go.Proofs.YtlfkhlfkckfbpaaGreat
namespace Go.Proofs.YtlfkhlfkckfbpaaGreat
namespace Bk
open Go.RowKit
theorem text_size (L:List UInt8):(⟨L.toArray⟩:ByteArray).size = L.length:=by
 show L.toArray.size = _
 simp
theorem extract_list (s:ByteArray) (a b:Nat):s.extract a b = ⟨((s.data.toList.drop a).take (b - a)).toArray⟩:=by
 apply ByteArray.ext
 apply Array.toList_inj.1
 simp [ByteArray.data_extract,Array.toList_extract,List.extract_eq_take_drop]
theorem str_from (s:ByteArray) (a:Nat) (h:a ≤ s.size) (i:Int) (hi:i = (a:Int)) (W:World) :
  (Instr.slice 9 (.string s) (some (.int .i64 i)) none none).run Tryz.prog W = .ok (.string ⟨(s.data.toList.drop a).toArray⟩) W:=by
 subst hi
 rw [run_slice_string_l W 9 s Tryz.underlying9 .i64 _ (by omega) (by omega),extract_list,Int.toNat_natCast,List.take_of_length_le (by rw [List.length_drop,Array.length_toList];exact Nat.le_refl _)]
theorem str_to (s:ByteArray) (b:Nat) (h:b ≤ s.size) (j:Int) (hj:j = (b:Int)) (W:World) :
  (Instr.slice 9 (.string s) none (some (.int .i64 j)) none).run Tryz.prog W = .ok (.string ⟨(s.data.toList.take b).toArray⟩) W:=by
 subst hj
 rw [run_slice_string_h W 9 s Tryz.underlying9 .i64 _ (by omega) (by omega),extract_list,Int.toNat_natCast,List.drop_zero,Nat.sub_zero]
theorem str_mid (s:ByteArray) (a b:Nat) (h1:a ≤ b) (h:b ≤ s.size) (i j:Int) (hi:i = (a:Int)) (hj:j = (b:Int)) (W:World) :
  (Instr.slice 9 (.string s) (some (.int .i64 i)) (some (.int .i64 j)) none).run Tryz.prog W = .ok (.string ⟨((s.data.toList.drop a).take (b - a)).toArray⟩) W:=by
 subst hi hj
 rw [run_slice_string W 9 s .i64 .i64 _ _ Tryz.underlying9 (by omega) (by omega) (by omega),extract_list,Int.toNat_natCast,Int.toNat_natCast]
theorem str_at (s:ByteArray) (a:Nat) (b:UInt8) (h:s.data.toList[a]? = some b) (i:Int) (hi:i = (a:Int)) (W:World) :
  (Instr.index 9 (.string s) (.int .i64 i)).run Tryz.prog W = .ok (.int .u8 (b.toNat:Int)) W:=by
 subst hi
 have hl:a < s.data.toList.length:=(List.getElem?_eq_some_iff.1 h).1
 have hl2:a < s.size:=by rw [Array.length_toList] at hl;exact hl
 rw [run_index_string W 9 s .i64 _ Tryz.underlying9,dif_pos (by omega)]
 congr 3
 rw [List.getElem?_eq_getElem hl] at h
 rw [← Option.some.inj h]
 simp only [Int.toNat_natCast]
 rfl
theorem str_one {w:World} {g:Nat} {t:TypeId} {u:Value} (h:w.heap[g]? = some (.cells #[u] t (0,0))):∀ j v,[u][j]? = some v → w.cell? ((⟨g,0,none⟩:Addr).add j) = some v:=fun j v hv=>by
 match j with
 | 0=>simp at hv;subst hv;rw [addr_head];exact blk_cell h rfl
 | j + 1=>simp at hv
end Bk
end Go.Proofs.YtlfkhlfkckfbpaaGreat
namespace Go.Proofs.YtlfkhlfkckfbpaaGreat
namespace Pk
open Go.RowKit Bk
attribute [local go_sem ↓] Go.wp_at_zero Go.wp_at_succ
attribute [local go_sem] floatUpon pick
def decR (s:ByteArray):List Int × List ByteArray × Nat × Nat :=
 match decL s.data.toList with
 | .ok (ns,ts)=>(ns,ts,0,0)
 | .error er=>([],[],er.place s.size,er.code)
theorem textF_err {L:List UInt8} {e:Er} (h:cnt 4096 L = .error e):textF L = .error e:=by unfold textF;rw [h]
theorem textF_cut {L r:List UInt8} {n:Nat} (h:cnt 4096 L = .ok (n,r)) (h2:r.length < n):textF L = .error .fin:=by unfold textF;rw [h];simp only;rw [if_pos h2]
theorem textF_all {L r:List UInt8} {n:Nat} (h:cnt 4096 L = .ok (n,r)) (h2:¬ r.length < n):textF L = .ok (⟨(r.take n).toArray⟩,r.drop n):=by unfold textF;rw [h];simp only;rw [if_neg h2]
theorem noInts {w:World}:IntsAt w none []:=fun h=>absurd h (by simp)
theorem noStrs {w:World}:StrsAt w none []:=fun h=>absurd h (by simp)
theorem cnt_code {most:Nat} {L:List UInt8} {e:Er} (h:cnt most L = .error e):e.code ≠ 0:=by
 unfold cnt at h
 cases hr:readR L with
 | fin=>rw [hr] at h;cases h;decide
 | form=>rw [hr] at h;cases h;show (3:Nat) ≠ 0;omega
 | ok m u =>
  rw [hr] at h
  simp only at h
  split at h
  ·cases h;show (2:Nat) ≠ 0;omega
  ·cases h
theorem numF_code {L:List UInt8} {e:Er} (h:numF L = .error e):e.code ≠ 0:=by
 unfold numF at h
 cases hr:readR L with
 | fin=>rw [hr] at h;cases h;decide
 | form=>rw [hr] at h;cases h;show (3:Nat) ≠ 0;omega
 | ok m u=>rw [hr] at h;cases h
theorem numsF_code:∀ (k:Nat) {L:List UInt8} {e:Er},numsF k L = .error e → e.code ≠ 0
 | 0,L,e,h=>by simp [numsF] at h
 | k + 1,L,e,h=>by
  rw [numsF] at h
  cases h1:numF L with
  | error e=>rw [h1] at h;cases h;exact numF_code h1
  | ok x =>
   rw [h1] at h
   simp only at h
   cases h2:numsF k x.2 with
   | error e=>rw [h2] at h;cases h;exact numsF_code k h2
   | ok y=>rw [h2] at h;cases h
theorem textF_code {L:List UInt8} {e:Er} (h:textF L = .error e):e.code ≠ 0:=by
 unfold textF at h
 cases h1:cnt 4096 L with
 | error e=>rw [h1] at h;cases h;exact cnt_code h1
 | ok x =>
  rw [h1] at h
  simp only at h
  split at h
  ·cases h;decide
  ·cases h
theorem textsF_code:∀ (k:Nat) {L:List UInt8} {e:Er},textsF k L = .error e → e.code ≠ 0
 | 0,L,e,h=>by simp [textsF] at h
 | k + 1,L,e,h=>by
  rw [textsF] at h
  cases h1:textF L with
  | error e=>rw [h1] at h;cases h;exact textF_code h1
  | ok x =>
   rw [h1] at h
   simp only at h
   cases h2:textsF k x.2 with
   | error e=>rw [h2] at h;cases h;exact textsF_code k h2
   | ok y=>rw [h2] at h;cases h
theorem decL_code {L:List UInt8} {e:Er} (h:decL L = .error e):e.code ≠ 0:=by
 unfold decL at h
 cases h1:cnt 1024 L with
 | error e=>rw [h1] at h;cases h;exact cnt_code h1
 | ok x =>
  rw [h1] at h
  simp only at h
  cases h2:numsF x.1 x.2 with
  | error e=>rw [h2] at h;cases h;exact numsF_code _ h2
  | ok x2 =>
   rw [h2] at h
   simp only at h
   cases h3:cnt 1024 x2.2 with
   | error e=>rw [h3] at h;cases h;exact cnt_code h3
   | ok x3 =>
    rw [h3] at h
    simp only at h
    cases h4:textsF x3.1 x3.2 with
    | error e=>rw [h4] at h;cases h;exact textsF_code _ h4
    | ok x4 =>
     rw [h4] at h
     simp only at h
     split at h
     ·cases h
     ·cases h;show (3:Nat) ≠ 0;omega
theorem own_form {w:World} {H n:Nat} {v:Value} {e:TypeId} {xs:List Value} (h:w.ownsRow H e 1 v n xs):∃ (A:Option Addr) (c:Nat),v = .slice A n c ∧ n ≤ c ∧ c ≤ maxLen:=by
 rcases h.2 with ⟨rfl,rfl⟩ | ⟨g,cap,cur,rfl,_,_,h1,h2,_⟩
 ·exact ⟨none,0,rfl,Nat.le_refl _,Nat.zero_le _⟩
 ·exact ⟨_,cap,rfl,h1,h2⟩
theorem strV_snoc2 (O:List ByteArray) (t:ByteArray):strV (O ++ [t]) = strV O ++ [.string t]:=by simp [strV]
theorem ints_own_at {w:World} {H n c:Nat} {A:Option Addr} {e:TypeId} {O:List Int} (h:w.ownsRow H e 1 (.slice A n c) n (intV O)) (hl:n = O.length):IntsAt w A O:=by
 obtain ⟨A',c',e,h2⟩:=ints_of_own h hl
 simp only [Value.slice.injEq] at e
 rw [e.1];exact h2
theorem strs_own_at {w:World} {H n c:Nat} {A:Option Addr} {e:TypeId} {O:List ByteArray} (h:w.ownsRow H e 1 (.slice A n c) n (strV O)) (hl:n = O.length):StrsAt w A O:=by
 obtain ⟨A',c',e,h2⟩:=strs_of_own2 h hl
 simp only [Value.slice.injEq] at e
 rw [e.1];exact h2
end Pk
end Go.Proofs.YtlfkhlfkckfbpaaGreat
namespace Go.Proofs.YtlfkhlfkckfbpaaGreat
namespace Bk
open Go.RowKit
theorem run_append_opt {P:Program} (w:World) (base:Nat) (t ty e:TypeId) (i:TypeInfo) (z:Value) (bytes:Nat) (ht:P.underlying t = some (.slice e)) (hi:P.info? e = some i) (hz:i.zero = some z)
  (hsize:i.size = 1) (hby:i.bytes = bytes) (hzs:z.cells.size = 1) (v:Value) (n:Nat) (xs:List Value) (hown:w.ownsRow base e 1 v n xs)
  (A:Option Addr) (m c:Nat) (news:List Value) (hl:news.length = m) (hA:A = none → m = 0 ∧ c = 0) (hnews:∀ ad,A = some ad → ∀ j u,news[j]? = some u → w.cell? (ad.add j) = some u) (h1:∀ u ∈ news,u.oneCell' = true)
  (h63:n + m ≤ maxLen) (hbytes:(n + m) * bytes ≤ 140737488355328) (hbase:base ≤ w.heap.size) :
  ∃ v' w',(Builtin.append_ #[t,t] ty #[v,.slice A m c]).run P w = .ok v' w' ∧ w'.ownsRow base e 1 v' (n + m) (xs ++ news) ∧ w.grownBy w' v.ownBlock ∧ (v'.ownBlock = v.ownBlock ∨ v'.ownBlock = some w.heap.size):=by
 cases A with
 | none =>
  obtain ⟨rfl,rfl⟩:=hA rfl
  obtain rfl:news = []:=List.eq_nil_of_length_eq_zero hl
  exact ⟨v,w,run_append_owned_none (P:=P) w base t ty e i 1 ht hi _ _ _ hown,by rw [List.append_nil];exact hown,⟨rfl,rfl,rfl,Nat.le_refl _,fun _ _ _=>rfl⟩,.inl rfl⟩
 | some ad =>
  obtain ⟨v',w',hr,h2,h3,_,h5⟩:=run_append_own_at (P:=P) w base t ty e i z 1 bytes ht hi hz hsize hby hzs (by omega) v n xs hown ad m c news (by omega) (hnews ad rfl) h1 h63 hbytes hbase
  exact ⟨v',w',hr,h2,h3,h5⟩
theorem wpList_append_opt {P:Program} {w:World} {ops:Array Oper} {rest:List Oper} {o:Oper} {a:Act} {Q:Exit → Act → World → Prop} (hgd:o.guard = none) (s x:Operand) (t:TypeId)
  (ho:o.op = .call { callee:=.builtin .append,args:=#[s,x],argTypes:=#[t,t] })
  (base:Nat) (e:TypeId) (i:TypeInfo) (z:Value) (bytes:Nat) (ht:P.underlying t = some (.slice e)) (hi:P.info? e = some i) (hz:i.zero = some z)
  (hsize:i.size = 1) (hby:i.bytes = bytes) (hzs:z.cells.size = 1) (v:Value) (n:Nat) (xs:List Value) (hs:a.eval s = v) (hown:w.ownsRow base e 1 v n xs)
  (A:Option Addr) (m c:Nat) (news:List Value) (hx:a.eval x = .slice A m c) (hl:news.length = m) (hA:A = none → m = 0 ∧ c = 0) (hnews:∀ ad,A = some ad → ∀ j u,news[j]? = some u → w.cell? (ad.add j) = some u) (h1:∀ u ∈ news,u.oneCell' = true)
  (h63:n + m ≤ maxLen) (hbytes:(n + m) * bytes ≤ 140737488355328) (hbase:base ≤ w.heap.size)
  (h:∀ v' w',w'.ownsRow base e 1 v' (n + m) (xs ++ news) → w.grownBy w' v.ownBlock → (v'.ownBlock = v.ownBlock ∨ v'.ownBlock = some w.heap.size) → wpList P ops Q rest (a.put o.dst v') w') :
  wpList P ops Q (o :: rest) a w:=by
 refine wpList_plain hgd fun K hK=>?_
 obtain ⟨v',w',hr,h2,h3,h5⟩:=run_append_opt (P:=P) w base t o.type e i z bytes ht hi hz hsize hby hzs v n xs hown A m c news hl hA hnews h1 h63 hbytes hbase
 unfold Oper.wp execOp
 simp only [ho,resolve,invoke,builtin,Sem.run_bind,Sem.run_pure,Result.andThen_ok,List.map_toArray,List.map_cons,List.map_nil,hs,hx,hr]
 exact hK _ _ (h v' w' h2 h3 h5)
end Bk
end Go.Proofs.YtlfkhlfkckfbpaaGreat
namespace Go.Proofs.YtlfkhlfkckfbpaaGreat
namespace Lt
open Go.RowKit Bk
attribute [local go_sem ↓] Go.wp_at_zero Go.wp_at_succ
attribute [local go_sem] floatUpon pick
theorem flat_len (ws:List Wr):(ws.flatMap fun x=>[x.key,x.shard]).length = 2 * ws.length:=by
 induction ws with
 | nil=>rfl
 | cons x r ih=>simp only [List.flatMap_cons,List.length_append,List.length_cons,List.length_nil];omega
theorem ckN_of {l:Let} (h:LetOk l):ckN l = 0:=ckN_zero.2 h
theorem ckN_not {l:Let} (h:¬ LetOk l):ckN l = 70:=by unfold ckN;rw [if_neg h]
theorem Tryz.infoWrite:(Tryz.prog.info? 139).map (fun i=>(i.zero,i.size,i.bytes)) = some (some (.agg #[.string ⟨#[]⟩,.string ⟨#[]⟩,.bool false]),3,40):=by kernel_rfl
def wrV (l:List Wr):List Value:=l.flatMap fun x=>[.string x.key,.string x.shard,.bool x.dead]
theorem wrV_len (l:List Wr):(wrV l).length = l.length * 3:=by
 induction l with
 | nil=>rfl
 | cons x r ih =>
  show ([_,_,_] ++ wrV r).length = _
  rw [List.length_append,ih,List.length_cons]
  simp;omega
theorem wrV_snoc (l:List Wr) (x:Wr):wrV (l ++ [x]) = wrV l ++ [.string x.key,.string x.shard,.bool x.dead]:=by
 unfold wrV
 rw [List.flatMap_append];rfl
theorem wrV_at:∀ (l:List Wr) (i:Nat) (h:i < l.length),(wrV l)[i * 3]? = some (.string l[i].key) ∧ (wrV l)[i * 3 + 1]? = some (.string l[i].shard) ∧ (wrV l)[i * 3 + 2]? = some (.bool l[i].dead)
 | [],_,h=>absurd h (by simp)
 | x :: r,0,_=>⟨rfl,rfl,rfl⟩
 | x :: r,i + 1,h=>by
  have ih:=wrV_at r i (by simpa using h)
  have e:wrV (x :: r) = .string x.key :: .string x.shard :: .bool x.dead :: wrV r:=rfl
  rw [e,show (i + 1) * 3 = i * 3 + 3 by omega]
  exact ih
theorem wrs_own {w:World} {H n:Nat} {v:Value} {e:TypeId} {l:List Wr} (h:w.ownsRow H e 3 v n (wrV l)) (hl:n = l.length):∃ (A:Option Addr) (c:Nat),v = .slice A n c ∧ WrsAt w A l ∧ n ≤ c ∧ c ≤ maxLen ∧ (A = none → c = 0):=by
 rcases h.2 with ⟨rfl,rfl⟩ | ⟨g,cap,cur,rfl,_,hg,h1,h2,hsz,htk⟩
 ·exact ⟨none,0,rfl,fun hp=>by omega,Nat.le_refl _,Nat.zero_le _,fun _=>rfl⟩
 ·refine ⟨_,cap,rfl,fun _=>⟨_,rfl,(Array.getElem?_eq_some_iff.1 hg).1,fun i hi=>?_⟩,h1,h2,fun e=>by cases e⟩
  obtain ⟨x0,x1,x2⟩:=wrV_at l i hi
  have hlen:(wrV l).length = n * 3:=by rw [wrV_len,hl]
  have hc:∀ j u,(wrV l)[j]? = some u → w.cell? ((⟨g,0,none⟩:Addr).add j) = some u:=fun j u hu=>by
   rw [addr_head]
   refine blk_cell hg ?_
   have hj:=(List.getElem?_eq_some_iff.1 hu).1
   rw [← htk,List.getElem?_take_of_lt (by omega)] at hu
   rw [← Array.getElem?_toList];exact hu
  exact ⟨hc _ _ x0,hc _ _ x1,hc _ _ x2⟩
def pairL:List Int → List ByteArray → List Wr
 | f :: fs,k :: s :: ts=>⟨k,s,f == 1⟩ :: pairL fs ts
 | _,_=>[]
theorem pairL_len:∀ (fs:List Int) (ts:List ByteArray),ts.length = 2 * fs.length → (pairL fs ts).length = fs.length
 | [],_,_=>by simp [pairL]
 | f :: fs,[],h=>by simp at h
 | f :: fs,[k],h=>by simp at h;omega
 | f :: fs,k :: s :: ts,h=>by
  rw [pairL,List.length_cons,List.length_cons,pairL_len fs ts (by simp at h;omega)]
theorem pairL_at:∀ (fs:List Int) (ts:List ByteArray) (_h:ts.length = 2 * fs.length) (i:Nat) (hi:i < fs.length) (hp:i < (pairL fs ts).length) (h1:2 * i < ts.length) (h2:2 * i + 1 < ts.length),(pairL fs ts)[i] = ⟨ts[2 * i],ts[2 * i + 1],fs[i] == 1⟩
 | [],_,_,_,hi,_,_,_=>absurd hi (by simp)
 | f :: fs,[],h,_,_,_,_,_=>by simp at h
 | f :: fs,[k],h,_,_,_,_,_=>by simp at h;omega
 | f :: fs,k :: s :: ts,h,0,_,_,_,_=>rfl
 | f :: fs,k :: s :: ts,h,i + 1,hi,hp,h1,h2=>by
  have ih:=pairL_at fs ts (by simp at h;omega) i (by simpa using hi) (by simpa [pairL] using hp) (by simp at h1;omega) (by simp at h2;omega)
  simp only [pairL,List.getElem_cons_succ,ih]
  congr 1 <;> simp [show 2 * (i + 1) = 2 * i + 1 + 1 by omega]
theorem new_row {w:World} {g:Nat} {t:TypeId} {xs:List Value} (h:w.heap[g]? = some (.cells xs.toArray t (0,0))):∀ j v,xs[j]? = some v → w.cell? ((⟨g,0,none⟩:Addr).add j) = some v:=fun j v hv=>by
 rw [addr_head]
 exact blk_cell h (by rw [List.getElem?_toArray];exact hv)
end Lt
end Go.Proofs.YtlfkhlfkckfbpaaGreat
namespace Go.Proofs.YtlfkhlfkckfbpaaGreat
namespace Lt
open Go.RowKit Bk
theorem pairL_of (ws:List Wr):pairL (ws.map fun x=>if x.dead then 1 else 0) (ws.flatMap fun x=>[x.key,x.shard]) = ws:=by
 induction ws with
 | nil=>rfl
 | cons x r ih =>
  show (⟨x.key,x.shard,(if x.dead then (1:Int) else 0) == 1⟩:Wr) :: pairL (r.map fun x=>if x.dead then 1 else 0) (r.flatMap fun x=>[x.key,x.shard]) = _
  rw [ih]
  obtain ⟨k,s,d⟩:=x
  cases d <;> rfl
theorem pair_flags:∀ (fs:List Int) (us:List ByteArray),us.length = 2 * fs.length → (∀ f ∈ fs,f = 0 ∨ f = 1) → ((pairL fs us).map fun x=>if x.dead then (1:Int) else 0) = fs ∧ ((pairL fs us).flatMap fun x=>[x.key,x.shard]) = us
 | [],[],_,_=>⟨rfl,rfl⟩
 | [],_ :: _,h,_=>by simp at h
 | f :: fs,[],h,_=>by simp at h
 | f :: fs,[k],h,_=>by simp at h;omega
 | f :: fs,k :: s :: r,h,h1=>by
  obtain ⟨i1,i2⟩:=pair_flags fs r (by simp at h;omega) (fun g hg=>h1 g (by simp [hg]))
  have hf:(if (f == 1) = true then (1:Int) else 0) = f:=by
   rcases h1 f (by simp) with rfl | rfl <;> rfl
  constructor
  ·show (if (f == 1) = true then (1:Int) else 0) :: ((pairL fs r).map _) = _
   rw [hf,i1]
  ·show k :: s :: ((pairL fs r).flatMap _) = _
   rw [i2]
end Lt
end Go.Proofs.YtlfkhlfkckfbpaaGreat
namespace Go.Proofs.YtlfkhlfkckfbpaaGreat
namespace Rc
open Lt
structure Rec where
 kind:Int
 txn:Int
 ts:Int
 coord:Int
 key:ByteArray
 text:ByteArray
 dead:Bool
 keys:List ByteArray
 ws:List Wr
def flag (b:Bool):Int:=if b then 1 else 0
def headOk (r:Rec):Prop:=(r.txn = 0 ∨ txnOk r.txn) ∧ stampOk r.ts ∧ 0 ≤ r.coord ∧ r.coord < 16
def ListsOk (r:Rec):Prop:=r.keys = [] ∧ r.ws = []
def TextOk (r:Rec):Prop:=r.key = ⟨#[]⟩ ∧ r.text = ⟨#[]⟩ ∧ r.dead = false
def BareOk (r:Rec):Prop:=ListsOk r ∧ TextOk r ∧ r.coord = 0
def kindOk (r:Rec):Prop :=
 (r.kind = 1 ∧ TextOk r ∧ r.txn ≠ 0 ∧ r.keys.length ≤ 16 ∧ Rises r.keys ∧ WritesOk r.ws) ∨
 (r.kind = 2 ∧ BareOk r ∧ r.txn ≠ 0) ∨
 (r.kind = 3 ∧ ListsOk r ∧ r.coord = 0 ∧ r.txn = 0 ∧ r.ts ≠ 0 ∧ keyOk r.key ∧ r.text.size ≤ 2052 ∧ (r.dead = false ∨ r.text = ⟨#[]⟩)) ∨
 (r.kind = 4 ∧ BareOk r ∧ r.txn = 0) ∨
 (r.kind = 5 ∧ BareOk r ∧ r.txn ≠ 0 ∧ r.ts ≠ 0) ∨
 (r.kind = 6 ∧ BareOk r ∧ r.txn ≠ 0 ∧ r.ts = 0) ∨
 (r.kind = 7 ∧ BareOk r ∧ r.txn = 0 ∧ r.ts ≠ 0)
def RecOk (r:Rec):Prop:=headOk r ∧ kindOk r
def numsOf (r:Rec):List Int:=[r.kind,r.txn,r.ts,r.coord,flag r.dead,(r.keys.length:Int)] ++ r.ws.map fun x=>if x.dead then 1 else 0
def textsOf (r:Rec):List ByteArray:=r.key :: r.text :: (r.keys ++ r.ws.flatMap fun x=>[x.key,x.shard])
def recL (r:Rec):List UInt8:=Pk.bytesL (numsOf r) (textsOf r)
theorem rises_keys {m:List ByteArray} (hm:Rises m):∀ k ∈ m,keyOk k:=fun k hk=>by
 obtain ⟨i,hi,e⟩:=List.mem_iff_getElem.1 hk
 rw [← e];exact (hm i hi).1
theorem RecOk.bounds {r:Rec} (h:RecOk r):r.keys.length ≤ 16 ∧ r.ws.length ≤ 16 ∧ r.key.size ≤ 32 ∧ r.text.size ≤ 2052 ∧ (∀ k ∈ r.keys,keyOk k) ∧ (∀ x ∈ r.ws,keyOk x.key ∧ x.shard.size ≤ 2052) ∧ 1 ≤ r.kind ∧ r.kind ≤ 7:=by
 obtain ⟨_,h⟩:=h
 have e0:(⟨#[]⟩:ByteArray).size = 0:=rfl
 have bare:BareOk r → r.keys.length ≤ 16 ∧ r.ws.length ≤ 16 ∧ r.key.size ≤ 32 ∧ r.text.size ≤ 2052 ∧ (∀ k ∈ r.keys,keyOk k) ∧ (∀ x ∈ r.ws,keyOk x.key ∧ x.shard.size ≤ 2052):=by
  rintro ⟨⟨h1,h2⟩,⟨h3,h4,_⟩,_⟩
  rw [h1,h2,h3,h4]
  exact ⟨by simp,by simp,by rw [e0];omega,by rw [e0];omega,by simp,by simp⟩
 rcases h with ⟨h1,⟨h2,h3,_⟩,_,h4,h5,h6,h7,h8⟩ | ⟨h1,h2,_⟩ | ⟨h1,⟨h2,h3⟩,_,_,_,h4,h5,_⟩ | ⟨h1,h2,_⟩ | ⟨h1,h2,_⟩ | ⟨h1,h2,_⟩ | ⟨h1,h2,_⟩
 ·rw [h2,h3]
  exact ⟨h4,h6,by rw [e0];omega,by rw [e0];omega,rises_keys h5,fun x hx=>⟨rises_keys h8 _ (List.mem_map.2 ⟨x,hx,rfl⟩),(h7 x hx).1⟩,by omega,by omega⟩
 ·obtain ⟨a,b,c,d,e,f⟩:=bare h2;exact ⟨a,b,c,d,e,f,by omega,by omega⟩
 ·rw [h2,h3]
  exact ⟨by simp,by simp,h4.2,h5,by simp,by simp,by omega,by omega⟩
 all_goals obtain ⟨a,b,c,d,e,f⟩:=bare h2;exact ⟨a,b,c,d,e,f,by omega,by omega⟩
theorem RecOk.pack {r:Rec} (h:RecOk r):Pk.MayBe (numsOf r) (textsOf r):=by
 obtain ⟨b1,b2,b3,b4,b5,b6,b7,b8⟩:=h.bounds
 obtain ⟨⟨h1,h2,h3,h4⟩,_⟩:=h
 have hfl:∀ b,Pk.numOk (flag b):=fun b=>by cases b <;> (unfold flag Pk.numOk;simp)
 refine ⟨?_,?_,fun n hn=>?_,fun t ht=>?_⟩
 ·unfold numsOf
  rw [List.length_append,List.length_map]
  show 6 + _ ≤ _
  omega
 ·unfold textsOf
  rw [List.length_cons,List.length_cons,List.length_append,flat_len]
  omega
 ·unfold numsOf at hn
  rcases List.mem_append.1 hn with hn | hn
  ·simp only [List.mem_cons,List.not_mem_nil,or_false] at hn
   unfold txnOk at h1
   unfold stampOk at h2
   rcases hn with rfl | rfl | rfl | rfl | rfl | rfl
   all_goals first | exact hfl _ | (unfold Pk.numOk;omega)
  ·obtain ⟨x,_,rfl⟩:=List.mem_map.1 hn
   unfold Pk.numOk
   split <;> omega
 ·unfold textsOf at ht
  rcases List.mem_cons.1 ht with rfl | ht
  ·omega
  rcases List.mem_cons.1 ht with rfl | ht
  ·omega
  rcases List.mem_append.1 ht with ht | ht
  ·have:=b5 t ht;unfold keyOk at this;omega
  ·obtain ⟨x,hx,hx2⟩:=List.mem_flatMap.1 ht
   have:=b6 x hx
   unfold keyOk at this
   simp only [List.mem_cons,List.not_mem_nil,or_false] at hx2
   rcases hx2 with rfl | rfl <;> omega
def manyOf (ns:List Int):Nat:=(ns.getD 5 0).toNat
def cand (ns:List Int) (ts:List ByteArray):Rec :=
 ⟨ns.getD 0 0,ns.getD 1 0,ns.getD 2 0,ns.getD 3 0,ts.getD 0 ⟨#[]⟩,ts.getD 1 ⟨#[]⟩,ns.getD 4 0 == 1,(ts.drop 2).take (manyOf ns),pairL (ns.drop 6) (ts.drop (2 + manyOf ns))⟩
theorem flag_one (b:Bool):(flag b == 1) = b:=by cases b <;> rfl
theorem cand_of (r:Rec):cand (numsOf r) (textsOf r) = r:=by
 obtain ⟨kd,tn,ts,co,ky,tt,dd,ks,ws⟩:=r
 have hm:manyOf (numsOf ⟨kd,tn,ts,co,ky,tt,dd,ks,ws⟩) = ks.length:=by simp [manyOf,numsOf]
 unfold cand
 rw [hm]
 have e1:(textsOf ⟨kd,tn,ts,co,ky,tt,dd,ks,ws⟩).drop 2 = ks ++ ws.flatMap fun x=>[x.key,x.shard]:=rfl
 have e2:(textsOf ⟨kd,tn,ts,co,ky,tt,dd,ks,ws⟩).drop (2 + ks.length) = ws.flatMap fun x=>[x.key,x.shard]:=by
  rw [← List.drop_drop,e1,List.drop_left]
 have e3:(numsOf ⟨kd,tn,ts,co,ky,tt,dd,ks,ws⟩).drop 6 = ws.map fun x=>if x.dead then 1 else 0:=rfl
 have e4:((numsOf ⟨kd,tn,ts,co,ky,tt,dd,ks,ws⟩).getD 4 0 == 1) = dd:=flag_one dd
 rw [e1,e2,e3,e4,List.take_left,pairL_of]
 rfl
theorem nums_len (r:Rec):(numsOf r).length = 6 + r.ws.length:=by
 unfold numsOf;rw [List.length_append,List.length_map];rfl
theorem texts_len (r:Rec):(textsOf r).length = 2 + r.keys.length + 2 * r.ws.length:=by
 unfold textsOf;rw [List.length_cons,List.length_cons,List.length_append,flat_len];omega
theorem five_of (r:Rec):(numsOf r).getD 5 0 = (r.keys.length:Int):=by simp [numsOf]
theorem recL_inj {r q:Rec} (hr:RecOk r) (hq:RecOk q) (h:recL r = recL q):r = q:=by
 have h1:=Pk.decL_back hr.pack
 have h2:=Pk.decL_back hq.pack
 unfold recL at h
 rw [h,h2] at h1
 simp only [Except.ok.injEq,Prod.mk.injEq] at h1
 rw [← cand_of r,← cand_of q,h1.1,h1.2]
theorem says_nums {s:List UInt8} {ns:List Int} {ts:List ByteArray} {r:Rec} (h:Pk.decL s = .ok (ns,ts)) (hr:RecOk r) (hs:s = recL r):ns = numsOf r ∧ ts = textsOf r:=by
 rw [hs] at h
 unfold recL at h
 rw [Pk.decL_back hr.pack] at h
 simp only [Except.ok.injEq,Prod.mk.injEq] at h
 exact ⟨h.1.symm,h.2.symm⟩
def noRec:Rec:=⟨0,0,0,0,⟨#[]⟩,⟨#[]⟩,false,[],[]⟩
def NoRec (s:ByteArray):Prop:=∀ r,RecOk r → s.data.toList ≠ recL r
theorem NoRec.err {s:ByteArray} {e:Pk.Er} (h:Pk.decL s.data.toList = .error e):NoRec s:=fun r hr hs=>by
 rw [hs] at h
 unfold recL at h
 rw [Pk.decL_back hr.pack] at h
 cases h
theorem NoRec.of {s:ByteArray} {ns:List Int} {ts:List ByteArray} (h:Pk.decL s.data.toList = .ok (ns,ts)) (hn:∀ r,RecOk r → ns = numsOf r → ts = textsOf r → s.data.toList = recL r → False):NoRec s:=fun r hr hs=>by
 obtain ⟨e1,e2⟩:=says_nums h hr hs
 exact hn r hr e1 e2 hs
def Shape (ns:List Int) (ts:List ByteArray):Prop:=6 ≤ ns.length ∧ 0 ≤ ns.getD 5 0 ∧ (ts.length:Int) = 2 + ns.getD 5 0 + 2 * ((ns.length - 6:Nat):Int) ∧ (ns.getD 4 0 = 0 ∨ ns.getD 4 0 = 1) ∧ ∀ f ∈ ns.drop 6,f = 0 ∨ f = 1
theorem shape_of (r:Rec):Shape (numsOf r) (textsOf r):=by
 refine ⟨by rw [nums_len];omega,by rw [five_of];omega,by rw [five_of,nums_len,texts_len];omega,?_,fun f hf=>?_⟩
 ·show flag r.dead = 0 ∨ flag r.dead = 1
  cases r.dead
  ·exact .inl rfl
  ·exact .inr rfl
 ·have e3:(numsOf r).drop 6 = r.ws.map fun x=>if x.dead then 1 else 0:=rfl
  rw [e3] at hf
  obtain ⟨x,_,rfl⟩:=List.mem_map.1 hf
  split
  ·exact .inr rfl
  ·exact .inl rfl
theorem six {ns:List Int} (h:6 ≤ ns.length):ns = [ns.getD 0 0,ns.getD 1 0,ns.getD 2 0,ns.getD 3 0,ns.getD 4 0,ns.getD 5 0] ++ ns.drop 6:=by
 match ns,h with
 | a :: b :: c :: d :: e :: f :: r,_=>rfl
theorem two {ts:List ByteArray} (h:2 ≤ ts.length):ts = ts.getD 0 ⟨#[]⟩ :: ts.getD 1 ⟨#[]⟩ :: ts.drop 2:=by
 match ts,h with
 | a :: b :: r,_=>rfl
theorem shape_cand {ns:List Int} {ts:List ByteArray} (h:Shape ns ts):numsOf (cand ns ts) = ns ∧ textsOf (cand ns ts) = ts:=by
 obtain ⟨h1,h2,h3,h5,h4⟩:=h
 have hm:((manyOf ns:Nat):Int) = ns.getD 5 0:=by unfold manyOf;omega
 have hp:=pair_flags (ns.drop 6) (ts.drop (2 + manyOf ns)) (by rw [List.length_drop,List.length_drop];omega) h4
 have hkl:((ts.drop 2).take (manyOf ns)).length = manyOf ns:=by rw [List.length_take,List.length_drop];omega
 have hf:flag (ns.getD 4 0 == 1) = ns.getD 4 0:=by
  rcases h5 with e | e <;> (rw [e];rfl)
 constructor
 ·show [ns.getD 0 0,ns.getD 1 0,ns.getD 2 0,ns.getD 3 0,flag (ns.getD 4 0 == 1),(((ts.drop 2).take (manyOf ns)).length:Int)] ++ (pairL (ns.drop 6) (ts.drop (2 + manyOf ns))).map _ = ns
  rw [hp.1,hkl,hm,hf]
  exact (six h1).symm
 ·show ts.getD 0 ⟨#[]⟩ :: ts.getD 1 ⟨#[]⟩ :: ((ts.drop 2).take (manyOf ns) ++ (pairL (ns.drop 6) (ts.drop (2 + manyOf ns))).flatMap _) = ts
  rw [hp.2,show ts.drop (2 + manyOf ns) = (ts.drop 2).drop (manyOf ns) by rw [List.drop_drop],List.take_append_drop]
  exact (two (by omega)).symm
theorem NoRec.shape {s:ByteArray} {ns:List Int} {ts:List ByteArray} (h:Pk.decL s.data.toList = .ok (ns,ts)) (hn:¬ Shape ns ts):NoRec s:=NoRec.of h fun r _ e1 e2 _=>hn (by rw [e1,e2];exact shape_of r)
theorem NoRec.bad {s:ByteArray} {ns:List Int} {ts:List ByteArray} (h:Pk.decL s.data.toList = .ok (ns,ts)) (hn:¬ RecOk (cand ns ts)):NoRec s:=NoRec.of h fun r hr e1 e2 _=>hn (by rw [e1,e2,cand_of];exact hr)
theorem cand_bytes {s:ByteArray} {ns:List Int} {ts:List ByteArray} (h:Pk.decL s.data.toList = .ok (ns,ts)) (hs:Shape ns ts):s.data.toList = recL (cand ns ts):=by
 obtain ⟨e1,e2⟩:=shape_cand hs
 unfold recL
 rw [e1,e2]
 exact (Pk.decL_ok h).2
end Rc
end Go.Proofs.YtlfkhlfkckfbpaaGreat
namespace Go.Proofs.YtlfkhlfkckfbpaaGreat
namespace Rc
open Go.ChangeShapes Go.WideShapes Go.ChangeAt Go.RowKit Go.Joins Go.Deep Bk Lt
section
variable {H:Type} {enc:TypeId × Value → H} {W:World}
structure RecRng (r:Rec):Prop where
 kind:-9223372036854775808 ≤ r.kind ∧ r.kind ≤ 9223372036854775807
 txn:-9223372036854775808 ≤ r.txn ∧ r.txn ≤ 9223372036854775807
 ts:-9223372036854775808 ≤ r.ts ∧ r.ts ≤ 9223372036854775807
 coord:-9223372036854775808 ≤ r.coord ∧ r.coord ≤ 9223372036854775807
 key:r.key.size ≤ reachBytes
 text:r.text.size ≤ reachBytes
 k16:r.keys.length * 16 ≤ reachBytes
 w40:r.ws.length * 40 ≤ reachBytes
 kr:∀ s ∈ r.keys,s.size ≤ reachBytes
 wr:∀ x ∈ r.ws,x.key.size ≤ reachBytes ∧ x.shard.size ≤ reachBytes
structure RecRange (r:Rec) (c d:Nat):Prop extends RecRng r where
 kc:r.keys.length ≤ c
 wd:r.ws.length ≤ d
 c63:c ≤ maxLen
 d63:d ≤ maxLen
def recV (r:Rec) (A B:Option Addr) (c d:Nat):Value:=.agg #[.int .i64 r.kind,.int .i64 r.txn,.int .i64 r.ts,.int .i64 r.coord,.string r.key,.string r.text,.bool r.dead,.slice A r.keys.length c,.slice B r.ws.length d]
end
end Rc
end Go.Proofs.YtlfkhlfkckfbpaaGreat
namespace Go.Proofs.YtlfkhlfkckfbpaaGreat
namespace Lt
open Go.RowKit Bk
attribute [local go_sem ↓] Go.wp_at_zero Go.wp_at_succ
attribute [local go_sem] floatUpon pick
theorem add_add (a:Addr) (k i:Nat):(a.add k).add i = a.add (k + i):=by
 unfold Addr.add
 by_cases hk:k = 0
 ·subst hk;simp
 ·by_cases hi:i = 0
  ·subst hi;simp [hk]
  ·simp [hk,hi,Nat.add_assoc]
theorem add_lit (a:Addr) (k:Nat) (h:0 < k):(⟨a.block,a.off + k,none⟩:Addr) = a.add k:=by unfold Addr.add;rw [if_neg (by omega)]
theorem ints_sub {w:World} {a:Addr} {l:List Int} {k c:Nat} (h:IntsAt w (some a) l) (hc:l.length ≤ c):IntsAt w (if c = k then some a else some (a.add k)) (l.drop k):=fun hp=>by
 rw [List.length_drop] at hp
 obtain ⟨a',e,hb,hcl⟩:=h (by omega)
 obtain rfl:=Option.some.inj e
 refine ⟨a.add k,by rw [if_neg (by omega)],by rw [st_block];exact hb,fun i hi=>?_⟩
 rw [List.length_drop] at hi
 rw [add_add,hcl (k + i) (by omega),List.getElem_drop]
theorem strs_sub {w:World} {a:Addr} {l:List ByteArray} {k c:Nat} (h:StrsAt w (some a) l) (hc:l.length ≤ c):StrsAt w (if c = k then some a else some (a.add k)) (l.drop k):=fun hp=>by
 rw [List.length_drop] at hp
 obtain ⟨a',e,hb,hcl⟩:=h (by omega)
 obtain rfl:=Option.some.inj e
 refine ⟨a.add k,by rw [if_neg (by omega)],by rw [st_block];exact hb,fun i hi=>?_⟩
 rw [List.length_drop] at hi
 rw [add_add,hcl (k + i) (by omega),List.getElem_drop]
theorem strs_take {w:World} {A:Option Addr} {l:List ByteArray} (h:StrsAt w A l) (q:Nat):StrsAt w A (l.take q):=fun hp=>by
 rw [List.length_take] at hp
 obtain ⟨a,e,hb,hcl⟩:=h (by omega)
 refine ⟨a,e,hb,fun i hi=>?_⟩
 rw [List.length_take] at hi
 rw [hcl i (by omega),List.getElem_take]
theorem strs_far {w W:World} {A:Option Addr} {l:List ByteArray} (h:StrsAt w A l) {R:Nat} (hR:∀ a,A = some a → a.block ≠ R) (hs:w.heap.size ≤ W.heap.size) (he:∀ a:Addr,a.block ≠ R → W.cell? a = w.cell? a):StrsAt W A l:=fun hp=>by
 obtain ⟨a,e,hb,hcl⟩:=h hp
 exact ⟨a,e,Nat.lt_of_lt_of_le hb hs,fun i hi=>(he _ (by rw [st_block];exact hR a e)).trans (hcl i hi)⟩
theorem wrs_far {w W:World} {A:Option Addr} {l:List Wr} (h:WrsAt w A l) {R:Nat} (hR:∀ a,A = some a → a.block ≠ R) (hs:w.heap.size ≤ W.heap.size) (he:∀ a:Addr,a.block ≠ R → W.cell? a = w.cell? a):WrsAt W A l:=fun hp=>by
 obtain ⟨a,e,hb,hcl⟩:=h hp
 exact ⟨a,e,Nat.lt_of_lt_of_le hb hs,fun i hi=>⟨(he _ (by rw [st_block];exact hR a e)).trans (hcl i hi).1,(he _ (by rw [st_block];exact hR a e)).trans (hcl i hi).2.1,(he _ (by rw [st_block];exact hR a e)).trans (hcl i hi).2.2⟩⟩
theorem below_row {w W:World} {H o:Nat} (h:Below H w W) (ho:H ≤ o) (cs:Array Value):Below H w (W.setRow o cs) :=
 h.trans ⟨rfl,rfl,rfl,by simp,fun k hk=>setRow_other _ _ _ _ (by omega)⟩
def set9 (W:World) (R:Nat) (v0 v1 v2 v3 v4 v5 v6 v7 v8:Value):World :=
 (((((((((W.setCell ⟨R,0,none⟩ v0).setCell ⟨R,1,none⟩ v1).setCell ⟨R,2,none⟩ v2).setCell ⟨R,3,none⟩ v3).setCell ⟨R,4,none⟩ v4).setCell ⟨R,5,none⟩ v5).setCell ⟨R,6,none⟩ v6).setCell ⟨R,7,none⟩ v7).setCell ⟨R,8,none⟩ v8)
theorem set9_cel {W:World} {R:Nat} {t:TypeId} {u0 u1 u2 u3 u4 u5 u6 u7 u8 v0 v1 v2 v3 v4 v5 v6 v7 v8:Value} (h:Cel W R t [u0,u1,u2,u3,u4,u5,u6,u7,u8]):Cel (set9 W R v0 v1 v2 v3 v4 v5 v6 v7 v8) R t [v0,v1,v2,v3,v4,v5,v6,v7,v8] :=
 ((((((((h.set (i:=0) (v:=v0)).set (i:=1) (v:=v1)).set (i:=2) (v:=v2)).set (i:=3) (v:=v3)).set (i:=4) (v:=v4)).set (i:=5) (v:=v5)).set (i:=6) (v:=v6)).set (i:=7) (v:=v7)).set (i:=8) (v:=v8)
theorem set9_below {w W:World} {H R:Nat} {v0 v1 v2 v3 v4 v5 v6 v7 v8:Value} (h:Below H w W) (hR:H ≤ R):Below H w (set9 W R v0 v1 v2 v3 v4 v5 v6 v7 v8) :=
 ((((((((h.setCell (p:=⟨R,0,none⟩) hR v0).setCell (p:=⟨R,1,none⟩) hR v1).setCell (p:=⟨R,2,none⟩) hR v2).setCell (p:=⟨R,3,none⟩) hR v3).setCell (p:=⟨R,4,none⟩) hR v4).setCell (p:=⟨R,5,none⟩) hR v5).setCell (p:=⟨R,6,none⟩) hR v6).setCell (p:=⟨R,7,none⟩) hR v7).setCell (p:=⟨R,8,none⟩) hR v8
theorem set9_other {W:World} {R:Nat} {v0 v1 v2 v3 v4 v5 v6 v7 v8:Value} {a:Addr} (h:a.block ≠ R):(set9 W R v0 v1 v2 v3 v4 v5 v6 v7 v8).cell? a = W.cell? a:=by
 have hh:(set9 W R v0 v1 v2 v3 v4 v5 v6 v7 v8).heap[a.block]? = W.heap[a.block]?:=by
  have e:∀ (W:World) (i:Nat) (v:Value),(W.setCell ⟨R,i,none⟩ v).heap[a.block]? = W.heap[a.block]?:=fun W i v=>Below.heap_setCell W ⟨R,i,none⟩ v a.block h
  unfold set9
  rw [e,e,e,e,e,e,e,e,e]
 exact World.cell?_of_block hh
theorem set9_size {W:World} {R:Nat} {v0 v1 v2 v3 v4 v5 v6 v7 v8:Value}:(set9 W R v0 v1 v2 v3 v4 v5 v6 v7 v8).heap.size = W.heap.size:=by
 unfold set9;simp
end Lt
end Go.Proofs.YtlfkhlfkckfbpaaGreat
namespace Go.Proofs.YtlfkhlfkckfbpaaGreat
namespace Rc
open Go.RowKit Bk Lt
structure RcEnv (w W:World) (g:Nat) (A B:Option Addr) (c d:Nat) (r:Rec):Prop where
 ks:StrsAt W A r.keys
 ws:WrsAt W B r.ws
 cel:Cel W g 60 [.int .i64 r.kind,.int .i64 r.txn,.int .i64 r.ts,.int .i64 r.coord,.string r.key,.string r.text,.bool r.dead,.slice A r.keys.length c,.slice B r.ws.length d]
 bel:Below w.heap.size w W
theorem RcEnv.step {w W W':World} {g:Nat} {A B:Option Addr} {c d:Nat} {r:Rec} (h:RcEnv w W g A B c d r) (hb:Below W.heap.size W W'):RcEnv w W' g A B c d r :=
 ⟨h.ks.below hb,h.ws.below hb,h.cel.below hb,h.bel.trans (hb.mono h.bel.size)⟩
theorem RcEnv.start {w:World} {A B:Option Addr} {c d:Nat} {r:Rec} (ha:StrsAt w A r.keys) (hb:WrsAt w B r.ws) :
  RcEnv w (w.alloc (.cells #[.int .i64 r.kind,.int .i64 r.txn,.int .i64 r.ts,.int .i64 r.coord,.string r.key,.string r.text,.bool r.dead,.slice A r.keys.length c,.slice B r.ws.length d] 60)) w.heap.size A B c d r :=
 ⟨ha.alloc _,hb.alloc _,(blk1 w _).2,(Below.refl _ w).alloc (Nat.le_refl _) _⟩
open Classical in
noncomputable def ckN (r:Rec):Nat:=if RecOk r then 0 else 80
theorem ckN_of {r:Rec} (h:RecOk r):ckN r = 0:=by unfold ckN;rw [if_pos h]
theorem ckN_not {r:Rec} (h:¬ RecOk r):ckN r = 80:=by unfold ckN;rw [if_neg h]
theorem kind_1 {r:Rec} (h:r.kind = 1):kindOk r ↔ TextOk r ∧ r.txn ≠ 0 ∧ r.keys.length ≤ 16 ∧ Rises r.keys ∧ WritesOk r.ws:=by
 constructor
 ·rintro (h2 | h2 | h2 | h2 | h2 | h2 | h2)
  ·exact h2.2
  all_goals omega
 ·intro h2;exact .inl ⟨h,h2⟩
theorem kind_2 {r:Rec} (h:r.kind = 2):kindOk r ↔ BareOk r ∧ r.txn ≠ 0:=by
 constructor
 ·rintro (h2 | h2 | h2 | h2 | h2 | h2 | h2)
  ·omega
  ·exact h2.2
  all_goals omega
 ·intro h2;exact .inr (.inl ⟨h,h2⟩)
theorem kind_3 {r:Rec} (h:r.kind = 3):kindOk r ↔ ListsOk r ∧ r.coord = 0 ∧ r.txn = 0 ∧ r.ts ≠ 0 ∧ keyOk r.key ∧ r.text.size ≤ 2052 ∧ (r.dead = false ∨ r.text = ⟨#[]⟩):=by
 constructor
 ·rintro (h2 | h2 | h2 | h2 | h2 | h2 | h2)
  ·omega
  ·omega
  ·exact h2.2
  all_goals omega
 ·intro h2;exact .inr (.inr (.inl ⟨h,h2⟩))
theorem kind_4 {r:Rec} (h:r.kind = 4):kindOk r ↔ BareOk r ∧ r.txn = 0:=by
 constructor
 ·rintro (h2 | h2 | h2 | h2 | h2 | h2 | h2)
  ·omega
  ·omega
  ·omega
  ·exact h2.2
  all_goals omega
 ·intro h2;exact .inr (.inr (.inr (.inl ⟨h,h2⟩)))
theorem kind_5 {r:Rec} (h:r.kind = 5):kindOk r ↔ BareOk r ∧ r.txn ≠ 0 ∧ r.ts ≠ 0:=by
 constructor
 ·rintro (h2 | h2 | h2 | h2 | h2 | h2 | h2)
  ·omega
  ·omega
  ·omega
  ·omega
  ·exact h2.2
  all_goals omega
 ·intro h2;exact .inr (.inr (.inr (.inr (.inl ⟨h,h2⟩))))
theorem kind_6 {r:Rec} (h:r.kind = 6):kindOk r ↔ BareOk r ∧ r.txn ≠ 0 ∧ r.ts = 0:=by
 constructor
 ·rintro (h2 | h2 | h2 | h2 | h2 | h2 | h2)
  ·omega
  ·omega
  ·omega
  ·omega
  ·omega
  ·exact h2.2
  ·omega
 ·intro h2;exact .inr (.inr (.inr (.inr (.inr (.inl ⟨h,h2⟩)))))
theorem kind_7 {r:Rec} (h:r.kind = 7):kindOk r ↔ BareOk r ∧ r.txn = 0 ∧ r.ts ≠ 0:=by
 constructor
 ·rintro (h2 | h2 | h2 | h2 | h2 | h2 | h2)
  ·omega
  ·omega
  ·omega
  ·omega
  ·omega
  ·omega
  ·exact h2.2
 ·intro h2;exact .inr (.inr (.inr (.inr (.inr (.inr ⟨h,h2⟩)))))
theorem kind_no {r:Rec} (h:r.kind < 1 ∨ 7 < r.kind):¬ kindOk r:=by
 rintro (h2 | h2 | h2 | h2 | h2 | h2 | h2) <;> omega
structure RecVal (w:World) (A B:Option Addr) (c d:Nat) (r:Rec):Prop where
 ks:StrsAt w A r.keys
 ws:WrsAt w B r.ws
 rng:RecRange r c d
 kn:A = none → r.keys = [] ∧ c = 0
 wn:B = none → r.ws = [] ∧ d = 0
theorem RecVal.below {w W:World} {A B:Option Addr} {c d:Nat} {r:Rec} (h:RecVal w A B c d r) (hb:Below w.heap.size w W):RecVal W A B c d r :=
 ⟨h.ks.below hb,h.ws.below hb,h.rng,h.kn,h.wn⟩
theorem cand_range {ns:List Int} {ts:List ByteArray} (h:Pk.MayBe ns ts):RecRng (cand ns ts):=by
 obtain ⟨h1,h2,h3,h4⟩:=h
 have rb:reachBytes = 140737488351232:=by unfold reachBytes;rfl
 have hi:∀ i,-9223372036854775808 ≤ ns.getD i 0 ∧ ns.getD i 0 ≤ 9223372036854775807:=fun i=>by
  rw [List.getD_eq_getElem?_getD]
  cases e:ns[i]? with
  | none=>simp
  | some z =>
   have hz:=h3 z (List.mem_of_getElem? e)
   unfold Pk.numOk at hz
   simp only [Option.getD_some];omega
 have ht:∀ t ∈ ts,t.size ≤ reachBytes:=fun t ht=>by have:=h4 t ht;omega
 have hp:∀ (fs:List Int) (us:List ByteArray),(∀ u ∈ us,u.size ≤ reachBytes) → ∀ x ∈ pairL fs us,x.key.size ≤ reachBytes ∧ x.shard.size ≤ reachBytes:=by
  intro fs
  induction fs with
  | nil=>intro us _ x hx;simp [pairL] at hx
  | cons f fs ih =>
   intro us hu x hx
   match us,hu,hx with
   | [],_,hx=>simp [pairL] at hx
   | [k],_,hx=>simp [pairL] at hx
   | k :: s :: r,hu,hx =>
    rcases List.mem_cons.1 hx with rfl | hx
    ·exact ⟨hu _ (by simp),hu _ (by simp)⟩
    ·exact ih r (fun u hr=>hu u (by simp [hr])) x hx
 have hpl:∀ (fs:List Int) (us:List ByteArray),(pairL fs us).length ≤ fs.length:=by
  intro fs
  induction fs with
  | nil=>intro us;simp [pairL]
  | cons f fs ih =>
   intro us
   match us with
   | []=>simp [pairL]
   | [k]=>simp [pairL]
   | k :: s :: r=>rw [pairL,List.length_cons,List.length_cons];have:=ih r;omega
 have hg:∀ i,(ts.getD i ⟨#[]⟩).size ≤ reachBytes:=fun i=>by
  rw [List.getD_eq_getElem?_getD]
  cases e:ts[i]? with
  | none=>simp only [Option.getD_none];show (0:Nat) ≤ _;omega
  | some t=>exact ht t (List.mem_of_getElem? e)
 refine ⟨hi 0,hi 1,hi 2,hi 3,hg 0,hg 1,?_,?_,?_,?_⟩
 ·show ((ts.drop 2).take (manyOf ns)).length * 16 ≤ _
  rw [List.length_take,List.length_drop];omega
 ·show (pairL (ns.drop 6) (ts.drop (2 + manyOf ns))).length * 40 ≤ _
  have:=hpl (ns.drop 6) (ts.drop (2 + manyOf ns))
  rw [List.length_drop] at this;omega
 ·intro t ht2
  exact ht t (List.mem_of_mem_drop (List.mem_of_mem_take ht2))
 ·exact hp _ _ (fun u hu=>ht u (List.mem_of_mem_drop hu))
theorem RecOk.rng {r:Rec} (h:RecOk r):RecRng r:=by
 obtain ⟨b1,b2,b3,b4,b5,b6,b7,b8⟩:=h.bounds
 obtain ⟨⟨h1,h2,h3,h4⟩,_⟩:=h
 have rb:reachBytes = 140737488351232:=by unfold reachBytes;rfl
 unfold txnOk at h1
 unfold stampOk at h2
 exact ⟨by omega,by omega,by omega,by omega,by omega,by omega,by omega,by omega,fun k hk=>by have:=b5 k hk;unfold keyOk at this;omega,fun x hx=>by have:=b6 x hx;unfold keyOk at this;omega⟩
noncomputable def decX (s:ByteArray):Rec × Nat:=open Classical in if h:∃ r,RecOk r ∧ s.data.toList = recL r then (Classical.choose h,0) else (noRec,80)
theorem decX_ok {s:ByteArray} {r:Rec} (h:RecOk r) (hs:s.data.toList = recL r):decX s = (r,0):=by
 have hx:∃ r,RecOk r ∧ s.data.toList = recL r:=⟨r,h,hs⟩
 unfold decX
 rw [dif_pos hx]
 have hc:=Classical.choose_spec hx
 rw [recL_inj hc.1 h (hc.2.symm.trans hs)]
theorem decX_no {s:ByteArray} (h:NoRec s):decX s = (noRec,80):=by
 unfold decX
 rw [dif_neg (fun ⟨r,h1,h2⟩=>h r h1 h2)]
theorem decX_bytes {r:Rec} (h:RecOk r):decX ⟨(recL r).toArray⟩ = (r,0):=decX_ok h (by simp)
open Classical in
noncomputable def encV (r:Rec):Value:=if RecOk r then .tuple #[.string ⟨(recL r).toArray⟩,.int .i64 0] else .tuple #[.string ⟨#[]⟩,.int .i64 80]
theorem encV_ok {r:Rec} (h:RecOk r):encV r = .tuple #[.string ⟨(recL r).toArray⟩,.int .i64 0]:=by unfold encV;rw [if_pos h]
theorem encV_bad {r:Rec} (h:¬ RecOk r):encV r = .tuple #[.string ⟨#[]⟩,.int .i64 80]:=by unfold encV;rw [if_neg h]
end Rc
end Go.Proofs.YtlfkhlfkckfbpaaGreat
