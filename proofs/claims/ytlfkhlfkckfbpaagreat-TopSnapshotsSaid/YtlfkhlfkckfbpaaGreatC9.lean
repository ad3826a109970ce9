/- Parts of the proof, joined: ScMath, SuMath, SuRef, SuRef2, RdMath, SuRef3, SuRef4, RdHead, ScRep, ScNone, FloatK, ScRef1, ScRef2, ScRef3; their conditions stand with each. -/
import Derived.Test.YtlfkhlfkckfbpaaGreatRows
import Derived.Lib.Strings
import Derived.Lib.Walk
import Derived.Lib.BufferWrite
import Derived.Lib.Hide
import Derived.Laws.MakeOwn
import Derived.WalkKit
import Derived.Test.YtlfkhlfkckfbpaaGreatC0
import Derived.Test.YtlfkhlfkckfbpaaGreatC1
import Derived.Test.YtlfkhlfkckfbpaaGreatC2

set_option maxRecDepth 20000
set_option maxHeartbeats 8000000
namespace Go.Proofs.YtlfkhlfkckfbpaaGreat
namespace Sc
structure Dev where
 on:List ByteArray
 new:List ByteArray
 left:Nat
 down:Bool
def nil0:ByteArray:=⟨#[]⟩
def zero64:ByteArray:=⟨(List.replicate 64 (0:UInt8)).toArray⟩
theorem zero64_size:zero64.size = 64:=by decide
theorem nil0_size:nil0.size = 0:=rfl
structure DevOk (D:Dev):Prop where
 len:D.new.length = D.on.length
 pos:1 ≤ D.on.length
 max:D.on.length ≤ 2048
 on64:∀ s ∈ D.on,s.size = 64
 new64:∀ s ∈ D.new,s = nil0 ∨ s.size = 64
 lft:D.left ≤ 1048576
def new0 (n:Nat):Dev:=⟨List.replicate n zero64,List.replicate n nil0,0,false⟩
theorem new0_ok {n:Nat} (h1:1 ≤ n) (h2:n ≤ 2048):DevOk (new0 n) :=
 ⟨by simp [new0],by simpa [new0] using h1,by simpa [new0] using h2,fun s hs=>by rw [List.eq_of_mem_replicate hs];exact zero64_size,fun s hs=>.inl (List.eq_of_mem_replicate hs),by simp [new0]⟩
def rdV (D:Dev) (i:Int):ByteArray × Int :=
 if D.down = true then (nil0,90) else if i < 0 ∨ (D.on.length:Int) ≤ i then (nil0,1) else
 (if D.new.getD i.toNat nil0 = nil0 then D.on.getD i.toNat nil0 else D.new.getD i.toNat nil0,0)
def burn (D:Dev):Dev × Bool:=if D.left = 0 then (D,false) else (⟨D.on,D.new,D.left - 1,D.left == 1⟩,D.left == 1)
def wrD (D:Dev) (i:Int) (t:ByteArray):Dev × Int :=
 if (rdV D i).2 ≠ 0 then (D,(rdV D i).2) else if t.size ≠ 64 then (D,3) else
 if (burn D).2 = true then ((burn D).1,90) else (⟨D.on,D.new.set i.toNat t,(burn D).1.left,(burn D).1.down⟩,0)
def upd (l:List ByteArray) (j:Nat) (f:Nat → ByteArray):List ByteArray:=(List.range l.length).map fun i=>if i < j then f i else l.getD i nil0
theorem upd_len (l:List ByteArray) (j:Nat) (f:Nat → ByteArray):(upd l j f).length = l.length:=by simp [upd]
theorem upd_at {l:List ByteArray} {j:Nat} {f:Nat → ByteArray} {i:Nat} (h:i < (upd l j f).length) (h':i < l.length):(upd l j f)[i] = if i < j then f i else l[i]:=by
 have e:(upd l j f)[i]? = some (if i < j then f i else l[i]):=by
  unfold upd
  rw [List.getElem?_map,List.getElem?_range h',Option.map_some,List.getD_eq_getElem?_getD,List.getElem?_eq_getElem h'];rfl
 rw [List.getElem?_eq_getElem h] at e
 exact Option.some.inj e
theorem upd_mem {l:List ByteArray} {j:Nat} {f:Nat → ByteArray} {s:ByteArray} (h:s ∈ upd l j f):(∃ i,i < l.length ∧ i < j ∧ s = f i) ∨ s ∈ l:=by
 obtain ⟨i,hi,rfl⟩:=List.mem_iff_getElem.1 h
 have h3:i < l.length:=by rw [upd_len] at hi;exact hi
 rw [upd_at hi h3]
 by_cases e:i < j
 ·rw [if_pos e];exact .inl ⟨i,h3,e,rfl⟩
 ·rw [if_neg e];exact .inr (List.getElem_mem h3)
theorem upd_all (l:List ByteArray) (x:ByteArray):upd l l.length (fun _=>x) = List.replicate l.length x:=by
 apply List.ext_getElem (by rw [upd_len,List.length_replicate])
 intro i h1 h2
 have h3:i < l.length:=by rw [upd_len] at h1;exact h1
 rw [upd_at h1 h3,if_pos h3,List.getElem_replicate]
def flushF (D:Dev) (i:Nat):ByteArray:=if D.new.getD i nil0 = nil0 then D.on.getD i nil0 else D.new.getD i nil0
def flD (D:Dev):Dev × Int :=
 if D.down = true then (D,90) else if (burn D).2 = true then ((burn D).1,90) else
 (⟨upd D.on D.on.length (flushF D),upd D.new D.on.length (fun _=>nil0),(burn D).1.left,(burn D).1.down⟩,0)
def cnt (new:List ByteArray) (i:Nat):Nat:=((new.take i).filter fun s=>decide (s ≠ nil0)).length
def cutN (p:Int):Nat:=if p = 0 then 0 else if p = 1 then 64 else (p % 64).toNat
def torn (o n:ByteArray) (p:Int):ByteArray:=⟨(n.data.toList.take (cutN p) ++ o.data.toList.drop (cutN p)).toArray⟩
def tearF (D:Dev) (ps:List Int) (i:Nat):ByteArray :=
 if D.new.getD i nil0 = nil0 then D.on.getD i nil0 else torn (D.on.getD i nil0) (D.new.getD i nil0) (ps.getD (cnt D.new i) 0)
def crD (D:Dev) (ps:List Int):Dev:=⟨upd D.on D.on.length (tearF D ps),upd D.new D.on.length (fun _=>nil0),0,false⟩
theorem cnt_succ {l:List ByteArray} {i:Nat} (h:i < l.length):cnt l (i + 1) = cnt l i + if l[i] = nil0 then 0 else 1:=by
 unfold cnt
 rw [List.take_add_one,List.getElem?_eq_getElem h,List.filter_append,List.length_append]
 congr 1
 by_cases e:l[i] = nil0
 ·simp [e]
 ·simp [e]
theorem cnt_le (l:List ByteArray) (i:Nat):cnt l i ≤ i:=by
 unfold cnt
 refine Nat.le_trans (List.length_filter_le _ _) ?_
 rw [List.length_take];omega
theorem cut_le (p:Int):cutN p ≤ 64:=by
 unfold cutN
 split
 ·omega
 split
 ·omega
 omega
theorem torn_size {o n:ByteArray} (ho:o.size = 64) (hn:n.size = 64) (p:Int):(torn o n p).size = 64:=by
 have h:=cut_le p
 show (n.data.toList.take (cutN p) ++ o.data.toList.drop (cutN p)).toArray.size = 64
 have h1:n.data.toList.length = 64:=hn
 have h2:o.data.toList.length = 64:=ho
 rw [List.size_toArray,List.length_append,List.length_take,List.length_drop]
 omega
theorem getD_mem {l:List ByteArray} {i:Nat} (h:i < l.length):l.getD i nil0 ∈ l:=by
 rw [List.getD_eq_getElem?_getD,List.getElem?_eq_getElem h]
 exact List.getElem_mem h
theorem getD_at {l:List ByteArray} {i:Nat} (h:i < l.length):l.getD i nil0 = l[i]:=by
 rw [List.getD_eq_getElem?_getD,List.getElem?_eq_getElem h];rfl
theorem burn_parts (D:Dev):(burn D).1.on = D.on ∧ (burn D).1.new = D.new ∧ (burn D).1.left ≤ D.left:=by
 unfold burn
 split
 ·exact ⟨rfl,rfl,Nat.le_refl _⟩
 ·exact ⟨rfl,rfl,Nat.sub_le _ _⟩
theorem burn_ok {D:Dev} (h:DevOk D):DevOk (burn D).1:=by
 obtain ⟨b1,b2,b3⟩:=burn_parts D
 exact ⟨by rw [b1,b2];exact h.len,by rw [b1];exact h.pos,by rw [b1];exact h.max,by rw [b1];exact h.on64,by rw [b2];exact h.new64,Nat.le_trans b3 h.lft⟩
theorem wrD_ok {D:Dev} (h:DevOk D) (i:Int) (t:ByteArray):DevOk (wrD D i t).1:=by
 unfold wrD
 split
 ·exact h
 split
 ·exact h
 next ht =>
 split
 ·exact burn_ok h
 ·refine ⟨by rw [List.length_set];exact h.len,h.pos,h.max,h.on64,fun s hs=>?_,Nat.le_trans (burn_parts D).2.2 h.lft⟩
  rcases List.mem_or_eq_of_mem_set hs with hs | rfl
  ·exact h.new64 s hs
  ·exact .inr (by simpa using ht)
theorem flush64 {D:Dev} (h:DevOk D) {i:Nat} (hi:i < D.on.length):(flushF D i).size = 64:=by
 unfold flushF
 have hi2:i < D.new.length:=by rw [h.len];exact hi
 split
 ·exact h.on64 _ (getD_mem hi)
 next hn=>exact (h.new64 _ (getD_mem hi2)).resolve_left hn
theorem tear64 {D:Dev} (h:DevOk D) (ps:List Int) {i:Nat} (hi:i < D.on.length):(tearF D ps i).size = 64:=by
 unfold tearF
 have hi2:i < D.new.length:=by rw [h.len];exact hi
 split
 ·exact h.on64 _ (getD_mem hi)
 next hn=>exact torn_size (h.on64 _ (getD_mem hi)) ((h.new64 _ (getD_mem hi2)).resolve_left hn) _
theorem cleared {D:Dev} (h:DevOk D):∀ s ∈ upd D.new D.on.length (fun _=>nil0),s = nil0 ∨ s.size = 64:=fun s hs=>by
 rcases upd_mem hs with ⟨_,_,_,rfl⟩ | hs
 ·exact .inl rfl
 ·exact h.new64 s hs
theorem made {D:Dev} (h:DevOk D) {f:Nat → ByteArray} (hf:∀ i,i < D.on.length → (f i).size = 64):∀ s ∈ upd D.on D.on.length f,s.size = 64:=fun s hs=>by
 rcases upd_mem hs with ⟨i,hi,_,rfl⟩ | hs
 ·exact hf i hi
 ·exact h.on64 s hs
theorem flD_ok {D:Dev} (h:DevOk D):DevOk (flD D).1:=by
 unfold flD
 split
 ·exact h
 split
 ·exact burn_ok h
 ·exact ⟨by rw [upd_len,upd_len];exact h.len,by rw [upd_len];exact h.pos,by rw [upd_len];exact h.max,made h (fun i hi=>flush64 h hi),cleared h,Nat.le_trans (burn_parts D).2.2 h.lft⟩
theorem crD_ok {D:Dev} (h:DevOk D) (ps:List Int):DevOk (crD D ps) :=
 ⟨by show (upd _ _ _).length = (upd _ _ _).length;rw [upd_len,upd_len];exact h.len,by show _ ≤ (upd _ _ _).length;rw [upd_len];exact h.pos,by show (upd _ _ _).length ≤ _;rw [upd_len];exact h.max,made h (fun i hi=>tear64 h ps hi),cleared h,Nat.zero_le _⟩
end Sc
end Go.Proofs.YtlfkhlfkckfbpaaGreat
namespace Go.Proofs.YtlfkhlfkckfbpaaGreat
namespace Su
def T (y:Nat):Nat:=if y % 2 = 1 then (y / 2) ^^^ 3988292384 else y / 2
def Tn:Nat → Nat → Nat
 | 0,y=>y
 | n + 1,y=>Tn n (T y)
theorem T_lt {y:Nat} (h:y < 4294967296):T y < 4294967296:=by
 unfold T
 split
 ·exact Nat.xor_lt_two_pow (n:=32) (by omega) (by omega)
 ·omega
theorem Tn_add:∀ (a b y:Nat),Tn (a + b) y = Tn b (Tn a y)
 | 0,b,y=>by rw [Nat.zero_add];rfl
 | a + 1,b,y=>by
  rw [show a + 1 + b = (a + b) + 1 by omega]
  exact Tn_add a b (T y)
theorem Tn_lt:∀ (n:Nat) {y:Nat},y < 4294967296 → Tn n y < 4294967296
 | 0,_,h=>h
 | n + 1,_,h=>Tn_lt n (T_lt h)
def byteStep (x:Nat) (b:UInt8):Nat:=Tn 8 (x ^^^ b.toNat)
def reg (x:Nat) (L:List UInt8):Nat:=L.foldl byteStep x
def crc (L:List UInt8):Nat:=reg 4294967295 L ^^^ 4294967295
def num:List UInt8 → Nat
 | []=>0
 | b :: r=>b.toNat + 256 * num r
theorem reg_append (x:Nat) (A B:List UInt8):reg x (A ++ B) = reg (reg x A) B:=List.foldl_append ..
theorem reg_lt {x:Nat} (hx:x < 4294967296) (L:List UInt8):reg x L < 4294967296:=by
 induction L generalizing x with
 | nil=>exact hx
 | cons b r ih =>
  refine ih (Tn_lt 8 (Nat.xor_lt_two_pow (n:=32) hx ?_))
  have:=b.toNat_lt
  omega
theorem crc_lt (L:List UInt8):crc L < 4294967296:=Nat.xor_lt_two_pow (n:=32) (reg_lt (by omega) L) (by omega)
def le:Nat → Nat → List UInt8
 | 0,_=>[]
 | k + 1,n=>UInt8.ofNat (n % 256) :: le k (n / 256)
theorem le_length:∀ (k n:Nat),(le k n).length = k
 | 0,_=>rfl
 | k + 1,n=>by unfold le;rw [List.length_cons,le_length k]
theorem num_le:∀ (k n:Nat),n < 256 ^ k → num (le k n) = n
 | 0,n,h=>by simp at h;subst h;rfl
 | k + 1,n,h=>by
  unfold le num
  rw [num_le k (n / 256) (by rw [Nat.pow_succ] at h;exact Nat.div_lt_of_lt_mul (by rw [Nat.mul_comm];exact h)),UInt8.toNat_ofNat_of_lt' (by show n % 256 < 256;omega)]
  omega
theorem num_append:∀ (A B:List UInt8),num (A ++ B) = num A + 256 ^ A.length * num B
 | [],B=>by simp [num]
 | a :: A,B=>by
  show a.toNat + 256 * num (A ++ B) = a.toNat + 256 * num A + _
  rw [num_append A B,List.length_cons,Nat.pow_succ,Nat.mul_add,Nat.add_assoc,← Nat.mul_assoc,Nat.mul_comm 256 (256 ^ A.length)]
theorem num_lt:∀ (A:List UInt8),num A < 256 ^ A.length
 | []=>by simp [num]
 | a :: A=>by
  have h:=num_lt A
  have:=a.toNat_lt
  unfold num
  rw [List.length_cons,Nat.pow_succ]
  omega
theorem pow256 (n:Nat):256 ^ n = 2 ^ (8 * n):=by rw [Nat.pow_mul]
end Su
end Go.Proofs.YtlfkhlfkckfbpaaGreat
namespace Go.Proofs.YtlfkhlfkckfbpaaGreat
namespace Su
open Go.RowKit Bk
theorem T_even {x:Nat} (h:¬ x % 2 = 1):((x:Int) / 2) = ((T x:Nat):Int):=by
 unfold T
 rw [if_neg h,Int.natCast_ediv]
 rfl
theorem Tn_succ' (n y:Nat):Tn (n + 1) y = T (Tn n y):=by rw [Tn_add];rfl
def catL (l:List ByteArray):List UInt8:=l.flatMap fun s=>s.data.toList
theorem catL_take (l:List ByteArray) (j:Nat) (h:j < l.length):catL (l.take (j + 1)) = catL (l.take j) ++ l[j].data.toList:=by
 unfold catL
 rw [List.take_add_one,List.getElem?_eq_getElem h,List.flatMap_append]
 simp
theorem catL_le (l:List ByteArray) (j:Nat):(catL (l.take j)).length ≤ (catL l).length:=by
 have e:catL l = catL (l.take j) ++ catL (l.drop j):=by unfold catL;rw [← List.flatMap_append,List.take_append_drop]
 rw [e,List.length_append]
 omega
theorem cat_size (L:List UInt8):(⟨L.toArray⟩:ByteArray).size = L.length:=by
 show L.toArray.size = _
 simp
end Su
end Go.Proofs.YtlfkhlfkckfbpaaGreat
namespace Go.Proofs.YtlfkhlfkckfbpaaGreat
namespace Su
open Go.RowKit Bk
attribute [local go_sem ↓] Go.wp_at_zero Go.wp_at_succ
attribute [local go_sem] floatUpon pick
theorem extract_list (s:ByteArray) (a b:Nat):s.extract a b = ⟨((s.data.toList.drop a).take (b - a)).toArray⟩:=by
 apply ByteArray.ext
 apply Array.toList_inj.1
 simp [ByteArray.data_extract,Array.toList_extract,List.extract_eq_take_drop]
theorem str_from (s:ByteArray) (a:Nat) (h:a ≤ s.size) (i:Int) (hi:i = (a:Int)) (W:World) :
  (Instr.slice 9 (.string s) (some (.int .i64 i)) none none).run Tryz.prog W = .ok (.string ⟨(s.data.toList.drop a).toArray⟩) W:=by
 subst hi
 rw [run_slice_string_l W 9 s Tryz.underlying9 .i64 _ (by omega) (by omega),extract_list,Int.toNat_natCast,List.take_of_length_le (by rw [List.length_drop,Array.length_toList];exact Nat.le_refl _)]
theorem str_to (s:ByteArray) (b:Nat) (h:b ≤ s.size) (j:Int) (hj:j = (b:Int)) (W:World) :
  (Instr.slice 9 (.string s) none (some (.int .i64 j)) none).run Tryz.prog W = .ok (.string ⟨(s.data.toList.take b).toArray⟩) W:=by
 subst hj
 rw [run_slice_string_h W 9 s Tryz.underlying9 .i64 _ (by omega) (by omega),extract_list,Int.toNat_natCast,List.drop_zero,Nat.sub_zero]
theorem str_mid (s:ByteArray) (a b:Nat) (h1:a ≤ b) (h:b ≤ s.size) (i j:Int) (hi:i = (a:Int)) (hj:j = (b:Int)) (W:World) :
  (Instr.slice 9 (.string s) (some (.int .i64 i)) (some (.int .i64 j)) none).run Tryz.prog W = .ok (.string ⟨((s.data.toList.drop a).take (b - a)).toArray⟩) W:=by
 subst hi hj
 rw [run_slice_string W 9 s .i64 .i64 _ _ Tryz.underlying9 (by omega) (by omega) (by omega),extract_list,Int.toNat_natCast,Int.toNat_natCast]
def frameL (t:List UInt8):List UInt8:=(le 2 t.length ++ t) ++ le 4 (crc (le 2 t.length ++ t))
def frameB (s:ByteArray):ByteArray:=⟨(frameL s.data.toList).toArray⟩
theorem frameL_len (t:List UInt8):(frameL t).length = t.length + 6:=by
 unfold frameL
 rw [List.length_append,List.length_append,le_length,le_length]
 omega
theorem frameB_size (s:ByteArray):(frameB s).size = s.size + 6:=by
 unfold frameB
 rw [cat_size,frameL_len,Array.length_toList];rfl
theorem list_size (s:ByteArray):s.data.toList.length = s.size:=Array.length_toList
def frameV (s:ByteArray):Value:=if 4096 < s.size then .tuple #[.string ⟨#[]⟩,.int .i64 2] else .tuple #[.string (frameB s),.int .i64 0]
end Su
end Go.Proofs.YtlfkhlfkckfbpaaGreat
namespace Go.Proofs.YtlfkhlfkckfbpaaGreat
namespace Rd
open Sc Bk
def be (n k:Nat):List UInt8:=(List.range k).map fun i=>UInt8.ofNat (n / 256 ^ (7 - i) % 256)
def be8 (n:Nat):List UInt8:=be n 8
theorem be_succ (n k:Nat):be n (k + 1) = be n k ++ [UInt8.ofNat (n / 256 ^ (7 - k) % 256)]:=by
 unfold be;rw [List.range_succ,List.map_append];rfl
theorem be_len (n k:Nat):(be n k).length = k:=by simp [be]
theorem be8_len (n:Nat):(be8 n).length = 8:=be_len n 8
def numB (L:List UInt8):Nat:=L.foldl (fun x b=>x * 256 + b.toNat) 0
theorem numB_snoc (L:List UInt8) (b:UInt8):numB (L ++ [b]) = numB L * 256 + b.toNat:=by simp [numB]
theorem numB_lt:∀ (k:Nat) (L:List UInt8),L.length = k → numB L < 256 ^ k
 | 0,L,h=>by rw [List.length_eq_zero_iff.1 h];decide
 | k + 1,L,h=>by
  obtain ⟨M,b,rfl⟩:∃ M b,L = M ++ [b]:=⟨L.dropLast,L.getLast (by intro e;rw [e] at h;cases h),(List.dropLast_concat_getLast _).symm⟩
  rw [List.length_append,List.length_singleton] at h
  have:=numB_lt k M (by omega)
  have hb:=b.toNat_lt
  rw [numB_snoc,Nat.pow_succ]
  omega
theorem num_be (n:Nat) (h:n < 256 ^ 8):∀ k,k ≤ 8 → numB (be n k) = n / 256 ^ (8 - k)
 | 0,_=>by rw [Nat.div_eq_of_lt h];rfl
 | k + 1,hk=>by
  rw [be_succ,numB_snoc,num_be n h k (by omega),show 8 - k = (7 - k) + 1 by omega,show 8 - (k + 1) = 7 - k by omega,Nat.pow_succ,← Nat.div_div_eq_div_mul,UInt8.toNat_ofNat_of_lt' (by show _ < 256;omega)]
  omega
theorem num_be8 {n:Nat} (h:n < 256 ^ 8):numB (be8 n) = n:=by
 have:=num_be n h 8 (Nat.le_refl _)
 show numB (be n 8) = n
 simpa using this
def headP (c a l:Nat):List UInt8:=(([82,69,68,79] ++ be8 c) ++ [UInt8.ofNat (a % 256)]) ++ be8 l
def headL (c a l:Nat):List UInt8:=((headP c a l ++ headP c a l) ++ headP c a l) ++ [0]
def headB (c a l:Nat):ByteArray:=⟨(headL c a l).toArray⟩
theorem headP_len (c a l:Nat):(headP c a l).length = 21:=by
 unfold headP
 rw [List.length_append,List.length_append,List.length_append,be8_len,be8_len];rfl
theorem headL_len (c a l:Nat):(headL c a l).length = 64:=by
 unfold headL
 rw [List.length_append,List.length_append,List.length_append,headP_len];rfl
theorem headB_size (c a l:Nat):(headB c a l).size = 64:=by
 show (headL c a l).toArray.size = 64
 rw [List.size_toArray,headL_len]
def cOf (s:List UInt8):Nat:=numB ((s.drop 4).take 8)
def aOf (s:List UInt8):Nat:=(s.getD 12 0).toNat
def lOf (s:List UInt8):Nat:=numB ((s.drop 13).take 8)
def okH (ab:Nat) (s:List UInt8):Prop:=1 ≤ cOf s ∧ cOf s ≤ 4611686018427387904 ∧ aOf s ≤ 1 ∧ lOf s ≤ ab ∧ s = headL (cOf s) (aOf s) (lOf s)
instance (ab:Nat) (s:List UInt8):Decidable (okH ab s):=by unfold okH;exact inferInstance
theorem c_head {c:Nat} (a l:Nat) (h:c < 256 ^ 8):cOf (headL c a l) = c:=by
 have e:((headL c a l).drop 4).take 8 = be8 c:=by
  have h8:=be8_len c
  unfold headL headP
  simp only [List.cons_append,List.nil_append,List.append_assoc,List.drop_succ_cons,List.drop_zero]
  rw [List.take_append_of_le_length (by omega),List.take_of_length_le (by omega)]
 unfold cOf
 rw [e,num_be8 h]
theorem a_head {c a l:Nat} (h:a < 256):aOf (headL c a l) = a:=by
 have e:(headL c a l).getD 12 0 = UInt8.ofNat (a % 256):=by
  have h8:=be8_len c
  unfold headL headP
  simp only [List.cons_append,List.nil_append,List.append_assoc]
  rw [List.getD_eq_getElem?_getD]
  simp only [List.getElem?_cons_succ]
  rw [List.getElem?_append_right (by omega),h8]
  simp
 unfold aOf
 rw [e,UInt8.toNat_ofNat_of_lt' (by show _ < 256;omega)]
 omega
theorem l_head {l:Nat} (c a:Nat) (h:l < 256 ^ 8):lOf (headL c a l) = l:=by
 have e:((headL c a l).drop 13).take 8 = be8 l:=by
  have h8:=be8_len c
  have h9:=be8_len l
  unfold headL headP
  simp only [List.append_assoc]
  rw [← List.append_assoc ([82,69,68,79]:List UInt8),← List.append_assoc ([82,69,68,79] ++ be8 c:List UInt8)]
  rw [List.drop_append_of_le_length (by simp [h8]),List.drop_of_length_le (by simp [h8]),List.nil_append,List.take_append_of_le_length (by omega),List.take_of_length_le (by omega)]
 unfold lOf
 rw [e,num_be8 h]
theorem ok_head {ab c a l:Nat} (h1:1 ≤ c) (h2:c ≤ 4611686018427387904) (h3:a ≤ 1) (h4:l ≤ ab) (h5:ab < 256 ^ 8):okH ab (headL c a l):=by
 have e1:=c_head (c:=c) a l (by omega)
 have e2:=a_head (c:=c) (a:=a) (l:=l) (by omega)
 have e3:=l_head (l:=l) c a (by omega)
 unfold okH
 rw [e1,e2,e3]
 exact ⟨h1,h2,h3,h4,rfl⟩
end Rd
end Go.Proofs.YtlfkhlfkckfbpaaGreat
namespace Go.Proofs.YtlfkhlfkckfbpaaGreat
namespace Su
open Go.RowKit Bk
attribute [local go_sem ↓] Go.wp_at_zero Go.wp_at_succ
attribute [local go_sem] floatUpon pick
def restR (r:List UInt8):Except Nat (List UInt8) :=
 if r.length < 2 then .error 50
 else if 4096 < num (r.take 2) then .error 2
 else if r.length < num (r.take 2) + 6 then .error 50
 else if r.take (num (r.take 2) + 6) = frameL ((r.drop 2).take (num (r.take 2))) then .ok ((r.drop 2).take (num (r.take 2)))
 else .error 51
def errV (e:Nat):Value:=.tuple #[.string ⟨#[]⟩,.int .i64 0,.int .i64 (e:Int)]
def outV (a:Nat):Except Nat (List UInt8) → Value
 | .error e=>errV e
 | .ok t=>.tuple #[.string ⟨t.toArray⟩,.int .i64 ((a + t.length + 6:Nat):Int),.int .i64 0]
def nextV (s:ByteArray) (i:Int):Value:=if i < 0 ∨ (s.size:Int) < i then errV 1 else outV i.toNat (restR (s.data.toList.drop i.toNat))
theorem nextV_bad {s:ByteArray} {i:Int} (h:i < 0 ∨ (s.size:Int) < i):nextV s i = errV 1:=if_pos h
theorem nextV_at {s:ByteArray} {a:Nat} (h:a ≤ s.size):nextV s (a:Int) = outV a (restR (s.data.toList.drop a)):=by
 unfold nextV
 rw [if_neg (by omega),Int.toNat_natCast]
theorem restR_ok {r t:List UInt8} (h:restR r = .ok t):t.length ≤ 4096 ∧ t.length + 6 ≤ r.length ∧ r.take (t.length + 6) = frameL t:=by
 unfold restR at h
 split at h
 ·cases h
 ·split at h
  ·cases h
  ·split at h
   ·cases h
   ·split at h
    ·next h1 h2 h3 h4 =>
     have e:=Except.ok.inj h
     have hl:t.length = num (r.take 2):=by rw [← e,List.length_take,List.length_drop];omega
     rw [e] at h4
     rw [hl]
     exact ⟨by omega,by omega,h4⟩
    ·cases h
theorem restR_err {r:List UInt8} {e:Nat} (h:restR r = .error e):e = 50 ∨ e = 2 ∨ e = 51:=by
 unfold restR at h
 split at h
 ·cases h;omega
 ·split at h
  ·cases h;omega
  ·split at h
   ·cases h;omega
   ·split at h
    ·cases h
    ·cases h;omega
def walkR:Nat → List UInt8 → Nat → List ByteArray × Nat × Nat
 | 0,_,a=>([],a,0)
 | f + 1,r,a=>match r,restR r with
  | [],_=>([],a,0)
  | _ :: _,.error e=>([],a,e)
  | _ :: _,.ok t=>(⟨t.toArray⟩ :: (walkR f (r.drop (t.length + 6)) (a + t.length + 6)).1,(walkR f (r.drop (t.length + 6)) (a + t.length + 6)).2)
theorem walkR_nil (f a:Nat):walkR f [] a = ([],a,0):=by cases f <;> rfl
theorem walkR_err {f a e:Nat} {r:List UInt8} (hr:r ≠ []) (h:restR r = .error e):walkR (f + 1) r a = ([],a,e):=by
 cases r with
 | nil=>exact absurd rfl hr
 | cons b r=>simp only [walkR,h]
theorem walkR_ok {f a:Nat} {r t:List UInt8} (hr:r ≠ []) (h:restR r = .ok t):walkR (f + 1) r a = (⟨t.toArray⟩ :: (walkR f (r.drop (t.length + 6)) (a + t.length + 6)).1,(walkR f (r.drop (t.length + 6)) (a + t.length + 6)).2):=by
 cases r with
 | nil=>exact absurd rfl hr
 | cons b r=>simp only [walkR,h]
def allR (s:ByteArray):List ByteArray × Nat × Nat:=walkR s.size s.data.toList 0
def Upto (s:ByteArray) (O:List ByteArray) (a:Nat):Prop :=
 ∃ f,s.size - a ≤ f ∧ allR s = (O ++ (walkR f (s.data.toList.drop a) a).1,(walkR f (s.data.toList.drop a) a).2)
theorem Upto.start (s:ByteArray):Upto s [] 0:=⟨s.size,by omega,rfl⟩
theorem Upto.done {s:ByteArray} {O:List ByteArray} {a:Nat} (h:Upto s O a) (ha:s.size ≤ a):allR s = (O,a,0):=by
 obtain ⟨f,_,h⟩:=h
 rw [List.drop_eq_nil_of_le (by rw [list_size];exact ha),walkR_nil] at h
 simpa using h
theorem drop_ne {s:ByteArray} {a:Nat} (ha:a < s.size):s.data.toList.drop a ≠ []:=by
 intro h
 have:=List.drop_eq_nil_iff.1 h
 rw [list_size] at this
 omega
theorem Upto.err {s:ByteArray} {O:List ByteArray} {a e:Nat} (h:Upto s O a) (ha:a < s.size) (he:restR (s.data.toList.drop a) = .error e):allR s = (O,a,e):=by
 obtain ⟨f,hf,h⟩:=h
 obtain ⟨f,rfl⟩:∃ k,f = k + 1:=⟨f - 1,by omega⟩
 rw [walkR_err (drop_ne ha) he] at h
 simpa using h
theorem Upto.more {s:ByteArray} {O:List ByteArray} {a:Nat} {t:List UInt8} (h:Upto s O a) (ha:a < s.size) (he:restR (s.data.toList.drop a) = .ok t):Upto s (O ++ [⟨t.toArray⟩]) (a + t.length + 6):=by
 obtain ⟨f,hf,h⟩:=h
 obtain ⟨f,rfl⟩:∃ k,f = k + 1:=⟨f - 1,by omega⟩
 rw [walkR_ok (drop_ne ha) he,List.drop_drop] at h
 refine ⟨f,by omega,?_⟩
 rw [h,show a + (t.length + 6) = a + t.length + 6 by omega]
 simp
theorem strV_snoc (O:List ByteArray) (t:ByteArray):strV (O ++ [t]) = strV O ++ [.string t]:=by simp [strV]
end Su
end Go.Proofs.YtlfkhlfkckfbpaaGreat
namespace Go.Proofs.YtlfkhlfkckfbpaaGreat
namespace Rd
open Go.RowKit Sc Bk
attribute [local go_sem ↓] Go.wp_at_zero Go.wp_at_succ
attribute [local go_sem] floatUpon pick
theorem back_one {w:World} {g:Nat} {b:UInt8} (h:w.heap[g]? = some (.cells #[.int .u8 (b.toNat:Int)] 5 (0,0))) :
  (convert 41 9 (.slice (some ⟨g,0,none⟩) 1 1)).run Tryz.prog w = .ok (.string ⟨[b].toArray⟩) w:=by
 have:=run_convert_bytes_back (P:=Tryz.prog) w 41 9 5 ⟨g,0,none⟩ 1 [b] Tryz.underlying41 Tryz.underlying5 Tryz.underlying9 (fun j hj=>by
  rw [addr_head]
  refine blk_cell h ?_
  match j,hj with
  | 0,_=>rfl)
 exact this
theorem list_sum (X Y:List UInt8) (h:X.length + Y.length ≤ 1000) (W:World):(Op.stringOp .add ⟨X.toArray⟩ ⟨Y.toArray⟩).run Tryz.prog W = .ok (.string ⟨(X ++ Y).toArray⟩) W:=by
 have h1:(⟨X.toArray⟩:ByteArray).size = X.length:=text_size X
 have h2:(⟨Y.toArray⟩:ByteArray).size = Y.length:=text_size Y
 rw [run_string_add_sum W _ _ (by omega),ByteArray.mk_append_mk]
end Rd
end Go.Proofs.YtlfkhlfkckfbpaaGreat
namespace Go.Proofs.YtlfkhlfkckfbpaaGreat
namespace Sc
open Go.RowKit Bk
structure Fr (F F':Nat → Prop) (w w':World):Prop where
 os:w'.os = w.os
 tape:w'.tape = w.tape
 output:w'.output = w.output
 size:w.heap.size ≤ w'.heap.size
 block:∀ k,k < w.heap.size → ¬ F k → w'.heap[k]? = w.heap[k]?
 foot:∀ k,F' k → F k ∨ w.heap.size ≤ k
theorem Fr.refl (F:Nat → Prop) (w:World):Fr F F w w:=⟨rfl,rfl,rfl,Nat.le_refl _,fun _ _ _=>rfl,fun _ h=>.inl h⟩
theorem Fr.trans {F G H:Nat → Prop} {a b c:World} (h:Fr F G a b) (k:Fr G H b c):Fr F H a c :=
 ⟨k.os.trans h.os,k.tape.trans h.tape,k.output.trans h.output,Nat.le_trans h.size k.size,
  fun i hi hn=>(k.block i (Nat.lt_of_lt_of_le hi h.size) (fun hg=>(h.foot i hg).elim hn (by omega))).trans (h.block i hi hn),
  fun i hi=>(k.foot i hi).elim (fun hg=>h.foot i hg) (fun hs=>.inr (Nat.le_trans h.size hs))⟩
theorem Fr.below {F:Nat → Prop} {a b c:World} {G:Nat → Prop} (h:Fr F G a b) (k:Below b.heap.size b c):Fr F G a c :=
 ⟨k.os.trans h.os,k.tape.trans h.tape,k.output.trans h.output,Nat.le_trans h.size k.size,
  fun i hi hn=>(k.block i (Nat.lt_of_lt_of_le hi h.size)).trans (h.block i hi hn),h.foot⟩
theorem Fr.set {F G:Nat → Prop} {a b:World} (h:Fr F G a b) {p:Addr} (hp:F p.block) (v:Value):Fr F G a (b.setCell p v) :=
 ⟨h.os,h.tape,h.output,by simpa [World.setCell] using h.size,fun i hi hn=>(Below.heap_setCell b p v i (fun e=>hn (by rw [e];exact hp))).trans (h.block i hi hn),h.foot⟩
theorem Fr.belowB {F G:Nat → Prop} {a b:World} {B:Nat} (h:Fr F G a b) (hF:∀ k,F k → B ≤ k) (hB:B ≤ a.heap.size):Below B a b :=
 ⟨h.os,h.tape,h.output,h.size,fun k hk=>h.block k (by omega) (fun hf=>by have:=hF k hf;omega)⟩
section
variable {w w':World} {g:Nat} {ao an:Addr} {co cn:Nat} {so sn:List Value} {D:Dev}
end
theorem zeros_cells:Lib.byteCells (List.replicate 64 (0:UInt8)) = List.replicate 64 (Value.int .u8 0):=by
 unfold Lib.byteCells
 rw [List.map_replicate];rfl
end Sc
end Go.Proofs.YtlfkhlfkckfbpaaGreat
namespace Go.Proofs.YtlfkhlfkckfbpaaGreat
open Go.RowKit
section
variable {P:Program} {ops:Array Oper} {md:Region.Mode}
def floatStepsK (K:World → World → Prop) (P:Program) (md:Region.Mode) (ops:Array Oper) (A:Nat → Bool) (G:Nat → Value → World → Prop) (I:World → Prop) (F:(Nat → Value) → Act):List Oper → Nat → Prop
 | [],_=>True
 | o :: r,i =>
  (∀ vs W,I W → (∀ j ∈ depsOf md o,G j (vs j) W) → ∀ R:Value → World → Prop,
   (∀ v W',G i v W' → K W W' → (A i = true → v = .pointer (some ⟨W.heap.size,0,none⟩)) → R v W') →
   if Region.wanted o (yielded ops (F vs).tmps) then floatOp P o (F vs) W R else R undef W) ∧
  floatStepsK K P md ops A G I F r (i + 1)
theorem floatStepsK_get {K:World → World → Prop} {A:Nat → Bool} {G:Nat → Value → World → Prop} {I:World → Prop} {F:(Nat → Value) → Act}:∀ (l:List Oper) (k i:Nat) (o:Oper),floatStepsK K P md ops A G I F l k → l[i]? = some o →
  ∀ vs W,I W → (∀ j ∈ depsOf md o,G j (vs j) W) → ∀ R:Value → World → Prop,
   (∀ v W',G (k + i) v W' → K W W' → (A (k + i) = true → v = .pointer (some ⟨W.heap.size,0,none⟩)) → R v W') →
   if Region.wanted o (yielded ops (F vs).tmps) then floatOp P o (F vs) W R else R undef W
 | [],_,_,_,_,h=>by simp at h
 | p :: r,k,0,o,hs,h=>by
  obtain rfl:p = o:=by simpa using h
  exact hs.1
 | p :: r,k,i + 1,o,hs,h=>by
  have:=floatStepsK_get r (k + 1) i o hs.2 (by simpa using h)
  rw [show k + 1 + i = k + (i + 1) by omega] at this
  exact this
theorem wp_floatK {K:World → World → Prop} {A:Nat → Bool} {G:Nat → Value → World → Prop} {I:World → Prop} {Q:Exit → Act → World → Prop} {a:Act} (n:Nat) (hB:floatB md ops n = true)
  (hG:∀ i v W W',G i v W → K W W' → G i v W')
  (hA:∀ i v W,A i = true → G i v W → ∃ p,v = .pointer (some ⟨p,0,none⟩) ∧ p < W.heap.size)
  (hI:∀ W W',I W → K W W' → I W')
  (hs:floatStepsK K P md ops A G I (fun vs=>putAll vs (ops.toList.take n) 0 a) (ops.toList.take n) 0)
  (hl:∀ vs W,I W → (∀ j,j < n → G j (vs j) W) → (∀ i j,i < n → j < n → A i = true → A j = true → i ≠ j → vs i ≠ vs j) →
   wpList P ops Q (ops.toList.drop n) (putAll vs (ops.toList.take n) 0 a) W) :
  ∀ (fuel:Nat) (ls:Array Bool) (vs:Nat → Value) (W:World),ls.toList.count false = fuel → HeadInv md ops n ls → I W →
   (∀ j,j < n → ls.getD j false = true → G j (vs j) W) →
   (∀ i j,i < n → j < n → ls.getD i false = true → ls.getD j false = true → A i = true → A j = true → i ≠ j → vs i ≠ vs j) →
   wpAny P md ops Q fuel ls (putAll vs (ops.toList.take n) 0 a) W:=by
 simp only [floatB,Bool.and_eq_true,Bool.or_eq_true,decide_eq_true_eq] at hB
 obtain ⟨⟨⟨⟨hn,hc⟩,hsl⟩,hd⟩,hseq⟩:=hB
 intro fuel
 induction fuel with
 | zero =>
  intro ls vs W hcount inv hi hg hdist
  have hall:∀ j,j < ops.size → ls.getD j false = true:=fun j hj=>by
   have hjs:j < ls.size:=by rw [inv.size];exact hj
   cases hb:ls[j] with
   | true=>simp [hjs,hb]
   | false=>exact absurd (List.count_pos_iff.2 (by rw [← hb];exact Array.mem_toList_iff.2 (Array.getElem_mem hjs)):0 < ls.toList.count false) (by omega)
  have hne:n = ops.size:=by
   rcases Nat.lt_or_ge n ops.size with h | h
   ·have h1:=inv.tail n (Nat.le_refl _) h
    have h2:=hall n h
    rw [getD_both h1] at h2
    cases h2
   ·omega
  subst hne
  refine ⟨?_,?_⟩
  ·refine List.eq_nil_iff_forall_not_mem.2 fun i hi=>?_
   obtain ⟨h0,o,ho,_⟩:=mem_ready.1 hi
   have:=hall i (Array.getElem?_eq_some_iff.1 ho).1
   rw [getD_both h0] at this
   cases this
  ·have:=hl vs W hi (fun j hj=>hg j hj (hall j hj)) (fun i j hi hj=>hdist i j hi hj (hall i hi) (hall j hj))
   rw [List.drop_of_length_le (by simp)] at this
   exact this
 | succ fuel ih =>
  intro ls vs W hcount inv hi hg hdist
  by_cases hall:∀ j,j < n → ls.getD j false = true
  ·have hlist:ls = (List.replicate n true ++ List.replicate (ops.size - n) false).toArray:=by
    apply Array.ext_getElem?
    intro j
    simp only [List.getElem?_toArray]
    rw [List.getElem?_append,List.length_replicate]
    by_cases h1:j < n
    ·have h2:=hall j h1
     have hjs:j < ls.size:=by rw [inv.size];omega
     rw [if_pos h1,List.getElem?_replicate,if_pos h1]
     simp only [Array.getD_eq_getD_getElem?,hjs,getElem?_pos,Option.getD_some] at h2 ⊢
     rw [h2]
    ·rw [if_neg h1,List.getElem?_replicate]
     by_cases h2:j < ops.size
     ·have h3:=inv.tail j (by omega) h2
      have hjs:j < ls.size:=by rw [inv.size];omega
      rw [if_pos (by omega)]
      simp only [Array.getD_eq_getD_getElem?,hjs,getElem?_pos,Option.getD_some] at h3 ⊢
      rw [h3]
     ·rw [if_neg (by omega),Array.getElem?_eq_none (by rw [inv.size];omega)]
   have hfuel:fuel + 1 = (ops.toList.drop n).length:=by
    rw [← hcount,hlist]
    simp [List.count_append,List.count_replicate]
   rw [hfuel]
   refine wpAny_of_seq (ops.toList.drop n) n ls _ W (fun j=>by simp [List.getElem?_drop]) ?_ (hl vs W hi (fun j hj=>hg j hj (hall j hj)) (fun i j hi hj=>hdist i j hi hj (hall i hi) (hall j hj)))
   rw [hlist,show (ops.toList.drop n).length = ops.size - n by simp]
   exact hseq
  ·
   have hleast:∃ i,i < n ∧ ls.getD i false = false ∧ ∀ j,j < i → ls.getD j false = true:=by
    have:∀ k,(∀ j,j < k → ls.getD j false = true) ∨ ∃ i,i < k ∧ ls.getD i false = false ∧ ∀ j,j < i → ls.getD j false = true:=by
     intro k
     induction k with
     | zero=>exact .inl fun j hj=>absurd hj (by omega)
     | succ k ihk =>
      rcases ihk with h | ⟨i,h1,h2,h3⟩
      ·cases hk:ls.getD k false with
       | true =>
        left
        intro j hj
        rcases Nat.lt_or_ge j k with h' | h'
        ·exact h j h'
        ·obtain rfl:j = k:=by omega
         exact hk
       | false=>exact .inr ⟨k,by omega,hk,h⟩
      ·exact .inr ⟨i,by omega,h2,h3⟩
    rcases this n with h | h
    ·exact absurd h hall
    ·exact h
   obtain ⟨i0,hi0,hi0f,hi0l⟩:=hleast
   have hdeps:∀ i o,i < n → ops[i]? = some o → ∀ e ∈ o.after,Region.binds md e = true → e.on < i:=fun i o hi ho e he hb=>by
    have h1:=List.all_eq_true.1 hd i (List.mem_range.2 hi)
    simp only [ho,Option.map_some,Option.getD_some,List.all_eq_true,decide_eq_true_eq] at h1
    exact h1 e.on (List.mem_map.2 ⟨e,List.mem_filter.2 ⟨by simpa using he,hb⟩,rfl⟩)
   have hi0s:i0 < ls.size:=by rw [inv.size];omega
   have hready0:i0 ∈ Region.ready md ops ls:=by
    refine mem_ready.2 ⟨getD_in hi0s hi0f,ops[i0]'(by omega),by simp [show i0 < ops.size by omega],fun e he hb=>?_⟩
    exact hi0l _ (hdeps i0 _ hi0 (by simp [show i0 < ops.size by omega]) e he hb)
   refine ⟨fun h=>absurd hready0 (by rw [h];simp),fun i hir=>?_⟩
   obtain ⟨hun,o,ho,hafter⟩:=mem_ready.1 hir
   have hio:i < ops.size:=(Array.getElem?_eq_some_iff.1 ho).1
   have hin:i < n:=by
    rcases Nat.lt_or_ge i n with h | h
    ·exact h
    ·rcases hc with h' | ⟨h1,h2⟩
     ·omega
     ·exact absurd hir (tail_waits h1 h2 (by omega) inv (n - i0) i0 rfl hi0 (getD_in hi0s hi0f) i h)
   have his:i < ls.size:=by rw [inv.size];omega
   have hget:(ops.toList.take n)[i]? = some o:=by
    rw [List.getElem?_take,if_pos hin]
    simpa using ho
   have hcount':(ls.setIfInBounds i true).toList.count false = fuel:=by
    have h1:ls.toList[i]? = some false:=by
     have:=hun
     simp only [Array.getD_eq_getD_getElem?,his,getElem?_pos,Option.getD_some] at this
     simp [his,this]
    have:=count_set_true h1
    rw [Array.toList_setIfInBounds]
    omega
   have hstep:=floatStepsK_get (ops.toList.take n) 0 i o hs hget vs W hi
    (fun j hj=>by
     obtain ⟨e,he,rfl⟩:=List.mem_map.1 hj
     obtain ⟨he1,he2⟩:=List.mem_filter.1 he
     have he1':e ∈ o.after:=by simpa using he1
     exact hg _ (by have:=hdeps i o hin ho e he1' he2;omega) (hafter e he1' he2))
    (fun v W'=>wpAny P md ops Q fuel (ls.setIfInBounds i true) ((putAll vs (ops.toList.take n) 0 a).put o.dst v) W')
    (fun v W' hgv hb hav=>by
     rw [Nat.zero_add] at hgv hav
     rw [putAll_set vs v _ 0 i a o hsl hget]
     refine ih (ls.setIfInBounds i true) _ W' hcount' (inv.set hir hin) (hI _ _ hi hb) (fun j hj hlj=>?_) (fun j k hj hk hlj hlk haj hak hjk=>?_)
     ·show G j (if j = 0 + i then v else vs j) W'
      by_cases hji:j = i
      ·subst hji
       rw [if_pos (by omega)];exact hgv
      ·rw [if_neg (by omega)]
       exact hG _ _ _ _ (hg j hj (by rw [getD_set_ne false (Ne.symm hji)] at hlj;exact hlj)) hb
     ·have old:∀ x,x < n → x ≠ i → (ls.setIfInBounds i true).getD x false = true → A x = true → ∀ q,v = .pointer (some ⟨q,0,none⟩) → q = W.heap.size → vs x ≠ v:=fun x hx hxi hlx hax q hv hq hne=>by
       obtain ⟨p,hp,hlt⟩:=hA x (vs x) W hax (hg x hx (by rw [getD_set_ne false (Ne.symm hxi)] at hlx;exact hlx))
       rw [hp,hv] at hne
       simp only [Value.pointer.injEq,Option.some.injEq,Addr.mk.injEq,and_true] at hne
       omega
      show (if j = 0 + i then v else vs j) ≠ (if k = 0 + i then v else vs k)
      by_cases hji:j = i
      ·subst hji
       rw [if_pos (by omega),if_neg (by omega)]
       exact Ne.symm (old k hk (Ne.symm hjk) hlk hak _ (hav haj) rfl)
      ·rw [if_neg (by omega)]
       by_cases hki:k = i
       ·subst hki
        rw [if_pos (by omega)]
        exact old j hj hji hlj haj _ (hav hak) rfl
       ·rw [if_neg (by omega)]
        exact hdist j k hj hk (by rw [getD_set_ne false (Ne.symm hji)] at hlj;exact hlj) (by rw [getD_set_ne false (Ne.symm hki)] at hlk;exact hlk) haj hak hjk)
   unfold wpOp
   simp only [ho]
   split
   ·rename_i hw
    rw [if_pos hw] at hstep
    exact .inl (floatOp_wp hstep fun _ _ h=>h)
   ·rename_i hw
    rw [if_neg hw] at hstep
    exact hstep
theorem wp_region_floatK {K:World → World → Prop} {id:Nat} {Q:Exit → Act → World → Prop} {a:Act} {w:World} {l:List Oper} (n:Nat) (A:Nat → Bool) (G:Nat → Value → World → Prop) (I:World → Prop)
  (hm:P.follows .mixedOrders = true) (hB:floatB .any l.toArray n = true)
  (hG:∀ i v W W',G i v W → K W W' → G i v W')
  (hA:∀ i v W,A i = true → G i v W → ∃ p,v = .pointer (some ⟨p,0,none⟩) ∧ p < W.heap.size)
  (hI:∀ W W',I W → K W W' → I W') (hKd:∀ W,K W W.drew) (hI0:I w)
  (hs:floatStepsK K P .any l.toArray A G I (fun vs=>putAll vs (l.take n) 0 a) (l.take n) 0)
  (hl:∀ vs W,I W → (∀ j,j < n → G j (vs j) W) → (∀ i j,i < n → j < n → A i = true → A j = true → i ≠ j → vs i ≠ vs j) →
   wpList P l.toArray Q (l.drop n) (putAll vs (l.take n) 0 a) W):(Code.region id l.toArray true).wp P Q a w:=by
 refine wp_region_any hm ?_
 obtain ⟨vs,hvs⟩:=putAll_self a (l.take n) 0
 have:=wp_floatK (K:=K) (md:=.any) (ops:=l.toArray) (Q:=Q) (a:=a) n hB hG hA hI hs hl l.toArray.size (Array.replicate l.toArray.size false) vs w.drew (by simp)
  ⟨by simp,fun _ _ _ z=>(by rw [getD_replicate_false] at z;cases z),fun t _ z=>getD_in (by simpa using z) (getD_replicate_false _ _)⟩
  (hI _ _ hI0 (hKd w)) (fun j _ z=>(by rw [getD_replicate_false] at z;cases z)) (fun i j _ _ z=>(by rw [getD_replicate_false] at z;cases z))
 rw [show putAll vs (List.take n l.toArray.toList) 0 a = a from hvs] at this
 exact this
def satK (L:List (Value → World → Prop)) (i:Nat):Value → World → Prop:=L.getD i fun _ _=>True
def FloatStepK (P:Program) (K:World → World → Prop) (L:List (Value → World → Prop)) (ds:List Nat) (I:World → Prop) (a:Act) (i:Nat) (o:Oper):Prop :=
 ∀ (vs:Nat → Value) (W:World) (ρ:Operand → Value),(∀ t,ρ (.tmp t) = pick vs ds 0 t (a.eval (.tmp t))) → (∀ v,ρ (.const v) = v) → (∀ f,ρ (.func f) = .func (.func f) #[] #[]) → (∀ g,ρ (.global g) = .pointer (some ⟨g,0,none⟩)) →
  I W → (∀ j ∈ depsOf .any o,satK L j (vs j) W) → ∀ R:Value → World → Prop,
  (∀ v W',satK L i v W' → K W W' → R v W') →
  if Region.wanted o (fun j=>boolOf (vs j)) then floatUpon P R ((execOp ρ o).run P W) else R undef W
def FloatAllK (P:Program) (K:World → World → Prop) (L:List (Value → World → Prop)) (ds:List Nat) (I:World → Prop) (a:Act):List Oper → Nat → Prop
 | [],_=>True
 | o :: r,i=>FloatStepK P K L ds I a i o ∧ FloatAllK P K L ds I a r (i + 1)
theorem wp_region_saidK {id:Nat} {Q:Exit → Act → World → Prop} {a:Act} {w:World} {l:List Oper} (n:Nat) (ds:List Nat) (L:List (Value → World → Prop)) (I:World → Prop) (K:World → World → Prop)
  (hm:P.follows .mixedOrders = true) (hB:floatB .any l.toArray n = true) (hds:slotsAre ds (l.take n) = true) (hsz:ds.all (· < a.tmps.size) = true) (hgd:guardsB n (l.take n) = true)
  (hL:∀ i v W W',satK L i v W → K W W' → satK L i v W') (hI:∀ W W',I W → K W W' → I W') (hKd:∀ W,K W W.drew) (hI0:I w)
  (hs:FloatAllK P K L ds I a (l.take n) 0)
  (hl:∀ vs W,I W → (∀ j,j < n → satK L j (vs j) W) → wpList P l.toArray Q (l.drop n) (putAll vs (l.take n) 0 a) W):(Code.region id l.toArray true).wp P Q a w:=by
 have hsz':∀ d ∈ ds,d < a.tmps.size:=fun d hd=>by simpa using List.all_eq_true.1 hsz d hd
 have hyield:∀ vs i o,(l.take n)[i]? = some o → Region.wanted o (yielded l.toArray (putAll vs (l.take n) 0 a).tmps) = Region.wanted o (fun j=>boolOf (vs j)):=fun vs i o ho=>by
  unfold Region.wanted
  cases hg:o.guard with
  | none=>rfl
  | some gw =>
   obtain ⟨g,want⟩:=gw
   have hgn:g < n:=by
    have:=List.all_eq_true.1 hgd o (List.mem_of_getElem? ho)
    simpa [hg] using this
   have hn:n ≤ l.length:=by
    simp only [floatB,Bool.and_eq_true,decide_eq_true_eq] at hB
    simpa using hB.1.1.1.1
   have hgl:(l.take n)[g]? = some (l[g]'(by omega)):=by rw [List.getElem?_take,if_pos hgn];simp [show g < l.length by omega]
   obtain ⟨d,hd1,hd2⟩:=slots_nth ds (l.take n) g _ hds hgl
   have h1:(putAll vs (l.take n) 0 a).eval (.tmp d) = vs g:=by
    rw [putAll_pick vs d (l.take n) ds 0 a hds hsz',pick_nth ds (l.take n) 0 g d _ hds hd1,Nat.zero_add]
   have h2:d < (putAll vs (l.take n) 0 a).tmps.size:=by rw [putAll_size];exact hsz' d (List.mem_of_getElem? hd1)
   have h3:(putAll vs (l.take n) 0 a).tmps[d]? = some (vs g):=by
    simp only [Act.eval,Array.getD_eq_getD_getElem?,h2,getElem?_pos,Option.getD_some] at h1
    rw [Array.getElem?_eq_getElem h2,h1]
   have h4:(l.toArray[g]?).bind (·.dst) = some d:=by
    simp [show g < l.length by omega,hd2]
   have:yielded l.toArray (putAll vs (l.take n) 0 a).tmps g = boolOf (vs g):=by
    unfold yielded
    rw [h4,Option.bind_some,h3]
    cases vs g <;> rfl
   simp only [this]
 refine wp_region_floatK (K:=K) n (fun _=>false) (fun i v W=>satK L i v W) I hm hB hL (fun i v W h=>by cases h) hI hKd hI0 ?_ (fun vs W h hg _=>hl vs W h hg)
 have:∀ (m:List Oper) (k:Nat),(∀ i o,m[i]? = some o → (l.take n)[k + i]? = some o) → FloatAllK P K L ds I a m k →
   floatStepsK K P .any l.toArray (fun _=>false) (fun i v W=>satK L i v W) I (fun vs=>putAll vs (l.take n) 0 a) m k:=by
  intro m
  induction m with
  | nil=>intro _ _ _;trivial
  | cons o r ih =>
   intro k hk h
   refine ⟨fun vs W hi hdep R hR=>?_,ih (k + 1) (fun i o' ho'=>by have:=hk (i + 1) o' (by simpa using ho');rw [show k + (i + 1) = k + 1 + i by omega] at this;exact this) h.2⟩
   have hstep:=h.1 vs W (putAll vs (l.take n) 0 a).eval (fun t=>putAll_pick vs t (l.take n) ds 0 a hds hsz') (fun _=>rfl) (fun _=>rfl) (fun _=>rfl) hi hdep R (fun v W' h1 h2=>hR v W' h1 h2 (fun h=>by cases h))
   rw [hyield vs k o (by have:=hk 0 o (by simp);simpa using this)]
   exact hstep
 exact this (l.take n) 0 (fun i o h=>by rw [Nat.zero_add];exact h) hs
end
end Go.Proofs.YtlfkhlfkckfbpaaGreat
namespace Go.Proofs.YtlfkhlfkckfbpaaGreat
namespace Sc
open Go.RowKit Bk
attribute [local go_sem ↓] Go.wp_at_zero Go.wp_at_succ
attribute [local go_sem] floatUpon pick
section
variable {w:World} {g:Nat} {ao an:Addr} {co cn:Nat} {so sn:List Value} {D:Dev}
end
section
variable {w:World} {g:Nat} {ao an:Addr} {co cn:Nat} {so sn:List Value} {D:Dev}
end
section
variable {w:World} {g:Nat} {ao an:Addr} {co cn:Nat} {so sn:List Value} {D:Dev}
end
end Sc
end Go.Proofs.YtlfkhlfkckfbpaaGreat
