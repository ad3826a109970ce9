/- Parts of the proof, joined: SuRef, SuRef2, RdMath, SuRef3, SuRef4, RdHead; their conditions stand with each. -/
import Derived.Test.YtmidncclndongaaGreatC0
import Derived.Test.YtmidncclndongaaGreatC1
import Derived.Test.YtmidncclndongaaGreatC3
import Derived.Test.YtmidncclndongaaGreatC5

set_option maxRecDepth 20000
set_option maxHeartbeats 8000000
namespace Go.Proofs.YtmidncclndongaaGreat
namespace Su
open Go.RowKit Bk
theorem T_odd {x:Nat} (h:x % 2 = 1) (hx:x < 4294967296):bits .xor .i64 ((x:Int) / 2) 3988292384 = ((T x:Nat):Int):=by
 have h2:=i64_xor_nat (x / 2) 3988292384 (by omega) (by omega)
 unfold T
 rw [if_pos h,← h2,Int.natCast_ediv]
 rfl
theorem T_even {x:Nat} (h:¬ x % 2 = 1):((x:Int) / 2) = ((T x:Nat):Int):=by
 unfold T
 rw [if_neg h,Int.natCast_ediv]
 rfl
theorem Tn_succ' (n y:Nat):Tn (n + 1) y = T (Tn n y):=by rw [Tn_add];rfl
theorem rsum_any (s:ByteArray) (w:World) (hs:s.size ≤ 9223372036854775807) :
  Calls Tryz.prog 231 #[.string s] w fun e w'=>e = .returned (.int .i64 ((crc s.data.toList:Nat):Int)) ∧ w' = w:=by
 have hb:(s.size:Int) ≤ 9223372036854775807:=by omega
 go_enter Tryz.func231,Tryz.ntmps231
 go_wp2_with fail
 go_loopw [3,4] (fun x i wr=>∃ j:Nat,j ≤ s.size ∧ i = .int .i64 (j:Int) ∧ x = .int .i64 ((reg 4294967295 (s.data.toList.take j):Nat):Int) ∧ wr = w) (fun _ i _=>s.size - (intOf i).toNat)
 case atStart=>exact ⟨0,by omega,rfl,rfl,rfl⟩
 case round =>
  obtain ⟨j,hj,rfl,rfl,rfl⟩:=hrel
  by_cases hlt:j < s.size
  ·have pj:(j:Int) < (s.size:Int):=by omega
   have hlen:j < s.data.toList.length:=by rw [Array.length_toList];exact hlt
   have hstep:reg 4294967295 (s.data.toList.take (j + 1)) = Tn 8 (reg 4294967295 (s.data.toList.take j) ^^^ (s[j]'hlt).toNat):=by
    rw [List.take_add_one,List.getElem?_eq_getElem hlen,reg_append,Array.getElem_toList];rfl
   have hr:=reg_lt (x:=4294967295) (by omega) (s.data.toList.take j)
   have HS:=Lib.hid hstep
   have hb8:(s[j]'hlt).toNat < 256:=(s[j]'hlt).toNat_lt
   generalize hbv:(s[j]'hlt).toNat = b at hb8
   have hix:∀ W,(Instr.index 9 (.string s) (.int .i64 (j:Int))).run Tryz.prog W = .ok (.int .u8 (b:Int)) W:=fun W=>by
    rw [run_index_string W 9 s .i64 _ Tryz.underlying9,dif_pos (by omega)]
    simp only [Int.toNat_natCast,hbv]
   rw [hbv] at HS
   generalize reg 4294967295 (s.data.toList.take j) = x at hr HS ⊢
   have hx:=i64_xor_nat x b (by omega) (by omega)
   have hx2:x ^^^ b < 4294967296:=Nat.xor_lt_two_pow (n:=32) hr (by omega)
   generalize hy:x ^^^ b = y at hx hx2
   rw [hy] at HS
   clear hstep hbv hy hlen
   go_wp2_with fail
   obtain ⟨wo,rfl⟩:∃ wo:World,wo = wr:=⟨_,rfl⟩
   go_loopw [3,5] (fun x i wr=>∃ k:Nat,k ≤ 8 ∧ i = .int .i64 (k:Int) ∧ x = .int .i64 ((Tn k y:Nat):Int) ∧ wr = wo) (fun _ i _=>8 - (intOf i).toNat)
   case atStart=>exact ⟨0,by omega,rfl,rfl,rfl⟩
   case round =>
    obtain ⟨k,hk,rfl,rfl,rfl⟩:=hrel
    by_cases hk8:k < 8
    ·have pk:(k:Int) < 8:=by omega
     have hz:=Tn_lt k hx2
     have hs2:=Tn_succ' k y
     generalize Tn k y = z at hz hs2 ⊢
     by_cases hodd:z % 2 = 1
     ·have h1:=T_odd hodd hz
      have hm:((z:Int).tmod 2 == 1) = true:=by rw [Int.tmod_eq_emod_of_nonneg (by omega)];simp;omega
      rw [← hs2] at h1
      have hd:(z:Int).tdiv 2 = (z:Int) / 2:=Int.tdiv_eq_ediv_of_nonneg (by omega)
      go_wp2_with fail
      go_roundw
      case rel=>exact ⟨k + 1,by omega,by go_num,by rw [hs2],trivial⟩
      case measure=>simp [intOf];omega
     ·have h1:=T_even hodd
      have hm:((z:Int).tmod 2 == 1) = false:=by rw [Int.tmod_eq_emod_of_nonneg (by omega)];simp;omega
      rw [← hs2] at h1
      have hd:(z:Int).tdiv 2 = (z:Int) / 2:=Int.tdiv_eq_ediv_of_nonneg (by omega)
      go_wp2_with fail
      go_roundw
      case rel=>exact ⟨k + 1,by omega,by go_num,by rw [hs2],trivial⟩
      case measure=>simp [intOf];omega
    ·obtain rfl:k = 8:=by omega
     have HSo:=HS.out
     go_wp2_with fail
     go_roundw
     case rel=>exact ⟨j + 1,by omega,by go_num,by rw [HSo],trivial⟩
     case measure=>simp [intOf];omega
  ·obtain rfl:j = s.size:=by omega
   have hr:=reg_lt (x:=4294967295) (by omega) (s.data.toList.take s.size)
   have hx:=i64_xor_nat (reg 4294967295 (s.data.toList.take s.size)) 4294967295 (by omega) (by omega)
   have hc:reg 4294967295 (s.data.toList.take s.size) ^^^ 4294967295 = crc s.data.toList:=by
    rw [List.take_of_length_le (by rw [Array.length_toList];exact Nat.le_refl _)];rfl
   rw [hc] at hx
   clear hc
   generalize reg 4294967295 (s.data.toList.take s.size) = x at hr hx ⊢
   have hx':bits .xor .i64 (x:Int) 4294967295 = ((crc s.data.toList:Nat):Int):=hx
   clear hx
   go_wp2_with fail
   go_ret
   exact ⟨rfl,rfl⟩
def catL (l:List ByteArray):List UInt8:=l.flatMap fun s=>s.data.toList
theorem catL_take (l:List ByteArray) (j:Nat) (h:j < l.length):catL (l.take (j + 1)) = catL (l.take j) ++ l[j].data.toList:=by
 unfold catL
 rw [List.take_add_one,List.getElem?_eq_getElem h,List.flatMap_append]
 simp
theorem catL_le (l:List ByteArray) (j:Nat):(catL (l.take j)).length ≤ (catL l).length:=by
 have e:catL l = catL (l.take j) ++ catL (l.drop j):=by unfold catL;rw [← List.flatMap_append,List.take_append_drop]
 rw [e,List.length_append]
 omega
theorem cat_size (L:List UInt8):(⟨L.toArray⟩:ByteArray).size = L.length:=by
 show L.toArray.size = _
 simp
theorem le_succ':∀ (i n:Nat),le (i + 1) n = le i n ++ [UInt8.ofNat (n / 256 ^ i % 256)]
 | 0,n=>by simp [le]
 | i + 1,n=>by
  show UInt8.ofNat (n % 256) :: le (i + 1) (n / 256) = (UInt8.ofNat (n % 256) :: le i (n / 256)) ++ _
  rw [le_succ' i (n / 256),Nat.div_div_eq_div_mul,List.cons_append,Nat.pow_succ,Nat.mul_comm 256]
theorem rbytes_any (n k:Nat) (w:World) (_hn:n ≤ 9223372036854775807) (h1:1 ≤ k) (hk:k ≤ 7) :
  Calls Tryz.prog 230 #[.int .i64 (n:Int),.int .i64 (k:Int)] w fun e w'=>e = .returned (.string ⟨(le k n).toArray⟩) ∧ Below w.heap.size w w':=by
 obtain ⟨i1,hi',hz0',hz1',hz2'⟩:=info_parts Tryz.infoU8
 go_enter Tryz.func230,Tryz.ntmps230
 go_wp2_with fail
 go_loopw [5,6] (fun u c wr=>∃ i:Nat,i ≤ k ∧ c = .int .i64 (i:Int) ∧ Hid (wr.ownsRow w.heap.size 5 1 u i (Lib.byteCells (le i n))) ∧ Hid (Below w.heap.size w wr)) (fun _ c _=>k - (intOf c).toNat)
 case atStart=>exact ⟨0,by omega,rfl,World.ownsRow_nil _ _ _ _,Below.refl _ _⟩
 case round =>
  obtain ⟨i,hik,rfl,hown,hbel⟩:=hrel
  by_cases hlt:i < k
  ·have pi:(i:Int) < (k:Int):=by omega
   have hsh:(n:Int) / 2 ^ (8 * (i:Int)).toNat = ((n / 256 ^ i:Nat):Int):=by
    rw [show (8 * (i:Int)).toNat = 8 * i by omega,pow256,Int.natCast_ediv,Int.natCast_pow];rfl
   have hcv:IntKind.u8.wrap ((n / 256 ^ i:Nat):Int) = ((n / 256 ^ i:Nat):Int) % 256:=by
    simp [IntKind.wrap,IntKind.bits,IntKind.signed]
   have hst:=le_succ' i n
   have hbc:Lib.byteCells (le i n) ++ [.int .u8 (((n / 256 ^ i:Nat):Int) % 256)] = Lib.byteCells (le (i + 1) n):=by
    rw [hst]
    unfold Lib.byteCells
    rw [List.map_append,List.map_cons,UInt8.toNat_ofNat_of_lt' (by show n / 256 ^ i % 256 < 256;omega)];rfl
   have hmod:n / 256 ^ i % 256 < 256:=by omega
   generalize n / 256 ^ i = q at hsh hcv hbc hmod
   have HBC:=Lib.hid hbc
   clear hst hbc
   go_wp2_with (at_builtin;refine wpList_append_own _ rfl _ _ 119 rfl w.heap.size 5 i1 (.int .u8 0) 1 1 Tryz.underlying119 hi' hz0' hz1' hz2' rfl (by decide) _ _ _ rfl (hown.out.alloc _) ⟨wr.heap.size,0,none⟩ 1 1 [.int .u8 ((q:Int) % 256)] rfl rfl ?c1 ?c2 ?c3 ?c4 ?c5 ?_)
   case c1=>exact cell_one_new _ _ _
   case c2=>intro u hu;simp at hu;subst hu;rfl
   case c3=>unfold maxLen;omega
   case c4=>omega
   case c5=>have:=hbel.out.size;simp;omega
   intro v' w5 hown' hgrow _
   have HB5:=Lib.hid (below_append hown.out hbel.out (Nat.le_refl _) hgrow)
   rw [HBC.out] at hown'
   have HO5:=Lib.hid hown'
   clear hown' hgrow
   go_wp2_with fail
   go_roundw
   case rel=>exact ⟨i + 1,by omega,by go_num,HO5.out,HB5.out⟩
   case measure=>simp [intOf];omega
  ·obtain rfl:i = k:=by omega
   have hlen:(Lib.byteCells (le i n)).length = i:=by rw [Lib.byteCells_length,le_length]
   obtain ⟨g,cap,rfl,_,_⟩:=World.ownsRow.form hown.out h1
   ·have hcv:=own_bytes hown.out (le_length i n).symm 0 i cap (by rw [le_length];omega)
    rw [List.drop_zero,List.take_of_length_le (by rw [le_length];exact Nat.le_refl _)] at hcv
    go_wp2_with fail
    go_ret
    exact ⟨rfl,hbel.out⟩
end Su
end Go.Proofs.YtmidncclndongaaGreat
namespace Go.Proofs.YtmidncclndongaaGreat
namespace Su
open Go.RowKit Bk
attribute [local go_sem ↓] Go.wp_at_zero Go.wp_at_succ
attribute [local go_sem] floatUpon pick
theorem extract_list (s:ByteArray) (a b:Nat):s.extract a b = ⟨((s.data.toList.drop a).take (b - a)).toArray⟩:=by
 apply ByteArray.ext
 apply Array.toList_inj.1
 simp [ByteArray.data_extract,Array.toList_extract,List.extract_eq_take_drop]
theorem str_from (s:ByteArray) (a:Nat) (h:a ≤ s.size) (i:Int) (hi:i = (a:Int)) (W:World) :
  (Instr.slice 9 (.string s) (some (.int .i64 i)) none none).run Tryz.prog W = .ok (.string ⟨(s.data.toList.drop a).toArray⟩) W:=by
 subst hi
 rw [run_slice_string_l W 9 s Tryz.underlying9 .i64 _ (by omega) (by omega),extract_list,Int.toNat_natCast,List.take_of_length_le (by rw [List.length_drop,Array.length_toList];exact Nat.le_refl _)]
theorem str_to (s:ByteArray) (b:Nat) (h:b ≤ s.size) (j:Int) (hj:j = (b:Int)) (W:World) :
  (Instr.slice 9 (.string s) none (some (.int .i64 j)) none).run Tryz.prog W = .ok (.string ⟨(s.data.toList.take b).toArray⟩) W:=by
 subst hj
 rw [run_slice_string_h W 9 s Tryz.underlying9 .i64 _ (by omega) (by omega),extract_list,Int.toNat_natCast,List.drop_zero,Nat.sub_zero]
theorem str_mid (s:ByteArray) (a b:Nat) (h1:a ≤ b) (h:b ≤ s.size) (i j:Int) (hi:i = (a:Int)) (hj:j = (b:Int)) (W:World) :
  (Instr.slice 9 (.string s) (some (.int .i64 i)) (some (.int .i64 j)) none).run Tryz.prog W = .ok (.string ⟨((s.data.toList.drop a).take (b - a)).toArray⟩) W:=by
 subst hi hj
 rw [run_slice_string W 9 s .i64 .i64 _ _ Tryz.underlying9 (by omega) (by omega) (by omega),extract_list,Int.toNat_natCast,Int.toNat_natCast]
theorem str_at (s:ByteArray) (a:Nat) (b:UInt8) (h:s.data.toList[a]? = some b) (i:Int) (hi:i = (a:Int)) (W:World) :
  (Instr.index 9 (.string s) (.int .i64 i)).run Tryz.prog W = .ok (.int .u8 (b.toNat:Int)) W:=by
 subst hi
 have hl:a < s.data.toList.length:=(List.getElem?_eq_some_iff.1 h).1
 have hl2:a < s.size:=by rw [Array.length_toList] at hl;exact hl
 rw [run_index_string W 9 s .i64 _ Tryz.underlying9,dif_pos (by omega)]
 congr 3
 rw [List.getElem?_eq_getElem hl] at h
 rw [← Option.some.inj h]
 simp only [Int.toNat_natCast]
 rfl
def frameL (t:List UInt8):List UInt8:=(le 2 t.length ++ t) ++ le 4 (crc (le 2 t.length ++ t))
def frameB (s:ByteArray):ByteArray:=⟨(frameL s.data.toList).toArray⟩
theorem frameL_len (t:List UInt8):(frameL t).length = t.length + 6:=by
 unfold frameL
 rw [List.length_append,List.length_append,le_length,le_length]
 omega
theorem frameB_size (s:ByteArray):(frameB s).size = s.size + 6:=by
 unfold frameB
 rw [cat_size,frameL_len,Array.length_toList];rfl
theorem list_size (s:ByteArray):s.data.toList.length = s.size:=Array.length_toList
theorem rone_any (s:ByteArray) (w:World) (hs:s.size ≤ 1000000000000000) :
  Calls Tryz.prog 150 #[.string s] w fun e w'=>e = .returned (.string (frameB s)) ∧ Below w.heap.size w w':=by
 have h1:=fun W=>rbytes_any s.size 2 W (by omega) (by omega) (by omega)
 have HB1:=Lib.hid h1
 have e1:(⟨(le 2 s.size).toArray⟩:ByteArray) ++ s = ⟨(le 2 s.size ++ s.data.toList).toArray⟩:=by rw [← ByteArray.mk_append_mk]
 have z1:(⟨(le 2 s.size).toArray⟩:ByteArray).size = 2:=by rw [cat_size,le_length]
 have hadd:=fun W=>run_string_add_sum (P:=Tryz.prog) W ⟨(le 2 s.size).toArray⟩ s (by rw [z1];omega)
 rw [e1] at hadd
 obtain ⟨L1,hL1⟩:∃ L1,L1 = le 2 s.size ++ s.data.toList:=⟨_,rfl⟩
 have hF:frameB s = ⟨(L1 ++ le 4 (crc L1)).toArray⟩:=by unfold frameB frameL;rw [list_size,← hL1]
 have hz:L1.length = s.size + 2:=by rw [hL1,List.length_append,le_length,list_size];omega
 have hsm:=fun W=>rsum_any ⟨L1.toArray⟩ W (by rw [cat_size,hz];omega)
 have HSm:=Lib.hid hsm
 have h2:=fun W=>rbytes_any (crc L1) 4 W (by have:=crc_lt L1;omega) (by omega) (by omega)
 have HB2:=Lib.hid h2
 have e2:(⟨L1.toArray⟩:ByteArray) ++ ⟨(le 4 (crc L1)).toArray⟩ = frameB s:=by rw [hF,← ByteArray.mk_append_mk]
 have z2:(⟨(le 4 (crc L1)).toArray⟩:ByteArray).size = 4:=by rw [cat_size,le_length]
 have z3:(⟨L1.toArray⟩:ByteArray).size = s.size + 2:=by rw [cat_size,hz]
 have hadd2:=fun W=>run_string_add_sum (P:=Tryz.prog) W ⟨L1.toArray⟩ ⟨(le 4 (crc L1)).toArray⟩ (by rw [z2,z3];omega)
 rw [e2] at hadd2
 rw [← hL1] at hadd e1
 clear e1 z1 hL1 hF hsm h2 e2 z2 h1 hz
 generalize (⟨(le 2 s.size).toArray⟩:ByteArray) = B1 at HB1 hadd
 generalize (⟨(le 4 (crc L1)).toArray⟩:ByteArray) = B2 at HB2 hadd2
 generalize hS1:(⟨L1.toArray⟩:ByteArray) = S1 at hadd hadd2 HSm z3
 have hS1l:S1.data.toList = L1:=by rw [← hS1]
 rw [hS1l] at HSm
 have hB:(s.size:Int) ≤ 1000000000000000:=by omega
 clear hS1 hS1l z3
 go_enter Tryz.func150,Tryz.ntmps150
 go_wp2_with fail
 refine (HB1.out _).mono ?_
 rintro e w1 ⟨rfl,hb⟩
 have W1:=Lib.hid hb
 clear hb
 go_wp2_with fail
 refine (HSm.out _).mono ?_
 rintro e w2 ⟨rfl,rfl⟩
 go_wp2_with fail
 refine (HB2.out _).mono ?_
 rintro e w3 ⟨rfl,hb⟩
 have W3:=Lib.hid (W1.out.trans (hb.mono W1.out.size))
 clear hb
 go_wp2_with fail
 go_ret
 exact ⟨rfl,W3.out⟩
def frameV (s:ByteArray):Value:=if 4096 < s.size then .tuple #[.string ⟨#[]⟩,.int .i64 2] else .tuple #[.string (frameB s),.int .i64 0]
end Su
end Go.Proofs.YtmidncclndongaaGreat
namespace Go.Proofs.YtmidncclndongaaGreat
namespace Rd
open Sc Bk
def be (n k:Nat):List UInt8:=(List.range k).map fun i=>UInt8.ofNat (n / 256 ^ (7 - i) % 256)
def be8 (n:Nat):List UInt8:=be n 8
theorem be_succ (n k:Nat):be n (k + 1) = be n k ++ [UInt8.ofNat (n / 256 ^ (7 - k) % 256)]:=by
 unfold be;rw [List.range_succ,List.map_append];rfl
theorem be_len (n k:Nat):(be n k).length = k:=by simp [be]
theorem be8_len (n:Nat):(be8 n).length = 8:=be_len n 8
def numB (L:List UInt8):Nat:=L.foldl (fun x b=>x * 256 + b.toNat) 0
theorem numB_snoc (L:List UInt8) (b:UInt8):numB (L ++ [b]) = numB L * 256 + b.toNat:=by simp [numB]
theorem numB_lt:∀ (k:Nat) (L:List UInt8),L.length = k → numB L < 256 ^ k
 | 0,L,h=>by rw [List.length_eq_zero_iff.1 h];decide
 | k + 1,L,h=>by
  obtain ⟨M,b,rfl⟩:∃ M b,L = M ++ [b]:=⟨L.dropLast,L.getLast (by intro e;rw [e] at h;cases h),(List.dropLast_concat_getLast _).symm⟩
  rw [List.length_append,List.length_singleton] at h
  have:=numB_lt k M (by omega)
  have hb:=b.toNat_lt
  rw [numB_snoc,Nat.pow_succ]
  omega
theorem num_be (n:Nat) (h:n < 256 ^ 8):∀ k,k ≤ 8 → numB (be n k) = n / 256 ^ (8 - k)
 | 0,_=>by rw [Nat.div_eq_of_lt h];rfl
 | k + 1,hk=>by
  rw [be_succ,numB_snoc,num_be n h k (by omega),show 8 - k = (7 - k) + 1 by omega,show 8 - (k + 1) = 7 - k by omega,Nat.pow_succ,← Nat.div_div_eq_div_mul,UInt8.toNat_ofNat_of_lt' (by show _ < 256;omega)]
  omega
theorem num_be8 {n:Nat} (h:n < 256 ^ 8):numB (be8 n) = n:=by
 have:=num_be n h 8 (Nat.le_refl _)
 show numB (be n 8) = n
 simpa using this
def headP (c a l:Nat):List UInt8:=(([82,69,68,79] ++ be8 c) ++ [UInt8.ofNat (a % 256)]) ++ be8 l
def headL (c a l:Nat):List UInt8:=((headP c a l ++ headP c a l) ++ headP c a l) ++ [0]
def headB (c a l:Nat):ByteArray:=⟨(headL c a l).toArray⟩
theorem headP_len (c a l:Nat):(headP c a l).length = 21:=by
 unfold headP
 rw [List.length_append,List.length_append,List.length_append,be8_len,be8_len];rfl
theorem headL_len (c a l:Nat):(headL c a l).length = 64:=by
 unfold headL
 rw [List.length_append,List.length_append,List.length_append,headP_len];rfl
theorem headB_size (c a l:Nat):(headB c a l).size = 64:=by
 show (headL c a l).toArray.size = 64
 rw [List.size_toArray,headL_len]
def cOf (s:List UInt8):Nat:=numB ((s.drop 4).take 8)
def aOf (s:List UInt8):Nat:=(s.getD 12 0).toNat
def lOf (s:List UInt8):Nat:=numB ((s.drop 13).take 8)
def okH (ab:Nat) (s:List UInt8):Prop:=1 ≤ cOf s ∧ cOf s ≤ 4611686018427387904 ∧ aOf s ≤ 1 ∧ lOf s ≤ ab ∧ s = headL (cOf s) (aOf s) (lOf s)
instance (ab:Nat) (s:List UInt8):Decidable (okH ab s):=by unfold okH;exact inferInstance
theorem c_head {c:Nat} (a l:Nat) (h:c < 256 ^ 8):cOf (headL c a l) = c:=by
 have e:((headL c a l).drop 4).take 8 = be8 c:=by
  have h8:=be8_len c
  unfold headL headP
  simp only [List.cons_append,List.nil_append,List.append_assoc,List.drop_succ_cons,List.drop_zero]
  rw [List.take_append_of_le_length (by omega),List.take_of_length_le (by omega)]
 unfold cOf
 rw [e,num_be8 h]
theorem a_head {c a l:Nat} (h:a < 256):aOf (headL c a l) = a:=by
 have e:(headL c a l).getD 12 0 = UInt8.ofNat (a % 256):=by
  have h8:=be8_len c
  unfold headL headP
  simp only [List.cons_append,List.nil_append,List.append_assoc]
  rw [List.getD_eq_getElem?_getD]
  simp only [List.getElem?_cons_succ]
  rw [List.getElem?_append_right (by omega),h8]
  simp
 unfold aOf
 rw [e,UInt8.toNat_ofNat_of_lt' (by show _ < 256;omega)]
 omega
theorem l_head {l:Nat} (c a:Nat) (h:l < 256 ^ 8):lOf (headL c a l) = l:=by
 have e:((headL c a l).drop 13).take 8 = be8 l:=by
  have h8:=be8_len c
  have h9:=be8_len l
  unfold headL headP
  simp only [List.append_assoc]
  rw [← List.append_assoc ([82,69,68,79]:List UInt8),← List.append_assoc ([82,69,68,79] ++ be8 c:List UInt8)]
  rw [List.drop_append_of_le_length (by simp [h8]),List.drop_of_length_le (by simp [h8]),List.nil_append,List.take_append_of_le_length (by omega),List.take_of_length_le (by omega)]
 unfold lOf
 rw [e,num_be8 h]
theorem ok_head {ab c a l:Nat} (h1:1 ≤ c) (h2:c ≤ 4611686018427387904) (h3:a ≤ 1) (h4:l ≤ ab) (h5:ab < 256 ^ 8):okH ab (headL c a l):=by
 have e1:=c_head (c:=c) a l (by omega)
 have e2:=a_head (c:=c) (a:=a) (l:=l) (by omega)
 have e3:=l_head (l:=l) c a (by omega)
 unfold okH
 rw [e1,e2,e3]
 exact ⟨h1,h2,h3,h4,rfl⟩
end Rd
end Go.Proofs.YtmidncclndongaaGreat
namespace Go.Proofs.YtmidncclndongaaGreat
namespace Su
open Go.RowKit Bk
attribute [local go_sem ↓] Go.wp_at_zero Go.wp_at_succ
attribute [local go_sem] floatUpon pick
def restR (r:List UInt8):Except Nat (List UInt8) :=
 if r.length < 2 then .error 50
 else if 4096 < num (r.take 2) then .error 2
 else if r.length < num (r.take 2) + 6 then .error 50
 else if r.take (num (r.take 2) + 6) = frameL ((r.drop 2).take (num (r.take 2))) then .ok ((r.drop 2).take (num (r.take 2)))
 else .error 51
def errV (e:Nat):Value:=.tuple #[.string ⟨#[]⟩,.int .i64 0,.int .i64 (e:Int)]
def outV (a:Nat):Except Nat (List UInt8) → Value
 | .error e=>errV e
 | .ok t=>.tuple #[.string ⟨t.toArray⟩,.int .i64 ((a + t.length + 6:Nat):Int),.int .i64 0]
def nextV (s:ByteArray) (i:Int):Value:=if i < 0 ∨ (s.size:Int) < i then errV 1 else outV i.toNat (restR (s.data.toList.drop i.toNat))
theorem nextV_bad {s:ByteArray} {i:Int} (h:i < 0 ∨ (s.size:Int) < i):nextV s i = errV 1:=if_pos h
theorem nextV_at {s:ByteArray} {a:Nat} (h:a ≤ s.size):nextV s (a:Int) = outV a (restR (s.data.toList.drop a)):=by
 unfold nextV
 rw [if_neg (by omega),Int.toNat_natCast]
theorem rnext_any (s:ByteArray) (i:Int) (w:World) (hs:s.size ≤ 1000000000000000) (hi:-9223372036854775808 ≤ i ∧ i ≤ 9223372036854775807) :
  Calls Tryz.prog 205 #[.string s,.int .i64 i] w fun e w'=>e = .returned (nextV s i) ∧ Below w.heap.size w w':=by
 have hB:(s.size:Int) ≤ 1000000000000000:=by omega
 by_cases hbad:i < 0 ∨ (s.size:Int) < i
 ·have E:=Lib.hid (nextV_bad hbad)
  rcases hbad with h | h
  ·go_enter Tryz.func205,Tryz.ntmps205
   go_wp2_with fail
   go_ret3
   exact ⟨by rw [E.out];rfl,Below.refl _ _⟩
  ·have h0:0 ≤ i:=by omega
   go_enter Tryz.func205,Tryz.ntmps205
   go_wp2_with fail
   go_ret3
   exact ⟨by rw [E.out];rfl,Below.refl _ _⟩
 ·obtain ⟨a,rfl⟩:∃ a:Nat,i = (a:Int):=⟨i.toNat,by omega⟩
  have ha:a ≤ s.size:=by omega
  have E:=Lib.hid (nextV_at ha)
  have hfrom:=fun W=>str_from s a ha (a:Int) rfl W
  obtain ⟨R,hR⟩:∃ R,R = s.data.toList.drop a:=⟨_,rfl⟩
  have hRl:R.length = s.size - a:=by rw [hR,List.length_drop,list_size]
  rw [← hR] at hfrom E
  have z:(⟨R.toArray⟩:ByteArray).size = s.size - a:=by rw [cat_size,hRl]
  have hSl:(⟨R.toArray⟩:ByteArray).data.toList = R:=rfl
  clear hR hbad
  generalize (⟨R.toArray⟩:ByteArray) = S at hfrom z hSl
  have pa:(a:Int) ≤ (s.size:Int):=by omega
  by_cases h2:R.length < 2
  ·have E2:=Lib.hid (show restR R = .error 50 by unfold restR;rw [if_pos h2])
   have q:(S.size:Int) < 2:=by omega
   clear z hSl h2
   go_enter Tryz.func205,Tryz.ntmps205
   go_wp2_with fail
   go_ret3
   exact ⟨by rw [E.out,E2.out];rfl,Below.refl _ _⟩
  ·obtain ⟨b0,b1,r2,rfl⟩:∃ b0 b1 r2,R = b0 :: b1 :: r2:=by
    match R,h2 with
    | [],h=>exact absurd (by show 0 < 2;omega) h
    | [_],h=>exact absurd (by show 1 < 2;omega) h
    | b0 :: b1 :: r2,_=>exact ⟨b0,b1,r2,rfl⟩
   have hn:num (List.take 2 (b0 :: b1 :: r2)) = b0.toNat + 256 * b1.toNat:=by
    simp only [List.take_succ_cons,List.take_zero,num];omega
   have i0:=fun W=>str_at S 0 b0 (by rw [hSl];rfl) 0 rfl W
   have i1:=fun W=>str_at S 1 b1 (by rw [hSl];rfl) 1 rfl W
   have hb0:b0.toNat < 256:=b0.toNat_lt
   have hb1:b1.toNat < 256:=b1.toNat_lt
   obtain ⟨n,hnn⟩:∃ n,n = b0.toNat + 256 * b1.toNat:=⟨_,rfl⟩
   have hsum:(b0.toNat:Int) + 256 * (b1.toNat:Int) = (n:Int):=by omega
   rw [← hnn] at hn
   generalize b0.toNat = x0 at i0 hb0 hsum hnn
   generalize b1.toNat = x1 at i1 hb1 hsum hnn
   have q2:(2:Int) ≤ (S.size:Int):=by rw [List.length_cons,List.length_cons] at hRl h2;omega
   have hmul:IntKind.i64.wrap (256 * (x1:Int)) = 256 * (x1:Int):=i64_wrap (by omega) (by omega)
   by_cases hlong:4096 < n
   ·have E2:=Lib.hid (show restR (b0 :: b1 :: r2) = .error 2 by unfold restR;rw [if_neg h2,hn,if_pos hlong])
    have pl:(4096:Int) < (n:Int):=by omega
    clear h2 z hRl hSl hnn
    go_enter Tryz.func205,Tryz.ntmps205
    go_wp2_with fail
    go_quiet (fail)
    go_wp2_with fail
    go_ret3
    exact ⟨by rw [E.out,E2.out];rfl,below_drewN (Below.refl _ _) nq⟩
   ·have pl:(n:Int) ≤ 4096:=by omega
    have hadd6:IntKind.i64.wrap ((n:Int) + 6) = (n:Int) + 6:=i64_wrap (by omega) (by omega)
    have hadd2:IntKind.i64.wrap (2 + (n:Int)) = 2 + (n:Int):=i64_wrap (by omega) (by omega)
    by_cases hshort:(b0 :: b1 :: r2).length < n + 6
    ·have E2:=Lib.hid (show restR (b0 :: b1 :: r2) = .error 50 by unfold restR;rw [if_neg h2,hn,if_neg hlong,if_pos hshort])
     have q3:(S.size:Int) < (n:Int) + 6:=by omega
     clear h2 z hRl hSl hnn hshort
     go_enter Tryz.func205,Tryz.ntmps205
     go_wp2_with fail
     go_quiet (fail)
     go_wp2_with fail
     go_ret3
     exact ⟨by rw [E.out,E2.out];rfl,below_drewN (Below.refl _ _) nq⟩
    ·have q3:(n:Int) + 6 ≤ (S.size:Int):=by omega
     have hmid:=fun W=>str_mid S 2 (2 + n) (by omega) (by omega) 2 (2 + (n:Int)) rfl (by omega) W
     have hto:=fun W=>str_to S (n + 6) (by omega) ((n:Int) + 6) (by omega) W
     rw [hSl,show 2 + n - 2 = n by omega] at hmid
     rw [hSl] at hto
     obtain ⟨t,ht⟩:∃ t,t = List.take n (List.drop 2 (b0 :: b1 :: r2)):=⟨_,rfl⟩
     rw [← ht] at hmid
     have htl:t.length = n:=by rw [ht,List.length_take,List.length_drop];omega
     have hone:=fun W=>rone_any ⟨t.toArray⟩ W (by rw [cat_size];omega)
     have HO:=Lib.hid hone
     have hF:frameB ⟨t.toArray⟩ = ⟨(frameL t).toArray⟩:=rfl
     rw [hF] at HO
     by_cases hsame:List.take (n + 6) (b0 :: b1 :: r2) = frameL t
     ·have E2:=Lib.hid (show restR (b0 :: b1 :: r2) = .ok t by unfold restR;rw [if_neg h2,hn,if_neg hlong,if_neg hshort,← ht,if_pos hsame])
      have E3:=Lib.hid htl
      rw [hsame] at hto
      have hq:=text_eq ⟨(frameL t).toArray⟩
      have hs1:IntKind.i64.wrap ((a:Int) + (n:Int)) = (a:Int) + (n:Int):=i64_wrap (by omega) (by omega)
      have hs2:IntKind.i64.wrap ((a:Int) + (n:Int) + 6) = (a:Int) + (n:Int) + 6:=i64_wrap (by omega) (by omega)
      clear h2 z hRl hSl hnn hshort htl hsame hone hF ht
      generalize (⟨(frameL t).toArray⟩:ByteArray) = F at hto hq HO
      generalize hT:(⟨t.toArray⟩:ByteArray) = T at hmid HO
      have HT:=Lib.hid hT
      clear hT
      go_enter Tryz.func205,Tryz.ntmps205
      go_wp2_with fail
      go_quiet (fail)
      go_wp2_with fail
      refine wp_region_said 7 [43,44,45,46,47,48,49]
       [.is (.string S),.is (.int .i64 (n:Int)),.is (.int .i64 ((n:Int) + 6)),.is (.string F),.is (.string T),.is (.string F),.is (.bool false)]
       (fun _=>True) (by kernel_rfl) (by kernel_rfl) (by kernel_rfl) (by kernel_rfl) (by kernel_rfl) (fun _ _ _ _=>trivial) trivial ?steps ?last
      case steps =>
       simp only [List.take_succ_cons,List.take_zero]
       refine ⟨?_,?_,?_,?_,?_,?_,?_,trivial⟩
       all_goals
        intro vs W ρ hρ hc hf hg hI hH hd R' hR
        have HR:=Lib.hid hR
        simp [depsOf,Region.binds,sayAt,Say.holds] at hd
        clear hR
        go_simp
        first
         | exact HR.out _ _ (by simp [sayAt,Say.holds]) (Below.refl _ _) (by simp [sayAt,Say.isBlk])
         | (refine (HO.out _).mono ?_;rintro e w' ⟨rfl,hb⟩;exact ⟨_,rfl,HR.out _ _ (by simp [sayAt,Say.holds]) hb (by simp [sayAt,Say.isBlk])⟩)
         | trace_state
      case last =>
       intro vs W hI hb hg hd
       have g6:=hg 6 (by omega)
       simp only [sayAt,Say.holds,List.getD_cons_succ,List.getD_cons_zero] at g6
       simp only [List.take_succ_cons,List.take_zero,List.drop_succ_cons,List.drop_zero,putAll,Act.put,List.setIfInBounds_toArray,List.set_cons_succ,List.set_cons_zero,Nat.zero_add,Nat.reduceAdd]
       rw [g6]
       have HB:=Lib.hid ((below_drewN (Below.refl w.heap.size w) nq).trans hb)
       clear g6 hg hd hb hI
       go_wp2_with fail
       go_ret3
       exact ⟨by rw [E.out,E2.out];show _ = Ending.returned (Value.tuple #[.string ⟨t.toArray⟩,.int .i64 ((a + t.length + 6:Nat):Int),.int .i64 0]);rw [HT.out,E3.out];simp,HB.out⟩
     ·have E2:=Lib.hid (show restR (b0 :: b1 :: r2) = .error 51 by unfold restR;rw [if_neg h2,hn,if_neg hlong,if_neg hshort,← ht,if_neg hsame])
      have hq:((⟨(List.take (n + 6) (b0 :: b1 :: r2)).toArray⟩:ByteArray).toList == (⟨(frameL t).toArray⟩:ByteArray).toList) = false:=text_ne (fun h=>hsame (by
       have:=congrArg (fun x:ByteArray=>x.data.toList) h
       simpa using this))
      clear h2 z hRl hSl hnn hshort htl hsame hone hF ht
      generalize (⟨(frameL t).toArray⟩:ByteArray) = F at hq HO
      generalize (⟨(List.take (n + 6) (b0 :: b1 :: r2)).toArray⟩:ByteArray) = F0 at hto hq
      generalize (⟨t.toArray⟩:ByteArray) = T at hmid HO
      go_enter Tryz.func205,Tryz.ntmps205
      go_wp2_with fail
      go_quiet (fail)
      go_wp2_with fail
      refine wp_region_said 7 [43,44,45,46,47,48,49]
       [.is (.string S),.is (.int .i64 (n:Int)),.is (.int .i64 ((n:Int) + 6)),.is (.string F0),.is (.string T),.is (.string F),.is (.bool true)]
       (fun _=>True) (by kernel_rfl) (by kernel_rfl) (by kernel_rfl) (by kernel_rfl) (by kernel_rfl) (fun _ _ _ _=>trivial) trivial ?steps ?last
      case steps =>
       simp only [List.take_succ_cons,List.take_zero]
       refine ⟨?_,?_,?_,?_,?_,?_,?_,trivial⟩
       all_goals
        intro vs W ρ hρ hc hf hg hI hH hd R' hR
        have HR:=Lib.hid hR
        simp [depsOf,Region.binds,sayAt,Say.holds] at hd
        clear hR
        go_simp
        first
         | exact HR.out _ _ (by simp [sayAt,Say.holds]) (Below.refl _ _) (by simp [sayAt,Say.isBlk])
         | (refine (HO.out _).mono ?_;rintro e w' ⟨rfl,hb⟩;exact ⟨_,rfl,HR.out _ _ (by simp [sayAt,Say.holds]) hb (by simp [sayAt,Say.isBlk])⟩)
         | trace_state
      case last =>
       intro vs W hI hb hg hd
       have g6:=hg 6 (by omega)
       simp only [sayAt,Say.holds,List.getD_cons_succ,List.getD_cons_zero] at g6
       simp only [List.take_succ_cons,List.take_zero,List.drop_succ_cons,List.drop_zero,putAll,Act.put,List.setIfInBounds_toArray,List.set_cons_succ,List.set_cons_zero,Nat.zero_add,Nat.reduceAdd]
       rw [g6]
       have HB:=Lib.hid ((below_drewN (Below.refl w.heap.size w) nq).trans hb)
       clear g6 hg hd hb hI
       go_wp2_with fail
       go_ret3
       exact ⟨by rw [E.out,E2.out];rfl,HB.out⟩
theorem restR_ok {r t:List UInt8} (h:restR r = .ok t):t.length ≤ 4096 ∧ t.length + 6 ≤ r.length ∧ r.take (t.length + 6) = frameL t:=by
 unfold restR at h
 split at h
 ·cases h
 ·split at h
  ·cases h
  ·split at h
   ·cases h
   ·split at h
    ·next h1 h2 h3 h4 =>
     have e:=Except.ok.inj h
     have hl:t.length = num (r.take 2):=by rw [← e,List.length_take,List.length_drop];omega
     rw [e] at h4
     rw [hl]
     exact ⟨by omega,by omega,h4⟩
    ·cases h
theorem restR_err {r:List UInt8} {e:Nat} (h:restR r = .error e):e = 50 ∨ e = 2 ∨ e = 51:=by
 unfold restR at h
 split at h
 ·cases h;omega
 ·split at h
  ·cases h;omega
  ·split at h
   ·cases h;omega
   ·split at h
    ·cases h
    ·cases h;omega
def walkR:Nat → List UInt8 → Nat → List ByteArray × Nat × Nat
 | 0,_,a=>([],a,0)
 | f + 1,r,a=>match r,restR r with
  | [],_=>([],a,0)
  | _ :: _,.error e=>([],a,e)
  | _ :: _,.ok t=>(⟨t.toArray⟩ :: (walkR f (r.drop (t.length + 6)) (a + t.length + 6)).1,(walkR f (r.drop (t.length + 6)) (a + t.length + 6)).2)
theorem walkR_nil (f a:Nat):walkR f [] a = ([],a,0):=by cases f <;> rfl
theorem walkR_err {f a e:Nat} {r:List UInt8} (hr:r ≠ []) (h:restR r = .error e):walkR (f + 1) r a = ([],a,e):=by
 cases r with
 | nil=>exact absurd rfl hr
 | cons b r=>simp only [walkR,h]
theorem walkR_ok {f a:Nat} {r t:List UInt8} (hr:r ≠ []) (h:restR r = .ok t):walkR (f + 1) r a = (⟨t.toArray⟩ :: (walkR f (r.drop (t.length + 6)) (a + t.length + 6)).1,(walkR f (r.drop (t.length + 6)) (a + t.length + 6)).2):=by
 cases r with
 | nil=>exact absurd rfl hr
 | cons b r=>simp only [walkR,h]
def allR (s:ByteArray):List ByteArray × Nat × Nat:=walkR s.size s.data.toList 0
def Upto (s:ByteArray) (O:List ByteArray) (a:Nat):Prop :=
 ∃ f,s.size - a ≤ f ∧ allR s = (O ++ (walkR f (s.data.toList.drop a) a).1,(walkR f (s.data.toList.drop a) a).2)
theorem Upto.start (s:ByteArray):Upto s [] 0:=⟨s.size,by omega,rfl⟩
theorem Upto.done {s:ByteArray} {O:List ByteArray} {a:Nat} (h:Upto s O a) (ha:s.size ≤ a):allR s = (O,a,0):=by
 obtain ⟨f,_,h⟩:=h
 rw [List.drop_eq_nil_of_le (by rw [list_size];exact ha),walkR_nil] at h
 simpa using h
theorem drop_ne {s:ByteArray} {a:Nat} (ha:a < s.size):s.data.toList.drop a ≠ []:=by
 intro h
 have:=List.drop_eq_nil_iff.1 h
 rw [list_size] at this
 omega
theorem Upto.err {s:ByteArray} {O:List ByteArray} {a e:Nat} (h:Upto s O a) (ha:a < s.size) (he:restR (s.data.toList.drop a) = .error e):allR s = (O,a,e):=by
 obtain ⟨f,hf,h⟩:=h
 obtain ⟨f,rfl⟩:∃ k,f = k + 1:=⟨f - 1,by omega⟩
 rw [walkR_err (drop_ne ha) he] at h
 simpa using h
theorem Upto.more {s:ByteArray} {O:List ByteArray} {a:Nat} {t:List UInt8} (h:Upto s O a) (ha:a < s.size) (he:restR (s.data.toList.drop a) = .ok t):Upto s (O ++ [⟨t.toArray⟩]) (a + t.length + 6):=by
 obtain ⟨f,hf,h⟩:=h
 obtain ⟨f,rfl⟩:∃ k,f = k + 1:=⟨f - 1,by omega⟩
 rw [walkR_ok (drop_ne ha) he,List.drop_drop] at h
 refine ⟨f,by omega,?_⟩
 rw [h,show a + (t.length + 6) = a + t.length + 6 by omega]
 simp
theorem strV_snoc (O:List ByteArray) (t:ByteArray):strV (O ++ [t]) = strV O ++ [.string t]:=by simp [strV]
end Su
end Go.Proofs.YtmidncclndongaaGreat
namespace Go.Proofs.YtmidncclndongaaGreat
namespace Rd
open Go.RowKit Sc Bk
attribute [local go_sem ↓] Go.wp_at_zero Go.wp_at_succ
attribute [local go_sem] floatUpon pick
theorem wrap_dec {j:Nat} (h:j ≤ 7):IntKind.i64.wrap ((j:Int) - 1) = (j:Int) - 1:=by
 simp only [IntKind.wrap,IntKind.bits,IntKind.signed];simp;omega
theorem reight_any (n:Nat) (w:World) (_hn:n ≤ 9223372036854775807) :
  Calls Tryz.prog 204 #[.int .i64 (n:Int)] w fun e w'=>e = .returned (.string ⟨(be8 n).toArray⟩) ∧ Below w.heap.size w w':=by
 obtain ⟨i1,hi',hz0',hz1',hz2'⟩:=info_parts Tryz.infoU8
 go_enter Tryz.func204,Tryz.ntmps204
 go_wp2_with fail
 go_loopw [3,4] (fun u c wr=>∃ (i:Nat) (m:Int),i ≤ 8 ∧ c = .int .i64 m ∧ Hid (m = 7 - (i:Int)) ∧ Hid (wr.ownsRow w.heap.size 5 1 u i (Lib.byteCells (be n i))) ∧ Hid (Below w.heap.size w wr)) (fun _ c _=>(intOf c + 1).toNat)
 case atStart=>exact ⟨0,7,by omega,rfl,rfl,World.ownsRow_nil _ _ _ _,Below.refl _ _⟩
 case round =>
  obtain ⟨i,m,hi,rfl,hm,hown,hbel⟩:=hrel
  by_cases hlt:i < 8
  ·obtain ⟨j,hj⟩:∃ j,j = 7 - i:=⟨_,rfl⟩
   obtain rfl:m = (j:Int):=by have:=hm.out;omega
   have hj7:j ≤ 7:=by omega
   have wj:=wrap_dec hj7
   have pj:(0:Int) ≤ (j:Int):=by omega
   have hsh:(n:Int) / 2 ^ (8 * (j:Int)).toNat = ((n / 256 ^ j:Nat):Int):=by
    rw [show (8 * (j:Int)).toNat = 8 * j by omega,Su.pow256,Int.natCast_ediv,Int.natCast_pow];rfl
   have hcv:IntKind.u8.wrap ((n / 256 ^ j:Nat):Int) = ((n / 256 ^ j:Nat):Int) % 256:=by
    simp [IntKind.wrap,IntKind.bits,IntKind.signed]
   have hbc:Lib.byteCells (be n i) ++ [.int .u8 (((n / 256 ^ j:Nat):Int) % 256)] = Lib.byteCells (be n (i + 1)):=by
    rw [be_succ,← hj]
    unfold Lib.byteCells
    rw [List.map_append,List.map_cons,UInt8.toNat_ofNat_of_lt' (by show n / 256 ^ j % 256 < 256;omega)];rfl
   have hmod:n / 256 ^ j % 256 < 256:=by omega
   have HJ:=Lib.hid hj
   generalize n / 256 ^ j = q at hsh hcv hbc hmod
   have HBC:=Lib.hid hbc
   clear hbc hj hm
   go_wp2_with (at_builtin;refine wpList_append_own _ rfl _ _ 119 rfl w.heap.size 5 i1 (.int .u8 0) 1 1 Tryz.underlying119 hi' hz0' hz1' hz2' rfl (by decide) _ _ _ rfl (hown.out.alloc _) ⟨wr.heap.size,0,none⟩ 1 1 [.int .u8 ((q:Int) % 256)] rfl rfl ?c1 ?c2 ?c3 ?c4 ?c5 ?_)
   case c1=>exact cell_one_new _ _ _
   case c2=>intro u hu;simp at hu;subst hu;rfl
   case c3=>unfold maxLen;omega
   case c4=>omega
   case c5=>have:=hbel.out.size;simp;omega
   intro v' w5 hown' hgrow _
   have HB5:=Lib.hid (below_append hown.out hbel.out (Nat.le_refl _) hgrow)
   rw [HBC.out] at hown'
   have HO5:=Lib.hid hown'
   clear hown' hgrow
   go_wp2_with fail
   go_roundw
   case rel=>exact ⟨i + 1,_,by omega,rfl,Lib.hid (by have:=HJ.out;omega),HO5.out,HB5.out⟩
   case measure=>simp [intOf]
  ·obtain rfl:i = 8:=by omega
   obtain rfl:m = -1:=by have:=hm.out;omega
   have hlen:(Lib.byteCells (be n 8)).length = 8:=by rw [Lib.byteCells_length,be_len]
   obtain ⟨g,cap,rfl,_,_⟩:=World.ownsRow.form hown.out (by omega)
   have hcv:=own_bytes hown.out (be_len n 8).symm 0 8 cap (by rw [be_len];omega)
   rw [List.drop_zero,List.take_of_length_le (by rw [be_len];exact Nat.le_refl _)] at hcv
   clear hm
   go_wp2_with fail
   go_ret
   exact ⟨rfl,hbel.out⟩
theorem wrap_step (x:Nat) (b:UInt8):IntKind.i64.wrap (IntKind.i64.wrap (IntKind.i64.wrap (x:Int) * 256) + (b.toNat:Int)) = IntKind.i64.wrap ((x * 256 + b.toNat:Nat):Int):=by
 simp only [IntKind.wrap,IntKind.bits,IntKind.signed];simp;omega
theorem rnumber_any (s:ByteArray) (w:World) (hs:s.size = 8) :
  Calls Tryz.prog 202 #[.string s] w fun e w'=>e = .returned (.int .i64 (IntKind.i64.wrap (numB s.data.toList:Int))) ∧ w' = w:=by
 have hl:s.data.toList.length = 8:=by rw [Array.length_toList];exact hs
 go_enter Tryz.func202,Tryz.ntmps202
 go_wp2_with fail
 go_loopw [3,4] (fun u c wr=>∃ i:Nat,i ≤ 8 ∧ u = .int .i64 (IntKind.i64.wrap (numB (s.data.toList.take i):Int)) ∧ c = .int .i64 (i:Int) ∧ wr = w) (fun _ c _=>8 - (intOf c).toNat)
 case atStart=>exact ⟨0,by omega,rfl,rfl,rfl⟩
 case round =>
  obtain ⟨i,hi,rfl,rfl,rfl⟩:=hrel
  by_cases hlt:i < 8
  ·have pi:(i:Int) < 8:=by omega
   obtain ⟨b,hb⟩:∃ b,s.data.toList[i]? = some b:=⟨_,List.getElem?_eq_getElem (by omega)⟩
   have hix:=fun W=>str_at s i b hb (i:Int) rfl W
   have hst:=wrap_step (numB (s.data.toList.take i)) b
   have hnx:numB (s.data.toList.take (i + 1)) = numB (s.data.toList.take i) * 256 + b.toNat:=by
    rw [List.take_add_one,hb];exact numB_snoc _ _
   rw [← hnx] at hst
   clear hnx
   have hbl:(b.toNat:Int) < 256:=by have:=b.toNat_lt;omega
   have HSt:=Lib.hid (fun z (hz:z = IntKind.i64.wrap (numB (s.data.toList.take i):Int))=>show IntKind.i64.wrap (IntKind.i64.wrap (z * 256) + (b.toNat:Int)) = IntKind.i64.wrap (numB (s.data.toList.take (i + 1)):Int) from by rw [hz];exact hst)
   clear hst
   obtain ⟨z,hz⟩:∃ z,z = IntKind.i64.wrap (numB (s.data.toList.take i):Int):=⟨_,rfl⟩
   have HS2:=Lib.hid (HSt.out z hz)
   rw [← hz]
   clear hz HSt
   go_wp2_with fail
   go_roundw
   case rel=>exact ⟨i + 1,by omega,(by have h:=HS2.out;rw [IntWalk.i64_left,IntWalk.i64_left] at h;rw [h]),by go_num,trivial⟩
   case measure=>simp [intOf];omega
  ·obtain rfl:i = 8:=by omega
   rw [List.take_of_length_le (by omega)]
   go_wp2_with fail
   go_ret
   exact ⟨rfl,rfl⟩
theorem back_one {w:World} {g:Nat} {b:UInt8} (h:w.heap[g]? = some (.cells #[.int .u8 (b.toNat:Int)] 5 (0,0))) :
  (convert 119 9 (.slice (some ⟨g,0,none⟩) 1 1)).run Tryz.prog w = .ok (.string ⟨[b].toArray⟩) w:=by
 have:=run_convert_bytes_back (P:=Tryz.prog) w 119 9 5 ⟨g,0,none⟩ 1 [b] Tryz.underlying119 Tryz.underlying5 Tryz.underlying9 (fun j hj=>by
  rw [addr_head]
  refine blk_cell h ?_
  match j,hj with
  | 0,_=>rfl)
 exact this
theorem list_sum (X Y:List UInt8) (h:X.length + Y.length ≤ 1000) (W:World):(Op.stringOp .add ⟨X.toArray⟩ ⟨Y.toArray⟩).run Tryz.prog W = .ok (.string ⟨(X ++ Y).toArray⟩) W:=by
 have h1:(⟨X.toArray⟩:ByteArray).size = X.length:=text_size X
 have h2:(⟨Y.toArray⟩:ByteArray).size = Y.length:=text_size Y
 rw [run_string_add_sum W _ _ (by omega),ByteArray.mk_append_mk]
theorem rhead_any (c a l:Nat) (w:World) (hc:c ≤ 9223372036854775807) (ha:a ≤ 1) (hl:l ≤ 9223372036854775807) :
  Calls Tryz.prog 131 #[.int .i64 (c:Int),.int .i64 (a:Int),.int .i64 (l:Int)] w fun e w'=>e = .returned (.string (headB c a l)) ∧ Below w.heap.size w w':=by
 have HE1:=Lib.hid (fun W=>reight_any c W hc)
 have HE2:=Lib.hid (fun W=>reight_any l W hl)
 obtain ⟨b,hb⟩:∃ b,b = UInt8.ofNat (a % 256):=⟨_,rfl⟩
 have hbt:b.toNat = a:=by rw [hb,UInt8.toNat_ofNat_of_lt' (by show a % 256 < 256;omega)];omega
 have hcv:IntKind.u8.wrap (a:Int) = (b.toNat:Int):=by
  rw [hbt];simp [IntKind.wrap,IntKind.bits,IntKind.signed];omega
 have l1:=be8_len c
 have l2:=be8_len l
 have a1:=list_sum [82,69,68,79] (be8 c) (by rw [l1];decide)
 have a2:=list_sum ([82,69,68,79] ++ be8 c) [b] (by rw [List.length_append,l1];show 4 + 8 + 1 ≤ 1000;decide)
 have a3:=list_sum (([82,69,68,79] ++ be8 c) ++ [b]) (be8 l) (by rw [List.length_append,List.length_append,l1,l2];show 4 + 8 + 1 + 8 ≤ 1000;decide)
 have hP:(([82,69,68,79] ++ be8 c) ++ [b]) ++ be8 l = headP c a l:=by rw [hb];rfl
 rw [hP] at a3
 have l3:=headP_len c a l
 have a4:=list_sum (headP c a l) (headP c a l) (by rw [l3];decide)
 have a5:=list_sum (headP c a l ++ headP c a l) (headP c a l) (by rw [List.length_append,l3];decide)
 have a6:=list_sum ((headP c a l ++ headP c a l) ++ headP c a l) [0] (by rw [List.length_append,List.length_append,l3];decide)
 rw [show ((headP c a l ++ headP c a l) ++ headP c a l) ++ [0] = headL c a l from rfl] at a6
 have HHB:=Lib.hid (show headB c a l = ⟨(headL c a l).toArray⟩ from rfl)
 generalize headB c a l = HB at HHB ⊢
 have HBk:=Lib.hid (fun (W:World) (p:Nat) (h:W.heap[p]? = some (.cells #[.int .u8 (b.toNat:Int)] 5 (0,0)))=>back_one h)
 clear l1 l2 l3 hb hbt hP
 have hR:(⟨([82,69,68,79]:List UInt8).toArray⟩:ByteArray) = ⟨#[82,69,68,79]⟩:=rfl
 have hZ:(⟨([0]:List UInt8).toArray⟩:ByteArray) = ⟨#[0]⟩:=rfl
 rw [hR] at a1
 rw [hZ] at a6
 clear hR hZ
 generalize (⟨(headL c a l).toArray⟩:ByteArray) = X6 at HHB a6
 generalize (⟨((headP c a l ++ headP c a l) ++ headP c a l).toArray⟩:ByteArray) = X5 at a5 a6
 generalize (⟨(headP c a l ++ headP c a l).toArray⟩:ByteArray) = X4 at a4 a5
 generalize (⟨(headP c a l).toArray⟩:ByteArray) = X3 at a3 a4 a5
 generalize (⟨(([82,69,68,79] ++ be8 c) ++ [b]).toArray⟩:ByteArray) = X2 at a2 a3
 generalize (⟨([82,69,68,79] ++ be8 c).toArray⟩:ByteArray) = X1 at a1 a2
 generalize (⟨(be8 c).toArray⟩:ByteArray) = E1 at HE1 a1
 generalize (⟨(be8 l).toArray⟩:ByteArray) = E2 at HE2 a3
 generalize (⟨[b].toArray⟩:ByteArray) = B1 at a2 HBk
 generalize b.toNat = bt at hcv HBk
 go_enter Tryz.func131,Tryz.ntmps131
 go_wp2_with fail
 refine wp_region_said 11 [8,9,10,11,12,13,14,15,16,17,18]
  [.is (.int .i64 (c:Int)),.is (.string E1),.is (.string X1),.is (.int .i64 (a:Int)),.is (.int .u8 (bt:Int)),.arr 5 #[.int .u8 (bt:Int)] 1 1,.is (.string B1),.is (.string X2),.is (.int .i64 (l:Int)),.is (.string E2),.is (.string X3)]
  (fun _=>True) (by kernel_rfl) (by kernel_rfl) (by kernel_rfl) (by kernel_rfl) (by kernel_rfl) (fun _ _ _ _=>trivial) trivial ?steps ?last
 case steps =>
  simp only [List.take_succ_cons,List.take_zero]
  refine ⟨?_,?_,?_,?_,?_,?_,?_,?_,?_,?_,?_,trivial⟩
  all_goals
   intro vs W ρ hρ hc hf hg hI hH hd R' hR
   have HR:=Lib.hid hR
   simp [depsOf,Region.binds,sayAt,Say.holds] at hd
   clear hR
  case refine_6 =>
   go_simp
   exact HR.out _ _ ⟨W.heap.size,hH,by simp,rfl,heap_alloc_new W _⟩ ((Below.refl _ _).alloc (Nat.le_refl _) _) (fun h=>by cases h)
  case refine_7 =>
   obtain ⟨p,hp1,hp2,hp3,hp4⟩:=hd
   have hbk:=HBk.out _ p hp4
   go_simp
   exact HR.out _ _ (by simp [sayAt,Say.holds]) (Below.refl _ _) (by simp [sayAt,Say.isBlk])
  case refine_2 =>
   go_simp
   refine (HE1.out _).mono ?_
   rintro e w' ⟨rfl,hb⟩
   exact ⟨_,rfl,HR.out _ _ (by simp [sayAt,Say.holds]) hb (by simp [sayAt,Say.isBlk])⟩
  case refine_10 =>
   go_simp
   refine (HE2.out _).mono ?_
   rintro e w' ⟨rfl,hb⟩
   exact ⟨_,rfl,HR.out _ _ (by simp [sayAt,Say.holds]) hb (by simp [sayAt,Say.isBlk])⟩
  all_goals
   go_simp
   first
    | exact HR.out _ _ (by simp [sayAt,Say.holds]) (Below.refl _ _) (by simp [sayAt,Say.isBlk])
    | trace_state
 case last =>
  intro vs W hI hb hg hd
  have g:=hg 10 (by omega)
  simp only [sayAt,Say.holds,List.getD_cons_succ,List.getD_cons_zero] at g
  simp only [List.take_succ_cons,List.take_zero,List.drop_succ_cons,List.drop_zero,putAll,Act.put,List.setIfInBounds_toArray,List.set_cons_succ,List.set_cons_zero,Nat.zero_add,Nat.reduceAdd]
  rw [g]
  have HB2:=Lib.hid hb
  clear g hg hd hb hI
  go_wp2_with fail
  go_ret
  exact ⟨by rw [HHB.out];rfl,HB2.out⟩
end Rd
end Go.Proofs.YtmidncclndongaaGreat
