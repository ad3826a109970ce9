/- Parts of the proof, joined: SuDone2, RlHead, RlSec, RlRead, RlNew; their conditions stand with each. -/
import Derived.Test.YtlfkhlfkckfbpaaGreatC11

set_option maxRecDepth 20000
set_option maxHeartbeats 8000000
namespace Go.Proofs.YtlfkhlfkckfbpaaGreat
namespace Su
open Go.RowKit Bk
attribute [local go_sem ↓] Go.wp_at_zero Go.wp_at_succ
attribute [local go_sem] floatUpon pick
theorem of_any (A:Option Addr) (c:Nat) (l:List ByteArray) (w:World) (h:StrsAt w A l) (hn:l.length ≤ 9223372036854775807) (hs:(catL l).length ≤ 9223372036854775807) :
  Calls Tryz.prog 173 #[.slice A l.length c] w fun e w'=>e = .returned (.int .i64 ((crc (catL l):Nat):Int)) ∧ w' = w:=by
 have HA:=Lib.hid h
 clear h
 go_enter Tryz.func173,Tryz.ntmps173
 go_wp2_with fail
 go_loopw [3,8] (fun x i wr=>∃ j:Nat,j ≤ l.length ∧ i = .int .i64 (j:Int) ∧ x = .int .u32 ((reg 4294967295 (catL (l.take j)):Nat):Int) ∧ wr = w) (fun _ i _=>l.length - (intOf i).toNat)
 case atStart=>exact ⟨0,by omega,rfl,rfl,rfl⟩
 case round =>
  obtain ⟨j,hj,rfl,rfl,rfl⟩:=hrel
  have hr:=reg_lt (x:=4294967295) (by omega) (catL (l.take j))
  by_cases hlt:j < l.length
  ·have pj:(j:Int) < (l.length:Int):=by omega
   obtain ⟨ad,rfl,hab,hcl⟩:=HA.out (by omega)
   have x1:=hcl j hlt
   have hz:=catL_le l (j + 1)
   have hz2:l[j].data.toList.length = l[j].size:=Array.length_toList
   have hct:=catL_take l j hlt
   rw [hct,List.length_append,hz2] at hz
   have hst:reg 4294967295 (catL (l.take (j + 1))) = reg (reg 4294967295 (catL (l.take j))) l[j].data.toList:=by rw [hct,reg_append]
   have HO:=Lib.hid (fun W=>over_any (reg 4294967295 (catL (l.take j))) l[j] W hr (by omega))
   rw [← hst] at HO
   clear hst hct hcl
   generalize reg 4294967295 (catL (l.take j)) = z at hr HO ⊢
   generalize l[j] = s at x1 HO hz hz2
   clear hz hz2
   go_wp2_with fail
   refine (HO.out _).mono ?_
   rintro e w' ⟨rfl,rfl⟩
   go_wp2_with fail
   go_roundw
   case rel=>exact ⟨j + 1,by omega,by go_num,rfl,trivial⟩
   case measure=>simp [intOf];omega
  ·obtain rfl:j = l.length:=by omega
   rw [List.take_of_length_le (Nat.le_refl _)] at hr ⊢
   have hx:=u32_xor_nat (reg 4294967295 (catL l)) 4294967295 hr (by omega)
   have hcl:=crc_lt (catL l)
   have hc:reg 4294967295 (catL l) ^^^ 4294967295 = crc (catL l):=rfl
   rw [hc] at hx
   clear hc
   generalize reg 4294967295 (catL l) = x at hr hx ⊢
   obtain ⟨C,hC⟩:∃ C,C = crc (catL l):=⟨_,rfl⟩
   rw [← hC] at hx hcl
   have hx':bits .xor .u32 (x:Int) 4294967295 = (C:Int):=hx
   have HC:=Lib.hid hC
   clear hx hC
   go_wp2_with fail
   go_ret
   exact ⟨by rw [← HC.out];rfl,rfl⟩
theorem byte_set (L:List UInt8) (j:Nat) (h:j < L.length):(Lib.byteCells L)[j]? = some (.int .u8 ((L[j].toNat:Nat):Int)):=by
 unfold Lib.byteCells
 rw [List.getElem?_map,List.getElem?_eq_getElem h];rfl
theorem le_at:∀ (k n i:Nat),i < k → (le k n)[i]? = some (UInt8.ofNat (n / 256 ^ i % 256))
 | 0,_,_,h=>absurd h (by omega)
 | k + 1,n,0,_=>by simp [le]
 | k + 1,n,i + 1,h=>by
  show (le k (n / 256))[i]? = _
  rw [le_at k (n / 256) i (by omega),Nat.div_div_eq_div_mul,Nat.pow_succ,Nat.mul_comm 256]
theorem low_any (n k:Nat) (w:World) (_hn:n ≤ 9223372036854775807) (h1:1 ≤ k) (hk:k ≤ 7) :
  Calls Tryz.prog 181 #[.int .i64 (k:Int),.int .i64 (n:Int)] w fun e w'=>e = .returned (.string ⟨(le k n).toArray⟩) ∧ Below w.heap.size w w':=by
 obtain ⟨i0,hi,hz0,hz1,hz2⟩:=info_parts Tryz.infoU8
 have hV:(Lib.byteCells (le k n)).length = k:=by rw [Lib.byteCells_length,le_length]
 go_enter Tryz.func181,Tryz.ntmps181
 go_wp2_with (at_make;refine wpList_make_full _ rfl (.tmp 7) (.tmp 7) 41 rfl w.heap.size 5 i0 (.int .u8 0) 1 Tryz.underlying41 hi hz0 hz1 .i64 .i64 _ _ k rfl rfl rfl rfl (by rw [hz2];omega) (by unfold maxLen;omega) (by simp) ?_;intro w2 hown hgrow)
 have hown0:w2.ownsRow w.heap.size 5 1 (.slice (some ⟨w.heap.size,0,none⟩) k k) k (preV (Lib.byteCells (le k n)) (.int .u8 0) 0):=by
  rw [preV_zero (Lib.byteCells (le k n)) (.int .u8 0) k hV rfl] at hown;exact hown
 have hbel0:Below w.heap.size w w2:=(Below.refl _ _).grown hgrow (Nat.le_refl _) (fun k hk=>by cases hk)
 have HV:=Lib.hid hV
 clear hown hgrow hV
 go_loopw [11] (fun i wr=>∃ j:Nat,j ≤ k ∧ i = .int .i64 (j:Int) ∧ Hid (wr.ownsRow w.heap.size 5 1 (.slice (some ⟨w.heap.size,0,none⟩) k k) k (preV (Lib.byteCells (le k n)) (.int .u8 0) j)) ∧ Hid (Below w.heap.size w wr)) (fun i _=>k - (intOf i).toNat)
 case atStart=>exact ⟨0,by omega,rfl,hown0,hbel0⟩
 case round =>
  obtain ⟨j,hj,rfl,hown,hbel⟩:=hrel
  clear hown0 hbel0
  by_cases hlt:j < k
  ·have hat:(Lib.byteCells (le k n))[j]? = some (.int .u8 ((n / 256 ^ j % 256:Nat):Int)):=by
    have h:=le_at k n j hlt
    obtain ⟨hl,he⟩:=List.getElem?_eq_some_iff.1 h
    rw [byte_set _ _ hl,he,UInt8.toNat_ofNat_of_lt' (by show n / 256 ^ j % 256 < 256;omega)]
   obtain ⟨v,hv⟩:=preV_at (Lib.byteCells (le k n)) (.int .u8 0) j j (by rw [HV.out];omega) (by rw [HV.out];omega)
   have hcell:=(hown.out.cellAt j (by omega)).trans hv
   have hfro:=hown.out.frozenAt j
   have R:=hown.out.stored j (.int .u8 (((n / 256 ^ j % 256:Nat):Nat):Int))
   rw [preV_set (Lib.byteCells (le k n)) (.int .u8 0) _ j (by rw [HV.out];omega) hat] at R
   have HR:=Lib.hid R.1
   have pj:(j:Int) < (k:Int):=by omega
   have hsh:(n:Int) / 2 ^ (8 * (j:Int)).toNat = ((n / 256 ^ j:Nat):Int):=by
    rw [show (8 * (j:Int)).toNat = 8 * j by omega,pow256,Int.natCast_ediv,Int.natCast_pow];rfl
   have hcv:IntKind.u8.wrap ((n / 256 ^ j:Nat):Int) = ((n / 256 ^ j % 256:Nat):Int):=by
    simp [IntKind.wrap,IntKind.bits,IntKind.signed]
   generalize n / 256 ^ j % 256 = b at hcv HR hat
   generalize n / 256 ^ j = q at hsh hcv
   clear hv R hat
   go_wp2_with fail
   go_roundw
   case rel=>exact ⟨j + 1,by omega,by go_num,HR.out,hbel.out.setCell (Nat.le_refl _) _⟩
   case measure=>simp [intOf];omega
  ·obtain rfl:j = k:=by omega
   have hown':=hown.out
   have e:preV (Lib.byteCells (le j n)) (.int .u8 0) j = Lib.byteCells (le j n):=by
    have h2:=preV_end (Lib.byteCells (le j n)) (.int .u8 0)
    rw [HV.out] at h2
    exact h2
   rw [e] at hown'
   have hcv:=own_bytes hown' (le_length j n).symm 0 j j (by rw [le_length];omega)
   rw [List.drop_zero,List.take_of_length_le (by rw [le_length];exact Nat.le_refl _)] at hcv
   have HB:=Lib.hid hbel.out
   clear hown' hown e hbel
   go_wp2_with fail
   go_ret
   exact ⟨rfl,HB.out⟩
theorem i64_or_nat (a b:Nat) (ha:a < 9223372036854775808) (hb:b < 9223372036854775808):bits .or .i64 (a:Int) (b:Int) = ((a ||| b:Nat):Int):=by
 have hx:a ||| b < 2 ^ 63:=Nat.or_lt_two_pow (by omega) (by omega)
 show IntKind.i64.wrap ((BitVec.ofInt 64 (a:Int) ||| BitVec.ofInt 64 (b:Int)).toNat:Int) = _
 rw [BitVec.toNat_or,ofInt_i64 a ha,ofInt_i64 b hb,i64_wrap (by omega) (by omega)]
theorem num_take (L:List UInt8) (j:Nat) (h:j < L.length):num (L.take (j + 1)) = num (L.take j) + 256 ^ j * L[j].toNat:=by
 rw [List.take_add_one,List.getElem?_eq_getElem h,num_append,List.length_take,Nat.min_eq_left (Nat.le_of_lt h)]
 simp [num]
theorem number_any (s:ByteArray) (w:World) (hk:s.size ≤ 7) :
  Calls Tryz.prog 172 #[.string s] w fun e w'=>e = .returned (.int .i64 ((num s.data.toList:Nat):Int)) ∧ w' = w:=by
 have hb:(s.size:Int) ≤ 7:=by omega
 go_enter Tryz.func172,Tryz.ntmps172
 go_wp2_with fail
 go_loopw [3,7] (fun x i wr=>∃ j:Nat,j ≤ s.size ∧ i = .int .i64 (j:Int) ∧ x = .int .i64 ((num (s.data.toList.take j):Nat):Int) ∧ wr = w) (fun _ i _=>s.size - (intOf i).toNat)
 case atStart=>exact ⟨0,by omega,rfl,rfl,rfl⟩
 case round =>
  obtain ⟨j,hj,rfl,rfl,rfl⟩:=hrel
  by_cases hlt:j < s.size
  ·have pj:(j:Int) < (s.size:Int):=by omega
   have hlen:j < s.data.toList.length:=by rw [Array.length_toList];exact hlt
   have hstep:=num_take s.data.toList j hlen
   rw [Array.getElem_toList] at hstep
   have hl:=num_lt (s.data.toList.take j)
   rw [List.length_take,Nat.min_eq_left (Nat.le_of_lt hlen)] at hl
   have hb8:(s[j]'hlt).toNat < 256:=(s[j]'hlt).toNat_lt
   have hst2:num (s.data.toList.take (j + 1)) = num (s.data.toList.take j) + 256 ^ j * (s[j]'hlt).toNat:=hstep
   generalize hbv:(s[j]'hlt).toNat = b at hb8 hst2
   have hix:∀ W,(Instr.index 9 (.string s) (.int .i64 (j:Int))).run Tryz.prog W = .ok (.int .u8 (b:Int)) W:=fun W=>by
    rw [run_index_string W 9 s .i64 _ Tryz.underlying9,dif_pos (by omega)]
    simp only [Int.toNat_natCast,hbv]
   have hp:256 ^ j ≤ 256 ^ 6:=Nat.pow_le_pow_right (by omega) (by omega)
   have hm:256 ^ j * b ≤ 256 ^ 6 * 255:=Nat.mul_le_mul hp (by omega)
   have hjn:num (s.data.toList.take j) ||| 256 ^ j * b = num (s.data.toList.take (j + 1)):=by
    rw [Nat.or_comm,nat_join (8 * j) (256 ^ j * b) _ (by rw [pow256];exact Nat.mul_mod_right _ _) (by rw [← pow256];exact hl),hst2]
    omega
   have hor:=i64_or_nat (num (s.data.toList.take j)) (256 ^ j * b) (by omega) (by omega)
   rw [hjn] at hor
   have hshl:(b:Int) * 2 ^ (8 * (j:Int)).toNat = ((256 ^ j * b:Nat):Int):=by
    rw [show (8 * (j:Int)).toNat = 8 * j by omega,Nat.mul_comm (256 ^ j),Int.natCast_mul,pow256,Int.natCast_pow];rfl
   have hwr:IntKind.i64.wrap ((256 ^ j * b:Nat):Int) = ((256 ^ j * b:Nat):Int):=i64_wrap (by omega) (by omega)
   obtain ⟨y,hy⟩:∃ y,y = num (s.data.toList.take (j + 1)):=⟨_,rfl⟩
   rw [← hy] at hor
   have HY:=Lib.hid hy
   generalize num (s.data.toList.take j) = x at hor
   generalize 256 ^ j * b = m at hor hshl hwr
   clear hstep hst2 hl hbv hjn hp hm hlen hy
   go_wp2_with fail
   go_roundw
   case rel=>exact ⟨j + 1,by omega,by go_num,by rw [HY.out],trivial⟩
   case measure=>simp [intOf];omega
  ·obtain rfl:j = s.size:=by omega
   have hc:s.data.toList.take s.size = s.data.toList:=List.take_of_length_le (by rw [Array.length_toList];exact Nat.le_refl _)
   rw [hc]
   clear hc
   go_wp2_with fail
   go_ret
   exact ⟨rfl,rfl⟩
end Su
end Go.Proofs.YtlfkhlfkckfbpaaGreat
namespace Go.Proofs.YtlfkhlfkckfbpaaGreat
namespace Rd
open Go.RowKit Sc Bk
attribute [local go_sem ↓] Go.wp_at_zero Go.wp_at_succ
attribute [local go_sem] floatUpon pick
theorem be_at (n:Nat):∀ (k i:Nat),i < k → (be n k)[i]? = some (UInt8.ofNat (n / 256 ^ (7 - i) % 256)):=fun k i h=>by
 unfold be
 rw [List.getElem?_map,List.getElem?_range h];rfl
theorem high_any (n:Nat) (w:World) (_hn:n ≤ 9223372036854775807) :
  Calls Tryz.prog 168 #[.int .i64 (n:Int)] w fun e w'=>e = .returned (.string ⟨(be8 n).toArray⟩) ∧ Below w.heap.size w w':=by
 obtain ⟨i0,hi,hz0,hz1,hz2⟩:=info_parts Tryz.infoU8
 have hV:(Lib.byteCells (be8 n)).length = 8:=by rw [Lib.byteCells_length,be8_len]
 go_enter Tryz.func168,Tryz.ntmps168
 go_wp2_with (at_make;refine wpList_make_full _ rfl _ _ 41 rfl w.heap.size 5 i0 (.int .u8 0) 1 Tryz.underlying41 hi hz0 hz1 .i64 .i64 _ _ 8 rfl rfl rfl rfl (by rw [hz2];omega) (by unfold maxLen;omega) (by simp) ?_;intro w2 hown hgrow)
 have hown0:w2.ownsRow w.heap.size 5 1 (.slice (some ⟨w.heap.size,0,none⟩) 8 8) 8 (preV (Lib.byteCells (be8 n)) (.int .u8 0) 0):=by
  rw [preV_zero (Lib.byteCells (be8 n)) (.int .u8 0) 8 hV rfl] at hown;exact hown
 have hbel0:Below w.heap.size w w2:=(Below.refl _ _).grown hgrow (Nat.le_refl _) (fun k hk=>by cases hk)
 have HV:=Lib.hid hV
 clear hown hgrow hV
 go_wp2_with fail
 go_loopw [8] (fun i wr=>∃ j:Nat,j ≤ 8 ∧ i = .int .i64 (j:Int) ∧ Hid (wr.ownsRow w.heap.size 5 1 (.slice (some ⟨w.heap.size,0,none⟩) 8 8) 8 (preV (Lib.byteCells (be8 n)) (.int .u8 0) j)) ∧ Hid (Below w.heap.size w wr)) (fun i _=>8 - (intOf i).toNat)
 case atStart=>exact ⟨0,by omega,rfl,hown0,hbel0⟩
 case round =>
  obtain ⟨j,hj,rfl,hown,hbel⟩:=hrel
  clear hown0 hbel0
  by_cases hlt:j < 8
  ·have hat:(Lib.byteCells (be8 n))[j]? = some (.int .u8 ((n / 256 ^ (7 - j) % 256:Nat):Int)):=by
    have h:(be8 n)[j]? = some (UInt8.ofNat (n / 256 ^ (7 - j) % 256)):=be_at n 8 j hlt
    obtain ⟨hl,he⟩:=List.getElem?_eq_some_iff.1 h
    have h2:=Su.byte_set (be8 n) j hl
    rw [h2,he,UInt8.toNat_ofNat_of_lt' (by show n / 256 ^ (7 - j) % 256 < 256;omega)]
   obtain ⟨v,hv⟩:=preV_at (Lib.byteCells (be8 n)) (.int .u8 0) j j (by rw [HV.out];omega) (by rw [HV.out];omega)
   have hcell:=(hown.out.cellAt j (by omega)).trans hv
   have hfro:=hown.out.frozenAt j
   have R:=hown.out.stored j (.int .u8 (((n / 256 ^ (7 - j) % 256:Nat):Nat):Int))
   rw [preV_set (Lib.byteCells (be8 n)) (.int .u8 0) _ j (by rw [HV.out];omega) hat] at R
   have HR:=Lib.hid R.1
   have pj:(j:Int) < 8:=by omega
   have hsh:(n:Int) / 2 ^ (56 - 8 * (j:Int)).toNat = ((n / 256 ^ (7 - j):Nat):Int):=by
    rw [show (56 - 8 * (j:Int)).toNat = 8 * (7 - j) by omega,Su.pow256,Int.natCast_ediv,Int.natCast_pow];rfl
   have hcv:IntKind.u8.wrap ((n / 256 ^ (7 - j):Nat):Int) = ((n / 256 ^ (7 - j) % 256:Nat):Int):=by
    simp [IntKind.wrap,IntKind.bits,IntKind.signed]
   generalize n / 256 ^ (7 - j) % 256 = b at hcv HR hat
   generalize n / 256 ^ (7 - j) = q at hsh hcv
   clear hv R hat
   go_wp2_with fail
   go_roundw
   case rel=>exact ⟨j + 1,by omega,by go_num,HR.out,hbel.out.setCell (Nat.le_refl _) _⟩
   case measure=>simp [intOf];omega
  ·obtain rfl:j = 8:=by omega
   have hown':=hown.out
   have e:preV (Lib.byteCells (be8 n)) (.int .u8 0) 8 = Lib.byteCells (be8 n):=by
    have h2:=preV_end (Lib.byteCells (be8 n)) (.int .u8 0)
    rw [HV.out] at h2
    exact h2
   rw [e] at hown'
   have hcv:=own_bytes hown' (be8_len n).symm 0 8 8 (by rw [be8_len];omega)
   rw [List.drop_zero,List.take_of_length_le (by rw [be8_len];exact Nat.le_refl _)] at hcv
   have HB:=Lib.hid hbel.out
   clear hown' hown e hbel
   go_wp2_with fail
   go_ret
   exact ⟨rfl,HB.out⟩
theorem u64_or_nat (a b:Nat) (ha:a < 18446744073709551616) (hb:b < 18446744073709551616):bits .or .u64 (a:Int) (b:Int) = ((a ||| b:Nat):Int):=by
 have hx:a ||| b < 2 ^ 64:=Nat.or_lt_two_pow (by omega) (by omega)
 have h1:∀ x:Nat,x < 18446744073709551616 → (BitVec.ofInt 64 (x:Int)).toNat = x:=fun x hx=>by
  rw [BitVec.toNat_ofInt];omega
 show IntKind.u64.wrap ((BitVec.ofInt 64 (a:Int) ||| BitVec.ofInt 64 (b:Int)).toNat:Int) = _
 rw [BitVec.toNat_or,h1 a ha,h1 b hb]
 simp only [IntKind.wrap,IntKind.bits,IntKind.signed];simp;omega
theorem numB_step (L:List UInt8) {j:Nat} (h:j < L.length):numB (L.take (j + 1)) = numB (L.take j) * 256 + L[j].toNat:=by
 rw [List.take_add_one,List.getElem?_eq_getElem h];exact numB_snoc _ _
theorem lnumber_any (s:ByteArray) (w:World) (hs:s.size = 8) :
  Calls Tryz.prog 165 #[.string s] w fun e w'=>e = .returned (.int .u64 (numB s.data.toList:Int)) ∧ w' = w:=by
 have hl:s.data.toList.length = 8:=by rw [Array.length_toList];exact hs
 go_enter Tryz.func165,Tryz.ntmps165
 go_wp2_with fail
 go_loopw [3,7] (fun u c wr=>∃ i:Nat,i ≤ 8 ∧ u = .int .u64 (numB (s.data.toList.take i):Int) ∧ c = .int .i64 (i:Int) ∧ wr = w) (fun _ c _=>8 - (intOf c).toNat)
 case atStart=>exact ⟨0,by omega,rfl,rfl,rfl⟩
 case round =>
  obtain ⟨i,hi,rfl,rfl,rfl⟩:=hrel
  by_cases hlt:i < 8
  ·have pi:(i:Int) < 8:=by omega
   have hil:i < s.data.toList.length:=by omega
   have hix:=fun W=>str_at s i _ (List.getElem?_eq_getElem hil) (i:Int) rfl W
   have hst:=numB_step s.data.toList hil
   have hb:=(s.data.toList[i]'hil).toNat_lt
   have hk:=numB_lt i (s.data.toList.take i) (by rw [List.length_take];omega)
   have hk2:numB (s.data.toList.take i) < 72057594037927936:=Nat.lt_of_lt_of_le hk (by have:256 ^ i ≤ 256 ^ 7:=Nat.pow_le_pow_right (by omega) (by omega);omega)
   generalize (s.data.toList[i]'hil).toNat = b at hix hst hb
   have hor:bits .or .u64 ((numB (s.data.toList.take i):Int) * 256) (b:Int) = (numB (s.data.toList.take (i + 1)):Int):=by
    have e:=u64_or_nat (numB (s.data.toList.take i) * 256) b (by omega) (by omega)
    rw [Int.natCast_mul] at e
    have e2:=Nat.two_pow_add_eq_or_of_lt (i:=8) (show b < 2 ^ 8 by omega) (numB (s.data.toList.take i))
    rw [hst]
    refine e.trans ?_
    rw [show numB (s.data.toList.take i) * 256 = 2 ^ 8 * numB (s.data.toList.take i) by omega,← e2]
   have HOR:=Lib.hid hor
   generalize hz:numB (s.data.toList.take i) = z at hk2 HOR
   clear hk hor hst hz
   go_wp2_with fail
   go_roundw
   case rel=>exact ⟨i + 1,by omega,by rw [HOR.out],by go_num,trivial⟩
   case measure=>simp [intOf];omega
  ·obtain rfl:i = 8:=by omega
   rw [List.take_of_length_le (by omega)]
   go_wp2_with fail
   go_ret
   exact ⟨rfl,rfl⟩
def RepTxt:Prop:=∀ (s:ByteArray) (c:Nat) (w:World),c ≤ 1000 → s.size ≤ 1000 → Calls Tryz.prog 169 #[.string s,.int .i64 (c:Int)] w fun e w'=>e = .returned (.string ⟨(List.replicate c s.data.toList).flatten.toArray⟩) ∧ Below w.heap.size w w'
def hdV (c a n:Nat):Value:=.agg #[.int .i64 (c:Int),.int .i64 (a:Int),.int .i64 (n:Int)]
theorem sec_any (HRt:RepTxt) (c a l:Nat) (w:World) (hc:c ≤ 9223372036854775807) (ha:a ≤ 1) (hl:l ≤ 9223372036854775807) :
  Calls Tryz.prog 112 #[hdV c a l] w fun e w'=>e = .returned (.string (headB c a l)) ∧ Below w.heap.size w w':=by
 have HE1:=Lib.hid (fun W=>high_any c W hc)
 have HE2:=Lib.hid (fun W=>high_any l W hl)
 obtain ⟨b,hb⟩:∃ b,b = UInt8.ofNat (a % 256):=⟨_,rfl⟩
 have hbt:b.toNat = a:=by rw [hb,UInt8.toNat_ofNat_of_lt' (by show a % 256 < 256;omega)];omega
 have hcv:IntKind.u8.wrap (a:Int) = (b.toNat:Int):=by
  rw [hbt];simp [IntKind.wrap,IntKind.bits,IntKind.signed];omega
 have l1:=be8_len c
 have l2:=be8_len l
 have a1:=list_sum [82,69,68,79] (be8 c) (by rw [l1];decide)
 have a2:=list_sum ([82,69,68,79] ++ be8 c) [b] (by rw [List.length_append,l1];show 4 + 8 + 1 ≤ 1000;decide)
 have a3:=list_sum (([82,69,68,79] ++ be8 c) ++ [b]) (be8 l) (by rw [List.length_append,List.length_append,l1,l2];show 4 + 8 + 1 + 8 ≤ 1000;decide)
 have hP:(([82,69,68,79] ++ be8 c) ++ [b]) ++ be8 l = headP c a l:=by rw [hb];rfl
 rw [hP] at a3
 have l3:=headP_len c a l
 have hRt:=HRt ⟨(headP c a l).toArray⟩ 3
 have eR:(List.replicate 3 (⟨(headP c a l).toArray⟩:ByteArray).data.toList).flatten = (headP c a l ++ headP c a l) ++ headP c a l:=by
  show (List.replicate 3 (headP c a l)).flatten = _
  simp [List.replicate,List.append_assoc]
 rw [eR] at hRt
 have HRp:=Lib.hid (fun W=>hRt W (by omega) (by rw [text_size,l3];omega))
 have a6:=list_sum ((headP c a l ++ headP c a l) ++ headP c a l) [0] (by rw [List.length_append,List.length_append,l3];decide)
 rw [show ((headP c a l ++ headP c a l) ++ headP c a l) ++ [0] = headL c a l from rfl] at a6
 have HHB:=Lib.hid (show headB c a l = ⟨(headL c a l).toArray⟩ from rfl)
 generalize headB c a l = HB at HHB ⊢
 have HBk:=Lib.hid (fun (W:World) (p:Nat) (h:W.heap[p]? = some (.cells #[.int .u8 (b.toNat:Int)] 5 (0,0)))=>back_one h)
 clear l1 l2 l3 hb hbt hP hRt eR HRt
 have hR:(⟨([82,69,68,79]:List UInt8).toArray⟩:ByteArray) = ⟨#[82,69,68,79]⟩:=rfl
 have hZ:(⟨([0]:List UInt8).toArray⟩:ByteArray) = ⟨#[0]⟩:=rfl
 rw [hR] at a1
 rw [hZ] at a6
 clear hR hZ
 generalize (⟨(headL c a l).toArray⟩:ByteArray) = X6 at HHB a6
 generalize (⟨((headP c a l ++ headP c a l) ++ headP c a l).toArray⟩:ByteArray) = X5 at HRp a6
 generalize (⟨(headP c a l).toArray⟩:ByteArray) = X3 at a3 HRp
 generalize (⟨(([82,69,68,79] ++ be8 c) ++ [b]).toArray⟩:ByteArray) = X2 at a2 a3
 generalize (⟨([82,69,68,79] ++ be8 c).toArray⟩:ByteArray) = X1 at a1 a2
 generalize (⟨(be8 c).toArray⟩:ByteArray) = E1 at HE1 a1
 generalize (⟨(be8 l).toArray⟩:ByteArray) = E2 at HE2 a3
 generalize (⟨[b].toArray⟩:ByteArray) = B1 at a2 HBk
 generalize b.toNat = bt at hcv HBk
 have hal:Below w.heap.size w (w.alloc (.cells #[.int .i64 (c:Int),.int .i64 (a:Int),.int .i64 (l:Int)] 115)):=(Below.refl _ w).alloc (Nat.le_refl _) _
 have hcb:Cel (w.alloc (.cells #[.int .i64 (c:Int),.int .i64 (a:Int),.int .i64 (l:Int)] 115)) w.heap.size 115 [.int .i64 (c:Int),.int .i64 (a:Int),.int .i64 (l:Int)]:=(blk1 w _).2
 unfold hdV
 go_enter Tryz.func112,Tryz.ntmps112
 go_upto_region 1 with fail
 generalize w.alloc (.cells #[.int .i64 (c:Int),.int .i64 (a:Int),.int .i64 (l:Int)] 115) = W1 at *
 have HB1:=Lib.hid hal
 have HC1:=Lib.hid hcb
 have hlt:=hcb.lt
 clear hal hcb
 generalize hk:w.heap.size = k at HC1 hlt ⊢
 refine wp_region_said 15 [4,5,6,7,8,9,10,11,12,13,14,15,16,17,3]
  [.is (.pointer (some ⟨k,0,none⟩)),.is (.int .i64 (c:Int)),.is (.string E1),.is (.string X1),.is (.pointer (some ⟨k,1,none⟩)),.is (.int .i64 (a:Int)),.is (.int .u8 (bt:Int)),.arr 5 #[.int .u8 (bt:Int)] 1 1,.is (.string B1),.is (.string X2),.is (.pointer (some ⟨k,2,none⟩)),.is (.int .i64 (l:Int)),.is (.string E2),.is (.string X3),.is (.string X3)]
  (fun W=>Cel W k 115 [.int .i64 (c:Int),.int .i64 (a:Int),.int .i64 (l:Int)]) (by kernel_rfl) (by kernel_rfl) (by kernel_rfl) (by kernel_rfl) (by kernel_rfl) (fun _ _ h hb=>h.below hb) HC1.out ?steps ?last
 case steps =>
  simp only [List.take_succ_cons,List.take_zero]
  refine ⟨?_,?_,?_,?_,?_,?_,?_,?_,?_,?_,?_,?_,?_,?_,?_,trivial⟩
  all_goals
   intro vs W ρ hρ hc hf hg hI hH hd R' hR
   have z0:=hI.cell (i:=0) rfl
   have z1:=hI.cell (i:=1) rfl
   have z2:=hI.cell (i:=2) rfl
   have HR:=Lib.hid hR
   simp [depsOf,Region.binds,sayAt,Say.holds] at hd
   clear hR hI
  case refine_8 =>
   go_simp
   exact HR.out _ _ ⟨W.heap.size,hH,by simp,rfl,heap_alloc_new W _⟩ ((Below.refl _ _).alloc (Nat.le_refl _) _) (fun h=>by cases h)
  case refine_9 =>
   obtain ⟨p,hp1,hp2,hp3,hp4⟩:=hd
   have hbk:=HBk.out _ p hp4
   go_simp
   exact HR.out _ _ (by simp [sayAt,Say.holds]) (Below.refl _ _) (by simp [sayAt,Say.isBlk])
  case refine_3 =>
   go_simp
   refine (HE1.out _).mono ?_
   rintro e w' ⟨rfl,hb⟩
   exact ⟨_,rfl,HR.out _ _ (by simp [sayAt,Say.holds]) hb (by simp [sayAt,Say.isBlk])⟩
  case refine_13 =>
   go_simp
   refine (HE2.out _).mono ?_
   rintro e w' ⟨rfl,hb⟩
   exact ⟨_,rfl,HR.out _ _ (by simp [sayAt,Say.holds]) hb (by simp [sayAt,Say.isBlk])⟩
  all_goals
   go_simp
   first
    | exact HR.out _ _ (by simp [sayAt,Say.holds]) (Below.refl _ _) (by simp [sayAt,Say.isBlk])
    | trace_state
 case last =>
  intro vs W hI hb hg hd
  have g:=hg 14 (by omega)
  simp only [sayAt,Say.holds,List.getD_cons_succ,List.getD_cons_zero] at g
  simp only [List.take_succ_cons,List.take_zero,List.drop_succ_cons,List.drop_zero,putAll,Act.put,List.setIfInBounds_toArray,List.set_cons_succ,List.set_cons_zero,Nat.zero_add,Nat.reduceAdd]
  rw [g]
  have HB2:=Lib.hid (HB1.out.trans (hb.mono (by omega)))
  clear g hg hd hb hI
  go_wp2_with fail
  refine (HRp.out _).mono ?_
  rintro e w5 ⟨rfl,hb5⟩
  have HB5:=Lib.hid (HB2.out.trans (hb5.mono HB2.out.size))
  clear hb5
  go_wp2_with fail
  go_ret
  exact ⟨by rw [HHB.out];rfl,HB5.out⟩
def setH (W:World) (R:Nat) (v0 v1 v2:Value):World:=((W.setCell ⟨R,0,none⟩ v0).setCell ⟨R,1,none⟩ v1).setCell ⟨R,2,none⟩ v2
def setL (W:World) (R:Nat) (v0 v1 v2:Value):World:=((W.setCell ⟨R,1,none⟩ v0).setCell ⟨R,2,none⟩ v1).setCell ⟨R,3,none⟩ v2
section
variable {W w:World} {R H:Nat} {t:TypeId} {u0 u1 u2 v0 v1 v2:Value}
theorem setH_cel (h:Cel W R t [u0,u1,u2]):Cel (setH W R v0 v1 v2) R t [v0,v1,v2]:=((h.set (i:=0) (v:=v0)).set (i:=1) (v:=v1)).set (i:=2) (v:=v2)
theorem setH_below (h:Below H w W) (hR:H ≤ R):Below H w (setH W R v0 v1 v2) :=
 ((h.setCell (p:=⟨R,0,none⟩) hR v0).setCell (p:=⟨R,1,none⟩) hR v1).setCell (p:=⟨R,2,none⟩) hR v2
theorem setL_other {k:Nat} (h:k ≠ R):(setL W R v0 v1 v2).heap[k]? = W.heap[k]?:=by
 have e:∀ (W:World) (i:Nat) (v:Value),(W.setCell ⟨R,i,none⟩ v).heap[k]? = W.heap[k]?:=fun W i v=>Below.heap_setCell W ⟨R,i,none⟩ v k h
 unfold setL
 rw [e,e,e]
theorem setL_fr {F G:Nat → Prop} (h:Fr F G w W) (hR:F R):Fr F G w (setL W R v0 v1 v2) :=
 ((h.set (p:=⟨R,1,none⟩) hR v0).set (p:=⟨R,2,none⟩) hR v1).set (p:=⟨R,3,none⟩) hR v2
end
theorem rd_up {D:Dev} (hu:D.down = false) {i:Nat} (hi:i < D.on.length):rdV D (i:Int) = (flushF D i,0):=by
 unfold rdV flushF
 rw [if_neg (by rw [hu];decide),if_neg (by omega),Int.toNat_natCast]
theorem rd_down {D:Dev} (hu:D.down = true) (i:Int):rdV D i = (nil0,90):=by
 unfold rdV
 rw [if_pos hu]
def hd1 (D:Dev) (i:Nat):Nat × Nat × Nat :=
 if okH (areaN D) (flushF D i).data.toList then (cOf (flushF D i).data.toList,aOf (flushF D i).data.toList,lOf (flushF D i).data.toList) else (0,0,0)
def hdW (h:Nat × Nat × Nat):Value:=hdV h.1 h.2.1 h.2.2
section
variable {Rep:RepT} {w:World} {F:Nat → Prop} {p g c a n m mn:Nat} {A B:Value} {l:Lg} {D:Dev}
theorem read_none {W w:World} (hc:Cel W w.heap.size 115 [.int .i64 0,.int .i64 0,.int .i64 0]) (hb:Below w.heap.size w W) :
  Cel (setH W w.heap.size (.int .i64 0) (.int .i64 0) (.int .i64 0)) w.heap.size 115 [.int .i64 0,.int .i64 0,.int .i64 0] ∧ Below w.heap.size w (setH W w.heap.size (.int .i64 0) (.int .i64 0) (.int .i64 0)) :=
 ⟨setH_cel hc,setH_below hb (Nat.le_refl _)⟩
theorem readHead_down (H:DevQ Rep) (hr:Rep w F g D) (hc:LC w p g c a n A mn B) (hu:D.down = true) (i:Nat) (hi:i ≤ 1) :
  Calls Tryz.prog 110 #[.pointer (some ⟨p,0,none⟩),.int .i64 (i:Int)] w fun e w'=>e = .returned (.tuple #[hdV 0 0 0,.int .i64 90]) ∧ Below w.heap.size w w':=by
 have hal:Below w.heap.size w (w.alloc (.cells #[.int .i64 0,.int .i64 0,.int .i64 0] 115)):=(Below.refl _ w).alloc (Nat.le_refl _) _
 have hcb:Cel (w.alloc (.cells #[.int .i64 0,.int .i64 0,.int .i64 0] 115)) w.heap.size 115 [.int .i64 0,.int .i64 0,.int .i64 0]:=(blk1 w _).2
 have hr1:=H.step hr hal
 have hc1:=Cel.below hc hal
 go_enter Tryz.func110,Tryz.ntmps110
 go_upto_region 1 with fail
 generalize w.alloc (.cells #[.int .i64 0,.int .i64 0,.int .i64 0] 115) = W1 at *
 have HB1:=Lib.hid hal
 have HC1:=Lib.hid hcb
 have k0:=hc1.cell (i:=0) rfl
 have hrd:=H.read (i:Int) W1 hr1 ⟨by omega,by omega⟩
 rw [rd_down hu] at hrd
 have HRd:=Lib.hid hrd
 clear hal hcb hr1 hc1 hrd hr hc
 go_wp2_with fail
 refine HRd.out.mono ?_
 rintro e w2 ⟨rfl,hb⟩
 have HB2:=Lib.hid (HB1.out.trans (hb.mono HB1.out.size))
 have HC2:=Lib.hid (HC1.out.below hb)
 have zq:=fun i=>HC2.out.free (i:=i)
 have y0:=HC2.out.cell (i:=0) rfl
 have y1:=HC2.out.cell (i:=1) rfl
 have y2:=HC2.out.cell (i:=2) rfl
 clear hb
 go_wp2_with fail
 have HF:=setH_cel (v0:=.int .i64 0) (v1:=.int .i64 0) (v2:=.int .i64 0) HC2.out
 have z0:=HF.cell (i:=0) rfl
 have z1:=HF.cell (i:=1) rfl
 have z2:=HF.cell (i:=2) rfl
 unfold setH at z0 z1 z2
 exact bodyPost_ret (v:=.tuple #[hdV 0 0 0,.int .i64 90]) (by simp [results,Tryz.results110,go_sem,hdV,z0,z1,z2]) rfl ⟨rfl,setH_below HB2.out (Nat.le_refl _)⟩
theorem u64_wrap {x:Nat} (h:x < 18446744073709551616):IntKind.u64.wrap (x:Int) = (x:Int):=by
 simp only [IntKind.wrap,IntKind.bits,IntKind.signed];simp;omega
theorem readHead_up (HRt:RepTxt) (H:DevQ Rep) (hr:Rep w F g D) (hc:LC w p g c a n A mn B) (h4:4 ≤ D.on.length) (hu:D.down = false) (i:Nat) (hi:i ≤ 1) :
  Calls Tryz.prog 110 #[.pointer (some ⟨p,0,none⟩),.int .i64 (i:Int)] w fun e w'=>e = .returned (.tuple #[hdW (hd1 D i),.int .i64 0]) ∧ Below w.heap.size w w':=by
 have hal:Below w.heap.size w (w.alloc (.cells #[.int .i64 0,.int .i64 0,.int .i64 0] 115)):=(Below.refl _ w).alloc (Nat.le_refl _) _
 have hcb:Cel (w.alloc (.cells #[.int .i64 0,.int .i64 0,.int .i64 0] 115)) w.heap.size 115 [.int .i64 0,.int .i64 0,.int .i64 0]:=(blk1 w _).2
 have hr1:=H.step hr hal
 have hc1:=Cel.below hc hal
 have hok:=H.ok hr
 have hs64:=flush64 hok (show i < D.on.length by omega)
 have HSec:=Lib.hid (fun c a l W h1 h2 h3=>sec_any HRt c a l W h1 h2 h3)
 have hrd:=H.read (i:Int) (w.alloc (.cells #[.int .i64 0,.int .i64 0,.int .i64 0] 115)) hr1 ⟨by omega,by omega⟩
 rw [rd_up hu (by omega)] at hrd
 have HRd:=Lib.hid hrd
 have HM:=Lib.hid (fun W (h:Below (w.alloc (.cells #[.int .i64 0,.int .i64 0,.int .i64 0] 115)).heap.size (w.alloc (.cells #[.int .i64 0,.int .i64 0,.int .i64 0] 115)) W)=>most_any H (H.step hr1 h) (Cel.below hc1 h) h4)
 have hab:areaN D ≤ 65536:=by have:=hok.max;unfold areaN;omega
 have hOk:hd1 D i = if okH (areaN D) (flushF D i).data.toList then (cOf (flushF D i).data.toList,aOf (flushF D i).data.toList,lOf (flushF D i).data.toList) else (0,0,0):=rfl
 generalize hd1 D i = R at hOk ⊢
 generalize flushF D i = s at *
 have hsl:s.data.toList.length = 64:=by rw [Array.length_toList];exact hs64
 have hm1:=fun W=>str_mid s 4 12 (by omega) (by omega) 4 12 rfl rfl W
 have hm2:=fun W=>str_mid s 13 21 (by omega) (by omega) 13 21 rfl rfl W
 obtain ⟨b,hb⟩:∃ b,s.data.toList[12]? = some b:=⟨_,List.getElem?_eq_getElem (by omega)⟩
 have hix:=fun W=>str_at s 12 b hb 12 rfl W
 have hcl:cOf s.data.toList < 256 ^ 8:=numB_lt 8 _ (by rw [List.length_take,List.length_drop];omega)
 have hll:lOf s.data.toList < 256 ^ 8:=numB_lt 8 _ (by rw [List.length_take,List.length_drop];omega)
 have haO:aOf s.data.toList = b.toNat:=by unfold aOf;rw [List.getD_eq_getElem?_getD,hb];rfl
 have hn1:=fun W=>lnumber_any ⟨((s.data.toList.drop 4).take (12 - 4)).toArray⟩ W (by rw [text_size,List.length_take,List.length_drop];omega)
 have hn2:=fun W=>lnumber_any ⟨((s.data.toList.drop 13).take (21 - 13)).toArray⟩ W (by rw [text_size,List.length_take,List.length_drop];omega)
 have q1:numB ((⟨((s.data.toList.drop 4).take (12 - 4)).toArray⟩:ByteArray).data.toList) = cOf s.data.toList:=rfl
 have q2:numB ((⟨((s.data.toList.drop 13).take (21 - 13)).toArray⟩:ByteArray).data.toList) = lOf s.data.toList:=rfl
 rw [q1] at hn1
 rw [q2] at hn2
 have hO2:okH (areaN D) s.data.toList ↔ 1 ≤ cOf s.data.toList ∧ cOf s.data.toList ≤ 4611686018427387904 ∧ aOf s.data.toList ≤ 1 ∧ lOf s.data.toList ≤ areaN D ∧ s = headB (cOf s.data.toList) (aOf s.data.toList) (lOf s.data.toList):=by
  unfold okH
  have:s.data.toList = headL (cOf s.data.toList) (aOf s.data.toList) (lOf s.data.toList) ↔ s = headB (cOf s.data.toList) (aOf s.data.toList) (lOf s.data.toList):=by
   constructor
   ·intro e
    unfold headB
    apply ByteArray.ext
    apply Array.toList_inj.1
    simpa using e
   ·intro e
    have:=congrArg (fun t:ByteArray=>t.data.toList) e
    simpa [headB] using this
  rw [this]
 have hbl:=b.toNat_lt
 have hb8:=u8_i64 b
 rw [haO] at hO2 hOk
 have HNo:=Lib.hid (show ¬ (1 ≤ cOf s.data.toList ∧ cOf s.data.toList ≤ 4611686018427387904 ∧ b.toNat ≤ 1 ∧ lOf s.data.toList ≤ areaN D ∧ s = headB (cOf s.data.toList) b.toNat (lOf s.data.toList)) → R = (0,0,0) from fun h=>by rw [hOk,if_neg (fun h'=>h (hO2.1 h'))])
 have HYes:=Lib.hid (show (1 ≤ cOf s.data.toList ∧ cOf s.data.toList ≤ 4611686018427387904 ∧ b.toNat ≤ 1 ∧ lOf s.data.toList ≤ areaN D ∧ s = headB (cOf s.data.toList) b.toNat (lOf s.data.toList)) → R = (cOf s.data.toList,b.toNat,lOf s.data.toList) from fun h=>by rw [hOk,if_pos (hO2.2 h)])
 have HN1:=Lib.hid hn1
 have HN2:=Lib.hid hn2
 clear hn1 hn2 q1 q2 hb haO hOk hO2 hs64 hsl hok hrd
 generalize cOf s.data.toList = cc at *
 generalize lOf s.data.toList = ll at *
 generalize (⟨((s.data.toList.drop 4).take (12 - 4)).toArray⟩:ByteArray) = S1 at hm1 HN1
 generalize (⟨((s.data.toList.drop 13).take (21 - 13)).toArray⟩:ByteArray) = S2 at hm2 HN2
 generalize areaN D = ab at *
 have wab:=u64_wrap (x:=ab) (by omega)
 have hcl2:cc < 18446744073709551616:=hcl
 have hll2:ll < 18446744073709551616:=hll
 have hbl2:b.toNat ≤ 255:=by omega
 have HMm:=Lib.hid (And.intro hm1 (And.intro hm2 (And.intro hix hb8)))
 have hend:=fun (W:World) (h1:Cel W w.heap.size 115 [.int .i64 0,.int .i64 0,.int .i64 0]) (h2:Below w.heap.size w W)=>read_none h1 h2
 have HEnd:=Lib.hid hend
 clear hm1 hm2 hix hb8 hcl hll hend HRt hr hc
 go_enter Tryz.func110,Tryz.ntmps110
 go_upto_region 1 with fail
 generalize w.alloc (.cells #[.int .i64 0,.int .i64 0,.int .i64 0] 115) = W1 at *
 have HB1:=Lib.hid hal
 have HC1:=Lib.hid hcb
 have k0:=hc1.cell (i:=0) rfl
 clear hal hcb hr1 hc1
 go_wp2_with fail
 refine HRd.out.mono ?_
 rintro e w2 ⟨rfl,hb⟩
 have HB2:=Lib.hid (HB1.out.trans (hb.mono HB1.out.size))
 have HC2:=Lib.hid (HC1.out.below hb)
 have HW1:=Lib.hid hb
 clear hb k0
 go_upto_region 4 with fail
 refine wp_region_said 12 [25,26,27,28,29,30,31,32,33,8,9,10]
  [.is (.string s),.is (.string S1),.is (.int .u64 (cc:Int)),.is (.string s),.is (.int .u8 (b.toNat:Int)),.is (.int .i64 (b.toNat:Int)),.is (.string s),.is (.string S2),.is (.int .u64 (ll:Int)),.is (.int .u64 (cc:Int)),.is (.int .i64 (b.toNat:Int)),.is (.int .u64 (ll:Int))]
  (fun W=>Below w2.heap.size w2 W) (by kernel_rfl) (by kernel_rfl) (by kernel_rfl) (by kernel_rfl) (by kernel_rfl) (fun _ _ h hb=>h.trans (hb.mono h.size)) (Below.refl _ _) ?steps ?last
 case steps =>
  simp only [List.take_succ_cons,List.take_zero]
  refine ⟨?_,?_,?_,?_,?_,?_,?_,?_,?_,?_,?_,?_,trivial⟩
  all_goals
   intro vs W ρ hρ hc hf hg hI hH hd R' hR
   obtain ⟨hm1,hm2,hix,hb8⟩:=HMm.out
   have HR:=Lib.hid hR
   simp [depsOf,Region.binds,sayAt,Say.holds] at hd
   clear hR
  case refine_3 =>
   go_simp
   refine (HN1.out _).mono ?_
   rintro e w' ⟨rfl,rfl⟩
   exact ⟨_,rfl,HR.out _ _ (by simp [sayAt,Say.holds]) (Below.refl _ _) (by simp [sayAt,Say.isBlk])⟩
  case refine_9 =>
   go_simp
   refine (HN2.out _).mono ?_
   rintro e w' ⟨rfl,rfl⟩
   exact ⟨_,rfl,HR.out _ _ (by simp [sayAt,Say.holds]) (Below.refl _ _) (by simp [sayAt,Say.isBlk])⟩
  all_goals
   go_simp
   first
    | exact HR.out _ _ (by simp [sayAt,Say.holds]) (Below.refl _ _) (by simp [sayAt,Say.isBlk])
    | trace_state
 case last =>
  intro vs W hI hb hg hd
  have g2:=hg 9 (by omega)
  have g5:=hg 10 (by omega)
  have g8:=hg 11 (by omega)
  have g0:=hg 0 (by omega)
  simp only [sayAt,Say.holds,List.getD_cons_succ,List.getD_cons_zero] at g2 g5 g8 g0
  simp only [List.take_succ_cons,List.take_zero,List.drop_succ_cons,List.drop_zero,putAll,Act.put,List.setIfInBounds_toArray,List.set_cons_succ,List.set_cons_zero,Nat.zero_add,Nat.reduceAdd]
  simp only [g2,g5,g8]
  have HB3:=Lib.hid (HB2.out.trans (hI.mono HB2.out.size))
  have HC3:=Lib.hid (HC2.out.below hI)
  have HM3:=Lib.hid (HM.out _ (HW1.out.trans (hI.mono HW1.out.size)))
  have zq:=fun i=>HC3.out.free (i:=i)
  have y0:=HC3.out.cell (i:=0) rfl
  have y1:=HC3.out.cell (i:=1) rfl
  have y2:=HC3.out.cell (i:=2) rfl
  have HF:=setH_cel (v0:=.int .i64 0) (v1:=.int .i64 0) (v2:=.int .i64 0) HC3.out
  have z0:=HF.cell (i:=0) rfl
  have z1:=HF.cell (i:=1) rfl
  have z2:=HF.cell (i:=2) rfl
  unfold setH at z0 z1 z2
  have HZ:=Lib.hid (And.intro z0 (And.intro z1 z2))
  have HEn:=Lib.hid (setH_below (v0:=.int .i64 0) (v1:=.int .i64 0) (v2:=.int .i64 0) HB3.out (Nat.le_refl _))
  clear g2 g5 g8 g0 hg hd hb hI HN1 HN2 HMm HM HW1 HB2 HC2 HC1 HB1 z0 z1 z2 HF HRd HEnd
  by_cases c1:1 ≤ (cc:Int)
  rotate_left
  ·have hz:=HNo.out (fun h=>by omega)
   subst hz
   go_wp2_with (first | (refine HM3.out.mono ?_;rintro e w1 ⟨rfl,rfl⟩) | fail)
   obtain ⟨z0,z1,z2⟩:=HZ.out
   exact bodyPost_ret (v:=.tuple #[hdV 0 0 0,.int .i64 0]) (by simp [results,Tryz.results110,go_sem,hdV,z0,z1,z2]) rfl ⟨rfl,HEn.out⟩
  by_cases c2:(cc:Int) ≤ 4611686018427387904
  rotate_left
  ·have hz:=HNo.out (fun h=>by omega)
   subst hz
   go_wp2_with (first | (refine HM3.out.mono ?_;rintro e w1 ⟨rfl,rfl⟩) | fail)
   obtain ⟨z0,z1,z2⟩:=HZ.out
   exact bodyPost_ret (v:=.tuple #[hdV 0 0 0,.int .i64 0]) (by simp [results,Tryz.results110,go_sem,hdV,z0,z1,z2]) rfl ⟨rfl,HEn.out⟩
  by_cases c3:(b.toNat:Int) ≤ 1
  rotate_left
  ·have hz:=HNo.out (fun h=>by omega)
   subst hz
   go_wp2_with (first | (refine HM3.out.mono ?_;rintro e w1 ⟨rfl,rfl⟩) | fail)
   obtain ⟨z0,z1,z2⟩:=HZ.out
   exact bodyPost_ret (v:=.tuple #[hdV 0 0 0,.int .i64 0]) (by simp [results,Tryz.results110,go_sem,hdV,z0,z1,z2]) rfl ⟨rfl,HEn.out⟩
  by_cases c5:(ll:Int) ≤ (ab:Int)
  rotate_left
  ·have hz:=HNo.out (fun h=>by omega)
   subst hz
   go_wp2_with (first | (refine HM3.out.mono ?_;rintro e w1 ⟨rfl,rfl⟩) | fail)
   obtain ⟨z0,z1,z2⟩:=HZ.out
   exact bodyPost_ret (v:=.tuple #[hdV 0 0 0,.int .i64 0]) (by simp [results,Tryz.results110,go_sem,hdV,z0,z1,z2]) rfl ⟨rfl,HEn.out⟩
  have hse:=fun V=>HSec.out cc b.toNat ll V (by omega) (by omega) (by omega)
  unfold hdV at hse
  have HSe:=Lib.hid hse
  have w1:=i64_wrap (x:=(cc:Int)) (by omega) (by omega)
  have w2':=i64_wrap (x:=(ll:Int)) (by omega) (by omega)
  have hal:Below W.heap.size W (W.alloc (.cells #[.int .i64 (cc:Int),.int .i64 (b.toNat:Int),.int .i64 (ll:Int)] 115)):=(Below.refl _ W).alloc (Nat.le_refl _) _
  have hcb:Cel (W.alloc (.cells #[.int .i64 (cc:Int),.int .i64 (b.toNat:Int),.int .i64 (ll:Int)] 115)) W.heap.size 115 [.int .i64 (cc:Int),.int .i64 (b.toNat:Int),.int .i64 (ll:Int)]:=(blk1 W _).2
  have HB4:=Lib.hid (HB3.out.trans (hal.mono HB3.out.size))
  have HC4:=Lib.hid (HC3.out.below hal)
  clear hse hal zq y0 y1 y2 HB3 HC3 HEn HZ HSec
  generalize headB cc b.toNat ll = hdB at HSe HNo HYes
  go_wp2_with (first | (refine HM3.out.mono ?_;rintro e w1 ⟨rfl,rfl⟩) | fail)
  refine (HSe.out _).mono ?_
  rintro e w5 ⟨rfl,hb⟩
  have HB5:=Lib.hid (HB4.out.trans (hb.mono HB4.out.size))
  have HC5:=Lib.hid (HC4.out.below hb)
  have HA5:=Lib.hid (hcb.below hb)
  have zq:=fun i=>HC5.out.free (i:=i)
  have y0:=HC5.out.cell (i:=0) rfl
  have y1:=HC5.out.cell (i:=1) rfl
  have y2:=HC5.out.cell (i:=2) rfl
  have x0:=HA5.out.cell (i:=0) rfl
  have x1:=HA5.out.cell (i:=1) rfl
  have x2:=HA5.out.cell (i:=2) rfl
  clear hb hcb HB4 HC4 HM3 HSe
  by_cases he:s = hdB
  ·have hz:=HYes.out ⟨by omega,by omega,by omega,by omega,he⟩
   subst hz
   subst he
   have q:=text_eq s
   go_wp2_with fail
   have HF:=setH_cel (v0:=.int .i64 (cc:Int)) (v1:=.int .i64 (b.toNat:Int)) (v2:=.int .i64 (ll:Int)) HC5.out
   have z0:=HF.cell (i:=0) rfl
   have z1:=HF.cell (i:=1) rfl
   have z2:=HF.cell (i:=2) rfl
   unfold setH at z0 z1 z2
   exact bodyPost_ret (v:=.tuple #[hdV cc b.toNat ll,.int .i64 0]) (by simp [results,Tryz.results110,go_sem,hdV,z0,z1,z2]) rfl ⟨rfl,setH_below HB5.out (Nat.le_refl _)⟩
  ·have hz:=HNo.out (fun h=>he h.2.2.2.2)
   subst hz
   have q:=text_ne he
   go_wp2_with fail
   have HF:=setH_cel (v0:=.int .i64 0) (v1:=.int .i64 0) (v2:=.int .i64 0) HC5.out
   have z0:=HF.cell (i:=0) rfl
   have z1:=HF.cell (i:=1) rfl
   have z2:=HF.cell (i:=2) rfl
   unfold setH at z0 z1 z2
   exact bodyPost_ret (v:=.tuple #[hdV 0 0 0,.int .i64 0]) (by simp [results,Tryz.results110,go_sem,hdV,z0,z1,z2]) rfl ⟨rfl,setH_below HB5.out (Nat.le_refl _)⟩
end
def nwP (D:Dev):Nat × Nat × Nat:=if (hd1 D 0).1 < (hd1 D 1).1 then hd1 D 1 else hd1 D 0
section
variable {Rep:RepT} {w:World} {F:Nat → Prop} {p g c a n m mn:Nat} {A B:Value} {l:Lg} {D:Dev}
theorem alloc3 (w:World) (x y z:Value) (t:TypeId):Below w.heap.size w (w.alloc (.cells #[x,y,z] t)) ∧ Cel (w.alloc (.cells #[x,y,z] t)) w.heap.size t [x,y,z] :=
 ⟨(Below.refl _ w).alloc (Nat.le_refl _) _,(blk1 w _).2⟩
theorem newest_down (H:DevQ Rep) (hr:Rep w F g D) (hc:LC w p g c a n A mn B) (hu:D.down = true) :
  Calls Tryz.prog 78 #[.pointer (some ⟨p,0,none⟩)] w fun e w'=>e = .returned (.tuple #[hdV 0 0 0,.int .i64 90]) ∧ Below w.heap.size w w':=by
 have hal:=alloc3 w (.int .i64 0) (.int .i64 0) (.int .i64 0) 115
 have HD:=Lib.hid (readHead_down H (H.step hr hal.1) (Cel.below hc hal.1) hu 0 (by omega))
 go_enter Tryz.func78,Tryz.ntmps78
 go_upto_region 1 with fail
 generalize w.alloc (.cells #[.int .i64 0,.int .i64 0,.int .i64 0] 115) = W1 at *
 have HB1:=Lib.hid hal.1
 have HC1:=Lib.hid hal.2
 clear hal hr hc
 unfold hdV at HD
 go_wp2_with fail
 refine HD.out.mono ?_
 rintro e w2 ⟨rfl,hb⟩
 have hal2:=alloc3 w2 (.int .i64 0) (.int .i64 0) (.int .i64 0) 115
 have HB2:=Lib.hid ((HB1.out.trans (hb.mono HB1.out.size)).trans (hal2.1.mono (HB1.out.trans (hb.mono HB1.out.size)).size))
 have HC2:=Lib.hid ((HC1.out.below hb).below hal2.1)
 clear hb hal2 HD
 go_upto_region 3 with fail
 generalize w2.alloc _ = w3 at HB2 HC2 ⊢
 have zq:=fun i=>HC2.out.free (i:=i)
 have y0:=HC2.out.cell (i:=0) rfl
 have y1:=HC2.out.cell (i:=1) rfl
 have y2:=HC2.out.cell (i:=2) rfl
 go_wp2_with fail
 have HF:=setH_cel (v0:=.int .i64 0) (v1:=.int .i64 0) (v2:=.int .i64 0) HC2.out
 have z0:=HF.cell (i:=0) rfl
 have z1:=HF.cell (i:=1) rfl
 have z2:=HF.cell (i:=2) rfl
 unfold setH at z0 z1 z2
 exact bodyPost_ret (v:=.tuple #[hdV 0 0 0,.int .i64 90]) (by simp [results,Tryz.results78,go_sem,hdV,z0,z1,z2]) rfl ⟨rfl,setH_below HB2.out (Nat.le_refl _)⟩
theorem newest_up (HRt:RepTxt) (H:DevQ Rep) (hr:Rep w F g D) (hc:LC w p g c a n A mn B) (h4:4 ≤ D.on.length) (hu:D.down = false) :
  Calls Tryz.prog 78 #[.pointer (some ⟨p,0,none⟩)] w fun e w'=>e = .returned (.tuple #[hdW (nwP D),.int .i64 0]) ∧ Below w.heap.size w w':=by
 have hal:=alloc3 w (.int .i64 0) (.int .i64 0) (.int .i64 0) 115
 have HRd:=Lib.hid (fun W (h:Below w.heap.size w W) i hi=>readHead_up HRt H (H.step hr h) (Cel.below hc h) h4 hu i hi)
 have HN:=Lib.hid (show nwP D = if (hd1 D 0).1 < (hd1 D 1).1 then hd1 D 1 else hd1 D 0 from rfl)
 have HD0:=Lib.hid (fun W (h:Below w.heap.size w W)=>HRd.out W h 0 (by omega))
 have HD1:=Lib.hid (fun W (h:Below w.heap.size w W)=>HRd.out W h 1 (by omega))
 clear HRd
 generalize nwP D = R at HN ⊢
 generalize hd1 D 0 = q0 at HN HD0
 generalize hd1 D 1 = q1 at HN HD1
 obtain ⟨x0,x1,x2⟩:=q0
 obtain ⟨y0,y1,y2⟩:=q1
 simp only [hdW] at HD0 HD1 HN
 unfold hdV at HD0 HD1
 go_enter Tryz.func78,Tryz.ntmps78
 go_upto_region 1 with fail
 generalize w.alloc (.cells #[.int .i64 0,.int .i64 0,.int .i64 0] 115) = W1 at *
 have HB1:=Lib.hid hal.1
 have HC1:=Lib.hid hal.2
 clear hal hr hc
 go_wp2_with fail
 refine (HD0.out _ HB1.out).mono ?_
 rintro e w2 ⟨rfl,hb⟩
 have hal2:=alloc3 w2 (.int .i64 (x0:Int)) (.int .i64 (x1:Int)) (.int .i64 (x2:Int)) 115
 have HB2:=Lib.hid ((HB1.out.trans (hb.mono HB1.out.size)).trans (hal2.1.mono (HB1.out.trans (hb.mono HB1.out.size)).size))
 have HC2:=Lib.hid ((HC1.out.below hb).below hal2.1)
 have HX2:=Lib.hid hal2.2
 clear hb hal2 HD0
 go_upto_region 3 with fail
 generalize w2.alloc _ = w3 at HB2 HC2 HX2 ⊢
 generalize w2.heap.size = kx at HX2 ⊢
 go_wp2_with fail
 refine (HD1.out _ HB2.out).mono ?_
 rintro e w4 ⟨rfl,hb⟩
 have hal2:=alloc3 w4 (.int .i64 (y0:Int)) (.int .i64 (y1:Int)) (.int .i64 (y2:Int)) 115
 have HB4:=Lib.hid ((HB2.out.trans (hb.mono HB2.out.size)).trans (hal2.1.mono (HB2.out.trans (hb.mono HB2.out.size)).size))
 have HC4:=Lib.hid ((HC2.out.below hb).below hal2.1)
 have HX4:=Lib.hid ((HX2.out.below hb).below hal2.1)
 have HY4:=Lib.hid hal2.2
 clear hb hal2 HD1
 go_upto_region 6 with fail
 generalize w4.alloc _ = w5 at HB4 HC4 HX4 HY4 ⊢
 generalize w4.heap.size = ky at HY4 ⊢
 have zq:=fun i=>HC4.out.free (i:=i)
 have c0:=HC4.out.cell (i:=0) rfl
 have c1:=HC4.out.cell (i:=1) rfl
 have c2:=HC4.out.cell (i:=2) rfl
 have d0:=HX4.out.cell (i:=0) rfl
 have d1:=HX4.out.cell (i:=1) rfl
 have d2:=HX4.out.cell (i:=2) rfl
 have e0:=HY4.out.cell (i:=0) rfl
 have e1:=HY4.out.cell (i:=1) rfl
 have e2:=HY4.out.cell (i:=2) rfl
 by_cases hlt:x0 < y0
 ·have pl:(x0:Int) < (y0:Int):=by omega
  have hR:=HN.out
  rw [if_pos hlt] at hR
  have HR:=Lib.hid hR
  clear hR hlt
  go_wp2_with fail
  have HF:=setH_cel (v0:=.int .i64 (y0:Int)) (v1:=.int .i64 (y1:Int)) (v2:=.int .i64 (y2:Int)) HC4.out
  have z0:=HF.cell (i:=0) rfl
  have z1:=HF.cell (i:=1) rfl
  have z2:=HF.cell (i:=2) rfl
  unfold setH at z0 z1 z2
  exact bodyPost_ret (v:=.tuple #[hdV y0 y1 y2,.int .i64 0]) (by simp [results,Tryz.results78,go_sem,hdV,z0,z1,z2]) rfl ⟨by rw [HR.out];rfl,setH_below HB4.out (Nat.le_refl _)⟩
 ·have pl:¬ (x0:Int) < (y0:Int):=by omega
  have hR:=HN.out
  rw [if_neg hlt] at hR
  have HR:=Lib.hid hR
  clear hR hlt
  go_wp2_with fail
  have HF:=setH_cel (v0:=.int .i64 (x0:Int)) (v1:=.int .i64 (x1:Int)) (v2:=.int .i64 (x2:Int)) HC4.out
  have z0:=HF.cell (i:=0) rfl
  have z1:=HF.cell (i:=1) rfl
  have z2:=HF.cell (i:=2) rfl
  unfold setH at z0 z1 z2
  exact bodyPost_ret (v:=.tuple #[hdV x0 x1 x2,.int .i64 0]) (by simp [results,Tryz.results78,go_sem,hdV,z0,z1,z2]) rfl ⟨by rw [HR.out];rfl,setH_below HB4.out (Nat.le_refl _)⟩
def PutPost (Rep:RepT) (w:World) (F:Nat → Prop) (p g c0 a0 n0:Nat) (A:Value) (mn:Nat) (B:Value) (c a n:Nat) (r:Dev × Int) (e:Ending) (w':World):Prop :=
 e = .returned (.int .i64 r.2) ∧ ∃ F',Rep w' F' g r.1 ∧ ¬ F' p ∧ (r.2 = 0 → LC w' p g c a n A mn B) ∧ (r.2 ≠ 0 → LC w' p g c0 a0 n0 A mn B) ∧ Fr (fun k=>F k ∨ k = p) (fun k=>F' k ∨ k = p) w w'
theorem fr_p {F F':Nat → Prop} {w w':World} (h:Fr F F' w w'):Fr (fun k=>F k ∨ k = p) (fun k=>F' k ∨ k = p) w w' :=
 ⟨h.os,h.tape,h.output,h.size,fun i hi hn=>h.block i hi (fun hf=>hn (.inl hf)),fun k hk=>hk.elim (fun hf=>(h.foot k hf).elim (fun hq=>.inl (.inl hq)) .inr) (fun e=>.inl (.inr e))⟩
theorem below_fr {F G:Nat → Prop} {w W W':World} (h:Below w.heap.size w W) (k:Fr F G W W'):Fr F G w W' :=
 ⟨k.os.trans h.os,k.tape.trans h.tape,k.output.trans h.output,Nat.le_trans h.size k.size,fun i hi hn=>(k.block i (Nat.lt_of_lt_of_le hi h.size) hn).trans (h.block i hi),fun i hi=>(k.foot i hi).elim .inl (fun hs=>.inr (Nat.le_trans h.size hs))⟩
theorem cel_fr {F G:Nat → Prop} {W W':World} {q:Nat} {t:TypeId} {xs:List Value} (h:Cel W q t xs) (hf:Fr F G W W') (hn:¬ F q):Cel W' q t xs:=(hf.block q h.lt hn).trans h
theorem foot_not {F G:Nat → Prop} {W W':World} {q:Nat} (hf:Fr F G W W') (hn:¬ F q) (hl:q < W.heap.size):¬ G q:=fun hg=>(hf.foot q hg).elim hn (fun hs=>by omega)
end
end Rd
end Go.Proofs.YtlfkhlfkckfbpaaGreat
