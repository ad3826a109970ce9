/- Parts of the proof, joined: RlRep, ScSec, ScMap, ScLand1, ScLand2; their conditions stand with each. -/
import Derived.Shelf.Strings.Repeat
import Derived.Deep.MidRow
import Derived.Deep.WholeRow
import Derived.Laws.CopyRow
import Derived.Lib.SlKeysI
import Derived.Maps.OwnOps
import Derived.Maps.OwnSet
import Derived.Maps.Views
import Derived.Maps.Range
import Derived.WalkArith
import Derived.Carry
import Derived.Test.YtlfkhlfkckfbpaaGreatC9
import Derived.Test.YtlfkhlfkckfbpaaGreatC12

set_option maxRecDepth 20000
set_option maxHeartbeats 8000000
namespace Go.Proofs.YtlfkhlfkckfbpaaGreat
namespace Rd
open Go.RowKit Go.Shelf Bk
def lays105_ren:Go.Shelf.Ren:=⟨fun | 105=>169 | 212=>196 | 99=>197 | 165=>198 | 166=>117 | 170=>115 | 169=>118 | 263=>207 | 264=>208 | 206=>209 | 240=>171 | 241=>210 | 276=>199 | 277=>221 | n=>n,fun | 9=>9 | 3=>3 | 4=>4 | 20=>20 | 0=>0 | 46=>158 | 109=>263 | 5=>5 | 72=>182 | 76=>186 | 51=>222 | 146=>276 | 53=>206 | 148=>278 | 70=>180 | 37=>41 | 75=>185 | 127=>212 | 164=>266 | 80=>179 | n=>n,fun | n=>n⟩
theorem lays105:Go.Proofs.Lays.n105 Tryz.prog lays105_ren:={
 mixed:=by kernel_rfl
 f99:=Tryz.func197.trans (congrArg some (by kernel_rfl))
 f105:=Tryz.func169.trans (congrArg some (by kernel_rfl))
 f165:=Tryz.func198.trans (congrArg some (by kernel_rfl))
 f166:=Tryz.func117.trans (congrArg some (by kernel_rfl))
 f169:=Tryz.func118.trans (congrArg some (by kernel_rfl))
 f170:=Tryz.func115.trans (congrArg some (by kernel_rfl))
 f206:=Tryz.func209.trans (congrArg some (by kernel_rfl))
 f212:=Tryz.func196.trans (congrArg some (by kernel_rfl))
 f240:=Tryz.func171.trans (congrArg some (by kernel_rfl))
 f241:=Tryz.func210.trans (congrArg some (by kernel_rfl))
 f263:=Tryz.func207.trans (congrArg some (by kernel_rfl))
 f264:=Tryz.func208.trans (congrArg some (by kernel_rfl))
 f276:=Tryz.func199.trans (congrArg some (by kernel_rfl))
 f277:=Tryz.func221.trans (congrArg some (by kernel_rfl))
 t0:=Tryz.underlying0
 a0:=Tryz.isAgg0
 z0:=Tryz.sizeOf0
 v0:=Tryz.zeroValue0
 t3:=Tryz.underlying3
 a3:=Tryz.isAgg3
 z3:=Tryz.sizeOf3
 v3:=Tryz.zeroValue3
 t4:=Tryz.underlying4
 a4:=Tryz.isAgg4
 z4:=Tryz.sizeOf4
 v4:=Tryz.zeroValue4
 t5:=Tryz.underlying5
 a5:=Tryz.isAgg5
 z5:=Tryz.sizeOf5
 v5:=Tryz.zeroValue5
 t9:=Tryz.underlying9
 a9:=Tryz.isAgg9
 z9:=Tryz.sizeOf9
 v9:=Tryz.zeroValue9
 t20:=Tryz.underlying20
 a20:=Tryz.isAgg20
 z20:=Tryz.sizeOf20
 v20:=Tryz.zeroValue20
 t37:=Tryz.underlying41
 a37:=Tryz.isAgg41
 z37:=Tryz.sizeOf41
 v37:=Tryz.zeroValue41
 t46:=Tryz.underlying158
 a46:=Tryz.isAgg158
 z46:=Tryz.sizeOf158
 v46:=Tryz.zeroValue158
 t51:=Tryz.underlying222
 a51:=Tryz.isAgg222
 z51:=Tryz.sizeOf222
 v51:=Tryz.zeroValue222
 t53:=Tryz.underlying206
 a53:=Tryz.isAgg206
 z53:=Tryz.sizeOf206
 v53:=Tryz.zeroValue206
 t70:=Tryz.underlying180
 a70:=Tryz.isAgg180
 z70:=Tryz.sizeOf180
 v70:=Tryz.zeroValue180
 t72:=Tryz.underlying182
 a72:=Tryz.isAgg182
 z72:=Tryz.sizeOf182
 v72:=Tryz.zeroValue182
 t75:=Tryz.underlying185
 a75:=Tryz.isAgg185
 z75:=Tryz.sizeOf185
 v75:=Tryz.zeroValue185
 t76:=Tryz.underlying186
 a76:=Tryz.isAgg186
 z76:=Tryz.sizeOf186
 v76:=Tryz.zeroValue186
 t109:=Tryz.underlying263
 a109:=Tryz.isAgg263
 z109:=Tryz.sizeOf263
 v109:=Tryz.zeroValue263
 t127:=Tryz.underlying212
 a127:=Tryz.isAgg212
 z127:=Tryz.sizeOf212
 v127:=Tryz.zeroValue212
 t146:=Tryz.underlying276
 a146:=Tryz.isAgg276
 z146:=Tryz.sizeOf276
 v146:=Tryz.zeroValue276
 t148:=Tryz.underlying278
 a148:=Tryz.isAgg278
 z148:=Tryz.sizeOf278
 v148:=Tryz.zeroValue278
 t164:=Tryz.underlying266
 a164:=Tryz.isAgg266
 z164:=Tryz.sizeOf266
 v164:=Tryz.zeroValue266 }
theorem extra105:Builder.Extra Tryz.prog lays105_ren:={
 sizeBuilder:=by kernel_rfl
 liesBuilder:=by kernel_rfl
 t5:=Tryz.underlying5
 a5:=Tryz.isAgg5
 z5:=Tryz.sizeOf5
 v5:=Tryz.zeroValue5
 infoByte:=by kernel_rfl
 cellsByte:=by kernel_rfl
 sizeByte:=by kernel_rfl
 neB5:=by decide }
open Go.RowKit Go.Lib in
theorem repeatL_flat (l:List UInt8):∀ c,Lib.repeatL l c = (List.replicate c l).flatten
 | 0=>rfl
 | c + 1=>by
  show l ++ Lib.repeatL l c = _
  rw [repeatL_flat l c,List.replicate_succ,List.flatten_cons]
theorem repTxt:RepTxt:=fun s c w hc hs=>by
 have h:=Any.strings_Repeat lays105 extra105 s c w (by omega) (Nat.le_trans (Nat.mul_le_mul hs hc) (by decide))
 rw [repeatL_flat] at h
 exact h
end Rd
end Go.Proofs.YtlfkhlfkckfbpaaGreat
namespace Go.Proofs.YtlfkhlfkckfbpaaGreat
namespace Sc
open Go.RowKit Bk
def secC (s:ByteArray):List Value:=Lib.byteCells s.data.toList
def secV (s:ByteArray):Value:=.agg (secC s).toArray
theorem secC_len (s:ByteArray):(secC s).length = s.size:=by
 unfold secC
 rw [Lib.byteCells_length];rfl
theorem secC_one (s:ByteArray):∀ v ∈ secC s,v.oneCell' = true:=Lib.byteCells_one _
theorem secC_inj {s t:ByteArray} (h:secC s = secC t):s = t:=by
 unfold secC Lib.byteCells at h
 have hf:∀ a b:UInt8,(Value.int .u8 (a.toNat:Int)) = Value.int .u8 (b.toNat:Int) → a = b:=fun a b e=>by
  simp only [Value.int.injEq,true_and] at e
  exact UInt8.toNat_inj.1 (by omega)
 have h2:s.data.toList = t.data.toList:=by
  refine List.ext_getElem? fun i=>?_
  have h3:=congrArg (fun l=>l[i]?) h
  simp only [List.getElem?_map] at h3
  cases e1:s.data.toList[i]? <;> cases e2:t.data.toList[i]? <;> rw [e1,e2] at h3
  ·simp at h3
  ·simp at h3
  ·simp only [Option.map_some,Option.some.injEq] at h3
   rw [hf _ _ h3]
 cases s;cases t
 congr 1
 exact Array.toList_inj.1 h2
theorem secV_inj {s t:ByteArray} (h:secV s = secV t):s = t:=by
 unfold secV at h
 simp only [Value.agg.injEq] at h
 exact secC_inj (by simpa using congrArg Array.toList h)
def onC (l:List ByteArray):List Value:=l.flatMap secC
theorem onC_len:∀ {l:List ByteArray},(∀ s ∈ l,s.size = 64) → (onC l).length = l.length * 64
 | [],_=>rfl
 | x :: l,h=>by
  have:=onC_len (l:=l) (fun s hs=>h s (by simp [hs]))
  unfold onC at *
  rw [List.flatMap_cons,List.length_append,this,secC_len,h x (by simp),List.length_cons]
  omega
theorem onC_parts {l:List ByteArray} {i:Nat} (h:i < l.length):onC l = onC (l.take i) ++ (secC l[i] ++ onC (l.drop (i + 1))):=by
 have:l = l.take i ++ l[i] :: l.drop (i + 1):=by rw [List.getElem_cons_drop,List.take_append_drop]
 conv=>lhs;rw [this]
 unfold onC
 rw [List.flatMap_append,List.flatMap_cons]
theorem onC_set {l:List ByteArray} {i:Nat} (h:i < l.length) (t:ByteArray):onC (l.set i t) = onC (l.take i) ++ (secC t ++ onC (l.drop (i + 1))):=by
 rw [List.set_eq_take_append_cons_drop,if_pos h]
 unfold onC
 rw [List.flatMap_append,List.flatMap_cons]
section
variable {l:List ByteArray} {i:Nat} (h64:∀ s ∈ l,s.size = 64) (h:i < l.length)
include h64 h
theorem onC_ahead:(onC (l.take i)).length = i * 64:=by
 rw [onC_len (fun s hs=>h64 s (List.mem_of_mem_take hs)),List.length_take,Nat.min_eq_left (by omega)]
theorem onC_cell {j:Nat} {v:Value} (hv:(secC l[i])[j]? = some v):(onC l)[i * 64 + j]? = some v:=by
 have hj:j < (secC l[i]).length:=(List.getElem?_eq_some_iff.1 hv).1
 rw [onC_parts h,List.getElem?_append_right (by rw [onC_ahead h64 h];omega),onC_ahead h64 h,List.getElem?_append_left (by omega),Nat.add_sub_cancel_left]
 exact hv
theorem onC_over {cs:List Value} {n:Nat} (hc:cs.length = n) (hn:n ≤ 64):(onC l).take (i * 64) ++ cs ++ (onC l).drop (i * 64 + n) = onC (l.take i) ++ (cs ++ (secC l[i]).drop n ++ onC (l.drop (i + 1))):=by
 have hs:(secC l[i]).length = 64:=by rw [secC_len];exact h64 _ (List.getElem_mem h)
 have ha:=onC_ahead h64 h
 rw [onC_parts h,List.take_append_of_le_length (by omega),List.take_of_length_le (by omega),List.drop_append,ha,List.drop_of_length_le (by omega),List.nil_append,Nat.add_sub_cancel_left,List.drop_append_of_le_length (by omega)]
 simp only [List.append_assoc]
end
theorem torn_cells {o n:ByteArray} (_ho:o.size = 64) (_hn:n.size = 64) (p:Int):secC (torn o n p) = (secC n).take (cutN p) ++ (secC o).drop (cutN p):=by
 unfold secC torn Lib.byteCells
 simp [List.map_take,List.map_drop]
theorem zero_cells:secC zero64 = List.replicate 64 (Value.int .u8 0):=by
 unfold secC zero64
 rw [List.toList_toArray]
 exact zeros_cells
theorem zeros_row (n:Nat):onC (List.replicate n zero64) = List.replicate (n * 64) (Value.int .u8 0):=by
 unfold onC
 induction n with
 | zero=>simp
 | succ n ih=>rw [List.replicate_succ,List.flatMap_cons,ih,zero_cells,List.replicate_append_replicate,Nat.add_mul,Nat.one_mul,Nat.add_comm]
theorem Tryz.infoSec:(Tryz.prog.info? 99).map (fun i=>(i.zero,i.size,i.bytes)) = some (some (.agg (List.replicate 64 (Value.int .u8 0)).toArray),64,64):=by kernel_rfl
theorem size_sec:(Tryz.prog.info? 99).map (·.size) = some 64:=by
 obtain ⟨i0,hi,hz0,hz1,hz2⟩:=info_parts Tryz.infoSec
 rw [hi,Option.map_some,hz1]
theorem zero_sec (w:World):(zeroValue 99).run Tryz.prog w = .ok (secV zero64) w:=by
 unfold secV
 rw [zero_cells]
 kernel_rfl
section
variable {w:World} {a:Nat} {l:List ByteArray} {i:Nat}
theorem sec_range (h:Cel w a 99 (onC l)) (h64:∀ s ∈ l,s.size = 64) (hi:i < l.length):w.rangeAt a (i * 64) (secC l[i]):=fun _ _ hv=>h.cell (onC_cell h64 hi hv)
theorem sec_own {s:ByteArray} (h:Cel w a 99 (secC s)) (hs:s.size = 64):(Instr.loadAt 99 (.pointer (some ⟨a,0,none⟩))).run Tryz.prog w = .ok (secV s) w :=
 run_loadAt_mid w a 0 99 (secC s) _ (fun _ _ hv=>by rw [Nat.zero_add];exact h.cell hv) Tryz.underlying99 rfl (by rw [size_sec,secC_len,hs])
theorem cel_row {w:World} {g:Nat} {t:TypeId} {xs:List Value} (h:Cel w g t xs) (ys:List Value):Cel (w.setRow g ys.toArray) g t ys:=setRow_heap w g _ _ t (0,0) h
theorem row_far {w:World} {g k:Nat} (c:Array Value) (hn:k ≠ g):(w.setRow g c).heap[k]? = w.heap[k]?:=setRow_other _ _ _ _ hn
theorem sec_store (h:Cel w a 99 (onC l)) (h64:∀ s ∈ l,s.size = 64) (hi:i < l.length) {t:ByteArray} (ht:t.size = 64) :
  (Instr.storeAt 99 (.pointer (some ⟨a,i * 64,none⟩)) (secV t)).run Tryz.prog w = .ok () (w.setRow a (onC (l.set i t)).toArray):=by
 have hl:=onC_len h64
 have htl:(secC t).length = 64:=(secC_len t).trans ht
 have hst:=run_storeCells_at Tryz.prog a (i * 64) 99 (secC t) 0 _ w h (by rw [List.size_toArray,hl,htl];omega) (secC_one t)
 have e:(onC l).toArray.toList.take (i * 64 + 0) ++ secC t ++ (onC l).toArray.toList.drop (i * 64 + 0 + (secC t).length) = onC (l.set i t):=by
  rw [List.toList_toArray,Nat.add_zero,htl,onC_over h64 hi htl (Nat.le_refl _),onC_set hi,List.drop_of_length_le (by rw [secC_len,h64 _ (List.getElem_mem hi)];exact Nat.le_refl _),List.append_nil]
 rw [e] at hst
 obtain ⟨i0,hi0,hz0,hz1,hz2⟩:=info_parts Tryz.infoSec
 simp only [Instr.storeAt,Instr.sureAddr,Sem.run_bind,Sem.run_pure,Result.andThen_ok]
 simp [storeVar,sizeOf,typeInfo,hi0,hz1,secV,Value.cells,htl,hst]
end
end Sc
end Go.Proofs.YtlfkhlfkckfbpaaGreat
namespace Go.Proofs.YtlfkhlfkckfbpaaGreat
namespace Sc
open Go.RowKit Bk
open Classical in
noncomputable def rdSec (v:Value):Option (DataW Unit × List MemPlace) :=
 if h:∃ s:ByteArray,s.size = 64 ∧ v = secV s then some (.lit (.string (Classical.choose h).data.toList),[]) else none
def strD (s:ByteArray):DataW Unit:=.lit (.string s.data.toList)
theorem strD_inj {s t:ByteArray} (h:strD s = strD t):s = t:=by
 unfold strD at h
 simp only [DataW.lit.injEq,Lit.string.injEq] at h
 cases s;cases t
 congr 1
 exact Array.toList_inj.1 h
theorem rdSec_mk {s:ByteArray} (h:s.size = 64):rdSec (secV s) = some (strD s,[]):=by
 have hx:∃ t:ByteArray,t.size = 64 ∧ secV s = secV t:=⟨s,h,rfl⟩
 unfold rdSec
 rw [dif_pos hx]
 have e:=secV_inj (Classical.choose_spec hx).2
 rw [← e];rfl
theorem rdSec_inv {v:Value} {z:DataW Unit × List MemPlace} (h:rdSec v = some z):∃ s:ByteArray,s.size = 64 ∧ v = secV s ∧ z = (strD s,[]):=by
 have h0:=h
 unfold rdSec at h
 split at h
 next hx =>
  obtain ⟨s,hs,rfl⟩:=hx
  rw [rdSec_mk hs] at h0
  exact ⟨s,hs,rfl,(Option.some.inj h0).symm⟩
 ·cases h
def slot (new:List ByteArray) (x:Int):Option ByteArray :=
 if 0 ≤ x ∧ x < (new.length:Int) ∧ new.getD x.toNat nil0 ≠ nil0 then some (new.getD x.toNat nil0) else none
theorem slot_nat {new:List ByteArray} {i:Nat} (h:i < new.length):slot new (i:Int) = if new.getD i nil0 = nil0 then none else some (new.getD i nil0):=by
 unfold slot
 rw [Int.toNat_natCast]
 by_cases e:new.getD i nil0 = nil0
 ·rw [if_neg (fun hc=>hc.2.2 e),if_pos e]
 ·rw [if_pos ⟨by omega,by omega,e⟩,if_neg e]
theorem slot_some {new:List ByteArray} {x:Int} (h:(slot new x).isSome = true):∃ i:Nat,x = (i:Int) ∧ i < new.length ∧ new.getD i nil0 ≠ nil0:=by
 unfold slot at h
 split at h
 next hc =>
  obtain ⟨h0,h1,h2⟩:=hc
  exact ⟨x.toNat,by omega,by omega,h2⟩
 ·cases h
theorem slot_set {new:List ByteArray} {i:Nat} (h:i < new.length) {t:ByteArray} (ht:t ≠ nil0) (x:Int):slot (new.set i t) x = if x = (i:Int) then some t else slot new x:=by
 by_cases e:x = (i:Int)
 ·subst e
  rw [if_pos rfl,slot_nat (by simpa using h)]
  have:(new.set i t).getD i nil0 = t:=by rw [List.getD_eq_getElem?_getD,List.getElem?_set_self h];rfl
  rw [this,if_neg ht]
 ·rw [if_neg e]
  unfold slot
  rw [List.length_set]
  by_cases hx:0 ≤ x ∧ x < (new.length:Int)
  ·have:(new.set i t).getD x.toNat nil0 = new.getD x.toNat nil0:=by
    rw [List.getD_eq_getElem?_getD,List.getD_eq_getElem?_getD,List.getElem?_set_ne (by omega)]
   rw [this]
  ·rw [if_neg (fun hc=>hx ⟨hc.1,hc.2.1⟩),if_neg (fun hc=>hx ⟨hc.1,hc.2.1⟩)]
theorem slot_none (n:Nat) (x:Int):slot (List.replicate n nil0) x = none:=by
 unfold slot
 rw [if_neg]
 rintro ⟨h0,h1,h2⟩
 rw [List.length_replicate] at h1
 rw [List.getD_eq_getElem?_getD,List.getElem?_replicate,if_pos (by omega)] at h2
 exact h2 rfl
def dirtyK (new:List ByteArray) (n:Nat):List Int:=((List.range n).filter fun i=>decide (new.getD i nil0 ≠ nil0)).map Int.ofNat
theorem dirtyK_nodup (new:List ByteArray) (n:Nat):(dirtyK new n).Nodup:=by
 unfold dirtyK
 refine List.pairwise_map.2 ((List.nodup_range.filter _).imp fun {a b} hne e=>hne (Int.ofNat.inj e))
theorem dirtyK_mem {new:List ByteArray} {x:Int}:x ∈ dirtyK new new.length ↔ (slot new x).isSome = true:=by
 unfold dirtyK
 rw [List.mem_map]
 constructor
 ·rintro ⟨i,hi,rfl⟩
  rw [List.mem_filter,List.mem_range] at hi
  have:=hi.2
  simp only [ne_eq,decide_not,Bool.not_eq_eq_eq_not,Bool.not_true,decide_eq_false_iff_not] at this
  show (slot new (i:Int)).isSome = true
  rw [slot_nat hi.1,if_neg this];rfl
 ·intro h
  obtain ⟨i,rfl,h1,h2⟩:=slot_some h
  exact ⟨i,by rw [List.mem_filter,List.mem_range];exact ⟨h1,by simpa using h2⟩,rfl⟩
theorem dirtyK_succ (new:List ByteArray) (n:Nat):dirtyK new (n + 1) = dirtyK new n ++ if new.getD n nil0 = nil0 then [] else [(n:Int)]:=by
 unfold dirtyK
 rw [List.range_succ,List.filter_append,List.map_append]
 congr 1
 by_cases h:new.getD n nil0 = nil0
 ·rw [if_pos h,List.filter_cons_of_neg (by rw [decide_eq_true_eq];exact fun hc=>hc h)];rfl
 ·rw [if_neg h,List.filter_cons_of_pos (by rw [decide_eq_true_eq];exact h)];rfl
theorem dirtyK_cnt {new:List ByteArray}:∀ {n:Nat},n ≤ new.length → (dirtyK new n).length = cnt new n
 | 0,_=>by simp [dirtyK,cnt]
 | n + 1,h=>by
  rw [dirtyK_succ,List.length_append,dirtyK_cnt (n:=n) (by omega),cnt_succ (show n < new.length by omega),getD_at (show n < new.length by omega)]
  by_cases e:new[n] = nil0
  ·rw [if_pos e,if_pos e];rfl
  ·rw [if_neg e,if_neg e];rfl
theorem dirtyK_at {new:List ByteArray}:∀ {n:Nat},n ≤ new.length → ∀ {j:Nat} {x:Int},(dirtyK new n)[j]? = some x → ∃ i:Nat,x = (i:Int) ∧ i < n ∧ new.getD i nil0 ≠ nil0 ∧ cnt new i = j
 | 0,_,j,x,h=>by simp [dirtyK] at h
 | n + 1,hn,j,x,h=>by
  rw [dirtyK_succ] at h
  by_cases hj:j < (dirtyK new n).length
  ·rw [List.getElem?_append_left hj] at h
   obtain ⟨i,h1,h2,h3⟩:=dirtyK_at (n:=n) (by omega) h
   exact ⟨i,h1,by omega,h3⟩
  ·rw [List.getElem?_append_right (by omega)] at h
   by_cases e:new.getD n nil0 = nil0
   ·rw [if_pos e] at h;simp at h
   ·rw [if_neg e] at h
    have hj2:j - (dirtyK new n).length = 0:=by
     have:=(List.getElem?_eq_some_iff.1 h).1
     simp at this;omega
    rw [hj2] at h
    simp only [List.length_cons,List.length_nil,Nat.zero_add,Nat.lt_add_one,getElem?_pos,List.getElem_cons_zero,Option.some.injEq] at h
    exact ⟨n,h.symm,by omega,e,by rw [← dirtyK_cnt (show n ≤ new.length by omega)];omega⟩
theorem dirtyK_sorted (new:List ByteArray) (n:Nat):(dirtyK new n).Pairwise (fun a b=>leI a b = true):=by
 unfold dirtyK
 rw [List.pairwise_map]
 refine (List.pairwise_lt_range.filter _).imp fun {a b} h=>?_
 simp only [leI,decide_eq_true_eq]
 show (a:Int) ≤ (b:Int)
 omega
theorem Tryz.keyedInt:Go.Maps.Keyed Tryz.prog 3:=Go.Maps.int_keyed Tryz.underlying3
structure Says (D:DataW Unit) (new:List ByteArray):Prop where
 has:∀ x:Int,Maps.has D (.int .i64 x) = (slot new x).isSome
 at_:∀ (x:Int) (s:ByteArray),slot new x = some s → ∀ z,D.atKey (.int .i64 x) z = strD s
def SecMap (w:World) (b:Nat) (new:List ByteArray):Prop:=∃ D:DataW Unit,w.ownsMap Tryz.prog 3 rdSec b new.length D ∧ Says D new
theorem tight {H:Type} {P:Program} {k:TypeId} {R:Value → Option (DataW H × List MemPlace)} {w:World} {b n:Nat} {D:DataW H} (h:w.ownsMap P k R b n D) {m:Nat} (hm:Maps.size D ≤ m):w.ownsMap P k R b m D:=by
 obtain ⟨es,clock,hb,F,hs,rfl⟩:=h
 refine ⟨es,clock,hb,F,?_,rfl⟩
 rw [Maps.size_eq,length_read] at hm
 exact hm
section
variable {w w':World} {b n:Nat} {new:List ByteArray} {D:DataW Unit}
theorem keys_perm (h:w.ownsMap Tryz.prog 3 rdSec b n D) (hs:Says D new):(dirtyK new new.length).Perm (intKeys D):=by
 obtain ⟨es,hD,hpw,_⟩:=h.entries Tryz.keyedInt
 obtain ⟨es',hD',hko⟩:=h.keysOf
 obtain rfl:es = es':=by rw [hD] at hD';simpa using hD'
 subst hD
 exact perm_intKeys hpw (fun p hp=>by obtain ⟨v,hv⟩:=hko p hp;obtain ⟨x,_,hx,_⟩:=Maps.keyOf_i64 Tryz.underlying3 hv;exact ⟨x,hx⟩) (dirtyK_nodup _ _) (fun x=>by rw [hs.has x];exact dirtyK_mem)
theorem size_cnt (h:w.ownsMap Tryz.prog 3 rdSec b n D) (hs:Says D new):Maps.size D = cnt new new.length:=by
 have h1:=(keys_perm h hs).length_eq
 rw [dirtyK_cnt (Nat.le_refl _)] at h1
 rw [h1]
 obtain ⟨es,hD,_⟩:=h.entries Tryz.keyedInt
 subst hD
 simp [Maps.size_eq,intKeys]
theorem SecMap.lt (h:SecMap w b new):b < w.heap.size:=by
 obtain ⟨D,h1,_⟩:=h
 exact h1.lt
theorem SecMap.kept (h:SecMap w b new) (hk:w'.heap[b]? = w.heap[b]?):SecMap w' b new:=by
 obtain ⟨D,⟨es,clock,h1,h2⟩,h3⟩:=h
 exact ⟨D,⟨es,clock,hk.trans h1,h2⟩,h3⟩
theorem secMap_made (w:World) (n:Nat):SecMap (w.alloc (.map #[] 0)) w.heap.size (List.replicate n nil0) :=
 ⟨.map [],(World.ownsMap_made _ _ _ _).mono (Nat.zero_le _),fun x=>by rw [slot_none];rfl,fun x s h=>by rw [slot_none] at h;cases h⟩
theorem SecMap.look (h:SecMap w b new) {x:Int} (h1:-9223372036854775808 ≤ x) (h2:x ≤ 9223372036854775807) :
  (Instr.lookup 66 (.map (some b)) (.int .i64 x) true).run Tryz.prog w = .ok (.tuple #[secV ((slot new x).getD zero64),.bool (slot new x).isSome]) w:=by
 obtain ⟨D,hD,hs⟩:=h
 obtain ⟨v,ps,hrun,hR⟩:=hD.look_ok (t:=66) Tryz.keyedInt Tryz.underlying66 (zero_sec w) (rdSec_mk zero64_size)
  (Go.Maps.keyOf_int_mk Tryz.underlying3 (WalkArith.wf_i64 ⟨h1,h2⟩))
 obtain ⟨s,hs64,rfl,hz⟩:=rdSec_inv hR
 have e:=congrArg Prod.fst hz
 simp only at e
 rw [hrun,hs.has x]
 congr 4
 cases hsl:slot new x with
 | none =>
  have hh:=hs.has x
  rw [hsl] at hh
  rw [Maps.atKey_of_not_has hh] at e
  rw [strD_inj e];rfl
 | some t =>
  rw [hs.at_ x t hsl] at e
  rw [strD_inj e];rfl
theorem SecMap.look1 (h:SecMap w b new) {x:Int} (h1:-9223372036854775808 ≤ x) (h2:x ≤ 9223372036854775807) {t:ByteArray} (hsl:slot new x = some t) :
  (Instr.lookup 66 (.map (some b)) (.int .i64 x) false).run Tryz.prog w = .ok (secV t) w:=by
 obtain ⟨D,hD,hs⟩:=h
 obtain ⟨v,ps,hrun,hR⟩:=hD.lookup (t:=66) Tryz.keyedInt Tryz.underlying66 (zero_sec w) (rdSec_mk zero64_size)
  (Go.Maps.keyOf_int_mk Tryz.underlying3 (WalkArith.wf_i64 ⟨h1,h2⟩))
 obtain ⟨s,hs64,rfl,hz⟩:=rdSec_inv hR
 have e:=congrArg Prod.fst hz
 simp only at e
 rw [hs.at_ x t hsl] at e
 rw [hrun,strD_inj e]
theorem SecMap.store (h:SecMap w b new) (hn:new.length < maxLen) {i:Nat} (hi:i < new.length) {t:ByteArray} (ht:t.size = 64) :
  ∃ w',(Instr.mapUpdate 66 (.map (some b)) (.int .i64 (i:Int)) (secV t)).run Tryz.prog w = .ok () w' ∧ SecMap w' b (new.set i t) ∧ w.grownBy w' (some b) ∧ w'.heap.size = w.heap.size:=by
 have h64:maxLen ≤ 9223372036854775807:=by unfold maxLen;omega
 have tn:t ≠ nil0:=fun e=>by rw [e,nil0_size] at ht;cases ht
 obtain ⟨D,hD,hs⟩:=h
 have hm:=hD.isMap
 obtain ⟨w',hrun,ho,htn⟩:=hD.store (t:=66) Tryz.keyedInt Tryz.underlying66 hn (Go.Maps.keyOf_int_mk Tryz.underlying3 (WalkArith.wf_i64 (n:=(i:Int)) ⟨by omega,by omega⟩)) (rdSec_mk ht)
 have hg:=htn.grown
 have hsz:w'.heap.size = w.heap.size:=by
  obtain ⟨es,clock,es',clock',_,rfl⟩:=htn
  simp [ChangeMaps.setBlock]
 have hs':Says (D.put (.int .i64 (i:Int)) (strD t)) (new.set i t):=by
  refine ⟨fun x=>?_,fun x s hx z=>?_⟩
  ·rw [slot_set hi tn]
   by_cases e:x = (i:Int)
   ·subst e;rw [if_pos rfl];exact Maps.has_put_same hm (by simp [WideAt.IsKeyLit]) _
   ·rw [if_neg e]
    have hne:Lit.int .i64 x ≠ Lit.int .i64 (i:Int):=fun h=>e (by injection h)
    rw [Maps.has_put_other hne];exact hs.has x
  ·rw [slot_set hi tn] at hx
   by_cases e:x = (i:Int)
   ·subst e;rw [if_pos rfl] at hx;cases hx;exact Maps.atKey_put_same hm (by simp [WideAt.IsKeyLit]) _ _
   ·rw [if_neg e] at hx
    have hne:Lit.int .i64 x ≠ Lit.int .i64 (i:Int):=fun h=>e (by injection h)
    rw [Maps.atKey_put_other hne];exact hs.at_ x s hx z
 refine ⟨w',hrun,⟨_,tight ho ?_,hs'⟩,hg,hsz⟩
 rw [size_cnt ho hs']
 exact cnt_le _ _
theorem SecMap.clear (h:SecMap w b new) (ty:TypeId) (m:Nat):∃ w',(Builtin.clear_ #[66] ty #[.map (some b)]).run Tryz.prog w = .ok (.tuple #[]) w' ∧ SecMap w' b (List.replicate m nil0) ∧ w.grownBy w' (some b) ∧ w'.heap.size = w.heap.size:=by
 obtain ⟨D,⟨es,clock,hb,_⟩,_⟩:=h
 refine ⟨ChangeMaps.setBlock w b (.map #[] clock),?_,⟨.map [],⟨#[],clock,ChangeMaps.heap_setBlock_same hb _,⟨by simp,MapKept.stamped_empty clock,by simp⟩,by simp,rfl⟩,fun x=>by rw [slot_none];rfl,fun x s h=>by rw [slot_none] at h;cases h⟩,
  ⟨rfl,rfl,rfl,by simp [ChangeMaps.setBlock],fun i _ hi=>ChangeMaps.heap_setBlock_other hb _ (fun e=>hi (by rw [e]))⟩,by simp [ChangeMaps.setBlock]⟩
 simp [Builtin.clear_,run_underlying Tryz.underlying66,MapKept.run_getObj_map hb,MapKept.run_setObj_map _ hb,Result.andThen,ChangeMaps.setBlock]
end
end Sc
end Go.Proofs.YtlfkhlfkckfbpaaGreat
namespace Go.Proofs.YtlfkhlfkckfbpaaGreat
namespace Sc
open Go.RowKit Bk
attribute [local go_sem ↓] Go.wp_at_zero Go.wp_at_succ
attribute [local go_sem] floatUpon pick
structure LAt (w:World) (g a b:Nat) (D:Dev):Prop where
 cel:Cel w g 68 [.slice (some ⟨a,0,none⟩) D.on.length D.on.length,.map (some b),.int .i64 (D.left:Int),.bool D.down]
 ro:Cel w a 99 (onC D.on)
 mp:SecMap w b D.new
 d1:g ≠ a
 d2:g ≠ b
 d3:a ≠ b
def LFoot (g a b:Nat):Nat → Prop:=fun k=>k = g ∨ k = a ∨ k = b
theorem Fr.row {F G:Nat → Prop} {w u:World} (h:Fr F G w u) {k:Nat} (hk:F k ∨ w.heap.size ≤ k) (c:Array Value):Fr F G w (u.setRow k c) :=
 ⟨h.os,h.tape,h.output,by simpa using h.size,fun i hi hn=>(row_far c (fun e=>by subst e;exact hk.elim hn (by omega))).trans (h.block i hi hn),h.foot⟩
theorem Fr.grown {F G:Nat → Prop} {w u v:World} (h:Fr F G w u) {k:Nat} (hk:F k ∨ w.heap.size ≤ k) (hg:u.grownBy v (some k)):Fr F G w v :=
 ⟨hg.os.trans h.os,hg.tape.trans h.tape,hg.output.trans h.output,Nat.le_trans h.size hg.size,
  fun i hi hn=>(hg.block i (Nat.lt_of_lt_of_le hi h.size) (fun e=>by simp only [Option.some.injEq] at e;subst e;exact hk.elim hn (by omega))).trans (h.block i hi hn),h.foot⟩
section
variable {w w':World} {g a b:Nat} {D:Dev}
theorem LAt.lt (h:LAt w g a b D):∀ k,LFoot g a b k → k < w.heap.size:=fun k hk=>by
 rcases hk with rfl | rfl | rfl
 ·exact h.cel.lt
 ·exact h.ro.lt
 ·exact h.mp.lt
theorem LAt.kept (h:LAt w g a b D) (hk:∀ k,LFoot g a b k → w'.heap[k]? = w.heap[k]?):LAt w' g a b D :=
 ⟨(hk _ (.inl rfl)).trans h.cel,(hk _ (.inr (.inl rfl))).trans h.ro,h.mp.kept (hk _ (.inr (.inr rfl))),h.d1,h.d2,h.d3⟩
theorem LAt.step (h:LAt w g a b D) (hb:Below w.heap.size w w'):LAt w' g a b D:=h.kept fun k hk=>hb.block k (h.lt k hk)
theorem LAt.setLeft (h:LAt w g a b D) (n:Nat):LAt (w.setCell ⟨g,2,none⟩ (.int .i64 (n:Int))) g a b ⟨D.on,D.new,n,D.down⟩ :=
 ⟨h.cel.set,h.ro.far (Ne.symm h.d1),h.mp.kept (Below.heap_setCell w ⟨g,2,none⟩ _ b (Ne.symm h.d2)),h.d1,h.d2,h.d3⟩
theorem LAt.setDown (h:LAt w g a b D) (x:Bool):LAt (w.setCell ⟨g,3,none⟩ (.bool x)) g a b ⟨D.on,D.new,D.left,x⟩ :=
 ⟨h.cel.set,h.ro.far (Ne.symm h.d1),h.mp.kept (Below.heap_setCell w ⟨g,3,none⟩ _ b (Ne.symm h.d2)),h.d1,h.d2,h.d3⟩
theorem LAt.setRow (h:LAt w g a b D) {l:List ByteArray} (hl:l.length = D.on.length):LAt (w.setRow a (onC l).toArray) g a b ⟨l,D.new,D.left,D.down⟩:=by
 refine ⟨(row_far _ h.d1).trans ?_,cel_row h.ro _,h.mp.kept (row_far _ (Ne.symm h.d3)),h.d1,h.d2,h.d3⟩
 show Cel w g _ [.slice _ l.length l.length,_,_,_]
 rw [hl]
 exact h.cel
theorem LAt.setMap (h:LAt w g a b D) {l:List ByteArray} (hm:SecMap w' b l) (hg:w.grownBy w' (some b)):LAt w' g a b ⟨D.on,l,D.left,D.down⟩ :=
 ⟨(hg.block g h.cel.lt (fun e=>h.d2 (Option.some.inj e))).trans h.cel,(hg.block a h.ro.lt (fun e=>h.d3 (Option.some.inj e))).trans h.ro,hm,h.d1,h.d2,h.d3⟩
theorem lfoot_g:LFoot g a b g:=.inl rfl
theorem lfoot_a:LFoot g a b a:=.inr (.inl rfl)
theorem lfoot_b:LFoot g a b b:=.inr (.inr rfl)
theorem lburn_any (h:LAt w g a b D) (hok:DevOk D) :
  Calls Tryz.prog 167 #[.pointer (some ⟨g,0,none⟩)] w fun e w'=>e = .returned (.bool (burn D).2) ∧ LAt w' g a b (burn D).1 ∧ Fr (LFoot g a b) (LFoot g a b) w w':=by
 have k2:=h.cel.cell (i:=2) rfl
 have hlf:=hok.lft
 by_cases h0:D.left = 0
 ·rw [h0] at k2
  have E:=Lib.hid (show burn D = (D,false) from by unfold burn;rw [if_pos h0])
  have H:=Lib.hid h
  clear h h0 hok hlf
  go_enter Tryz.func167,Tryz.ntmps167
  go_wp2_with fail
  go_ret
  exact ⟨by rw [E.out];rfl,by rw [E.out];exact H.out,Fr.refl _ _⟩
 ·obtain ⟨m,hm⟩:∃ m,D.left = m + 1:=⟨D.left - 1,by omega⟩
  have E:=Lib.hid (show burn D = (⟨D.on,D.new,m,D.left == 1⟩,D.left == 1) from by unfold burn;rw [if_neg h0,hm,Nat.add_sub_cancel])
  rw [hm] at E
  have e1:(m + 1 == 1) = ((m:Int) == 0):=by rw [Bool.eq_iff_iff];simp
  rw [e1] at E
  have kq:=fun i=>h.cel.free (i:=i)
  have hA:=h.setLeft m
  have hF:=(Fr.refl (LFoot g a b) w).set (p:=⟨g,2,none⟩) lfoot_g (.int .i64 (m:Int))
  rw [hm] at k2
  have k2':w.cell? ⟨g,2,none⟩ = some (.int .i64 ((m:Int) + 1)):=by rw [k2];rfl
  have pm:(m:Int) < 1048576:=by omega
  have w1:IntKind.i64.wrap ((m:Int) + 1 - 1) = (m:Int):=by rw [Int.add_sub_cancel];exact i64_wrap (by omega) (by omega)
  have w2:(m:Int) + 1 - 1 = (m:Int):=by omega
  have q0:((m:Int) + 1 == 0) = false:=by simp;omega
  have HA:=Lib.hid hA
  have HF:=Lib.hid hF
  clear h hok hA hF hm h0 k2 hlf e1
  go_enter Tryz.func167,Tryz.ntmps167
  go_upto_region 4 with fail
  try simp only [w2,w1]
  generalize w.setCell ⟨g,2,none⟩ (.int .i64 (m:Int)) = W1 at HA HF ⊢
  clear kq k2' w1 w2 q0
  have k2:=HA.out.cel.cell (i:=2) rfl
  have k3:=HA.out.cel.cell (i:=3) rfl
  have kq:=fun i=>HA.out.cel.free (i:=i)
  have HA2:=Lib.hid (HA.out.setDown ((m:Int) == 0))
  have HF2:=Lib.hid (HF.out.set (p:=⟨g,3,none⟩) lfoot_g (.bool ((m:Int) == 0)))
  obtain ⟨x,hb⟩:∃ x,((m:Int) == 0) = x:=⟨_,rfl⟩
  rw [hb] at E HA2 HF2
  clear HA HF
  go_upto_region 5 with fail
  generalize W1.setCell ⟨g,3,none⟩ (.bool x) = W2 at HA2 HF2 ⊢
  clear kq k2 k3 hb
  have k3:=HA2.out.cel.cell (i:=3) rfl
  go_wp2_with fail
  go_ret
  exact ⟨by rw [E.out];rfl,by rw [E.out];exact HA2.out,HF2.out⟩
def fdV (D:Dev) (i:Int):Int:=if D.down = true then 90 else if i < 0 ∨ (D.on.length:Int) ≤ i then 1 else 0
theorem fd_rd (D:Dev) (i:Int):(rdV D i).2 = fdV D i:=by
 unfold rdV fdV
 split
 ·rfl
 split
 ·rfl
 ·rfl
theorem lfind_any (h:LAt w g a b D) (hok:DevOk D) (i:Int) :
  Calls Tryz.prog 166 #[.pointer (some ⟨g,0,none⟩),.int .i64 i] w fun e w'=>e = .returned (.int .i64 (fdV D i)) ∧ w' = w:=by
 have k0:=h.cel.cell (i:=0) rfl
 have k3:=h.cel.cell (i:=3) rfl
 have pl:(D.on.length:Int) ≤ 2048:=by have:=hok.max;omega
 by_cases hd:D.down = true
 ·have E:=Lib.hid (show fdV D i = 90 from by unfold fdV;rw [if_pos hd])
  rw [hd] at k3
  clear h hd hok
  go_enter Tryz.func166,Tryz.ntmps166
  go_wp2_with fail
  go_ret
  exact ⟨by rw [E.out];rfl,rfl⟩
 have hd':D.down = false:=by simpa using hd
 rw [hd'] at k3
 by_cases h0:i < 0
 ·have E:=Lib.hid (show fdV D i = 1 from by unfold fdV;rw [if_neg hd,if_pos (.inl h0)])
  clear h hd hok hd'
  go_enter Tryz.func166,Tryz.ntmps166
  go_wp2_with fail
  go_ret
  exact ⟨by rw [E.out];rfl,rfl⟩
 by_cases h1:(D.on.length:Int) ≤ i
 ·have E:=Lib.hid (show fdV D i = 1 from by unfold fdV;rw [if_neg hd,if_pos (.inr h1)])
  clear h hd hok hd'
  go_enter Tryz.func166,Tryz.ntmps166
  go_wp2_with fail
  go_ret
  exact ⟨by rw [E.out];rfl,rfl⟩
 ·have E:=Lib.hid (show fdV D i = 0 from by unfold fdV;rw [if_neg hd,if_neg (by omega)])
  clear h hd hok hd'
  go_enter Tryz.func166,Tryz.ntmps166
  go_wp2_with fail
  go_ret
  exact ⟨by rw [E.out];rfl,rfl⟩
theorem lsize_any (h:LAt w g a b D) :
  Calls Tryz.prog 48 #[.pointer (some ⟨g,0,none⟩)] w fun e w'=>e = .returned (.int .i64 (D.on.length:Int)) ∧ w' = w:=by
 have k0:=h.cel.cell (i:=0) rfl
 clear h
 go_enter Tryz.func48,Tryz.ntmps48
 go_wp2_with fail
 go_ret
 exact ⟨rfl,rfl⟩
def calm (D:Dev) (m:Nat):Dev:=⟨D.on,List.replicate m nil0,0,false⟩
theorem lrestart_any (h:LAt w g a b D) (m:Nat) :
  Calls Tryz.prog 40 #[.pointer (some ⟨g,0,none⟩)] w fun e w'=>e = .returned (.tuple #[]) ∧ LAt w' g a b (calm D m) ∧ Fr (LFoot g a b) (LFoot g a b) w w':=by
 have k1:=h.cel.cell (i:=1) rfl
 obtain ⟨W,hc,hm,hg,hz⟩:=h.mp.clear 0 m
 have hA:=h.setMap hm hg
 have hF:=(Fr.refl (LFoot g a b) w).grown (.inl lfoot_b) hg
 have k2:=hA.cel.cell (i:=2) rfl
 have k3:=hA.cel.cell (i:=3) rfl
 have kq:=fun i=>hA.cel.free (i:=i)
 have HA:=Lib.hid (And.intro ((hA.setLeft 0).setDown false) ((hF.set (p:=⟨g,2,none⟩) lfoot_g (.int .i64 ((0:Nat):Int))).set (p:=⟨g,3,none⟩) lfoot_g (.bool false)))
 clear h hm hg hz hA hF
 go_enter Tryz.func40,Tryz.ntmps40
 go_wp2_with fail
 refine bodyPost_end (results_none rfl _ _ _) rfl ?_
 exact ⟨rfl,HA.out.1,HA.out.2⟩
end
def Rep (W:World) (F:Nat → Prop) (g:Nat) (D:Dev):Prop:=∃ a b,F = LFoot g a b ∧ LAt W g a b D ∧ DevOk D
theorem cut_tmod (p:Int):(p.tmod 64 + 64).tmod 64 = (((p % 64).toNat:Nat):Int) ∧ -64 < p.tmod 64 ∧ p.tmod 64 < 64:=by
 have:=among_eq p 64 (by omega)
 unfold amongV at this
 exact this
theorem reached_any (p:Int) (w:World):Calls Tryz.prog 39 #[.int .i64 p] w fun e w'=>e = .returned (.int .i64 (cutN p:Int)) ∧ w' = w:=by
 by_cases h0:p = 0
 ·subst h0
  go_enter Tryz.func39,Tryz.ntmps39
  go_wp2
  go_ret
  exact ⟨rfl,rfl⟩
 by_cases h1:p = 1
 ·subst h1
  go_enter Tryz.func39,Tryz.ntmps39
  go_wp2
  go_ret
  exact ⟨rfl,rfl⟩
 obtain ⟨e1,e2,e3⟩:=cut_tmod p
 have q0:(p == 0) = false:=by simpa using h0
 have q1:(p == 1) = false:=by simpa using h1
 have e6:wrap64 (p.tmod 64 + 64) = p.tmod 64 + 64:=IntWalk.wrap64_in _ ⟨by omega,by omega⟩
 have E:Hid ((wrap64 (p.tmod 64 + 64)).tmod 64 = (cutN p:Int)):=by
  show _ = _
  rw [e6,e1]
  unfold cutN
  rw [if_neg h0,if_neg h1]
 clear e1 e2 e3 e6 h0 h1
 go_enter Tryz.func39,Tryz.ntmps39
 go_wp2
 go_ret
 exact ⟨ret_int E.out,rfl⟩
theorem made_zeros (n:Nat):madeCells (List.replicate 64 (Value.int .u8 0)).toArray (n * 64) = (onC (List.replicate n zero64)).toArray:=by
 rw [zeros_row]
 have hf:∀ x:Nat,(List.replicate 64 (Value.int .u8 0)).toArray[x % (List.replicate 64 (Value.int .u8 0)).toArray.size]! = Value.int .u8 0:=fun x=>by
  have h3:x % 64 < 64:=Nat.mod_lt _ (by omega)
  rw [List.size_toArray,List.length_replicate,getElem!_pos _ _ (by rw [List.size_toArray,List.length_replicate];exact h3),List.getElem_toArray,List.getElem_replicate]
 have e:madeCells (List.replicate 64 (Value.int .u8 0)).toArray (n * 64) = (Array.range (n * 64)).map (fun _=>Value.int .u8 0):=by
  unfold madeCells
  exact congrArg (fun f=>Array.map f _) (funext hf)
 rw [e]
 apply Array.toList_inj.1
 rw [Array.toList_map,Array.toList_range,List.map_const',List.length_range]
theorem make_sec (W:World) (m:Nat) (hm:m ≤ 2048):(Instr.makeSlice 65 (.int .i64 (m:Int)) (.int .i64 (m:Int))).run Tryz.prog W = .ok (.slice (some ⟨W.heap.size,0,none⟩) m m) (W.alloc (.cells (onC (List.replicate m zero64)).toArray 99)):=by
 obtain ⟨i0,hi,hz0,hz1,hz2⟩:=info_parts Tryz.infoSec
 have h:=run_make (P:=Tryz.prog) W 65 99 i0 _ Tryz.underlying65 hi hz0 .i64 .i64 m m (by omega) (by omega) (by rw [hz2];omega) (by omega)
 rw [h,hz1,Int.toNat_natCast]
 congr 3
 exact made_zeros m
def NewAns (n:Int) (w:World):Ending → World → Prop:=fun e w' =>
 (1 ≤ n ∧ n ≤ 2048 ∧ ∃ (F:Nat → Prop) (g:Nat),e = .returned (.tuple #[.pointer (some ⟨g,0,none⟩),.int .i64 0]) ∧ Rep w' F g (new0 n.toNat) ∧ (∀ k,F k → w.heap.size ≤ k) ∧ Below w.heap.size w w') ∨
 (¬ (1 ≤ n ∧ n ≤ 2048) ∧ e = .returned (.tuple #[.pointer none,.int .i64 1]) ∧ Below w.heap.size w w')
theorem lnew_any (n:Int) (w:World):Calls Tryz.prog 5 #[.int .i64 n] w (NewAns n w):=by
 by_cases h0:n < 1
 ·have HMk:Hid (NewAns n w (.returned (.tuple #[.pointer none,.int .i64 1])) w):=Lib.hid (.inr ⟨by omega,rfl,Below.refl _ _⟩)
  go_enter Tryz.func5,Tryz.ntmps5
  go_wp2_with fail
  go_ret2
  exact HMk.out
 by_cases h1:2048 < n
 ·have HMk:Hid (NewAns n w (.returned (.tuple #[.pointer none,.int .i64 1])) w):=Lib.hid (.inr ⟨by omega,rfl,Below.refl _ _⟩)
  go_enter Tryz.func5,Tryz.ntmps5
  go_wp2_with fail
  go_ret2
  exact HMk.out
 obtain ⟨m,rfl⟩:∃ m:Nat,n = (m:Int):=⟨n.toNat,by omega⟩
 have hmk:=fun W=>make_sec W m (by omega)
 have hmm:=@run_makeMap Tryz.prog
 obtain ⟨M,hM⟩:∃ M,M = (onC (List.replicate m zero64)).toArray:=⟨_,rfl⟩
 rw [← hM] at hmk
 obtain ⟨G,hG⟩:∃ G:Array Value,G = #[.slice (some ⟨w.heap.size,0,none⟩) m m,.map (some (w.heap.size + 1)),.int .i64 0,.bool false]:=⟨_,rfl⟩
 have HMk:Hid (NewAns (m:Int) w (.returned (.tuple #[.pointer (some ⟨w.heap.size + 2,0,none⟩),.int .i64 0])) (((w.alloc (.cells M 99)).alloc (.map #[] 0)).alloc (.cells G 68))):=by
  refine Lib.hid (.inl ⟨by omega,by omega,LFoot (w.heap.size + 2) w.heap.size (w.heap.size + 1),w.heap.size + 2,rfl,⟨_,_,rfl,?_,?_⟩,?_,?_⟩)
  ·obtain ⟨b1,b2,b3,b4⟩:=blk3 w (.cells M 99) (.map #[] 0) (.cells G 68)
   rw [Int.toNat_natCast]
   refine ⟨?_,?_,?_,by omega,by omega,by omega⟩
   ·show _ = _
    rw [b4,hG]
    simp [new0]
   ·show _ = _
    rw [b2,hM];rfl
   ·have h1:=secMap_made (w.alloc (.cells M 99)) m
    have h2:(w.alloc (.cells M 99)).heap.size = w.heap.size + 1:=(blk1 w _).1
    rw [h2] at h1
    refine h1.kept ?_
    rw [b3]
    have:=(blk2 w (.cells M 99) (.map #[] 0)).2.2
    rw [this]
  ·rw [Int.toNat_natCast];exact new0_ok (by omega) (by omega)
  ·intro k hk
   rcases hk with rfl | rfl | rfl <;> omega
  ·have h1:=(Below.refl w.heap.size w).alloc (Nat.le_refl _) (.cells M 99)
   have h2:=h1.alloc h1.size (.map #[] 0)
   exact h2.alloc h2.size _
 rw [hG] at HMk
 have p1:(1:Int) ≤ (m:Int):=by omega
 have p2:(m:Int) ≤ 2048:=by omega
 clear hM hG h0 h1
 go_enter Tryz.func5,Tryz.ntmps5
 go_wp2_with fail
 go_ret2
 exact HMk.out
theorem back_sec {w:World} {g:Nat} {s:ByteArray} (h:Cel w g 99 (secC s)) (hs:s.size = 64) :
  (convert 41 9 (.slice (some ⟨g,0,none⟩) 64 64)).run Tryz.prog w = .ok (.string s) w:=by
 have hl:s.data.toList.length = 64:=hs
 have:=run_convert_bytes_back (P:=Tryz.prog) w 41 9 5 ⟨g,0,none⟩ 64 s.data.toList Tryz.underlying41 Tryz.underlying5 Tryz.underlying9 (fun j hj=>by
  rw [addr_head]
  refine h.cell ?_
  unfold secC Lib.byteCells
  rw [List.getElem?_map,List.getElem?_eq_getElem hj];rfl)
 rwa [hl] at this
theorem put_cells (w:World) (Z:List Value) (hz:Z.length = 64) {t:ByteArray} (ht:t.size = 64) :
  (storeCells ⟨w.heap.size,0,none⟩ (secC t)).run Tryz.prog (w.alloc (.cells Z.toArray 99)) = .ok () (w.alloc (.cells (secC t).toArray 99)):=by
 have hl:(secC t).toArray.size = 64:=by rw [List.size_toArray,secC_len,ht]
 exact run_storeCells_new w 99 Z.toArray (secC t).toArray (by rw [size_sec,hl]) (by rw [List.size_toArray,hz,hl]) (all_oneCell_toArray (secC_one t))
section
variable {w w':World} {g a b:Nat} {D:Dev}
theorem lread_any (h:LAt w g a b D) (hok:DevOk D) (i:Int) (hi:-9223372036854775808 ≤ i ∧ i ≤ 9223372036854775807) :
  Calls Tryz.prog 116 #[.pointer (some ⟨g,0,none⟩),.int .i64 i] w fun e w'=>e = .returned (.tuple #[.string (rdV D i).1,.int .i64 (rdV D i).2]) ∧ Below w.heap.size w w':=by
 have HFd:=Lib.hid (lfind_any h hok i)
 by_cases hr:fdV D i = 0
 case neg =>
  have E:=Lib.hid (show rdV D i = (nil0,fdV D i) from by
   rw [← fd_rd] at hr ⊢
   unfold rdV at hr ⊢
   split
   ·rfl
   split
   ·rfl
   next h1 h2=>rw [if_neg h1,if_neg h2] at hr;exact absurd rfl hr)
  have q0:(fdV D i != 0) = true:=by simpa using hr
  generalize fdV D i = z at HFd E q0
  clear h hok hr
  go_enter Tryz.func116,Tryz.ntmps116
  go_wp2_with fail
  refine HFd.out.mono ?_
  rintro e w1 ⟨rfl,rfl⟩
  go_wp2_with fail
  go_ret2
  exact ⟨by rw [E.out];rfl,Below.refl _ _⟩
 have hii:D.down = false ∧ 0 ≤ i ∧ i < (D.on.length:Int):=by
  unfold fdV at hr
  split at hr
  ·cases hr
  split at hr
  ·cases hr
  next h1 h2=>exact ⟨by simpa using h1,by omega,by omega⟩
 obtain ⟨hd,hi0,hi1⟩:=hii
 obtain ⟨j,rfl⟩:∃ j:Nat,i = (j:Int):=⟨i.toNat,by omega⟩
 have hj:j < D.on.length:=by omega
 have hj2:j < D.new.length:=by rw [hok.len];omega
 have k0:=h.cel.cell (i:=0) rfl
 have k1:=h.cel.cell (i:=1) rfl
 have hlk:=h.mp.look (x:=(j:Int)) hi.1 hi.2
 have hrd:rdV D (j:Int) = (if D.new.getD j nil0 = nil0 then D.on.getD j nil0 else D.new.getD j nil0,0):=by
  unfold rdV
  rw [if_neg (by simp [hd]),if_neg (by omega),Int.toNat_natCast]
 rw [hr] at HFd
 rw [slot_nat hj2] at hlk
 have hn64:=hok.new64 _ (getD_mem hj2)
 have hz:=zero_sec
 obtain ⟨Z,hZ⟩:∃ Z,Z = secC zero64:=⟨_,rfl⟩
 have hZs:Z.length = 64:=by rw [hZ,secC_len];rfl
 unfold secV at hz
 rw [← hZ] at hz
 have HB:Hid (∀ c,Below w.heap.size w (w.alloc (.cells c 99))):=Lib.hid (fun c=>(Below.refl _ w).alloc (Nat.le_refl _) _)
 by_cases hn:D.new.getD j nil0 = nil0
 ·have hld:(w.alloc (.cells (secC zero64).toArray 99)).rangeAt a (j * 64) (secC D.on[j]) :=
   sec_range (h.step (HB.out _)).ro hok.on64 hj
  have ho64:=hok.on64 _ (List.getElem_mem hj)
  rw [if_pos hn] at hlk hrd
  rw [getD_at hj] at hrd
  simp only [Option.getD_none,Option.isSome_none] at hlk
  unfold secV at hlk
  generalize D.on[j] = o at hld hrd ho64
  have hs1:=put_cells w Z hZs zero64_size
  have hs2:=put_cells w (secC zero64) (by rw [← hZ];exact hZs) ho64
  have hcv:=back_sec (w:=w.alloc (.cells (secC o).toArray 99)) (heap_alloc_new w _) ho64
  have hc1:(secC o).length = 64:=by rw [secC_len,ho64]
  have HL:=Lib.hid (show (Tryz.prog.info? 99).map (·.size) = some (secC o).length from by rw [size_sec,hc1])
  have E:=Lib.hid hrd
  generalize secC o = C1 at hld hs2 hcv hc1 HL
  have Hld:=Lib.hid hld
  clear hld
  rw [← hZ] at Hld hs1 hs2 hlk
  have pj:(j:Int) < (D.on.length:Int):=by omega
  have hgl:=h.cel.lt
  clear h hok hr hrd hn hn64 hZ hi ho64
  go_enter Tryz.func116,Tryz.ntmps116
  go_wp2_with fail
  refine HFd.out.mono ?_
  rintro e w1 ⟨rfl,rfl⟩
  go_wp2_with (refine wpList_load_mid rfl 99 _ rfl a (j * 64) rfl C1 _ Hld.out Tryz.underlying99 rfl HL.out ?_)
  go_ret2
  exact ⟨by rw [E.out];rfl,HB.out _⟩
 ·rw [if_neg hn] at hlk hrd
  simp only [Option.getD_some,Option.isSome_some] at hlk
  have hn64':=hn64.resolve_left hn
  generalize D.new.getD j nil0 = o at hlk hrd hn64'
  unfold secV at hlk
  have hs1:=put_cells w Z hZs hn64'
  have hcv:=back_sec (w:=w.alloc (.cells (secC o).toArray 99)) (heap_alloc_new w _) hn64'
  have hc1:(secC o).length = 64:=by rw [secC_len,hn64']
  have E:=Lib.hid hrd
  generalize secC o = C1 at hlk hs1 hcv hc1
  clear h hok hr hrd hn hn64 hZ hi hn64'
  go_enter Tryz.func116,Tryz.ntmps116
  go_wp2_with fail
  refine HFd.out.mono ?_
  rintro e w1 ⟨rfl,rfl⟩
  go_wp2_with fail
  go_ret2
  exact ⟨by rw [E.out];rfl,HB.out _⟩
end
end Sc
end Go.Proofs.YtlfkhlfkckfbpaaGreat
