/- Parts of the proof, joined: ScMap, ScLand1, ScLand2, ScLand3, ScLand4; their conditions stand with each. -/
import Derived.Lib.SlKeysI
import Derived.Maps.OwnOps
import Derived.Maps.OwnSet
import Derived.Maps.Views
import Derived.Maps.Range
import Derived.WalkArith
import Derived.Carry
import Derived.Maps.RangeWalk
import Derived.Test.YtmidncclndongaaGreatC7
import Derived.Test.YtmidncclndongaaGreatC17

set_option maxRecDepth 20000
set_option maxHeartbeats 8000000
namespace Go.Proofs.YtmidncclndongaaGreat
namespace Sc
open Go.RowKit Bk
open Classical in
noncomputable def rdSec (v:Value):Option (DataW Unit × List MemPlace) :=
 if h:∃ s:ByteArray,s.size = 64 ∧ v = secV s then some (.lit (.string (Classical.choose h).data.toList),[]) else none
def strD (s:ByteArray):DataW Unit:=.lit (.string s.data.toList)
theorem strD_inj {s t:ByteArray} (h:strD s = strD t):s = t:=by
 unfold strD at h
 simp only [DataW.lit.injEq,Lit.string.injEq] at h
 cases s;cases t
 congr 1
 exact Array.toList_inj.1 h
theorem rdSec_mk {s:ByteArray} (h:s.size = 64):rdSec (secV s) = some (strD s,[]):=by
 have hx:∃ t:ByteArray,t.size = 64 ∧ secV s = secV t:=⟨s,h,rfl⟩
 unfold rdSec
 rw [dif_pos hx]
 have e:=secV_inj (Classical.choose_spec hx).2
 rw [← e];rfl
theorem rdSec_inv {v:Value} {z:DataW Unit × List MemPlace} (h:rdSec v = some z):∃ s:ByteArray,s.size = 64 ∧ v = secV s ∧ z = (strD s,[]):=by
 have h0:=h
 unfold rdSec at h
 split at h
 next hx =>
  obtain ⟨s,hs,rfl⟩:=hx
  rw [rdSec_mk hs] at h0
  exact ⟨s,hs,rfl,(Option.some.inj h0).symm⟩
 ·cases h
def slot (new:List ByteArray) (x:Int):Option ByteArray :=
 if 0 ≤ x ∧ x < (new.length:Int) ∧ new.getD x.toNat nil0 ≠ nil0 then some (new.getD x.toNat nil0) else none
theorem slot_nat {new:List ByteArray} {i:Nat} (h:i < new.length):slot new (i:Int) = if new.getD i nil0 = nil0 then none else some (new.getD i nil0):=by
 unfold slot
 rw [Int.toNat_natCast]
 by_cases e:new.getD i nil0 = nil0
 ·rw [if_neg (fun hc=>hc.2.2 e),if_pos e]
 ·rw [if_pos ⟨by omega,by omega,e⟩,if_neg e]
theorem slot_some {new:List ByteArray} {x:Int} (h:(slot new x).isSome = true):∃ i:Nat,x = (i:Int) ∧ i < new.length ∧ new.getD i nil0 ≠ nil0:=by
 unfold slot at h
 split at h
 next hc =>
  obtain ⟨h0,h1,h2⟩:=hc
  exact ⟨x.toNat,by omega,by omega,h2⟩
 ·cases h
theorem slot_set {new:List ByteArray} {i:Nat} (h:i < new.length) {t:ByteArray} (ht:t ≠ nil0) (x:Int):slot (new.set i t) x = if x = (i:Int) then some t else slot new x:=by
 by_cases e:x = (i:Int)
 ·subst e
  rw [if_pos rfl,slot_nat (by simpa using h)]
  have:(new.set i t).getD i nil0 = t:=by rw [List.getD_eq_getElem?_getD,List.getElem?_set_self h];rfl
  rw [this,if_neg ht]
 ·rw [if_neg e]
  unfold slot
  rw [List.length_set]
  by_cases hx:0 ≤ x ∧ x < (new.length:Int)
  ·have:(new.set i t).getD x.toNat nil0 = new.getD x.toNat nil0:=by
    rw [List.getD_eq_getElem?_getD,List.getD_eq_getElem?_getD,List.getElem?_set_ne (by omega)]
   rw [this]
  ·rw [if_neg (fun hc=>hx ⟨hc.1,hc.2.1⟩),if_neg (fun hc=>hx ⟨hc.1,hc.2.1⟩)]
theorem slot_none (n:Nat) (x:Int):slot (List.replicate n nil0) x = none:=by
 unfold slot
 rw [if_neg]
 rintro ⟨h0,h1,h2⟩
 rw [List.length_replicate] at h1
 rw [List.getD_eq_getElem?_getD,List.getElem?_replicate,if_pos (by omega)] at h2
 exact h2 rfl
def dirtyK (new:List ByteArray) (n:Nat):List Int:=((List.range n).filter fun i=>decide (new.getD i nil0 ≠ nil0)).map Int.ofNat
theorem dirtyK_nodup (new:List ByteArray) (n:Nat):(dirtyK new n).Nodup:=by
 unfold dirtyK
 refine List.pairwise_map.2 ((List.nodup_range.filter _).imp fun {a b} hne e=>hne (Int.ofNat.inj e))
theorem dirtyK_mem {new:List ByteArray} {x:Int}:x ∈ dirtyK new new.length ↔ (slot new x).isSome = true:=by
 unfold dirtyK
 rw [List.mem_map]
 constructor
 ·rintro ⟨i,hi,rfl⟩
  rw [List.mem_filter,List.mem_range] at hi
  have:=hi.2
  simp only [ne_eq,decide_not,Bool.not_eq_eq_eq_not,Bool.not_true,decide_eq_false_iff_not] at this
  show (slot new (i:Int)).isSome = true
  rw [slot_nat hi.1,if_neg this];rfl
 ·intro h
  obtain ⟨i,rfl,h1,h2⟩:=slot_some h
  exact ⟨i,by rw [List.mem_filter,List.mem_range];exact ⟨h1,by simpa using h2⟩,rfl⟩
theorem dirtyK_succ (new:List ByteArray) (n:Nat):dirtyK new (n + 1) = dirtyK new n ++ if new.getD n nil0 = nil0 then [] else [(n:Int)]:=by
 unfold dirtyK
 rw [List.range_succ,List.filter_append,List.map_append]
 congr 1
 by_cases h:new.getD n nil0 = nil0
 ·rw [if_pos h,List.filter_cons_of_neg (by rw [decide_eq_true_eq];exact fun hc=>hc h)];rfl
 ·rw [if_neg h,List.filter_cons_of_pos (by rw [decide_eq_true_eq];exact h)];rfl
theorem dirtyK_cnt {new:List ByteArray}:∀ {n:Nat},n ≤ new.length → (dirtyK new n).length = cnt new n
 | 0,_=>by simp [dirtyK,cnt]
 | n + 1,h=>by
  rw [dirtyK_succ,List.length_append,dirtyK_cnt (n:=n) (by omega),cnt_succ (show n < new.length by omega),getD_at (show n < new.length by omega)]
  by_cases e:new[n] = nil0
  ·rw [if_pos e,if_pos e];rfl
  ·rw [if_neg e,if_neg e];rfl
theorem dirtyK_at {new:List ByteArray}:∀ {n:Nat},n ≤ new.length → ∀ {j:Nat} {x:Int},(dirtyK new n)[j]? = some x → ∃ i:Nat,x = (i:Int) ∧ i < n ∧ new.getD i nil0 ≠ nil0 ∧ cnt new i = j
 | 0,_,j,x,h=>by simp [dirtyK] at h
 | n + 1,hn,j,x,h=>by
  rw [dirtyK_succ] at h
  by_cases hj:j < (dirtyK new n).length
  ·rw [List.getElem?_append_left hj] at h
   obtain ⟨i,h1,h2,h3⟩:=dirtyK_at (n:=n) (by omega) h
   exact ⟨i,h1,by omega,h3⟩
  ·rw [List.getElem?_append_right (by omega)] at h
   by_cases e:new.getD n nil0 = nil0
   ·rw [if_pos e] at h;simp at h
   ·rw [if_neg e] at h
    have hj2:j - (dirtyK new n).length = 0:=by
     have:=(List.getElem?_eq_some_iff.1 h).1
     simp at this;omega
    rw [hj2] at h
    simp only [List.length_cons,List.length_nil,Nat.zero_add,Nat.lt_add_one,getElem?_pos,List.getElem_cons_zero,Option.some.injEq] at h
    exact ⟨n,h.symm,by omega,e,by rw [← dirtyK_cnt (show n ≤ new.length by omega)];omega⟩
theorem dirtyK_sorted (new:List ByteArray) (n:Nat):(dirtyK new n).Pairwise (fun a b=>leI a b = true):=by
 unfold dirtyK
 rw [List.pairwise_map]
 refine (List.pairwise_lt_range.filter _).imp fun {a b} h=>?_
 simp only [leI,decide_eq_true_eq]
 show (a:Int) ≤ (b:Int)
 omega
theorem Tryz.keyedInt:Go.Maps.Keyed Tryz.prog 3:=Go.Maps.int_keyed Tryz.underlying3
structure Says (D:DataW Unit) (new:List ByteArray):Prop where
 has:∀ x:Int,Maps.has D (.int .i64 x) = (slot new x).isSome
 at_:∀ (x:Int) (s:ByteArray),slot new x = some s → ∀ z,D.atKey (.int .i64 x) z = strD s
def SecMap (w:World) (b:Nat) (new:List ByteArray):Prop:=∃ D:DataW Unit,w.ownsMap Tryz.prog 3 rdSec b new.length D ∧ Says D new
theorem tight {H:Type} {P:Program} {k:TypeId} {R:Value → Option (DataW H × List MemPlace)} {w:World} {b n:Nat} {D:DataW H} (h:w.ownsMap P k R b n D) {m:Nat} (hm:Maps.size D ≤ m):w.ownsMap P k R b m D:=by
 obtain ⟨es,clock,hb,F,hs,rfl⟩:=h
 refine ⟨es,clock,hb,F,?_,rfl⟩
 rw [Maps.size_eq,length_read] at hm
 exact hm
section
variable {w w':World} {b n:Nat} {new:List ByteArray} {D:DataW Unit}
theorem keys_perm (h:w.ownsMap Tryz.prog 3 rdSec b n D) (hs:Says D new):(dirtyK new new.length).Perm (intKeys D):=by
 obtain ⟨es,hD,hpw,_⟩:=h.entries Tryz.keyedInt
 obtain ⟨es',hD',hko⟩:=h.keysOf
 obtain rfl:es = es':=by rw [hD] at hD';simpa using hD'
 subst hD
 exact perm_intKeys hpw (fun p hp=>by obtain ⟨v,hv⟩:=hko p hp;obtain ⟨x,_,hx,_⟩:=Maps.keyOf_i64 Tryz.underlying3 hv;exact ⟨x,hx⟩) (dirtyK_nodup _ _) (fun x=>by rw [hs.has x];exact dirtyK_mem)
theorem size_cnt (h:w.ownsMap Tryz.prog 3 rdSec b n D) (hs:Says D new):Maps.size D = cnt new new.length:=by
 have h1:=(keys_perm h hs).length_eq
 rw [dirtyK_cnt (Nat.le_refl _)] at h1
 rw [h1]
 obtain ⟨es,hD,_⟩:=h.entries Tryz.keyedInt
 subst hD
 simp [Maps.size_eq,intKeys]
theorem SecMap.lt (h:SecMap w b new):b < w.heap.size:=by
 obtain ⟨D,h1,_⟩:=h
 exact h1.lt
theorem SecMap.kept (h:SecMap w b new) (hk:w'.heap[b]? = w.heap[b]?):SecMap w' b new:=by
 obtain ⟨D,⟨es,clock,h1,h2⟩,h3⟩:=h
 exact ⟨D,⟨es,clock,hk.trans h1,h2⟩,h3⟩
theorem secMap_made (w:World) (n:Nat):SecMap (w.alloc (.map #[] 0)) w.heap.size (List.replicate n nil0) :=
 ⟨.map [],(World.ownsMap_made _ _ _ _).mono (Nat.zero_le _),fun x=>by rw [slot_none];rfl,fun x s h=>by rw [slot_none] at h;cases h⟩
theorem SecMap.look (h:SecMap w b new) {x:Int} (h1:-9223372036854775808 ≤ x) (h2:x ≤ 9223372036854775807) :
  (Instr.lookup 96 (.map (some b)) (.int .i64 x) true).run Tryz.prog w = .ok (.tuple #[secV ((slot new x).getD zero64),.bool (slot new x).isSome]) w:=by
 obtain ⟨D,hD,hs⟩:=h
 obtain ⟨v,ps,hrun,hR⟩:=hD.look_ok (t:=96) Tryz.keyedInt Tryz.underlying96 (zero_sec w) (rdSec_mk zero64_size)
  (Go.Maps.keyOf_int_mk Tryz.underlying3 (WalkArith.wf_i64 ⟨h1,h2⟩))
 obtain ⟨s,hs64,rfl,hz⟩:=rdSec_inv hR
 have e:=congrArg Prod.fst hz
 simp only at e
 rw [hrun,hs.has x]
 congr 4
 cases hsl:slot new x with
 | none =>
  have hh:=hs.has x
  rw [hsl] at hh
  rw [Maps.atKey_of_not_has hh] at e
  rw [strD_inj e];rfl
 | some t =>
  rw [hs.at_ x t hsl] at e
  rw [strD_inj e];rfl
theorem SecMap.look1 (h:SecMap w b new) {x:Int} (h1:-9223372036854775808 ≤ x) (h2:x ≤ 9223372036854775807) {t:ByteArray} (hsl:slot new x = some t) :
  (Instr.lookup 96 (.map (some b)) (.int .i64 x) false).run Tryz.prog w = .ok (secV t) w:=by
 obtain ⟨D,hD,hs⟩:=h
 obtain ⟨v,ps,hrun,hR⟩:=hD.lookup (t:=96) Tryz.keyedInt Tryz.underlying96 (zero_sec w) (rdSec_mk zero64_size)
  (Go.Maps.keyOf_int_mk Tryz.underlying3 (WalkArith.wf_i64 ⟨h1,h2⟩))
 obtain ⟨s,hs64,rfl,hz⟩:=rdSec_inv hR
 have e:=congrArg Prod.fst hz
 simp only at e
 rw [hs.at_ x t hsl] at e
 rw [hrun,strD_inj e]
theorem SecMap.store (h:SecMap w b new) (hn:new.length < maxLen) {i:Nat} (hi:i < new.length) {t:ByteArray} (ht:t.size = 64) :
  ∃ w',(Instr.mapUpdate 96 (.map (some b)) (.int .i64 (i:Int)) (secV t)).run Tryz.prog w = .ok () w' ∧ SecMap w' b (new.set i t) ∧ w.grownBy w' (some b) ∧ w'.heap.size = w.heap.size:=by
 have h64:maxLen ≤ 9223372036854775807:=by unfold maxLen;omega
 have tn:t ≠ nil0:=fun e=>by rw [e,nil0_size] at ht;cases ht
 obtain ⟨D,hD,hs⟩:=h
 have hm:=hD.isMap
 obtain ⟨w',hrun,ho,htn⟩:=hD.store (t:=96) Tryz.keyedInt Tryz.underlying96 hn (Go.Maps.keyOf_int_mk Tryz.underlying3 (WalkArith.wf_i64 (n:=(i:Int)) ⟨by omega,by omega⟩)) (rdSec_mk ht)
 have hg:=htn.grown
 have hsz:w'.heap.size = w.heap.size:=by
  obtain ⟨es,clock,es',clock',_,rfl⟩:=htn
  simp [ChangeMaps.setBlock]
 have hs':Says (D.put (.int .i64 (i:Int)) (strD t)) (new.set i t):=by
  refine ⟨fun x=>?_,fun x s hx z=>?_⟩
  ·rw [slot_set hi tn]
   by_cases e:x = (i:Int)
   ·subst e;rw [if_pos rfl];exact Maps.has_put_same hm (by simp [WideAt.IsKeyLit]) _
   ·rw [if_neg e]
    have hne:Lit.int .i64 x ≠ Lit.int .i64 (i:Int):=fun h=>e (by injection h)
    rw [Maps.has_put_other hne];exact hs.has x
  ·rw [slot_set hi tn] at hx
   by_cases e:x = (i:Int)
   ·subst e;rw [if_pos rfl] at hx;cases hx;exact Maps.atKey_put_same hm (by simp [WideAt.IsKeyLit]) _ _
   ·rw [if_neg e] at hx
    have hne:Lit.int .i64 x ≠ Lit.int .i64 (i:Int):=fun h=>e (by injection h)
    rw [Maps.atKey_put_other hne];exact hs.at_ x s hx z
 refine ⟨w',hrun,⟨_,tight ho ?_,hs'⟩,hg,hsz⟩
 rw [size_cnt ho hs']
 exact cnt_le _ _
theorem SecMap.clear (h:SecMap w b new) (ty:TypeId) (m:Nat):∃ w',(Builtin.clear_ #[96] ty #[.map (some b)]).run Tryz.prog w = .ok (.tuple #[]) w' ∧ SecMap w' b (List.replicate m nil0) ∧ w.grownBy w' (some b) ∧ w'.heap.size = w.heap.size:=by
 obtain ⟨D,⟨es,clock,hb,_⟩,_⟩:=h
 refine ⟨ChangeMaps.setBlock w b (.map #[] clock),?_,⟨.map [],⟨#[],clock,ChangeMaps.heap_setBlock_same hb _,⟨by simp,MapKept.stamped_empty clock,by simp⟩,by simp,rfl⟩,fun x=>by rw [slot_none];rfl,fun x s h=>by rw [slot_none] at h;cases h⟩,
  ⟨rfl,rfl,rfl,by simp [ChangeMaps.setBlock],fun i _ hi=>ChangeMaps.heap_setBlock_other hb _ (fun e=>hi (by rw [e]))⟩,by simp [ChangeMaps.setBlock]⟩
 simp [Builtin.clear_,run_underlying Tryz.underlying96,MapKept.run_getObj_map hb,MapKept.run_setObj_map _ hb,Result.andThen,ChangeMaps.setBlock]
end
end Sc
end Go.Proofs.YtmidncclndongaaGreat
namespace Go.Proofs.YtmidncclndongaaGreat
namespace Sc
open Go.RowKit Bk
attribute [local go_sem ↓] Go.wp_at_zero Go.wp_at_succ
attribute [local go_sem] floatUpon pick
structure LAt (w:World) (g a b:Nat) (D:Dev):Prop where
 cel:Cel w g 98 [.slice (some ⟨a,0,none⟩) D.on.length D.on.length,.map (some b),.int .i64 (D.left:Int),.bool D.down]
 ro:Cel w a 117 (onC D.on)
 mp:SecMap w b D.new
 d1:g ≠ a
 d2:g ≠ b
 d3:a ≠ b
def LFoot (g a b:Nat):Nat → Prop:=fun k=>k = g ∨ k = a ∨ k = b
theorem Fr.row {F G:Nat → Prop} {w u:World} (h:Fr F G w u) {k:Nat} (hk:F k ∨ w.heap.size ≤ k) (c:Array Value):Fr F G w (u.setRow k c) :=
 ⟨h.os,h.tape,h.output,by simpa using h.size,fun i hi hn=>(row_far c (fun e=>by subst e;exact hk.elim hn (by omega))).trans (h.block i hi hn),h.foot⟩
theorem Fr.grown {F G:Nat → Prop} {w u v:World} (h:Fr F G w u) {k:Nat} (hk:F k ∨ w.heap.size ≤ k) (hg:u.grownBy v (some k)):Fr F G w v :=
 ⟨hg.os.trans h.os,hg.tape.trans h.tape,hg.output.trans h.output,Nat.le_trans h.size hg.size,
  fun i hi hn=>(hg.block i (Nat.lt_of_lt_of_le hi h.size) (fun e=>by simp only [Option.some.injEq] at e;subst e;exact hk.elim hn (by omega))).trans (h.block i hi hn),h.foot⟩
section
variable {w w':World} {g a b:Nat} {D:Dev}
theorem LAt.lt (h:LAt w g a b D):∀ k,LFoot g a b k → k < w.heap.size:=fun k hk=>by
 rcases hk with rfl | rfl | rfl
 ·exact h.cel.lt
 ·exact h.ro.lt
 ·exact h.mp.lt
theorem LAt.kept (h:LAt w g a b D) (hk:∀ k,LFoot g a b k → w'.heap[k]? = w.heap[k]?):LAt w' g a b D :=
 ⟨(hk _ (.inl rfl)).trans h.cel,(hk _ (.inr (.inl rfl))).trans h.ro,h.mp.kept (hk _ (.inr (.inr rfl))),h.d1,h.d2,h.d3⟩
theorem LAt.step (h:LAt w g a b D) (hb:Below w.heap.size w w'):LAt w' g a b D:=h.kept fun k hk=>hb.block k (h.lt k hk)
theorem LAt.setLeft (h:LAt w g a b D) (n:Nat):LAt (w.setCell ⟨g,2,none⟩ (.int .i64 (n:Int))) g a b ⟨D.on,D.new,n,D.down⟩ :=
 ⟨h.cel.set,h.ro.far (Ne.symm h.d1),h.mp.kept (Below.heap_setCell w ⟨g,2,none⟩ _ b (Ne.symm h.d2)),h.d1,h.d2,h.d3⟩
theorem LAt.setDown (h:LAt w g a b D) (x:Bool):LAt (w.setCell ⟨g,3,none⟩ (.bool x)) g a b ⟨D.on,D.new,D.left,x⟩ :=
 ⟨h.cel.set,h.ro.far (Ne.symm h.d1),h.mp.kept (Below.heap_setCell w ⟨g,3,none⟩ _ b (Ne.symm h.d2)),h.d1,h.d2,h.d3⟩
theorem LAt.setRow (h:LAt w g a b D) {l:List ByteArray} (hl:l.length = D.on.length):LAt (w.setRow a (onC l).toArray) g a b ⟨l,D.new,D.left,D.down⟩:=by
 refine ⟨(row_far _ h.d1).trans ?_,cel_row h.ro _,h.mp.kept (row_far _ (Ne.symm h.d3)),h.d1,h.d2,h.d3⟩
 show Cel w g _ [.slice _ l.length l.length,_,_,_]
 rw [hl]
 exact h.cel
theorem LAt.setMap (h:LAt w g a b D) {l:List ByteArray} (hm:SecMap w' b l) (hg:w.grownBy w' (some b)):LAt w' g a b ⟨D.on,l,D.left,D.down⟩ :=
 ⟨(hg.block g h.cel.lt (fun e=>h.d2 (Option.some.inj e))).trans h.cel,(hg.block a h.ro.lt (fun e=>h.d3 (Option.some.inj e))).trans h.ro,hm,h.d1,h.d2,h.d3⟩
theorem lfoot_g:LFoot g a b g:=.inl rfl
theorem lfoot_a:LFoot g a b a:=.inr (.inl rfl)
theorem lfoot_b:LFoot g a b b:=.inr (.inr rfl)
theorem lburn_any (h:LAt w g a b D) (hok:DevOk D) :
  Calls Tryz.prog 307 #[.pointer (some ⟨g,0,none⟩)] w fun e w'=>e = .returned (.bool (burn D).2) ∧ LAt w' g a b (burn D).1 ∧ Fr (LFoot g a b) (LFoot g a b) w w':=by
 have k2:=h.cel.cell (i:=2) rfl
 have hlf:=hok.lft
 by_cases h0:D.left = 0
 ·rw [h0] at k2
  have E:=Lib.hid (show burn D = (D,false) from by unfold burn;rw [if_pos h0])
  have H:=Lib.hid h
  clear h h0 hok hlf
  go_enter Tryz.func307,Tryz.ntmps307
  go_wp2_with fail
  go_ret
  exact ⟨by rw [E.out];rfl,by rw [E.out];exact H.out,Fr.refl _ _⟩
 ·obtain ⟨m,hm⟩:∃ m,D.left = m + 1:=⟨D.left - 1,by omega⟩
  have E:=Lib.hid (show burn D = (⟨D.on,D.new,m,D.left == 1⟩,D.left == 1) from by unfold burn;rw [if_neg h0,hm,Nat.add_sub_cancel])
  rw [hm] at E
  have e1:(m + 1 == 1) = ((m:Int) == 0):=by rw [Bool.eq_iff_iff];simp
  rw [e1] at E
  have kq:=fun i=>h.cel.free (i:=i)
  have hA:=h.setLeft m
  have hF:=(Fr.refl (LFoot g a b) w).set (p:=⟨g,2,none⟩) lfoot_g (.int .i64 (m:Int))
  rw [hm] at k2
  have k2':w.cell? ⟨g,2,none⟩ = some (.int .i64 ((m:Int) + 1)):=by rw [k2];rfl
  have pm:(m:Int) < 1048576:=by omega
  have w1:IntKind.i64.wrap ((m:Int) + 1 - 1) = (m:Int):=by rw [Int.add_sub_cancel];exact i64_wrap (by omega) (by omega)
  have w2:(m:Int) + 1 - 1 = (m:Int):=by omega
  have q0:((m:Int) + 1 == 0) = false:=by simp;omega
  have HA:=Lib.hid hA
  have HF:=Lib.hid hF
  clear h hok hA hF hm h0 k2 hlf e1
  go_enter Tryz.func307,Tryz.ntmps307
  go_upto_region 4 with fail
  try simp only [w2,w1]
  generalize w.setCell ⟨g,2,none⟩ (.int .i64 (m:Int)) = W1 at HA HF ⊢
  clear kq k2' w1 w2 q0
  have k2:=HA.out.cel.cell (i:=2) rfl
  have k3:=HA.out.cel.cell (i:=3) rfl
  have kq:=fun i=>HA.out.cel.free (i:=i)
  have HA2:=Lib.hid (HA.out.setDown ((m:Int) == 0))
  have HF2:=Lib.hid (HF.out.set (p:=⟨g,3,none⟩) lfoot_g (.bool ((m:Int) == 0)))
  obtain ⟨x,hb⟩:∃ x,((m:Int) == 0) = x:=⟨_,rfl⟩
  rw [hb] at E HA2 HF2
  clear HA HF
  go_upto_region 5 with fail
  generalize W1.setCell ⟨g,3,none⟩ (.bool x) = W2 at HA2 HF2 ⊢
  clear kq k2 k3 hb
  have k3:=HA2.out.cel.cell (i:=3) rfl
  go_wp2_with fail
  go_ret
  exact ⟨by rw [E.out];rfl,by rw [E.out];exact HA2.out,HF2.out⟩
theorem lfuse_any (h:LAt w g a b D) (n:Int) :
  Calls Tryz.prog 24 #[.pointer (some ⟨g,0,none⟩),.int .i64 n] w fun e w'=>e = .returned (.int .i64 (fuD D n).2) ∧ LAt w' g a b (fuD D n).1 ∧ Fr (LFoot g a b) (LFoot g a b) w w':=by
 have k2:=h.cel.cell (i:=2) rfl
 have k3:=h.cel.cell (i:=3) rfl
 by_cases hd:D.down = true
 ·have E:=Lib.hid (show fuD D n = (D,90) from by unfold fuD;rw [if_pos hd])
  rw [hd] at k3
  have H:=Lib.hid h
  clear h hd
  go_enter Tryz.func24,Tryz.ntmps24
  go_wp2_with fail
  go_ret
  exact ⟨by rw [E.out];rfl,by rw [E.out];exact H.out,Fr.refl _ _⟩
 have hd':D.down = false:=by simpa using hd
 rw [hd'] at k3
 by_cases h0:n < 0
 ·have E:=Lib.hid (show fuD D n = (D,1) from by unfold fuD;rw [if_neg hd,if_pos (.inl h0)])
  have H:=Lib.hid h
  clear h hd hd'
  go_enter Tryz.func24,Tryz.ntmps24
  go_wp2_with fail
  go_ret
  exact ⟨by rw [E.out];rfl,by rw [E.out];exact H.out,Fr.refl _ _⟩
 by_cases h1:1048576 < n
 ·have E:=Lib.hid (show fuD D n = (D,1) from by unfold fuD;rw [if_neg hd,if_pos (.inr h1)])
  have H:=Lib.hid h
  clear h hd hd'
  go_enter Tryz.func24,Tryz.ntmps24
  go_wp2_with fail
  go_ret
  exact ⟨by rw [E.out];rfl,by rw [E.out];exact H.out,Fr.refl _ _⟩
 obtain ⟨m,rfl⟩:∃ m:Nat,n = (m:Int):=⟨n.toNat,by omega⟩
 have E:=Lib.hid (show fuD D (m:Int) = (⟨D.on,D.new,m,D.down⟩,0) from by unfold fuD;rw [if_neg hd,if_neg (by omega),Int.toNat_natCast])
 have kq:=fun i=>h.cel.free (i:=i)
 have H:=Lib.hid (And.intro (h.setLeft m) ((Fr.refl (LFoot g a b) w).set (p:=⟨g,2,none⟩) lfoot_g (.int .i64 (m:Int))))
 clear h hd hd'
 go_enter Tryz.func24,Tryz.ntmps24
 go_wp2_with fail
 go_ret
 exact ⟨by rw [E.out];rfl,by rw [E.out];exact H.out.1,H.out.2⟩
def fdV (D:Dev) (i:Int):Int:=if D.down = true then 90 else if i < 0 ∨ (D.on.length:Int) ≤ i then 1 else 0
theorem fd_rd (D:Dev) (i:Int):(rdV D i).2 = fdV D i:=by
 unfold rdV fdV
 split
 ·rfl
 split
 ·rfl
 ·rfl
theorem lfind_any (h:LAt w g a b D) (hok:DevOk D) (i:Int) :
  Calls Tryz.prog 50 #[.pointer (some ⟨g,0,none⟩),.int .i64 i] w fun e w'=>e = .returned (.int .i64 (fdV D i)) ∧ w' = w:=by
 have k0:=h.cel.cell (i:=0) rfl
 have k3:=h.cel.cell (i:=3) rfl
 have pl:(D.on.length:Int) ≤ 2048:=by have:=hok.max;omega
 by_cases hd:D.down = true
 ·have E:=Lib.hid (show fdV D i = 90 from by unfold fdV;rw [if_pos hd])
  rw [hd] at k3
  clear h hd hok
  go_enter Tryz.func50,Tryz.ntmps50
  go_wp2_with fail
  go_ret
  exact ⟨by rw [E.out];rfl,rfl⟩
 have hd':D.down = false:=by simpa using hd
 rw [hd'] at k3
 by_cases h0:i < 0
 ·have E:=Lib.hid (show fdV D i = 1 from by unfold fdV;rw [if_neg hd,if_pos (.inl h0)])
  clear h hd hok hd'
  go_enter Tryz.func50,Tryz.ntmps50
  go_wp2_with fail
  go_ret
  exact ⟨by rw [E.out];rfl,rfl⟩
 by_cases h1:(D.on.length:Int) ≤ i
 ·have E:=Lib.hid (show fdV D i = 1 from by unfold fdV;rw [if_neg hd,if_pos (.inr h1)])
  clear h hd hok hd'
  go_enter Tryz.func50,Tryz.ntmps50
  go_wp2_with fail
  go_ret
  exact ⟨by rw [E.out];rfl,rfl⟩
 ·have E:=Lib.hid (show fdV D i = 0 from by unfold fdV;rw [if_neg hd,if_neg (by omega)])
  clear h hd hok hd'
  go_enter Tryz.func50,Tryz.ntmps50
  go_wp2_with fail
  go_ret
  exact ⟨by rw [E.out];rfl,rfl⟩
theorem lsize_any (h:LAt w g a b D) :
  Calls Tryz.prog 94 #[.pointer (some ⟨g,0,none⟩)] w fun e w'=>e = .returned (.int .i64 (D.on.length:Int)) ∧ w' = w:=by
 have k0:=h.cel.cell (i:=0) rfl
 clear h
 go_enter Tryz.func94,Tryz.ntmps94
 go_wp2_with fail
 go_ret
 exact ⟨rfl,rfl⟩
def calm (D:Dev) (m:Nat):Dev:=⟨D.on,List.replicate m nil0,0,false⟩
theorem lrestart_any (h:LAt w g a b D) (m:Nat) :
  Calls Tryz.prog 58 #[.pointer (some ⟨g,0,none⟩)] w fun e w'=>e = .returned (.tuple #[]) ∧ LAt w' g a b (calm D m) ∧ Fr (LFoot g a b) (LFoot g a b) w w':=by
 have k1:=h.cel.cell (i:=1) rfl
 obtain ⟨W,hc,hm,hg,hz⟩:=h.mp.clear 0 m
 have hA:=h.setMap hm hg
 have hF:=(Fr.refl (LFoot g a b) w).grown (.inl lfoot_b) hg
 have k2:=hA.cel.cell (i:=2) rfl
 have k3:=hA.cel.cell (i:=3) rfl
 have kq:=fun i=>hA.cel.free (i:=i)
 have HA:=Lib.hid (And.intro ((hA.setLeft 0).setDown false) ((hF.set (p:=⟨g,2,none⟩) lfoot_g (.int .i64 ((0:Nat):Int))).set (p:=⟨g,3,none⟩) lfoot_g (.bool false)))
 clear h hm hg hz hA hF
 go_enter Tryz.func58,Tryz.ntmps58
 go_wp2_with fail
 refine bodyPost_end (results_none rfl _ _ _) rfl ?_
 exact ⟨rfl,HA.out.1,HA.out.2⟩
end
def Rep (W:World) (F:Nat → Prop) (g:Nat) (D:Dev):Prop:=∃ a b,F = LFoot g a b ∧ LAt W g a b D ∧ DevOk D
theorem cut_tmod (p:Int):(p.tmod 64 + 64).tmod 64 = (((p % 64).toNat:Nat):Int) ∧ -64 < p.tmod 64 ∧ p.tmod 64 < 64:=by
 have:=among_eq p 64 (by omega)
 unfold amongV at this
 exact this
theorem reached_any (p:Int) (w:World):Calls Tryz.prog 57 #[.int .i64 p] w fun e w'=>e = .returned (.int .i64 (cutN p:Int)) ∧ w' = w:=by
 by_cases h0:p = 0
 ·subst h0
  go_enter Tryz.func57,Tryz.ntmps57
  go_wp2
  go_ret
  exact ⟨rfl,rfl⟩
 by_cases h1:p = 1
 ·subst h1
  go_enter Tryz.func57,Tryz.ntmps57
  go_wp2
  go_ret
  exact ⟨rfl,rfl⟩
 obtain ⟨e1,e2,e3⟩:=cut_tmod p
 have q0:(p == 0) = false:=by simpa using h0
 have q1:(p == 1) = false:=by simpa using h1
 have e6:wrap64 (p.tmod 64 + 64) = p.tmod 64 + 64:=IntWalk.wrap64_in _ ⟨by omega,by omega⟩
 have E:Hid ((wrap64 (p.tmod 64 + 64)).tmod 64 = (cutN p:Int)):=by
  show _ = _
  rw [e6,e1]
  unfold cutN
  rw [if_neg h0,if_neg h1]
 clear e1 e2 e3 e6 h0 h1
 go_enter Tryz.func57,Tryz.ntmps57
 go_wp2
 go_ret
 exact ⟨ret_int E.out,rfl⟩
theorem made_zeros (n:Nat):madeCells (List.replicate 64 (Value.int .u8 0)).toArray (n * 64) = (onC (List.replicate n zero64)).toArray:=by
 rw [zeros_row]
 have hf:∀ x:Nat,(List.replicate 64 (Value.int .u8 0)).toArray[x % (List.replicate 64 (Value.int .u8 0)).toArray.size]! = Value.int .u8 0:=fun x=>by
  have h3:x % 64 < 64:=Nat.mod_lt _ (by omega)
  rw [List.size_toArray,List.length_replicate,getElem!_pos _ _ (by rw [List.size_toArray,List.length_replicate];exact h3),List.getElem_toArray,List.getElem_replicate]
 have e:madeCells (List.replicate 64 (Value.int .u8 0)).toArray (n * 64) = (Array.range (n * 64)).map (fun _=>Value.int .u8 0):=by
  unfold madeCells
  exact congrArg (fun f=>Array.map f _) (funext hf)
 rw [e]
 apply Array.toList_inj.1
 rw [Array.toList_map,Array.toList_range,List.map_const',List.length_range]
theorem make_sec (W:World) (m:Nat) (hm:m ≤ 2048):(Instr.makeSlice 95 (.int .i64 (m:Int)) (.int .i64 (m:Int))).run Tryz.prog W = .ok (.slice (some ⟨W.heap.size,0,none⟩) m m) (W.alloc (.cells (onC (List.replicate m zero64)).toArray 117)):=by
 obtain ⟨i0,hi,hz0,hz1,hz2⟩:=info_parts Tryz.infoSec
 have h:=run_make (P:=Tryz.prog) W 95 117 i0 _ Tryz.underlying95 hi hz0 .i64 .i64 m m (by omega) (by omega) (by rw [hz2];omega) (by omega)
 rw [h,hz1,Int.toNat_natCast]
 congr 3
 exact made_zeros m
def NewAns (n:Int) (w:World):Ending → World → Prop:=fun e w' =>
 (1 ≤ n ∧ n ≤ 2048 ∧ ∃ (F:Nat → Prop) (g:Nat),e = .returned (.tuple #[.pointer (some ⟨g,0,none⟩),.int .i64 0]) ∧ Rep w' F g (new0 n.toNat) ∧ (∀ k,F k → w.heap.size ≤ k) ∧ Below w.heap.size w w') ∨
 (¬ (1 ≤ n ∧ n ≤ 2048) ∧ e = .returned (.tuple #[.pointer none,.int .i64 1]) ∧ Below w.heap.size w w')
theorem lnew_any (n:Int) (w:World):Calls Tryz.prog 9 #[.int .i64 n] w (NewAns n w):=by
 by_cases h0:n < 1
 ·have HMk:Hid (NewAns n w (.returned (.tuple #[.pointer none,.int .i64 1])) w):=Lib.hid (.inr ⟨by omega,rfl,Below.refl _ _⟩)
  go_enter Tryz.func9,Tryz.ntmps9
  go_wp2_with fail
  go_ret2
  exact HMk.out
 by_cases h1:2048 < n
 ·have HMk:Hid (NewAns n w (.returned (.tuple #[.pointer none,.int .i64 1])) w):=Lib.hid (.inr ⟨by omega,rfl,Below.refl _ _⟩)
  go_enter Tryz.func9,Tryz.ntmps9
  go_wp2_with fail
  go_ret2
  exact HMk.out
 obtain ⟨m,rfl⟩:∃ m:Nat,n = (m:Int):=⟨n.toNat,by omega⟩
 have hmk:=fun W=>make_sec W m (by omega)
 have hmm:=@run_makeMap Tryz.prog
 obtain ⟨M,hM⟩:∃ M,M = (onC (List.replicate m zero64)).toArray:=⟨_,rfl⟩
 rw [← hM] at hmk
 obtain ⟨G,hG⟩:∃ G:Array Value,G = #[.slice (some ⟨w.heap.size,0,none⟩) m m,.map (some (w.heap.size + 1)),.int .i64 0,.bool false]:=⟨_,rfl⟩
 have HMk:Hid (NewAns (m:Int) w (.returned (.tuple #[.pointer (some ⟨w.heap.size + 2,0,none⟩),.int .i64 0])) (((w.alloc (.cells M 117)).alloc (.map #[] 0)).alloc (.cells G 98))):=by
  refine Lib.hid (.inl ⟨by omega,by omega,LFoot (w.heap.size + 2) w.heap.size (w.heap.size + 1),w.heap.size + 2,rfl,⟨_,_,rfl,?_,?_⟩,?_,?_⟩)
  ·obtain ⟨b1,b2,b3,b4⟩:=blk3 w (.cells M 117) (.map #[] 0) (.cells G 98)
   rw [Int.toNat_natCast]
   refine ⟨?_,?_,?_,by omega,by omega,by omega⟩
   ·show _ = _
    rw [b4,hG]
    simp [new0]
   ·show _ = _
    rw [b2,hM];rfl
   ·have h1:=secMap_made (w.alloc (.cells M 117)) m
    have h2:(w.alloc (.cells M 117)).heap.size = w.heap.size + 1:=(blk1 w _).1
    rw [h2] at h1
    refine h1.kept ?_
    rw [b3]
    have:=(blk2 w (.cells M 117) (.map #[] 0)).2.2
    rw [this]
  ·rw [Int.toNat_natCast];exact new0_ok (by omega) (by omega)
  ·intro k hk
   rcases hk with rfl | rfl | rfl <;> omega
  ·have h1:=(Below.refl w.heap.size w).alloc (Nat.le_refl _) (.cells M 117)
   have h2:=h1.alloc h1.size (.map #[] 0)
   exact h2.alloc h2.size _
 rw [hG] at HMk
 have p1:(1:Int) ≤ (m:Int):=by omega
 have p2:(m:Int) ≤ 2048:=by omega
 clear hM hG h0 h1
 go_enter Tryz.func9,Tryz.ntmps9
 go_wp2_with fail
 go_ret2
 exact HMk.out
theorem back_sec {w:World} {g:Nat} {s:ByteArray} (h:Cel w g 117 (secC s)) (hs:s.size = 64) :
  (convert 119 9 (.slice (some ⟨g,0,none⟩) 64 64)).run Tryz.prog w = .ok (.string s) w:=by
 have hl:s.data.toList.length = 64:=hs
 have:=run_convert_bytes_back (P:=Tryz.prog) w 119 9 5 ⟨g,0,none⟩ 64 s.data.toList Tryz.underlying119 Tryz.underlying5 Tryz.underlying9 (fun j hj=>by
  rw [addr_head]
  refine h.cell ?_
  unfold secC Lib.byteCells
  rw [List.getElem?_map,List.getElem?_eq_getElem hj];rfl)
 rwa [hl] at this
theorem put_cells (w:World) (Z:List Value) (hz:Z.length = 64) {t:ByteArray} (ht:t.size = 64) :
  (storeCells ⟨w.heap.size,0,none⟩ (secC t)).run Tryz.prog (w.alloc (.cells Z.toArray 117)) = .ok () (w.alloc (.cells (secC t).toArray 117)):=by
 have hl:(secC t).toArray.size = 64:=by rw [List.size_toArray,secC_len,ht]
 exact run_storeCells_new w 117 Z.toArray (secC t).toArray (by rw [size_sec,hl]) (by rw [List.size_toArray,hz,hl]) (all_oneCell_toArray (secC_one t))
section
variable {w w':World} {g a b:Nat} {D:Dev}
theorem lread_any (h:LAt w g a b D) (hok:DevOk D) (i:Int) (hi:-9223372036854775808 ≤ i ∧ i ≤ 9223372036854775807) :
  Calls Tryz.prog 20 #[.pointer (some ⟨g,0,none⟩),.int .i64 i] w fun e w'=>e = .returned (.tuple #[.string (rdV D i).1,.int .i64 (rdV D i).2]) ∧ Below w.heap.size w w':=by
 have HFd:=Lib.hid (lfind_any h hok i)
 by_cases hr:fdV D i = 0
 case neg =>
  have E:=Lib.hid (show rdV D i = (nil0,fdV D i) from by
   rw [← fd_rd] at hr ⊢
   unfold rdV at hr ⊢
   split
   ·rfl
   split
   ·rfl
   next h1 h2=>rw [if_neg h1,if_neg h2] at hr;exact absurd rfl hr)
  have q0:(fdV D i != 0) = true:=by simpa using hr
  generalize fdV D i = z at HFd E q0
  clear h hok hr
  go_enter Tryz.func20,Tryz.ntmps20
  go_wp2_with fail
  refine HFd.out.mono ?_
  rintro e w1 ⟨rfl,rfl⟩
  go_wp2_with fail
  go_ret2
  exact ⟨by rw [E.out];rfl,Below.refl _ _⟩
 have hii:D.down = false ∧ 0 ≤ i ∧ i < (D.on.length:Int):=by
  unfold fdV at hr
  split at hr
  ·cases hr
  split at hr
  ·cases hr
  next h1 h2=>exact ⟨by simpa using h1,by omega,by omega⟩
 obtain ⟨hd,hi0,hi1⟩:=hii
 obtain ⟨j,rfl⟩:∃ j:Nat,i = (j:Int):=⟨i.toNat,by omega⟩
 have hj:j < D.on.length:=by omega
 have hj2:j < D.new.length:=by rw [hok.len];omega
 have k0:=h.cel.cell (i:=0) rfl
 have k1:=h.cel.cell (i:=1) rfl
 have hlk:=h.mp.look (x:=(j:Int)) hi.1 hi.2
 have hrd:rdV D (j:Int) = (if D.new.getD j nil0 = nil0 then D.on.getD j nil0 else D.new.getD j nil0,0):=by
  unfold rdV
  rw [if_neg (by simp [hd]),if_neg (by omega),Int.toNat_natCast]
 rw [hr] at HFd
 rw [slot_nat hj2] at hlk
 have hn64:=hok.new64 _ (getD_mem hj2)
 have hz:=zero_sec
 obtain ⟨Z,hZ⟩:∃ Z,Z = secC zero64:=⟨_,rfl⟩
 have hZs:Z.length = 64:=by rw [hZ,secC_len];rfl
 unfold secV at hz
 rw [← hZ] at hz
 have HB:Hid (∀ c,Below w.heap.size w (w.alloc (.cells c 117))):=Lib.hid (fun c=>(Below.refl _ w).alloc (Nat.le_refl _) _)
 by_cases hn:D.new.getD j nil0 = nil0
 ·have hld:(w.alloc (.cells (secC zero64).toArray 117)).rangeAt a (j * 64) (secC D.on[j]) :=
   sec_range (h.step (HB.out _)).ro hok.on64 hj
  have ho64:=hok.on64 _ (List.getElem_mem hj)
  rw [if_pos hn] at hlk hrd
  rw [getD_at hj] at hrd
  simp only [Option.getD_none,Option.isSome_none] at hlk
  unfold secV at hlk
  generalize D.on[j] = o at hld hrd ho64
  have hs1:=put_cells w Z hZs zero64_size
  have hs2:=put_cells w (secC zero64) (by rw [← hZ];exact hZs) ho64
  have hcv:=back_sec (w:=w.alloc (.cells (secC o).toArray 117)) (heap_alloc_new w _) ho64
  have hc1:(secC o).length = 64:=by rw [secC_len,ho64]
  have HL:=Lib.hid (show (Tryz.prog.info? 117).map (·.size) = some (secC o).length from by rw [size_sec,hc1])
  have E:=Lib.hid hrd
  generalize secC o = C1 at hld hs2 hcv hc1 HL
  have Hld:=Lib.hid hld
  clear hld
  rw [← hZ] at Hld hs1 hs2 hlk
  have pj:(j:Int) < (D.on.length:Int):=by omega
  have hgl:=h.cel.lt
  clear h hok hr hrd hn hn64 hZ hi ho64
  go_enter Tryz.func20,Tryz.ntmps20
  go_wp2_with fail
  refine HFd.out.mono ?_
  rintro e w1 ⟨rfl,rfl⟩
  go_wp2_with (refine wpList_load_mid rfl 117 _ rfl a (j * 64) rfl C1 _ Hld.out Tryz.underlying117 rfl HL.out ?_)
  go_ret2
  exact ⟨by rw [E.out];rfl,HB.out _⟩
 ·rw [if_neg hn] at hlk hrd
  simp only [Option.getD_some,Option.isSome_some] at hlk
  have hn64':=hn64.resolve_left hn
  generalize D.new.getD j nil0 = o at hlk hrd hn64'
  unfold secV at hlk
  have hs1:=put_cells w Z hZs hn64'
  have hcv:=back_sec (w:=w.alloc (.cells (secC o).toArray 117)) (heap_alloc_new w _) hn64'
  have hc1:(secC o).length = 64:=by rw [secC_len,hn64']
  have E:=Lib.hid hrd
  generalize secC o = C1 at hlk hs1 hcv hc1
  clear h hok hr hrd hn hn64 hZ hi hn64'
  go_enter Tryz.func20,Tryz.ntmps20
  go_wp2_with fail
  refine HFd.out.mono ?_
  rintro e w1 ⟨rfl,rfl⟩
  go_wp2_with fail
  go_ret2
  exact ⟨by rw [E.out];rfl,HB.out _⟩
end
theorem wpList_mapSec (w:World) {ops:Array Oper} {rest:List Oper} {o:Oper} {a:Act} {Q:Exit → Act → World → Prop}
  (hg:o.guard = none) (m x v:Operand) (hop:o.op = Op.mapUpdate 96 m x v) (b:Nat) (new:List ByteArray) (hm:a.eval m = .map (some b)) (hM:SecMap w b new) (hn:new.length < maxLen)
  (i:Nat) (hi:i < new.length) (t:ByteArray) (ht:t.size = 64) (hx:a.eval x = .int .i64 (i:Int)) (hv:a.eval v = secV t)
  (hK:∀ w',SecMap w' b (new.set i t) → w.grownBy w' (some b) → w'.heap.size = w.heap.size → wpList Tryz.prog ops Q rest (a.put o.dst undef) w') :
  wpList Tryz.prog ops Q (o :: rest) a w:=by
 refine wpList_plain hg fun K' hK'=>?_
 obtain ⟨w',hrun,r1,r2,r3⟩:=hM.store hn hi ht
 unfold Oper.wp
 simp [execOp,hop,hm,hx,hv,hrun,Result.andThen]
 exact hK' _ _ (hK w' r1 r2 r3)
theorem copy_sec (w:World) (ty:TypeId) {t:ByteArray} (ht:t.size = 64) (Z:List Value) (hz:Z.length = 64) :
  (Builtin.copy_ #[119,9] ty #[.slice (some ⟨w.heap.size,0,none⟩) 64 64,.string t]).run Tryz.prog (w.alloc (.cells Z.toArray 117)) =
   .ok (goInt 64) (w.alloc (.cells (secC t).toArray 117)):=by
 obtain ⟨i0,hi,hz0,hz1,hz2⟩:=info_parts Bk.Tryz.infoU8
 have hinfo:(Tryz.prog.info? 5).map (·.size) = some 1:=by rw [hi];simp [hz1]
 have h:=Lib.run_copy_row_string (P:=Tryz.prog) (w.alloc (.cells Z.toArray 117)) 119 9 ty 5 w.heap.size 0 64 64 t Z.toArray 117 Tryz.underlying119 hinfo (heap_alloc_new w _) (by omega) (by rw [List.size_toArray,hz];omega)
 rw [h,ht,List.take_zero,List.nil_append,Nat.zero_add,List.drop_of_length_le (by rw [Array.length_toList,List.size_toArray,hz];exact Nat.le_refl _),List.append_nil,World.setRow_alloc_new]
 rfl
section
variable {w w':World} {g a b:Nat} {D:Dev}
structure WrEnv (w W:World) (g a b vb:Nat) (D:Dev) (t:ByteArray):Prop where
 d:LAt W g a b D
 c:Cel W vb 117 (secC t)
 f:Fr (LFoot g a b) (LFoot g a b) w W
theorem lwrite_any (h:LAt w g a b D) (hok:DevOk D) (i:Int) (hi:-9223372036854775808 ≤ i ∧ i ≤ 9223372036854775807) (t:ByteArray) :
  Calls Tryz.prog 235 #[.pointer (some ⟨g,0,none⟩),.int .i64 i,.string t] w fun e w'=>e = .returned (.int .i64 (wrD D i t).2) ∧ LAt w' g a b (wrD D i t).1 ∧ Fr (LFoot g a b) (LFoot g a b) w w':=by
 have HFd:=Lib.hid (lfind_any h hok i)
 have HBn:=Lib.hid (lburn_any h hok)
 have H:=Lib.hid h
 by_cases hr:fdV D i = 0
 case neg =>
  have E:=Lib.hid (show wrD D i t = (D,fdV D i) from by unfold wrD;rw [fd_rd,if_pos hr])
  have q0:(fdV D i != 0) = true:=by simpa using hr
  generalize fdV D i = z at HFd E q0
  clear h hok hr
  go_enter Tryz.func235,Tryz.ntmps235
  go_wp2_with fail
  refine HFd.out.mono ?_
  rintro e w1 ⟨rfl,rfl⟩
  go_wp2_with fail
  go_ret
  exact ⟨by rw [E.out];rfl,by rw [E.out];exact H.out,Fr.refl _ _⟩
 have hii:D.down = false ∧ 0 ≤ i ∧ i < (D.on.length:Int):=by
  unfold fdV at hr
  split at hr
  ·cases hr
  split at hr
  ·cases hr
  next h1 h2=>exact ⟨by simpa using h1,by omega,by omega⟩
 obtain ⟨hd,hi0,hi1⟩:=hii
 by_cases hz:t.size = 64
 case neg =>
  have E:=Lib.hid (show wrD D i t = (D,3) from by unfold wrD;rw [fd_rd,if_neg (by simpa using hr),if_pos hz])
  have pz:((t.size:Int) != 64) = true:=by simp;omega
  rw [hr] at HFd
  clear h hok hr hz
  go_enter Tryz.func235,Tryz.ntmps235
  go_wp2_with fail
  refine HFd.out.mono ?_
  rintro e w1 ⟨rfl,rfl⟩
  go_wp2_with fail
  go_ret
  exact ⟨by rw [E.out];rfl,by rw [E.out];exact H.out,Fr.refl _ _⟩
 have pz:(t.size:Int) = 64:=by omega
 have ew:wrD D i t = if (burn D).2 = true then ((burn D).1,90) else (⟨D.on,D.new.set i.toNat t,(burn D).1.left,(burn D).1.down⟩,0):=by
  unfold wrD;rw [fd_rd,if_neg (by simpa using hr),if_neg (by simpa using hz)]
 rw [hr] at HFd
 obtain ⟨b1,b2,b3⟩:=burn_parts D
 obtain ⟨j,rfl⟩:∃ j:Nat,i = (j:Int):=⟨i.toNat,by omega⟩
 rw [Int.toNat_natCast] at ew
 have hlen:=hok.len
 have hmx:=hok.max
 generalize burn D = Q at HBn ew b1 b2
 obtain ⟨D1,bb⟩:=Q
 simp only at HBn ew b1 b2
 cases bb with
 | true =>
  have E:=Lib.hid (show wrD D (j:Int) t = (D1,90) from by rw [ew,if_pos rfl])
  clear h hok hr hz ew
  go_enter Tryz.func235,Tryz.ntmps235
  go_wp2_with fail
  refine HFd.out.mono ?_
  rintro e w1 ⟨rfl,rfl⟩
  go_wp2_with fail
  refine HBn.out.mono ?_
  rintro e w2 ⟨rfl,hb⟩
  have HB:=Lib.hid hb
  clear hb
  go_wp2_with fail
  go_ret
  exact ⟨by rw [E.out];rfl,by rw [E.out];exact HB.out.1,HB.out.2⟩
 | false =>
  have E:=Lib.hid (show wrD D (j:Int) t = (⟨D.on,D.new.set j t,D1.left,D1.down⟩,0) from by rw [ew,if_neg (by simp)])
  have hj:j < D1.new.length:=by rw [b2,hlen];omega
  have hm:D1.new.length < maxLen:=by rw [b2,hlen];unfold maxLen;omega
  have HBs:=Lib.hid (And.intro b1 (And.intro b2 (And.intro hj (And.intro hm hz))))
  have hzs:=zero_sec
  obtain ⟨Z,hZ⟩:∃ Z,Z = secC zero64:=⟨_,rfl⟩
  have hZl:Z.length = 64:=by rw [hZ,secC_len];rfl
  unfold secV at hzs
  rw [← hZ] at hzs
  have HCp:=Lib.hid (fun W ty=>copy_sec W ty hz Z hZl)
  clear h hok hr hz ew b1 b2 b3 hlen hmx hj hm hZ
  go_enter Tryz.func235,Tryz.ntmps235
  go_wp2_with fail
  refine HFd.out.mono ?_
  rintro e w1 ⟨rfl,rfl⟩
  go_wp2_with fail
  refine HBn.out.mono ?_
  rintro e w2 ⟨rfl,hb⟩
  have HB:=Lib.hid hb
  clear hb
  have hcp:=HCp.out w2
  have HE:=Lib.hid (show WrEnv w1 (w2.alloc (.cells (secC t).toArray 117)) g a b w2.heap.size D1 t from
   ⟨HB.out.1.step ((Below.refl _ w2).alloc (Nat.le_refl _) _),heap_alloc_new w2 _,HB.out.2.below ((Below.refl _ w2).alloc (Nat.le_refl _) _)⟩)
  go_upto_region 10 with fail
  generalize w2.alloc (.cells (secC t).toArray 117) = W1 at HE ⊢
  generalize w2.heap.size = vb at HE ⊢
  clear hcp HCp
  refine wp_region_said 6 [23,24,25,26,27,28]
   [.is (.pointer (some ⟨g,0,none⟩)),.is (.pointer (some ⟨g,0,none⟩)),.is (.pointer (some ⟨g,1,none⟩)),.is (.map (some b)),.is (.int .i64 (j:Int)),.is (secV t)]
   (fun W=>WrEnv w1 W g a b vb D1 t) (by kernel_rfl) (by kernel_rfl) (by kernel_rfl) (by kernel_rfl) (by kernel_rfl) (fun W W' h hb=>⟨h.d.step hb,h.c.below hb,h.f.below hb⟩) HE.out ?steps ?last
  case steps =>
   simp only [List.take_succ_cons,List.take_zero]
   refine ⟨?_,?_,?_,?_,?_,?_,trivial⟩
   all_goals
    intro vs W ρ hρ hc hf hg hI hH hd R' hR
    have z1:=hI.d.cel.cell (i:=1) rfl
    have hld:=sec_own hI.c HBs.out.2.2.2.2
    have HR:=Lib.hid hR
    simp [depsOf,Region.binds,sayAt,Say.holds] at hd
    clear hR hI
   case refine_6 =>
    have e0:ρ (.tmp 8) = .pointer (some ⟨vb,0,none⟩):=by rw [hρ];simp [pick];rfl
    rw [if_pos (by simp [Region.wanted])]
    unfold execOp
    simp only [Sem.run_bind,Sem.run_pure,Result.andThen_ok,e0,hld,floatUpon]
    exact HR.out _ _ (by simp [sayAt,Say.holds]) (Below.refl _ _) (by simp [sayAt,Say.isBlk])
   all_goals
    clear hld
    go_simp
    first
     | exact HR.out _ _ (by simp [sayAt,Say.holds]) (Below.refl _ _) (by simp [sayAt,Say.isBlk])
     | trace_state
  case last =>
   intro vs W hI hb hg hd
   have e3:=hg 3 (by omega)
   have e4:=hg 4 (by omega)
   have e5:=hg 5 (by omega)
   simp only [sayAt,Say.holds,List.getD_cons_succ,List.getD_cons_zero] at e3 e4 e5
   simp only [List.take_succ_cons,List.take_zero,List.drop_succ_cons,List.drop_zero,putAll,Act.put,List.setIfInBounds_toArray,List.set_cons_succ,List.set_cons_zero,Nat.zero_add,Nat.reduceAdd]
   rw [e3,e4,e5]
   refine wpList_mapSec W rfl (.tmp 26) (.tmp 27) (.tmp 28) rfl b D1.new rfl hI.d.mp HBs.out.2.2.2.1 j HBs.out.2.2.1 t HBs.out.2.2.2.2 rfl rfl ?_
   intro W2 hm2 hg2 _
   have HA:=Lib.hid (And.intro (hI.d.setMap hm2 hg2) (hI.f.grown (.inl lfoot_b) hg2))
   clear hm2 hg2 hI hg hd e3 e4 e5 hb
   go_wp2_with fail
   go_ret
   refine ⟨by rw [E.out];rfl,?_,HA.out.2⟩
   rw [E.out]
   have:=HA.out.1
   rw [HBs.out.1,HBs.out.2.1] at this
   exact this
end
theorem wpList_secStore (w:World) {ops:Array Oper} {rest:List Oper} {o:Oper} {act:Act} {Q:Exit → Act → World → Prop}
  (hg:o.guard = none) (x y:Operand) (hop:o.op = Op.store 117 x y) (a:Nat) (l:List ByteArray) (h:Cel w a 117 (onC l)) (h64:∀ s ∈ l,s.size = 64)
  (i:Nat) (hi:i < l.length) (t:ByteArray) (ht:t.size = 64) (hx:act.eval x = .pointer (some ⟨a,i * 64,none⟩)) (hy:act.eval y = secV t)
  (hK:wpList Tryz.prog ops Q rest (act.put o.dst undef) (w.setRow a (onC (l.set i t)).toArray)):wpList Tryz.prog ops Q (o :: rest) act w:=by
 refine wpList_plain hg fun K' hK'=>?_
 have hrun:=sec_store h h64 hi ht
 unfold Oper.wp
 simp only [execOp,hop,hx,hy,Sem.run_bind,hrun,Result.andThen_ok]
 exact hK' _ _ hK
def flF (D:Dev) (left:Lit → Bool) (i:Nat):ByteArray:=if D.new.getD i nil0 ≠ nil0 ∧ left (.int .i64 (i:Int)) = false then D.new.getD i nil0 else D.on.getD i nil0
def flL (D:Dev) (left:Lit → Bool):List ByteArray:=(List.range D.on.length).map (flF D left)
theorem flL_len (D:Dev) (left:Lit → Bool):(flL D left).length = D.on.length:=by simp [flL]
theorem flL_64 {D:Dev} (hok:DevOk D) (left:Lit → Bool):∀ s ∈ flL D left,s.size = 64:=fun s hs=>by
 unfold flL at hs
 obtain ⟨i,hi,rfl⟩:=List.mem_map.1 hs
 rw [List.mem_range] at hi
 unfold flF
 split
 next h=>exact (hok.new64 _ (getD_mem (by rw [hok.len];exact hi))).resolve_left h.1
 ·exact hok.on64 _ (getD_mem hi)
theorem flL_start {D:Dev} (hok:DevOk D) {left:Lit → Bool} (hl:∀ x:Int,left (.int .i64 x) = (slot D.new x).isSome):flL D left = D.on:=by
 refine List.ext_getElem (flL_len D left) fun i h1 h2=>?_
 simp only [flL,List.getElem_map,List.getElem_range]
 unfold flF
 rw [if_neg,getD_at h2]
 rintro ⟨h3,h4⟩
 rw [hl,slot_nat (by rw [hok.len];exact h2),if_neg h3] at h4
 cases h4
theorem flL_end {D:Dev} {left:Lit → Bool} (hl:∀ z,left z = false):flL D left = upd D.on D.on.length (flushF D):=by
 unfold flL upd
 refine List.map_congr_left fun i hi=>?_
 rw [List.mem_range] at hi
 unfold flF flushF
 rw [if_pos hi]
 by_cases e:D.new.getD i nil0 = nil0
 ·rw [if_neg (fun h=>h.1 e),if_pos e]
 ·rw [if_pos ⟨e,hl _⟩,if_neg e]
theorem flL_step {D:Dev} {left:Lit → Bool} {i:Nat} (_hi:i < D.on.length) (hw:D.new.getD i nil0 ≠ nil0) :
  (flL D left).set i (D.new.getD i nil0) = flL D (fun z=>left z && !z.sameKey (.int .i64 (i:Int))):=by
 refine List.ext_getElem (by rw [List.length_set,flL_len,flL_len]) fun k h1 h2=>?_
 rw [List.getElem_set]
 simp only [flL,List.getElem_map,List.getElem_range]
 unfold flF
 by_cases e:i = k
 ·subst e
  rw [if_pos rfl,if_pos ⟨hw,by simp [Lit.sameKey]⟩]
 ·rw [if_neg e]
  have:(Lit.int IntKind.i64 (k:Int)).sameKey (.int .i64 (i:Int)) = false:=Maps.sameKey_ne (fun h=>e (by injection h with _ h;omega))
  simp [this]
theorem below_grown {u v:World} (h:Below u.heap.size u v):u.grownBy v none:=⟨h.os,h.tape,h.output,h.size,fun k hk _=>h.block k hk⟩
theorem row_grown (u:World) (k:Nat) (c:Array Value):u.grownBy (u.setRow k c) (some k):=⟨rfl,rfl,rfl,by simp,fun i _ hn=>row_far c (fun e=>hn (by rw [e]))⟩
theorem entry_is {w:World} {b n:Nat} {new:List ByteArray} {DM:DataW Unit} (_h:w.ownsMap Tryz.prog 3 rdSec b n DM) (hs:Says DM new) {x:Int} {c:ByteArray} {kl:Lit} {y:DataW Unit × List MemPlace}
  (hk:keyOf Tryz.prog 3 (.int .i64 x) = some kl) (hR:rdSec (secV c) = some y) (hat:∀ zd,DM.atKey kl zd = y.1) :
  ∃ i:Nat,x = (i:Int) ∧ kl = .int .i64 (i:Int) ∧ i < new.length ∧ new.getD i nil0 ≠ nil0 ∧ c = new.getD i nil0 ∧ c.size = 64:=by
 obtain ⟨x',e1,e2,_⟩:=Maps.keyOf_i64 Tryz.underlying3 hk
 obtain rfl:x = x':=by simpa using e1
 subst e2
 obtain ⟨s,hs64,e3,e4⟩:=rdSec_inv hR
 obtain rfl:=secV_inj e3
 rw [e4] at hat
 simp only at hat
 have hh:=Maps.has_true_of_atKey hat
 rw [hs.has x] at hh
 obtain ⟨i,rfl,h1,h2⟩:=slot_some hh
 have hsl:=slot_nat h1
 rw [if_neg h2] at hsl
 have:=hs.at_ _ _ hsl (strD c)
 rw [hat] at this
 exact ⟨i,rfl,rfl,h1,h2,strD_inj this,hs64⟩
section
variable {w w':World} {g a b:Nat} {D:Dev}
structure FlEnv (w W:World) (g a b r:Nat) (D D1:Dev) (DM:DataW Unit) (left:Lit → Bool) (cnt:Nat):Prop where
 rg:W.ranges Tryz.prog 3 rdSec b r D.new.length DM left cnt
 d:LAt W g a b ⟨flL D left,D.new,D1.left,D1.down⟩
 f:Fr (LFoot g a b) (LFoot g a b) w W
 ra:r ≠ a
 rg':r ≠ g
 wr:w.heap.size ≤ r
theorem FlEnv.put {W:World} {r:Nat} {D1:Dev} {DM:DataW Unit} {left:Lit → Bool} {i:Nat} (hi:i < D.on.length) (hw:D.new.getD i nil0 ≠ nil0)
  (hd:LAt W g a b ⟨flL D left,D.new,D1.left,D1.down⟩) (hf:Fr (LFoot g a b) (LFoot g a b) w W) (hra:r ≠ a) (hrg:r ≠ g) (hwr:w.heap.size ≤ r) {cnt:Nat}
  (hr:W.ranges Tryz.prog 3 rdSec b r D.new.length DM (fun z=>left z && !z.sameKey (.int .i64 (i:Int))) cnt) {c:ByteArray} (hc:c = D.new.getD i nil0) :
  FlEnv w (W.setRow a (onC ((flL D left).set i c)).toArray) g a b r D D1 DM (fun z=>left z && !z.sameKey (.int .i64 (i:Int))) cnt:=by
 subst hc
 have hd':=hd.setRow (l:=(flL D left).set i (D.new.getD i nil0)) (by simp)
 have e:=flL_step (left:=left) hi hw
 refine ⟨hr.kept (row_grown W a _) (fun e=>hd.d3 (Option.some.inj e).symm) (fun e=>hra (Option.some.inj e)),?_,hf.row (.inl lfoot_a) _,hra,hrg,hwr⟩
 rw [e] at hd' ⊢
 exact hd'
end
end Sc
end Go.Proofs.YtmidncclndongaaGreat
