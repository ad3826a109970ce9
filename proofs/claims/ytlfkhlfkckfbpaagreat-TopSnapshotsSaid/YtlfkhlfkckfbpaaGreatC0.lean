/- Parts of the proof, joined: Bk, ChMath, ChMath2, PkMath, LtMath; their conditions stand with each. -/
import Derived.Test.YtlfkhlfkckfbpaaGreatRows
import Derived.WalkKit
import Derived.WalkSpells
import Derived.WalkLawsBesides
import Derived.Lib.Hide
import Derived.Deep.QuietTactic
import Derived.BigQuiet
import Derived.Deep.RegionWith
import Derived.Laws.CopyOwn
import Derived.Deep.RegionHeld3
import Derived.Deep.DeepCutAuto
import Derived.Deep.DrawnRows
import Derived.Deep.RegionHeldLaw
import Derived.Lib.AppendStr
import Derived.SliceStrings
import Derived.ProofKit
import Derived.SizedLaws
import Derived.ChangeSlices
import Derived.Carry
import Derived.Below
import Derived.Maps.AppendAt
import Derived.IntWalk
import Derived.Deep.AppendLies
import Derived.Laws.OwnMore
import Derived.Laws.BitsAllLaws
import Derived.Deep.Draws
import Derived.Lib.SmallJoins
import Derived.Lib.BufferWrite
import Derived.StillTail

set_option maxRecDepth 20000
set_option maxHeartbeats 8000000
namespace Go.Proofs.YtlfkhlfkckfbpaaGreat
namespace Bk
open Go.ChangeShapes Go.WideShapes Go.ChangeAt Go.RowKit
theorem i64_wrap {x:Int} (h0:0 ≤ x) (h1:x < 9223372036854775808):IntKind.i64.wrap x = x:=by
 simp only [IntKind.wrap,IntKind.bits,IntKind.signed];simp;omega
theorem ofInt_i64 (a:Nat) (ha:a < 9223372036854775808):(BitVec.ofInt 64 (a:Int)).toNat = a:=by
 rw [BitVec.ofInt_natCast,BitVec.toNat_ofNat];exact Nat.mod_eq_of_lt (by omega)
theorem ret_int {k:IntKind} {a b:Int} (h:a = b):Ending.returned (.int k a) = .returned (.int k b):=by rw [h]
theorem addr_head (b j:Nat):(⟨b,0,none⟩:Addr).add j = ⟨b,j,none⟩:=by unfold Addr.add;split <;> simp_all
theorem below_append {H:Nat} {w wr w1:World} {v:Value} {o:Obj} {e:TypeId} {n:Nat} {xs:List Value} (hown:wr.ownsRow H e 1 v n xs) (hb:Below H w wr) (hH:H ≤ w.heap.size) (hg:(wr.alloc o).grownBy w1 v.ownBlock):Below H w w1 :=
 (hb.alloc (Nat.le_trans hH hb.size) o).grown hg (by have:=hb.size;simp;omega) (fun j hj=>(hown.lt j hj).1)
theorem Tryz.infoU8:(Tryz.prog.info? 5).map (fun i=>(i.zero,i.size,i.bytes)) = some (some (.int .u8 0),1,1):=by kernel_rfl
theorem blk1 (w:World) (A:Obj):(w.alloc A).heap.size = w.heap.size + 1 ∧ (w.alloc A).heap[w.heap.size]? = some A :=
 ⟨by simp,heap_alloc_new w A⟩
theorem blk2 (w:World) (A B:Obj):((w.alloc A).alloc B).heap.size = w.heap.size + 2 ∧ ((w.alloc A).alloc B).heap[w.heap.size]? = some A ∧ ((w.alloc A).alloc B).heap[w.heap.size + 1]? = some B:=by
 obtain ⟨s1,b1⟩:=blk1 w A
 obtain ⟨s2,b2⟩:=blk1 (w.alloc A) B
 refine ⟨by omega,?_,by rw [← s1];exact b2⟩
 rw [heap_alloc_old _ _ (by omega)];exact b1
theorem blk3 (w:World) (A B C:Obj):(((w.alloc A).alloc B).alloc C).heap.size = w.heap.size + 3 ∧ (((w.alloc A).alloc B).alloc C).heap[w.heap.size]? = some A ∧
  (((w.alloc A).alloc B).alloc C).heap[w.heap.size + 1]? = some B ∧ (((w.alloc A).alloc B).alloc C).heap[w.heap.size + 2]? = some C:=by
 obtain ⟨s1,b1,b2⟩:=blk2 w A B
 obtain ⟨s2,b3⟩:=blk1 ((w.alloc A).alloc B) C
 refine ⟨by omega,?_,?_,by rw [← s1];exact b3⟩
 ·rw [heap_alloc_old _ _ (by omega)];exact b1
 ·rw [heap_alloc_old _ _ (by omega)];exact b2
theorem blk_cell {w:World} {g j:Nat} {cs:Array Value} {T:TypeId} {v:Value} (h:w.heap[g]? = some (.cells cs T (0,0))) (hv:cs[j]? = some v):w.cell? ⟨g,j,none⟩ = some v :=
 (cell_of_row w g j cs T (0,0) h).trans hv
theorem blk_free {w:World} {g:Nat} {cs:Array Value} {T:TypeId} (h:w.heap[g]? = some (.cells cs T (0,0))):∀ j,w.frozen? ⟨g,j,none⟩ = false:=fun j=>frozen_of_row w g j cs T h
theorem below_new {w w1:World} {o:Obj} (h:Below (w.alloc o).heap.size (w.alloc o) w1):Below w.heap.size w w1 :=
 ((Below.refl _ w).alloc (Nat.le_refl _) o).trans (h.mono (by simp))
theorem cell_kept {B:Nat} {w w1:World} (h:Below B w w1) (a:Addr) (ha:a.block < B):w1.cell? a = w.cell? a:=by
 unfold World.cell?
 rw [h.block a.block ha]
def strV (l:List ByteArray):List Value:=l.map Value.string
theorem strV_len (l:List ByteArray):(strV l).length = l.length:=by simp [strV]
theorem strV_at {l:List ByteArray} {i:Nat} (h:i < l.length):(strV l)[i]? = some (.string l[i]):=by
 unfold strV
 rw [List.getElem?_map,List.getElem?_eq_getElem h];rfl
theorem Tryz.infoStr:(Tryz.prog.info? 9).map (fun i=>(i.zero,i.size,i.bytes)) = some (some (.string ⟨#[]⟩),1,16):=by kernel_rfl
theorem st_block (a:Addr) (n:Nat):(a.add n).block = a.block:=by unfold Addr.add;split <;> rfl
def StrsAt (w:World) (A:Option Addr) (l:List ByteArray):Prop :=
 0 < l.length → ∃ ad,A = some ad ∧ ad.block < w.heap.size ∧ ∀ i (h:i < l.length),w.cell? (ad.add i) = some (.string l[i])
theorem StrsAt.below {w w':World} {A:Option Addr} {l:List ByteArray} (h:StrsAt w A l) (hb:Below w.heap.size w w'):StrsAt w' A l:=fun hp=>by
 obtain ⟨ad,h1,h2,h3⟩:=h hp
 exact ⟨ad,h1,Nat.lt_of_lt_of_le h2 hb.size,fun i hi=>(cell_kept hb _ (by rw [st_block];exact h2)).trans (h3 i hi)⟩
theorem StrsAt.alloc {w:World} {A:Option Addr} {l:List ByteArray} (h:StrsAt w A l) (o:Obj):StrsAt (w.alloc o) A l:=h.below ((Below.refl _ w).alloc (Nat.le_refl _) o)
theorem StrsAt.blk {w:World} {g:Nat} {t:TypeId} {l:List ByteArray} (h:w.heap[g]? = some (.cells (strV l).toArray t (0,0))):StrsAt w (some ⟨g,0,none⟩) l:=fun _ =>
 ⟨_,rfl,(Array.getElem?_eq_some_iff.1 h).1,fun i hi=>by rw [addr_head];exact blk_cell h (by rw [List.getElem?_toArray];exact strV_at hi)⟩
theorem StrsAt.own {w:World} {H g n cap:Nat} {e:TypeId} {l:List ByteArray} (h:w.ownsRow H e 1 (.slice (some ⟨g,0,none⟩) n cap) n (strV l)) (hl:n = l.length):StrsAt w (some ⟨g,0,none⟩) l:=fun hp=>by
 have hf:=World.ownsRow.cellAt h
 refine ⟨_,rfl,?_,fun i hi=>?_⟩
 ·obtain ⟨g',cap',hv,_,hlt⟩:=World.ownsRow.form h (by omega)
  simp only [Value.slice.injEq,Option.some.injEq,Addr.mk.injEq] at hv
  obtain ⟨⟨rfl,-⟩,-⟩:=hv
  exact hlt
 ·rw [addr_head,hf i (by omega)]
  exact strV_at hi
theorem add_zero' (ad:Addr):ad.add 0 = ad:=by simp [Addr.add]
theorem st_keep {H size n:Nat} {w W:World} {e:TypeId} {v:Value} {xs:List Value} (h:w.ownsRow H e size v n xs) (hb:Below w.heap.size w W):W.ownsRow H e size v n xs:=by
 refine ⟨h.1,?_⟩
 rcases h.2 with h' | ⟨g,cap,cur,hv,h1,h2,h3⟩
 ·exact .inl h'
 ·exact .inr ⟨g,cap,cur,hv,h1,(hb.block g (Array.getElem?_eq_some_iff.1 h2).1).trans h2,h3⟩
theorem own_bytes {w:World} {H g n cap:Nat} {L:List UInt8} (h:w.ownsRow H 5 1 (.slice (some ⟨g,0,none⟩) n cap) n (Lib.byteCells L)) (hn:n = L.length) (lo m c:Nat) (hlo:lo + m ≤ L.length) :
  (convert 41 9 (.slice (some ⟨g,lo,none⟩) m c)).run Tryz.prog w = .ok (.string ⟨((L.drop lo).take m).toArray⟩) w:=by
 have hlen:((L.drop lo).take m).length = m:=by rw [List.length_take,List.length_drop];omega
 have:=run_convert_bytes_back (P:=Tryz.prog) w 41 9 5 ⟨g,lo,none⟩ c ((L.drop lo).take m) Tryz.underlying41 Tryz.underlying5 Tryz.underlying9 (fun j hj=>by
  have hj':j < m:=by rw [hlen] at hj;exact hj
  have hadd:(⟨g,lo,none⟩:Addr).add j = ⟨g,lo + j,none⟩:=by unfold Addr.add;split <;> simp_all
  rw [hadd,World.ownsRow.cellAt h (lo + j) (by omega)]
  unfold Lib.byteCells
  rw [List.getElem?_map,List.getElem?_eq_getElem (by omega),Option.map_some,List.getElem_take,List.getElem_drop])
 rwa [hlen] at this
theorem text_ne {s t:ByteArray} (h:s ≠ t):(s.toList == t.toList) = false:=by
 rw [beq_eq_false_iff_ne]
 intro e
 rw [ByteArray.toList_eq,ByteArray.toList_eq] at e
 apply h
 obtain ⟨a⟩:=s
 obtain ⟨b⟩:=t
 congr 1
 exact Array.toList_inj.1 e
theorem text_eq (s:ByteArray):(s.toList == s.toList) = true:=by simp
theorem StrsAt.news {w:World} {ad:Addr} {l:List ByteArray} (h:StrsAt w (some ad) l):∀ j u,(strV l)[j]? = some u → w.cell? (ad.add j) = some u:=fun j u hu=>by
 have hj:j < l.length:=by
  have:=(List.getElem?_eq_some_iff.1 hu).1
  rwa [strV_len] at this
 obtain ⟨a',e,_,h3⟩:=h (by omega)
 obtain rfl:=Option.some.inj e
 rw [strV_at hj] at hu
 rw [← hu]
 exact h3 j hj
def amongV (x:Int) (n:Nat):Nat:=(x % (n:Int)).toNat
theorem amongV_lt (x:Int) (n:Nat) (h:1 ≤ n):amongV x n < n:=by
 have h1:=Int.emod_nonneg x (show (n:Int) ≠ 0 by omega)
 have h2:=Int.emod_lt_of_pos x (show (0:Int) < n by omega)
 unfold amongV
 omega
theorem amongV_emod (x:Int) (n:Nat) (h:1 ≤ n):((amongV x n:Nat):Int) = x % (n:Int):=by
 have h1:=Int.emod_nonneg x (show (n:Int) ≠ 0 by omega)
 unfold amongV
 omega
theorem among_eq (x:Int) (n:Nat) (h1:1 ≤ n):(x.tmod (n:Int) + (n:Int)).tmod (n:Int) = ((amongV x n:Nat):Int) ∧ -(n:Int) < x.tmod (n:Int) ∧ x.tmod (n:Int) < (n:Int):=by
 have a1:x.tmod (n:Int) < (n:Int):=Int.tmod_lt_of_pos x (by omega)
 have a2:-(n:Int) < x.tmod (n:Int):=by
  rcases Int.le_total 0 x with h | h
  ·have:=Int.tmod_nonneg (n:Int) h;omega
  ·have:=Int.tmod_lt_of_pos (-x) (show (0:Int) < n by omega)
   rw [Int.neg_tmod] at this
   omega
 refine ⟨?_,a2,a1⟩
 rw [Int.tmod_eq_emod_of_nonneg (by omega),amongV_emod x n h1,Int.add_emod_right,Int.tmod_def,Int.sub_mul_emod_self_left]
theorem among_any (x:Int) (n:Nat) (w:World) (h1:1 ≤ n) (h2:n ≤ 1000000) :
  Calls Tryz.prog 8 #[.int .i64 x,.int .i64 (n:Int)] w fun e w'=>e = .returned (.int .i64 ((amongV x n:Nat):Int)) ∧ w' = w:=by
 obtain ⟨e1,e2,e3⟩:=among_eq x n h1
 have e4:((n:Int) == 0) = false:=by simp;omega
 have e6:wrap64 (x.tmod (n:Int) + (n:Int)) = x.tmod (n:Int) + (n:Int):=IntWalk.wrap64_in _ ⟨by omega,by omega⟩
 have E:Hid ((wrap64 (x.tmod (n:Int) + (n:Int))).tmod (n:Int) = ((amongV x n:Nat):Int)):=by
  show _ = _
  rw [e6,e1]
 clear e1 e2 e3 e6
 go_enter Tryz.func8,Tryz.ntmps8
 go_wp2
 go_ret
 exact ⟨ret_int E.out,rfl⟩
def Cel (w:World) (g:Nat) (t:TypeId) (xs:List Value):Prop:=w.heap[g]? = some (.cells xs.toArray t (0,0))
section
variable {w w':World} {g g' i:Nat} {t:TypeId} {xs:List Value} {v:Value}
theorem Cel.lt (h:Cel w g t xs):g < w.heap.size:=(Array.getElem?_eq_some_iff.1 h).1
theorem Cel.cell (h:Cel w g t xs) (hv:xs[i]? = some v):w.cell? ⟨g,i,none⟩ = some v:=blk_cell h (by rw [List.getElem?_toArray];exact hv)
theorem Cel.free (h:Cel w g t xs):w.frozen? ⟨g,i,none⟩ = false:=blk_free h i
theorem Cel.set (h:Cel w g t xs):Cel (w.setCell ⟨g,i,none⟩ v) g t (xs.set i v):=by
 unfold Cel at *
 simp [World.setCell,Array.getElem?_modify,h]
theorem Cel.far (h:Cel w g t xs) (hn:g ≠ g'):Cel (w.setCell ⟨g',i,none⟩ v) g t xs:=(Below.heap_setCell w ⟨g',i,none⟩ v g hn).trans h
theorem Cel.below (h:Cel w g t xs) (hb:Below w.heap.size w w'):Cel w' g t xs:=(hb.block g h.lt).trans h
end
section
variable {w w':World} {g i:Nat} {t:TypeId} {xs:List Value} {v:Value}
end
def Unlike (u v:Value):Prop:=∀ j,u.ownBlock = some j → v.ownBlock = some j → False
theorem Unlike.symm {u v:Value} (h:Unlike u v):Unlike v u:=fun j h1 h2=>h j h2 h1
theorem Unlike.ne {u v:Value} (h:Unlike u v):u.ownBlock = none ∨ u.ownBlock ≠ v.ownBlock:=by
 cases e:u.ownBlock with
 | none=>exact .inl rfl
 | some j=>exact .inr fun e2=>h j e e2.symm
theorem Unlike.next {u v v':Value} {n m:Nat} (h:Unlike u v) (hu:∀ j,u.ownBlock = some j → j < n) (hat:v'.ownBlock = v.ownBlock ∨ v'.ownBlock = some m) (hm:n ≤ m):Unlike u v':=fun j h1 h2=>by
 rcases hat with e | e
 ·exact h j h1 (by rw [← e];exact h2)
 ·rw [e] at h2
  have:=hu j h1
  simp only [Option.some.injEq] at h2
  omega
def preV (xs:List Value) (z:Value) (j:Nat):List Value:=xs.take j ++ List.replicate (xs.length - j) z
theorem preV_length (xs:List Value) (z:Value) (j:Nat) (h:j ≤ xs.length):(preV xs z j).length = xs.length:=by simp [preV];omega
theorem preV_set (xs:List Value) (z v:Value) (j:Nat) (h:j < xs.length) (hv:xs[j]? = some v):(preV xs z j).set j v = preV xs z (j + 1):=by
 have e:xs[j]'h = v:=by rw [List.getElem?_eq_getElem h] at hv;exact Option.some.inj hv
 unfold preV
 rw [show xs.length - j = (xs.length - (j + 1)) + 1 from by omega,List.replicate_succ,List.take_succ_eq_append_getElem h,e]
 rw [List.set_append_right _ _ (by simp;omega)]
 simp only [List.length_take,Nat.min_eq_left (Nat.le_of_lt h),Nat.sub_self,List.set_cons_zero,List.append_assoc,List.cons_append,List.nil_append]
theorem preV_at (xs:List Value) (z:Value) (j i:Nat) (h:j ≤ xs.length) (hi:i < xs.length):∃ v,(preV xs z j)[i]? = some v :=
 ⟨_,List.getElem?_eq_getElem (by rw [preV_length _ _ _ h];exact hi)⟩
theorem preV_end (xs:List Value) (z:Value):preV xs z xs.length = xs:=by
 unfold preV
 rw [List.take_length,Nat.sub_self,List.replicate_zero,List.append_nil]
theorem preV_zero (xs:List Value) (z:Value) (n:Nat) (h:xs.length = n) (hz:z.cells = #[z]):(madeCells z.cells (n * 1)).toList = preV xs z 0:=by
 rw [Nat.mul_one,hz,toList_madeCells_one]
 simp [preV,h]
theorem bytes_string {w:World} {g:Nat} {L:List UInt8} (hg:w.heap[g]? = some (.cells (Lib.byteCells L).toArray 5 (0,0))) (lo n cap:Nat) (h:lo + n ≤ L.length) :
  (convert 41 9 (.slice (some ⟨g,lo,none⟩) n cap)).run Tryz.prog w = .ok (.string ⟨((L.drop lo).take n).toArray⟩) w:=by
 have hlen:((L.drop lo).take n).length = n:=by rw [List.length_take,List.length_drop];omega
 have:=run_convert_bytes_back (P:=Tryz.prog) w 41 9 5 ⟨g,lo,none⟩ cap ((L.drop lo).take n) Tryz.underlying41 Tryz.underlying5 Tryz.underlying9 (fun j hj=>by
  have hj':j < n:=by rw [hlen] at hj;exact hj
  have hadd:(⟨g,lo,none⟩:Addr).add j = ⟨g,lo + j,none⟩:=by unfold Addr.add;split <;> simp_all
  rw [hadd]
  refine blk_cell hg ?_
  rw [List.getElem?_toArray]
  unfold Lib.byteCells
  rw [List.getElem?_map,List.getElem?_eq_getElem (by omega),Option.map_some,List.getElem_take,List.getElem_drop])
 rwa [hlen] at this
theorem owns_lower {w:World} {H H' n:Nat} {v:Value} {e:TypeId} {xs:List Value} (h:w.ownsRow H e 1 v n xs) (hH:H' ≤ H):w.ownsRow H' e 1 v n xs:=by
 refine ⟨h.1,?_⟩
 rcases h.2 with h' | ⟨g,cap,cur,hv,h1,h2,h3,h4,h5,h6⟩
 ·exact .inl h'
 ·exact .inr ⟨g,cap,cur,hv,Nat.le_trans hH h1,h2,h3,h4,h5,h6⟩
end Bk
end Go.Proofs.YtlfkhlfkckfbpaaGreat
namespace Go.Proofs.YtlfkhlfkckfbpaaGreat
namespace Ch
structure Vr where
 ts:Int
 shard:ByteArray
 dead:Bool
instance:Inhabited Vr:=⟨⟨0,⟨#[]⟩,false⟩⟩
def noVr:Vr:=⟨0,⟨#[]⟩,false⟩
theorem vr_ext {x y:Vr} (h1:x.ts = y.ts) (h2:x.shard = y.shard) (h3:x.dead = y.dead):x = y:=by
 obtain ⟨a,b,c⟩:=x
 obtain ⟨d,e,f⟩:=y
 simp only at h1 h2 h3
 rw [h1,h2,h3]
instance:DecidableEq Vr:=fun x y=>decidable_of_iff (x.ts = y.ts ∧ x.shard = y.shard ∧ x.dead = y.dead) ⟨fun h=>vr_ext h.1 h.2.1 h.2.2,fun h=>by rw [h];exact ⟨rfl,rfl,rfl⟩⟩
def vrOk (x:Vr):Prop:=1 ≤ x.ts ∧ x.ts ≤ 1125899906842624 ∧ x.shard.size ≤ 2052 ∧ ¬ (x.dead = true ∧ x.shard ≠ ⟨#[]⟩)
def bad (p:Option Int) (x:Vr):Int :=
 if x.ts < 1 ∨ 1125899906842624 < x.ts then 1
 else if 2052 < x.shard.size then 2
 else if x.dead = true ∧ x.shard ≠ ⟨#[]⟩ then 4
 else match p with
  | none=>0
  | some q=>if x.ts ≤ q then 110 else 0
def chkL:Option Int → List Vr → Nat → Int × Int
 | _,[],_=>(0,0)
 | p,x :: r,i=>if bad p x = 0 then chkL (some x.ts) r (i + 1) else (i,bad p x)
def chkP (l:List Vr):Int × Int:=if 1024 < l.length then (-1,2) else chkL none l 0
def lowL (l:List Vr) (t:Int):List Vr:=l.takeWhile (fun x=>decide (x.ts ≤ t))
def placeN (l:List Vr) (t:Int):Nat:=(lowL l t).length
def lastT (l:List Vr):Int:=match l.getLast? with | none=>0 | some x=>x.ts
def addP (l:List Vr) (v:Vr):List Vr × Int :=
 if (chkP l).2 ≠ 0 then ([],(chkP l).2)
 else if (chkP [v]).2 ≠ 0 then ([],(chkP [v]).2)
 else if 0 < l.length ∧ v.ts ≤ lastT l then ([],110)
 else if 1024 ≤ l.length then ([],2)
 else (l ++ [v],0)
def atV (l:List Vr) (t:Int):Vr × Bool:=match (lowL l t).getLast? with | none=>(noVr,false) | some x=>(x,true)
def atP (l:List Vr) (t:Int):Vr × Bool × Int:=if (chkP l).2 ≠ 0 then (noVr,false,(chkP l).2) else ((atV l t).1,(atV l t).2,0)
def goN (l:List Vr) (t:Int):Nat:=match (lowL l t).getLast? with | none=>0 | some x=>if x.dead then placeN l t else placeN l t - 1
def sweepL (l:List Vr) (t:Int):List Vr:=l.drop (goN l t)
def sweepP (l:List Vr) (t:Int):List Vr × Int:=if (chkP l).2 ≠ 0 then ([],(chkP l).2) else (sweepL l t,0)
structure ChOk (l:List Vr):Prop where
 len:l.length ≤ 1024
 each:∀ x ∈ l,vrOk x
 rise:l.Pairwise (fun x y=>x.ts < y.ts)
theorem bad_ok {p:Option Int} {x:Vr}:bad p x = 0 ↔ vrOk x ∧ ∀ q,p = some q → q < x.ts:=by
 unfold bad vrOk
 by_cases h1:x.ts < 1 ∨ 1125899906842624 < x.ts
 ·rw [if_pos h1]
  constructor
  ·intro h;omega
  ·intro h;omega
 rw [if_neg h1]
 by_cases h2:2052 < x.shard.size
 ·rw [if_pos h2]
  constructor
  ·intro h;omega
  ·intro h;omega
 rw [if_neg h2]
 by_cases h3:x.dead = true ∧ x.shard ≠ ⟨#[]⟩
 ·rw [if_pos h3]
  constructor
  ·intro h;omega
  ·intro h;exact absurd h3 h.1.2.2.2
 rw [if_neg h3]
 cases p with
 | none =>
  constructor
  ·intro _;exact ⟨⟨by omega,by omega,by omega,h3⟩,fun q h=>by cases h⟩
  ·intro _;rfl
 | some q =>
  simp only
  by_cases h4:x.ts ≤ q
  ·rw [if_pos h4]
   constructor
   ·intro h;omega
   ·intro h;have:=h.2 q rfl;omega
  ·rw [if_neg h4]
   constructor
   ·intro _;exact ⟨⟨by omega,by omega,by omega,h3⟩,fun q' h=>by obtain rfl:=Option.some.inj h;omega⟩
   ·intro _;rfl
theorem chkL_ok:∀ (l:List Vr) (p:Option Int) (i:Nat),(chkL p l i).2 = 0 ↔ (∀ x ∈ l,vrOk x) ∧ l.Pairwise (fun x y=>x.ts < y.ts) ∧ ∀ q,p = some q → ∀ x ∈ l,q < x.ts
 | [],p,i=>by simp [chkL]
 | x :: r,p,i=>by
  unfold chkL
  by_cases h:bad p x = 0
  ·rw [if_pos h,chkL_ok r]
   obtain ⟨h1,h2⟩:=bad_ok.1 h
   constructor
   ·rintro ⟨a,b,c⟩
    have c':=c x.ts rfl
    refine ⟨fun y hy=>?_,List.pairwise_cons.2 ⟨c',b⟩,fun q e y hy=>?_⟩
    ·rcases List.mem_cons.1 hy with rfl | hy
     ·exact h1
     ·exact a y hy
    ·rcases List.mem_cons.1 hy with rfl | hy
     ·exact h2 q e
     ·have:=h2 q e;have:=c' y hy;omega
   ·rintro ⟨a,b,c⟩
    obtain ⟨b1,b2⟩:=List.pairwise_cons.1 b
    exact ⟨fun y hy=>a y (List.mem_cons_of_mem _ hy),b2,fun q e y hy=>by obtain rfl:=Option.some.inj e;exact b1 y hy⟩
  ·rw [if_neg h]
   constructor
   ·intro e;exact absurd e h
   ·rintro ⟨a,b,c⟩
    exact absurd (bad_ok.2 ⟨a x (List.mem_cons_self ..),fun q e=>c q e x (List.mem_cons_self ..)⟩) h
theorem chk_ok {l:List Vr}:(chkP l).2 = 0 ↔ ChOk l:=by
 unfold chkP
 by_cases h:1024 < l.length
 ·rw [if_pos h]
  constructor
  ·intro e;simp at e
  ·intro e;have:=e.len;omega
 ·rw [if_neg h,chkL_ok]
  constructor
  ·rintro ⟨a,b,_⟩;exact ⟨by omega,a,b⟩
  ·intro e;exact ⟨e.each,e.rise,fun q e=>by cases e⟩
theorem chk_zero {l:List Vr} (h:ChOk l):chkP l = (0,0):=by
 have h2:=chk_ok.2 h
 have:∀ (l:List Vr) (p:Option Int) (i:Nat),(chkL p l i).2 = 0 → chkL p l i = (0,0):=by
  intro l
  induction l with
  | nil=>intro p i _;rfl
  | cons x r ih =>
   intro p i h
   unfold chkL at h ⊢
   by_cases hb:bad p x = 0
   ·rw [if_pos hb] at h ⊢;exact ih _ _ h
   ·rw [if_neg hb] at h;exact absurd h hb
 unfold chkP at h2 ⊢
 by_cases hl:1024 < l.length
 ·rw [if_pos hl] at h2;simp at h2
 ·rw [if_neg hl] at h2 ⊢;exact this _ _ _ h2
def highL (l:List Vr) (t:Int):List Vr:=l.dropWhile (fun x=>decide (x.ts ≤ t))
theorem low_high (l:List Vr) (t:Int):lowL l t ++ highL l t = l:=List.takeWhile_append_dropWhile
theorem low_le {l:List Vr} {t:Int}:∀ x ∈ lowL l t,x.ts ≤ t:=fun x hx=>by
 have:=List.all_eq_true.1 (List.all_takeWhile (p:=fun x:Vr=>decide (x.ts ≤ t)) (l:=l)) x hx
 simpa using this
theorem ok_sub {a b:List Vr} (h:ChOk a) (hs:b.Sublist a):ChOk b :=
 ⟨Nat.le_trans hs.length_le h.len,fun x hx=>h.each x (hs.subset hx),h.rise.sublist hs⟩
theorem low_is {a b:List Vr} {t:Int} (ha:∀ x ∈ a,x.ts ≤ t) (hb:∀ x ∈ b,t < x.ts):lowL (a ++ b) t = a:=by
 unfold lowL
 induction a with
 | nil =>
  cases b with
  | nil=>rfl
  | cons x r =>
   have:=hb x (List.mem_cons_self ..)
   rw [List.nil_append,List.takeWhile_cons_of_neg (by simp;omega)]
 | cons x r ih =>
  have:=ha x (List.mem_cons_self ..)
  rw [List.cons_append,List.takeWhile_cons_of_pos (by simpa using this),ih (fun y hy=>ha y (List.mem_cons_of_mem _ hy))]
theorem parts {l:List Vr} (h:l.Pairwise (fun x y=>x.ts < y.ts)) (t:Int):∃ a b,l = a ++ b ∧ (∀ x ∈ a,x.ts ≤ t) ∧ (∀ x ∈ b,t < x.ts) ∧ lowL l t = a:=by
 refine ⟨lowL l t,highL l t,(low_high l t).symm,low_le,fun x hx=>?_,rfl⟩
 unfold highL at hx
 induction l with
 | nil=>simp at hx
 | cons y r ih =>
  obtain ⟨h1,h2⟩:=List.pairwise_cons.1 h
  by_cases hy:y.ts ≤ t
  ·rw [List.dropWhile_cons_of_pos (by simpa using hy)] at hx
   exact ih h2 hx
  ·rw [List.dropWhile_cons_of_neg (by simpa using hy)] at hx
   rcases List.mem_cons.1 hx with rfl | hx
   ·omega
   ·have:=h1 x hx;omega
def keepL (a:List Vr):List Vr:=match a.getLast? with | none=>[] | some x=>if x.dead then [] else [x]
theorem sweep_is {a b:List Vr} {t:Int} (ha:∀ x ∈ a,x.ts ≤ t) (hb:∀ x ∈ b,t < x.ts):sweepL (a ++ b) t = keepL a ++ b:=by
 unfold sweepL goN placeN keepL
 rw [low_is ha hb]
 rcases List.eq_nil_or_concat a with rfl | ⟨a',x,rfl⟩
 ·rfl
 ·rw [List.concat_eq_append,List.getLast?_concat]
  simp only
  by_cases hd:x.dead = true
  ·rw [if_pos hd,if_pos hd,List.drop_append_of_le_length (Nat.le_refl _),List.drop_length,List.nil_append]
  ·rw [if_neg hd,if_neg hd,List.append_assoc,List.length_append,List.length_singleton,Nat.add_sub_cancel,List.drop_left]
theorem at_is {a b:List Vr} {t:Int} (ha:∀ x ∈ a,x.ts ≤ t) (hb:∀ x ∈ b,t < x.ts):atV (a ++ b) t = match a.getLast? with | none=>(noVr,false) | some x=>(x,true):=by
 unfold atV
 rw [low_is ha hb]
theorem keep_sub (a:List Vr):(keepL a).Sublist a:=by
 unfold keepL
 rcases List.eq_nil_or_concat a with rfl | ⟨a',x,rfl⟩
 ·exact List.Sublist.refl _
 ·rw [List.concat_eq_append,List.getLast?_concat]
  simp only
  by_cases hd:x.dead = true
  ·rw [if_pos hd];exact List.nil_sublist _
  ·rw [if_neg hd];exact List.sublist_append_right _ _
theorem sweep_sub {l:List Vr} (t:Int):(sweepL l t).Sublist l:=List.drop_sublist _ _
theorem keep_le {a:List Vr} {t:Int} (h:∀ x ∈ a,x.ts ≤ t):∀ x ∈ keepL a,x.ts ≤ t:=fun x hx=>h x ((keep_sub a).subset hx)
theorem app_le {a c:List Vr} {t:Int} (h:∀ x ∈ a,x.ts ≤ t) (h2:∀ x ∈ c,x.ts ≤ t):∀ x ∈ a ++ c,x.ts ≤ t:=fun x hx=>(List.mem_append.1 hx).elim (h x) (h2 x)
abbrev Rise (l:List Vr):Prop:=l.Pairwise (fun x y=>x.ts < y.ts)
structure Added (l:List Vr) (v:Vr):Prop where
 ok:ChOk l
 one:vrOk v
 last:lastT l < v.ts
 all:∀ x ∈ l,x.ts < v.ts
 more:ChOk (l ++ [v])
theorem last_top {l:List Vr} (h:Rise l):∀ x ∈ l,x.ts ≤ lastT l:=by
 rcases List.eq_nil_or_concat l with rfl | ⟨l',y,rfl⟩
 ·intro x hx;simp at hx
 ·rw [List.concat_eq_append] at h ⊢
  unfold lastT
  rw [List.getLast?_concat]
  intro x hx
  rcases List.mem_append.1 hx with hx | hx
  ·exact Int.le_of_lt ((List.pairwise_append.1 h).2.2 x hx y (by simp))
  ·obtain rfl:=List.mem_singleton.1 hx;exact Int.le_refl _
theorem added {l:List Vr} {v:Vr} (h:(addP l v).2 = 0):Added l v ∧ addP l v = (l ++ [v],0):=by
 unfold addP at h ⊢
 by_cases h1:(chkP l).2 ≠ 0
 ·rw [if_pos h1] at h;exact absurd h h1
 rw [if_neg h1] at h ⊢
 by_cases h2:(chkP [v]).2 ≠ 0
 ·rw [if_pos h2] at h;exact absurd h h2
 rw [if_neg h2] at h ⊢
 by_cases h3:0 < l.length ∧ v.ts ≤ lastT l
 ·rw [if_pos h3] at h;simp at h
 rw [if_neg h3] at h ⊢
 by_cases h4:1024 ≤ l.length
 ·rw [if_pos h4] at h;simp at h
 rw [if_neg h4] at h ⊢
 have ok:=chk_ok.1 (Decidable.not_not.1 h1)
 have one:=(chk_ok.1 (Decidable.not_not.1 h2)).each v (by simp)
 have hl:lastT l < v.ts:=by
  by_cases h0:0 < l.length
  ·omega
  ·have:l = []:=List.eq_nil_of_length_eq_zero (by omega)
   subst this
   have:=one.1
   show (0:Int) < _
   omega
 have hall:∀ x ∈ l,x.ts < v.ts:=fun x hx=>Int.lt_of_le_of_lt (last_top ok.rise x hx) hl
 refine ⟨⟨ok,one,hl,hall,⟨by rw [List.length_append];simp;omega,fun x hx=>?_,List.pairwise_append.2 ⟨ok.rise,by simp,fun x hx y hy=>by obtain rfl:=List.mem_singleton.1 hy;exact hall x hx⟩⟩⟩,rfl⟩
 rcases List.mem_append.1 hx with hx | hx
 ·exact ok.each x hx
 ·obtain rfl:=List.mem_singleton.1 hx;exact one
end Ch
end Go.Proofs.YtlfkhlfkckfbpaaGreat
namespace Go.Proofs.YtlfkhlfkckfbpaaGreat
namespace Pk
def plain (n:Nat):List UInt8:=if n < 128 then [UInt8.ofNat n] else UInt8.ofNat (n % 128 + 128) :: plain (n / 128)
termination_by n
decreasing_by omega
theorem plain_small {n:Nat} (h:n < 128):plain n = [UInt8.ofNat n]:=by rw [plain,if_pos h]
theorem plain_big {n:Nat} (h:128 ≤ n):plain n = UInt8.ofNat (n % 128 + 128) :: plain (n / 128):=by rw [plain,if_neg (by omega)]
theorem plain_pos (n:Nat):1 ≤ (plain n).length:=by
 rw [plain];split <;> simp
inductive Rd
 | ok (n used:Nat)
 | fin
 | form
def Rd.push (x:Nat):Rd → Rd
 | .ok n u=>.ok (x + 128 * n) (u + 1)
 | .fin=>.fin
 | .form=>.form
def readK:Nat → Nat → List UInt8 → Rd
 | 0,_,_=>.form
 | _ + 1,_,[]=>.fin
 | k + 1,i,b :: r=>if b.toNat < 128 then (if b.toNat = 0 ∧ 0 < i then .form else .ok b.toNat 1) else (readK k (i + 1) r).push (b.toNat % 128)
def readR (L:List UInt8):Rd:=readK 9 0 L
theorem ofNat_toNat_lt {n:Nat} (h:n < 256):(UInt8.ofNat n).toNat = n:=UInt8.toNat_ofNat_of_lt' (by show n < 256;exact h)
theorem readK_plain:∀ (k i n:Nat) (rest:List UInt8),n < 128 ^ k → (0 < i → 0 < n) → 1 ≤ k → readK k i (plain n ++ rest) = .ok n (plain n).length
 | 0,i,n,rest,h,hp,hk=>absurd hk (by omega)
 | k + 1,i,n,rest,h,hp,_=>by
  by_cases hs:n < 128
  ·rw [plain_small hs]
   show (if (UInt8.ofNat n).toNat < 128 then _ else _) = _
   rw [ofNat_toNat_lt (by omega),if_pos hs,if_neg (by omega)];rfl
  ·rw [plain_big (by omega)]
   show (if (UInt8.ofNat (n % 128 + 128)).toNat < 128 then _ else _) = _
   rw [ofNat_toNat_lt (by omega),if_neg (by omega)]
   have h2:n / 128 < 128 ^ k:=Nat.div_lt_of_lt_mul (by rw [Nat.pow_succ] at h;omega)
   have hk:1 ≤ k:=by
    rcases Nat.eq_zero_or_pos k with e | e
    ·subst e;simp at h2;omega
    ·exact e
   show (readK k (i + 1) (plain (n / 128) ++ rest)).push _ = _
   rw [readK_plain k (i + 1) (n / 128) rest h2 (fun _=>by omega) hk]
   show Rd.ok _ _ = Rd.ok _ _
   rw [List.length_cons,show (n % 128 + 128) % 128 + 128 * (n / 128) = n by omega]
theorem readK_ok:∀ (k i:Nat) (L:List UInt8) {n u:Nat},readK k i L = .ok n u → L = plain n ++ L.drop u ∧ u = (plain n).length ∧ n < 128 ^ k ∧ (0 < i → 0 < n)
 | 0,_,_,_,_,h=>by simp [readK] at h
 | _ + 1,_,[],_,_,h=>by simp [readK] at h
 | k + 1,i,b :: r,n,u,h=>by
  have hb:b.toNat < 256:=b.toNat_lt
  rw [readK] at h
  split at h
  ·next hs =>
   split at h
   ·cases h
   ·next hz =>
    simp only [Rd.ok.injEq] at h
    obtain ⟨rfl,rfl⟩:=h
    rw [plain_small hs]
    refine ⟨by simp,rfl,?_,fun hi=>by omega⟩
    have:128 ^ 1 ≤ 128 ^ (k + 1):=Nat.pow_le_pow_right (by omega) (by omega)
    omega
  ·next hs =>
   cases hr:readK k (i + 1) r with
   | fin=>rw [hr] at h;simp [Rd.push] at h
   | form=>rw [hr] at h;simp [Rd.push] at h
   | ok m v =>
    obtain ⟨e1,e2,e3,e4⟩:=readK_ok k (i + 1) r hr
    rw [hr] at h
    simp only [Rd.push,Rd.ok.injEq] at h
    obtain ⟨rfl,rfl⟩:=h
    have hm:=e4 (by omega)
    have hp:plain (b.toNat % 128 + 128 * m) = b :: plain m:=by
     rw [plain_big (by omega),show (b.toNat % 128 + 128 * m) / 128 = m by omega,show (b.toNat % 128 + 128 * m) % 128 + 128 = b.toNat by omega,UInt8.ofNat_toNat]
    rw [hp]
    refine ⟨?_,by rw [List.length_cons,e2],by rw [Nat.pow_succ];omega,fun _=>by omega⟩
    rw [List.drop_succ_cons,List.cons_append,← e1]
theorem readK_cut:∀ (k i n j:Nat),n < 128 ^ k → 1 ≤ k → j < (plain n).length → readK k i ((plain n).take j) = .fin
 | 0,i,n,j,h,hk,hj=>absurd hk (by omega)
 | k + 1,i,n,0,h,_,hj=>rfl
 | k + 1,i,n,j + 1,h,_,hj=>by
  by_cases hs:n < 128
  ·rw [plain_small hs] at hj;simp at hj
  ·rw [plain_big (by omega)] at hj ⊢
   rw [List.length_cons] at hj
   have h2:n / 128 < 128 ^ k:=Nat.div_lt_of_lt_mul (by rw [Nat.pow_succ] at h;omega)
   have hk:1 ≤ k:=by
    rcases Nat.eq_zero_or_pos k with e | e
    ·subst e;simp at h2;omega
    ·exact e
   show (if (UInt8.ofNat (n % 128 + 128)).toNat < 128 then _ else _) = _
   rw [ofNat_toNat_lt (by omega),if_neg (by omega)]
   show (readK k (i + 1) ((plain (n / 128)).take j)).push _ = _
   rw [readK_cut k (i + 1) (n / 128) j h2 hk (by omega)];rfl
theorem plain_len:∀ (k n:Nat),n < 128 ^ k → 1 ≤ k → (plain n).length ≤ k
 | 0,_,_,h=>absurd h (by omega)
 | k + 1,n,h,_=>by
  by_cases hs:n < 128
  ·rw [plain_small hs];simp
  ·have h2:n / 128 < 128 ^ k:=Nat.div_lt_of_lt_mul (by rw [Nat.pow_succ] at h;omega)
   have hk:1 ≤ k:=by
    rcases Nat.eq_zero_or_pos k with e | e
    ·subst e;simp at h2;omega
    ·exact e
   have:=plain_len k (n / 128) h2 hk
   rw [plain_big (by omega),List.length_cons]
   omega
termination_by n=>n
decreasing_by omega
def zig (z:Int):Nat:=if z < 0 then (-2 * z - 1).toNat else (2 * z).toNat
def unzig (n:Nat):Int:=if n % 2 = 1 then -((n / 2:Nat):Int) - 1 else ((n / 2:Nat):Int)
theorem unzig_zig (z:Int):unzig (zig z) = z:=by
 unfold unzig zig
 split <;> split <;> omega
theorem zig_unzig (n:Nat):zig (unzig n) = n:=by
 unfold unzig zig
 split <;> split <;> omega
def numOk (z:Int):Prop:=-4611686018427387904 ≤ z ∧ z ≤ 4611686018427387903
instance (z:Int):Decidable (numOk z):=inferInstanceAs (Decidable (_ ∧ _))
theorem zig_lt {z:Int} (h:numOk z):zig z < 128 ^ 9:=by
 obtain ⟨h1,h2⟩:=h
 show zig z < 9223372036854775808
 unfold zig
 split <;> omega
theorem unzig_ok {n:Nat} (h:n < 128 ^ 9):numOk (unzig n):=by
 have h':n < 9223372036854775808:=h
 unfold unzig numOk
 split <;> omega
def signed (z:Int):List UInt8:=plain (zig z)
theorem signed_len {z:Int} (h:numOk z):1 ≤ (signed z).length ∧ (signed z).length ≤ 9:=⟨plain_pos _,plain_len 9 _ (zig_lt h) (by omega)⟩
def MayBe (ns:List Int) (ts:List ByteArray):Prop:=ns.length ≤ 1024 ∧ ts.length ≤ 1024 ∧ (∀ n ∈ ns,numOk n) ∧ ∀ t ∈ ts,t.size ≤ 4096
def textL (t:ByteArray):List UInt8:=plain t.size ++ t.data.toList
def numsL (ns:List Int):List UInt8:=ns.flatMap signed
def textsL (ts:List ByteArray):List UInt8:=ts.flatMap textL
def bytesL (ns:List Int) (ts:List ByteArray):List UInt8:=plain ns.length ++ (numsL ns ++ (plain ts.length ++ textsL ts))
inductive Er
 | fin
 | bad (left code:Nat)
def Er.place (n:Nat):Er → Nat
 | .fin=>n
 | .bad left _=>n - left
def Er.code:Er → Nat
 | .fin=>50
 | .bad _ c=>c
def cnt (most:Nat) (L:List UInt8):Except Er (Nat × List UInt8) :=
 match readR L with
 | .ok n u=>if most < n then .error (.bad L.length 2) else .ok (n,L.drop u)
 | .fin=>.error .fin
 | .form=>.error (.bad L.length 3)
def numF (L:List UInt8):Except Er (Nat × List UInt8) :=
 match readR L with
 | .ok n u=>.ok (n,L.drop u)
 | .fin=>.error .fin
 | .form=>.error (.bad L.length 3)
def numsF:Nat → List UInt8 → Except Er (List Int × List UInt8)
 | 0,L=>.ok ([],L)
 | k + 1,L=>match numF L with
  | .error e=>.error e
  | .ok (n,r)=>match numsF k r with
   | .error e=>.error e
   | .ok (ns,r2)=>.ok (unzig n :: ns,r2)
def textF (L:List UInt8):Except Er (ByteArray × List UInt8) :=
 match cnt 4096 L with
 | .error e=>.error e
 | .ok (n,r)=>if r.length < n then .error .fin else .ok (⟨(r.take n).toArray⟩,r.drop n)
def textsF:Nat → List UInt8 → Except Er (List ByteArray × List UInt8)
 | 0,L=>.ok ([],L)
 | k + 1,L=>match textF L with
  | .error e=>.error e
  | .ok (t,r)=>match textsF k r with
   | .error e=>.error e
   | .ok (ts,r2)=>.ok (t :: ts,r2)
def decL (L:List UInt8):Except Er (List Int × List ByteArray) :=
 match cnt 1024 L with
 | .error e=>.error e
 | .ok (k,r1)=>match numsF k r1 with
  | .error e=>.error e
  | .ok (ns,r2)=>match cnt 1024 r2 with
   | .error e=>.error e
   | .ok (m,r3)=>match textsF m r3 with
    | .error e=>.error e
    | .ok (ts,r4)=>if r4 = [] then .ok (ns,ts) else .error (.bad r4.length 3)
structure Good {α:Type} (f:List UInt8 → Except Er (α × List UInt8)) (A:List UInt8) (a:α):Prop where
 whole:∀ rest,f (A ++ rest) = .ok (a,rest)
 cut:∀ j,j < A.length → f (A.take j) = .error .fin
theorem Good.of_eq {α:Type} {f g:List UInt8 → Except Er (α × List UInt8)} {A:List UInt8} {a:α} (h:Good f A a) (e:∀ L,g L = f L):Good g A a :=
 ⟨fun rest=>by rw [e];exact h.whole rest,fun j hj=>by rw [e];exact h.cut j hj⟩
theorem Good.then {α β γ:Type} {f:List UInt8 → Except Er (α × List UInt8)} {g:α → List UInt8 → Except Er (β × List UInt8)} {h:α → β → γ} {A B:List UInt8} {a:α} {b:β} (hA:Good f A a) (hB:Good (g a) B b) :
  Good (fun L=>match f L with | .error e=>.error e | .ok (a,r)=>match g a r with | .error e=>.error e | .ok (b,r2)=>.ok (h a b,r2)) (A ++ B) (h a b):=by
 refine ⟨fun rest=>?_,fun j hj=>?_⟩
 ·rw [List.append_assoc]
  simp only [hA.whole,hB.whole]
 ·by_cases hlt:j < A.length
  ·rw [List.take_append_of_le_length (by omega)]
   simp only [hA.cut j hlt]
  ·rw [List.length_append] at hj
   rw [List.take_append,List.take_of_length_le (by omega)]
   simp only [hA.whole,hB.cut (j - A.length) (by omega)]
theorem readR_plain {n:Nat} (rest:List UInt8) (h:n < 128 ^ 9):readR (plain n ++ rest) = .ok n (plain n).length:=readK_plain 9 0 n rest h (fun h=>absurd h (by omega)) (by omega)
theorem readR_cut {n j:Nat} (h:n < 128 ^ 9) (hj:j < (plain n).length):readR ((plain n).take j) = .fin:=readK_cut 9 0 n j h (by omega) hj
theorem readR_ok {L:List UInt8} {n u:Nat} (h:readR L = .ok n u):L = plain n ++ L.drop u ∧ u = (plain n).length ∧ n < 128 ^ 9:=by
 obtain ⟨h1,h2,h3,_⟩:=readK_ok 9 0 L h
 exact ⟨h1,h2,h3⟩
theorem cnt_good {most n:Nat} (h:n ≤ most) (h9:n < 128 ^ 9):Good (cnt most) (plain n) n:=by
 refine ⟨fun rest=>?_,fun j hj=>?_⟩
 ·unfold cnt
  rw [readR_plain rest h9]
  simp only [if_neg (show ¬ most < n by omega),List.drop_left]
 ·unfold cnt
  rw [readR_cut h9 hj]
theorem numF_good {n:Nat} (h9:n < 128 ^ 9):Good numF (plain n) n:=by
 refine ⟨fun rest=>?_,fun j hj=>?_⟩
 ·unfold numF
  rw [readR_plain rest h9]
  simp only [List.drop_left]
 ·unfold numF
  rw [readR_cut h9 hj]
theorem numsF_good:∀ (ns:List Int),(∀ n ∈ ns,numOk n) → Good (numsF ns.length) (numsL ns) ns
 | [],_=>⟨fun _=>rfl,fun j hj=>absurd hj (by simp [numsL])⟩
 | z :: ns,h=>by
  have hz:=h z (List.mem_cons_self ..)
  have h1:=numF_good (zig_lt hz)
  have h2:=numsF_good ns (fun n hn=>h n (List.mem_cons_of_mem _ hn))
  have h3:=Good.then (h:=fun n (ns:List Int)=>unzig n :: ns) h1 (g:=fun _=>numsF ns.length) h2
  rw [unzig_zig] at h3
  refine h3.of_eq fun L=>?_
  rw [List.length_cons,numsF]
  cases numF L with
  | error e=>rfl
  | ok x=>obtain ⟨n,r⟩:=x;simp only;cases numsF ns.length r <;> rfl
theorem take_good {t:ByteArray}:Good (fun r=>if r.length < t.size then Except.error Er.fin else .ok ((⟨(r.take t.size).toArray⟩:ByteArray),r.drop t.size)) t.data.toList t:=by
 have hl:t.data.toList.length = t.size:=Array.length_toList
 refine ⟨fun rest=>?_,fun j hj=>?_⟩
 ·rw [if_neg (by rw [List.length_append];omega),← hl,List.take_left,List.drop_left]
 ·rw [if_pos (by rw [List.length_take];omega)]
theorem textF_good {t:ByteArray} (h:t.size ≤ 4096):Good textF (textL t) t:=by
 have h1:=cnt_good (most:=4096) (n:=t.size) h (by show _ < 9223372036854775808;omega)
 refine ⟨fun rest=>?_,fun j hj=>?_⟩
 ·unfold textF textL
  rw [List.append_assoc,h1.whole]
  exact take_good.whole rest
 ·unfold textF
  by_cases hlt:j < (plain t.size).length
  ·unfold textL
   rw [List.take_append_of_le_length (by omega),h1.cut j hlt]
  ·unfold textL at hj ⊢
   rw [List.length_append] at hj
   rw [List.take_append,List.take_of_length_le (by omega),h1.whole]
   exact take_good.cut (j - (plain t.size).length) (by omega)
theorem textsF_good:∀ (ts:List ByteArray),(∀ t ∈ ts,t.size ≤ 4096) → Good (textsF ts.length) (textsL ts) ts
 | [],_=>⟨fun _=>rfl,fun j hj=>absurd hj (by simp [textsL])⟩
 | t :: ts,h=>by
  have h1:=textF_good (h t (List.mem_cons_self ..))
  have h2:=textsF_good ts (fun n hn=>h n (List.mem_cons_of_mem _ hn))
  have h3:=Good.then (h:=fun t (ts:List ByteArray)=>t :: ts) h1 (g:=fun _=>textsF ts.length) h2
  refine h3.of_eq fun L=>?_
  rw [List.length_cons,textsF]
  cases textF L with
  | error e=>rfl
  | ok x=>obtain ⟨n,r⟩:=x;simp only;cases textsF ts.length r <;> rfl
theorem decL_bytes {ns:List Int} {ts:List ByteArray} (h:MayBe ns ts) (rest:List UInt8):decL (bytesL ns ts ++ rest) = if rest = [] then .ok (ns,ts) else .error (.bad rest.length 3):=by
 obtain ⟨h1,h2,h3,h4⟩:=h
 unfold decL bytesL
 rw [List.append_assoc,(cnt_good h1 (by show _ < 9223372036854775808;omega)).whole]
 simp only
 rw [List.append_assoc,(numsF_good ns h3).whole]
 simp only
 rw [List.append_assoc,(cnt_good h2 (by show _ < 9223372036854775808;omega)).whole]
 simp only
 rw [(textsF_good ts h4).whole]
theorem decL_back {ns:List Int} {ts:List ByteArray} (h:MayBe ns ts):decL (bytesL ns ts) = .ok (ns,ts):=by
 have:=decL_bytes h []
 rwa [List.append_nil,if_pos rfl] at this
theorem cnt_ok {most n:Nat} {L r:List UInt8} (h:cnt most L = .ok (n,r)):L = plain n ++ r ∧ n ≤ most ∧ n < 128 ^ 9:=by
 unfold cnt at h
 cases hr:readR L with
 | fin=>rw [hr] at h;cases h
 | form=>rw [hr] at h;cases h
 | ok m u =>
  obtain ⟨e1,_,e3⟩:=readR_ok hr
  rw [hr] at h
  simp only at h
  split at h
  ·cases h
  ·simp only [Except.ok.injEq,Prod.mk.injEq] at h
   obtain ⟨rfl,rfl⟩:=h
   exact ⟨e1,by omega,e3⟩
theorem numF_ok {n:Nat} {L r:List UInt8} (h:numF L = .ok (n,r)):L = plain n ++ r ∧ n < 128 ^ 9:=by
 unfold numF at h
 cases hr:readR L with
 | fin=>rw [hr] at h;cases h
 | form=>rw [hr] at h;cases h
 | ok m u =>
  obtain ⟨e1,_,e3⟩:=readR_ok hr
  rw [hr] at h
  simp only [Except.ok.injEq,Prod.mk.injEq] at h
  obtain ⟨rfl,rfl⟩:=h
  exact ⟨e1,e3⟩
theorem numsF_ok:∀ (k:Nat) {L r:List UInt8} {ns:List Int},numsF k L = .ok (ns,r) → L = numsL ns ++ r ∧ ns.length = k ∧ ∀ n ∈ ns,numOk n
 | 0,L,r,ns,h=>by
  simp only [numsF,Except.ok.injEq,Prod.mk.injEq] at h
  obtain ⟨rfl,rfl⟩:=h
  exact ⟨rfl,rfl,fun n hn=>absurd hn (by simp)⟩
 | k + 1,L,r,ns,h=>by
  rw [numsF] at h
  cases h1:numF L with
  | error e=>rw [h1] at h;cases h
  | ok x =>
   obtain ⟨n,r1⟩:=x
   obtain ⟨e1,e2⟩:=numF_ok h1
   rw [h1] at h
   simp only at h
   cases h2:numsF k r1 with
   | error e=>rw [h2] at h;cases h
   | ok y =>
    obtain ⟨ns',r2⟩:=y
    obtain ⟨f1,f2,f3⟩:=numsF_ok k h2
    rw [h2] at h
    simp only [Except.ok.injEq,Prod.mk.injEq] at h
    obtain ⟨rfl,rfl⟩:=h
    refine ⟨?_,by rw [List.length_cons,f2],fun z hz=>?_⟩
    ·rw [e1,f1]
     show _ = (signed (unzig n) ++ numsL ns') ++ r2
     unfold signed
     rw [zig_unzig,List.append_assoc]
    ·rcases List.mem_cons.1 hz with rfl | hz
     ·exact unzig_ok e2
     ·exact f3 z hz
theorem textF_ok {t:ByteArray} {L r:List UInt8} (h:textF L = .ok (t,r)):L = textL t ++ r ∧ t.size ≤ 4096:=by
 unfold textF at h
 cases h1:cnt 4096 L with
 | error e=>rw [h1] at h;cases h
 | ok x =>
  obtain ⟨n,r1⟩:=x
  obtain ⟨e1,e2,_⟩:=cnt_ok h1
  rw [h1] at h
  simp only at h
  split at h
  ·cases h
  ·simp only [Except.ok.injEq,Prod.mk.injEq] at h
   obtain ⟨rfl,rfl⟩:=h
   have hz:(⟨(r1.take n).toArray⟩:ByteArray).size = n:=by
    show (r1.take n).toArray.size = n
    rw [List.size_toArray,List.length_take];omega
   unfold textL
   rw [hz]
   refine ⟨?_,e2⟩
   rw [e1,List.append_assoc]
   congr 1
   exact (List.take_append_drop n r1).symm
theorem textsF_ok:∀ (k:Nat) {L r:List UInt8} {ts:List ByteArray},textsF k L = .ok (ts,r) → L = textsL ts ++ r ∧ ts.length = k ∧ ∀ t ∈ ts,t.size ≤ 4096
 | 0,L,r,ts,h=>by
  simp only [textsF,Except.ok.injEq,Prod.mk.injEq] at h
  obtain ⟨rfl,rfl⟩:=h
  exact ⟨rfl,rfl,fun n hn=>absurd hn (by simp)⟩
 | k + 1,L,r,ts,h=>by
  rw [textsF] at h
  cases h1:textF L with
  | error e=>rw [h1] at h;cases h
  | ok x =>
   obtain ⟨t,r1⟩:=x
   obtain ⟨e1,e2⟩:=textF_ok h1
   rw [h1] at h
   simp only at h
   cases h2:textsF k r1 with
   | error e=>rw [h2] at h;cases h
   | ok y =>
    obtain ⟨ts',r2⟩:=y
    obtain ⟨f1,f2,f3⟩:=textsF_ok k h2
    rw [h2] at h
    simp only [Except.ok.injEq,Prod.mk.injEq] at h
    obtain ⟨rfl,rfl⟩:=h
    refine ⟨?_,by rw [List.length_cons,f2],fun z hz=>?_⟩
    ·rw [e1,f1]
     show _ = (textL t ++ textsL ts') ++ r2
     rw [List.append_assoc]
    ·rcases List.mem_cons.1 hz with rfl | hz
     ·exact e2
     ·exact f3 z hz
theorem decL_ok {L:List UInt8} {ns:List Int} {ts:List ByteArray} (h:decL L = .ok (ns,ts)):MayBe ns ts ∧ L = bytesL ns ts:=by
 unfold decL at h
 cases h1:cnt 1024 L with
 | error e=>rw [h1] at h;cases h
 | ok x =>
  obtain ⟨k,r1⟩:=x
  obtain ⟨a1,a2,_⟩:=cnt_ok h1
  rw [h1] at h
  simp only at h
  cases h2:numsF k r1 with
  | error e=>rw [h2] at h;cases h
  | ok x =>
   obtain ⟨ns',r2⟩:=x
   obtain ⟨b1,b2,b3⟩:=numsF_ok k h2
   rw [h2] at h
   simp only at h
   cases h3:cnt 1024 r2 with
   | error e=>rw [h3] at h;cases h
   | ok x =>
    obtain ⟨m,r3⟩:=x
    obtain ⟨c1,c2,_⟩:=cnt_ok h3
    rw [h3] at h
    simp only at h
    cases h4:textsF m r3 with
    | error e=>rw [h4] at h;cases h
    | ok x =>
     obtain ⟨ts',r4⟩:=x
     obtain ⟨d1,d2,d3⟩:=textsF_ok m h4
     rw [h4] at h
     simp only at h
     split at h
     ·next hr =>
      simp only [Except.ok.injEq,Prod.mk.injEq] at h
      obtain ⟨rfl,rfl⟩:=h
      refine ⟨⟨by omega,by omega,b3,d3⟩,?_⟩
      unfold bytesL
      rw [a1,b1,c1,d1,hr,List.append_nil,b2,d2]
     ·cases h
def ckE (ns:List Int) (ts:List ByteArray):Nat :=
 if 1024 < ns.length ∨ 1024 < ts.length then 2 else if ¬ ∀ n ∈ ns,numOk n then 1 else if ¬ ∀ t ∈ ts,t.size ≤ 4096 then 2 else 0
theorem ckE_zero {ns:List Int} {ts:List ByteArray}:ckE ns ts = 0 ↔ MayBe ns ts:=by
 unfold ckE MayBe
 constructor
 ·intro h
  split at h
  ·cases h
  ·next h1 =>
   split at h
   ·cases h
   ·next h2 =>
    split at h
    ·cases h
    ·next h3=>exact ⟨by omega,by omega,Decidable.not_not.1 h2,Decidable.not_not.1 h3⟩
 ·rintro ⟨h1,h2,h3,h4⟩
  rw [if_neg (by omega),if_neg (by simpa using h3),if_neg (by simpa using h4)]
theorem numsL_le:∀ (ns:List Int),(∀ n ∈ ns,numOk n) → (numsL ns).length ≤ 9 * ns.length
 | [],_=>by simp [numsL]
 | z :: ns,h=>by
  have h1:=(signed_len (h z (List.mem_cons_self ..))).2
  have h2:=numsL_le ns (fun n hn=>h n (List.mem_cons_of_mem _ hn))
  show (signed z ++ numsL ns).length ≤ _
  rw [List.length_append,List.length_cons]
  omega
theorem textL_le {t:ByteArray} (h:t.size ≤ 4096):(textL t).length ≤ 4105:=by
 have h1:=plain_len 9 t.size (by show _ < 9223372036854775808;omega) (by omega)
 have h2:t.data.toList.length = t.size:=Array.length_toList
 unfold textL
 rw [List.length_append]
 omega
theorem textsL_le:∀ (ts:List ByteArray),(∀ t ∈ ts,t.size ≤ 4096) → (textsL ts).length ≤ 4105 * ts.length
 | [],_=>by simp [textsL]
 | t :: ts,h=>by
  have h1:=textL_le (h t (List.mem_cons_self ..))
  have h2:=textsL_le ts (fun n hn=>h n (List.mem_cons_of_mem _ hn))
  show (textL t ++ textsL ts).length ≤ _
  rw [List.length_append,List.length_cons]
  omega
end Pk
end Go.Proofs.YtlfkhlfkckfbpaaGreat
namespace Go.Proofs.YtlfkhlfkckfbpaaGreat
namespace Lt
def keyOk (s:ByteArray):Prop:=1 ≤ s.size ∧ s.size ≤ 32
instance (s:ByteArray):Decidable (keyOk s):=inferInstanceAs (Decidable (_ ∧ _))
def leT (a b:ByteArray):Bool:=Op.bytesLess a.toList b.toList || a.toList == b.toList
def Rises (l:List ByteArray):Prop:=∀ i (h:i < l.length),keyOk l[i] ∧ (0 < i → leT l[i] (l[i - 1]'(by omega)) = false)
theorem Rises.nil:Rises []:=fun i h=>absurd h (by simp)
def RisesTo (l:List ByteArray) (j:Nat):Prop:=∀ i (h:i < l.length),i < j → keyOk l[i] ∧ (0 < i → leT l[i] (l[i - 1]'(by omega)) = false)
theorem RisesTo.zero (l:List ByteArray):RisesTo l 0:=fun i _ hj=>absurd hj (by omega)
theorem RisesTo.succ {l:List ByteArray} {j:Nat} (h:RisesTo l j) (hj:j < l.length) (hk:keyOk l[j]) (hr:0 < j → leT l[j] (l[j - 1]'(by omega)) = false):RisesTo l (j + 1):=fun i hi hij=>by
 by_cases e:i = j
 ·subst e;exact ⟨hk,hr⟩
 ·exact h i hi (by omega)
theorem RisesTo.all {l:List ByteArray} (h:RisesTo l l.length):Rises l:=fun i hi=>h i hi hi
theorem not_rises {l:List ByteArray} {j:Nat} (hj:j < l.length) (h:¬ (keyOk l[j] ∧ (0 < j → leT l[j] (l[j - 1]'(by omega)) = false))):¬ Rises l:=fun hr=>h (hr j hj)
structure Wr where
 key:ByteArray
 shard:ByteArray
 dead:Bool
def wrOk (x:Wr):Prop:=x.shard.size ≤ 2052 ∧ ¬ (x.dead = true ∧ x.shard ≠ ⟨#[]⟩)
instance (x:Wr):Decidable (wrOk x):=inferInstanceAs (Decidable (_ ∧ _))
def WritesOk (l:List Wr):Prop:=l.length ≤ 16 ∧ (∀ x ∈ l,wrOk x) ∧ Rises (l.map Wr.key)
def addr (n:Int):Prop:=(0 ≤ n ∧ n < 12) ∨ (100 ≤ n ∧ n < 116)
def txnOk (n:Int):Prop:=1 ≤ n ∧ n ≤ 1125899906842623
def stampOk (n:Int):Prop:=0 ≤ n ∧ n ≤ 1125899906842624
instance (n:Int):Decidable (addr n):=inferInstanceAs (Decidable (_ ∨ _))
instance (n:Int):Decidable (txnOk n):=inferInstanceAs (Decidable (_ ∧ _))
instance (n:Int):Decidable (stampOk n):=inferInstanceAs (Decidable (_ ∧ _))
structure Let where
 kind:Int
 src:Int
 dst:Int
 txn:Int
 ts:Int
 code:Int
 text:ByteArray
 keys:List ByteArray
 ws:List Wr
def kindOk (l:Let):Prop :=
 (l.kind = 1 ∧ (l.keys.length = 1 ∧ (∀ k ∈ l.keys,keyOk k) ∧ l.ws = []) ∧ l.text = ⟨#[]⟩ ∧ l.code = 0) ∨
 (l.kind = 2 ∧ (l.keys.length = 1 ∧ (∀ k ∈ l.keys,keyOk k) ∧ l.ws = []) ∧ l.text.size ≤ 2052 ∧ (l.text = ⟨#[]⟩ ∨ l.code = 1)) ∨
 (l.kind = 3 ∧ l.keys.length ≤ 16 ∧ Rises l.keys ∧ WritesOk l.ws ∧ l.text = ⟨#[]⟩ ∧ l.code = 0) ∨
 (l.kind = 4 ∧ (l.keys = [] ∧ l.ws = [] ∧ l.text = ⟨#[]⟩) ∧ l.code ≤ 1) ∨
 ((l.kind = 5 ∨ l.kind = 6 ∨ l.kind = 7) ∧ (l.keys = [] ∧ l.ws = [] ∧ l.text = ⟨#[]⟩) ∧ l.code = 0) ∨
 (l.kind = 8 ∧ (l.keys = [] ∧ l.ws = [] ∧ l.text = ⟨#[]⟩) ∧ l.code ≤ 2)
def headOk (l:Let):Prop:=addr l.src ∧ addr l.dst ∧ txnOk l.txn ∧ stampOk l.ts ∧ 0 ≤ l.code ∧ l.code ≤ 4
def LetOk (l:Let):Prop:=headOk l ∧ kindOk l
end Lt
end Go.Proofs.YtlfkhlfkckfbpaaGreat
