/- Parts of the proof, joined: Bk, ChMath, ChMath2; their conditions stand with each. -/
import Derived.Test.YtbkanoblcojdfaaGreatRows
import Derived.WalkKit
import Derived.WalkSpells
import Derived.WalkLawsBesides
import Derived.Lib.Hide
import Derived.Deep.QuietTactic
import Derived.BigQuiet
import Derived.Deep.RegionWith
import Derived.Laws.CopyOwn
import Derived.Deep.RegionHeld3
import Derived.Deep.DeepCutAuto
import Derived.Deep.DrawnRows
import Derived.Deep.RegionHeldLaw
import Derived.Lib.AppendStr
import Derived.SliceStrings
import Derived.ProofKit
import Derived.SizedLaws
import Derived.ChangeSlices
import Derived.Carry
import Derived.Below
import Derived.Maps.AppendAt
import Derived.IntWalk
import Derived.Deep.AppendLies
import Derived.Laws.OwnMore
import Derived.Laws.BitsAllLaws
import Derived.Deep.Draws
import Derived.Lib.SmallJoins
import Derived.Lib.BufferWrite
import Derived.StillTail

set_option maxRecDepth 20000
set_option maxHeartbeats 8000000
namespace Go.Proofs.YtbkanoblcojdfaaGreat
namespace Bk
open Go.ChangeShapes Go.WideShapes Go.ChangeAt Go.RowKit
theorem i64_wrap {x:Int} (h0:0 ≤ x) (h1:x < 9223372036854775808):IntKind.i64.wrap x = x:=by
 simp only [IntKind.wrap,IntKind.bits,IntKind.signed];simp;omega
theorem ofInt_i64 (a:Nat) (ha:a < 9223372036854775808):(BitVec.ofInt 64 (a:Int)).toNat = a:=by
 rw [BitVec.ofInt_natCast,BitVec.toNat_ofNat];exact Nat.mod_eq_of_lt (by omega)
theorem ret_int {k:IntKind} {a b:Int} (h:a = b):Ending.returned (.int k a) = .returned (.int k b):=by rw [h]
theorem addr_head (b j:Nat):(⟨b,0,none⟩:Addr).add j = ⟨b,j,none⟩:=by unfold Addr.add;split <;> simp_all
theorem below_append {H:Nat} {w wr w1:World} {v:Value} {o:Obj} {e:TypeId} {n:Nat} {xs:List Value} (hown:wr.ownsRow H e 1 v n xs) (hb:Below H w wr) (hH:H ≤ w.heap.size) (hg:(wr.alloc o).grownBy w1 v.ownBlock):Below H w w1 :=
 (hb.alloc (Nat.le_trans hH hb.size) o).grown hg (by have:=hb.size;simp;omega) (fun j hj=>(hown.lt j hj).1)
theorem Tryz.infoU8:(Tryz.prog.info? 5).map (fun i=>(i.zero,i.size,i.bytes)) = some (some (.int .u8 0),1,1):=by kernel_rfl
theorem blk1 (w:World) (A:Obj):(w.alloc A).heap.size = w.heap.size + 1 ∧ (w.alloc A).heap[w.heap.size]? = some A :=
 ⟨by simp,heap_alloc_new w A⟩
theorem blk2 (w:World) (A B:Obj):((w.alloc A).alloc B).heap.size = w.heap.size + 2 ∧ ((w.alloc A).alloc B).heap[w.heap.size]? = some A ∧ ((w.alloc A).alloc B).heap[w.heap.size + 1]? = some B:=by
 obtain ⟨s1,b1⟩:=blk1 w A
 obtain ⟨s2,b2⟩:=blk1 (w.alloc A) B
 refine ⟨by omega,?_,by rw [← s1];exact b2⟩
 rw [heap_alloc_old _ _ (by omega)];exact b1
theorem blk3 (w:World) (A B C:Obj):(((w.alloc A).alloc B).alloc C).heap.size = w.heap.size + 3 ∧ (((w.alloc A).alloc B).alloc C).heap[w.heap.size]? = some A ∧
  (((w.alloc A).alloc B).alloc C).heap[w.heap.size + 1]? = some B ∧ (((w.alloc A).alloc B).alloc C).heap[w.heap.size + 2]? = some C:=by
 obtain ⟨s1,b1,b2⟩:=blk2 w A B
 obtain ⟨s2,b3⟩:=blk1 ((w.alloc A).alloc B) C
 refine ⟨by omega,?_,?_,by rw [← s1];exact b3⟩
 ·rw [heap_alloc_old _ _ (by omega)];exact b1
 ·rw [heap_alloc_old _ _ (by omega)];exact b2
theorem blk_cell {w:World} {g j:Nat} {cs:Array Value} {T:TypeId} {v:Value} (h:w.heap[g]? = some (.cells cs T (0,0))) (hv:cs[j]? = some v):w.cell? ⟨g,j,none⟩ = some v :=
 (cell_of_row w g j cs T (0,0) h).trans hv
theorem blk_free {w:World} {g:Nat} {cs:Array Value} {T:TypeId} (h:w.heap[g]? = some (.cells cs T (0,0))):∀ j,w.frozen? ⟨g,j,none⟩ = false:=fun j=>frozen_of_row w g j cs T h
theorem below_new {w w1:World} {o:Obj} (h:Below (w.alloc o).heap.size (w.alloc o) w1):Below w.heap.size w w1 :=
 ((Below.refl _ w).alloc (Nat.le_refl _) o).trans (h.mono (by simp))
theorem cell_kept {B:Nat} {w w1:World} (h:Below B w w1) (a:Addr) (ha:a.block < B):w1.cell? a = w.cell? a:=by
 unfold World.cell?
 rw [h.block a.block ha]
def strV (l:List ByteArray):List Value:=l.map Value.string
theorem strV_len (l:List ByteArray):(strV l).length = l.length:=by simp [strV]
theorem strV_at {l:List ByteArray} {i:Nat} (h:i < l.length):(strV l)[i]? = some (.string l[i]):=by
 unfold strV
 rw [List.getElem?_map,List.getElem?_eq_getElem h];rfl
theorem Tryz.infoStr:(Tryz.prog.info? 9).map (fun i=>(i.zero,i.size,i.bytes)) = some (some (.string ⟨#[]⟩),1,16):=by kernel_rfl
theorem st_block (a:Addr) (n:Nat):(a.add n).block = a.block:=by unfold Addr.add;split <;> rfl
def StrsAt (w:World) (A:Option Addr) (l:List ByteArray):Prop :=
 0 < l.length → ∃ ad,A = some ad ∧ ad.block < w.heap.size ∧ ∀ i (h:i < l.length),w.cell? (ad.add i) = some (.string l[i])
theorem StrsAt.below {w w':World} {A:Option Addr} {l:List ByteArray} (h:StrsAt w A l) (hb:Below w.heap.size w w'):StrsAt w' A l:=fun hp=>by
 obtain ⟨ad,h1,h2,h3⟩:=h hp
 exact ⟨ad,h1,Nat.lt_of_lt_of_le h2 hb.size,fun i hi=>(cell_kept hb _ (by rw [st_block];exact h2)).trans (h3 i hi)⟩
theorem StrsAt.alloc {w:World} {A:Option Addr} {l:List ByteArray} (h:StrsAt w A l) (o:Obj):StrsAt (w.alloc o) A l:=h.below ((Below.refl _ w).alloc (Nat.le_refl _) o)
theorem StrsAt.blk {w:World} {g:Nat} {t:TypeId} {l:List ByteArray} (h:w.heap[g]? = some (.cells (strV l).toArray t (0,0))):StrsAt w (some ⟨g,0,none⟩) l:=fun _ =>
 ⟨_,rfl,(Array.getElem?_eq_some_iff.1 h).1,fun i hi=>by rw [addr_head];exact blk_cell h (by rw [List.getElem?_toArray];exact strV_at hi)⟩
theorem StrsAt.own {w:World} {H g n cap:Nat} {e:TypeId} {l:List ByteArray} (h:w.ownsRow H e 1 (.slice (some ⟨g,0,none⟩) n cap) n (strV l)) (hl:n = l.length):StrsAt w (some ⟨g,0,none⟩) l:=fun hp=>by
 have hf:=World.ownsRow.cellAt h
 refine ⟨_,rfl,?_,fun i hi=>?_⟩
 ·obtain ⟨g',cap',hv,_,hlt⟩:=World.ownsRow.form h (by omega)
  simp only [Value.slice.injEq,Option.some.injEq,Addr.mk.injEq] at hv
  obtain ⟨⟨rfl,-⟩,-⟩:=hv
  exact hlt
 ·rw [addr_head,hf i (by omega)]
  exact strV_at hi
theorem add_zero' (ad:Addr):ad.add 0 = ad:=by simp [Addr.add]
theorem st_keep {H size n:Nat} {w W:World} {e:TypeId} {v:Value} {xs:List Value} (h:w.ownsRow H e size v n xs) (hb:Below w.heap.size w W):W.ownsRow H e size v n xs:=by
 refine ⟨h.1,?_⟩
 rcases h.2 with h' | ⟨g,cap,cur,hv,h1,h2,h3⟩
 ·exact .inl h'
 ·exact .inr ⟨g,cap,cur,hv,h1,(hb.block g (Array.getElem?_eq_some_iff.1 h2).1).trans h2,h3⟩
theorem own_bytes {w:World} {H g n cap:Nat} {L:List UInt8} (h:w.ownsRow H 5 1 (.slice (some ⟨g,0,none⟩) n cap) n (Lib.byteCells L)) (hn:n = L.length) (lo m c:Nat) (hlo:lo + m ≤ L.length) :
  (convert 142 9 (.slice (some ⟨g,lo,none⟩) m c)).run Tryz.prog w = .ok (.string ⟨((L.drop lo).take m).toArray⟩) w:=by
 have hlen:((L.drop lo).take m).length = m:=by rw [List.length_take,List.length_drop];omega
 have:=run_convert_bytes_back (P:=Tryz.prog) w 142 9 5 ⟨g,lo,none⟩ c ((L.drop lo).take m) Tryz.underlying142 Tryz.underlying5 Tryz.underlying9 (fun j hj=>by
  have hj':j < m:=by rw [hlen] at hj;exact hj
  have hadd:(⟨g,lo,none⟩:Addr).add j = ⟨g,lo + j,none⟩:=by unfold Addr.add;split <;> simp_all
  rw [hadd,World.ownsRow.cellAt h (lo + j) (by omega)]
  unfold Lib.byteCells
  rw [List.getElem?_map,List.getElem?_eq_getElem (by omega),Option.map_some,List.getElem_take,List.getElem_drop])
 rwa [hlen] at this
theorem text_ne {s t:ByteArray} (h:s ≠ t):(s.toList == t.toList) = false:=by
 rw [beq_eq_false_iff_ne]
 intro e
 rw [ByteArray.toList_eq,ByteArray.toList_eq] at e
 apply h
 obtain ⟨a⟩:=s
 obtain ⟨b⟩:=t
 congr 1
 exact Array.toList_inj.1 e
theorem text_eq (s:ByteArray):(s.toList == s.toList) = true:=by simp
theorem same_any (A B:Option Addr) (c d:Nat) (a b:List ByteArray) (w:World) (ha:StrsAt w A a) (hb:StrsAt w B b) (hn:a.length ≤ 9223372036854775807) :
  Calls Tryz.prog 50 #[.slice A a.length c,.slice B b.length d] w fun e w'=>e = .returned (.bool (decide (a = b))) ∧ ∃ n,w' = w.drewN n:=by
 by_cases hl:a.length = b.length
 ·have q1:((a.length:Int) != (b.length:Int)) = false:=by simp [hl]
  have HA:=Lib.hid ha
  have HB:=Lib.hid hb
  have HL:=Lib.hid hl
  clear ha hb hl
  go_enter Tryz.func50,Tryz.ntmps50
  go_wp2_with fail
  go_loopw [5] (fun i wr=>∃ j n:Nat,j ≤ a.length ∧ i = .int .i64 (j:Int) ∧ Hid (∀ x (h:x < a.length) (h2:x < b.length),x < j → a[x] = b[x]) ∧ wr = w.drewN n) (fun i _=>a.length - (intOf i).toNat)
  case atStart=>exact ⟨0,0,by omega,rfl,fun x _ _ h=>absurd h (by omega),rfl⟩
  case round =>
   obtain ⟨j,n,hj,rfl,heq,rfl⟩:=hrel
   by_cases hlt:j < a.length
   ·have hltb:j < b.length:=by rw [← HL.out];exact hlt
    obtain ⟨ad,rfl,_,hca⟩:=HA.out (by omega)
    obtain ⟨bd,rfl,_,hcb⟩:=HB.out (by omega)
    have c1:=hca j hlt
    have c2:=hcb j hltb
    have p1:(j:Int) < (a.length:Int):=by omega
    have p2:(j:Int) < (b.length:Int):=by omega
    clear hca hcb
    generalize hW:w.drewN n = W
    have HW:=Lib.hid hW
    have c1':W.cell? (ad.add j) = some (.string a[j]):=by rw [← hW];exact c1
    have c2':W.cell? (bd.add j) = some (.string b[j]):=by rw [← hW];exact c2
    clear hW c1 c2
    by_cases hx:a[j] = b[j]
    ·have q2:(a[j].toList == b[j].toList) = true:=by rw [hx];simp
     have HX:=Lib.hid hx
     clear hx
     go_wp2_with fail
     go_quiet (fail)
     go_wp2
     go_roundw
     case rel=>exact ⟨j + 1,_,by omega,by go_num,(fun x h h2 hxj=>by
      by_cases e:x = j
      ·subst e;exact HX.out
      ·exact heq.out x h h2 (by omega)),by rw [← HW.out,World.drewN_drewN]⟩
     case measure=>simp [intOf];omega
    ·have q2:(a[j].toList == b[j].toList) = false:=text_ne hx
     have E:=Lib.hid (show decide (a = b) = false by rw [decide_eq_false_iff_not];intro e;exact hx (by simp only [e]))
     clear hx
     go_wp2_with fail
     go_quiet (fail)
     go_wp2
     go_ret
     exact ⟨by rw [E.out];rfl,_,by rw [← HW.out,World.drewN_drewN]⟩
   ·have E:=Lib.hid (show decide (a = b) = true by
     rw [decide_eq_true_eq]
     exact List.ext_getElem HL.out fun x h h2=>heq.out x h h2 (by omega))
    go_wp2_with fail
    go_ret
    exact ⟨by rw [E.out];rfl,_,rfl⟩
 ·have q1:((a.length:Int) != (b.length:Int)) = true:=by simp;omega
  have E:=Lib.hid (show decide (a = b) = false by rw [decide_eq_false_iff_not];intro e;exact hl (by rw [e]))
  clear hl ha hb
  go_enter Tryz.func50,Tryz.ntmps50
  go_wp2_with fail
  go_ret
  exact ⟨by rw [E.out];rfl,0,rfl⟩
theorem weights_strs {H:Type} (P:Program) (e:TypeId):∀ (ss:List ByteArray) (s:ByteArray),s ∈ ss → s.size ∈ DataW.weightsAll (H:=H) P e (strs ss)
 | [],_,h=>by simp at h
 | x :: r,s,h=>by
  show s.size ∈ (DataW.lit (H:=H) (.string x.data.toList)).weights P e ++ DataW.weightsAll P e (strs r)
  rw [List.mem_append]
  rcases List.mem_cons.1 h with rfl | h
  ·left
   show s.size ∈ [s.data.toList.length]
   simp
  ·exact .inr (weights_strs P e r s h)
theorem StrsAt.news {w:World} {ad:Addr} {l:List ByteArray} (h:StrsAt w (some ad) l):∀ j u,(strV l)[j]? = some u → w.cell? (ad.add j) = some u:=fun j u hu=>by
 have hj:j < l.length:=by
  have:=(List.getElem?_eq_some_iff.1 hu).1
  rwa [strV_len] at this
 obtain ⟨a',e,_,h3⟩:=h (by omega)
 obtain rfl:=Option.some.inj e
 rw [strV_at hj] at hu
 rw [← hu]
 exact h3 j hj
def amongV (x:Int) (n:Nat):Nat:=(x % (n:Int)).toNat
theorem amongV_lt (x:Int) (n:Nat) (h:1 ≤ n):amongV x n < n:=by
 have h1:=Int.emod_nonneg x (show (n:Int) ≠ 0 by omega)
 have h2:=Int.emod_lt_of_pos x (show (0:Int) < n by omega)
 unfold amongV
 omega
theorem amongV_emod (x:Int) (n:Nat) (h:1 ≤ n):((amongV x n:Nat):Int) = x % (n:Int):=by
 have h1:=Int.emod_nonneg x (show (n:Int) ≠ 0 by omega)
 unfold amongV
 omega
theorem among_eq (x:Int) (n:Nat) (h1:1 ≤ n):(x.tmod (n:Int) + (n:Int)).tmod (n:Int) = ((amongV x n:Nat):Int) ∧ -(n:Int) < x.tmod (n:Int) ∧ x.tmod (n:Int) < (n:Int):=by
 have a1:x.tmod (n:Int) < (n:Int):=Int.tmod_lt_of_pos x (by omega)
 have a2:-(n:Int) < x.tmod (n:Int):=by
  rcases Int.le_total 0 x with h | h
  ·have:=Int.tmod_nonneg (n:Int) h;omega
  ·have:=Int.tmod_lt_of_pos (-x) (show (0:Int) < n by omega)
   rw [Int.neg_tmod] at this
   omega
 refine ⟨?_,a2,a1⟩
 rw [Int.tmod_eq_emod_of_nonneg (by omega),amongV_emod x n h1,Int.add_emod_right,Int.tmod_def,Int.sub_mul_emod_self_left]
def Cel (w:World) (g:Nat) (t:TypeId) (xs:List Value):Prop:=w.heap[g]? = some (.cells xs.toArray t (0,0))
section
variable {w w':World} {g g' i:Nat} {t:TypeId} {xs:List Value} {v:Value}
theorem Cel.lt (h:Cel w g t xs):g < w.heap.size:=(Array.getElem?_eq_some_iff.1 h).1
theorem Cel.cell (h:Cel w g t xs) (hv:xs[i]? = some v):w.cell? ⟨g,i,none⟩ = some v:=blk_cell h (by rw [List.getElem?_toArray];exact hv)
theorem Cel.free (h:Cel w g t xs):w.frozen? ⟨g,i,none⟩ = false:=blk_free h i
theorem Cel.set (h:Cel w g t xs):Cel (w.setCell ⟨g,i,none⟩ v) g t (xs.set i v):=by
 unfold Cel at *
 simp [World.setCell,Array.getElem?_modify,h]
theorem Cel.far (h:Cel w g t xs) (hn:g ≠ g'):Cel (w.setCell ⟨g',i,none⟩ v) g t xs:=(Below.heap_setCell w ⟨g',i,none⟩ v g hn).trans h
theorem Cel.below (h:Cel w g t xs) (hb:Below w.heap.size w w'):Cel w' g t xs:=(hb.block g h.lt).trans h
end
section
variable {w w':World} {g i:Nat} {t:TypeId} {xs:List Value} {v:Value}
end
def Unlike (u v:Value):Prop:=∀ j,u.ownBlock = some j → v.ownBlock = some j → False
theorem Unlike.symm {u v:Value} (h:Unlike u v):Unlike v u:=fun j h1 h2=>h j h2 h1
theorem Unlike.ne {u v:Value} (h:Unlike u v):u.ownBlock = none ∨ u.ownBlock ≠ v.ownBlock:=by
 cases e:u.ownBlock with
 | none=>exact .inl rfl
 | some j=>exact .inr fun e2=>h j e e2.symm
theorem Unlike.next {u v v':Value} {n m:Nat} (h:Unlike u v) (hu:∀ j,u.ownBlock = some j → j < n) (hat:v'.ownBlock = v.ownBlock ∨ v'.ownBlock = some m) (hm:n ≤ m):Unlike u v':=fun j h1 h2=>by
 rcases hat with e | e
 ·exact h j h1 (by rw [← e];exact h2)
 ·rw [e] at h2
  have:=hu j h1
  simp only [Option.some.injEq] at h2
  omega
def preV (xs:List Value) (z:Value) (j:Nat):List Value:=xs.take j ++ List.replicate (xs.length - j) z
theorem preV_length (xs:List Value) (z:Value) (j:Nat) (h:j ≤ xs.length):(preV xs z j).length = xs.length:=by simp [preV];omega
theorem preV_set (xs:List Value) (z v:Value) (j:Nat) (h:j < xs.length) (hv:xs[j]? = some v):(preV xs z j).set j v = preV xs z (j + 1):=by
 have e:xs[j]'h = v:=by rw [List.getElem?_eq_getElem h] at hv;exact Option.some.inj hv
 unfold preV
 rw [show xs.length - j = (xs.length - (j + 1)) + 1 from by omega,List.replicate_succ,List.take_succ_eq_append_getElem h,e]
 rw [List.set_append_right _ _ (by simp;omega)]
 simp only [List.length_take,Nat.min_eq_left (Nat.le_of_lt h),Nat.sub_self,List.set_cons_zero,List.append_assoc,List.cons_append,List.nil_append]
theorem preV_at (xs:List Value) (z:Value) (j i:Nat) (h:j ≤ xs.length) (hi:i < xs.length):∃ v,(preV xs z j)[i]? = some v :=
 ⟨_,List.getElem?_eq_getElem (by rw [preV_length _ _ _ h];exact hi)⟩
theorem preV_end (xs:List Value) (z:Value):preV xs z xs.length = xs:=by
 unfold preV
 rw [List.take_length,Nat.sub_self,List.replicate_zero,List.append_nil]
theorem preV_zero (xs:List Value) (z:Value) (n:Nat) (h:xs.length = n) (hz:z.cells = #[z]):(madeCells z.cells (n * 1)).toList = preV xs z 0:=by
 rw [Nat.mul_one,hz,toList_madeCells_one]
 simp [preV,h]
theorem owns_lower {w:World} {H H' n:Nat} {v:Value} {e:TypeId} {xs:List Value} (h:w.ownsRow H e 1 v n xs) (hH:H' ≤ H):w.ownsRow H' e 1 v n xs:=by
 refine ⟨h.1,?_⟩
 rcases h.2 with h' | ⟨g,cap,cur,hv,h1,h2,h3,h4,h5,h6⟩
 ·exact .inl h'
 ·exact .inr ⟨g,cap,cur,hv,Nat.le_trans hH h1,h2,h3,h4,h5,h6⟩
end Bk
end Go.Proofs.YtbkanoblcojdfaaGreat
namespace Go.Proofs.YtbkanoblcojdfaaGreat
namespace Ch
structure Vr where
 ts:Int
 shard:ByteArray
 dead:Bool
instance:Inhabited Vr:=⟨⟨0,⟨#[]⟩,false⟩⟩
theorem vr_ext {x y:Vr} (h1:x.ts = y.ts) (h2:x.shard = y.shard) (h3:x.dead = y.dead):x = y:=by
 obtain ⟨a,b,c⟩:=x
 obtain ⟨d,e,f⟩:=y
 simp only at h1 h2 h3
 rw [h1,h2,h3]
instance:DecidableEq Vr:=fun x y=>decidable_of_iff (x.ts = y.ts ∧ x.shard = y.shard ∧ x.dead = y.dead) ⟨fun h=>vr_ext h.1 h.2.1 h.2.2,fun h=>by rw [h];exact ⟨rfl,rfl,rfl⟩⟩
def vrOk (x:Vr):Prop:=1 ≤ x.ts ∧ x.ts ≤ 1125899906842624 ∧ x.shard.size ≤ 2052 ∧ ¬ (x.dead = true ∧ x.shard ≠ ⟨#[]⟩)
def bad (p:Option Int) (x:Vr):Int :=
 if x.ts < 1 ∨ 1125899906842624 < x.ts then 1
 else if 2052 < x.shard.size then 2
 else if x.dead = true ∧ x.shard ≠ ⟨#[]⟩ then 4
 else match p with
  | none=>0
  | some q=>if x.ts ≤ q then 110 else 0
def chkL:Option Int → List Vr → Nat → Int × Int
 | _,[],_=>(0,0)
 | p,x :: r,i=>if bad p x = 0 then chkL (some x.ts) r (i + 1) else (i,bad p x)
def chkP (l:List Vr):Int × Int:=if 1024 < l.length then (-1,2) else chkL none l 0
def lowL (l:List Vr) (t:Int):List Vr:=l.takeWhile (fun x=>decide (x.ts ≤ t))
def placeN (l:List Vr) (t:Int):Nat:=(lowL l t).length
def lastT (l:List Vr):Int:=match l.getLast? with | none=>0 | some x=>x.ts
def addP (l:List Vr) (v:Vr):List Vr × Int :=
 if (chkP l).2 ≠ 0 then ([],(chkP l).2)
 else if (chkP [v]).2 ≠ 0 then ([],(chkP [v]).2)
 else if 0 < l.length ∧ v.ts ≤ lastT l then ([],110)
 else if 1024 ≤ l.length then ([],2)
 else (l ++ [v],0)
def goN (l:List Vr) (t:Int):Nat:=match (lowL l t).getLast? with | none=>0 | some x=>if x.dead then placeN l t else placeN l t - 1
def sweepL (l:List Vr) (t:Int):List Vr:=l.drop (goN l t)
def sweepP (l:List Vr) (t:Int):List Vr × Int:=if (chkP l).2 ≠ 0 then ([],(chkP l).2) else (sweepL l t,0)
structure ChOk (l:List Vr):Prop where
 len:l.length ≤ 1024
 each:∀ x ∈ l,vrOk x
 rise:l.Pairwise (fun x y=>x.ts < y.ts)
theorem bad_ok {p:Option Int} {x:Vr}:bad p x = 0 ↔ vrOk x ∧ ∀ q,p = some q → q < x.ts:=by
 unfold bad vrOk
 by_cases h1:x.ts < 1 ∨ 1125899906842624 < x.ts
 ·rw [if_pos h1]
  constructor
  ·intro h;omega
  ·intro h;omega
 rw [if_neg h1]
 by_cases h2:2052 < x.shard.size
 ·rw [if_pos h2]
  constructor
  ·intro h;omega
  ·intro h;omega
 rw [if_neg h2]
 by_cases h3:x.dead = true ∧ x.shard ≠ ⟨#[]⟩
 ·rw [if_pos h3]
  constructor
  ·intro h;omega
  ·intro h;exact absurd h3 h.1.2.2.2
 rw [if_neg h3]
 cases p with
 | none =>
  constructor
  ·intro _;exact ⟨⟨by omega,by omega,by omega,h3⟩,fun q h=>by cases h⟩
  ·intro _;rfl
 | some q =>
  simp only
  by_cases h4:x.ts ≤ q
  ·rw [if_pos h4]
   constructor
   ·intro h;omega
   ·intro h;have:=h.2 q rfl;omega
  ·rw [if_neg h4]
   constructor
   ·intro _;exact ⟨⟨by omega,by omega,by omega,h3⟩,fun q' h=>by obtain rfl:=Option.some.inj h;omega⟩
   ·intro _;rfl
theorem chkL_ok:∀ (l:List Vr) (p:Option Int) (i:Nat),(chkL p l i).2 = 0 ↔ (∀ x ∈ l,vrOk x) ∧ l.Pairwise (fun x y=>x.ts < y.ts) ∧ ∀ q,p = some q → ∀ x ∈ l,q < x.ts
 | [],p,i=>by simp [chkL]
 | x :: r,p,i=>by
  unfold chkL
  by_cases h:bad p x = 0
  ·rw [if_pos h,chkL_ok r]
   obtain ⟨h1,h2⟩:=bad_ok.1 h
   constructor
   ·rintro ⟨a,b,c⟩
    have c':=c x.ts rfl
    refine ⟨fun y hy=>?_,List.pairwise_cons.2 ⟨c',b⟩,fun q e y hy=>?_⟩
    ·rcases List.mem_cons.1 hy with rfl | hy
     ·exact h1
     ·exact a y hy
    ·rcases List.mem_cons.1 hy with rfl | hy
     ·exact h2 q e
     ·have:=h2 q e;have:=c' y hy;omega
   ·rintro ⟨a,b,c⟩
    obtain ⟨b1,b2⟩:=List.pairwise_cons.1 b
    exact ⟨fun y hy=>a y (List.mem_cons_of_mem _ hy),b2,fun q e y hy=>by obtain rfl:=Option.some.inj e;exact b1 y hy⟩
  ·rw [if_neg h]
   constructor
   ·intro e;exact absurd e h
   ·rintro ⟨a,b,c⟩
    exact absurd (bad_ok.2 ⟨a x (List.mem_cons_self ..),fun q e=>c q e x (List.mem_cons_self ..)⟩) h
theorem chk_ok {l:List Vr}:(chkP l).2 = 0 ↔ ChOk l:=by
 unfold chkP
 by_cases h:1024 < l.length
 ·rw [if_pos h]
  constructor
  ·intro e;simp at e
  ·intro e;have:=e.len;omega
 ·rw [if_neg h,chkL_ok]
  constructor
  ·rintro ⟨a,b,_⟩;exact ⟨by omega,a,b⟩
  ·intro e;exact ⟨e.each,e.rise,fun q e=>by cases e⟩
theorem chk_zero {l:List Vr} (h:ChOk l):chkP l = (0,0):=by
 have h2:=chk_ok.2 h
 have:∀ (l:List Vr) (p:Option Int) (i:Nat),(chkL p l i).2 = 0 → chkL p l i = (0,0):=by
  intro l
  induction l with
  | nil=>intro p i _;rfl
  | cons x r ih =>
   intro p i h
   unfold chkL at h ⊢
   by_cases hb:bad p x = 0
   ·rw [if_pos hb] at h ⊢;exact ih _ _ h
   ·rw [if_neg hb] at h;exact absurd h hb
 unfold chkP at h2 ⊢
 by_cases hl:1024 < l.length
 ·rw [if_pos hl] at h2;simp at h2
 ·rw [if_neg hl] at h2 ⊢;exact this _ _ _ h2
theorem ok_sub {a b:List Vr} (h:ChOk a) (hs:b.Sublist a):ChOk b :=
 ⟨Nat.le_trans hs.length_le h.len,fun x hx=>h.each x (hs.subset hx),h.rise.sublist hs⟩
theorem sweep_sub {l:List Vr} (t:Int):(sweepL l t).Sublist l:=List.drop_sublist _ _
abbrev Rise (l:List Vr):Prop:=l.Pairwise (fun x y=>x.ts < y.ts)
structure Added (l:List Vr) (v:Vr):Prop where
 ok:ChOk l
 one:vrOk v
 last:lastT l < v.ts
 all:∀ x ∈ l,x.ts < v.ts
 more:ChOk (l ++ [v])
theorem last_top {l:List Vr} (h:Rise l):∀ x ∈ l,x.ts ≤ lastT l:=by
 rcases List.eq_nil_or_concat l with rfl | ⟨l',y,rfl⟩
 ·intro x hx;simp at hx
 ·rw [List.concat_eq_append] at h ⊢
  unfold lastT
  rw [List.getLast?_concat]
  intro x hx
  rcases List.mem_append.1 hx with hx | hx
  ·exact Int.le_of_lt ((List.pairwise_append.1 h).2.2 x hx y (by simp))
  ·obtain rfl:=List.mem_singleton.1 hx;exact Int.le_refl _
theorem added {l:List Vr} {v:Vr} (h:(addP l v).2 = 0):Added l v ∧ addP l v = (l ++ [v],0):=by
 unfold addP at h ⊢
 by_cases h1:(chkP l).2 ≠ 0
 ·rw [if_pos h1] at h;exact absurd h h1
 rw [if_neg h1] at h ⊢
 by_cases h2:(chkP [v]).2 ≠ 0
 ·rw [if_pos h2] at h;exact absurd h h2
 rw [if_neg h2] at h ⊢
 by_cases h3:0 < l.length ∧ v.ts ≤ lastT l
 ·rw [if_pos h3] at h;simp at h
 rw [if_neg h3] at h ⊢
 by_cases h4:1024 ≤ l.length
 ·rw [if_pos h4] at h;simp at h
 rw [if_neg h4] at h ⊢
 have ok:=chk_ok.1 (Decidable.not_not.1 h1)
 have one:=(chk_ok.1 (Decidable.not_not.1 h2)).each v (by simp)
 have hl:lastT l < v.ts:=by
  by_cases h0:0 < l.length
  ·omega
  ·have:l = []:=List.eq_nil_of_length_eq_zero (by omega)
   subst this
   have:=one.1
   show (0:Int) < _
   omega
 have hall:∀ x ∈ l,x.ts < v.ts:=fun x hx=>Int.lt_of_le_of_lt (last_top ok.rise x hx) hl
 refine ⟨⟨ok,one,hl,hall,⟨by rw [List.length_append];simp;omega,fun x hx=>?_,List.pairwise_append.2 ⟨ok.rise,by simp,fun x hx y hy=>by obtain rfl:=List.mem_singleton.1 hy;exact hall x hx⟩⟩⟩,rfl⟩
 rcases List.mem_append.1 hx with hx | hx
 ·exact ok.each x hx
 ·obtain rfl:=List.mem_singleton.1 hx;exact one
end Ch
end Go.Proofs.YtbkanoblcojdfaaGreat
