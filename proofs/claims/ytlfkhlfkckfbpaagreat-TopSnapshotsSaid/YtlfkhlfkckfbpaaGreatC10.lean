/- Parts of the proof, joined: BkGrow, ScRef5, RdRef1, ScView, RdRef2, RdLog, RdRoom, RdSet, RdAll, RdOpenP, RdView, RdRef3, RdSync, RdApp, RdRst, ScBase, RdLaw; their conditions stand with each. -/
import Derived.Maps.AppendAt
import Derived.Deep.QuietTactic
import Derived.BigQuiet
import Derived.Test.YtlfkhlfkckfbpaaGreatC1
import Derived.Test.YtlfkhlfkckfbpaaGreatC2
import Derived.Test.YtlfkhlfkckfbpaaGreatC9

set_option maxRecDepth 20000
set_option maxHeartbeats 8000000
namespace Go.Proofs.YtlfkhlfkckfbpaaGreat
namespace Bk
open Go.RowKit
def GrK (T:TypeId) (r:Option Nat) (pre:List Value) (u:Value) (W W':World):Prop :=
 Below W.heap.size W W' ∨ ∃ (g:Nat) (cur:Array Value),r = some g ∧ W.heap[g]? = some (.cells cur T (0,0)) ∧ pre.length + 1 ≤ cur.size ∧ cur.toList.take pre.length = pre ∧ W' = W.setRow g (pre ++ [u] ++ cur.toList.drop (pre.length + 1)).toArray
section
variable {T:TypeId} {r:Option Nat} {pre:List Value} {u:Value} {w W W':World}
theorem GrK.grown (h:GrK T r pre u W W'):W.grownBy W' r:=by
 rcases h with h | ⟨g,cur,rfl,_,_,_,rfl⟩
 ·exact ⟨h.os,h.tape,h.output,h.size,fun k hk _=>h.block k hk⟩
 ·exact ⟨rfl,rfl,rfl,by simp,fun k _ hk=>setRow_other W g k _ (fun e=>hk (by rw [e]))⟩
theorem GrK.size (h:GrK T r pre u W W'):W.heap.size ≤ W'.heap.size:=h.grown.size
theorem GrK.cel {k:Nat} {t:TypeId} {xs:List Value} (h:Cel W k t xs) (hn:r ≠ some k) (hk:GrK T r pre u W W'):Cel W' k t xs:=(hk.grown.block k h.lt (fun e=>hn e.symm)).trans h
theorem GrK.blk {k:Nat} {o:Obj} (h:W.heap[k]? = some o) (hn:r ≠ some k) (hk:GrK T r pre u W W'):W'.heap[k]? = some o:=(hk.grown.block k (Array.getElem?_eq_some_iff.1 h).1 (fun e=>hn e.symm)).trans h
theorem GrK.first {H n:Nat} {v:Value} (h:W.ownsRow H T 1 v n pre) (hk:GrK T r pre u W W'):W'.ownsRow H T 1 v n pre:=by
 rcases hk with hb | ⟨g,cur,rfl,hg,hz,ht,rfl⟩
 ·exact st_keep h hb
 ·refine ⟨h.1,?_⟩
  rcases h.2 with h' | ⟨g2,cap2,cur2,hv,hH,hg2,h1,h2,h3,h4⟩
  ·exact .inl h'
  ·right
   by_cases e:g2 = g
   ·subst e
    rw [hg] at hg2
    simp only [Option.some.injEq,Obj.cells.injEq,and_true] at hg2
    obtain rfl:=hg2
    refine ⟨g2,cap2,_,hv,hH,setRow_heap W g2 _ _ T _ hg,h1,h2,?_,?_⟩
    ·rw [← h3]
     simp only [List.size_toArray,List.length_append,List.length_drop,Array.length_toList,List.length_singleton]
     omega
    ·rw [List.toList_toArray,List.append_assoc]
     have hl:pre.length = n * 1:=h.1
     rw [List.take_append_of_le_length (by omega),List.take_of_length_le (by omega)]
   ·exact ⟨g2,cap2,cur2,hv,hH,(setRow_other W g g2 _ e).trans hg2,h1,h2,h3,h4⟩
theorem GrK.more {H n:Nat} {v:Value} (h:W.ownsRow H T 1 v n (pre ++ [u])) (hk:GrK T r pre u W W'):W'.ownsRow H T 1 v n (pre ++ [u]):=by
 rcases hk with hb | ⟨g,cur,rfl,hg,hz,ht,rfl⟩
 ·exact st_keep h hb
 ·refine ⟨h.1,?_⟩
  rcases h.2 with h' | ⟨g2,cap2,cur2,hv,hH,hg2,h1,h2,h3,h4⟩
  ·exact .inl h'
  ·right
   by_cases e:g2 = g
   ·subst e
    rw [hg] at hg2
    simp only [Option.some.injEq,Obj.cells.injEq,and_true] at hg2
    obtain rfl:=hg2
    refine ⟨g2,cap2,_,hv,hH,setRow_heap W g2 _ _ T _ hg,h1,h2,?_,?_⟩
    ·rw [← h3]
     simp only [List.size_toArray,List.length_append,List.length_drop,Array.length_toList,List.length_singleton]
     omega
    ·rw [List.toList_toArray]
     have hl:(pre ++ [u]).length = n * 1:=h.1
     rw [List.take_append_of_le_length (by omega),List.take_of_length_le (by omega)]
   ·exact ⟨g2,cap2,cur2,hv,hH,(setRow_other W g g2 _ e).trans hg2,h1,h2,h3,h4⟩
theorem grown_none (h:W.grownBy W' none):Below W.heap.size W W':=⟨h.os,h.tape,h.output,h.size,fun k hk=>h.block k hk (by simp)⟩
theorem run_grow1 {P:Program} {H bytes o:Nat} {t ty:TypeId} {i:TypeInfo} {z v:Value} (ht:P.underlying t = some (.slice T)) (hi:P.info? T = some i) (hz:i.zero = some z) (hsize:i.size = 1) (hby:i.bytes = bytes) (hzs:z.cells.size = 1)
  (hown:W.ownsRow H T 1 v pre.length pre) (hr:r = v.ownBlock) (ho:W.heap[o]? = some (.cells #[u] T (0,0))) (h1:u.oneCell' = true)
  (h63:pre.length + 1 ≤ maxLen) (hbytes:(pre.length + 1) * bytes ≤ 140737488355328) (hbase:H ≤ W.heap.size) :
  ∃ v' W',(Builtin.append_ #[t,t] ty #[v,.slice (some ⟨o,0,none⟩) 1 1]).run P W = .ok v' W' ∧ W'.ownsRow H T 1 v' (pre.length + 1) (pre ++ [u]) ∧ GrK T r pre u W W' ∧ (v'.ownBlock = r ∨ v'.ownBlock = some W.heap.size):=by
 subst hr
 obtain ⟨v',w',hrun,h2,h3,_,h5⟩:=run_append_own_at (P:=P) W H t ty T i z 1 bytes ht hi hz hsize hby hzs (by decide) v pre.length pre hown ⟨o,0,none⟩ 1 1 [u] rfl (str_one ho) (fun q hq=>by simp at hq;subst hq;exact h1) h63 hbytes hbase
 refine ⟨v',w',hrun,h2,?_,h5⟩
 rcases hown.2 with ⟨h',h''⟩ | ⟨g,cap,cur,hv,hbg,hg,hnc,hcm,hcs,htake⟩
 ·subst h'
  exact .inl (grown_none h3)
 ·subst hv
  by_cases hroom:pre.length + 1 ≤ cap
  ·have hr2:=run_append_room (P:=P) W t ty T i ht hi g pre.length cap cur hg ⟨o,0,none⟩ 1 1 [u] (by rw [hsize];rfl) (str_one ho) (fun q hq=>by simp at hq;subst hq;exact h1) hroom (by rw [hsize];simp;omega)
   rw [hrun] at hr2
   simp only [Result.ok.injEq] at hr2
   refine .inr ⟨g,cur,rfl,hg,by omega,by rw [Nat.mul_one] at htake;exact htake,?_⟩
   rw [hr2.2,hsize,Nat.mul_one]
   rw [Nat.mul_one] at htake
   rw [htake];rfl
  ·have hr2:=run_append_grow (P:=P) W t ty T i z ht hi hz ⟨g,0,none⟩ pre.length cap pre (by rw [hsize,Nat.mul_one]) (hown.cells (g:=g) rfl) ⟨o,0,none⟩ 1 1 [u] (by rw [hsize];rfl) (str_one ho) (by omega) (by unfold maxLen at h63;omega) (growslice_fits (by unfold maxLen at h63;omega) (by rw [hby];exact hbytes))
   rw [hrun] at hr2
   simp only [Result.ok.injEq] at hr2
   left
   rw [hr2.2]
   exact (Below.refl _ W).drew.alloc (by simp) _
theorem satK_of {K:World → World → Prop} {L:List (Value → World → Prop)} (h:∀ S ∈ L,∀ v W W',S v W → K W W' → S v W'):∀ i v W W',satK L i v W → K W W' → satK L i v W':=fun i v W W' hs hk=>by
 unfold satK at hs ⊢
 rw [List.getD_eq_getElem?_getD] at hs ⊢
 cases e:L[i]? with
 | none=>trivial
 | some S =>
  rw [e] at hs
  exact h S (List.mem_of_getElem? e) v W W' hs hk
end
end Bk
end Go.Proofs.YtlfkhlfkckfbpaaGreat
namespace Go.Proofs.YtlfkhlfkckfbpaaGreat
namespace Sc
open Go.RowKit Bk
attribute [local go_sem ↓] Go.wp_at_zero Go.wp_at_succ
attribute [local go_sem] floatUpon pick
def TIs (u v:Value) (_:World):Prop:=v = u
def TArr (t:TypeId) (r:Option Nat) (u v:Value) (W:World):Prop:=∃ o,v = .slice (some ⟨o,0,none⟩) 1 1 ∧ W.heap[o]? = some (.cells #[u] t (0,0)) ∧ r ≠ some o
def TRow (t:TypeId) (X b:Nat) (r:Option Nat) (n:Nat) (xs:List Value) (v:Value) (W:World):Prop:=W.ownsRow X t 1 v n xs ∧ (v.ownBlock = r ∨ ∃ p,v.ownBlock = some p ∧ b ≤ p)
end Sc
end Go.Proofs.YtlfkhlfkckfbpaaGreat
namespace Go.Proofs.YtlfkhlfkckfbpaaGreat
namespace Rd
open Go.RowKit Sc Bk
attribute [local go_sem ↓] Go.wp_at_zero Go.wp_at_succ
attribute [local go_sem] floatUpon pick
def areaN (D:Dev):Nat:=(D.on.length - 2) / 2 * 64
section
variable {w:World} {g:Nat} {ao an:Addr} {co cn:Nat} {so sn:List Value} {D:Dev}
theorem u8_i64 (b:UInt8):IntKind.i64.wrap (b.toNat:Int) = (b.toNat:Int):=by
 have:=b.toNat_lt
 exact i64_wrap (by omega) (by omega)
end
end Rd
end Go.Proofs.YtlfkhlfkckfbpaaGreat
namespace Go.Proofs.YtlfkhlfkckfbpaaGreat
namespace Sc
def Idle (D:Dev):Prop:=D.left = 0 ∧ D.down = false
theorem new0_idle (n:Nat):Idle (new0 n):=⟨rfl,rfl⟩
theorem burn_idle {D:Dev} (h:Idle D):burn D = (D,false):=by unfold burn;rw [if_pos h.1]
theorem rd_up {D:Dev} (hd:D.down = false) {k:Nat} (hk:k < D.on.length):rdV D (k:Int) = (flushF D k,0):=by
 unfold rdV flushF
 rw [if_neg (by rw [hd];simp),if_neg (by omega),Int.toNat_natCast]
theorem wr_up {D:Dev} (hd:D.down = false) {k:Nat} (hk:k < D.on.length) {t:ByteArray} (ht:t.size = 64) :
  wrD D (k:Int) t = if (burn D).2 = true then ((burn D).1,90) else (⟨D.on,D.new.set k t,(burn D).1.left,(burn D).1.down⟩,0):=by
 unfold wrD
 rw [rd_up hd hk,if_neg (by simp),if_neg (by simpa using ht),Int.toNat_natCast]
theorem wr_idle {D:Dev} (h:Idle D) {k:Nat} (hk:k < D.on.length) {t:ByteArray} (ht:t.size = 64):wrD D (k:Int) t = (⟨D.on,D.new.set k t,0,false⟩,0):=by
 rw [wr_up h.2 hk ht,burn_idle h,if_neg (by simp),h.1,h.2]
theorem fl_idle {D:Dev} (h:Idle D):flD D = (⟨upd D.on D.on.length (flushF D),upd D.new D.on.length (fun _=>nil0),0,false⟩,0):=by
 unfold flD
 rw [if_neg (by rw [h.2];simp),burn_idle h,if_neg (by simp),h.1,h.2]
theorem not_nil {t:ByteArray} (ht:t.size = 64):t ≠ nil0:=fun e=>by rw [e] at ht;cases ht
theorem view_set {D:Dev} {k i:Nat} (hk:k < D.new.length) {t:ByteArray} (ht:t.size = 64) (l:Nat) (b:Bool):flushF ⟨D.on,D.new.set k t,l,b⟩ i = if i = k then t else flushF D i:=by
 unfold flushF
 simp only
 by_cases e:i = k
 ·subst e
  rw [if_pos rfl,List.getD_eq_getElem?_getD,List.getElem?_set_self hk]
  simp only [Option.getD_some]
  rw [if_neg (not_nil ht)]
 ·rw [if_neg e,List.getD_eq_getElem?_getD,List.getElem?_set_ne (Ne.symm e),← List.getD_eq_getElem?_getD]
theorem upd_getD {l:List ByteArray} {f:Nat → ByteArray} {i:Nat} (h:i < l.length):(upd l l.length f).getD i nil0 = f i:=by
 rw [getD_at (by rw [upd_len];exact h),upd_at _ h,if_pos h]
theorem nil_getD (l:List ByteArray) (i:Nat):(upd l l.length (fun _=>nil0)).getD i nil0 = nil0:=by
 rw [upd_all,List.getD_eq_getElem?_getD,List.getElem?_replicate]
 split <;> rfl
theorem view_clean {on new:List ByteArray} (hl:new.length = on.length) {f:Nat → ByteArray} {i:Nat} (h:i < on.length) (l:Nat) (b:Bool):flushF ⟨upd on on.length f,upd new on.length (fun _=>nil0),l,b⟩ i = f i:=by
 unfold flushF
 simp only
 rw [← hl,nil_getD,if_pos rfl,hl,upd_getD h]
def Clean (D:Dev):Prop:=∀ i,D.new.getD i nil0 = nil0
theorem fl_clean {D:Dev} (hl:D.new.length = D.on.length) (l:Nat) (b:Bool):Clean ⟨upd D.on D.on.length (flushF D),upd D.new D.on.length (fun _=>nil0),l,b⟩:=fun i=>by
 show (upd D.new D.on.length _).getD i nil0 = nil0
 rw [← hl];exact nil_getD _ _
theorem cr_clean {D:Dev} (hl:D.new.length = D.on.length) (ps:List Int):Clean (crD D ps):=fun i=>by
 show (upd D.new D.on.length _).getD i nil0 = nil0
 rw [← hl];exact nil_getD _ _
theorem cr_view {D:Dev} (hl:D.new.length = D.on.length) (hc:Clean D) (ps:List Int) {i:Nat} (h:i < D.on.length):flushF (crD D ps) i = flushF D i:=by
 unfold crD
 rw [view_clean hl h]
 unfold tearF flushF
 rw [hc i,if_pos rfl,if_pos rfl]
theorem cr_len (D:Dev) (ps:List Int):(crD D ps).on.length = D.on.length:=upd_len _ _ _
theorem cr_idle (D:Dev) (ps:List Int):Idle (crD D ps):=⟨rfl,rfl⟩
end Sc
end Go.Proofs.YtlfkhlfkckfbpaaGreat
namespace Go.Proofs.YtlfkhlfkckfbpaaGreat
namespace Rd
open Go.RowKit Sc Bk
attribute [local go_sem ↓] Go.wp_at_zero Go.wp_at_succ
attribute [local go_sem] floatUpon pick
def areaAt (D:Dev) (a:Nat):Nat:=2 + a * (areaN D / 64)
def catS (D:Dev) (a i:Nat):List UInt8:=(List.range i).flatMap fun k=>(flushF D (areaAt D a + k)).data.toList
def storedL (D:Dev) (a l:Nat):List UInt8:=(catS D a ((l + 63) / 64)).take l
theorem catS_succ (D:Dev) (a i:Nat):catS D a (i + 1) = catS D a i ++ (flushF D (areaAt D a + i)).data.toList:=by
 unfold catS;rw [List.range_succ,List.flatMap_append];simp
theorem area_fit {D:Dev} (h:4 ≤ D.on.length) {a k:Nat} (ha:a ≤ 1) (hk:k < areaN D / 64):areaAt D a + k < D.on.length:=by
 unfold areaAt areaN at *
 rw [Nat.mul_div_cancel _ (by omega)] at *
 have:a = 0 ∨ a = 1:=by omega
 rcases this with rfl | rfl <;> omega
theorem catS_len {D:Dev} (hok:DevOk D) (h:4 ≤ D.on.length) {a:Nat} (ha:a ≤ 1):∀ i,i ≤ areaN D / 64 → (catS D a i).length = 64 * i
 | 0,_=>rfl
 | i + 1,hi=>by
  have h64:(flushF D (areaAt D a + i)).data.toList.length = 64:=by rw [Array.length_toList];exact flush64 hok (area_fit h ha (by omega))
  rw [catS_succ,List.length_append,catS_len hok h ha i (by omega),h64]
  omega
section
variable {w:World} {g:Nat} {ao an:Addr} {co cn:Nat} {so sn:List Value} {D:Dev}
end
structure Lg where
 cnt:Nat
 ar:Nat
 bs:List UInt8
 ts:List ByteArray
 mn:Nat
def frs (ts:List ByteArray) (a b:Nat):List UInt8:=((ts.take b).drop a).flatMap fun s=>Su.frameL s.data.toList
def waitL (l:Lg):List UInt8:=frs l.ts l.mn l.ts.length
theorem frs_same (ts:List ByteArray) (a:Nat):frs ts a a = []:=by
 unfold frs
 rw [List.drop_of_length_le (by rw [List.length_take];omega)];rfl
theorem frs_succ {ts:List ByteArray} {a b:Nat} (h:a ≤ b) (hb:b < ts.length):frs ts a (b + 1) = frs ts a b ++ Su.frameL ts[b].data.toList:=by
 unfold frs
 rw [List.take_add_one,List.getElem?_eq_getElem hb,List.drop_append_of_le_length (by rw [List.length_take];omega),List.flatMap_append]
 simp
section
variable {w w':World} {k g:Nat} {A:Option Addr} {c:Nat} {l:Lg}
end
structure LgOk (D:Dev) (l:Lg):Prop where
 dev:4 ≤ D.on.length
 ar:l.ar ≤ 1
 mn:l.mn ≤ l.ts.length
 room:l.bs.length + (waitL l).length ≤ areaN D
 many:l.ts.length ≤ 1000000
def roomN (D:Dev) (l:Lg):Nat:=areaN D - l.bs.length - (waitL l).length
section
variable {w:World} {k g:Nat} {ao an:Addr} {co cn:Nat} {so sn:List Value} {A:Option Addr} {c:Nat} {l:Lg} {D:Dev}
end
end Rd
end Go.Proofs.YtlfkhlfkckfbpaaGreat
namespace Go.Proofs.YtlfkhlfkckfbpaaGreat
namespace Rd
open Go.RowKit Sc Bk
def rowB (all:List UInt8) (i k:Nat):List UInt8:=(all.drop (64 * i)).take k ++ List.replicate (64 - k) 0
def limB (all:List UInt8) (i:Nat):Nat:=min 64 (all.length - 64 * i)
def blkB (all:List UInt8) (i:Nat):ByteArray:=⟨(rowB all i (limB all i)).toArray⟩
theorem rowB_len {all:List UInt8} {i k:Nat} (h:k ≤ limB all i):(rowB all i k).length = 64:=by
 unfold limB at h
 unfold rowB
 rw [List.length_append,List.length_take,List.length_drop,List.length_replicate]
 omega
theorem blkB_size (all:List UInt8) (i:Nat):(blkB all i).size = 64:=by
 unfold blkB
 rw [text_size,rowB_len (Nat.le_refl _)]
def wrs (base:Nat) (all:List UInt8):Nat → Nat → Dev → Dev × Int
 | _,0,D=>(D,0)
 | i,n + 1,D=>if (wrD D ((base + i:Nat):Int) (blkB all i)).2 = 0 then wrs base all (i + 1) n (wrD D ((base + i:Nat):Int) (blkB all i)).1 else wrD D ((base + i:Nat):Int) (blkB all i)
def manyW (old more:List UInt8):Nat:=if more = [] then 0 else ((old ++ more).length + 63) / 64 - old.length / 64
def andD (r:Dev × Int) (f:Dev → Dev × Int):Dev × Int:=if r.2 = 0 then f r.1 else r
def settleP (D:Dev) (cnt a:Nat) (old more:List UInt8):Dev × Int :=
 andD (wrs (areaAt D a) (old ++ more) (old.length / 64) (manyW old more) D) fun D1 =>
 andD (if more = [] then (D1,0) else flD D1) fun D2 =>
 andD (wrD D2 (((cnt + 1) % 2:Nat):Int) (headB (cnt + 1) a (old ++ more).length)) fun D3=>flD D3
theorem wrD_on (D:Dev) (i:Int) (t:ByteArray):(wrD D i t).1.on = D.on:=by
 unfold wrD
 split
 ·rfl
 split
 ·rfl
 split
 ·exact (burn_parts D).1
 ·rfl
theorem areaN_on {D E:Dev} (h:E.on.length = D.on.length):areaN E = areaN D:=by unfold areaN;rw [h]
theorem areaAt_on {D E:Dev} (h:E.on.length = D.on.length) (a:Nat):areaAt E a = areaAt D a:=by unfold areaAt;rw [areaN_on h]
theorem flD_len (D:Dev):(flD D).1.on.length = D.on.length:=by
 unfold flD
 split
 ·rfl
 split
 ·rw [(burn_parts D).1]
 ·exact upd_len _ _ _
theorem wrs_len (base:Nat) (all:List UInt8):∀ n i D,(wrs base all i n D).1.on.length = D.on.length
 | 0,_,_=>rfl
 | n + 1,i,D=>by
  unfold wrs
  split
  ·rw [wrs_len base all n (i + 1),wrD_on]
  ·rw [wrD_on]
theorem wrs_ok (base:Nat) (all:List UInt8):∀ n i D,DevOk D → DevOk (wrs base all i n D).1
 | 0,_,_,h=>h
 | n + 1,i,D,h=>by
  unfold wrs
  split
  ·exact wrs_ok base all n (i + 1) _ (wrD_ok h _ _)
  ·exact wrD_ok h _ _
end Rd
end Go.Proofs.YtlfkhlfkckfbpaaGreat
namespace Go.Proofs.YtlfkhlfkckfbpaaGreat
namespace Rd
open Go.RowKit Su Bk
attribute [local go_sem ↓] Go.wp_at_zero Go.wp_at_succ
attribute [local go_sem] floatUpon pick
theorem strs_own_new {w:World} {H n:Nat} {v:Value} {O:List ByteArray} {e:TypeId} (h:w.ownsRow H e 1 v n (strV O)) (hl:n = O.length):∃ (A:Option Addr) (c:Nat),v = .slice A n c ∧ StrsAt w A O ∧ (∀ x,A = some x → H ≤ x.block) ∧ (A = none → c = 0):=by
 have h2:=h.2
 rcases h2 with ⟨h1,h2,h3⟩ | ⟨g,cap,cur,h1,hH,_⟩
 ·exact ⟨none,0,h1,fun hp=>absurd hl (by omega),fun x hx=>(by cases hx),fun _=>rfl⟩
 ·subst h1
  exact ⟨_,_,rfl,StrsAt.own h hl,fun x hx=>by cases hx;exact hH,fun hx=>by cases hx⟩
end Rd
end Go.Proofs.YtlfkhlfkckfbpaaGreat
namespace Go.Proofs.YtlfkhlfkckfbpaaGreat
namespace Rd
open Go.RowKit Sc Bk
def hdsP (D:Dev):Nat → Option (Nat × Nat × Nat)
 | 0=>none
 | i + 1 =>
  if okH (areaN D) (flushF D i).data.toList ∧ (∀ h,hdsP D i = some h → h.1 < cOf (flushF D i).data.toList) then
   some (cOf (flushF D i).data.toList,aOf (flushF D i).data.toList,lOf (flushF D i).data.toList)
  else hdsP D i
def openP (D:Dev):Dev × Option Lg × Int :=
 if D.on.length < 4 then (D,none,4) else
 if D.down = true then (D,none,90) else
 match hdsP D 2 with
 | none =>
  if (andD (wrD D 1 (headB 1 0 0)) flD).2 = 0 then ((andD (wrD D 1 (headB 1 0 0)) flD).1,some ⟨1,0,[],[],0⟩,0)
  else ((andD (wrD D 1 (headB 1 0 0)) flD).1,none,(andD (wrD D 1 (headB 1 0 0)) flD).2)
 | some (c,a,n) =>
  if (Su.allR ⟨(storedL D a n).toArray⟩).2.2 = 0 then (D,some ⟨c,a,storedL D a n,(Su.allR ⟨(storedL D a n).toArray⟩).1,(Su.allR ⟨(storedL D a n).toArray⟩).1.length⟩,0)
  else (D,none,101)
theorem hds_ok {D:Dev}:∀ {i:Nat} {h:Nat × Nat × Nat},hdsP D i = some h → 1 ≤ h.1 ∧ h.1 ≤ 4611686018427387904 ∧ h.2.1 ≤ 1 ∧ h.2.2 ≤ areaN D
 | 0,h,e=>by cases e
 | i + 1,h,e=>by
  unfold hdsP at e
  split at e
  next hc =>
   cases e
   obtain ⟨⟨h1,h2,h3,h4,_⟩,_⟩:=hc
   exact ⟨h1,h2,h3,h4⟩
  ·exact hds_ok e
theorem wr_view {D : Dev} (hok : DevOk D) (hu : D.down = false) {k : Nat} (hk : k < D.on.length) {t : ByteArray} (ht : t.size = 64) :
    ((wrD D (k : Int) t).2 = 0 ∧ (wrD D (k : Int) t).1.down = false ∧ ∀ i, flushF (wrD D (k : Int) t).1 i = if i = k then t else flushF D i) ∨ ((wrD D (k : Int) t).2 = 90 ∧ (wrD D (k : Int) t).1.down = true) := by
  rw [wr_up hu hk ht]
  unfold burn
  by_cases h0 : D.left = 0
  · left
    rw [if_pos h0]
    simp only [Bool.false_eq_true, if_false]
    exact ⟨trivial, hu, fun i => view_set (by rw [hok.len]; exact hk) ht _ _⟩
  · rw [if_neg h0]
    by_cases h1 : (D.left == 1) = true
    · right
      simp only [h1, if_true]
      exact ⟨trivial, trivial⟩
    · left
      have h1' : (D.left == 1) = false := by simpa using h1
      simp only [h1', Bool.false_eq_true, if_false]
      exact ⟨trivial, trivial, fun i => view_set (by rw [hok.len]; exact hk) ht _ _⟩
theorem fl_view {D : Dev} (hok : DevOk D) (hu : D.down = false) :
    ((flD D).2 = 0 ∧ (flD D).1.down = false ∧ Sc.Clean (flD D).1 ∧ ∀ i, i < D.on.length → flushF (flD D).1 i = flushF D i) ∨ ((flD D).2 = 90 ∧ (flD D).1.down = true) := by
  have hb := burn_parts D
  unfold flD
  rw [if_neg (by rw [hu]; simp)]
  by_cases h2 : (burn D).2 = true
  · right
    rw [if_pos h2]
    refine ⟨rfl, ?_⟩
    unfold burn at h2 ⊢
    split at h2
    · cases h2
    next h0 => rw [if_neg h0]; exact h2
  · left
    rw [if_neg h2]
    refine ⟨rfl, ?_, fl_clean hok.len _ _, fun i hi => view_clean hok.len hi _ _⟩
    unfold burn at h2 ⊢
    split
    · exact hu
    next h0 => rw [if_neg h0] at h2; simpa using h2
theorem wrs_view {base : Nat} {all : List UInt8} : ∀ {n i : Nat} {D : Dev}, DevOk D → D.down = false → base + i + n ≤ D.on.length →
    ((wrs base all i n D).2 = 0 ∧ (wrs base all i n D).1.down = false ∧ ∀ j, flushF (wrs base all i n D).1 j = if base + i ≤ j ∧ j < base + i + n then blkB all (j - base) else flushF D j) ∨ ((wrs base all i n D).2 = 90 ∧ (wrs base all i n D).1.down = true)
  | 0, i, D, hok, hu, _ => .inl ⟨rfl, hu, fun j => by rw [if_neg (by omega)]; rfl⟩
  | n + 1, i, D, hok, hu, hl => by
    have hw := wr_view hok hu (k := base + i) (by omega) (blkB_size all i)
    have e : wrs base all i (n + 1) D = if (wrD D ((base + i : Nat) : Int) (blkB all i)).2 = 0 then wrs base all (i + 1) n (wrD D ((base + i : Nat) : Int) (blkB all i)).1 else wrD D ((base + i : Nat) : Int) (blkB all i) := rfl
    rw [e]
    rcases hw with ⟨h1, h2, h3⟩ | ⟨h1, h2⟩
    · rw [if_pos h1]
      have hl2 : (wrD D ((base + i : Nat) : Int) (blkB all i)).1.on.length = D.on.length := by rw [wrD_on]
      rcases wrs_view (base := base) (all := all) (n := n) (i := i + 1) (wrD_ok hok _ _) h2 (by rw [hl2]; omega) with ⟨q1, q2, q3⟩ | q
      · left
        refine ⟨q1, q2, fun j => ?_⟩
        rw [q3 j, h3 j]
        by_cases hj : base + (i + 1) ≤ j ∧ j < base + (i + 1) + n
        · rw [if_pos hj, if_pos (by omega)]
        · rw [if_neg hj]
          by_cases hj2 : j = base + i
          · rw [if_pos hj2, if_pos (by omega), hj2, Nat.add_sub_cancel_left]
          · rw [if_neg hj2, if_neg (by omega)]
      · exact .inr q
    · right
      rw [if_neg (by rw [h1]; decide)]
      exact ⟨h1, h2⟩
theorem many_le {old more : List UInt8} {D : Dev} (h : (old ++ more).length ≤ areaN D) : old.length / 64 + manyW old more ≤ areaN D / 64 := by
  have hd : areaN D / 64 * 64 = areaN D := by unfold areaN; omega
  rw [List.length_append] at h
  unfold manyW
  split
  · omega
  · rw [List.length_append]
    omega
theorem settle_view {D : Dev} (hok : DevOk D) (hu : D.down = false) (h4 : 4 ≤ D.on.length) (cnt a : Nat) (old more : List UInt8) (ha : a ≤ 1) (hz : (old ++ more).length ≤ areaN D) :
    ((settleP D cnt a old more).2 = 0 ∧ (settleP D cnt a old more).1.down = false ∧ Sc.Clean (settleP D cnt a old more).1 ∧ ∀ j, j < D.on.length → flushF (settleP D cnt a old more).1 j =
      if j = (cnt + 1) % 2 then headB (cnt + 1) a (old ++ more).length else if areaAt D a + old.length / 64 ≤ j ∧ j < areaAt D a + old.length / 64 + manyW old more then blkB (old ++ more) (j - areaAt D a) else flushF D j) ∨
    ((settleP D cnt a old more).2 = 90 ∧ (settleP D cnt a old more).1.down = true) := by
  have hml := many_le hz
  have hfit : areaAt D a + areaN D / 64 ≤ D.on.length := by
    unfold areaAt areaN
    rw [Nat.mul_div_cancel _ (by omega)]
    have : a = 0 ∨ a = 1 := by omega
    rcases this with rfl | rfl <;> omega
  unfold settleP
  rcases wrs_view (base := areaAt D a) (all := old ++ more) (n := manyW old more) (i := old.length / 64) hok hu (by omega) with ⟨p1, p2, p3⟩ | ⟨p1, p2⟩
  case inr =>
    right
    have e : andD (wrs (areaAt D a) (old ++ more) (old.length / 64) (manyW old more) D) (fun D1 => andD (if more = [] then (D1, 0) else flD D1) fun D2 => andD (wrD D2 (((cnt + 1) % 2 : Nat) : Int) (headB (cnt + 1) a (old ++ more).length)) fun D3 => flD D3) = wrs (areaAt D a) (old ++ more) (old.length / 64) (manyW old more) D := by
      unfold andD; rw [if_neg (by rw [p1]; decide)]
    rw [e]
    exact ⟨p1, p2⟩
  have hl1 := wrs_len (areaAt D a) (old ++ more) (manyW old more) (old.length / 64) D
  have ho1 := wrs_ok (areaAt D a) (old ++ more) (manyW old more) (old.length / 64) D hok
  have e : ∀ f, andD (wrs (areaAt D a) (old ++ more) (old.length / 64) (manyW old more) D) f = f (wrs (areaAt D a) (old ++ more) (old.length / 64) (manyW old more) D).1 := fun f => by
    unfold andD; rw [if_pos p1]
  rw [e]
  generalize (wrs (areaAt D a) (old ++ more) (old.length / 64) (manyW old more) D).1 = D1 at p2 p3 hl1 ho1
  have hmid : ((if more = [] then (D1, 0) else flD D1).2 = 0 ∧ (if more = [] then (D1, 0) else flD D1).1.down = false ∧ DevOk (if more = [] then (D1, (0 : Int)) else flD D1).1 ∧ (if more = [] then (D1, (0 : Int)) else flD D1).1.on.length = D.on.length ∧ ∀ i, i < D.on.length → flushF (if more = [] then (D1, (0 : Int)) else flD D1).1 i = flushF D1 i) ∨ ((if more = [] then (D1, 0) else flD D1).2 = 90 ∧ (if more = [] then (D1, 0) else flD D1).1.down = true) := by
    split
    · exact .inl ⟨rfl, p2, ho1, hl1, fun _ _ => rfl⟩
    · rcases fl_view ho1 p2 with ⟨q1, q2, q3, q4⟩ | q
      · exact .inl ⟨q1, q2, flD_ok ho1, (flD_len D1).trans hl1, fun i hi => q4 i (by omega)⟩
      · exact .inr q
  generalize (if more = [] then (D1, (0 : Int)) else flD D1) = r at hmid ⊢
  obtain ⟨D2, e2⟩ := r
  simp only at hmid
  rcases hmid with ⟨rfl, q2, q3, q4, q5⟩ | ⟨rfl, q2⟩
  case inr => exact .inr ⟨rfl, q2⟩
  have e3 : ∀ f, andD (D2, (0 : Int)) f = f D2 := fun f => rfl
  rw [e3]
  have hq : (cnt + 1) % 2 < 2 := Nat.mod_lt _ (by omega)
  rcases wr_view q3 q2 (k := (cnt + 1) % 2) (by omega) (headB_size (cnt + 1) a (old ++ more).length) with ⟨r1, r2, r3⟩ | ⟨r1, r2⟩
  case inr =>
    right
    have e4 : ∀ f, andD (wrD D2 (((cnt + 1) % 2 : Nat) : Int) (headB (cnt + 1) a (old ++ more).length)) f = wrD D2 (((cnt + 1) % 2 : Nat) : Int) (headB (cnt + 1) a (old ++ more).length) := fun f => by
      unfold andD; rw [if_neg (by rw [r1]; decide)]
    rw [e4]
    exact ⟨r1, r2⟩
  have e4 : ∀ f, andD (wrD D2 (((cnt + 1) % 2 : Nat) : Int) (headB (cnt + 1) a (old ++ more).length)) f = f (wrD D2 (((cnt + 1) % 2 : Nat) : Int) (headB (cnt + 1) a (old ++ more).length)).1 := fun f => by
    unfold andD; rw [if_pos r1]
  rw [e4]
  have hl3 : (wrD D2 (((cnt + 1) % 2 : Nat) : Int) (headB (cnt + 1) a (old ++ more).length)).1.on.length = D.on.length := by rw [wrD_on, q4]
  have ho3 := wrD_ok q3 (((cnt + 1) % 2 : Nat) : Int) (headB (cnt + 1) a (old ++ more).length)
  generalize (wrD D2 (((cnt + 1) % 2 : Nat) : Int) (headB (cnt + 1) a (old ++ more).length)).1 = D3 at r2 r3 hl3 ho3
  rcases fl_view ho3 r2 with ⟨s1, s2, s3, s4⟩ | s
  · left
    refine ⟨s1, s2, s3, fun j hj => ?_⟩
    rw [s4 j (by omega), r3 j]
    by_cases h1 : j = (cnt + 1) % 2
    · rw [if_pos h1, if_pos h1]
    · rw [if_neg h1, if_neg h1, q5 j hj, p3 j]
  · exact .inr s
theorem and_len {r : Dev × Int} {f : Dev → Dev × Int} {n : Nat} (h : r.1.on.length = n) (hf : ∀ D, D.on.length = n → (f D).1.on.length = n) : (andD r f).1.on.length = n := by
  unfold andD
  split
  · exact hf _ h
  · exact h
theorem settle_len (D : Dev) (cnt a : Nat) (old more : List UInt8) : (settleP D cnt a old more).1.on.length = D.on.length := by
  unfold settleP
  refine and_len (wrs_len _ _ _ _ _) fun D1 h1 => and_len ?_ fun D2 h2 => and_len ?_ fun D3 h3 => ?_
  · split
    · exact h1
    · rw [flD_len]; exact h1
  · rw [wrD_on]; exact h2
  · rw [flD_len]; exact h3
end Rd
end Go.Proofs.YtlfkhlfkckfbpaaGreat
namespace Go.Proofs.YtlfkhlfkckfbpaaGreat
namespace Rd
open Go.RowKit Sc Bk
attribute [local go_sem ↓] Go.wp_at_zero Go.wp_at_succ
attribute [local go_sem] floatUpon pick
section
variable {w0 W W':World} {k g:Nat} {ao an:Addr} {co cn:Nat} {so sn:List Value} {A:Option Addr} {c:Nat} {l:Lg} {D D':Dev}
end
section
variable {w W:World} {k g:Nat} {ao an:Addr} {co cn:Nat} {so sn:List Value} {A:Option Addr} {c:Nat} {l:Lg} {D D':Dev}
theorem wrs_next {base:Nat} {all:List UInt8} {i N:Nat} {D1:Dev} (h:i < N) (h0:(wrD D1 ((base + i:Nat):Int) (blkB all i)).2 = 0):wrs base all i (N - i) D1 = wrs base all (i + 1) (N - (i + 1)) (wrD D1 ((base + i:Nat):Int) (blkB all i)).1:=by
 rw [show N - i = (N - (i + 1)) + 1 by omega]
 show (if (wrD D1 ((base + i:Nat):Int) (blkB all i)).2 = 0 then _ else _) = _
 rw [if_pos h0]
theorem wrs_stop {base:Nat} {all:List UInt8} {i N:Nat} {D1:Dev} (h:i < N) (h0:(wrD D1 ((base + i:Nat):Int) (blkB all i)).2 ≠ 0):wrs base all i (N - i) D1 = wrD D1 ((base + i:Nat):Int) (blkB all i):=by
 rw [show N - i = (N - (i + 1)) + 1 by omega]
 show (if (wrD D1 ((base + i:Nat):Int) (blkB all i)).2 = 0 then _ else _) = _
 rw [if_neg h0]
theorem and_stop {r:Dev × Int} {f:Dev → Dev × Int} (h:r.2 ≠ 0):andD r f = r:=by unfold andD;rw [if_neg h]
theorem and_go {r:Dev × Int} {f:Dev → Dev × Int} (h:r.2 = 0):andD r f = f r.1:=by unfold andD;rw [if_pos h]
theorem lim_say (all:List UInt8) {i:Nat} (h:64 * i < all.length):limB all i ≤ 64 ∧ 64 * i + limB all i ≤ all.length ∧ (limB all i = 64 ∨ 64 * i + limB all i = all.length):=by
 unfold limB;omega
end
section
variable {w:World} {k g:Nat} {ao an:Addr} {co cn:Nat} {so sn:List Value} {A:Option Addr} {c:Nat} {l:Lg} {D:Dev}
end
def syncP (D:Dev) (l:Lg):Dev × Lg × Int :=
 if l.mn = l.ts.length then (D,l,0) else
 if (settleP D l.cnt l.ar l.bs (waitL l)).2 = 0 then ((settleP D l.cnt l.ar l.bs (waitL l)).1,⟨l.cnt + 1,l.ar,l.bs ++ waitL l,l.ts,l.ts.length⟩,0)
 else ((settleP D l.cnt l.ar l.bs (waitL l)).1,l,(settleP D l.cnt l.ar l.bs (waitL l)).2)
section
variable {w:World} {k g:Nat} {ao an:Addr} {co cn:Nat} {so sn:List Value} {A:Option Addr} {c:Nat} {l:Lg} {D:Dev}
end
def appendP (D:Dev) (l:Lg) (t:ByteArray):Lg × Int :=
 if 4096 < t.size then (l,2) else if roomN D l < t.size + 6 then (l,100) else (⟨l.cnt,l.ar,l.bs,l.ts ++ [t],l.mn⟩,0)
theorem wait_snoc {l:Lg} (h:l.mn ≤ l.ts.length) (t:ByteArray):waitL ⟨l.cnt,l.ar,l.bs,l.ts ++ [t],l.mn⟩ = waitL l ++ Su.frameL t.data.toList:=by
 unfold waitL
 simp only [List.length_append,List.length_singleton]
 rw [frs_succ (by omega) (by simp)]
 congr 1
 ·unfold frs
  rw [List.take_append_of_le_length (Nat.le_refl _)]
 ·simp
theorem frames_ge (ts:List ByteArray):∀ (a b:Nat),a ≤ b → b ≤ ts.length → (b - a) * 6 ≤ (frs ts a b).length
 | a,0,h,_=>by simp
 | a,b + 1,h,hb=>by
  rcases Nat.eq_or_lt_of_le h with e | e
  ·rw [e];simp
  ·have h1:=frames_ge ts a b (by omega) (by omega)
   rw [frs_succ (show a ≤ b by omega) (by omega),List.length_append,Su.frameL_len,show b + 1 - a = (b - a) + 1 by omega]
   omega
section
variable {w:World} {k g:Nat} {ao an:Addr} {co cn:Nat} {so sn:List Value} {A:Option Addr} {c:Nat} {l:Lg} {D:Dev}
end
def allF (ts:List ByteArray):List UInt8:=frs ts 0 ts.length
def restartP (D:Dev) (l:Lg) (ts:List ByteArray):Dev × Lg × Int :=
 if ∃ t ∈ ts,4096 < t.size then (D,l,2) else if areaN D < (allF ts).length then (D,l,100) else
 if (settleP D l.cnt (1 - l.ar) [] (allF ts)).2 = 0 then ((settleP D l.cnt (1 - l.ar) [] (allF ts)).1,⟨l.cnt + 1,1 - l.ar,allF ts,ts,ts.length⟩,0)
 else ((settleP D l.cnt (1 - l.ar) [] (allF ts)).1,l,(settleP D l.cnt (1 - l.ar) [] (allF ts)).2)
section
variable {w:World} {k g:Nat} {ao an:Addr} {co cn:Nat} {so sn:List Value} {A:Option Addr} {c:Nat} {l:Lg} {D:Dev}
end
end Rd
end Go.Proofs.YtlfkhlfkckfbpaaGreat
namespace Go.Proofs.YtlfkhlfkckfbpaaGreat
namespace Sc
open Go.RowKit Bk
structure DevBase (Rep:World → (Nat → Prop) → Nat → Dev → Prop):Prop where
 lt:∀ {W F g D},Rep W F g D → ∀ k,F k → k < W.heap.size
 ok:∀ {W F g D},Rep W F g D → DevOk D
 kept:∀ {W W' F g D},Rep W F g D → (∀ k,F k → W'.heap[k]? = W.heap[k]?) → Rep W' F g D
 new:∀ (n:Int) (w:World),-9223372036854775808 ≤ n ∧ n ≤ 9223372036854775807 → Calls Tryz.prog 5 #[.int .i64 n] w fun e w' =>
  (1 ≤ n ∧ n ≤ 2048 ∧ ∃ (F:Nat → Prop) (g:Nat),e = .returned (.tuple #[.pointer (some ⟨g,0,none⟩),.int .i64 0]) ∧ Rep w' F g (new0 n.toNat) ∧ (∀ k,F k → w.heap.size ≤ k) ∧ Below w.heap.size w w') ∨
  (¬ (1 ≤ n ∧ n ≤ 2048) ∧ e = .returned (.tuple #[.pointer none,.int .i64 1]) ∧ Below w.heap.size w w')
 size:∀ {F g D} (w:World),Rep w F g D → Calls Tryz.prog 48 #[.pointer (some ⟨g,0,none⟩)] w fun e w'=>e = .returned (.int .i64 (D.on.length:Int)) ∧ ∃ F',Rep w' F' g D ∧ Fr F F' w w'
 read:∀ {F g D} (i:Int) (w:World),Rep w F g D → -9223372036854775808 ≤ i ∧ i ≤ 9223372036854775807 → Calls Tryz.prog 116 #[.pointer (some ⟨g,0,none⟩),.int .i64 i] w fun e w'=>e = .returned (.tuple #[.string (rdV D i).1,.int .i64 (rdV D i).2]) ∧ ∃ F',Rep w' F' g D ∧ Fr F F' w w'
 write:∀ {F g D} (i:Int) (t:ByteArray) (w:World),Rep w F g D → -9223372036854775808 ≤ i ∧ i ≤ 9223372036854775807 → t.size ≤ reachBytes → Calls Tryz.prog 111 #[.pointer (some ⟨g,0,none⟩),.int .i64 i,.string t] w fun e w'=>e = .returned (.int .i64 (wrD D i t).2) ∧ ∃ F',Rep w' F' g (wrD D i t).1 ∧ Fr F F' w w'
 flush:∀ {F g D} (w:World),Rep w F g D → Calls Tryz.prog 113 #[.pointer (some ⟨g,0,none⟩)] w fun e w'=>e = .returned (.int .i64 (flD D).2) ∧ ∃ F',Rep w' F' g (flD D).1 ∧ Fr F F' w w'
 crash:∀ {F g D} (A:Option Addr) (c:Nat) (ps:List Int) (w:World),Rep w F g D → IntsAt w A ps → (0 < ps.length → ∀ a,A = some a → ¬ F a.block) → ps.length * 8 ≤ reachBytes → (∀ p ∈ ps,-9223372036854775808 ≤ p ∧ p ≤ 9223372036854775807) → Calls Tryz.prog 16 #[.pointer (some ⟨g,0,none⟩),.slice A ps.length c] w fun e w'=>e = .returned (.tuple #[]) ∧ ∃ F',Rep w' F' g (crD D ps) ∧ Fr F F' w w'
end Sc
end Go.Proofs.YtlfkhlfkckfbpaaGreat
namespace Go.Proofs.YtlfkhlfkckfbpaaGreat
namespace Rd
open Go.RowKit Sc Bk
abbrev RepT:=World → (Nat → Prop) → Nat → Dev → Prop
abbrev LRepT:=World → (Nat → Prop) → Nat → Nat → Nat → Lg → Prop
structure LgIn (D:Dev) (l:Lg):Prop where
 ok:LgOk D l
 c1:1 ≤ l.cnt
 cnt:l.cnt ≤ 4611686018427388000
 bs:l.bs = frs l.ts 0 l.mn
 small:∀ t ∈ l.ts,t.size ≤ 4096
 st:storedL D l.ar l.bs.length = l.bs
 hd:l.cnt ≤ 4611686018427387904 → hdsP D 2 = some (l.cnt,l.ar,l.bs.length)
theorem all_split (ts:List ByteArray) (m:Nat):allF ts = frs ts 0 m ++ frs ts m ts.length:=by
 unfold allF frs
 rw [List.take_length,List.drop_zero,List.drop_zero,← List.flatMap_append,List.take_append_drop]
structure DevF (fRd fWr fFl fFu fCr:FuncId) (Rep:RepT):Prop where
 lt:∀ {W F g D},Rep W F g D → ∀ k,F k → k < W.heap.size
 ok:∀ {W F g D},Rep W F g D → DevOk D
 kept:∀ {W W' F g D},Rep W F g D → (∀ k,F k → W'.heap[k]? = W.heap[k]?) → Rep W' F g D
 read:∀ {F g D} (i:Int) (w:World),Rep w F g D → -9223372036854775808 ≤ i ∧ i ≤ 9223372036854775807 → Calls Tryz.prog fRd #[.pointer (some ⟨g,0,none⟩),.int .i64 i] w fun e w'=>e = .returned (.tuple #[.string (rdV D i).1,.int .i64 (rdV D i).2]) ∧ ∃ F',Rep w' F' g D ∧ Fr F F' w w'
 write:∀ {F g D} (i:Int) (t:ByteArray) (w:World),Rep w F g D → -9223372036854775808 ≤ i ∧ i ≤ 9223372036854775807 → t.size ≤ reachBytes → Calls Tryz.prog fWr #[.pointer (some ⟨g,0,none⟩),.int .i64 i,.string t] w fun e w'=>e = .returned (.int .i64 (wrD D i t).2) ∧ ∃ F',Rep w' F' g (wrD D i t).1 ∧ Fr F F' w w'
 flush:∀ {F g D} (w:World),Rep w F g D → Calls Tryz.prog fFl #[.pointer (some ⟨g,0,none⟩)] w fun e w'=>e = .returned (.int .i64 (flD D).2) ∧ ∃ F',Rep w' F' g (flD D).1 ∧ Fr F F' w w'
 crash:∀ {F g D} (A:Option Addr) (c:Nat) (ps:List Int) (w:World),Rep w F g D → IntsAt w A ps → (0 < ps.length → ∀ a,A = some a → ¬ F a.block) → ps.length * 8 ≤ reachBytes → (∀ p ∈ ps,-9223372036854775808 ≤ p ∧ p ≤ 9223372036854775807) → Calls Tryz.prog fCr #[.pointer (some ⟨g,0,none⟩),.slice A ps.length c] w fun e w'=>e = .returned (.tuple #[]) ∧ ∃ F',Rep w' F' g (crD D ps) ∧ Fr F F' w w'
structure LogF (fOp fAp fSy fRm fRs:FuncId) (Rep:RepT) (LRep:LRepT):Prop where
 lt:∀ {W F p g n l},LRep W F p g n l → ∀ k,F k → k < W.heap.size
 kept:∀ {W W' F p g n l},LRep W F p g n l → (∀ k,F k → W'.heap[k]? = W.heap[k]?) → LRep W' F p g n l
 opn:∀ {F g D} (w:World),Rep w F g D → Calls Tryz.prog fOp #[.pointer (some ⟨g,0,none⟩)] w fun e w'=>∃ F',Rep w' F' g (openP D).1 ∧
  match (openP D).2.1 with
  | none=>e = .returned (.tuple #[.pointer none,.int .i64 (openP D).2.2]) ∧ Fr F F' w w'
  | some l=>∃ p L,e = .returned (.tuple #[.pointer (some ⟨p,0,none⟩),.int .i64 (openP D).2.2]) ∧ LRep w' L p g (openP D).1.on.length l ∧ (∀ k,L k → ¬ F' k) ∧ Fr F (fun k=>F' k ∨ L k) w w'
 app:∀ {F L g p D l} (t:ByteArray) (w:World),Rep w F g D → LRep w L p g D.on.length l → (∀ k,L k → ¬ F k) → LgIn D l → D.down = false → t.size ≤ reachBytes →
  Calls Tryz.prog fAp #[.pointer (some ⟨p,0,none⟩),.string t] w fun e w'=>e = .returned (.int .i64 (appendP D l t).2) ∧ ∃ F' L',Rep w' F' g D ∧ LRep w' L' p g D.on.length (appendP D l t).1 ∧ (∀ k,L' k → ¬ F' k) ∧ Fr (fun k=>F k ∨ L k) (fun k=>F' k ∨ L' k) w w'
 syn:∀ {F L g p D l} (w:World),Rep w F g D → LRep w L p g D.on.length l → (∀ k,L k → ¬ F k) → LgIn D l → D.down = false →
  Calls Tryz.prog fSy #[.pointer (some ⟨p,0,none⟩)] w fun e w'=>e = .returned (.int .i64 (syncP D l).2.2) ∧ ∃ F' L',Rep w' F' g (syncP D l).1 ∧ LRep w' L' p g (syncP D l).1.on.length (syncP D l).2.1 ∧ (∀ k,L' k → ¬ F' k) ∧ Fr (fun k=>F k ∨ L k) (fun k=>F' k ∨ L' k) w w'
 room:∀ {F L g p D l} (w:World),Rep w F g D → LRep w L p g D.on.length l → (∀ k,L k → ¬ F k) → LgIn D l → D.down = false →
  Calls Tryz.prog fRm #[.pointer (some ⟨p,0,none⟩)] w fun e w'=>e = .returned (.int .i64 (roomN D l:Int)) ∧ ∃ F' L',Rep w' F' g D ∧ LRep w' L' p g D.on.length l ∧ (∀ k,L' k → ¬ F' k) ∧ Fr (fun k=>F k ∨ L k) (fun k=>F' k ∨ L' k) w w'
 rst:∀ {F L g p D l} (B:Option Addr) (cB:Nat) (ts:List ByteArray) (w:World),Rep w F g D → LRep w L p g D.on.length l → (∀ k,L k → ¬ F k) → LgIn D l → D.down = false →
  StrsAt w B ts → (B = none → cB = 0) → (0 < ts.length → ∀ x,B = some x → x.block < w.heap.size ∧ ¬ F x.block ∧ ¬ L x.block) → ts.length * 16 ≤ reachBytes → (∀ t ∈ ts,t.size ≤ reachBytes) → (allF ts).length ≤ 140737488355328 →
  Calls Tryz.prog fRs #[.pointer (some ⟨p,0,none⟩),.slice B ts.length cB] w fun e w'=>e = .returned (.int .i64 (restartP D l ts).2.2) ∧ ∃ F' L',Rep w' F' g (restartP D l ts).1 ∧ LRep w' L' p g (restartP D l ts).1.on.length (restartP D l ts).2.1 ∧ (∀ k,L' k → ¬ F' k) ∧ Fr (fun k=>F k ∨ L k) (fun k=>F' k ∨ L' k) w w'
def Side (Rep:RepT) (LRep:LRepT) (W:World) (F:Nat → Prop) (g:Nat) (D:Dev):Option (Nat × Lg) → Prop
 | none=>Rep W F g D
 | some (p,l)=>∃ Fd Fl:Nat → Prop,F = (fun k=>Fd k ∨ Fl k) ∧ Rep W Fd g D ∧ LRep W Fl p g D.on.length l ∧ (∀ k,Fl k → ¬ Fd k)
section
variable {f1 f2 f3 f4 f5 f6 f7 f8 f9 f10:FuncId} {Rep:RepT} {LRep:LRepT} {W W':World} {F G:Nat → Prop} {g:Nat} {D:Dev} {o:Option (Nat × Lg)}
theorem Side.lt (HD:DevF f1 f2 f3 f4 f5 Rep) (HL:LogF f6 f7 f8 f9 f10 Rep LRep) (h:Side Rep LRep W F g D o):∀ k,F k → k < W.heap.size:=fun k hk=>by
 cases o with
 | none=>exact HD.lt h k hk
 | some pl =>
  obtain ⟨Fd,Fl,rfl,h1,h2,_⟩:=h
  exact hk.elim (HD.lt h1 k) (HL.lt h2 k)
theorem Side.ok (HD:DevF f1 f2 f3 f4 f5 Rep) (h:Side Rep LRep W F g D o):DevOk D:=by
 cases o with
 | none=>exact HD.ok h
 | some pl=>obtain ⟨Fd,Fl,rfl,h1,_⟩:=h;exact HD.ok h1
theorem Side.kept (HD:DevF f1 f2 f3 f4 f5 Rep) (HL:LogF f6 f7 f8 f9 f10 Rep LRep) (h:Side Rep LRep W F g D o) (hk:∀ k,F k → W'.heap[k]? = W.heap[k]?):Side Rep LRep W' F g D o:=by
 cases o with
 | none=>exact HD.kept h hk
 | some pl =>
  obtain ⟨Fd,Fl,rfl,h1,h2,h3⟩:=h
  exact ⟨Fd,Fl,rfl,HD.kept h1 (fun k hF=>hk k (.inl hF)),HL.kept h2 (fun k hF=>hk k (.inr hF)),h3⟩
theorem fr_wide {Fd Fd':Nat → Prop} (hs:∀ k,Fd k → F k) (q2:Fr Fd Fd' W W'):Fr F Fd' W W' :=
 ⟨q2.os,q2.tape,q2.output,q2.size,fun i hi hn=>q2.block i hi (fun hf=>hn (hs i hf)),fun k hk=>(q2.foot k hk).elim (fun hq=>.inl (hs k hq)) .inr⟩
theorem Side.dev (h:Side Rep LRep W F g D o):∃ Fd:Nat → Prop,(∀ k,Fd k → F k) ∧ Rep W Fd g D:=by
 cases o with
 | none=>exact ⟨F,fun _ h=>h,h⟩
 | some pl=>obtain ⟨Fd,Fl,rfl,h1,_⟩:=h;exact ⟨Fd,fun _ h=>.inl h,h1⟩
theorem Side.crash (HD:DevF f1 f2 f3 f4 f5 Rep) (h:Side Rep LRep W F g D o) (A:Option Addr) (c:Nat) (ps:List Int) (hp:IntsAt W A ps) (hd:0 < ps.length → ∀ a,A = some a → ¬ F a.block) (hl:ps.length * 8 ≤ reachBytes) (hr:∀ p ∈ ps,-9223372036854775808 ≤ p ∧ p ≤ 9223372036854775807) :
  Calls Tryz.prog f5 #[.pointer (some ⟨g,0,none⟩),.slice A ps.length c] W fun e w'=>e = .returned (.tuple #[]) ∧ ∃ F',Side Rep LRep w' F' g (crD D ps) none ∧ Fr F F' W w':=by
 obtain ⟨Fd,hs,h1⟩:=h.dev
 refine (HD.crash A c ps W h1 hp (fun h0 a ha hf=>hd h0 a ha (hs _ hf)) hl hr).mono ?_
 rintro e w' ⟨rfl,Fd',q1,q2⟩
 exact ⟨rfl,Fd',q1,fr_wide hs q2⟩
def ptrV:Option (Nat × Lg) → Value
 | none=>.pointer none
 | some (p,_)=>.pointer (some ⟨p,0,none⟩)
theorem Side.opn (HL:LogF f6 f7 f8 f9 f10 Rep LRep) (h:Side Rep LRep W F g D o) :
  Calls Tryz.prog f6 #[.pointer (some ⟨g,0,none⟩)] W fun e w'=>∃ o',e = .returned (.tuple #[ptrV o',.int .i64 (openP D).2.2]) ∧ o'.map (·.2) = (openP D).2.1 ∧ ∃ F',Side Rep LRep w' F' g (openP D).1 o' ∧ Fr F F' W w':=by
 obtain ⟨Fd,hs,h1⟩:=h.dev
 refine (HL.opn W h1).mono ?_
 rintro e w' ⟨Fd',q1,q2⟩
 cases hv:(openP D).2.1 with
 | none =>
  rw [hv] at q2
  obtain ⟨rfl,q3⟩:=q2
  exact ⟨none,rfl,rfl,Fd',q1,fr_wide hs q3⟩
 | some l =>
  rw [hv] at q2
  obtain ⟨p,L,rfl,q3,q4,q5⟩:=q2
  exact ⟨some (p,l),rfl,rfl,_,⟨Fd',L,rfl,q1,q3,q4⟩,fr_wide hs q5⟩
section
variable {p:Nat} {l:Lg} (HL:LogF f6 f7 f8 f9 f10 Rep LRep) (h:Side Rep LRep W F g D (some (p,l))) (hi:LgIn D l) (hu:D.down = false)
include HL h hi hu
theorem Side.app (t:ByteArray) (ht:t.size ≤ reachBytes) :
  Calls Tryz.prog f7 #[.pointer (some ⟨p,0,none⟩),.string t] W fun e w'=>e = .returned (.int .i64 (appendP D l t).2) ∧ ∃ F',Side Rep LRep w' F' g D (some (p,(appendP D l t).1)) ∧ Fr F F' W w':=by
 obtain ⟨Fd,Fl,rfl,h1,h2,h3⟩:=h
 refine (HL.app t W h1 h2 h3 hi hu ht).mono ?_
 rintro e w' ⟨rfl,F',L',q1,q2,q3,q4⟩
 exact ⟨rfl,_,⟨F',L',rfl,q1,q2,q3⟩,q4⟩
theorem Side.syn :
  Calls Tryz.prog f8 #[.pointer (some ⟨p,0,none⟩)] W fun e w'=>e = .returned (.int .i64 (syncP D l).2.2) ∧ ∃ F',Side Rep LRep w' F' g (syncP D l).1 (some (p,(syncP D l).2.1)) ∧ Fr F F' W w':=by
 obtain ⟨Fd,Fl,rfl,h1,h2,h3⟩:=h
 refine (HL.syn W h1 h2 h3 hi hu).mono ?_
 rintro e w' ⟨rfl,F',L',q1,q2,q3,q4⟩
 exact ⟨rfl,_,⟨F',L',rfl,q1,q2,q3⟩,q4⟩
theorem Side.rst (B:Option Addr) (cB:Nat) (ts:List ByteArray) (hB:StrsAt W B ts) (hBn:B = none → cB = 0) (hBo:0 < ts.length → ∀ x,B = some x → x.block < W.heap.size ∧ ¬ F x.block) (hn:ts.length * 16 ≤ reachBytes) (hs:∀ t ∈ ts,t.size ≤ reachBytes) (hq:(allF ts).length ≤ 140737488355328) :
  Calls Tryz.prog f10 #[.pointer (some ⟨p,0,none⟩),.slice B ts.length cB] W fun e w'=>e = .returned (.int .i64 (restartP D l ts).2.2) ∧ ∃ F',Side Rep LRep w' F' g (restartP D l ts).1 (some (p,(restartP D l ts).2.1)) ∧ Fr F F' W w':=by
 obtain ⟨Fd,Fl,rfl,h1,h2,h3⟩:=h
 refine (HL.rst B cB ts W h1 h2 h3 hi hu hB hBn (fun hp x hx=>⟨(hBo hp x hx).1,fun hf=>(hBo hp x hx).2 (.inl hf),fun hf=>(hBo hp x hx).2 (.inr hf)⟩) hn hs hq).mono ?_
 rintro e w' ⟨rfl,F',L',q1,q2,q3,q4⟩
 exact ⟨rfl,_,⟨F',L',rfl,q1,q2,q3⟩,q4⟩
end
end
end Rd
end Go.Proofs.YtlfkhlfkckfbpaaGreat
