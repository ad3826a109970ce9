/- Parts of the proof, joined: ScLand3, ScLand4, ScLand5, ScSorted, ScLand6; their conditions stand with each. -/
import Derived.Maps.RangeWalk
import Derived.Shelf.SlIterI.Nil
import Derived.Shelf.SortM.Plain
import Derived.Shelf.SortM.SortNone
import Derived.Test.YtlfkhlfkckfbpaaGreatC1
import Derived.Test.YtlfkhlfkckfbpaaGreatC9
import Derived.Test.YtlfkhlfkckfbpaaGreatC16

set_option maxRecDepth 20000
set_option maxHeartbeats 8000000
namespace Go.Proofs.YtlfkhlfkckfbpaaGreat
namespace Sc
open Go.RowKit Bk
attribute [local go_sem ↓] Go.wp_at_zero Go.wp_at_succ
attribute [local go_sem] floatUpon pick
theorem wpList_mapSec (w:World) {ops:Array Oper} {rest:List Oper} {o:Oper} {a:Act} {Q:Exit → Act → World → Prop}
  (hg:o.guard = none) (m x v:Operand) (hop:o.op = Op.mapUpdate 66 m x v) (b:Nat) (new:List ByteArray) (hm:a.eval m = .map (some b)) (hM:SecMap w b new) (hn:new.length < maxLen)
  (i:Nat) (hi:i < new.length) (t:ByteArray) (ht:t.size = 64) (hx:a.eval x = .int .i64 (i:Int)) (hv:a.eval v = secV t)
  (hK:∀ w',SecMap w' b (new.set i t) → w.grownBy w' (some b) → w'.heap.size = w.heap.size → wpList Tryz.prog ops Q rest (a.put o.dst undef) w') :
  wpList Tryz.prog ops Q (o :: rest) a w:=by
 refine wpList_plain hg fun K' hK'=>?_
 obtain ⟨w',hrun,r1,r2,r3⟩:=hM.store hn hi ht
 unfold Oper.wp
 simp [execOp,hop,hm,hx,hv,hrun,Result.andThen]
 exact hK' _ _ (hK w' r1 r2 r3)
theorem copy_sec (w:World) (ty:TypeId) {t:ByteArray} (ht:t.size = 64) (Z:List Value) (hz:Z.length = 64) :
  (Builtin.copy_ #[41,9] ty #[.slice (some ⟨w.heap.size,0,none⟩) 64 64,.string t]).run Tryz.prog (w.alloc (.cells Z.toArray 99)) =
   .ok (goInt 64) (w.alloc (.cells (secC t).toArray 99)):=by
 obtain ⟨i0,hi,hz0,hz1,hz2⟩:=info_parts Bk.Tryz.infoU8
 have hinfo:(Tryz.prog.info? 5).map (·.size) = some 1:=by rw [hi];simp [hz1]
 have h:=Lib.run_copy_row_string (P:=Tryz.prog) (w.alloc (.cells Z.toArray 99)) 41 9 ty 5 w.heap.size 0 64 64 t Z.toArray 99 Tryz.underlying41 hinfo (heap_alloc_new w _) (by omega) (by rw [List.size_toArray,hz];omega)
 rw [h,ht,List.take_zero,List.nil_append,Nat.zero_add,List.drop_of_length_le (by rw [Array.length_toList,List.size_toArray,hz];exact Nat.le_refl _),List.append_nil,World.setRow_alloc_new]
 rfl
section
variable {w w':World} {g a b:Nat} {D:Dev}
structure WrEnv (w W:World) (g a b vb:Nat) (D:Dev) (t:ByteArray):Prop where
 d:LAt W g a b D
 c:Cel W vb 99 (secC t)
 f:Fr (LFoot g a b) (LFoot g a b) w W
theorem lwrite_any (h:LAt w g a b D) (hok:DevOk D) (i:Int) (hi:-9223372036854775808 ≤ i ∧ i ≤ 9223372036854775807) (t:ByteArray) :
  Calls Tryz.prog 111 #[.pointer (some ⟨g,0,none⟩),.int .i64 i,.string t] w fun e w'=>e = .returned (.int .i64 (wrD D i t).2) ∧ LAt w' g a b (wrD D i t).1 ∧ Fr (LFoot g a b) (LFoot g a b) w w':=by
 have HFd:=Lib.hid (lfind_any h hok i)
 have HBn:=Lib.hid (lburn_any h hok)
 have H:=Lib.hid h
 by_cases hr:fdV D i = 0
 case neg =>
  have E:=Lib.hid (show wrD D i t = (D,fdV D i) from by unfold wrD;rw [fd_rd,if_pos hr])
  have q0:(fdV D i != 0) = true:=by simpa using hr
  generalize fdV D i = z at HFd E q0
  clear h hok hr
  go_enter Tryz.func111,Tryz.ntmps111
  go_wp2_with fail
  refine HFd.out.mono ?_
  rintro e w1 ⟨rfl,rfl⟩
  go_wp2_with fail
  go_ret
  exact ⟨by rw [E.out];rfl,by rw [E.out];exact H.out,Fr.refl _ _⟩
 have hii:D.down = false ∧ 0 ≤ i ∧ i < (D.on.length:Int):=by
  unfold fdV at hr
  split at hr
  ·cases hr
  split at hr
  ·cases hr
  next h1 h2=>exact ⟨by simpa using h1,by omega,by omega⟩
 obtain ⟨hd,hi0,hi1⟩:=hii
 by_cases hz:t.size = 64
 case neg =>
  have E:=Lib.hid (show wrD D i t = (D,3) from by unfold wrD;rw [fd_rd,if_neg (by simpa using hr),if_pos hz])
  have pz:((t.size:Int) != 64) = true:=by simp;omega
  rw [hr] at HFd
  clear h hok hr hz
  go_enter Tryz.func111,Tryz.ntmps111
  go_wp2_with fail
  refine HFd.out.mono ?_
  rintro e w1 ⟨rfl,rfl⟩
  go_wp2_with fail
  go_ret
  exact ⟨by rw [E.out];rfl,by rw [E.out];exact H.out,Fr.refl _ _⟩
 have pz:(t.size:Int) = 64:=by omega
 have ew:wrD D i t = if (burn D).2 = true then ((burn D).1,90) else (⟨D.on,D.new.set i.toNat t,(burn D).1.left,(burn D).1.down⟩,0):=by
  unfold wrD;rw [fd_rd,if_neg (by simpa using hr),if_neg (by simpa using hz)]
 rw [hr] at HFd
 obtain ⟨b1,b2,b3⟩:=burn_parts D
 obtain ⟨j,rfl⟩:∃ j:Nat,i = (j:Int):=⟨i.toNat,by omega⟩
 rw [Int.toNat_natCast] at ew
 have hlen:=hok.len
 have hmx:=hok.max
 generalize burn D = Q at HBn ew b1 b2
 obtain ⟨D1,bb⟩:=Q
 simp only at HBn ew b1 b2
 cases bb with
 | true =>
  have E:=Lib.hid (show wrD D (j:Int) t = (D1,90) from by rw [ew,if_pos rfl])
  clear h hok hr hz ew
  go_enter Tryz.func111,Tryz.ntmps111
  go_wp2_with fail
  refine HFd.out.mono ?_
  rintro e w1 ⟨rfl,rfl⟩
  go_wp2_with fail
  refine HBn.out.mono ?_
  rintro e w2 ⟨rfl,hb⟩
  have HB:=Lib.hid hb
  clear hb
  go_wp2_with fail
  go_ret
  exact ⟨by rw [E.out];rfl,by rw [E.out];exact HB.out.1,HB.out.2⟩
 | false =>
  have E:=Lib.hid (show wrD D (j:Int) t = (⟨D.on,D.new.set j t,D1.left,D1.down⟩,0) from by rw [ew,if_neg (by simp)])
  have hj:j < D1.new.length:=by rw [b2,hlen];omega
  have hm:D1.new.length < maxLen:=by rw [b2,hlen];unfold maxLen;omega
  have HBs:=Lib.hid (And.intro b1 (And.intro b2 (And.intro hj (And.intro hm hz))))
  have hzs:=zero_sec
  obtain ⟨Z,hZ⟩:∃ Z,Z = secC zero64:=⟨_,rfl⟩
  have hZl:Z.length = 64:=by rw [hZ,secC_len];rfl
  unfold secV at hzs
  rw [← hZ] at hzs
  have HCp:=Lib.hid (fun W ty=>copy_sec W ty hz Z hZl)
  clear h hok hr hz ew b1 b2 b3 hlen hmx hj hm hZ
  go_enter Tryz.func111,Tryz.ntmps111
  go_wp2_with fail
  refine HFd.out.mono ?_
  rintro e w1 ⟨rfl,rfl⟩
  go_wp2_with fail
  refine HBn.out.mono ?_
  rintro e w2 ⟨rfl,hb⟩
  have HB:=Lib.hid hb
  clear hb
  have hcp:=HCp.out w2
  have HE:=Lib.hid (show WrEnv w1 (w2.alloc (.cells (secC t).toArray 99)) g a b w2.heap.size D1 t from
   ⟨HB.out.1.step ((Below.refl _ w2).alloc (Nat.le_refl _) _),heap_alloc_new w2 _,HB.out.2.below ((Below.refl _ w2).alloc (Nat.le_refl _) _)⟩)
  go_upto_region 10 with fail
  generalize w2.alloc (.cells (secC t).toArray 99) = W1 at HE ⊢
  generalize w2.heap.size = vb at HE ⊢
  clear hcp HCp
  refine wp_region_said 6 [23,24,25,26,27,28]
   [.is (.pointer (some ⟨g,0,none⟩)),.is (.pointer (some ⟨g,0,none⟩)),.is (.pointer (some ⟨g,1,none⟩)),.is (.map (some b)),.is (.int .i64 (j:Int)),.is (secV t)]
   (fun W=>WrEnv w1 W g a b vb D1 t) (by kernel_rfl) (by kernel_rfl) (by kernel_rfl) (by kernel_rfl) (by kernel_rfl) (fun W W' h hb=>⟨h.d.step hb,h.c.below hb,h.f.below hb⟩) HE.out ?steps ?last
  case steps =>
   simp only [List.take_succ_cons,List.take_zero]
   refine ⟨?_,?_,?_,?_,?_,?_,trivial⟩
   all_goals
    intro vs W ρ hρ hc hf hg hI hH hd R' hR
    have z1:=hI.d.cel.cell (i:=1) rfl
    have hld:=sec_own hI.c HBs.out.2.2.2.2
    have HR:=Lib.hid hR
    simp [depsOf,Region.binds,sayAt,Say.holds] at hd
    clear hR hI
   case refine_6 =>
    have e0:ρ (.tmp 8) = .pointer (some ⟨vb,0,none⟩):=by rw [hρ];simp [pick];rfl
    rw [if_pos (by simp [Region.wanted])]
    unfold execOp
    simp only [Sem.run_bind,Sem.run_pure,Result.andThen_ok,e0,hld,floatUpon]
    exact HR.out _ _ (by simp [sayAt,Say.holds]) (Below.refl _ _) (by simp [sayAt,Say.isBlk])
   all_goals
    clear hld
    go_simp
    first
     | exact HR.out _ _ (by simp [sayAt,Say.holds]) (Below.refl _ _) (by simp [sayAt,Say.isBlk])
     | trace_state
  case last =>
   intro vs W hI hb hg hd
   have e3:=hg 3 (by omega)
   have e4:=hg 4 (by omega)
   have e5:=hg 5 (by omega)
   simp only [sayAt,Say.holds,List.getD_cons_succ,List.getD_cons_zero] at e3 e4 e5
   simp only [List.take_succ_cons,List.take_zero,List.drop_succ_cons,List.drop_zero,putAll,Act.put,List.setIfInBounds_toArray,List.set_cons_succ,List.set_cons_zero,Nat.zero_add,Nat.reduceAdd]
   rw [e3,e4,e5]
   refine wpList_mapSec W rfl (.tmp 26) (.tmp 27) (.tmp 28) rfl b D1.new rfl hI.d.mp HBs.out.2.2.2.1 j HBs.out.2.2.1 t HBs.out.2.2.2.2 rfl rfl ?_
   intro W2 hm2 hg2 _
   have HA:=Lib.hid (And.intro (hI.d.setMap hm2 hg2) (hI.f.grown (.inl lfoot_b) hg2))
   clear hm2 hg2 hI hg hd e3 e4 e5 hb
   go_wp2_with fail
   go_ret
   refine ⟨by rw [E.out];rfl,?_,HA.out.2⟩
   rw [E.out]
   have:=HA.out.1
   rw [HBs.out.1,HBs.out.2.1] at this
   exact this
end
theorem wpList_secStore (w:World) {ops:Array Oper} {rest:List Oper} {o:Oper} {act:Act} {Q:Exit → Act → World → Prop}
  (hg:o.guard = none) (x y:Operand) (hop:o.op = Op.store 99 x y) (a:Nat) (l:List ByteArray) (h:Cel w a 99 (onC l)) (h64:∀ s ∈ l,s.size = 64)
  (i:Nat) (hi:i < l.length) (t:ByteArray) (ht:t.size = 64) (hx:act.eval x = .pointer (some ⟨a,i * 64,none⟩)) (hy:act.eval y = secV t)
  (hK:wpList Tryz.prog ops Q rest (act.put o.dst undef) (w.setRow a (onC (l.set i t)).toArray)):wpList Tryz.prog ops Q (o :: rest) act w:=by
 refine wpList_plain hg fun K' hK'=>?_
 have hrun:=sec_store h h64 hi ht
 unfold Oper.wp
 simp only [execOp,hop,hx,hy,Sem.run_bind,hrun,Result.andThen_ok]
 exact hK' _ _ hK
def flF (D:Dev) (left:Lit → Bool) (i:Nat):ByteArray:=if D.new.getD i nil0 ≠ nil0 ∧ left (.int .i64 (i:Int)) = false then D.new.getD i nil0 else D.on.getD i nil0
def flL (D:Dev) (left:Lit → Bool):List ByteArray:=(List.range D.on.length).map (flF D left)
theorem flL_len (D:Dev) (left:Lit → Bool):(flL D left).length = D.on.length:=by simp [flL]
theorem flL_64 {D:Dev} (hok:DevOk D) (left:Lit → Bool):∀ s ∈ flL D left,s.size = 64:=fun s hs=>by
 unfold flL at hs
 obtain ⟨i,hi,rfl⟩:=List.mem_map.1 hs
 rw [List.mem_range] at hi
 unfold flF
 split
 next h=>exact (hok.new64 _ (getD_mem (by rw [hok.len];exact hi))).resolve_left h.1
 ·exact hok.on64 _ (getD_mem hi)
theorem flL_start {D:Dev} (hok:DevOk D) {left:Lit → Bool} (hl:∀ x:Int,left (.int .i64 x) = (slot D.new x).isSome):flL D left = D.on:=by
 refine List.ext_getElem (flL_len D left) fun i h1 h2=>?_
 simp only [flL,List.getElem_map,List.getElem_range]
 unfold flF
 rw [if_neg,getD_at h2]
 rintro ⟨h3,h4⟩
 rw [hl,slot_nat (by rw [hok.len];exact h2),if_neg h3] at h4
 cases h4
theorem flL_end {D:Dev} {left:Lit → Bool} (hl:∀ z,left z = false):flL D left = upd D.on D.on.length (flushF D):=by
 unfold flL upd
 refine List.map_congr_left fun i hi=>?_
 rw [List.mem_range] at hi
 unfold flF flushF
 rw [if_pos hi]
 by_cases e:D.new.getD i nil0 = nil0
 ·rw [if_neg (fun h=>h.1 e),if_pos e]
 ·rw [if_pos ⟨e,hl _⟩,if_neg e]
theorem flL_step {D:Dev} {left:Lit → Bool} {i:Nat} (_hi:i < D.on.length) (hw:D.new.getD i nil0 ≠ nil0) :
  (flL D left).set i (D.new.getD i nil0) = flL D (fun z=>left z && !z.sameKey (.int .i64 (i:Int))):=by
 refine List.ext_getElem (by rw [List.length_set,flL_len,flL_len]) fun k h1 h2=>?_
 rw [List.getElem_set]
 simp only [flL,List.getElem_map,List.getElem_range]
 unfold flF
 by_cases e:i = k
 ·subst e
  rw [if_pos rfl,if_pos ⟨hw,by simp [Lit.sameKey]⟩]
 ·rw [if_neg e]
  have:(Lit.int IntKind.i64 (k:Int)).sameKey (.int .i64 (i:Int)) = false:=Maps.sameKey_ne (fun h=>e (by injection h with _ h;omega))
  simp [this]
theorem below_grown {u v:World} (h:Below u.heap.size u v):u.grownBy v none:=⟨h.os,h.tape,h.output,h.size,fun k hk _=>h.block k hk⟩
theorem row_grown (u:World) (k:Nat) (c:Array Value):u.grownBy (u.setRow k c) (some k):=⟨rfl,rfl,rfl,by simp,fun i _ hn=>row_far c (fun e=>hn (by rw [e]))⟩
theorem entry_is {w:World} {b n:Nat} {new:List ByteArray} {DM:DataW Unit} (_h:w.ownsMap Tryz.prog 3 rdSec b n DM) (hs:Says DM new) {x:Int} {c:ByteArray} {kl:Lit} {y:DataW Unit × List MemPlace}
  (hk:keyOf Tryz.prog 3 (.int .i64 x) = some kl) (hR:rdSec (secV c) = some y) (hat:∀ zd,DM.atKey kl zd = y.1) :
  ∃ i:Nat,x = (i:Int) ∧ kl = .int .i64 (i:Int) ∧ i < new.length ∧ new.getD i nil0 ≠ nil0 ∧ c = new.getD i nil0 ∧ c.size = 64:=by
 obtain ⟨x',e1,e2,_⟩:=Maps.keyOf_i64 Tryz.underlying3 hk
 obtain rfl:x = x':=by simpa using e1
 subst e2
 obtain ⟨s,hs64,e3,e4⟩:=rdSec_inv hR
 obtain rfl:=secV_inj e3
 rw [e4] at hat
 simp only at hat
 have hh:=Maps.has_true_of_atKey hat
 rw [hs.has x] at hh
 obtain ⟨i,rfl,h1,h2⟩:=slot_some hh
 have hsl:=slot_nat h1
 rw [if_neg h2] at hsl
 have:=hs.at_ _ _ hsl (strD c)
 rw [hat] at this
 exact ⟨i,rfl,rfl,h1,h2,strD_inj this,hs64⟩
section
variable {w w':World} {g a b:Nat} {D:Dev}
structure FlEnv (w W:World) (g a b r:Nat) (D D1:Dev) (DM:DataW Unit) (left:Lit → Bool) (cnt:Nat):Prop where
 rg:W.ranges Tryz.prog 3 rdSec b r D.new.length DM left cnt
 d:LAt W g a b ⟨flL D left,D.new,D1.left,D1.down⟩
 f:Fr (LFoot g a b) (LFoot g a b) w W
 ra:r ≠ a
 rg':r ≠ g
 wr:w.heap.size ≤ r
theorem FlEnv.put {W:World} {r:Nat} {D1:Dev} {DM:DataW Unit} {left:Lit → Bool} {i:Nat} (hi:i < D.on.length) (hw:D.new.getD i nil0 ≠ nil0)
  (hd:LAt W g a b ⟨flL D left,D.new,D1.left,D1.down⟩) (hf:Fr (LFoot g a b) (LFoot g a b) w W) (hra:r ≠ a) (hrg:r ≠ g) (hwr:w.heap.size ≤ r) {cnt:Nat}
  (hr:W.ranges Tryz.prog 3 rdSec b r D.new.length DM (fun z=>left z && !z.sameKey (.int .i64 (i:Int))) cnt) {c:ByteArray} (hc:c = D.new.getD i nil0) :
  FlEnv w (W.setRow a (onC ((flL D left).set i c)).toArray) g a b r D D1 DM (fun z=>left z && !z.sameKey (.int .i64 (i:Int))) cnt:=by
 subst hc
 have hd':=hd.setRow (l:=(flL D left).set i (D.new.getD i nil0)) (by simp)
 have e:=flL_step (left:=left) hi hw
 refine ⟨hr.kept (row_grown W a _) (fun e=>hd.d3 (Option.some.inj e).symm) (fun e=>hra (Option.some.inj e)),?_,hf.row (.inl lfoot_a) _,hra,hrg,hwr⟩
 rw [e] at hd' ⊢
 exact hd'
end
section
variable {w w':World} {g a b:Nat} {D:Dev}
structure FlMid (w W:World) (g a b r vb:Nat) (D D1:Dev) (DM:DataW Unit) (left left':Lit → Bool) (cnt:Nat) (c:ByteArray):Prop where
 rg:W.ranges Tryz.prog 3 rdSec b r D.new.length DM left' cnt
 d:LAt W g a b ⟨flL D left,D.new,D1.left,D1.down⟩
 f:Fr (LFoot g a b) (LFoot g a b) w W
 c:Cel W vb 99 (secC c)
theorem FlMid.step {W W':World} {r vb:Nat} {D1:Dev} {DM:DataW Unit} {left left':Lit → Bool} {cnt:Nat} {c:ByteArray} (h:FlMid w W g a b r vb D D1 DM left left' cnt c) (hb:Below W.heap.size W W'):FlMid w W' g a b r vb D D1 DM left left' cnt c :=
 ⟨h.rg.kept (below_grown hb) (by simp) (by simp),h.d.step hb,h.f.below hb,h.c.below hb⟩
theorem lflush_any (h:LAt w g a b D) (hok:DevOk D) :
  Calls Tryz.prog 113 #[.pointer (some ⟨g,0,none⟩)] w fun e w'=>e = .returned (.int .i64 (flD D).2) ∧ LAt w' g a b (flD D).1 ∧ Fr (LFoot g a b) (LFoot g a b) w w':=by
 have HBn:=Lib.hid (lburn_any h hok)
 have k3:=h.cel.cell (i:=3) rfl
 have H:=Lib.hid h
 by_cases hd:D.down = true
 ·have E:=Lib.hid (show flD D = (D,90) from by unfold flD;rw [if_pos hd])
  rw [hd] at k3
  clear h hd hok
  go_enter Tryz.func113,Tryz.ntmps113
  go_wp2_with fail
  go_ret
  exact ⟨by rw [E.out];rfl,by rw [E.out];exact H.out,Fr.refl _ _⟩
 have hd':D.down = false:=by simpa using hd
 rw [hd'] at k3
 have ew:flD D = if (burn D).2 = true then ((burn D).1,90) else (⟨upd D.on D.on.length (flushF D),upd D.new D.on.length (fun _=>nil0),(burn D).1.left,(burn D).1.down⟩,0):=by
  unfold flD;rw [if_neg hd]
 obtain ⟨b1,b2,b3⟩:=burn_parts D
 have hlen:=hok.len
 generalize burn D = Q at HBn ew b1 b2
 obtain ⟨D1,bb⟩:=Q
 simp only at HBn ew b1 b2
 cases bb with
 | true =>
  have E:=Lib.hid (show flD D = (D1,90) from by rw [ew,if_pos rfl])
  clear h hok ew hd hd'
  go_enter Tryz.func113,Tryz.ntmps113
  go_wp2_with fail
  refine HBn.out.mono ?_
  rintro e w2 ⟨rfl,hb⟩
  have HB:=Lib.hid hb
  clear hb
  go_wp2_with fail
  go_ret
  exact ⟨by rw [E.out];rfl,by rw [E.out];exact HB.out.1,HB.out.2⟩
 | false =>
  have E:=Lib.hid (show flD D = (⟨upd D.on D.on.length (flushF D),List.replicate D.on.length nil0,D1.left,D1.down⟩,0) from by
   rw [ew,if_neg (by simp),← hlen,upd_all])
  have HOk:=Lib.hid hok
  have HBs:=Lib.hid (And.intro b1 b2)
  have hzs:=zero_sec
  obtain ⟨Z,hZ⟩:∃ Z,Z = secC zero64:=⟨_,rfl⟩
  have hZl:Z.length = 64:=by rw [hZ,secC_len];rfl
  unfold secV at hzs
  rw [← hZ] at hzs
  clear h hok ew hd hd' b1 b2 b3 hlen hZ
  go_enter Tryz.func113,Tryz.ntmps113
  go_wp2_with fail
  refine HBn.out.mono ?_
  rintro e w2 ⟨rfl,hb⟩
  have k1:=hb.1.cel.cell (i:=1) rfl
  have HB:=Lib.hid hb
  obtain ⟨DM,hown,hsays⟩:=hb.1.mp
  rw [HBs.out.2] at hown hsays
  have HSs:=Lib.hid (And.intro hown hsays)
  have hra:w2.heap.size ≠ a:=fun e=>by have:=hb.1.ro.lt;omega
  have hrg':w2.heap.size ≠ g:=fun e=>by have:=hb.1.cel.lt;omega
  have hra2:=Lib.hid (And.intro hra (And.intro hrg' hb.2.size))
  clear hb k3 hra hrg'
  go_wp2_with (at_range;refine wpList_range_own _ rfl _ 66 rfl 3 99 Tryz.keyedInt Tryz.underlying66 rdSec b D.new.length DM rfl hown ?_;intro w3 hrg0 hg0 hs0)
  go_frame
  have HE0:Hid (FlEnv w w3 g a b w2.heap.size D D1 DM (Maps.has DM) (Maps.size DM)):=Lib.hid (by
   refine ⟨hrg0,?_,?_,hra2.out.1,hra2.out.2.1,hra2.out.2.2⟩
   ·rw [flL_start HOk.out hsays.has]
    have:=HB.out.1.kept (w':=w3) (fun k hk=>hg0.block k (HB.out.1.lt k hk) (by simp))
    rw [← HBs.out.1,← HBs.out.2]
    exact this
   ·exact ⟨hg0.os.trans HB.out.2.os,hg0.tape.trans HB.out.2.tape,hg0.output.trans HB.out.2.output,Nat.le_trans HB.out.2.size hg0.size,fun i hi hn=>(hg0.block i (Nat.lt_of_lt_of_le hi HB.out.2.size) (by simp)).trans (HB.out.2.block i hi hn),HB.out.2.foot⟩)
  clear hrg0 hg0 hs0 hown hsays k1 HBn HB
  generalize w2.heap.size = r at HE0 hra2 ⊢
  go_loopw [3,4] (fun _ _ wr=>∃ (left:Lit → Bool) (cnt:Nat),Hid (FlEnv w wr g a b r D D1 DM left cnt)) (fun _ _ wr=>wr.rangeLeft b r)
  case atStart=>exact ⟨_,_,HE0.out⟩
  case round =>
   obtain ⟨left,cnt,hr⟩:=hrel
   have hrg:=hr.out.rg
   go_wp2_with (at_next;refine wpList_next_ranges _ rfl _ rfl 3 Tryz.keyedInt rdSec (Value.int .i64) secV (fun key kl hk=>by obtain ⟨x,hx,_⟩:=Maps.keyOf_i64 Tryz.underlying3 hk;exact ⟨x,hx⟩) (fun v y hv=>by obtain ⟨s,_,hs,_⟩:=rdSec_inv hv;exact ⟨s,hs⟩) b r D.new.length _ _ _ rfl hrg ?_ ?_)
   ·intro hc0 hl0
    have k1:=hr.out.d.cel.cell (i:=1) rfl
    obtain ⟨W5,hcl,hm5,hg5,hz5⟩:=hr.out.d.mp.clear 0 D.on.length
    have HA:=Lib.hid (And.intro (hr.out.d.setMap hm5 hg5) (hr.out.f.grown (.inl lfoot_b) hg5))
    have HL:=Lib.hid (flL_end (D:=D) hl0)
    clear hr hrg hm5 hg5 hz5 hc0 hl0 HE0
    go_wp2_with fail
    go_ret
    refine ⟨by rw [E.out];rfl,?_,HA.out.2⟩
    rw [E.out]
    have:=HA.out.1
    rw [HL.out] at this
    exact this
   ·intro x c kl yd yp w4 cnt4 hkey hlk hv hat hrg4 hlt hg4 hs4 hen
    obtain ⟨i,rfl,rfl,hi,hw,hc,hc64⟩:=entry_is HSs.out.1 HSs.out.2 hkey hv hat
    have hn:i < D.on.length:=by rw [← HOk.out.len];exact hi
    have hrb:=hrg.ne
    have HM:Hid (FlMid w (w4.alloc (.cells (secC c).toArray 99)) g a b r w4.heap.size D D1 DM left (fun z=>left z && !z.sameKey (.int .i64 (i:Int))) cnt4 c):=Lib.hid (by
     have hb4:=(Below.refl w4.heap.size w4).alloc (Nat.le_refl _) (.cells (secC c).toArray 99)
     refine ⟨hrg4.alloc _,?_,?_,heap_alloc_new w4 _⟩
     ·refine LAt.step (hr.out.d.kept fun k hk=>hg4.block k (hr.out.d.lt k hk) (fun e=>?_)) hb4
      simp only [Option.some.injEq] at e
      subst e
      rcases hk with e | e | e
      ·exact hr.out.rg' e
      ·exact hr.out.ra e
      ·exact hrb e
     ·exact (hr.out.f.grown (.inr hr.out.wr) hg4).below hb4)
    have Hlt:=Lib.hid hlt
    have Hlc:=Lib.hid hrg.left_eq
    have Hr:=Lib.hid (And.intro hr.out.ra (And.intro hr.out.rg' (And.intro hr.out.wr hrb)))
    have HI:=Lib.hid (And.intro hi (And.intro hw (And.intro hc (And.intro hc64 hn))))
    have pn:(i:Int) < (D.on.length:Int):=by omega
    have hs1:=put_cells w4 Z hZl hc64
    have hcl:(secC c).length = 64:=by rw [secC_len,hc64]
    unfold secV at hen ⊢
    clear hkey hlk hv hat hrg4 hlt hg4 hs4 hrg hr hrb hi hw hc hc64 hn HE0
    obtain ⟨C1,hC⟩:∃ C1,secC c = C1:=⟨_,rfl⟩
    have HC:=Lib.hid hC
    rw [hC] at hs1 hen hcl HM ⊢
    clear hC
    go_upto_region 6 with fail
    generalize w4.alloc (.cells C1.toArray 99) = W5 at HM ⊢
    generalize w4.heap.size = vb at HM ⊢
    clear hs1 hen hcl
    refine wp_region_said 7 [23,24,25,26,27,28,29]
     [.is (.pointer (some ⟨g,0,none⟩)),.is (.pointer (some ⟨g,0,none⟩)),.is (.pointer (some ⟨g,0,none⟩)),.is (.slice (some ⟨a,0,none⟩) D.on.length D.on.length),.is (.int .i64 (i:Int)),.is (secV c),.is (.pointer (some ⟨a,i * 64,none⟩))]
     (fun W=>FlMid w W g a b r vb D D1 DM left (fun z=>left z && !z.sameKey (.int .i64 (i:Int))) cnt4 c) (by kernel_rfl) (by kernel_rfl) (by kernel_rfl) (by kernel_rfl) (by kernel_rfl) (fun W W' h hb=>h.step hb) HM.out ?steps ?last
    case steps =>
     simp only [List.take_succ_cons,List.take_zero]
     refine ⟨?_,?_,?_,?_,?_,?_,?_,trivial⟩
     all_goals
      intro vs W ρ hρ hc hf hg hI hH hd R' hR
      have z0:=hI.d.cel.cell (i:=0) rfl
      simp only [flL_len] at z0
      have hld:=sec_own hI.c HI.out.2.2.2.1
      have HR:=Lib.hid hR
      simp [depsOf,Region.binds,sayAt,Say.holds] at hd
      clear hR hI
     case refine_6 =>
      have e0:ρ (.tmp 4) = .pointer (some ⟨vb,0,none⟩):=by rw [hρ];simp [pick];rfl
      rw [if_pos (by simp [Region.wanted])]
      unfold execOp
      simp only [Sem.run_bind,Sem.run_pure,Result.andThen_ok,e0,hld,floatUpon]
      exact HR.out _ _ (by simp [sayAt,Say.holds]) (Below.refl _ _) (by simp [sayAt,Say.isBlk])
     all_goals
      clear hld
      go_simp
      first
       | exact HR.out _ _ (by simp [sayAt,Say.holds]) (Below.refl _ _) (by simp [sayAt,Say.isBlk])
       | trace_state
    case last =>
     intro vs W hI hb hg hd
     have e5:=hg 5 (by omega)
     have e6:=hg 6 (by omega)
     simp only [sayAt,Say.holds,List.getD_cons_succ,List.getD_cons_zero] at e5 e6
     simp only [List.take_succ_cons,List.take_zero,List.drop_succ_cons,List.drop_zero,putAll,Act.put,List.setIfInBounds_toArray,List.set_cons_succ,List.set_cons_zero,Nat.zero_add,Nat.reduceAdd]
     rw [e5,e6]
     refine wpList_secStore W rfl (.tmp 29) (.tmp 28) rfl a (flL D left) hI.d.ro (flL_64 HOk.out left) i (by rw [flL_len];exact HI.out.2.2.2.2) c HI.out.2.2.2.1 rfl rfl ?_
     have HA:=Lib.hid (FlEnv.put HI.out.2.2.2.2 HI.out.2.1 hI.d hI.f Hr.out.1 Hr.out.2.1 Hr.out.2.2.1 hI.rg HI.out.2.2.1)
     generalize W.setRow a (onC ((flL D left).set i c)).toArray = W6 at HA ⊢
     clear e5 e6 hg hd hb hI HM HC
     simp only [Act.put]
     go_wp2_with fail
     go_roundw
     case rel=>exact ⟨_,cnt4,HA.out⟩
     case measure=>rw [HA.out.rg.left_eq,Hlc.out];exact Hlt.out
end
end Sc
end Go.Proofs.YtlfkhlfkckfbpaaGreat
namespace Go.Proofs.YtlfkhlfkckfbpaaGreat
namespace Sc
open Go.RowKit Go.Maps Go.Sort Go.Shelf Bk
def keysA_ren:Go.Shelf.Ren:=⟨fun | 7=>38 | 10=>63 | n=>n,fun | 23=>66 | 26=>3 | 3=>99 | 28=>96 | 0=>0 | 27=>95 | 33=>85 | 4=>4 | n=>n,fun | n=>n⟩
theorem keysA:Go.Proofs.SlLaysZI.n7 Tryz.prog keysA_ren:={
 mixed:=by kernel_rfl
 f7:=⟨Tryz.f38.name,by decide,Tryz.func38.trans (congrArg some (by kernel_rfl))⟩
 f10:=⟨Tryz.f63.name,by decide,Tryz.func63.trans (congrArg some (by kernel_rfl))⟩
 t0:=Tryz.underlying0
 a0:=Tryz.isAgg0
 z0:=Tryz.sizeOf0
 v0:=Tryz.zeroValue0
 t4:=Tryz.underlying4
 a4:=Tryz.isAgg4
 z4:=Tryz.sizeOf4
 v4:=Tryz.zeroValue4
 t23:=Tryz.underlying66
 a23:=Tryz.isAgg66
 z23:=Tryz.sizeOf66
 v23:=Tryz.zeroValue66
 t26:=Tryz.underlying3
 a26:=Tryz.isAgg3
 z26:=Tryz.sizeOf3
 v26:=Tryz.zeroValue3
 t27:=Tryz.underlying95
 a27:=Tryz.isAgg95
 z27:=Tryz.sizeOf95
 v27:=Tryz.zeroValue95
 t28:=Tryz.underlying96
 a28:=Tryz.isAgg96
 z28:=Tryz.sizeOf96
 v28:=Tryz.zeroValue96
 t33:=Tryz.underlying85
 a33:=Tryz.isAgg85
 z33:=Tryz.sizeOf85
 v33:=Tryz.zeroValue85
}
def sortedA_ren:Go.Shelf.Ren:=⟨fun | 6=>37 | 8=>61 | 9=>62 | 11=>92 | 13=>94 | 12=>93 | 23=>148 | 24=>149 | 14=>139 | 15=>140 | 16=>141 | 17=>142 | 18=>143 | 19=>144 | 20=>145 | 21=>146 | 22=>147 | 25=>182 | 26=>183 | 27=>184 | 28=>185 | 29=>186 | 30=>150 | 31=>203 | n=>n,fun | 26=>3 | 28=>96 | 24=>22 | 0=>0 | 3=>3 | 37=>158 | 48=>222 | 50=>206 | 4=>4 | 40=>215 | 39=>214 | 45=>72 | 5=>5 | 9=>9 | 51=>253 | 55=>257 | 57=>272 | 58=>164 | 33=>85 | n=>n,fun | n=>n⟩
theorem sortedA:Go.Proofs.SlLaysZI.n6 Tryz.prog sortedA_ren:={
 mixed:=by kernel_rfl
 f6:=⟨Tryz.f37.name,by decide,Tryz.func37.trans (congrArg some (by kernel_rfl))⟩
 f8:=⟨Tryz.f61.name,by decide,Tryz.func61.trans (congrArg some (by kernel_rfl))⟩
 f11:=⟨Tryz.f92.name,by decide,Tryz.func92.trans (congrArg some (by kernel_rfl))⟩
 t0:=Tryz.underlying0
 a0:=Tryz.isAgg0
 z0:=Tryz.sizeOf0
 v0:=Tryz.zeroValue0
 t24:=Tryz.underlying22
 a24:=Tryz.isAgg22
 z24:=Tryz.sizeOf22
 v24:=Tryz.zeroValue22
 t26:=Tryz.underlying3
 a26:=Tryz.isAgg3
 z26:=Tryz.sizeOf3
 v26:=Tryz.zeroValue3
 t28:=Tryz.underlying96
 a28:=Tryz.isAgg96
 z28:=Tryz.sizeOf96
 v28:=Tryz.zeroValue96
 i26:=by kernel_rfl
}
def sortA_ren:Go.Shelf.Ren:=⟨fun | 5=>62 | 8=>94 | 7=>93 | 19=>148 | 20=>149 | 10=>139 | 11=>140 | 12=>141 | 13=>142 | 14=>143 | 15=>144 | 16=>145 | 17=>146 | 18=>147 | 30=>182 | 31=>183 | 32=>184 | 33=>185 | 34=>186 | 35=>150 | 40=>203 | n=>n,fun | 23=>22 | 25=>3 | 3=>3 | 32=>158 | 22=>22 | 0=>0 | 44=>222 | 46=>206 | 4=>4 | 36=>215 | 35=>214 | 41=>72 | 5=>5 | 9=>9 | 53=>253 | 57=>257 | 63=>272 | 64=>164 | n=>n,fun | n=>n⟩
theorem sortA:Go.Proofs.SlLaysM.n5 Tryz.prog sortA_ren:={
 mixed:=by kernel_rfl
 f5:=⟨Tryz.f62.name,by decide,Tryz.func62.trans (congrArg some (by kernel_rfl))⟩
 f7:=⟨Tryz.f93.name,by decide,Tryz.func93.trans (congrArg some (by kernel_rfl))⟩
 f8:=Tryz.func94.trans (congrArg some (by kernel_rfl))
 f10:=⟨Tryz.f139.name,by decide,Tryz.func139.trans (congrArg some (by kernel_rfl))⟩
 f11:=⟨Tryz.f140.name,by decide,Tryz.func140.trans (congrArg some (by kernel_rfl))⟩
 f12:=⟨Tryz.f141.name,by decide,Tryz.func141.trans (congrArg some (by kernel_rfl))⟩
 f13:=⟨Tryz.f142.name,by decide,Tryz.func142.trans (congrArg some (by kernel_rfl))⟩
 f14:=⟨Tryz.f143.name,by decide,Tryz.func143.trans (congrArg some (by kernel_rfl))⟩
 f15:=⟨Tryz.f144.name,by decide,Tryz.func144.trans (congrArg some (by kernel_rfl))⟩
 f16:=⟨Tryz.f145.name,by decide,Tryz.func145.trans (congrArg some (by kernel_rfl))⟩
 f17:=⟨Tryz.f146.name,by decide,Tryz.func146.trans (congrArg some (by kernel_rfl))⟩
 f18:=⟨Tryz.f147.name,by decide,Tryz.func147.trans (congrArg some (by kernel_rfl))⟩
 f19:=Tryz.func148.trans (congrArg some (by kernel_rfl))
 f20:=Tryz.func149.trans (congrArg some (by kernel_rfl))
 f30:=⟨Tryz.f182.name,by decide,Tryz.func182.trans (congrArg some (by kernel_rfl))⟩
 f31:=Tryz.func183.trans (congrArg some (by kernel_rfl))
 f32:=Tryz.func184.trans (congrArg some (by kernel_rfl))
 f33:=⟨Tryz.f185.name,by decide,Tryz.func185.trans (congrArg some (by kernel_rfl))⟩
 f34:=⟨Tryz.f186.name,by decide,Tryz.func186.trans (congrArg some (by kernel_rfl))⟩
 f35:=⟨Tryz.f150.name,by decide,Tryz.func150.trans (congrArg some (by kernel_rfl))⟩
 f40:=⟨Tryz.f203.name,by decide,Tryz.func203.trans (congrArg some (by kernel_rfl))⟩
 t0:=Tryz.underlying0
 a0:=Tryz.isAgg0
 z0:=Tryz.sizeOf0
 v0:=Tryz.zeroValue0
 t3:=Tryz.underlying3
 a3:=Tryz.isAgg3
 z3:=Tryz.sizeOf3
 v3:=Tryz.zeroValue3
 t4:=Tryz.underlying4
 a4:=Tryz.isAgg4
 z4:=Tryz.sizeOf4
 v4:=Tryz.zeroValue4
 t5:=Tryz.underlying5
 a5:=Tryz.isAgg5
 z5:=Tryz.sizeOf5
 v5:=Tryz.zeroValue5
 t9:=Tryz.underlying9
 a9:=Tryz.isAgg9
 z9:=Tryz.sizeOf9
 v9:=Tryz.zeroValue9
 t22:=Tryz.underlying22
 a22:=Tryz.isAgg22
 z22:=Tryz.sizeOf22
 v22:=Tryz.zeroValue22
 t23:=Tryz.underlying22
 a23:=Tryz.isAgg22
 z23:=Tryz.sizeOf22
 v23:=Tryz.zeroValue22
 t25:=Tryz.underlying3
 a25:=Tryz.isAgg3
 z25:=Tryz.sizeOf3
 v25:=Tryz.zeroValue3
 t32:=Tryz.underlying158
 a32:=Tryz.isAgg158
 z32:=Tryz.sizeOf158
 v32:=Tryz.zeroValue158
 t35:=Tryz.underlying214
 a35:=Tryz.isAgg214
 z35:=Tryz.sizeOf214
 v35:=Tryz.zeroValue214
 t36:=Tryz.underlying215
 a36:=Tryz.isAgg215
 z36:=Tryz.sizeOf215
 v36:=Tryz.zeroValue215
 t41:=Tryz.underlying72
 a41:=Tryz.isAgg72
 z41:=Tryz.sizeOf72
 v41:=Tryz.zeroValue72
 t44:=Tryz.underlying222
 a44:=Tryz.isAgg222
 z44:=Tryz.sizeOf222
 v44:=Tryz.zeroValue222
 t46:=Tryz.underlying206
 a46:=Tryz.isAgg206
 z46:=Tryz.sizeOf206
 v46:=Tryz.zeroValue206
 t53:=Tryz.underlying253
 a53:=Tryz.isAgg253
 z53:=Tryz.sizeOf253
 v53:=Tryz.zeroValue253
 t57:=Tryz.underlying257
 a57:=Tryz.isAgg257
 z57:=Tryz.sizeOf257
 v57:=Tryz.zeroValue257
 t63:=Tryz.underlying272
 a63:=Tryz.isAgg272
 z63:=Tryz.sizeOf272
 v63:=Tryz.zeroValue272
 t64:=Tryz.underlying164
 a64:=Tryz.isAgg164
 z64:=Tryz.sizeOf164
 v64:=Tryz.zeroValue164
}
theorem sortsA (m:Nat):AnyZI.SortsIn Tryz.prog sortedA_ren Fence.wide m :=
 ⟨fun blk off cap ss W hH hblk hsz=>callsIn_wide.2 (AnyM.slices_Sort_int sortA blk off cap ss W hH hblk hsz),
  fun p cap W=>callsIn_wide.2 (AnyM.slices_Sort_int_none sortA p cap W)⟩
theorem keys_call (mb:Option Nat) (W:World):Calls Tryz.prog 38 #[.map mb] W fun e w' =>
  e = .returned (.func (.func 63) #[] #[.pointer (some ⟨W.heap.size,0,none⟩)]) ∧ w' = W.alloc (.cells #[.map mb] 66) :=
 (callsIn_wide (n:=5)).1 (AnyZI.keys_in keysA Fence.wide 5 trivial rfl mb W)
theorem sorted_call {H:Type} (b nn:Nat) (D0:DataW H) (R:Value → Option (DataW H × List MemPlace)) (w:World) (hown:w.ownsMap Tryz.prog 3 R b nn D0) (hmax:Maps.size D0 ≤ maxLen) (hbytes:Maps.size D0 * 8 ≤ 140737488355328) :
  Calls Tryz.prog 37 #[.func (.func 63) #[] #[.pointer (some ⟨w.heap.size,0,none⟩)]] (w.alloc (.cells #[.map (some b)] 66)) fun e w' =>
   ∃ (v:Value) (ss:List Int),e = .returned v ∧ ss.Perm (intKeys D0) ∧
   w'.ownsRow (w.alloc (.cells #[.map (some b)] 66)).heap.size 3 1 v ss.length ((ss.mergeSort (fun x y=>decide (x ≤ y))).map encZ) ∧ (v = .slice none 0 0 ↔ ss = []) ∧ Below (w.alloc (.cells #[.map (some b)] 66)).heap.size (w.alloc (.cells #[.map (some b)] 66)) w':=by
 have hbl:=hown.lt
 have hseq:SeqGives Fence.wide 2 Tryz.prog 63 #[.pointer (some ⟨w.heap.size,0,none⟩)] encZ (fun ss=>ss.Perm (intKeys D0)) (Maps.size D0) (w.alloc (.cells #[.map (some b)] 66)) :=
  AnyZI.keys_gives (ρ:=keysA_ren) { keysA with } Fence.wide _ trivial rfl (by omega) w.heap.size b nn D0 _ (by simp) (by simp) (by
   obtain ⟨es,clock,hb,Ft,hs,hD⟩:=hown
   exact ⟨es,clock,(Below.heap_alloc _ _ b hbl).trans hb,Ft,hs,hD⟩)
 have cS:=AnyZI.sorted_in sortedA Fence.wide 5 trivial trivial trivial trivial rfl (by omega) (sortsA _) (enters_of Tryz.func62 (by kernel_rfl) rfl) 63 #[.pointer (some ⟨w.heap.size,0,none⟩)] trivial (enters_of Tryz.func63 (by kernel_rfl) rfl) _ _ hmax hbytes _ hseq
 exact (callsIn_wide (n:=5)).1 cS
theorem sorted_keys {w:World} {b:Nat} {new:List ByteArray} (h:SecMap w b new) (hn:new.length ≤ 2048) :
  Calls Tryz.prog 37 #[.func (.func 63) #[] #[.pointer (some ⟨w.heap.size,0,none⟩)]] (w.alloc (.cells #[.map (some b)] 66)) fun e w' =>
   ∃ (A:Option Addr) (c:Nat),e = .returned (.slice A (cnt new new.length) c) ∧ IntsAt w' A (dirtyK new new.length) ∧ (∀ ad,A = some ad → w.heap.size ≤ ad.block) ∧ Below w.heap.size w w':=by
 obtain ⟨DM,hown,hsays⟩:=h
 have hsz:=size_cnt hown hsays
 have hle:=cnt_le new new.length
 refine (sorted_call b new.length DM rdSec w hown (by unfold maxLen;omega) (by omega)).mono ?_
 rintro e w' ⟨v,ss,rfl,hp,hrow,_,hb⟩
 have hlen:ss.length = cnt new new.length:=by
  rw [hp.length_eq,← (keys_perm hown hsays).length_eq,dirtyK_cnt (Nat.le_refl _)]
 have hsort:ss.mergeSort (fun x y=>decide (x ≤ y)) = dirtyK new new.length:=by
  have h1:=mergeSort_of_perm_i (hp.trans (keys_perm hown hsays).symm)
  have h2:(dirtyK new new.length).mergeSort leI = dirtyK new new.length:=List.mergeSort_of_pairwise (dirtyK_sorted _ _)
  exact h1.trans h2
 rw [hsort] at hrow
 have hrow':w'.ownsRow (w.alloc (.cells #[.map (some b)] 66)).heap.size 3 1 v ss.length (intV (dirtyK new new.length)):=hrow
 have hbl:Below w.heap.size w w':=((Below.refl _ w).alloc (Nat.le_refl _) _).trans (hb.mono (by simp))
 obtain ⟨A,c,rfl,hi⟩:=ints_of_own hrow' (by rw [hlen,dirtyK_cnt (Nat.le_refl _)])
 refine ⟨A,c,by rw [hlen],hi,fun ad had=>?_,hbl⟩
 rcases hrow'.2 with ⟨h1,_⟩ | ⟨g',cap',cur,h1,hg,_⟩
 ·simp only [Value.slice.injEq] at h1
  rw [h1.1] at had;cases had
 ·simp only [Value.slice.injEq] at h1
  rw [h1.1] at had
  cases had
  have:(w.alloc (.cells #[.map (some b)] 66)).heap.size = w.heap.size + 1:=(blk1 w _).1
  show w.heap.size ≤ g'
  omega
end Sc
end Go.Proofs.YtlfkhlfkckfbpaaGreat
namespace Go.Proofs.YtlfkhlfkckfbpaaGreat
namespace Sc
open Go.RowKit Bk
attribute [local go_sem ↓] Go.wp_at_zero Go.wp_at_succ
attribute [local go_sem] floatUpon pick
theorem cnt_mono {new:List ByteArray} {i:Nat}:∀ {k:Nat},i ≤ k → k ≤ new.length → cnt new i ≤ cnt new k
 | 0,h,_=>by rw [show i = 0 by omega];exact Nat.le_refl _
 | k + 1,h,hk=>by
  rcases Nat.eq_or_lt_of_le h with e | e
  ·rw [e];exact Nat.le_refl _
  ·have h1:=cnt_mono (new:=new) (i:=i) (k:=k) (by omega) (by omega)
   rw [cnt_succ (show k < new.length by omega)]
   omega
theorem cnt_lt {new:List ByteArray} {i k:Nat} (h:i < k) (hk:k ≤ new.length) (hw:new.getD i nil0 ≠ nil0):cnt new i < cnt new k:=by
 have hi:i < new.length:=by omega
 have h1:=cnt_mono (new:=new) (i:=i + 1) (k:=k) (by omega) hk
 rw [cnt_succ hi,if_neg (by rw [← getD_at hi];exact hw)] at h1
 omega
def crF (D:Dev) (ps:List Int) (j i:Nat):ByteArray:=if cnt D.new i < j then tearF D ps i else D.on.getD i nil0
def crL (D:Dev) (ps:List Int) (j:Nat):List ByteArray:=(List.range D.on.length).map (crF D ps j)
theorem crL_len (D:Dev) (ps:List Int) (j:Nat):(crL D ps j).length = D.on.length:=by simp [crL]
theorem crL_64 {D:Dev} (hok:DevOk D) (ps:List Int) (j:Nat):∀ s ∈ crL D ps j,s.size = 64:=fun s hs=>by
 unfold crL at hs
 obtain ⟨i,hi,rfl⟩:=List.mem_map.1 hs
 rw [List.mem_range] at hi
 unfold crF
 split
 ·exact tear64 hok ps hi
 ·exact hok.on64 _ (getD_mem hi)
theorem crL_start (D:Dev) (ps:List Int):crL D ps 0 = D.on:=by
 refine List.ext_getElem (crL_len D ps 0) fun i h1 h2=>?_
 simp only [crL,List.getElem_map,List.getElem_range]
 unfold crF
 rw [if_neg (by omega),getD_at h2]
theorem tear_calm {D:Dev} {ps:List Int} {i:Nat} (h:D.new.getD i nil0 = nil0):tearF D ps i = D.on.getD i nil0:=by unfold tearF;rw [if_pos h]
theorem crL_end {D:Dev} (hok:DevOk D) (ps:List Int):crL D ps (cnt D.new D.new.length) = upd D.on D.on.length (tearF D ps):=by
 unfold crL upd
 refine List.map_congr_left fun i hi=>?_
 rw [List.mem_range] at hi
 rw [if_pos hi]
 unfold crF
 split
 ·rfl
 next h =>
  have hw:D.new.getD i nil0 = nil0:=Classical.byContradiction fun hw=>h (cnt_lt (by rw [hok.len];exact hi) (Nat.le_refl _) hw)
  rw [tear_calm hw]
theorem crL_at {D:Dev} {ps:List Int} {j i:Nat} (hi:i < D.on.length) (hc:cnt D.new i = j) (h:i < (crL D ps j).length):(crL D ps j)[i] = D.on[i]:=by
 simp only [crL,List.getElem_map,List.getElem_range]
 unfold crF
 rw [if_neg (by omega),getD_at hi]
theorem crL_step {D:Dev} (hok:DevOk D) {ps:List Int} {j i:Nat} (hi:i < D.on.length) (hw:D.new.getD i nil0 ≠ nil0) (hc:cnt D.new i = j) :
  (crL D ps j).set i (torn D.on[i] (D.new.getD i nil0) (ps.getD j 0)) = crL D ps (j + 1):=by
 have hl:=hok.len
 refine List.ext_getElem (by rw [List.length_set,crL_len,crL_len]) fun k h1 h2=>?_
 rw [crL_len] at h2
 rw [List.getElem_set]
 simp only [crL,List.getElem_map,List.getElem_range]
 unfold crF
 by_cases e:i = k
 ·subst e
  rw [if_pos rfl,if_pos (by omega)]
  unfold tearF
  rw [if_neg hw,getD_at hi,hc]
 ·rw [if_neg e]
  by_cases hk:cnt D.new k = j
  ·have hk2:D.new.getD k nil0 = nil0:=Classical.byContradiction fun hk2=>by
    rcases Nat.lt_or_gt_of_ne e with h3 | h3
    ·have:=cnt_lt (new:=D.new) h3 (by omega) hw;omega
    ·have:=cnt_lt (new:=D.new) h3 (by omega) hk2;omega
   rw [if_neg (by omega),if_pos (by omega),tear_calm hk2]
  ·by_cases h3:cnt D.new k < j
   ·rw [if_pos h3,if_pos (by omega)]
   ·rw [if_neg h3,if_neg (by omega)]
theorem copy_part {w:World} {a vb i m:Nat} {l:List ByteArray} {n:ByteArray} (ty:TypeId) (h:Cel w a 99 (onC l)) (h64:∀ s ∈ l,s.size = 64) (hi:i < l.length) (hv:Cel w vb 99 (secC n)) (hn:n.size = 64) (hm:m ≤ 64)
  (t:ByteArray) (ht:secC t = (secC n).take m ++ (secC l[i]).drop m) :
  (Builtin.copy_ #[41,41] ty #[.slice (some ⟨a,i * 64,none⟩) 64 64,.slice (some ⟨vb,0,none⟩) m 64]).run Tryz.prog w = .ok (goInt m) (w.setRow a (onC (l.set i t)).toArray):=by
 obtain ⟨i0,hi0,hz0,hz1,hz2⟩:=info_parts Bk.Tryz.infoU8
 have hinfo:(Tryz.prog.info? 5).map (·.size) = some 1:=by rw [hi0];simp [hz1]
 have hnl:(secC n).length = 64:=by rw [secC_len,hn]
 have hcl:((secC n).take m).length = m:=by rw [List.length_take,hnl];omega
 have hl:=onC_len h64
 have hrun:=run_copy_row Tryz.prog w 41 41 ty 5 a (i * 64) 64 64 ⟨vb,0,none⟩ m 64 (onC l).toArray 99 ((secC n).take m) Tryz.underlying41 hinfo h (by rw [hcl];exact (Nat.min_eq_left hm).symm)
  (fun j v hj=>by
   rw [addr_head]
   refine hv.cell ?_
   have:j < m:=by have:=(List.getElem?_eq_some_iff.1 hj).1;rw [hcl] at this;exact this
   rw [List.getElem?_take_of_lt this] at hj
   exact hj)
  (by rw [hcl,List.size_toArray,hl];omega) (fun v hv=>secC_one n v (List.mem_of_mem_take hv))
 rw [hrun,hcl,List.toList_toArray]
 rw [onC_over h64 hi hcl hm,← ht,← onC_set hi]
section
variable {w w':World} {g a b:Nat} {D:Dev}
theorem ints_row {W:World} {A:Option Addr} {l:List Int} (h:IntsAt W A l) {k:Nat} (hk:∀ ad,A = some ad → ad.block ≠ k) (c:Array Value):IntsAt (W.setRow k c) A l:=fun hp=>by
 obtain ⟨ad,h1,h2,h3⟩:=h hp
 refine ⟨ad,h1,by simpa using h2,fun i hi=>?_⟩
 have e:(W.setRow k c).heap[(ad.add i).block]? = W.heap[(ad.add i).block]?:=by rw [st_block];exact row_far c (hk ad h1)
 rw [show (W.setRow k c).cell? (ad.add i) = W.cell? (ad.add i) from by unfold World.cell?;rw [e]]
 exact h3 i hi
structure CrEnv (w W:World) (g a b:Nat) (A:Option Addr) (D:Dev) (ps:List Int) (j:Nat):Prop where
 d:LAt W g a b ⟨crL D ps j,D.new,D.left,D.down⟩
 f:Fr (LFoot g a b) (LFoot g a b) w W
 ks:IntsAt W A (dirtyK D.new D.new.length)
 an:∀ ad,A = some ad → w.heap.size ≤ ad.block
theorem CrEnv.step {W W':World} {A:Option Addr} {ps:List Int} {j:Nat} (h:CrEnv w W g a b A D ps j) (hb:Below W.heap.size W W'):CrEnv w W' g a b A D ps j :=
 ⟨h.d.step hb,h.f.below hb,h.ks.below hb,h.an⟩
theorem CrEnv.put {W:World} {A:Option Addr} {ps:List Int} {j i:Nat} (hok:DevOk D) (hw0:a < w.heap.size) (hi:i < D.on.length) (hw:D.new.getD i nil0 ≠ nil0) (hc:cnt D.new i = j) (h:CrEnv w W g a b A D ps j) {n:ByteArray} {p:Int} (hn:n = D.new.getD i nil0) (hp:p = ps.getD j 0) :
  CrEnv w (W.setRow a (onC ((crL D ps j).set i (torn D.on[i] n p))).toArray) g a b A D ps (j + 1):=by
 subst hn
 subst hp
 have hd:=h.d.setRow (l:=(crL D ps j).set i (torn D.on[i] (D.new.getD i nil0) (ps.getD j 0))) (by simp)
 refine ⟨?_,h.f.row (.inl lfoot_a) _,ints_row h.ks (fun ad had e=>by have:=h.an ad had;omega) _,h.an⟩
 rw [crL_step hok hi hw hc] at hd ⊢
 exact hd
structure CrMid (w W:World) (g a b vb:Nat) (A:Option Addr) (D:Dev) (ps:List Int) (j:Nat) (n:ByteArray):Prop where
 e:CrEnv w W g a b A D ps j
 c:Cel W vb 99 (secC n)
end
end Sc
end Go.Proofs.YtlfkhlfkckfbpaaGreat
