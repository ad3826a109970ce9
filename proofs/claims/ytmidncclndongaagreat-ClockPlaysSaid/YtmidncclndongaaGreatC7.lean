/- Parts of the proof, joined: ScRep, ScNone, FloatK, ScRef1, ScRef2; their conditions stand with each. -/
import Derived.Lib.Strings
import Derived.Lib.Walk
import Derived.Lib.BufferWrite
import Derived.Lib.Hide
import Derived.Laws.MakeOwn
import Derived.WalkKit
import Derived.Test.YtmidncclndongaaGreatC1
import Derived.Test.YtmidncclndongaaGreatC5

set_option maxRecDepth 20000
set_option maxHeartbeats 8000000
namespace Go.Proofs.YtmidncclndongaaGreat
namespace Sc
open Go.RowKit Bk
structure Fr (F F':Nat → Prop) (w w':World):Prop where
 os:w'.os = w.os
 tape:w'.tape = w.tape
 output:w'.output = w.output
 size:w.heap.size ≤ w'.heap.size
 block:∀ k,k < w.heap.size → ¬ F k → w'.heap[k]? = w.heap[k]?
 foot:∀ k,F' k → F k ∨ w.heap.size ≤ k
theorem Fr.refl (F:Nat → Prop) (w:World):Fr F F w w:=⟨rfl,rfl,rfl,Nat.le_refl _,fun _ _ _=>rfl,fun _ h=>.inl h⟩
theorem Fr.trans {F G H:Nat → Prop} {a b c:World} (h:Fr F G a b) (k:Fr G H b c):Fr F H a c :=
 ⟨k.os.trans h.os,k.tape.trans h.tape,k.output.trans h.output,Nat.le_trans h.size k.size,
  fun i hi hn=>(k.block i (Nat.lt_of_lt_of_le hi h.size) (fun hg=>(h.foot i hg).elim hn (by omega))).trans (h.block i hi hn),
  fun i hi=>(k.foot i hi).elim (fun hg=>h.foot i hg) (fun hs=>.inr (Nat.le_trans h.size hs))⟩
theorem Fr.below {F:Nat → Prop} {a b c:World} {G:Nat → Prop} (h:Fr F G a b) (k:Below b.heap.size b c):Fr F G a c :=
 ⟨k.os.trans h.os,k.tape.trans h.tape,k.output.trans h.output,Nat.le_trans h.size k.size,
  fun i hi hn=>(k.block i (Nat.lt_of_lt_of_le hi h.size)).trans (h.block i hi hn),h.foot⟩
theorem Fr.set {F G:Nat → Prop} {a b:World} (h:Fr F G a b) {p:Addr} (hp:F p.block) (v:Value):Fr F G a (b.setCell p v) :=
 ⟨h.os,h.tape,h.output,by simpa [World.setCell] using h.size,fun i hi hn=>(Below.heap_setCell b p v i (fun e=>hn (by rw [e];exact hp))).trans (h.block i hi hn),h.foot⟩
theorem Fr.belowB {F G:Nat → Prop} {a b:World} {B:Nat} (h:Fr F G a b) (hF:∀ k,F k → B ≤ k) (hB:B ≤ a.heap.size):Below B a b :=
 ⟨h.os,h.tape,h.output,h.size,fun k hk=>h.block k (by omega) (fun hf=>by have:=hF k hf;omega)⟩
theorem strV_get {l:List ByteArray} {sp:List Value} {i:Nat} (h:i < l.length):(strV l ++ sp)[i]? = some (.string l[i]):=by
 rw [List.getElem?_append_left (by rw [strV_len];exact h)]
 exact strV_at h
theorem strV_set {l:List ByteArray} {sp:List Value} {i:Nat} (t:ByteArray) (h:i < l.length):(strV l ++ sp).set i (.string t) = strV (l.set i t) ++ sp:=by
 rw [List.set_append_left _ _ (by rw [strV_len];exact h)]
 congr 1
 unfold strV
 rw [List.map_set]
structure RAt (w:World) (g:Nat) (ao an:Addr) (co cn:Nat) (so sn:List Value) (D:Dev):Prop where
 cel:Cel w g 56 [.slice (some ao) D.on.length co,.slice (some an) D.new.length cn,.int .i64 (D.left:Int),.bool D.down]
 o0:ao = ⟨ao.block,0,none⟩
 n0:an = ⟨an.block,0,none⟩
 ro:Cel w ao.block 9 (strV D.on ++ so)
 rn:Cel w an.block 9 (strV D.new ++ sn)
 d1:g ≠ ao.block
 d2:g ≠ an.block
 d3:ao.block ≠ an.block
def RFoot (g:Nat) (ao an:Addr):Nat → Prop:=fun k=>k = g ∨ k = ao.block ∨ k = an.block
section
variable {w w':World} {g:Nat} {ao an:Addr} {co cn:Nat} {so sn:List Value} {D:Dev}
theorem RAt.lt (h:RAt w g ao an co cn so sn D):∀ k,RFoot g ao an k → k < w.heap.size:=fun k hk=>by
 rcases hk with rfl | rfl | rfl
 ·exact h.cel.lt
 ·exact h.ro.lt
 ·exact h.rn.lt
theorem RAt.kept (h:RAt w g ao an co cn so sn D) (hk:∀ k,RFoot g ao an k → w'.heap[k]? = w.heap[k]?):RAt w' g ao an co cn so sn D :=
 ⟨(hk g (.inl rfl)).trans h.cel,h.o0,h.n0,(hk _ (.inr (.inl rfl))).trans h.ro,(hk _ (.inr (.inr rfl))).trans h.rn,h.d1,h.d2,h.d3⟩
theorem RAt.step (h:RAt w g ao an co cn so sn D) (hb:Below w.heap.size w w'):RAt w' g ao an co cn so sn D:=h.kept fun k hk=>hb.block k (h.lt k hk)
theorem at_add (h:ao = ⟨ao.block,0,none⟩) (i:Nat):ao.add i = ⟨ao.block,i,none⟩:=by
 rw [h];exact addr_head _ _
theorem RAt.readO (h:RAt w g ao an co cn so sn D) {i:Nat} (hi:i < D.on.length):w.cell? (ao.add i) = some (.string D.on[i]):=by
 rw [at_add h.o0];exact h.ro.cell (strV_get hi)
theorem RAt.readN (h:RAt w g ao an co cn so sn D) {i:Nat} (hi:i < D.new.length):w.cell? (an.add i) = some (.string D.new[i]):=by
 rw [at_add h.n0];exact h.rn.cell (strV_get hi)
theorem RAt.freeO (h:RAt w g ao an co cn so sn D) (i:Nat):w.frozen? (ao.add i) = false:=by
 rw [at_add h.o0];exact h.ro.free
theorem RAt.freeN (h:RAt w g ao an co cn so sn D) (i:Nat):w.frozen? (an.add i) = false:=by
 rw [at_add h.n0];exact h.rn.free
theorem RAt.setO (h:RAt w g ao an co cn so sn D) {i:Nat} (hi:i < D.on.length) (t:ByteArray):RAt (w.setCell (ao.add i) (.string t)) g ao an co cn so sn ⟨D.on.set i t,D.new,D.left,D.down⟩:=by
 rw [at_add h.o0]
 refine ⟨?_,h.o0,h.n0,?_,h.rn.far (Ne.symm h.d3),h.d1,h.d2,h.d3⟩
 ·show Cel _ g _ [.slice (some ao) (D.on.set i t).length co,_,_,_]
  rw [List.length_set]
  exact h.cel.far h.d1
 ·have:=h.ro.set (i:=i) (v:=.string t)
  rwa [strV_set t hi] at this
theorem RAt.setN (h:RAt w g ao an co cn so sn D) {i:Nat} (hi:i < D.new.length) (t:ByteArray):RAt (w.setCell (an.add i) (.string t)) g ao an co cn so sn ⟨D.on,D.new.set i t,D.left,D.down⟩:=by
 rw [at_add h.n0]
 refine ⟨?_,h.o0,h.n0,h.ro.far h.d3,?_,h.d1,h.d2,h.d3⟩
 ·show Cel _ g _ [_,.slice (some an) (D.new.set i t).length cn,_,_]
  rw [List.length_set]
  exact h.cel.far h.d2
 ·have:=h.rn.set (i:=i) (v:=.string t)
  rwa [strV_set t hi] at this
theorem RAt.setLeft (h:RAt w g ao an co cn so sn D) (n:Nat):RAt (w.setCell ⟨g,2,none⟩ (.int .i64 (n:Int))) g ao an co cn so sn ⟨D.on,D.new,n,D.down⟩ :=
 ⟨h.cel.set,h.o0,h.n0,h.ro.far (Ne.symm h.d1),h.rn.far (Ne.symm h.d2),h.d1,h.d2,h.d3⟩
theorem RAt.setDown (h:RAt w g ao an co cn so sn D) (b:Bool):RAt (w.setCell ⟨g,3,none⟩ (.bool b)) g ao an co cn so sn ⟨D.on,D.new,D.left,b⟩ :=
 ⟨h.cel.set,h.o0,h.n0,h.ro.far (Ne.symm h.d1),h.rn.far (Ne.symm h.d2),h.d1,h.d2,h.d3⟩
theorem foot_g:RFoot g ao an g:=.inl rfl
theorem foot_o (i:Nat):RFoot g ao an (ao.add i).block:=by rw [st_block];exact .inr (.inl rfl)
theorem foot_n (i:Nat):RFoot g ao an (an.add i).block:=by rw [st_block];exact .inr (.inr rfl)
end
theorem zeros_cells:Lib.byteCells (List.replicate 64 (0:UInt8)) = List.replicate 64 (Value.int .u8 0):=by
 unfold Lib.byteCells
 rw [List.map_replicate];rfl
theorem back_of {w:World} {g:Nat} {l:List UInt8} (h:w.heap[g]? = some (.cells (Lib.byteCells l).toArray 5 (0,0))) (hl:l.length = 64) :
  (convert 119 9 (.slice (some ⟨g,0,none⟩) 64 64)).run Tryz.prog w = .ok (.string ⟨l.toArray⟩) w:=by
 have:=run_convert_bytes_back (P:=Tryz.prog) w 119 9 5 ⟨g,0,none⟩ 64 l Tryz.underlying119 Tryz.underlying5 Tryz.underlying9 (fun j hj=>by
  rw [addr_head]
  refine blk_cell h ?_
  rw [List.getElem?_toArray]
  unfold Lib.byteCells
  rw [List.getElem?_map,List.getElem?_eq_getElem hj];rfl)
 rwa [hl] at this
theorem make_64 (W:World):(Instr.makeSlice 119 (.int .i64 64) (.int .i64 64)).run Tryz.prog W = .ok (.slice (some ⟨W.heap.size,0,none⟩) 64 64) (W.alloc (.cells (Lib.byteCells (List.replicate 64 (0:UInt8))).toArray 5)):=by
 obtain ⟨i0,hi,hz0,hz1,hz2⟩:=info_parts Bk.Tryz.infoU8
 have h:=run_make (P:=Tryz.prog) W 119 5 i0 (.int .u8 0) Tryz.underlying119 hi hz0 .i64 .i64 64 64 (by omega) (by omega) (by rw [hz2];omega) (by omega)
 rw [h,hz1]
 congr 3
 kernel_rfl
theorem none_any (w:World) :
  Calls Tryz.prog 35 #[] w fun e w'=>e = .returned (.string zero64) ∧ Below w.heap.size w w':=by
 have hmk:=make_64
 have hcv:=back_of (w:=w.alloc (.cells (Lib.byteCells (List.replicate 64 (0:UInt8))).toArray 5)) (heap_alloc_new w _) (by simp)
 have HB:=Lib.hid ((Below.refl _ w).alloc (Nat.le_refl _) (.cells (Lib.byteCells (List.replicate 64 (0:UInt8))).toArray 5))
 have HZ:Hid ((⟨(List.replicate 64 (0:UInt8)).toArray⟩:ByteArray) = zero64):=Lib.hid rfl
 generalize (⟨(List.replicate 64 (0:UInt8)).toArray⟩:ByteArray) = z at hcv HZ
 generalize (Lib.byteCells (List.replicate 64 (0:UInt8))).toArray = M at hmk hcv HB
 go_enter Tryz.func35,Tryz.ntmps35
 go_wp2_with fail
 go_ret
 exact ⟨by rw [← HZ.out];rfl,HB.out⟩
end Sc
end Go.Proofs.YtmidncclndongaaGreat
namespace Go.Proofs.YtmidncclndongaaGreat
open Go.RowKit
section
variable {P:Program} {ops:Array Oper} {md:Region.Mode}
def floatStepsK (K:World → World → Prop) (P:Program) (md:Region.Mode) (ops:Array Oper) (A:Nat → Bool) (G:Nat → Value → World → Prop) (I:World → Prop) (F:(Nat → Value) → Act):List Oper → Nat → Prop
 | [],_=>True
 | o :: r,i =>
  (∀ vs W,I W → (∀ j ∈ depsOf md o,G j (vs j) W) → ∀ R:Value → World → Prop,
   (∀ v W',G i v W' → K W W' → (A i = true → v = .pointer (some ⟨W.heap.size,0,none⟩)) → R v W') →
   if Region.wanted o (yielded ops (F vs).tmps) then floatOp P o (F vs) W R else R undef W) ∧
  floatStepsK K P md ops A G I F r (i + 1)
theorem floatStepsK_get {K:World → World → Prop} {A:Nat → Bool} {G:Nat → Value → World → Prop} {I:World → Prop} {F:(Nat → Value) → Act}:∀ (l:List Oper) (k i:Nat) (o:Oper),floatStepsK K P md ops A G I F l k → l[i]? = some o →
  ∀ vs W,I W → (∀ j ∈ depsOf md o,G j (vs j) W) → ∀ R:Value → World → Prop,
   (∀ v W',G (k + i) v W' → K W W' → (A (k + i) = true → v = .pointer (some ⟨W.heap.size,0,none⟩)) → R v W') →
   if Region.wanted o (yielded ops (F vs).tmps) then floatOp P o (F vs) W R else R undef W
 | [],_,_,_,_,h=>by simp at h
 | p :: r,k,0,o,hs,h=>by
  obtain rfl:p = o:=by simpa using h
  exact hs.1
 | p :: r,k,i + 1,o,hs,h=>by
  have:=floatStepsK_get r (k + 1) i o hs.2 (by simpa using h)
  rw [show k + 1 + i = k + (i + 1) by omega] at this
  exact this
theorem wp_floatK {K:World → World → Prop} {A:Nat → Bool} {G:Nat → Value → World → Prop} {I:World → Prop} {Q:Exit → Act → World → Prop} {a:Act} (n:Nat) (hB:floatB md ops n = true)
  (hG:∀ i v W W',G i v W → K W W' → G i v W')
  (hA:∀ i v W,A i = true → G i v W → ∃ p,v = .pointer (some ⟨p,0,none⟩) ∧ p < W.heap.size)
  (hI:∀ W W',I W → K W W' → I W')
  (hs:floatStepsK K P md ops A G I (fun vs=>putAll vs (ops.toList.take n) 0 a) (ops.toList.take n) 0)
  (hl:∀ vs W,I W → (∀ j,j < n → G j (vs j) W) → (∀ i j,i < n → j < n → A i = true → A j = true → i ≠ j → vs i ≠ vs j) →
   wpList P ops Q (ops.toList.drop n) (putAll vs (ops.toList.take n) 0 a) W) :
  ∀ (fuel:Nat) (ls:Array Bool) (vs:Nat → Value) (W:World),ls.toList.count false = fuel → HeadInv md ops n ls → I W →
   (∀ j,j < n → ls.getD j false = true → G j (vs j) W) →
   (∀ i j,i < n → j < n → ls.getD i false = true → ls.getD j false = true → A i = true → A j = true → i ≠ j → vs i ≠ vs j) →
   wpAny P md ops Q fuel ls (putAll vs (ops.toList.take n) 0 a) W:=by
 simp only [floatB,Bool.and_eq_true,Bool.or_eq_true,decide_eq_true_eq] at hB
 obtain ⟨⟨⟨⟨hn,hc⟩,hsl⟩,hd⟩,hseq⟩:=hB
 intro fuel
 induction fuel with
 | zero =>
  intro ls vs W hcount inv hi hg hdist
  have hall:∀ j,j < ops.size → ls.getD j false = true:=fun j hj=>by
   have hjs:j < ls.size:=by rw [inv.size];exact hj
   cases hb:ls[j] with
   | true=>simp [hjs,hb]
   | false=>exact absurd (List.count_pos_iff.2 (by rw [← hb];exact Array.mem_toList_iff.2 (Array.getElem_mem hjs)):0 < ls.toList.count false) (by omega)
  have hne:n = ops.size:=by
   rcases Nat.lt_or_ge n ops.size with h | h
   ·have h1:=inv.tail n (Nat.le_refl _) h
    have h2:=hall n h
    rw [getD_both h1] at h2
    cases h2
   ·omega
  subst hne
  refine ⟨?_,?_⟩
  ·refine List.eq_nil_iff_forall_not_mem.2 fun i hi=>?_
   obtain ⟨h0,o,ho,_⟩:=mem_ready.1 hi
   have:=hall i (Array.getElem?_eq_some_iff.1 ho).1
   rw [getD_both h0] at this
   cases this
  ·have:=hl vs W hi (fun j hj=>hg j hj (hall j hj)) (fun i j hi hj=>hdist i j hi hj (hall i hi) (hall j hj))
   rw [List.drop_of_length_le (by simp)] at this
   exact this
 | succ fuel ih =>
  intro ls vs W hcount inv hi hg hdist
  by_cases hall:∀ j,j < n → ls.getD j false = true
  ·have hlist:ls = (List.replicate n true ++ List.replicate (ops.size - n) false).toArray:=by
    apply Array.ext_getElem?
    intro j
    simp only [List.getElem?_toArray]
    rw [List.getElem?_append,List.length_replicate]
    by_cases h1:j < n
    ·have h2:=hall j h1
     have hjs:j < ls.size:=by rw [inv.size];omega
     rw [if_pos h1,List.getElem?_replicate,if_pos h1]
     simp only [Array.getD_eq_getD_getElem?,hjs,getElem?_pos,Option.getD_some] at h2 ⊢
     rw [h2]
    ·rw [if_neg h1,List.getElem?_replicate]
     by_cases h2:j < ops.size
     ·have h3:=inv.tail j (by omega) h2
      have hjs:j < ls.size:=by rw [inv.size];omega
      rw [if_pos (by omega)]
      simp only [Array.getD_eq_getD_getElem?,hjs,getElem?_pos,Option.getD_some] at h3 ⊢
      rw [h3]
     ·rw [if_neg (by omega),Array.getElem?_eq_none (by rw [inv.size];omega)]
   have hfuel:fuel + 1 = (ops.toList.drop n).length:=by
    rw [← hcount,hlist]
    simp [List.count_append,List.count_replicate]
   rw [hfuel]
   refine wpAny_of_seq (ops.toList.drop n) n ls _ W (fun j=>by simp [List.getElem?_drop]) ?_ (hl vs W hi (fun j hj=>hg j hj (hall j hj)) (fun i j hi hj=>hdist i j hi hj (hall i hi) (hall j hj)))
   rw [hlist,show (ops.toList.drop n).length = ops.size - n by simp]
   exact hseq
  ·
   have hleast:∃ i,i < n ∧ ls.getD i false = false ∧ ∀ j,j < i → ls.getD j false = true:=by
    have:∀ k,(∀ j,j < k → ls.getD j false = true) ∨ ∃ i,i < k ∧ ls.getD i false = false ∧ ∀ j,j < i → ls.getD j false = true:=by
     intro k
     induction k with
     | zero=>exact .inl fun j hj=>absurd hj (by omega)
     | succ k ihk =>
      rcases ihk with h | ⟨i,h1,h2,h3⟩
      ·cases hk:ls.getD k false with
       | true =>
        left
        intro j hj
        rcases Nat.lt_or_ge j k with h' | h'
        ·exact h j h'
        ·obtain rfl:j = k:=by omega
         exact hk
       | false=>exact .inr ⟨k,by omega,hk,h⟩
      ·exact .inr ⟨i,by omega,h2,h3⟩
    rcases this n with h | h
    ·exact absurd h hall
    ·exact h
   obtain ⟨i0,hi0,hi0f,hi0l⟩:=hleast
   have hdeps:∀ i o,i < n → ops[i]? = some o → ∀ e ∈ o.after,Region.binds md e = true → e.on < i:=fun i o hi ho e he hb=>by
    have h1:=List.all_eq_true.1 hd i (List.mem_range.2 hi)
    simp only [ho,Option.map_some,Option.getD_some,List.all_eq_true,decide_eq_true_eq] at h1
    exact h1 e.on (List.mem_map.2 ⟨e,List.mem_filter.2 ⟨by simpa using he,hb⟩,rfl⟩)
   have hi0s:i0 < ls.size:=by rw [inv.size];omega
   have hready0:i0 ∈ Region.ready md ops ls:=by
    refine mem_ready.2 ⟨getD_in hi0s hi0f,ops[i0]'(by omega),by simp [show i0 < ops.size by omega],fun e he hb=>?_⟩
    exact hi0l _ (hdeps i0 _ hi0 (by simp [show i0 < ops.size by omega]) e he hb)
   refine ⟨fun h=>absurd hready0 (by rw [h];simp),fun i hir=>?_⟩
   obtain ⟨hun,o,ho,hafter⟩:=mem_ready.1 hir
   have hio:i < ops.size:=(Array.getElem?_eq_some_iff.1 ho).1
   have hin:i < n:=by
    rcases Nat.lt_or_ge i n with h | h
    ·exact h
    ·rcases hc with h' | ⟨h1,h2⟩
     ·omega
     ·exact absurd hir (tail_waits h1 h2 (by omega) inv (n - i0) i0 rfl hi0 (getD_in hi0s hi0f) i h)
   have his:i < ls.size:=by rw [inv.size];omega
   have hget:(ops.toList.take n)[i]? = some o:=by
    rw [List.getElem?_take,if_pos hin]
    simpa using ho
   have hcount':(ls.setIfInBounds i true).toList.count false = fuel:=by
    have h1:ls.toList[i]? = some false:=by
     have:=hun
     simp only [Array.getD_eq_getD_getElem?,his,getElem?_pos,Option.getD_some] at this
     simp [his,this]
    have:=count_set_true h1
    rw [Array.toList_setIfInBounds]
    omega
   have hstep:=floatStepsK_get (ops.toList.take n) 0 i o hs hget vs W hi
    (fun j hj=>by
     obtain ⟨e,he,rfl⟩:=List.mem_map.1 hj
     obtain ⟨he1,he2⟩:=List.mem_filter.1 he
     have he1':e ∈ o.after:=by simpa using he1
     exact hg _ (by have:=hdeps i o hin ho e he1' he2;omega) (hafter e he1' he2))
    (fun v W'=>wpAny P md ops Q fuel (ls.setIfInBounds i true) ((putAll vs (ops.toList.take n) 0 a).put o.dst v) W')
    (fun v W' hgv hb hav=>by
     rw [Nat.zero_add] at hgv hav
     rw [putAll_set vs v _ 0 i a o hsl hget]
     refine ih (ls.setIfInBounds i true) _ W' hcount' (inv.set hir hin) (hI _ _ hi hb) (fun j hj hlj=>?_) (fun j k hj hk hlj hlk haj hak hjk=>?_)
     ·show G j (if j = 0 + i then v else vs j) W'
      by_cases hji:j = i
      ·subst hji
       rw [if_pos (by omega)];exact hgv
      ·rw [if_neg (by omega)]
       exact hG _ _ _ _ (hg j hj (by rw [getD_set_ne false (Ne.symm hji)] at hlj;exact hlj)) hb
     ·have old:∀ x,x < n → x ≠ i → (ls.setIfInBounds i true).getD x false = true → A x = true → ∀ q,v = .pointer (some ⟨q,0,none⟩) → q = W.heap.size → vs x ≠ v:=fun x hx hxi hlx hax q hv hq hne=>by
       obtain ⟨p,hp,hlt⟩:=hA x (vs x) W hax (hg x hx (by rw [getD_set_ne false (Ne.symm hxi)] at hlx;exact hlx))
       rw [hp,hv] at hne
       simp only [Value.pointer.injEq,Option.some.injEq,Addr.mk.injEq,and_true] at hne
       omega
      show (if j = 0 + i then v else vs j) ≠ (if k = 0 + i then v else vs k)
      by_cases hji:j = i
      ·subst hji
       rw [if_pos (by omega),if_neg (by omega)]
       exact Ne.symm (old k hk (Ne.symm hjk) hlk hak _ (hav haj) rfl)
      ·rw [if_neg (by omega)]
       by_cases hki:k = i
       ·subst hki
        rw [if_pos (by omega)]
        exact old j hj hji hlj haj _ (hav hak) rfl
       ·rw [if_neg (by omega)]
        exact hdist j k hj hk (by rw [getD_set_ne false (Ne.symm hji)] at hlj;exact hlj) (by rw [getD_set_ne false (Ne.symm hki)] at hlk;exact hlk) haj hak hjk)
   unfold wpOp
   simp only [ho]
   split
   ·rename_i hw
    rw [if_pos hw] at hstep
    exact .inl (floatOp_wp hstep fun _ _ h=>h)
   ·rename_i hw
    rw [if_neg hw] at hstep
    exact hstep
theorem wp_region_floatK {K:World → World → Prop} {id:Nat} {Q:Exit → Act → World → Prop} {a:Act} {w:World} {l:List Oper} (n:Nat) (A:Nat → Bool) (G:Nat → Value → World → Prop) (I:World → Prop)
  (hm:P.follows .mixedOrders = true) (hB:floatB .any l.toArray n = true)
  (hG:∀ i v W W',G i v W → K W W' → G i v W')
  (hA:∀ i v W,A i = true → G i v W → ∃ p,v = .pointer (some ⟨p,0,none⟩) ∧ p < W.heap.size)
  (hI:∀ W W',I W → K W W' → I W') (hKd:∀ W,K W W.drew) (hI0:I w)
  (hs:floatStepsK K P .any l.toArray A G I (fun vs=>putAll vs (l.take n) 0 a) (l.take n) 0)
  (hl:∀ vs W,I W → (∀ j,j < n → G j (vs j) W) → (∀ i j,i < n → j < n → A i = true → A j = true → i ≠ j → vs i ≠ vs j) →
   wpList P l.toArray Q (l.drop n) (putAll vs (l.take n) 0 a) W):(Code.region id l.toArray true).wp P Q a w:=by
 refine wp_region_any hm ?_
 obtain ⟨vs,hvs⟩:=putAll_self a (l.take n) 0
 have:=wp_floatK (K:=K) (md:=.any) (ops:=l.toArray) (Q:=Q) (a:=a) n hB hG hA hI hs hl l.toArray.size (Array.replicate l.toArray.size false) vs w.drew (by simp)
  ⟨by simp,fun _ _ _ z=>(by rw [getD_replicate_false] at z;cases z),fun t _ z=>getD_in (by simpa using z) (getD_replicate_false _ _)⟩
  (hI _ _ hI0 (hKd w)) (fun j _ z=>(by rw [getD_replicate_false] at z;cases z)) (fun i j _ _ z=>(by rw [getD_replicate_false] at z;cases z))
 rw [show putAll vs (List.take n l.toArray.toList) 0 a = a from hvs] at this
 exact this
def satK (L:List (Value → World → Prop)) (i:Nat):Value → World → Prop:=L.getD i fun _ _=>True
def FloatStepK (P:Program) (K:World → World → Prop) (L:List (Value → World → Prop)) (ds:List Nat) (I:World → Prop) (a:Act) (i:Nat) (o:Oper):Prop :=
 ∀ (vs:Nat → Value) (W:World) (ρ:Operand → Value),(∀ t,ρ (.tmp t) = pick vs ds 0 t (a.eval (.tmp t))) → (∀ v,ρ (.const v) = v) → (∀ f,ρ (.func f) = .func (.func f) #[] #[]) → (∀ g,ρ (.global g) = .pointer (some ⟨g,0,none⟩)) →
  I W → (∀ j ∈ depsOf .any o,satK L j (vs j) W) → ∀ R:Value → World → Prop,
  (∀ v W',satK L i v W' → K W W' → R v W') →
  if Region.wanted o (fun j=>boolOf (vs j)) then floatUpon P R ((execOp ρ o).run P W) else R undef W
def FloatAllK (P:Program) (K:World → World → Prop) (L:List (Value → World → Prop)) (ds:List Nat) (I:World → Prop) (a:Act):List Oper → Nat → Prop
 | [],_=>True
 | o :: r,i=>FloatStepK P K L ds I a i o ∧ FloatAllK P K L ds I a r (i + 1)
theorem wp_region_saidK {id:Nat} {Q:Exit → Act → World → Prop} {a:Act} {w:World} {l:List Oper} (n:Nat) (ds:List Nat) (L:List (Value → World → Prop)) (I:World → Prop) (K:World → World → Prop)
  (hm:P.follows .mixedOrders = true) (hB:floatB .any l.toArray n = true) (hds:slotsAre ds (l.take n) = true) (hsz:ds.all (· < a.tmps.size) = true) (hgd:guardsB n (l.take n) = true)
  (hL:∀ i v W W',satK L i v W → K W W' → satK L i v W') (hI:∀ W W',I W → K W W' → I W') (hKd:∀ W,K W W.drew) (hI0:I w)
  (hs:FloatAllK P K L ds I a (l.take n) 0)
  (hl:∀ vs W,I W → (∀ j,j < n → satK L j (vs j) W) → wpList P l.toArray Q (l.drop n) (putAll vs (l.take n) 0 a) W):(Code.region id l.toArray true).wp P Q a w:=by
 have hsz':∀ d ∈ ds,d < a.tmps.size:=fun d hd=>by simpa using List.all_eq_true.1 hsz d hd
 have hyield:∀ vs i o,(l.take n)[i]? = some o → Region.wanted o (yielded l.toArray (putAll vs (l.take n) 0 a).tmps) = Region.wanted o (fun j=>boolOf (vs j)):=fun vs i o ho=>by
  unfold Region.wanted
  cases hg:o.guard with
  | none=>rfl
  | some gw =>
   obtain ⟨g,want⟩:=gw
   have hgn:g < n:=by
    have:=List.all_eq_true.1 hgd o (List.mem_of_getElem? ho)
    simpa [hg] using this
   have hn:n ≤ l.length:=by
    simp only [floatB,Bool.and_eq_true,decide_eq_true_eq] at hB
    simpa using hB.1.1.1.1
   have hgl:(l.take n)[g]? = some (l[g]'(by omega)):=by rw [List.getElem?_take,if_pos hgn];simp [show g < l.length by omega]
   obtain ⟨d,hd1,hd2⟩:=slots_nth ds (l.take n) g _ hds hgl
   have h1:(putAll vs (l.take n) 0 a).eval (.tmp d) = vs g:=by
    rw [putAll_pick vs d (l.take n) ds 0 a hds hsz',pick_nth ds (l.take n) 0 g d _ hds hd1,Nat.zero_add]
   have h2:d < (putAll vs (l.take n) 0 a).tmps.size:=by rw [putAll_size];exact hsz' d (List.mem_of_getElem? hd1)
   have h3:(putAll vs (l.take n) 0 a).tmps[d]? = some (vs g):=by
    simp only [Act.eval,Array.getD_eq_getD_getElem?,h2,getElem?_pos,Option.getD_some] at h1
    rw [Array.getElem?_eq_getElem h2,h1]
   have h4:(l.toArray[g]?).bind (·.dst) = some d:=by
    simp [show g < l.length by omega,hd2]
   have:yielded l.toArray (putAll vs (l.take n) 0 a).tmps g = boolOf (vs g):=by
    unfold yielded
    rw [h4,Option.bind_some,h3]
    cases vs g <;> rfl
   simp only [this]
 refine wp_region_floatK (K:=K) n (fun _=>false) (fun i v W=>satK L i v W) I hm hB hL (fun i v W h=>by cases h) hI hKd hI0 ?_ (fun vs W h hg _=>hl vs W h hg)
 have:∀ (m:List Oper) (k:Nat),(∀ i o,m[i]? = some o → (l.take n)[k + i]? = some o) → FloatAllK P K L ds I a m k →
   floatStepsK K P .any l.toArray (fun _=>false) (fun i v W=>satK L i v W) I (fun vs=>putAll vs (l.take n) 0 a) m k:=by
  intro m
  induction m with
  | nil=>intro _ _ _;trivial
  | cons o r ih =>
   intro k hk h
   refine ⟨fun vs W hi hdep R hR=>?_,ih (k + 1) (fun i o' ho'=>by have:=hk (i + 1) o' (by simpa using ho');rw [show k + (i + 1) = k + 1 + i by omega] at this;exact this) h.2⟩
   have hstep:=h.1 vs W (putAll vs (l.take n) 0 a).eval (fun t=>putAll_pick vs t (l.take n) ds 0 a hds hsz') (fun _=>rfl) (fun _=>rfl) (fun _=>rfl) hi hdep R (fun v W' h1 h2=>hR v W' h1 h2 (fun h=>by cases h))
   rw [hyield vs k o (by have:=hk 0 o (by simp);simpa using this)]
   exact hstep
 exact this (l.take n) 0 (fun i o h=>by rw [Nat.zero_add];exact h) hs
end
end Go.Proofs.YtmidncclndongaaGreat
namespace Go.Proofs.YtmidncclndongaaGreat
namespace Sc
open Go.RowKit Bk
attribute [local go_sem ↓] Go.wp_at_zero Go.wp_at_succ
attribute [local go_sem] floatUpon pick
section
variable {w:World} {g:Nat} {ao an:Addr} {co cn:Nat} {so sn:List Value} {D:Dev}
theorem rread_any (h:RAt w g ao an co cn so sn D) (hok:DevOk D) (i:Int) :
  Calls Tryz.prog 21 #[.pointer (some ⟨g,0,none⟩),.int .i64 i] w fun e w'=>e = .returned (.tuple #[.string (rdV D i).1,.int .i64 (rdV D i).2]) ∧ w' = w:=by
 have k0:=h.cel.cell (i:=0) rfl
 have k1:=h.cel.cell (i:=1) rfl
 have k3:=h.cel.cell (i:=3) rfl
 have pl:(D.on.length:Int) ≤ 2048:=by have:=hok.max;omega
 have hln:=hok.len
 by_cases hd:D.down = true
 ·rw [hd] at k3
  have E:=Lib.hid (show rdV D i = (nil0,90) from by unfold rdV;rw [if_pos hd])
  clear hd h hok hln
  go_enter Tryz.func21,Tryz.ntmps21
  go_wp2_with fail
  go_ret2
  exact ⟨by rw [E.out];rfl,rfl⟩
 have hd':D.down = false:=by simpa using hd
 rw [hd'] at k3
 by_cases h0:i < 0
 ·have E:=Lib.hid (show rdV D i = (nil0,1) from by unfold rdV;rw [if_neg hd,if_pos (.inl h0)])
  clear hd h hok hln hd'
  go_enter Tryz.func21,Tryz.ntmps21
  go_wp2_with fail
  go_ret2
  exact ⟨by rw [E.out];rfl,rfl⟩
 by_cases h1:(D.on.length:Int) ≤ i
 ·have E:=Lib.hid (show rdV D i = (nil0,1) from by unfold rdV;rw [if_neg hd,if_pos (.inr h1)])
  clear hd h hok hln hd'
  go_enter Tryz.func21,Tryz.ntmps21
  go_wp2_with fail
  go_ret2
  exact ⟨by rw [E.out];rfl,rfl⟩
 obtain ⟨j,rfl⟩:∃ j:Nat,i = (j:Int):=⟨i.toNat,by omega⟩
 have hj:j < D.on.length:=by omega
 have hj2:j < D.new.length:=by omega
 have pj:(j:Int) < (D.on.length:Int):=by omega
 have pj2:(j:Int) < (D.new.length:Int):=by omega
 have x0:=h.readO hj
 have x1:=h.readN hj2
 have hr:rdV D (j:Int) = (if D.new.getD j nil0 = nil0 then D.on.getD j nil0 else D.new.getD j nil0,0):=by
  unfold rdV
  rw [if_neg hd,if_neg (by omega),Int.toNat_natCast]
 rw [getD_at hj,getD_at hj2] at hr
 generalize D.on[j] = o at x0 hr
 generalize D.new[j] = n at x1 hr
 clear hd hd' h hok h0 h1
 by_cases hn:n = nil0
 ·subst hn
  have E:=Lib.hid (show rdV D (j:Int) = (o,0) from by rw [hr,if_pos rfl])
  have t0:=text_eq nil0
  unfold nil0 at t0 x1
  clear hr
  go_enter Tryz.func21,Tryz.ntmps21
  go_wp2_with fail
  go_ret2
  exact ⟨by rw [E.out];rfl,rfl⟩
 ·have E:=Lib.hid (show rdV D (j:Int) = (n,0) from by rw [hr,if_neg hn])
  have t0:=text_ne hn
  have t1:¬ n.toList = []:=fun h=>hn (by
   rw [ByteArray.toList_eq] at h
   obtain ⟨a⟩:=n
   unfold nil0
   congr 1
   exact Array.toList_inj.1 h)
  have t2:n.toList.isEmpty = false:=by rw [List.isEmpty_eq_false_iff];exact t1
  unfold nil0 at t0
  clear hr hn
  go_enter Tryz.func21,Tryz.ntmps21
  go_wp2_with fail
  go_ret2
  exact ⟨by rw [E.out];rfl,rfl⟩
theorem rburns_any (h:RAt w g ao an co cn so sn D) (hok:DevOk D) :
  Calls Tryz.prog 203 #[.pointer (some ⟨g,0,none⟩)] w fun e w'=>e = .returned (.bool (burn D).2) ∧ RAt w' g ao an co cn so sn (burn D).1 ∧ Fr (RFoot g ao an) (RFoot g ao an) w w':=by
 have k2:=h.cel.cell (i:=2) rfl
 have hlf:=hok.lft
 by_cases h0:D.left = 0
 ·rw [h0] at k2
  have E:=Lib.hid (show burn D = (D,false) from by unfold burn;rw [if_pos h0])
  have H:=Lib.hid h
  clear h h0 hok hlf
  go_enter Tryz.func203,Tryz.ntmps203
  go_wp2_with fail
  go_ret
  exact ⟨by rw [E.out];rfl,by rw [E.out];exact H.out,Fr.refl _ _⟩
 ·obtain ⟨m,hm⟩:∃ m,D.left = m + 1:=⟨D.left - 1,by omega⟩
  have E:=Lib.hid (show burn D = (⟨D.on,D.new,m,D.left == 1⟩,D.left == 1) from by unfold burn;rw [if_neg h0,hm,Nat.add_sub_cancel])
  rw [hm] at E
  have e1:(m + 1 == 1) = ((m:Int) == 0):=by rw [Bool.eq_iff_iff];simp
  rw [e1] at E
  have kq:=fun i=>h.cel.free (i:=i)
  have hA:=h.setLeft m
  have hF:=(Fr.refl (RFoot g ao an) w).set (p:=⟨g,2,none⟩) foot_g (.int .i64 (m:Int))
  rw [hm] at k2
  have k2':w.cell? ⟨g,2,none⟩ = some (.int .i64 ((m:Int) + 1)):=by rw [k2];rfl
  have pm:(m:Int) < 1048576:=by omega
  have w1:IntKind.i64.wrap ((m:Int) + 1 - 1) = (m:Int):=by rw [Int.add_sub_cancel];exact i64_wrap (by omega) (by omega)
  have w2:(m:Int) + 1 - 1 = (m:Int):=by omega
  have q0:((m:Int) + 1 == 0) = false:=by simp;omega
  have HA:=Lib.hid hA
  have HF:=Lib.hid hF
  clear h hok hA hF hm h0 k2 hlf e1
  go_enter Tryz.func203,Tryz.ntmps203
  go_upto_region 4 with fail
  try simp only [w2,w1]
  generalize w.setCell ⟨g,2,none⟩ (.int .i64 (m:Int)) = W1 at HA HF ⊢
  clear kq k2' w1 w2 q0
  have k2:=HA.out.cel.cell (i:=2) rfl
  have k3:=HA.out.cel.cell (i:=3) rfl
  have kq:=fun i=>HA.out.cel.free (i:=i)
  have HA2:=Lib.hid (HA.out.setDown ((m:Int) == 0))
  have HF2:=Lib.hid (HF.out.set (p:=⟨g,3,none⟩) foot_g (.bool ((m:Int) == 0)))
  obtain ⟨b,hb⟩:∃ b,((m:Int) == 0) = b:=⟨_,rfl⟩
  rw [hb] at E HA2 HF2
  clear HA HF
  go_upto_region 5 with fail
  generalize W1.setCell ⟨g,3,none⟩ (.bool b) = W2 at HA2 HF2 ⊢
  clear kq k2 k3 hb
  have k3:=HA2.out.cel.cell (i:=3) rfl
  go_wp2_with fail
  go_ret
  exact ⟨by rw [E.out];rfl,by rw [E.out];exact HA2.out,HF2.out⟩
theorem rfuse_any (h:RAt w g ao an co cn so sn D) (n:Int) :
  Calls Tryz.prog 82 #[.pointer (some ⟨g,0,none⟩),.int .i64 n] w fun e w'=>e = .returned (.int .i64 (fuD D n).2) ∧ RAt w' g ao an co cn so sn (fuD D n).1 ∧ Fr (RFoot g ao an) (RFoot g ao an) w w':=by
 have k2:=h.cel.cell (i:=2) rfl
 have k3:=h.cel.cell (i:=3) rfl
 by_cases hd:D.down = true
 ·have E:=Lib.hid (show fuD D n = (D,90) from by unfold fuD;rw [if_pos hd])
  rw [hd] at k3
  have H:=Lib.hid h
  clear h hd
  go_enter Tryz.func82,Tryz.ntmps82
  go_wp2_with fail
  go_ret
  exact ⟨by rw [E.out];rfl,by rw [E.out];exact H.out,Fr.refl _ _⟩
 have hd':D.down = false:=by simpa using hd
 rw [hd'] at k3
 by_cases h0:n < 0
 ·have E:=Lib.hid (show fuD D n = (D,1) from by unfold fuD;rw [if_neg hd,if_pos (.inl h0)])
  have H:=Lib.hid h
  clear h hd hd'
  go_enter Tryz.func82,Tryz.ntmps82
  go_wp2_with fail
  go_ret
  exact ⟨by rw [E.out];rfl,by rw [E.out];exact H.out,Fr.refl _ _⟩
 by_cases h1:1048576 < n
 ·have E:=Lib.hid (show fuD D n = (D,1) from by unfold fuD;rw [if_neg hd,if_pos (.inr h1)])
  have H:=Lib.hid h
  clear h hd hd'
  go_enter Tryz.func82,Tryz.ntmps82
  go_wp2_with fail
  go_ret
  exact ⟨by rw [E.out];rfl,by rw [E.out];exact H.out,Fr.refl _ _⟩
 obtain ⟨m,rfl⟩:∃ m:Nat,n = (m:Int):=⟨n.toNat,by omega⟩
 have E:=Lib.hid (show fuD D (m:Int) = (⟨D.on,D.new,m,D.down⟩,0) from by unfold fuD;rw [if_neg hd,if_neg (by omega),Int.toNat_natCast])
 have kq:=fun i=>h.cel.free (i:=i)
 have H:=Lib.hid (And.intro (h.setLeft m) ((Fr.refl (RFoot g ao an) w).set (p:=⟨g,2,none⟩) foot_g (.int .i64 (m:Int))))
 clear h hd hd'
 go_enter Tryz.func82,Tryz.ntmps82
 go_wp2_with fail
 go_ret
 exact ⟨by rw [E.out];rfl,by rw [E.out];exact H.out.1,H.out.2⟩
theorem rwrite_any (h:RAt w g ao an co cn so sn D) (hok:DevOk D) (i:Int) (t:ByteArray) :
  Calls Tryz.prog 130 #[.pointer (some ⟨g,0,none⟩),.int .i64 i,.string t] w fun e w'=>e = .returned (.int .i64 (wrD D i t).2) ∧ RAt w' g ao an co cn so sn (wrD D i t).1 ∧ Fr (RFoot g ao an) (RFoot g ao an) w w':=by
 have HR:=Lib.hid (rread_any h hok i)
 have HBn:=Lib.hid (rburns_any h hok)
 have H:=Lib.hid h
 by_cases hr:(rdV D i).2 = 0
 case neg =>
  have E:=Lib.hid (show wrD D i t = (D,(rdV D i).2) from by unfold wrD;rw [if_pos hr])
  have q0:((rdV D i).2 != 0) = true:=by simpa using hr
  generalize (rdV D i).2 = z at HR E q0
  generalize (rdV D i).1 = y at HR
  clear h hok hr
  go_enter Tryz.func130,Tryz.ntmps130
  go_wp2_with fail
  refine HR.out.mono ?_
  rintro e w1 ⟨rfl,rfl⟩
  go_wp2_with fail
  go_ret
  exact ⟨by rw [E.out];rfl,by rw [E.out];exact H.out,Fr.refl _ _⟩
 have hi:D.down = false ∧ 0 ≤ i ∧ i < (D.on.length:Int):=by
  unfold rdV at hr
  split at hr
  ·cases hr
  split at hr
  ·cases hr
  next h1 h2=>exact ⟨by simpa using h1,by omega,by omega⟩
 obtain ⟨hd,hi0,hi1⟩:=hi
 by_cases hz:t.size = 64
 case neg =>
  have E:=Lib.hid (show wrD D i t = (D,3) from by unfold wrD;rw [if_neg (by simpa using hr),if_pos hz])
  have pz:((t.size:Int) != 64) = true:=by simp;omega
  rw [hr] at HR
  generalize (rdV D i).1 = y at HR
  clear h hok hr hz
  go_enter Tryz.func130,Tryz.ntmps130
  go_wp2_with fail
  refine HR.out.mono ?_
  rintro e w1 ⟨rfl,rfl⟩
  go_wp2_with fail
  go_ret
  exact ⟨by rw [E.out];rfl,by rw [E.out];exact H.out,Fr.refl _ _⟩
 have pz:(t.size:Int) = 64:=by omega
 have ew:wrD D i t = if (burn D).2 = true then ((burn D).1,90) else (⟨D.on,D.new.set i.toNat t,(burn D).1.left,(burn D).1.down⟩,0):=by
  unfold wrD;rw [if_neg (by simpa using hr),if_neg (by simpa using hz)]
 rw [hr] at HR
 generalize (rdV D i).1 = y at HR
 obtain ⟨b1,b2,b3⟩:=burn_parts D
 obtain ⟨j,rfl⟩:∃ j:Nat,i = (j:Int):=⟨i.toNat,by omega⟩
 rw [Int.toNat_natCast] at ew
 have hlen:=hok.len
 generalize burn D = Q at HBn ew b1 b2
 obtain ⟨D1,bb⟩:=Q
 simp only at HBn ew b1 b2
 cases bb with
 | true =>
  have E:=Lib.hid (show wrD D (j:Int) t = (D1,90) from by rw [ew,if_pos rfl])
  clear h hok hr hz ew
  go_enter Tryz.func130,Tryz.ntmps130
  go_wp2_with fail
  refine HR.out.mono ?_
  rintro e w1 ⟨rfl,rfl⟩
  go_wp2_with fail
  refine HBn.out.mono ?_
  rintro e w2 ⟨rfl,hb⟩
  have HB:=Lib.hid hb
  clear hb
  go_wp2_with fail
  go_ret
  exact ⟨by rw [E.out];rfl,by rw [E.out];exact HB.out.1,HB.out.2⟩
 | false =>
  have E:=Lib.hid (show wrD D (j:Int) t = (⟨D.on,D.new.set j t,D1.left,D1.down⟩,0) from by rw [ew,if_neg (by simp)])
  have hj:j < D1.new.length:=by rw [b2,hlen];omega
  have pj:(j:Int) < (D1.new.length:Int):=by omega
  have HBs:=Lib.hid (And.intro b1 b2)
  clear h hok hr hz ew b1 b2 b3 hlen
  go_enter Tryz.func130,Tryz.ntmps130
  go_wp2_with fail
  refine HR.out.mono ?_
  rintro e w1 ⟨rfl,rfl⟩
  go_wp2_with fail
  refine HBn.out.mono ?_
  rintro e w2 ⟨rfl,hb⟩
  have k1:=hb.1.cel.cell (i:=1) rfl
  have x1:=hb.1.readN hj
  have xf:=hb.1.freeN j
  have HB:=Lib.hid (And.intro (hb.1.setN hj t) (hb.2.set (foot_n j) (.string t)))
  clear hb
  go_wp2_with fail
  go_ret
  refine ⟨by rw [E.out];rfl,?_,HB.out.2⟩
  rw [E.out]
  have:=HB.out.1
  rw [HBs.out.1,HBs.out.2] at this
  exact this
end
theorem text_no {n:ByteArray} (hn:n ≠ nil0):¬ n.toList = [] ∧ n.toList.isEmpty = false ∧ (n.toList == (⟨#[]⟩:ByteArray).toList) = false:=by
 have t0:=text_ne hn
 have t1:¬ n.toList = []:=fun h=>hn (by
  rw [ByteArray.toList_eq] at h
  obtain ⟨a⟩:=n
  unfold nil0
  congr 1
  exact Array.toList_inj.1 h)
 exact ⟨t1,by rw [List.isEmpty_eq_false_iff];exact t1,t0⟩
def part (D:Dev) (j:Nat) (f:Nat → ByteArray) (l:Nat) (b:Bool):Dev:=⟨upd D.on j f,upd D.new j (fun _=>nil0),l,b⟩
theorem part_zero (D:Dev) (f:Nat → ByteArray) (l:Nat) (b:Bool):part D 0 f l b = ⟨D.on,D.new,l,b⟩:=by unfold part;rw [upd_zero,upd_zero]
theorem upd_here {l:List ByteArray} {j:Nat} {f:Nat → ByteArray} (h:j < l.length) (h':j < (upd l j f).length):(upd l j f)[j] = l[j]:=by
 rw [upd_at h' h,if_neg (Nat.lt_irrefl _)]
section
variable {w:World} {g:Nat} {ao an:Addr} {co cn:Nat} {so sn:List Value} {D:Dev}
theorem rflush_any (h:RAt w g ao an co cn so sn D) (hok:DevOk D) :
  Calls Tryz.prog 132 #[.pointer (some ⟨g,0,none⟩)] w fun e w'=>e = .returned (.int .i64 (flD D).2) ∧ RAt w' g ao an co cn so sn (flD D).1 ∧ Fr (RFoot g ao an) (RFoot g ao an) w w':=by
 have HBn:=Lib.hid (rburns_any h hok)
 have k3:=h.cel.cell (i:=3) rfl
 have H:=Lib.hid h
 by_cases hd:D.down = true
 ·have E:=Lib.hid (show flD D = (D,90) from by unfold flD;rw [if_pos hd])
  rw [hd] at k3
  clear h hd hok
  go_enter Tryz.func132,Tryz.ntmps132
  go_wp2_with fail
  go_ret
  exact ⟨by rw [E.out];rfl,by rw [E.out];exact H.out,Fr.refl _ _⟩
 have hd':D.down = false:=by simpa using hd
 rw [hd'] at k3
 have ew:flD D = if (burn D).2 = true then ((burn D).1,90) else (⟨upd D.on D.on.length (flushF D),upd D.new D.on.length (fun _=>nil0),(burn D).1.left,(burn D).1.down⟩,0):=by
  unfold flD;rw [if_neg hd]
 obtain ⟨b1,b2,b3⟩:=burn_parts D
 have hlen:=hok.len
 have hmx:=hok.max
 generalize burn D = Q at HBn ew b1 b2
 obtain ⟨D1,bb⟩:=Q
 simp only at HBn ew b1 b2
 cases bb with
 | true =>
  have E:=Lib.hid (show flD D = (D1,90) from by rw [ew,if_pos rfl])
  clear h hok ew hd hd'
  go_enter Tryz.func132,Tryz.ntmps132
  go_wp2_with fail
  refine HBn.out.mono ?_
  rintro e w2 ⟨rfl,hb⟩
  have HB:=Lib.hid hb
  clear hb
  go_wp2_with fail
  go_ret
  exact ⟨by rw [E.out];rfl,by rw [E.out];exact HB.out.1,HB.out.2⟩
 | false =>
  have E:=Lib.hid (show flD D = (part D D.on.length (flushF D) D1.left D1.down,0) from by rw [ew,if_neg (by simp)];rfl)
  have HBs:=Lib.hid (And.intro b1 b2)
  clear h hok ew hd hd' b1 b2 b3
  go_enter Tryz.func132,Tryz.ntmps132
  go_wp2_with fail
  refine HBn.out.mono ?_
  rintro e w2 ⟨rfl,hb⟩
  have HB:=Lib.hid (show RAt w2 g ao an co cn so sn (part D 0 (flushF D) D1.left D1.down) ∧ Fr (RFoot g ao an) (RFoot g ao an) w w2 from by
   rw [part_zero,← HBs.out.1,← HBs.out.2];exact hb)
  clear hb k3 HBn
  go_wp2_with fail
  go_loopw [3] (fun i wr=>∃ j:Nat,j ≤ D.on.length ∧ i = .int .i64 (j:Int) ∧ Hid (RAt wr g ao an co cn so sn (part D j (flushF D) D1.left D1.down) ∧ Fr (RFoot g ao an) (RFoot g ao an) w wr)) (fun i _=>D.on.length - (intOf i).toNat)
  case atStart=>exact ⟨0,by omega,rfl,HB.out⟩
  case round =>
   obtain ⟨j,hj,rfl,hr⟩:=hrel
   clear HB
   have lo:(part D j (flushF D) D1.left D1.down).on.length = D.on.length:=upd_len _ _ _
   have ln:(part D j (flushF D) D1.left D1.down).new.length = D.on.length:=(upd_len _ _ _).trans hlen
   have k0:=hr.out.1.cel.cell (i:=0) rfl
   have k1:=hr.out.1.cel.cell (i:=1) rfl
   rw [lo] at k0
   rw [ln] at k1
   by_cases hlt:j < D.on.length
   ·have pj:(j:Int) < (D.on.length:Int):=by omega
    have hlt2:j < D.new.length:=by omega
    have x1:=hr.out.1.readN (i:=j) (by rw [ln];exact hlt)
    have e1:(part D j (flushF D) D1.left D1.down).new[j]'(by rw [ln];exact hlt) = D.new[j]:=upd_here hlt2 _
    rw [e1] at x1
    have hf:flushF D j = if D.new[j] = nil0 then D.on[j] else D.new[j]:=by unfold flushF;rw [getD_at hlt,getD_at hlt2]
    obtain ⟨n,hn'⟩:∃ n,n = D.new[j]:=⟨_,rfl⟩
    rw [← hn'] at x1 hf
    by_cases hn:n = nil0
    ·rw [if_pos hn] at hf
     have HN:=Lib.hid (show RAt wr g ao an co cn so sn (part D (j + 1) (flushF D) D1.left D1.down) ∧ Fr (RFoot g ao an) (RFoot g ao an) w wr from by
      have:part D (j + 1) (flushF D) D1.left D1.down = part D j (flushF D) D1.left D1.down:=by
       unfold part
       rw [upd_same hlt hf,upd_same hlt2 (by rw [← hn',hn])]
      rw [this];exact hr.out)
     subst hn
     have t0:=text_eq nil0
     unfold nil0 at t0 x1
     clear hr hf hn' e1 lo ln
     go_wp2_with fail
     go_roundw
     case rel=>exact ⟨j + 1,by omega,by go_num,HN.out⟩
     case measure=>simp [intOf];omega
    ·rw [if_neg hn] at hf
     obtain ⟨t1,t2,t0⟩:=text_no hn
     have HN:=Lib.hid (fun W (hW:RAt W g ao an co cn so sn (part D j (flushF D) D1.left D1.down))=>show RAt (W.setCell (ao.add j) (.string n)) g ao an co cn so sn ⟨upd D.on (j + 1) (flushF D),upd D.new j (fun _=>nil0),D1.left,D1.down⟩ from by
      have:=hW.setO (i:=j) (by rw [lo];exact hlt) n
      have e:(part D j (flushF D) D1.left D1.down).on.set j n = upd D.on (j + 1) (flushF D):=upd_set hlt hf.symm
      rw [e] at this
      exact this)
     have HX:=Lib.hid (fun W (hW:RAt W g ao an co cn so sn (part D j (flushF D) D1.left D1.down))=>show W.cell? (an.add j) = some (.string n) from by
      have:=hW.readN (i:=j) (by rw [ln];exact hlt)
      rw [e1,← hn'] at this
      exact this)
     have Hln:=Lib.hid ln
     have Hlo:=Lib.hid lo
     clear hf hn hn' e1 lo ln
     go_upto_region 7 with fail
     refine wp_region_said 13 [29,30,31,32,33,34,35,36,37,38,39,40,41]
      [.is (.pointer (some ⟨g,0,none⟩)),.is (.pointer (some ⟨g,0,none⟩)),.is (.pointer (some ⟨g,0,none⟩)),.is (.slice (some ao) D.on.length co),.is (.int .i64 (j:Int)),.is (.pointer (some ⟨g,0,none⟩)),.is (.pointer (some ⟨g,0,none⟩)),.is (.pointer (some ⟨g,1,none⟩)),.is (.slice (some an) D.on.length cn),.is (.int .i64 (j:Int)),.is (.pointer (some (an.add j))),.is (.string n),.is (.pointer (some (ao.add j)))]
      (fun W=>RAt W g ao an co cn so sn (part D j (flushF D) D1.left D1.down) ∧ Fr (RFoot g ao an) (RFoot g ao an) w W) (by kernel_rfl) (by kernel_rfl) (by kernel_rfl) (by kernel_rfl) (by kernel_rfl) (fun W W' h hb=>⟨h.1.step hb,h.2.below hb⟩) hr.out ?steps7 ?last7
     case steps7 =>
      simp only [List.take_succ_cons,List.take_zero]
      refine ⟨?_,?_,?_,?_,?_,?_,?_,?_,?_,?_,?_,?_,?_,trivial⟩
      all_goals
       intro vs W ρ hρ hc hf hg hI hH hd R' hR
       have z0:=hI.1.cel.cell (i:=0) rfl
       have z1:=hI.1.cel.cell (i:=1) rfl
       rw [Hlo.out] at z0
       rw [Hln.out] at z1
       have zx:=HX.out W hI.1
       have HR:=Lib.hid hR
       simp [depsOf,Region.binds,sayAt,Say.holds] at hd
       clear hR hI k0 k1 x1
       go_simp
       first
        | exact HR.out _ _ (by simp [sayAt,Say.holds]) (Below.refl _ _) (by simp [sayAt,Say.isBlk])
        | trace_state
     case last7 =>
      intro vs W hI hb hg hd
      have e11:=hg 11 (by omega)
      have e12:=hg 12 (by omega)
      simp only [sayAt,Say.holds,List.getD_cons_succ,List.getD_cons_zero] at e11 e12
      simp only [List.take_succ_cons,List.take_zero,List.drop_succ_cons,List.drop_zero,putAll,Act.put,List.setIfInBounds_toArray,List.set_cons_succ,List.set_cons_zero,Nat.zero_add,Nat.reduceAdd]
      rw [e11,e12]
      have xo:=hI.1.readO (i:=j) (by rw [Hlo.out];exact hlt)
      have xf:=hI.1.freeO j
      have HA:=Lib.hid (And.intro (HN.out W hI.1) (hI.2.set (foot_o j) (.string n)))
      clear e11 e12 hg hd hb hI k0 k1 x1 HN HX hr
      go_upto_region 8 with fail
      generalize W.setCell (ao.add j) (.string n) = W2 at HA ⊢
      clear xo xf
      have ln2:j < (⟨upd D.on (j + 1) (flushF D),upd D.new j (fun _=>nil0),D1.left,D1.down⟩:Dev).new.length:=by show j < (upd _ _ _).length;rw [upd_len];omega
      have k1:=HA.out.1.cel.cell (i:=1) rfl
      have e2:(⟨upd D.on (j + 1) (flushF D),upd D.new j (fun _=>nil0),D1.left,D1.down⟩:Dev).new.length = D.on.length:=(upd_len _ _ _).trans hlen
      rw [e2] at k1
      obtain ⟨y,xo⟩:∃ y,W2.cell? (an.add j) = some (.string y):=⟨_,HA.out.1.readN ln2⟩
      have xf:=HA.out.1.freeN j
      have HA2:=Lib.hid (show RAt (W2.setCell (an.add j) (.string nil0)) g ao an co cn so sn (part D (j + 1) (flushF D) D1.left D1.down) ∧ Fr (RFoot g ao an) (RFoot g ao an) w (W2.setCell (an.add j) (.string nil0)) from by
       refine ⟨?_,HA.out.2.set (foot_n j) _⟩
       have:=HA.out.1.setN ln2 nil0
       have e:(upd D.new j (fun _=>nil0)).set j nil0 = upd D.new (j + 1) (fun _=>nil0):=upd_set hlt2 rfl
       simp only at this
       rw [e] at this
       exact this)
      unfold nil0 at HA2
      clear HA e2 ln2
      go_upto_region 5 with fail
      generalize W2.setCell (an.add j) (.string ⟨#[]⟩) = W3 at HA2 ⊢
      clear xo xf k1
      go_wp2_with fail
      go_roundw
      case rel=>exact ⟨j + 1,by omega,by go_num,HA2.out⟩
      case measure=>simp [intOf];omega
   ·obtain rfl:j = D.on.length:=by omega
    have HN:=hr
    clear hr lo ln
    go_wp2_with fail
    go_ret
    exact ⟨by rw [E.out];rfl,by rw [E.out];exact HN.out.1,HN.out.2⟩
end
end Sc
end Go.Proofs.YtmidncclndongaaGreat
