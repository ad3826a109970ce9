/- Parts of the proof, joined: Float, LtRef, LtWrs, LtSame, BkInts, BkOpen, LtOpen, LtOpen2, LtEnv, PkRef, PkRef2, PkRef3; their conditions stand with each. -/
import Derived.Test.YtlfkhlfkckfbpaaGreatRows
import Derived.StillTail
import Derived.Below
import Derived.Deep.Quiet
import Derived.WalkKit
import Derived.ProofKit
import Derived.SizedLaws
import Derived.ChangeSlices
import Derived.SliceStrings
import Derived.Carry
import Derived.Lib.SmallJoins
import Derived.Deep.SlicePairs
import Derived.Deep.Cut
import Derived.Deep.CutRange
import Derived.Deep.DeepCutAuto
import Derived.Test.YtlfkhlfkckfbpaaGreatC0

set_option maxRecDepth 20000
set_option maxHeartbeats 8000000
namespace Go.Proofs.YtlfkhlfkckfbpaaGreat
open Go.RowKit
section
variable {P:Program} {ops:Array Oper} {md:Region.Mode}
def putAll (vs:Nat → Value):List Oper → Nat → Act → Act
 | [],_,a=>a
 | o :: r,k,a=>putAll vs r (k + 1) (a.put o.dst (vs k))
theorem putAll_congr {vs vs':Nat → Value}:∀ (l:List Oper) (k:Nat) (a:Act),(∀ j,k ≤ j → vs j = vs' j) → putAll vs l k a = putAll vs' l k a
 | [],_,_,_=>rfl
 | o :: r,k,a,h=>by
  simp only [putAll]
  rw [h k (Nat.le_refl _)]
  exact putAll_congr r (k + 1) _ fun j hj=>h j (by omega)
theorem putAll_put (vs:Nat → Value) (d:Option Tmp) (v:Value):∀ (l:List Oper) (k:Nat) (a:Act),(∀ o ∈ l,∀ x,o.dst = some x → d ≠ some x) →
  putAll vs l k (a.put d v) = (putAll vs l k a).put d v
 | [],_,_,_=>rfl
 | o :: r,k,a,h=>by
  simp only [putAll]
  rw [show (a.put d v).put o.dst (vs k) = (a.put o.dst (vs k)).put d v from
   Act.put_comm a v (vs k) fun x hx hy=>h o (by simp) x hy hx]
  exact putAll_put vs d v r (k + 1) _ fun o' ho'=>h o' (by simp [ho'])
theorem put_put (a:Act) (d:Option Tmp) (u v:Value):(a.put d u).put d v = a.put d v:=by
 cases d with
 | none=>rfl
 | some d =>
  simp only [Act.put]
  congr 1
  apply Array.ext_getElem?
  intro i
  simp only [Array.getElem?_setIfInBounds,Array.size_setIfInBounds]
  split <;> rfl
def slotsB:List Oper → Bool
 | []=>true
 | o :: r=>o.dst.isSome && r.all (fun p=>p.dst != o.dst) && slotsB r
theorem putAll_set (vs:Nat → Value) (v:Value):∀ (l:List Oper) (k i:Nat) (a:Act) (o:Oper),slotsB l = true → l[i]? = some o →
  (putAll vs l k a).put o.dst v = putAll (fun x=>if x = k + i then v else vs x) l k a
 | [],_,_,_,_,_,h=>by simp at h
 | p :: r,k,0,a,o,hs,h=>by
  obtain rfl:p = o:=by simpa using h
  simp only [slotsB,Bool.and_eq_true,List.all_eq_true,bne_iff_ne] at hs
  simp only [putAll,Nat.add_zero,if_pos]
  rw [← putAll_put vs p.dst v r (k + 1) _ (fun o ho x hx hy=>hs.1.2 o ho (by rw [hx,hy])),put_put]
  exact putAll_congr r (k + 1) _ fun j hj=>by rw [if_neg (by omega)]
 | p :: r,k,i + 1,a,o,hs,h=>by
  simp only [slotsB,Bool.and_eq_true] at hs
  simp only [putAll]
  rw [putAll_set vs v r (k + 1) i _ o hs.2 (by simpa using h)]
  rw [if_neg (by omega)]
  exact putAll_congr r (k + 1) _ fun j _=>by rw [show k + 1 + i = k + (i + 1) by omega]
theorem put_self (a:Act) (d:Option Tmp):∃ v,a.put d v = a:=by
 cases d with
 | none=>exact ⟨undef,rfl⟩
 | some d =>
  refine ⟨a.tmps.getD d undef,?_⟩
  obtain ⟨t,ds⟩:=a
  simp only [Act.put,Act.mk.injEq,and_true]
  apply Array.ext_getElem?
  intro i
  rw [Array.getElem?_setIfInBounds]
  split
  ·rename_i h
   subst h
   split
   ·rename_i h;simp [h]
   ·rename_i h;simp [Array.getElem?_eq_none (Nat.le_of_not_lt h)]
  ·rfl
theorem putAll_self (a:Act):∀ (l:List Oper) (k:Nat),∃ vs,putAll vs l k a = a
 | [],_=>⟨fun _=>undef,rfl⟩
 | o :: r,k=>by
  obtain ⟨vs,h⟩:=putAll_self a r (k + 1)
  obtain ⟨v,hv⟩:=put_self a o.dst
  refine ⟨fun x=>if x = k then v else vs x,?_⟩
  simp only [putAll,if_pos]
  rw [hv,← h]
  conv=>rhs;rw [h]
  rw [← h]
  conv=>rhs;rw [← h]
  rw [h,h]
  exact (putAll_congr r (k + 1) a fun j hj=>by rw [if_neg (by omega)]).trans h
def floatUpon (P:Program) (R:Value → World → Prop):Result Next → Prop
 | .ok (.value u) w'=>R u w'
 | .ok .skip w'=>R undef w'
 | .ok (.enter f args) w'=>Calls P f args w' fun e w''=>∃ v,e = .returned v ∧ R v w''
 | _=>False
def floatOp (P:Program) (o:Oper) (a:Act) (w:World) (R:Value → World → Prop):Prop:=floatUpon P R ((execOp a.eval o).run P w)
theorem floatOp_wp {o:Oper} {a:Act} {w:World} {R:Value → World → Prop} {K:Act → World → Prop} {Q:Exit → Act → World → Prop} (h:floatOp P o a w R) (hK:∀ v w',R v w' → K (a.put o.dst v) w'):o.wp P a w K Q:=by
 unfold floatOp at h
 unfold Oper.wp
 generalize (execOp a.eval o).run P w = r at *
 cases r with
 | ok n w' =>
  cases n <;> simp only [floatUpon] at h <;> simp only [Oper.upon]
  case value u=>exact hK _ _ h
  case skip=>exact hK _ _ h
  case enter f args=>exact h.mono fun e w'' ⟨v,he,hr⟩=>by subst he;exact hK _ _ hr
 | halt x w'=>simp only [floatUpon] at h
def depsOf (md:Region.Mode) (o:Oper):List Nat:=(o.after.toList.filter fun e=>Region.binds md e).map (·.on)
def floatSteps (P:Program) (md:Region.Mode) (ops:Array Oper) (A:Nat → Bool) (G:Nat → Value → World → Prop) (I:World → Prop) (F:(Nat → Value) → Act):List Oper → Nat → Prop
 | [],_=>True
 | o :: r,i =>
  (∀ vs W,I W → (∀ j ∈ depsOf md o,G j (vs j) W) → ∀ R:Value → World → Prop,
   (∀ v W',G i v W' → Below W.heap.size W W' → (A i = true → v = .pointer (some ⟨W.heap.size,0,none⟩)) → R v W') →
   if Region.wanted o (yielded ops (F vs).tmps) then floatOp P o (F vs) W R else R undef W) ∧
  floatSteps P md ops A G I F r (i + 1)
theorem floatSteps_get {A:Nat → Bool} {G:Nat → Value → World → Prop} {I:World → Prop} {F:(Nat → Value) → Act}:∀ (l:List Oper) (k i:Nat) (o:Oper),floatSteps P md ops A G I F l k → l[i]? = some o →
  ∀ vs W,I W → (∀ j ∈ depsOf md o,G j (vs j) W) → ∀ R:Value → World → Prop,
   (∀ v W',G (k + i) v W' → Below W.heap.size W W' → (A (k + i) = true → v = .pointer (some ⟨W.heap.size,0,none⟩)) → R v W') →
   if Region.wanted o (yielded ops (F vs).tmps) then floatOp P o (F vs) W R else R undef W
 | [],_,_,_,_,h=>by simp at h
 | p :: r,k,0,o,hs,h=>by
  obtain rfl:p = o:=by simpa using h
  exact hs.1
 | p :: r,k,i + 1,o,hs,h=>by
  have:=floatSteps_get r (k + 1) i o hs.2 (by simpa using h)
  rw [show k + 1 + i = k + (i + 1) by omega] at this
  exact this
def floatB (md:Region.Mode) (ops:Array Oper) (n:Nat):Bool :=
 decide (n ≤ ops.size) && (decide (n = ops.size) || (Region.sinkB md ops n && Region.chainB md ops n)) && slotsB (ops.toList.take n) &&
 ((List.range n).all fun i=>((ops[i]?).map fun o=>(depsOf md o).all (· < i)).getD false) &&
 Region.seqB md ops (ops.size - n) n (List.replicate n true ++ List.replicate (ops.size - n) false).toArray
theorem count_set_true {l:List Bool} {i:Nat} (h:l[i]? = some false):l.count false = (l.set i true).count false + 1:=by
 induction l generalizing i with
 | nil=>simp at h
 | cons b l ih =>
  cases i with
  | zero =>
   obtain rfl:b = false:=by simpa using h
   simp
  | succ i =>
   have:=ih (i:=i) (by simpa using h)
   simp only [List.set_cons_succ,List.count_cons]
   omega
theorem wp_float {A:Nat → Bool} {G:Nat → Value → World → Prop} {I:World → Prop} {Q:Exit → Act → World → Prop} {a:Act} (n:Nat) (hB:floatB md ops n = true)
  (hG:∀ i v W W',G i v W → Below W.heap.size W W' → G i v W')
  (hA:∀ i v W,A i = true → G i v W → ∃ p,v = .pointer (some ⟨p,0,none⟩) ∧ p < W.heap.size)
  (hI:∀ W W',I W → Below W.heap.size W W' → I W')
  (hs:floatSteps P md ops A G I (fun vs=>putAll vs (ops.toList.take n) 0 a) (ops.toList.take n) 0)
  (hl:∀ vs W,I W → (∀ j,j < n → G j (vs j) W) → (∀ i j,i < n → j < n → A i = true → A j = true → i ≠ j → vs i ≠ vs j) →
   wpList P ops Q (ops.toList.drop n) (putAll vs (ops.toList.take n) 0 a) W) :
  ∀ (fuel:Nat) (ls:Array Bool) (vs:Nat → Value) (W:World),ls.toList.count false = fuel → HeadInv md ops n ls → I W →
   (∀ j,j < n → ls.getD j false = true → G j (vs j) W) →
   (∀ i j,i < n → j < n → ls.getD i false = true → ls.getD j false = true → A i = true → A j = true → i ≠ j → vs i ≠ vs j) →
   wpAny P md ops Q fuel ls (putAll vs (ops.toList.take n) 0 a) W:=by
 simp only [floatB,Bool.and_eq_true,Bool.or_eq_true,decide_eq_true_eq] at hB
 obtain ⟨⟨⟨⟨hn,hc⟩,hsl⟩,hd⟩,hseq⟩:=hB
 intro fuel
 induction fuel with
 | zero =>
  intro ls vs W hcount inv hi hg hdist
  have hall:∀ j,j < ops.size → ls.getD j false = true:=fun j hj=>by
   have hjs:j < ls.size:=by rw [inv.size];exact hj
   cases hb:ls[j] with
   | true=>simp [hjs,hb]
   | false=>exact absurd (List.count_pos_iff.2 (by rw [← hb];exact Array.mem_toList_iff.2 (Array.getElem_mem hjs)):0 < ls.toList.count false) (by omega)
  have hne:n = ops.size:=by
   rcases Nat.lt_or_ge n ops.size with h | h
   ·have h1:=inv.tail n (Nat.le_refl _) h
    have h2:=hall n h
    rw [getD_both h1] at h2
    cases h2
   ·omega
  subst hne
  refine ⟨?_,?_⟩
  ·refine List.eq_nil_iff_forall_not_mem.2 fun i hi=>?_
   obtain ⟨h0,o,ho,_⟩:=mem_ready.1 hi
   have:=hall i (Array.getElem?_eq_some_iff.1 ho).1
   rw [getD_both h0] at this
   cases this
  ·have:=hl vs W hi (fun j hj=>hg j hj (hall j hj)) (fun i j hi hj=>hdist i j hi hj (hall i hi) (hall j hj))
   rw [List.drop_of_length_le (by simp)] at this
   exact this
 | succ fuel ih =>
  intro ls vs W hcount inv hi hg hdist
  by_cases hall:∀ j,j < n → ls.getD j false = true
  ·have hlist:ls = (List.replicate n true ++ List.replicate (ops.size - n) false).toArray:=by
    apply Array.ext_getElem?
    intro j
    simp only [List.getElem?_toArray]
    rw [List.getElem?_append,List.length_replicate]
    by_cases h1:j < n
    ·have h2:=hall j h1
     have hjs:j < ls.size:=by rw [inv.size];omega
     rw [if_pos h1,List.getElem?_replicate,if_pos h1]
     simp only [Array.getD_eq_getD_getElem?,hjs,getElem?_pos,Option.getD_some] at h2 ⊢
     rw [h2]
    ·rw [if_neg h1,List.getElem?_replicate]
     by_cases h2:j < ops.size
     ·have h3:=inv.tail j (by omega) h2
      have hjs:j < ls.size:=by rw [inv.size];omega
      rw [if_pos (by omega)]
      simp only [Array.getD_eq_getD_getElem?,hjs,getElem?_pos,Option.getD_some] at h3 ⊢
      rw [h3]
     ·rw [if_neg (by omega),Array.getElem?_eq_none (by rw [inv.size];omega)]
   have hfuel:fuel + 1 = (ops.toList.drop n).length:=by
    rw [← hcount,hlist]
    simp [List.count_append,List.count_replicate]
   rw [hfuel]
   refine wpAny_of_seq (ops.toList.drop n) n ls _ W (fun j=>by simp [List.getElem?_drop]) ?_ (hl vs W hi (fun j hj=>hg j hj (hall j hj)) (fun i j hi hj=>hdist i j hi hj (hall i hi) (hall j hj)))
   rw [hlist,show (ops.toList.drop n).length = ops.size - n by simp]
   exact hseq
  ·
   have hleast:∃ i,i < n ∧ ls.getD i false = false ∧ ∀ j,j < i → ls.getD j false = true:=by
    have:∀ k,(∀ j,j < k → ls.getD j false = true) ∨ ∃ i,i < k ∧ ls.getD i false = false ∧ ∀ j,j < i → ls.getD j false = true:=by
     intro k
     induction k with
     | zero=>exact .inl fun j hj=>absurd hj (by omega)
     | succ k ihk =>
      rcases ihk with h | ⟨i,h1,h2,h3⟩
      ·cases hk:ls.getD k false with
       | true =>
        left
        intro j hj
        rcases Nat.lt_or_ge j k with h' | h'
        ·exact h j h'
        ·obtain rfl:j = k:=by omega
         exact hk
       | false=>exact .inr ⟨k,by omega,hk,h⟩
      ·exact .inr ⟨i,by omega,h2,h3⟩
    rcases this n with h | h
    ·exact absurd h hall
    ·exact h
   obtain ⟨i0,hi0,hi0f,hi0l⟩:=hleast
   have hdeps:∀ i o,i < n → ops[i]? = some o → ∀ e ∈ o.after,Region.binds md e = true → e.on < i:=fun i o hi ho e he hb=>by
    have h1:=List.all_eq_true.1 hd i (List.mem_range.2 hi)
    simp only [ho,Option.map_some,Option.getD_some,List.all_eq_true,decide_eq_true_eq] at h1
    exact h1 e.on (List.mem_map.2 ⟨e,List.mem_filter.2 ⟨by simpa using he,hb⟩,rfl⟩)
   have hi0s:i0 < ls.size:=by rw [inv.size];omega
   have hready0:i0 ∈ Region.ready md ops ls:=by
    refine mem_ready.2 ⟨getD_in hi0s hi0f,ops[i0]'(by omega),by simp [show i0 < ops.size by omega],fun e he hb=>?_⟩
    exact hi0l _ (hdeps i0 _ hi0 (by simp [show i0 < ops.size by omega]) e he hb)
   refine ⟨fun h=>absurd hready0 (by rw [h];simp),fun i hir=>?_⟩
   obtain ⟨hun,o,ho,hafter⟩:=mem_ready.1 hir
   have hio:i < ops.size:=(Array.getElem?_eq_some_iff.1 ho).1
   have hin:i < n:=by
    rcases Nat.lt_or_ge i n with h | h
    ·exact h
    ·rcases hc with h' | ⟨h1,h2⟩
     ·omega
     ·exact absurd hir (tail_waits h1 h2 (by omega) inv (n - i0) i0 rfl hi0 (getD_in hi0s hi0f) i h)
   have his:i < ls.size:=by rw [inv.size];omega
   have hget:(ops.toList.take n)[i]? = some o:=by
    rw [List.getElem?_take,if_pos hin]
    simpa using ho
   have hcount':(ls.setIfInBounds i true).toList.count false = fuel:=by
    have h1:ls.toList[i]? = some false:=by
     have:=hun
     simp only [Array.getD_eq_getD_getElem?,his,getElem?_pos,Option.getD_some] at this
     simp [his,this]
    have:=count_set_true h1
    rw [Array.toList_setIfInBounds]
    omega
   have hstep:=floatSteps_get (ops.toList.take n) 0 i o hs hget vs W hi
    (fun j hj=>by
     obtain ⟨e,he,rfl⟩:=List.mem_map.1 hj
     obtain ⟨he1,he2⟩:=List.mem_filter.1 he
     have he1':e ∈ o.after:=by simpa using he1
     exact hg _ (by have:=hdeps i o hin ho e he1' he2;omega) (hafter e he1' he2))
    (fun v W'=>wpAny P md ops Q fuel (ls.setIfInBounds i true) ((putAll vs (ops.toList.take n) 0 a).put o.dst v) W')
    (fun v W' hgv hb hav=>by
     rw [Nat.zero_add] at hgv hav
     rw [putAll_set vs v _ 0 i a o hsl hget]
     refine ih (ls.setIfInBounds i true) _ W' hcount' (inv.set hir hin) (hI _ _ hi hb) (fun j hj hlj=>?_) (fun j k hj hk hlj hlk haj hak hjk=>?_)
     ·show G j (if j = 0 + i then v else vs j) W'
      by_cases hji:j = i
      ·subst hji
       rw [if_pos (by omega)];exact hgv
      ·rw [if_neg (by omega)]
       exact hG _ _ _ _ (hg j hj (by rw [getD_set_ne false (Ne.symm hji)] at hlj;exact hlj)) hb
     ·have old:∀ x,x < n → x ≠ i → (ls.setIfInBounds i true).getD x false = true → A x = true → ∀ q,v = .pointer (some ⟨q,0,none⟩) → q = W.heap.size → vs x ≠ v:=fun x hx hxi hlx hax q hv hq hne=>by
       obtain ⟨p,hp,hlt⟩:=hA x (vs x) W hax (hg x hx (by rw [getD_set_ne false (Ne.symm hxi)] at hlx;exact hlx))
       rw [hp,hv] at hne
       simp only [Value.pointer.injEq,Option.some.injEq,Addr.mk.injEq,and_true] at hne
       omega
      show (if j = 0 + i then v else vs j) ≠ (if k = 0 + i then v else vs k)
      by_cases hji:j = i
      ·subst hji
       rw [if_pos (by omega),if_neg (by omega)]
       exact Ne.symm (old k hk (Ne.symm hjk) hlk hak _ (hav haj) rfl)
      ·rw [if_neg (by omega)]
       by_cases hki:k = i
       ·subst hki
        rw [if_pos (by omega)]
        exact old j hj hji hlj haj _ (hav hak) rfl
       ·rw [if_neg (by omega)]
        exact hdist j k hj hk (by rw [getD_set_ne false (Ne.symm hji)] at hlj;exact hlj) (by rw [getD_set_ne false (Ne.symm hki)] at hlk;exact hlk) haj hak hjk)
   unfold wpOp
   simp only [ho]
   split
   ·rename_i hw
    rw [if_pos hw] at hstep
    exact .inl (floatOp_wp hstep fun _ _ h=>h)
   ·rename_i hw
    rw [if_neg hw] at hstep
    exact hstep
theorem wp_region_float {id:Nat} {Q:Exit → Act → World → Prop} {a:Act} {w:World} {l:List Oper} (n:Nat) (A:Nat → Bool) (G:Nat → Value → World → Prop) (I:World → Prop)
  (hm:P.follows .mixedOrders = true) (hB:floatB .any l.toArray n = true)
  (hG:∀ i v W W',G i v W → Below W.heap.size W W' → G i v W')
  (hA:∀ i v W,A i = true → G i v W → ∃ p,v = .pointer (some ⟨p,0,none⟩) ∧ p < W.heap.size)
  (hI:∀ W W',I W → Below W.heap.size W W' → I W') (hI0:I w)
  (hs:floatSteps P .any l.toArray A G I (fun vs=>putAll vs (l.take n) 0 a) (l.take n) 0)
  (hl:∀ vs W,I W → (∀ j,j < n → G j (vs j) W) → (∀ i j,i < n → j < n → A i = true → A j = true → i ≠ j → vs i ≠ vs j) →
   wpList P l.toArray Q (l.drop n) (putAll vs (l.take n) 0 a) W):(Code.region id l.toArray true).wp P Q a w:=by
 refine wp_region_any hm ?_
 obtain ⟨vs,hvs⟩:=putAll_self a (l.take n) 0
 have:=wp_float (md:=.any) (ops:=l.toArray) (Q:=Q) (a:=a) n hB hG hA hI hs hl l.toArray.size (Array.replicate l.toArray.size false) vs w.drew (by simp)
  ⟨by simp,fun _ _ _ z=>(by rw [getD_replicate_false] at z;cases z),fun t _ z=>getD_in (by simpa using z) (getD_replicate_false _ _)⟩
  (hI _ _ hI0 (Below.refl _ w).drew) (fun j _ z=>(by rw [getD_replicate_false] at z;cases z)) (fun i j _ _ z=>(by rw [getD_replicate_false] at z;cases z))
 rw [show putAll vs (List.take n l.toArray.toList) 0 a = a from hvs] at this
 exact this
def pick (vs:Nat → Value):List Nat → Nat → Nat → Value → Value
 | [],_,_,d=>d
 | x :: r,k,t,d=>if t = x then vs k else pick vs r (k + 1) t d
theorem pick_not {vs:Nat → Value}:∀ (ds:List Nat) (k t:Nat) (d:Value),t ∉ ds → pick vs ds k t d = d
 | [],_,_,_,_=>rfl
 | x :: r,k,t,d,h=>by
  simp only [List.mem_cons,not_or] at h
  simp only [pick,if_neg h.1]
  exact pick_not r (k + 1) t d h.2
theorem eval_put_same (a:Act) (d:Nat) (v:Value) (h:d < a.tmps.size):(a.put (some d) v).eval (.tmp d) = v:=by
 simp [Act.eval,Act.put,h]
theorem eval_put_other (a:Act) (d t:Nat) (v:Value) (h:t ≠ d):(a.put (some d) v).eval (.tmp t) = a.eval (.tmp t):=by
 simp [Act.eval,Act.put,Array.getElem?_setIfInBounds_ne (Ne.symm h)]
theorem put_size (a:Act) (d:Option Tmp) (v:Value):(a.put d v).tmps.size = a.tmps.size:=by
 cases d <;> simp [Act.put]
theorem putAll_size (vs:Nat → Value):∀ (l:List Oper) (k:Nat) (a:Act),(putAll vs l k a).tmps.size = a.tmps.size
 | [],_,_=>rfl
 | o :: r,k,a=>by simp only [putAll];rw [putAll_size vs r (k + 1) _,put_size]
def slotsAre (ds:List Nat):List Oper → Bool
 | []=>ds.isEmpty
 | o :: r=>match ds with
  | []=>false
  | d :: ds'=>o.dst == some d && !ds'.contains d && slotsAre ds' r
theorem putAll_pick (vs:Nat → Value) (t:Nat):∀ (l:List Oper) (ds:List Nat) (k:Nat) (a:Act),slotsAre ds l = true → (∀ d ∈ ds,d < a.tmps.size) →
  (putAll vs l k a).eval (.tmp t) = pick vs ds k t (a.eval (.tmp t))
 | [],ds,k,a,h,_=>by
  obtain rfl:ds = []:=by simpa [slotsAre] using h
  rfl
 | o :: r,[],_,_,h,_=>by simp [slotsAre] at h
 | o :: r,d :: ds,k,a,h,hd=>by
  simp only [slotsAre,Bool.and_eq_true,beq_iff_eq,Bool.not_eq_true',List.contains_eq_mem,decide_eq_false_iff_not] at h
  obtain ⟨⟨h1,h2⟩,h3⟩:=h
  simp only [putAll,pick]
  rw [putAll_pick vs t r ds (k + 1) _ h3 (fun d' hd'=>by rw [put_size];exact hd d' (by simp [hd'])),h1]
  by_cases e:t = d
  ·subst e
   rw [if_pos rfl,pick_not _ _ _ _ h2,eval_put_same _ _ _ (hd t (by simp))]
  ·rw [if_neg e,eval_put_other _ _ _ _ e]
theorem pick_nth {vs:Nat → Value}:∀ (ds:List Nat) (l:List Oper) (k i d:Nat) (x:Value),slotsAre ds l = true → ds[i]? = some d → pick vs ds k d x = vs (k + i)
 | [],_,_,_,_,_,_,h=>by simp at h
 | y :: ds,[],_,_,_,_,h,_=>by simp [slotsAre] at h
 | y :: ds,o :: r,k,i,d,x,h,hi=>by
  simp only [slotsAre,Bool.and_eq_true,beq_iff_eq,Bool.not_eq_true',List.contains_eq_mem,decide_eq_false_iff_not] at h
  obtain ⟨⟨h1,h2⟩,h3⟩:=h
  cases i with
  | zero =>
   obtain rfl:y = d:=by simpa using hi
   simp [pick]
  | succ i =>
   have hi':ds[i]? = some d:=by simpa using hi
   have hne:d ≠ y:=fun e=>h2 (e ▸ List.mem_of_getElem? hi')
   simp only [pick,if_neg hne]
   rw [pick_nth ds r (k + 1) i d x h3 hi',show k + 1 + i = k + (i + 1) by omega]
theorem slots_nth:∀ (ds:List Nat) (l:List Oper) (i:Nat) (o:Oper),slotsAre ds l = true → l[i]? = some o → ∃ d,ds[i]? = some d ∧ o.dst = some d
 | [],[],_,_,_,h=>by simp at h
 | [],o :: r,_,_,h,_=>by simp [slotsAre] at h
 | y :: ds,[],_,_,h,_=>by simp [slotsAre] at h
 | y :: ds,p :: r,i,o,h,hi=>by
  simp only [slotsAre,Bool.and_eq_true,beq_iff_eq] at h
  obtain ⟨⟨h1,h2⟩,h3⟩:=h
  cases i with
  | zero =>
   obtain rfl:p = o:=by simpa using hi
   exact ⟨y,rfl,h1⟩
  | succ i=>exact slots_nth ds r i o h3 (by simpa using hi)
def boolOf:Value → Option Bool
 | .bool b=>some b
 | _=>none
inductive Say
 
 | is (v:Value)
 
 | blk (t:TypeId) (cells:Array Value)
 
 | arr (t:TypeId) (cells:Array Value) (n cap:Nat)
 
 | own (S:Value → World → Prop) (h:∀ v W W',S v W → Below W.heap.size W W' → S v W')
def Say.holds (H:Nat):Say → Value → World → Prop
 | .is u,v,_=>v = u
 | .blk t cells,v,W=>∃ p,H ≤ p ∧ p < W.heap.size ∧ v = .pointer (some ⟨p,0,none⟩) ∧ W.heap[p]? = some (.cells cells t (0,0))
 | .arr t cells n cap,v,W=>∃ p,H ≤ p ∧ p < W.heap.size ∧ v = .slice (some ⟨p,0,none⟩) n cap ∧ W.heap[p]? = some (.cells cells t (0,0))
 | .own S _,v,W=>S v W
def Say.isBlk:Say → Bool
 | .blk _ _=>true
 | _=>false
theorem Say.stays {H:Nat} {s:Say} {v:Value} {W W':World} (h:s.holds H v W) (hb:Below W.heap.size W W'):s.holds H v W':=by
 cases s with
 | is u=>exact h
 | blk t cells=>obtain ⟨p,h1,h2,h3,h4⟩:=h;exact ⟨p,h1,Nat.lt_of_lt_of_le h2 hb.size,h3,(hb.block p h2).trans h4⟩
 | arr t cells n cap=>obtain ⟨p,h1,h2,h3,h4⟩:=h;exact ⟨p,h1,Nat.lt_of_lt_of_le h2 hb.size,h3,(hb.block p h2).trans h4⟩
 | own S k=>exact k _ _ _ h hb
def sayAt (L:List Say) (i:Nat):Say:=L.getD i (.own (fun _ _=>True) fun _ _ _ _ _=>trivial)
def FloatStep (P:Program) (H:Nat) (L:List Say) (ds:List Nat) (I:World → Prop) (a:Act) (i:Nat) (o:Oper):Prop :=
 ∀ (vs:Nat → Value) (W:World) (ρ:Operand → Value),(∀ t,ρ (.tmp t) = pick vs ds 0 t (a.eval (.tmp t))) → (∀ v,ρ (.const v) = v) → (∀ f,ρ (.func f) = .func (.func f) #[] #[]) → (∀ g,ρ (.global g) = .pointer (some ⟨g,0,none⟩)) →
  I W → H ≤ W.heap.size → (∀ j ∈ depsOf .any o,(sayAt L j).holds H (vs j) W) → ∀ R:Value → World → Prop,
  (∀ v W',(sayAt L i).holds H v W' → Below W.heap.size W W' → ((sayAt L i).isBlk = true → v = .pointer (some ⟨W.heap.size,0,none⟩)) → R v W') →
  if Region.wanted o (fun j=>boolOf (vs j)) then floatUpon P R ((execOp ρ o).run P W) else R undef W
def FloatAll (P:Program) (H:Nat) (L:List Say) (ds:List Nat) (I:World → Prop) (a:Act):List Oper → Nat → Prop
 | [],_=>True
 | o :: r,i=>FloatStep P H L ds I a i o ∧ FloatAll P H L ds I a r (i + 1)
def guardsB (n:Nat) (l:List Oper):Bool:=l.all fun o=>match o.guard with | none=>true | some (g,_)=>decide (g < n)
theorem wp_region_said {id:Nat} {Q:Exit → Act → World → Prop} {a:Act} {w:World} {l:List Oper} (n:Nat) (ds:List Nat) (L:List Say) (I:World → Prop)
  (hm:P.follows .mixedOrders = true) (hB:floatB .any l.toArray n = true) (hds:slotsAre ds (l.take n) = true) (hsz:ds.all (· < a.tmps.size) = true) (hgd:guardsB n (l.take n) = true)
  (hI:∀ W W',I W → Below W.heap.size W W' → I W') (hI0:I w)
  (hs:FloatAll P w.heap.size L ds I a (l.take n) 0)
  (hl:∀ vs W,I W → Below w.heap.size w W → (∀ j,j < n → (sayAt L j).holds w.heap.size (vs j) W) → (∀ i j,i < n → j < n → (sayAt L i).isBlk = true → (sayAt L j).isBlk = true → i ≠ j → vs i ≠ vs j) →
   wpList P l.toArray Q (l.drop n) (putAll vs (l.take n) 0 a) W):(Code.region id l.toArray true).wp P Q a w:=by
 have hsz':∀ d ∈ ds,d < a.tmps.size:=fun d hd=>by simpa using List.all_eq_true.1 hsz d hd
 have hyield:∀ vs i o,(l.take n)[i]? = some o → Region.wanted o (yielded l.toArray (putAll vs (l.take n) 0 a).tmps) = Region.wanted o (fun j=>boolOf (vs j)):=fun vs i o ho=>by
  unfold Region.wanted
  cases hg:o.guard with
  | none=>rfl
  | some gw =>
   obtain ⟨g,want⟩:=gw
   have hgn:g < n:=by
    have:=List.all_eq_true.1 hgd o (List.mem_of_getElem? ho)
    simpa [hg] using this
   have hn:n ≤ l.length:=by
    simp only [floatB,Bool.and_eq_true,decide_eq_true_eq] at hB
    simpa using hB.1.1.1.1
   have hgl:(l.take n)[g]? = some (l[g]'(by omega)):=by rw [List.getElem?_take,if_pos hgn];simp [show g < l.length by omega]
   obtain ⟨d,hd1,hd2⟩:=slots_nth ds (l.take n) g _ hds hgl
   have h1:(putAll vs (l.take n) 0 a).eval (.tmp d) = vs g:=by
    rw [putAll_pick vs d (l.take n) ds 0 a hds hsz',pick_nth ds (l.take n) 0 g d _ hds hd1,Nat.zero_add]
   have h2:d < (putAll vs (l.take n) 0 a).tmps.size:=by rw [putAll_size];exact hsz' d (List.mem_of_getElem? hd1)
   have h3:(putAll vs (l.take n) 0 a).tmps[d]? = some (vs g):=by
    simp only [Act.eval,Array.getD_eq_getD_getElem?,h2,getElem?_pos,Option.getD_some] at h1
    rw [Array.getElem?_eq_getElem h2,h1]
   have h4:(l.toArray[g]?).bind (·.dst) = some d:=by
    simp [show g < l.length by omega,hd2]
   have:yielded l.toArray (putAll vs (l.take n) 0 a).tmps g = boolOf (vs g):=by
    unfold yielded
    rw [h4,Option.bind_some,h3]
    cases vs g <;> rfl
   simp only [this]
 refine wp_region_float n (fun i=>(sayAt L i).isBlk) (fun i v W=>(sayAt L i).holds w.heap.size v W) (fun W=>I W ∧ Below w.heap.size w W) hm hB (fun i v W W' h hb=>Say.stays h hb)
  (fun i v W hblk h=>?_) (fun W W' h hb=>⟨hI _ _ h.1 hb,h.2.trans (hb.mono h.2.size)⟩) ⟨hI0,Below.refl _ _⟩ ?_ (fun vs W h hg hd=>hl vs W h.1 h.2 hg hd)
 ·cases hs':sayAt L i with
  | blk t cells=>rw [hs'] at h;obtain ⟨p,h1,h2,h3,h4⟩:=h;exact ⟨p,h3,h2⟩
  | is u=>rw [hs'] at hblk;cases hblk
  | arr t cells n cap=>rw [hs'] at hblk;cases hblk
  | own S k=>rw [hs'] at hblk;cases hblk
 ·have:∀ (m:List Oper) (k:Nat),(∀ i o,m[i]? = some o → (l.take n)[k + i]? = some o) → FloatAll P w.heap.size L ds I a m k →
    floatSteps P .any l.toArray (fun i=>(sayAt L i).isBlk) (fun i v W=>(sayAt L i).holds w.heap.size v W) (fun W=>I W ∧ Below w.heap.size w W) (fun vs=>putAll vs (l.take n) 0 a) m k:=by
   intro m
   induction m with
   | nil=>intro _ _ _;trivial
   | cons o r ih =>
    intro k hk h
    refine ⟨fun vs W hi hdep R hR=>?_,ih (k + 1) (fun i o' ho'=>by have:=hk (i + 1) o' (by simpa using ho');rw [show k + (i + 1) = k + 1 + i by omega] at this;exact this) h.2⟩
    have hstep:=h.1 vs W (putAll vs (l.take n) 0 a).eval (fun t=>putAll_pick vs t (l.take n) ds 0 a hds hsz') (fun _=>rfl) (fun _=>rfl) (fun _=>rfl) hi.1 hi.2.size hdep R hR
    rw [hyield vs k o (by have:=hk 0 o (by simp);simpa using this)]
    exact hstep
  exact this (l.take n) 0 (fun i o h=>by rw [Nat.zero_add];exact h) hs
end
end Go.Proofs.YtlfkhlfkckfbpaaGreat
namespace Go.Proofs.YtlfkhlfkckfbpaaGreat
namespace Lt
open Go.RowKit Bk
attribute [local go_sem ↓] Go.wp_at_zero Go.wp_at_succ
attribute [local go_sem] floatUpon pick
noncomputable def risesB (l:List ByteArray):Bool:=@decide (Rises l) (Classical.propDecidable _)
theorem risesB_true {l:List ByteArray} (h:Rises l):risesB l = true:=by unfold risesB;exact @decide_eq_true _ (Classical.propDecidable _) h
theorem risesB_false {l:List ByteArray} (h:¬ Rises l):risesB l = false:=by unfold risesB;exact @decide_eq_false _ (Classical.propDecidable _) h
theorem add_field (a:Addr) (n k:Nat) (hk:0 < k):(⟨(a.add n).block,(a.add n).off + k,none⟩:Addr) = a.add (n + k):=by
 unfold Addr.add
 by_cases h:n = 0
 ·rw [if_pos h,if_neg (by omega),h,Nat.zero_add]
 ·rw [if_neg h,if_neg (by omega)]
  simp only [Nat.add_assoc]
def WrsAt (w:World) (A:Option Addr) (l:List Wr):Prop :=
 0 < l.length → ∃ ad,A = some ad ∧ ad.block < w.heap.size ∧ ∀ i (h:i < l.length),w.cell? (ad.add (i * 3)) = some (.string l[i].key) ∧ w.cell? (ad.add (i * 3 + 1)) = some (.string l[i].shard) ∧ w.cell? (ad.add (i * 3 + 2)) = some (.bool l[i].dead)
theorem WrsAt.below {w w':World} {A:Option Addr} {l:List Wr} (h:WrsAt w A l) (hb:Below w.heap.size w w'):WrsAt w' A l:=fun hp=>by
 obtain ⟨ad,h1,h2,h3⟩:=h hp
 exact ⟨ad,h1,Nat.lt_of_lt_of_le h2 hb.size,fun i hi=>⟨(cell_kept hb _ (by rw [st_block];exact h2)).trans (h3 i hi).1,(cell_kept hb _ (by rw [st_block];exact h2)).trans (h3 i hi).2.1,(cell_kept hb _ (by rw [st_block];exact h2)).trans (h3 i hi).2.2⟩⟩
theorem WrsAt.alloc {w:World} {A:Option Addr} {l:List Wr} (h:WrsAt w A l) (o:Obj):WrsAt (w.alloc o) A l:=h.below ((Below.refl _ w).alloc (Nat.le_refl _) o)
theorem mem_take_succ {α:Type} {l:List α} {j:Nat} (h:j < l.length) {p:α → Prop} (h1:∀ x ∈ l.take j,p x) (h2:p l[j]):∀ x ∈ l.take (j + 1),p x:=by
 intro x hx
 rw [List.take_add_one,List.getElem?_eq_getElem h] at hx
 rcases List.mem_append.1 hx with hx | hx
 ·exact h1 x hx
 ·rw [Option.toList_some,List.mem_singleton] at hx
  rw [hx];exact h2
theorem keys_take {l:List Wr} {j:Nat} (h:j < l.length):strV ((l.map Wr.key).take (j + 1)) = strV ((l.map Wr.key).take j) ++ [.string l[j].key]:=by
 unfold strV
 rw [List.take_add_one,List.getElem?_map,List.getElem?_eq_getElem h,List.map_append]
 rfl
theorem wr_ext {x y:Wr} (h1:x.key = y.key) (h2:x.shard = y.shard) (h3:x.dead = y.dead):x = y:=by
 obtain ⟨a,b,c⟩:=x
 obtain ⟨d,e,f⟩:=y
 simp only at h1 h2 h3
 rw [h1,h2,h3]
instance:DecidableEq Wr:=fun x y=>decidable_of_iff (x.key = y.key ∧ x.shard = y.shard ∧ x.dead = y.dead) ⟨fun h=>wr_ext h.1 h.2.1 h.2.2,fun h=>by rw [h];exact ⟨rfl,rfl,rfl⟩⟩
end Lt
end Go.Proofs.YtlfkhlfkckfbpaaGreat
namespace Go.Proofs.YtlfkhlfkckfbpaaGreat
namespace Bk
open Go.RowKit
attribute [local go_sem ↓] Go.wp_at_zero Go.wp_at_succ
def intV (l:List Int):List Value:=l.map (Value.int .i64)
theorem intV_len (l:List Int):(intV l).length = l.length:=by simp [intV]
theorem intV_at {l:List Int} {i:Nat} (h:i < l.length):(intV l)[i]? = some (.int .i64 l[i]):=by
 unfold intV
 rw [List.getElem?_map,List.getElem?_eq_getElem h];rfl
theorem intV_snoc (O:List Int) (x:Int):intV (O ++ [x]) = intV O ++ [.int .i64 x]:=by simp [intV]
def IntsAt (w:World) (A:Option Addr) (l:List Int):Prop :=
 0 < l.length → ∃ ad,A = some ad ∧ ad.block < w.heap.size ∧ ∀ i (h:i < l.length),w.cell? (ad.add i) = some (.int .i64 l[i])
theorem IntsAt.below {w w':World} {A:Option Addr} {l:List Int} (h:IntsAt w A l) (hb:Below w.heap.size w w'):IntsAt w' A l:=fun hp=>by
 obtain ⟨ad,h1,h2,h3⟩:=h hp
 exact ⟨ad,h1,Nat.lt_of_lt_of_le h2 hb.size,fun i hi=>(cell_kept hb _ (by rw [st_block];exact h2)).trans (h3 i hi)⟩
theorem IntsAt.alloc {w:World} {A:Option Addr} {l:List Int} (h:IntsAt w A l) (o:Obj):IntsAt (w.alloc o) A l:=h.below ((Below.refl _ w).alloc (Nat.le_refl _) o)
theorem IntsAt.blk {w:World} {g:Nat} {t:TypeId} {l:List Int} (h:w.heap[g]? = some (.cells (intV l).toArray t (0,0))):IntsAt w (some ⟨g,0,none⟩) l:=fun _ =>
 ⟨_,rfl,(Array.getElem?_eq_some_iff.1 h).1,fun i hi=>by rw [addr_head];exact blk_cell h (by rw [List.getElem?_toArray];exact intV_at hi)⟩
theorem IntsAt.own {w:World} {H g n cap:Nat} {e:TypeId} {l:List Int} (h:w.ownsRow H e 1 (.slice (some ⟨g,0,none⟩) n cap) n (intV l)) (hl:n = l.length):IntsAt w (some ⟨g,0,none⟩) l:=fun hp=>by
 have hf:=World.ownsRow.cellAt h
 refine ⟨_,rfl,?_,fun i hi=>?_⟩
 ·obtain ⟨g',cap',hv,_,hlt⟩:=World.ownsRow.form h (by omega)
  simp only [Value.slice.injEq,Option.some.injEq,Addr.mk.injEq] at hv
  obtain ⟨⟨rfl,-⟩,-⟩:=hv
  exact hlt
 ·rw [addr_head,hf i (by omega)]
  exact intV_at hi
theorem ints_of_own {w:World} {H n:Nat} {v:Value} {e:TypeId} {O:List Int} (h:w.ownsRow H e 1 v n (intV O)) (hl:n = O.length):∃ (A:Option Addr) (c:Nat),v = .slice A n c ∧ IntsAt w A O:=by
 have h2:=h.2
 rcases h2 with ⟨h1,h2,h3⟩ | ⟨g,cap,cur,h1,_⟩
 ·exact ⟨none,0,h1,fun hp=>absurd hl (by omega)⟩
 ·subst h1
  exact ⟨_,_,rfl,IntsAt.own h hl⟩
theorem strs_of_own2 {w:World} {H n:Nat} {v:Value} {e:TypeId} {O:List ByteArray} (h:w.ownsRow H e 1 v n (strV O)) (hl:n = O.length):∃ (A:Option Addr) (c:Nat),v = .slice A n c ∧ StrsAt w A O:=by
 have h2:=h.2
 rcases h2 with ⟨h1,h2,h3⟩ | ⟨g,cap,cur,h1,_⟩
 ·exact ⟨none,0,h1,fun hp=>absurd hl (by omega)⟩
 ·subst h1
  exact ⟨_,_,rfl,StrsAt.own h hl⟩
end Bk
end Go.Proofs.YtlfkhlfkckfbpaaGreat
namespace Go.Proofs.YtlfkhlfkckfbpaaGreat
namespace Bk
open Go.ChangeShapes Go.WideShapes Go.ChangeAt Go.RowKit Go.Joins
section
variable {H:Type} {enc:TypeId × Value → H} {W:World}
theorem field_ints {t e:TypeId} {v:Value} {fuel:Nat} {y:DataW H × List MemPlace} (ht:Tryz.prog.underlying t = some (.slice e)) (he:Tryz.prog.underlying e = some (.int .i64)) (hc:Tryz.prog.cellsOf e = 1) (hb8:Tryz.prog.bytesOf e = 8)
  (hf:DataW.trod enc Tryz.prog W 0 (fun _=>true) true fuel t [v] = some y) (hwt:∀ k ∈ y.1.weights Tryz.prog t,k ≤ reachBytes) (hl:∀ x ∈ y.2,x.block < W.heap.size) :
  ∃ (A:Option Addr) (c:Nat) (L:List Int),v = .slice A L.length c ∧ IntsAt W A L ∧ L.length * 8 ≤ reachBytes ∧ L.length ≤ c ∧ c ≤ maxLen ∧ (∀ n ∈ L,-9223372036854775808 ≤ n ∧ n ≤ 9223372036854775807) ∧ (A = none → L = [] ∧ c = 0):=by
 rcases open_ints ht he hc hf with ⟨hcs,hx⟩ | ⟨a,len,cap,zs,hcs,_,hl',hm,hz,hx,hcell,hwz⟩
 ·obtain rfl:v = .slice none 0 0:=by simpa using hcs
  exact ⟨none,0,[],rfl,fun h=>absurd h (by simp),by simp,by simp,Nat.zero_le _,by simp,fun _=>⟨rfl,rfl⟩⟩
 ·obtain rfl:v = .slice (some a) len cap:=by simpa using hcs
  subst hx
  simp only [if_true] at hz
  have hlen:(zs.take len).length = len:=by rw [List.length_take];omega
  have hs:=hwt (((lits (H:=H) .i64 (zs.take len)).length + (lits (H:=H) .i64 (zs.drop len)).length) * Tryz.prog.bytesOf e) (by simp [DataW.weights,ht])
  rw [hb8] at hs
  have hs2:(zs.take len).length * 8 ≤ reachBytes:=by
   refine Nat.le_trans (Nat.mul_le_mul_right 8 ?_) hs
   simp only [lits,List.length_map]
   omega
  refine ⟨some a,cap,zs.take len,by rw [hlen],fun hpos=>⟨a,rfl,?_,fun i hi=>?_⟩,hs2,by rw [hlen];exact hl',hm,fun n hn=>?_,fun h=>by cases h⟩
  ·obtain ⟨b,off,spot⟩:=a
   exact hl (.cell b off) (MemPlace.mem_row.2 ⟨0,by omega,by simp⟩)
  ·have h1:=hcell i (by omega)
   rw [h1]
   congr 2
   rw [List.getElem_take,List.getD_eq_getElem?_getD,List.getElem?_eq_getElem (by omega),Option.getD_some]
  ·have:=hwz n (List.mem_of_mem_take hn)
   exact show IntKind.i64.min ≤ n ∧ n ≤ 9223372036854775807 by simpa [Lit.wf] using this
theorem arg_weights {ts:List TypeId} {ds:List (DataW H)} {j:Nat} {t:TypeId} {d:DataW H} (hsz:(DataW.weightsEach Tryz.prog ts ds).all (· ≤ reachBytes) = true) (hj:ts[j]? = some t) (hd:ds[j]? = some d):∀ k ∈ d.weights Tryz.prog t,k ≤ reachBytes:=fun k hk=>by
 have h1:=List.all_eq_true.1 hsz _ (DataW.weights_mem_each hj hd k hk)
 simpa using h1
end
end Bk
end Go.Proofs.YtlfkhlfkckfbpaaGreat
namespace Go.Proofs.YtlfkhlfkckfbpaaGreat
namespace Lt
open Go.ChangeShapes Go.WideShapes Go.ChangeAt Go.RowKit Go.Joins Go.Deep Bk
section
variable {H:Type} {enc:TypeId × Value → H} {W:World}
instance:Inhabited Wr:=⟨⟨⟨#[]⟩,⟨#[]⟩,false⟩⟩
structure LetRng (l:Let):Prop where
 kind:-9223372036854775808 ≤ l.kind ∧ l.kind ≤ 9223372036854775807
 src:-9223372036854775808 ≤ l.src ∧ l.src ≤ 9223372036854775807
 dst:-9223372036854775808 ≤ l.dst ∧ l.dst ≤ 9223372036854775807
 txn:-9223372036854775808 ≤ l.txn ∧ l.txn ≤ 9223372036854775807
 ts:-9223372036854775808 ≤ l.ts ∧ l.ts ≤ 9223372036854775807
 code:-9223372036854775808 ≤ l.code ∧ l.code ≤ 9223372036854775807
 text:l.text.size ≤ reachBytes
 k16:l.keys.length * 16 ≤ reachBytes
 w16:l.ws.length * 16 ≤ reachBytes
 kr:∀ s ∈ l.keys,s.size ≤ reachBytes
 wr:∀ x ∈ l.ws,x.key.size ≤ reachBytes ∧ x.shard.size ≤ reachBytes
def letV (l:Let) (A B:Option Addr) (c d:Nat):Value:=.agg #[.int .i64 l.kind,.int .i64 l.src,.int .i64 l.dst,.int .i64 l.txn,.int .i64 l.ts,.int .i64 l.code,.string l.text,.slice A l.keys.length c,.slice B l.ws.length d]
end
section
variable {H:Type} {enc:TypeId × Value → H} {W:World}
end
end Lt
end Go.Proofs.YtlfkhlfkckfbpaaGreat
namespace Go.Proofs.YtlfkhlfkckfbpaaGreat
namespace Lt
open Go.RowKit Bk
attribute [local go_sem ↓] Go.wp_at_zero Go.wp_at_succ
attribute [local go_sem] floatUpon pick
structure LtEnv (w W:World) (g:Nat) (A B:Option Addr) (c d:Nat) (l:Let):Prop where
 ks:StrsAt W A l.keys
 ws:WrsAt W B l.ws
 cel:Cel W g 270 [.int .i64 l.kind,.int .i64 l.src,.int .i64 l.dst,.int .i64 l.txn,.int .i64 l.ts,.int .i64 l.code,.string l.text,.slice A l.keys.length c,.slice B l.ws.length d]
 bel:Below w.heap.size w W
theorem LtEnv.step {w W W':World} {g:Nat} {A B:Option Addr} {c d:Nat} {l:Let} (h:LtEnv w W g A B c d l) (hb:Below W.heap.size W W'):LtEnv w W' g A B c d l :=
 ⟨h.ks.below hb,h.ws.below hb,h.cel.below hb,h.bel.trans (hb.mono h.bel.size)⟩
theorem LtEnv.start {w:World} {A B:Option Addr} {c d:Nat} {l:Let} (ha:StrsAt w A l.keys) (hb:WrsAt w B l.ws) :
  LtEnv w (w.alloc (.cells #[.int .i64 l.kind,.int .i64 l.src,.int .i64 l.dst,.int .i64 l.txn,.int .i64 l.ts,.int .i64 l.code,.string l.text,.slice A l.keys.length c,.slice B l.ws.length d] 270)) w.heap.size A B c d l :=
 ⟨ha.alloc _,hb.alloc _,(blk1 w _).2,(Below.refl _ w).alloc (Nat.le_refl _) _⟩
open Classical in
noncomputable def ckN (l:Let):Nat:=if LetOk l then 0 else 70
theorem ckN_zero {l:Let}:ckN l = 0 ↔ LetOk l:=by
 unfold ckN
 split
 ·next h=>exact ⟨fun _=>h,fun _=>rfl⟩
 ·next h=>exact ⟨fun e=>by omega,fun hh=>absurd hh h⟩
def OneOk (l:Let):Prop:=l.keys.length = 1 ∧ (∀ k ∈ l.keys,keyOk k) ∧ l.ws = []
def BareOk (l:Let):Prop:=l.keys = [] ∧ l.ws = [] ∧ l.text = ⟨#[]⟩
theorem kind_1 {l:Let} (h:l.kind = 1):kindOk l ↔ OneOk l ∧ l.text = ⟨#[]⟩ ∧ l.code = 0:=by
 constructor
 ·rintro (h2 | h2 | h2 | h2 | h2 | h2)
  ·exact h2.2
  all_goals omega
 ·intro h2;exact .inl ⟨h,h2⟩
theorem kind_2 {l:Let} (h:l.kind = 2):kindOk l ↔ OneOk l ∧ l.text.size ≤ 2052 ∧ (l.text = ⟨#[]⟩ ∨ l.code = 1):=by
 constructor
 ·rintro (h2 | h2 | h2 | h2 | h2 | h2)
  ·omega
  ·exact h2.2
  all_goals omega
 ·intro h2;exact .inr (.inl ⟨h,h2⟩)
theorem kind_3 {l:Let} (h:l.kind = 3):kindOk l ↔ l.keys.length ≤ 16 ∧ Rises l.keys ∧ WritesOk l.ws ∧ l.text = ⟨#[]⟩ ∧ l.code = 0:=by
 constructor
 ·rintro (h2 | h2 | h2 | h2 | h2 | h2)
  ·omega
  ·omega
  ·exact h2.2
  all_goals omega
 ·intro h2;exact .inr (.inr (.inl ⟨h,h2⟩))
theorem kind_4 {l:Let} (h:l.kind = 4):kindOk l ↔ BareOk l ∧ l.code ≤ 1:=by
 constructor
 ·rintro (h2 | h2 | h2 | h2 | h2 | h2)
  ·omega
  ·omega
  ·omega
  ·exact h2.2
  all_goals omega
 ·intro h2;exact .inr (.inr (.inr (.inl ⟨h,h2⟩)))
theorem kind_5 {l:Let} (h:l.kind = 5 ∨ l.kind = 6 ∨ l.kind = 7):kindOk l ↔ BareOk l ∧ l.code = 0:=by
 constructor
 ·rintro (h2 | h2 | h2 | h2 | h2 | h2)
  ·omega
  ·omega
  ·omega
  ·omega
  ·exact h2.2
  ·omega
 ·intro h2;exact .inr (.inr (.inr (.inr (.inl ⟨h,h2⟩))))
theorem kind_8 {l:Let} (h:l.kind = 8):kindOk l ↔ BareOk l ∧ l.code ≤ 2:=by
 constructor
 ·rintro (h2 | h2 | h2 | h2 | h2 | h2)
  ·omega
  ·omega
  ·omega
  ·omega
  ·omega
  ·exact h2.2
 ·intro h2;exact .inr (.inr (.inr (.inr (.inr ⟨h,h2⟩))))
theorem kind_no {l:Let} (h:l.kind < 1 ∨ 8 < l.kind):¬ kindOk l:=by
 rintro (h2 | h2 | h2 | h2 | h2 | h2) <;> omega
theorem empty_list {s:ByteArray} (h:s ≠ ⟨#[]⟩):¬ s.toList = []:=fun e=>h (by
 rw [ByteArray.toList_eq] at e
 obtain ⟨a⟩:=s
 congr 1
 exact Array.toList_inj.1 e)
theorem list_one {l:List ByteArray} (h:l.length = 1):∃ k,l = [k]:=by
 match l,h with
 | [k],_=>exact ⟨k,rfl⟩
end Lt
end Go.Proofs.YtlfkhlfkckfbpaaGreat
namespace Go.Proofs.YtlfkhlfkckfbpaaGreat
namespace Pk
open Go.RowKit Bk
attribute [local go_sem ↓] Go.wp_at_zero Go.wp_at_succ
attribute [local go_sem] floatUpon pick
theorem u8_wrap {x:Int} (h0:0 ≤ x) (h1:x < 256):IntKind.u8.wrap x = x:=by
 simp only [IntKind.wrap,IntKind.bits,IntKind.signed];simp;omega
def packV (A B:Option Addr) (c d:Nat) (ns:List Int) (ts:List ByteArray):Value:=.agg #[.slice A ns.length c,.slice B ts.length d]
theorem ckE_long {ns:List Int} {ts:List ByteArray} (h:1024 < ns.length ∨ 1024 < ts.length):ckE ns ts = 2:=by unfold ckE;rw [if_pos h]
theorem ckE_num {ns:List Int} {ts:List ByteArray} (h:¬ (1024 < ns.length ∨ 1024 < ts.length)) {z:Int} (hz:z ∈ ns) (hn:¬ numOk z):ckE ns ts = 1:=by
 unfold ckE
 rw [if_neg h,if_pos (fun hh=>hn (hh z hz))]
theorem ckE_text {ns:List Int} {ts:List ByteArray} (h:¬ (1024 < ns.length ∨ 1024 < ts.length)) (h2:∀ n ∈ ns,numOk n) {t:ByteArray} (ht:t ∈ ts) (hn:4096 < t.size):ckE ns ts = 2:=by
 unfold ckE
 rw [if_neg h,if_neg (fun hh=>hh h2),if_pos (fun hh=>by have:=hh t ht;omega)]
theorem ckE_ok {ns:List Int} {ts:List ByteArray} (h:¬ (1024 < ns.length ∨ 1024 < ts.length)) (h2:∀ n ∈ ns,numOk n) (h3:∀ t ∈ ts,t.size ≤ 4096):ckE ns ts = 0:=ckE_zero.2 ⟨by omega,by omega,h2,h3⟩
theorem mem_take_succ {α:Type} {l:List α} {j:Nat} (h:j < l.length) {p:α → Prop} (h1:∀ x ∈ l.take j,p x) (h2:p l[j]):∀ x ∈ l.take (j + 1),p x:=by
 intro x hx
 rw [List.take_add_one,List.getElem?_eq_getElem h] at hx
 rcases List.mem_append.1 hx with hx | hx
 ·exact h1 x hx
 ·rw [Option.toList_some,List.mem_singleton] at hx
  rw [hx];exact h2
theorem numsL_succ {ns:List Int} {j:Nat} (h:j < ns.length):numsL (ns.take (j + 1)) = numsL (ns.take j) ++ signed ns[j]:=by
 unfold numsL
 rw [List.take_add_one,List.getElem?_eq_getElem h,List.flatMap_append]
 simp
theorem textsL_succ {ts:List ByteArray} {j:Nat} (h:j < ts.length):textsL (ts.take (j + 1)) = textsL (ts.take j) ++ textL ts[j]:=by
 unfold textsL
 rw [List.take_add_one,List.getElem?_eq_getElem h,List.flatMap_append]
 simp
theorem bytesL_at {ns:List Int} {ts:List ByteArray} (h:MayBe ns ts) (j k:Nat):(plain ns.length ++ numsL (ns.take j)).length ≤ 5000000 ∧ (plain ns.length ++ (numsL ns ++ (plain ts.length ++ textsL (ts.take k)))).length ≤ 5000000:=by
 obtain ⟨h1,h2,h3,h4⟩:=h
 have b1:MayBe (ns.take j) []:=⟨by rw [List.length_take];omega,by simp,fun n hn=>h3 n (List.mem_of_mem_take hn),by simp⟩
 have a1:=plain_len 9 ns.length (by show _ < 9223372036854775808;omega) (by omega)
 have a2:=plain_len 9 ts.length (by show _ < 9223372036854775808;omega) (by omega)
 have a3:=numsL_le ns h3
 have a4:=numsL_le (ns.take j) (fun n hn=>h3 n (List.mem_of_mem_take hn))
 have a5:=textsL_le (ts.take k) (fun n hn=>h4 n (List.mem_of_mem_take hn))
 rw [List.length_take] at a4 a5
 simp only [List.length_append]
 omega
def PkEnv (w W:World) (g:Nat) (A B:Option Addr) (c d:Nat) (ns:List Int) (ts:List ByteArray):Prop :=
 IntsAt W A ns ∧ StrsAt W B ts ∧ Cel W g 148 [.slice A ns.length c,.slice B ts.length d] ∧ Below w.heap.size w W
theorem PkEnv.step {w W W':World} {g:Nat} {A B:Option Addr} {c d:Nat} {ns:List Int} {ts:List ByteArray} (h:PkEnv w W g A B c d ns ts) (hb:Below W.heap.size W W'):PkEnv w W' g A B c d ns ts :=
 ⟨h.1.below hb,h.2.1.below hb,h.2.2.1.below hb,h.2.2.2.trans (hb.mono h.2.2.2.size)⟩
theorem PkEnv.start {w:World} {A B:Option Addr} {c d:Nat} {ns:List Int} {ts:List ByteArray} (ha:IntsAt w A ns) (hb:StrsAt w B ts) :
  PkEnv w (w.alloc (.cells #[.slice A ns.length c,.slice B ts.length d] 148)) w.heap.size A B c d ns ts :=
 ⟨ha.alloc _,hb.alloc _,(blk1 w _).2,(Below.refl _ w).alloc (Nat.le_refl _) _⟩
theorem PkEnv.c0 {w W:World} {g:Nat} {A B:Option Addr} {c d:Nat} {ns:List Int} {ts:List ByteArray} (h:PkEnv w W g A B c d ns ts):W.cell? ⟨g,0,none⟩ = some (.slice A ns.length c):=h.2.2.1.cell rfl
theorem PkEnv.c1 {w W:World} {g:Nat} {A B:Option Addr} {c d:Nat} {ns:List Int} {ts:List ByteArray} (h:PkEnv w W g A B c d ns ts):W.cell? ⟨g,1,none⟩ = some (.slice B ts.length d):=h.2.2.1.cell rfl
def encV (ns:List Int) (ts:List ByteArray):Value:=if ckE ns ts = 0 then .tuple #[.string ⟨(bytesL ns ts).toArray⟩,.int .i64 0] else .tuple #[.string ⟨#[]⟩,.int .i64 (ckE ns ts:Int)]
theorem encV_ok {ns:List Int} {ts:List ByteArray} (h:MayBe ns ts):encV ns ts = .tuple #[.string ⟨(bytesL ns ts).toArray⟩,.int .i64 0]:=by unfold encV;rw [if_pos (ckE_zero.2 h)]
theorem encV_bad {ns:List Int} {ts:List ByteArray} (h:ckE ns ts ≠ 0):encV ns ts = .tuple #[.string ⟨#[]⟩,.int .i64 (ckE ns ts:Int)]:=by unfold encV;rw [if_neg h]
theorem ckE_le (ns:List Int) (ts:List ByteArray):ckE ns ts ≤ 2:=by
 unfold ckE
 split
 ·omega
 ·split
  ·omega
  ·split <;> omega
def InRange (ns:List Int) (ts:List ByteArray):Prop :=
 ns.length ≤ 9223372036854775807 ∧ ts.length ≤ 9223372036854775807 ∧ (∀ n ∈ ns,-9223372036854775808 ≤ n ∧ n ≤ 9223372036854775807) ∧ ∀ t ∈ ts,t.size ≤ 9223372036854775807
end Pk
end Go.Proofs.YtlfkhlfkckfbpaaGreat
