/- Parts of the proof, joined: ScNone, FloatK, ScRef1, ScRef2, ScRef3, BkGrow, ScRef5, RdRef1, ScView, RdRef2, RdLog, RdRoom, RdSet, RdAll, RdOpenP; their conditions stand with each. -/
import Derived.Lib.Strings
import Derived.Lib.Walk
import Derived.Lib.BufferWrite
import Derived.Lib.Hide
import Derived.Laws.MakeOwn
import Derived.WalkKit
import Derived.Maps.AppendAt
import Derived.Test.YtbkanoblcojdfaaGreatV2
import Derived.Test.YtbkanoblcojdfaaGreatV3
import Derived.Test.YtbkanoblcojdfaaGreatV4
import Derived.Test.YtbkanoblcojdfaaGreatV6

set_option maxRecDepth 20000
set_option maxHeartbeats 8000000
namespace Go.Proofs.YtbkanoblcojdfaaGreat
namespace Sc
open Go.RowKit Bk
theorem zeros_cells:Lib.byteCells (List.replicate 64 (0:UInt8)) = List.replicate 64 (Value.int .u8 0):=by
 unfold Lib.byteCells
 rw [List.map_replicate];rfl
end Sc
end Go.Proofs.YtbkanoblcojdfaaGreat
namespace Go.Proofs.YtbkanoblcojdfaaGreat
open Go.RowKit
section
variable {P:Program} {ops:Array Oper} {md:Region.Mode}
def floatStepsK (K:World → World → Prop) (P:Program) (md:Region.Mode) (ops:Array Oper) (A:Nat → Bool) (G:Nat → Value → World → Prop) (I:World → Prop) (F:(Nat → Value) → Act):List Oper → Nat → Prop
 | [],_=>True
 | o :: r,i =>
  (∀ vs W,I W → (∀ j ∈ depsOf md o,G j (vs j) W) → ∀ R:Value → World → Prop,
   (∀ v W',G i v W' → K W W' → (A i = true → v = .pointer (some ⟨W.heap.size,0,none⟩)) → R v W') →
   if Region.wanted o (yielded ops (F vs).tmps) then floatOp P o (F vs) W R else R undef W) ∧
  floatStepsK K P md ops A G I F r (i + 1)
theorem floatStepsK_get {K:World → World → Prop} {A:Nat → Bool} {G:Nat → Value → World → Prop} {I:World → Prop} {F:(Nat → Value) → Act}:∀ (l:List Oper) (k i:Nat) (o:Oper),floatStepsK K P md ops A G I F l k → l[i]? = some o →
  ∀ vs W,I W → (∀ j ∈ depsOf md o,G j (vs j) W) → ∀ R:Value → World → Prop,
   (∀ v W',G (k + i) v W' → K W W' → (A (k + i) = true → v = .pointer (some ⟨W.heap.size,0,none⟩)) → R v W') →
   if Region.wanted o (yielded ops (F vs).tmps) then floatOp P o (F vs) W R else R undef W
 | [],_,_,_,_,h=>by simp at h
 | p :: r,k,0,o,hs,h=>by
  obtain rfl:p = o:=by simpa using h
  exact hs.1
 | p :: r,k,i + 1,o,hs,h=>by
  have:=floatStepsK_get r (k + 1) i o hs.2 (by simpa using h)
  rw [show k + 1 + i = k + (i + 1) by omega] at this
  exact this
theorem wp_floatK {K:World → World → Prop} {A:Nat → Bool} {G:Nat → Value → World → Prop} {I:World → Prop} {Q:Exit → Act → World → Prop} {a:Act} (n:Nat) (hB:floatB md ops n = true)
  (hG:∀ i v W W',G i v W → K W W' → G i v W')
  (hA:∀ i v W,A i = true → G i v W → ∃ p,v = .pointer (some ⟨p,0,none⟩) ∧ p < W.heap.size)
  (hI:∀ W W',I W → K W W' → I W')
  (hs:floatStepsK K P md ops A G I (fun vs=>putAll vs (ops.toList.take n) 0 a) (ops.toList.take n) 0)
  (hl:∀ vs W,I W → (∀ j,j < n → G j (vs j) W) → (∀ i j,i < n → j < n → A i = true → A j = true → i ≠ j → vs i ≠ vs j) →
   wpList P ops Q (ops.toList.drop n) (putAll vs (ops.toList.take n) 0 a) W) :
  ∀ (fuel:Nat) (ls:Array Bool) (vs:Nat → Value) (W:World),ls.toList.count false = fuel → HeadInv md ops n ls → I W →
   (∀ j,j < n → ls.getD j false = true → G j (vs j) W) →
   (∀ i j,i < n → j < n → ls.getD i false = true → ls.getD j false = true → A i = true → A j = true → i ≠ j → vs i ≠ vs j) →
   wpAny P md ops Q fuel ls (putAll vs (ops.toList.take n) 0 a) W:=by
 simp only [floatB,Bool.and_eq_true,Bool.or_eq_true,decide_eq_true_eq] at hB
 obtain ⟨⟨⟨⟨hn,hc⟩,hsl⟩,hd⟩,hseq⟩:=hB
 intro fuel
 induction fuel with
 | zero =>
  intro ls vs W hcount inv hi hg hdist
  have hall:∀ j,j < ops.size → ls.getD j false = true:=fun j hj=>by
   have hjs:j < ls.size:=by rw [inv.size];exact hj
   cases hb:ls[j] with
   | true=>simp [hjs,hb]
   | false=>exact absurd (List.count_pos_iff.2 (by rw [← hb];exact Array.mem_toList_iff.2 (Array.getElem_mem hjs)):0 < ls.toList.count false) (by omega)
  have hne:n = ops.size:=by
   rcases Nat.lt_or_ge n ops.size with h | h
   ·have h1:=inv.tail n (Nat.le_refl _) h
    have h2:=hall n h
    rw [getD_both h1] at h2
    cases h2
   ·omega
  subst hne
  refine ⟨?_,?_⟩
  ·refine List.eq_nil_iff_forall_not_mem.2 fun i hi=>?_
   obtain ⟨h0,o,ho,_⟩:=mem_ready.1 hi
   have:=hall i (Array.getElem?_eq_some_iff.1 ho).1
   rw [getD_both h0] at this
   cases this
  ·have:=hl vs W hi (fun j hj=>hg j hj (hall j hj)) (fun i j hi hj=>hdist i j hi hj (hall i hi) (hall j hj))
   rw [List.drop_of_length_le (by simp)] at this
   exact this
 | succ fuel ih =>
  intro ls vs W hcount inv hi hg hdist
  by_cases hall:∀ j,j < n → ls.getD j false = true
  ·have hlist:ls = (List.replicate n true ++ List.replicate (ops.size - n) false).toArray:=by
    apply Array.ext_getElem?
    intro j
    simp only [List.getElem?_toArray]
    rw [List.getElem?_append,List.length_replicate]
    by_cases h1:j < n
    ·have h2:=hall j h1
     have hjs:j < ls.size:=by rw [inv.size];omega
     rw [if_pos h1,List.getElem?_replicate,if_pos h1]
     simp only [Array.getD_eq_getD_getElem?,hjs,getElem?_pos,Option.getD_some] at h2 ⊢
     rw [h2]
    ·rw [if_neg h1,List.getElem?_replicate]
     by_cases h2:j < ops.size
     ·have h3:=inv.tail j (by omega) h2
      have hjs:j < ls.size:=by rw [inv.size];omega
      rw [if_pos (by omega)]
      simp only [Array.getD_eq_getD_getElem?,hjs,getElem?_pos,Option.getD_some] at h3 ⊢
      rw [h3]
     ·rw [if_neg (by omega),Array.getElem?_eq_none (by rw [inv.size];omega)]
   have hfuel:fuel + 1 = (ops.toList.drop n).length:=by
    rw [← hcount,hlist]
    simp [List.count_append,List.count_replicate]
   rw [hfuel]
   refine wpAny_of_seq (ops.toList.drop n) n ls _ W (fun j=>by simp [List.getElem?_drop]) ?_ (hl vs W hi (fun j hj=>hg j hj (hall j hj)) (fun i j hi hj=>hdist i j hi hj (hall i hi) (hall j hj)))
   rw [hlist,show (ops.toList.drop n).length = ops.size - n by simp]
   exact hseq
  ·
   have hleast:∃ i,i < n ∧ ls.getD i false = false ∧ ∀ j,j < i → ls.getD j false = true:=by
    have:∀ k,(∀ j,j < k → ls.getD j false = true) ∨ ∃ i,i < k ∧ ls.getD i false = false ∧ ∀ j,j < i → ls.getD j false = true:=by
     intro k
     induction k with
     | zero=>exact .inl fun j hj=>absurd hj (by omega)
     | succ k ihk =>
      rcases ihk with h | ⟨i,h1,h2,h3⟩
      ·cases hk:ls.getD k false with
       | true =>
        left
        intro j hj
        rcases Nat.lt_or_ge j k with h' | h'
        ·exact h j h'
        ·obtain rfl:j = k:=by omega
         exact hk
       | false=>exact .inr ⟨k,by omega,hk,h⟩
      ·exact .inr ⟨i,by omega,h2,h3⟩
    rcases this n with h | h
    ·exact absurd h hall
    ·exact h
   obtain ⟨i0,hi0,hi0f,hi0l⟩:=hleast
   have hdeps:∀ i o,i < n → ops[i]? = some o → ∀ e ∈ o.after,Region.binds md e = true → e.on < i:=fun i o hi ho e he hb=>by
    have h1:=List.all_eq_true.1 hd i (List.mem_range.2 hi)
    simp only [ho,Option.map_some,Option.getD_some,List.all_eq_true,decide_eq_true_eq] at h1
    exact h1 e.on (List.mem_map.2 ⟨e,List.mem_filter.2 ⟨by simpa using he,hb⟩,rfl⟩)
   have hi0s:i0 < ls.size:=by rw [inv.size];omega
   have hready0:i0 ∈ Region.ready md ops ls:=by
    refine mem_ready.2 ⟨getD_in hi0s hi0f,ops[i0]'(by omega),by simp [show i0 < ops.size by omega],fun e he hb=>?_⟩
    exact hi0l _ (hdeps i0 _ hi0 (by simp [show i0 < ops.size by omega]) e he hb)
   refine ⟨fun h=>absurd hready0 (by rw [h];simp),fun i hir=>?_⟩
   obtain ⟨hun,o,ho,hafter⟩:=mem_ready.1 hir
   have hio:i < ops.size:=(Array.getElem?_eq_some_iff.1 ho).1
   have hin:i < n:=by
    rcases Nat.lt_or_ge i n with h | h
    ·exact h
    ·rcases hc with h' | ⟨h1,h2⟩
     ·omega
     ·exact absurd hir (tail_waits h1 h2 (by omega) inv (n - i0) i0 rfl hi0 (getD_in hi0s hi0f) i h)
   have his:i < ls.size:=by rw [inv.size];omega
   have hget:(ops.toList.take n)[i]? = some o:=by
    rw [List.getElem?_take,if_pos hin]
    simpa using ho
   have hcount':(ls.setIfInBounds i true).toList.count false = fuel:=by
    have h1:ls.toList[i]? = some false:=by
     have:=hun
     simp only [Array.getD_eq_getD_getElem?,his,getElem?_pos,Option.getD_some] at this
     simp [his,this]
    have:=count_set_true h1
    rw [Array.toList_setIfInBounds]
    omega
   have hstep:=floatStepsK_get (ops.toList.take n) 0 i o hs hget vs W hi
    (fun j hj=>by
     obtain ⟨e,he,rfl⟩:=List.mem_map.1 hj
     obtain ⟨he1,he2⟩:=List.mem_filter.1 he
     have he1':e ∈ o.after:=by simpa using he1
     exact hg _ (by have:=hdeps i o hin ho e he1' he2;omega) (hafter e he1' he2))
    (fun v W'=>wpAny P md ops Q fuel (ls.setIfInBounds i true) ((putAll vs (ops.toList.take n) 0 a).put o.dst v) W')
    (fun v W' hgv hb hav=>by
     rw [Nat.zero_add] at hgv hav
     rw [putAll_set vs v _ 0 i a o hsl hget]
     refine ih (ls.setIfInBounds i true) _ W' hcount' (inv.set hir hin) (hI _ _ hi hb) (fun j hj hlj=>?_) (fun j k hj hk hlj hlk haj hak hjk=>?_)
     ·show G j (if j = 0 + i then v else vs j) W'
      by_cases hji:j = i
      ·subst hji
       rw [if_pos (by omega)];exact hgv
      ·rw [if_neg (by omega)]
       exact hG _ _ _ _ (hg j hj (by rw [getD_set_ne false (Ne.symm hji)] at hlj;exact hlj)) hb
     ·have old:∀ x,x < n → x ≠ i → (ls.setIfInBounds i true).getD x false = true → A x = true → ∀ q,v = .pointer (some ⟨q,0,none⟩) → q = W.heap.size → vs x ≠ v:=fun x hx hxi hlx hax q hv hq hne=>by
       obtain ⟨p,hp,hlt⟩:=hA x (vs x) W hax (hg x hx (by rw [getD_set_ne false (Ne.symm hxi)] at hlx;exact hlx))
       rw [hp,hv] at hne
       simp only [Value.pointer.injEq,Option.some.injEq,Addr.mk.injEq,and_true] at hne
       omega
      show (if j = 0 + i then v else vs j) ≠ (if k = 0 + i then v else vs k)
      by_cases hji:j = i
      ·subst hji
       rw [if_pos (by omega),if_neg (by omega)]
       exact Ne.symm (old k hk (Ne.symm hjk) hlk hak _ (hav haj) rfl)
      ·rw [if_neg (by omega)]
       by_cases hki:k = i
       ·subst hki
        rw [if_pos (by omega)]
        exact old j hj hji hlj haj _ (hav hak) rfl
       ·rw [if_neg (by omega)]
        exact hdist j k hj hk (by rw [getD_set_ne false (Ne.symm hji)] at hlj;exact hlj) (by rw [getD_set_ne false (Ne.symm hki)] at hlk;exact hlk) haj hak hjk)
   unfold wpOp
   simp only [ho]
   split
   ·rename_i hw
    rw [if_pos hw] at hstep
    exact .inl (floatOp_wp hstep fun _ _ h=>h)
   ·rename_i hw
    rw [if_neg hw] at hstep
    exact hstep
theorem wp_region_floatK {K:World → World → Prop} {id:Nat} {Q:Exit → Act → World → Prop} {a:Act} {w:World} {l:List Oper} (n:Nat) (A:Nat → Bool) (G:Nat → Value → World → Prop) (I:World → Prop)
  (hm:P.follows .mixedOrders = true) (hB:floatB .any l.toArray n = true)
  (hG:∀ i v W W',G i v W → K W W' → G i v W')
  (hA:∀ i v W,A i = true → G i v W → ∃ p,v = .pointer (some ⟨p,0,none⟩) ∧ p < W.heap.size)
  (hI:∀ W W',I W → K W W' → I W') (hKd:∀ W,K W W.drew) (hI0:I w)
  (hs:floatStepsK K P .any l.toArray A G I (fun vs=>putAll vs (l.take n) 0 a) (l.take n) 0)
  (hl:∀ vs W,I W → (∀ j,j < n → G j (vs j) W) → (∀ i j,i < n → j < n → A i = true → A j = true → i ≠ j → vs i ≠ vs j) →
   wpList P l.toArray Q (l.drop n) (putAll vs (l.take n) 0 a) W):(Code.region id l.toArray true).wp P Q a w:=by
 refine wp_region_any hm ?_
 obtain ⟨vs,hvs⟩:=putAll_self a (l.take n) 0
 have:=wp_floatK (K:=K) (md:=.any) (ops:=l.toArray) (Q:=Q) (a:=a) n hB hG hA hI hs hl l.toArray.size (Array.replicate l.toArray.size false) vs w.drew (by simp)
  ⟨by simp,fun _ _ _ z=>(by rw [getD_replicate_false] at z;cases z),fun t _ z=>getD_in (by simpa using z) (getD_replicate_false _ _)⟩
  (hI _ _ hI0 (hKd w)) (fun j _ z=>(by rw [getD_replicate_false] at z;cases z)) (fun i j _ _ z=>(by rw [getD_replicate_false] at z;cases z))
 rw [show putAll vs (List.take n l.toArray.toList) 0 a = a from hvs] at this
 exact this
def satK (L:List (Value → World → Prop)) (i:Nat):Value → World → Prop:=L.getD i fun _ _=>True
def FloatStepK (P:Program) (K:World → World → Prop) (L:List (Value → World → Prop)) (ds:List Nat) (I:World → Prop) (a:Act) (i:Nat) (o:Oper):Prop :=
 ∀ (vs:Nat → Value) (W:World) (ρ:Operand → Value),(∀ t,ρ (.tmp t) = pick vs ds 0 t (a.eval (.tmp t))) → (∀ v,ρ (.const v) = v) → (∀ f,ρ (.func f) = .func (.func f) #[] #[]) → (∀ g,ρ (.global g) = .pointer (some ⟨g,0,none⟩)) →
  I W → (∀ j ∈ depsOf .any o,satK L j (vs j) W) → ∀ R:Value → World → Prop,
  (∀ v W',satK L i v W' → K W W' → R v W') →
  if Region.wanted o (fun j=>boolOf (vs j)) then floatUpon P R ((execOp ρ o).run P W) else R undef W
def FloatAllK (P:Program) (K:World → World → Prop) (L:List (Value → World → Prop)) (ds:List Nat) (I:World → Prop) (a:Act):List Oper → Nat → Prop
 | [],_=>True
 | o :: r,i=>FloatStepK P K L ds I a i o ∧ FloatAllK P K L ds I a r (i + 1)
theorem wp_region_saidK {id:Nat} {Q:Exit → Act → World → Prop} {a:Act} {w:World} {l:List Oper} (n:Nat) (ds:List Nat) (L:List (Value → World → Prop)) (I:World → Prop) (K:World → World → Prop)
  (hm:P.follows .mixedOrders = true) (hB:floatB .any l.toArray n = true) (hds:slotsAre ds (l.take n) = true) (hsz:ds.all (· < a.tmps.size) = true) (hgd:guardsB n (l.take n) = true)
  (hL:∀ i v W W',satK L i v W → K W W' → satK L i v W') (hI:∀ W W',I W → K W W' → I W') (hKd:∀ W,K W W.drew) (hI0:I w)
  (hs:FloatAllK P K L ds I a (l.take n) 0)
  (hl:∀ vs W,I W → (∀ j,j < n → satK L j (vs j) W) → wpList P l.toArray Q (l.drop n) (putAll vs (l.take n) 0 a) W):(Code.region id l.toArray true).wp P Q a w:=by
 have hsz':∀ d ∈ ds,d < a.tmps.size:=fun d hd=>by simpa using List.all_eq_true.1 hsz d hd
 have hyield:∀ vs i o,(l.take n)[i]? = some o → Region.wanted o (yielded l.toArray (putAll vs (l.take n) 0 a).tmps) = Region.wanted o (fun j=>boolOf (vs j)):=fun vs i o ho=>by
  unfold Region.wanted
  cases hg:o.guard with
  | none=>rfl
  | some gw =>
   obtain ⟨g,want⟩:=gw
   have hgn:g < n:=by
    have:=List.all_eq_true.1 hgd o (List.mem_of_getElem? ho)
    simpa [hg] using this
   have hn:n ≤ l.length:=by
    simp only [floatB,Bool.and_eq_true,decide_eq_true_eq] at hB
    simpa using hB.1.1.1.1
   have hgl:(l.take n)[g]? = some (l[g]'(by omega)):=by rw [List.getElem?_take,if_pos hgn];simp [show g < l.length by omega]
   obtain ⟨d,hd1,hd2⟩:=slots_nth ds (l.take n) g _ hds hgl
   have h1:(putAll vs (l.take n) 0 a).eval (.tmp d) = vs g:=by
    rw [putAll_pick vs d (l.take n) ds 0 a hds hsz',pick_nth ds (l.take n) 0 g d _ hds hd1,Nat.zero_add]
   have h2:d < (putAll vs (l.take n) 0 a).tmps.size:=by rw [putAll_size];exact hsz' d (List.mem_of_getElem? hd1)
   have h3:(putAll vs (l.take n) 0 a).tmps[d]? = some (vs g):=by
    simp only [Act.eval,Array.getD_eq_getD_getElem?,h2,getElem?_pos,Option.getD_some] at h1
    rw [Array.getElem?_eq_getElem h2,h1]
   have h4:(l.toArray[g]?).bind (·.dst) = some d:=by
    simp [show g < l.length by omega,hd2]
   have:yielded l.toArray (putAll vs (l.take n) 0 a).tmps g = boolOf (vs g):=by
    unfold yielded
    rw [h4,Option.bind_some,h3]
    cases vs g <;> rfl
   simp only [this]
 refine wp_region_floatK (K:=K) n (fun _=>false) (fun i v W=>satK L i v W) I hm hB hL (fun i v W h=>by cases h) hI hKd hI0 ?_ (fun vs W h hg _=>hl vs W h hg)
 have:∀ (m:List Oper) (k:Nat),(∀ i o,m[i]? = some o → (l.take n)[k + i]? = some o) → FloatAllK P K L ds I a m k →
   floatStepsK K P .any l.toArray (fun _=>false) (fun i v W=>satK L i v W) I (fun vs=>putAll vs (l.take n) 0 a) m k:=by
  intro m
  induction m with
  | nil=>intro _ _ _;trivial
  | cons o r ih =>
   intro k hk h
   refine ⟨fun vs W hi hdep R hR=>?_,ih (k + 1) (fun i o' ho'=>by have:=hk (i + 1) o' (by simpa using ho');rw [show k + (i + 1) = k + 1 + i by omega] at this;exact this) h.2⟩
   have hstep:=h.1 vs W (putAll vs (l.take n) 0 a).eval (fun t=>putAll_pick vs t (l.take n) ds 0 a hds hsz') (fun _=>rfl) (fun _=>rfl) (fun _=>rfl) hi hdep R (fun v W' h1 h2=>hR v W' h1 h2 (fun h=>by cases h))
   rw [hyield vs k o (by have:=hk 0 o (by simp);simpa using this)]
   exact hstep
 exact this (l.take n) 0 (fun i o h=>by rw [Nat.zero_add];exact h) hs
end
end Go.Proofs.YtbkanoblcojdfaaGreat
namespace Go.Proofs.YtbkanoblcojdfaaGreat
namespace Sc
open Go.RowKit Bk
attribute [local go_sem ↓] Go.wp_at_zero Go.wp_at_succ
attribute [local go_sem] floatUpon pick
section
variable {w:World} {g:Nat} {ao an:Addr} {co cn:Nat} {so sn:List Value} {D:Dev}
end
section
variable {w:World} {g:Nat} {ao an:Addr} {co cn:Nat} {so sn:List Value} {D:Dev}
end
section
variable {w:World} {g:Nat} {ao an:Addr} {co cn:Nat} {so sn:List Value} {D:Dev}
end
end Sc
end Go.Proofs.YtbkanoblcojdfaaGreat
namespace Go.Proofs.YtbkanoblcojdfaaGreat
namespace Bk
open Go.RowKit
def GrK (T:TypeId) (r:Option Nat) (pre:List Value) (u:Value) (W W':World):Prop :=
 Below W.heap.size W W' ∨ ∃ (g:Nat) (cur:Array Value),r = some g ∧ W.heap[g]? = some (.cells cur T (0,0)) ∧ pre.length + 1 ≤ cur.size ∧ cur.toList.take pre.length = pre ∧ W' = W.setRow g (pre ++ [u] ++ cur.toList.drop (pre.length + 1)).toArray
section
variable {T:TypeId} {r:Option Nat} {pre:List Value} {u:Value} {w W W':World}
theorem GrK.grown (h:GrK T r pre u W W'):W.grownBy W' r:=by
 rcases h with h | ⟨g,cur,rfl,_,_,_,rfl⟩
 ·exact ⟨h.os,h.tape,h.output,h.size,fun k hk _=>h.block k hk⟩
 ·exact ⟨rfl,rfl,rfl,by simp,fun k _ hk=>setRow_other W g k _ (fun e=>hk (by rw [e]))⟩
theorem GrK.size (h:GrK T r pre u W W'):W.heap.size ≤ W'.heap.size:=h.grown.size
theorem GrK.cel {k:Nat} {t:TypeId} {xs:List Value} (h:Cel W k t xs) (hn:r ≠ some k) (hk:GrK T r pre u W W'):Cel W' k t xs:=(hk.grown.block k h.lt (fun e=>hn e.symm)).trans h
theorem GrK.blk {k:Nat} {o:Obj} (h:W.heap[k]? = some o) (hn:r ≠ some k) (hk:GrK T r pre u W W'):W'.heap[k]? = some o:=(hk.grown.block k (Array.getElem?_eq_some_iff.1 h).1 (fun e=>hn e.symm)).trans h
theorem GrK.first {H n:Nat} {v:Value} (h:W.ownsRow H T 1 v n pre) (hk:GrK T r pre u W W'):W'.ownsRow H T 1 v n pre:=by
 rcases hk with hb | ⟨g,cur,rfl,hg,hz,ht,rfl⟩
 ·exact st_keep h hb
 ·refine ⟨h.1,?_⟩
  rcases h.2 with h' | ⟨g2,cap2,cur2,hv,hH,hg2,h1,h2,h3,h4⟩
  ·exact .inl h'
  ·right
   by_cases e:g2 = g
   ·subst e
    rw [hg] at hg2
    simp only [Option.some.injEq,Obj.cells.injEq,and_true] at hg2
    obtain rfl:=hg2
    refine ⟨g2,cap2,_,hv,hH,setRow_heap W g2 _ _ T _ hg,h1,h2,?_,?_⟩
    ·rw [← h3]
     simp only [List.size_toArray,List.length_append,List.length_drop,Array.length_toList,List.length_singleton]
     omega
    ·rw [List.toList_toArray,List.append_assoc]
     have hl:pre.length = n * 1:=h.1
     rw [List.take_append_of_le_length (by omega),List.take_of_length_le (by omega)]
   ·exact ⟨g2,cap2,cur2,hv,hH,(setRow_other W g g2 _ e).trans hg2,h1,h2,h3,h4⟩
theorem GrK.more {H n:Nat} {v:Value} (h:W.ownsRow H T 1 v n (pre ++ [u])) (hk:GrK T r pre u W W'):W'.ownsRow H T 1 v n (pre ++ [u]):=by
 rcases hk with hb | ⟨g,cur,rfl,hg,hz,ht,rfl⟩
 ·exact st_keep h hb
 ·refine ⟨h.1,?_⟩
  rcases h.2 with h' | ⟨g2,cap2,cur2,hv,hH,hg2,h1,h2,h3,h4⟩
  ·exact .inl h'
  ·right
   by_cases e:g2 = g
   ·subst e
    rw [hg] at hg2
    simp only [Option.some.injEq,Obj.cells.injEq,and_true] at hg2
    obtain rfl:=hg2
    refine ⟨g2,cap2,_,hv,hH,setRow_heap W g2 _ _ T _ hg,h1,h2,?_,?_⟩
    ·rw [← h3]
     simp only [List.size_toArray,List.length_append,List.length_drop,Array.length_toList,List.length_singleton]
     omega
    ·rw [List.toList_toArray]
     have hl:(pre ++ [u]).length = n * 1:=h.1
     rw [List.take_append_of_le_length (by omega),List.take_of_length_le (by omega)]
   ·exact ⟨g2,cap2,cur2,hv,hH,(setRow_other W g g2 _ e).trans hg2,h1,h2,h3,h4⟩
theorem grown_none (h:W.grownBy W' none):Below W.heap.size W W':=⟨h.os,h.tape,h.output,h.size,fun k hk=>h.block k hk (by simp)⟩
theorem run_grow1 {P:Program} {H bytes o:Nat} {t ty:TypeId} {i:TypeInfo} {z v:Value} (ht:P.underlying t = some (.slice T)) (hi:P.info? T = some i) (hz:i.zero = some z) (hsize:i.size = 1) (hby:i.bytes = bytes) (hzs:z.cells.size = 1)
  (hown:W.ownsRow H T 1 v pre.length pre) (hr:r = v.ownBlock) (ho:W.heap[o]? = some (.cells #[u] T (0,0))) (h1:u.oneCell' = true)
  (h63:pre.length + 1 ≤ maxLen) (hbytes:(pre.length + 1) * bytes ≤ 140737488355328) (hbase:H ≤ W.heap.size) :
  ∃ v' W',(Builtin.append_ #[t,t] ty #[v,.slice (some ⟨o,0,none⟩) 1 1]).run P W = .ok v' W' ∧ W'.ownsRow H T 1 v' (pre.length + 1) (pre ++ [u]) ∧ GrK T r pre u W W' ∧ (v'.ownBlock = r ∨ v'.ownBlock = some W.heap.size):=by
 subst hr
 obtain ⟨v',w',hrun,h2,h3,_,h5⟩:=run_append_own_at (P:=P) W H t ty T i z 1 bytes ht hi hz hsize hby hzs (by decide) v pre.length pre hown ⟨o,0,none⟩ 1 1 [u] rfl (str_one ho) (fun q hq=>by simp at hq;subst hq;exact h1) h63 hbytes hbase
 refine ⟨v',w',hrun,h2,?_,h5⟩
 rcases hown.2 with ⟨h',h''⟩ | ⟨g,cap,cur,hv,hbg,hg,hnc,hcm,hcs,htake⟩
 ·subst h'
  exact .inl (grown_none h3)
 ·subst hv
  by_cases hroom:pre.length + 1 ≤ cap
  ·have hr2:=run_append_room (P:=P) W t ty T i ht hi g pre.length cap cur hg ⟨o,0,none⟩ 1 1 [u] (by rw [hsize];rfl) (str_one ho) (fun q hq=>by simp at hq;subst hq;exact h1) hroom (by rw [hsize];simp;omega)
   rw [hrun] at hr2
   simp only [Result.ok.injEq] at hr2
   refine .inr ⟨g,cur,rfl,hg,by omega,by rw [Nat.mul_one] at htake;exact htake,?_⟩
   rw [hr2.2,hsize,Nat.mul_one]
   rw [Nat.mul_one] at htake
   rw [htake];rfl
  ·have hr2:=run_append_grow (P:=P) W t ty T i z ht hi hz ⟨g,0,none⟩ pre.length cap pre (by rw [hsize,Nat.mul_one]) (hown.cells (g:=g) rfl) ⟨o,0,none⟩ 1 1 [u] (by rw [hsize];rfl) (str_one ho) (by omega) (by unfold maxLen at h63;omega) (growslice_fits (by unfold maxLen at h63;omega) (by rw [hby];exact hbytes))
   rw [hrun] at hr2
   simp only [Result.ok.injEq] at hr2
   left
   rw [hr2.2]
   exact (Below.refl _ W).drew.alloc (by simp) _
theorem satK_of {K:World → World → Prop} {L:List (Value → World → Prop)} (h:∀ S ∈ L,∀ v W W',S v W → K W W' → S v W'):∀ i v W W',satK L i v W → K W W' → satK L i v W':=fun i v W W' hs hk=>by
 unfold satK at hs ⊢
 rw [List.getD_eq_getElem?_getD] at hs ⊢
 cases e:L[i]? with
 | none=>trivial
 | some S =>
  rw [e] at hs
  exact h S (List.mem_of_getElem? e) v W W' hs hk
end
end Bk
end Go.Proofs.YtbkanoblcojdfaaGreat
namespace Go.Proofs.YtbkanoblcojdfaaGreat
namespace Sc
open Go.RowKit Bk
attribute [local go_sem ↓] Go.wp_at_zero Go.wp_at_succ
attribute [local go_sem] floatUpon pick
def TIs (u v:Value) (_:World):Prop:=v = u
def TArr (t:TypeId) (r:Option Nat) (u v:Value) (W:World):Prop:=∃ o,v = .slice (some ⟨o,0,none⟩) 1 1 ∧ W.heap[o]? = some (.cells #[u] t (0,0)) ∧ r ≠ some o
def TRow (t:TypeId) (X b:Nat) (r:Option Nat) (n:Nat) (xs:List Value) (v:Value) (W:World):Prop:=W.ownsRow X t 1 v n xs ∧ (v.ownBlock = r ∨ ∃ p,v.ownBlock = some p ∧ b ≤ p)
end Sc
end Go.Proofs.YtbkanoblcojdfaaGreat
namespace Go.Proofs.YtbkanoblcojdfaaGreat
namespace Rd
open Go.RowKit Sc Bk
attribute [local go_sem ↓] Go.wp_at_zero Go.wp_at_succ
attribute [local go_sem] floatUpon pick
def areaN (D:Dev):Nat:=(D.on.length - 2) / 2 * 64
section
variable {w:World} {g:Nat} {ao an:Addr} {co cn:Nat} {so sn:List Value} {D:Dev}
theorem u8_i64 (b:UInt8):IntKind.i64.wrap (b.toNat:Int) = (b.toNat:Int):=by
 have:=b.toNat_lt
 exact i64_wrap (by omega) (by omega)
end
end Rd
end Go.Proofs.YtbkanoblcojdfaaGreat
namespace Go.Proofs.YtbkanoblcojdfaaGreat
namespace Sc
def Idle (D:Dev):Prop:=D.left = 0 ∧ D.down = false
theorem new0_idle (n:Nat):Idle (new0 n):=⟨rfl,rfl⟩
theorem burn_idle {D:Dev} (h:Idle D):burn D = (D,false):=by unfold burn;rw [if_pos h.1]
theorem rd_up {D:Dev} (hd:D.down = false) {k:Nat} (hk:k < D.on.length):rdV D (k:Int) = (flushF D k,0):=by
 unfold rdV flushF
 rw [if_neg (by rw [hd];simp),if_neg (by omega),Int.toNat_natCast]
theorem wr_up {D:Dev} (hd:D.down = false) {k:Nat} (hk:k < D.on.length) {t:ByteArray} (ht:t.size = 64) :
  wrD D (k:Int) t = if (burn D).2 = true then ((burn D).1,90) else (⟨D.on,D.new.set k t,(burn D).1.left,(burn D).1.down⟩,0):=by
 unfold wrD
 rw [rd_up hd hk,if_neg (by simp),if_neg (by simpa using ht),Int.toNat_natCast]
theorem wr_idle {D:Dev} (h:Idle D) {k:Nat} (hk:k < D.on.length) {t:ByteArray} (ht:t.size = 64):wrD D (k:Int) t = (⟨D.on,D.new.set k t,0,false⟩,0):=by
 rw [wr_up h.2 hk ht,burn_idle h,if_neg (by simp),h.1,h.2]
theorem fl_idle {D:Dev} (h:Idle D):flD D = (⟨upd D.on D.on.length (flushF D),upd D.new D.on.length (fun _=>nil0),0,false⟩,0):=by
 unfold flD
 rw [if_neg (by rw [h.2];simp),burn_idle h,if_neg (by simp),h.1,h.2]
theorem not_nil {t:ByteArray} (ht:t.size = 64):t ≠ nil0:=fun e=>by rw [e] at ht;cases ht
theorem view_set {D:Dev} {k i:Nat} (hk:k < D.new.length) {t:ByteArray} (ht:t.size = 64) (l:Nat) (b:Bool):flushF ⟨D.on,D.new.set k t,l,b⟩ i = if i = k then t else flushF D i:=by
 unfold flushF
 simp only
 by_cases e:i = k
 ·subst e
  rw [if_pos rfl,List.getD_eq_getElem?_getD,List.getElem?_set_self hk]
  simp only [Option.getD_some]
  rw [if_neg (not_nil ht)]
 ·rw [if_neg e,List.getD_eq_getElem?_getD,List.getElem?_set_ne (Ne.symm e),← List.getD_eq_getElem?_getD]
theorem upd_getD {l:List ByteArray} {f:Nat → ByteArray} {i:Nat} (h:i < l.length):(upd l l.length f).getD i nil0 = f i:=by
 rw [getD_at (by rw [upd_len];exact h),upd_at _ h,if_pos h]
theorem nil_getD (l:List ByteArray) (i:Nat):(upd l l.length (fun _=>nil0)).getD i nil0 = nil0:=by
 rw [upd_all,List.getD_eq_getElem?_getD,List.getElem?_replicate]
 split <;> rfl
theorem view_clean {on new:List ByteArray} (hl:new.length = on.length) {f:Nat → ByteArray} {i:Nat} (h:i < on.length) (l:Nat) (b:Bool):flushF ⟨upd on on.length f,upd new on.length (fun _=>nil0),l,b⟩ i = f i:=by
 unfold flushF
 simp only
 rw [← hl,nil_getD,if_pos rfl,hl,upd_getD h]
def Clean (D:Dev):Prop:=∀ i,D.new.getD i nil0 = nil0
theorem fl_clean {D:Dev} (hl:D.new.length = D.on.length) (l:Nat) (b:Bool):Clean ⟨upd D.on D.on.length (flushF D),upd D.new D.on.length (fun _=>nil0),l,b⟩:=fun i=>by
 show (upd D.new D.on.length _).getD i nil0 = nil0
 rw [← hl];exact nil_getD _ _
theorem cr_view {D:Dev} (hl:D.new.length = D.on.length) (hc:Clean D) (ps:List Int) {i:Nat} (h:i < D.on.length):flushF (crD D ps) i = flushF D i:=by
 unfold crD
 rw [view_clean hl h]
 unfold tearF flushF
 rw [hc i,if_pos rfl,if_pos rfl]
theorem cr_len (D:Dev) (ps:List Int):(crD D ps).on.length = D.on.length:=upd_len _ _ _
end Sc
end Go.Proofs.YtbkanoblcojdfaaGreat
namespace Go.Proofs.YtbkanoblcojdfaaGreat
namespace Rd
open Go.RowKit Sc Bk
attribute [local go_sem ↓] Go.wp_at_zero Go.wp_at_succ
attribute [local go_sem] floatUpon pick
def areaAt (D:Dev) (a:Nat):Nat:=2 + a * (areaN D / 64)
def catS (D:Dev) (a i:Nat):List UInt8:=(List.range i).flatMap fun k=>(flushF D (areaAt D a + k)).data.toList
def storedL (D:Dev) (a l:Nat):List UInt8:=(catS D a ((l + 63) / 64)).take l
theorem catS_succ (D:Dev) (a i:Nat):catS D a (i + 1) = catS D a i ++ (flushF D (areaAt D a + i)).data.toList:=by
 unfold catS;rw [List.range_succ,List.flatMap_append];simp
theorem area_fit {D:Dev} (h:4 ≤ D.on.length) {a k:Nat} (ha:a ≤ 1) (hk:k < areaN D / 64):areaAt D a + k < D.on.length:=by
 unfold areaAt areaN at *
 rw [Nat.mul_div_cancel _ (by omega)] at *
 have:a = 0 ∨ a = 1:=by omega
 rcases this with rfl | rfl <;> omega
theorem catS_len {D:Dev} (hok:DevOk D) (h:4 ≤ D.on.length) {a:Nat} (ha:a ≤ 1):∀ i,i ≤ areaN D / 64 → (catS D a i).length = 64 * i
 | 0,_=>rfl
 | i + 1,hi=>by
  have h64:(flushF D (areaAt D a + i)).data.toList.length = 64:=by rw [Array.length_toList];exact flush64 hok (area_fit h ha (by omega))
  rw [catS_succ,List.length_append,catS_len hok h ha i (by omega),h64]
  omega
section
variable {w:World} {g:Nat} {ao an:Addr} {co cn:Nat} {so sn:List Value} {D:Dev}
end
structure Lg where
 cnt:Nat
 ar:Nat
 bs:List UInt8
 ts:List ByteArray
 mn:Nat
def frs (ts:List ByteArray) (a b:Nat):List UInt8:=((ts.take b).drop a).flatMap fun s=>Su.frameL s.data.toList
def waitL (l:Lg):List UInt8:=frs l.ts l.mn l.ts.length
theorem frs_same (ts:List ByteArray) (a:Nat):frs ts a a = []:=by
 unfold frs
 rw [List.drop_of_length_le (by rw [List.length_take];omega)];rfl
theorem frs_succ {ts:List ByteArray} {a b:Nat} (h:a ≤ b) (hb:b < ts.length):frs ts a (b + 1) = frs ts a b ++ Su.frameL ts[b].data.toList:=by
 unfold frs
 rw [List.take_add_one,List.getElem?_eq_getElem hb,List.drop_append_of_le_length (by rw [List.length_take];omega),List.flatMap_append]
 simp
section
variable {w w':World} {k g:Nat} {A:Option Addr} {c:Nat} {l:Lg}
end
structure LgOk (D:Dev) (l:Lg):Prop where
 dev:4 ≤ D.on.length
 ar:l.ar ≤ 1
 mn:l.mn ≤ l.ts.length
 room:l.bs.length + (waitL l).length ≤ areaN D
 many:l.ts.length ≤ 1000000
def roomN (D:Dev) (l:Lg):Nat:=areaN D - l.bs.length - (waitL l).length
section
variable {w:World} {k g:Nat} {ao an:Addr} {co cn:Nat} {so sn:List Value} {A:Option Addr} {c:Nat} {l:Lg} {D:Dev}
end
end Rd
end Go.Proofs.YtbkanoblcojdfaaGreat
namespace Go.Proofs.YtbkanoblcojdfaaGreat
namespace Rd
open Go.RowKit Sc Bk
def rowB (all:List UInt8) (i k:Nat):List UInt8:=(all.drop (64 * i)).take k ++ List.replicate (64 - k) 0
def limB (all:List UInt8) (i:Nat):Nat:=min 64 (all.length - 64 * i)
def blkB (all:List UInt8) (i:Nat):ByteArray:=⟨(rowB all i (limB all i)).toArray⟩
theorem rowB_len {all:List UInt8} {i k:Nat} (h:k ≤ limB all i):(rowB all i k).length = 64:=by
 unfold limB at h
 unfold rowB
 rw [List.length_append,List.length_take,List.length_drop,List.length_replicate]
 omega
theorem blkB_size (all:List UInt8) (i:Nat):(blkB all i).size = 64:=by
 unfold blkB
 rw [text_size,rowB_len (Nat.le_refl _)]
def wrs (base:Nat) (all:List UInt8):Nat → Nat → Dev → Dev × Int
 | _,0,D=>(D,0)
 | i,n + 1,D=>if (wrD D ((base + i:Nat):Int) (blkB all i)).2 = 0 then wrs base all (i + 1) n (wrD D ((base + i:Nat):Int) (blkB all i)).1 else wrD D ((base + i:Nat):Int) (blkB all i)
def manyW (old more:List UInt8):Nat:=if more = [] then 0 else ((old ++ more).length + 63) / 64 - old.length / 64
def andD (r:Dev × Int) (f:Dev → Dev × Int):Dev × Int:=if r.2 = 0 then f r.1 else r
def settleP (D:Dev) (cnt a:Nat) (old more:List UInt8):Dev × Int :=
 andD (wrs (areaAt D a) (old ++ more) (old.length / 64) (manyW old more) D) fun D1 =>
 andD (if more = [] then (D1,0) else flD D1) fun D2 =>
 andD (wrD D2 (((cnt + 1) % 2:Nat):Int) (headB (cnt + 1) a (old ++ more).length)) fun D3=>flD D3
theorem wrD_on (D:Dev) (i:Int) (t:ByteArray):(wrD D i t).1.on = D.on:=by
 unfold wrD
 split
 ·rfl
 split
 ·rfl
 split
 ·exact (burn_parts D).1
 ·rfl
theorem areaN_on {D E:Dev} (h:E.on.length = D.on.length):areaN E = areaN D:=by unfold areaN;rw [h]
theorem areaAt_on {D E:Dev} (h:E.on.length = D.on.length) (a:Nat):areaAt E a = areaAt D a:=by unfold areaAt;rw [areaN_on h]
theorem flD_len (D:Dev):(flD D).1.on.length = D.on.length:=by
 unfold flD
 split
 ·rfl
 split
 ·rw [(burn_parts D).1]
 ·exact upd_len _ _ _
theorem wrs_len (base:Nat) (all:List UInt8):∀ n i D,(wrs base all i n D).1.on.length = D.on.length
 | 0,_,_=>rfl
 | n + 1,i,D=>by
  unfold wrs
  split
  ·rw [wrs_len base all n (i + 1),wrD_on]
  ·rw [wrD_on]
theorem wrs_ok (base:Nat) (all:List UInt8):∀ n i D,DevOk D → DevOk (wrs base all i n D).1
 | 0,_,_,h=>h
 | n + 1,i,D,h=>by
  unfold wrs
  split
  ·exact wrs_ok base all n (i + 1) _ (wrD_ok h _ _)
  ·exact wrD_ok h _ _
end Rd
end Go.Proofs.YtbkanoblcojdfaaGreat
namespace Go.Proofs.YtbkanoblcojdfaaGreat
namespace Rd
open Go.RowKit Su Bk
attribute [local go_sem ↓] Go.wp_at_zero Go.wp_at_succ
attribute [local go_sem] floatUpon pick
theorem strs_own_new {w:World} {H n:Nat} {v:Value} {O:List ByteArray} {e:TypeId} (h:w.ownsRow H e 1 v n (strV O)) (hl:n = O.length):∃ (A:Option Addr) (c:Nat),v = .slice A n c ∧ StrsAt w A O ∧ (∀ x,A = some x → H ≤ x.block) ∧ (A = none → c = 0):=by
 have h2:=h.2
 rcases h2 with ⟨h1,h2,h3⟩ | ⟨g,cap,cur,h1,hH,_⟩
 ·exact ⟨none,0,h1,fun hp=>absurd hl (by omega),fun x hx=>(by cases hx),fun _=>rfl⟩
 ·subst h1
  exact ⟨_,_,rfl,StrsAt.own h hl,fun x hx=>by cases hx;exact hH,fun hx=>by cases hx⟩
end Rd
end Go.Proofs.YtbkanoblcojdfaaGreat
namespace Go.Proofs.YtbkanoblcojdfaaGreat
namespace Rd
open Go.RowKit Sc Bk
def hdsP (D:Dev):Nat → Option (Nat × Nat × Nat)
 | 0=>none
 | i + 1 =>
  if okH (areaN D) (flushF D i).data.toList ∧ (∀ h,hdsP D i = some h → h.1 < cOf (flushF D i).data.toList) then
   some (cOf (flushF D i).data.toList,aOf (flushF D i).data.toList,lOf (flushF D i).data.toList)
  else hdsP D i
def openP (D:Dev):Dev × Option Lg × Int :=
 if D.on.length < 4 then (D,none,4) else
 if D.down = true then (D,none,90) else
 match hdsP D 2 with
 | none =>
  if (andD (wrD D 1 (headB 1 0 0)) flD).2 = 0 then ((andD (wrD D 1 (headB 1 0 0)) flD).1,some ⟨1,0,[],[],0⟩,0)
  else ((andD (wrD D 1 (headB 1 0 0)) flD).1,none,(andD (wrD D 1 (headB 1 0 0)) flD).2)
 | some (c,a,n) =>
  if (Su.allR ⟨(storedL D a n).toArray⟩).2.2 = 0 then (D,some ⟨c,a,storedL D a n,(Su.allR ⟨(storedL D a n).toArray⟩).1,(Su.allR ⟨(storedL D a n).toArray⟩).1.length⟩,0)
  else (D,none,101)
theorem hds_ok {D:Dev}:∀ {i:Nat} {h:Nat × Nat × Nat},hdsP D i = some h → 1 ≤ h.1 ∧ h.1 ≤ 4611686018427387904 ∧ h.2.1 ≤ 1 ∧ h.2.2 ≤ areaN D
 | 0,h,e=>by cases e
 | i + 1,h,e=>by
  unfold hdsP at e
  split at e
  next hc =>
   cases e
   obtain ⟨⟨h1,h2,h3,h4,_⟩,_⟩:=hc
   exact ⟨h1,h2,h3,h4⟩
  ·exact hds_ok e
end Rd
end Go.Proofs.YtbkanoblcojdfaaGreat
