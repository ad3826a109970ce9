/- Parts of the proof, joined: ShL0; their conditions stand with each. -/
import Derived.Lib.SlKeysI
import Derived.Maps.OwnOps
import Derived.Maps.OwnSet
import Derived.Maps.Views
import Derived.Maps.Range
import Derived.Maps.RangeWalk
import Derived.Sort.KeysCollected
import Derived.WalkArith

set_option maxRecDepth 20000
set_option maxHeartbeats 8000000
namespace Go.Proofs.YtlfkhlfkckfbpaaGreat
namespace Sh
open Go.RowKit Go.Maps
def rdV (v:Value):Option (DataW Value × List MemPlace):=some (.held v,[])
structure KeyT (P:Program) (k:TypeId) (α:Type) where
 kv:α → Value
 kl:α → Lit
 ok:α → Prop
 key:∀ x,ok x → keyOf P k (kv x) = some (kl x)
 inv:∀ v l,keyOf P k v = some l → ∃ x,ok x ∧ v = kv x ∧ l = kl x
 inj:∀ x y,kl x = kl y → x = y
 keyed:Keyed P k
def strT {P:Program} {k:TypeId} (hk:P.underlying k = some .string):KeyT P k ByteArray where
 kv s:=.string s
 kl s:=.string s.data.toList
 ok s:=s.size ≤ maxLen
 key s hs:=WideMaps.keyOf_string_mk hk hs
 inv v l h:=by
  obtain ⟨s,rfl,rfl,hs⟩:=WideMaps.string_of_keyOf hk h
  exact ⟨s,hs,rfl,rfl⟩
 inj x y h:=by
  simp only [Lit.string.injEq] at h
  cases x;cases y
  congr 1
  exact Array.toList_inj.1 h
 keyed:=string_keyed hk
def intT {P:Program} {k:TypeId} (hk:P.underlying k = some (.int .i64)):KeyT P k Int where
 kv x:=.int .i64 x
 kl x:=.int .i64 x
 ok x:=(Lit.int .i64 x).wf = true
 key x hx:=keyOf_int_mk hk hx
 inv v l h:=by
  obtain ⟨x,rfl,rfl,hx⟩:=keyOf_int_inv hk h
  exact ⟨x,hx,rfl,rfl⟩
 inj x y h:=by injection h
 keyed:=int_keyed hk
section
variable {P:Program} {k:TypeId} {α:Type} (Q:KeyT P k α)
theorem KeyT.isKey {x:α} (h:Q.ok x):WideAt.IsKeyLit (Q.kl x):=Q.keyed.key (Q.key x h)
theorem KeyT.ne {x y:α} (h:x ≠ y):Q.kl x ≠ Q.kl y:=fun e=>h (Q.inj _ _ e)
structure MSays (D:DataW Value) (m:List (α × Value)):Prop where
 nodup:(m.map (·.1)).Nodup
 ok:∀ p ∈ m,Q.ok p.1
 has:∀ x,Maps.has D (Q.kl x) = true ↔ x ∈ m.map (·.1)
 at_:∀ p ∈ m,∀ z,D.atKey (Q.kl p.1) z = .held p.2
def MapIs (w:World) (b:Nat) (m:List (α × Value)):Prop:=∃ D,w.ownsMap P k rdV b m.length D ∧ MSays Q D m
def RangeIs (w:World) (b r:Nat) (m todo:List (α × Value)):Prop :=
 ∃ D left cnt,w.ranges P k rdV b r m.length D left cnt ∧ MSays Q D m ∧ (todo.map (·.1)).Nodup ∧ (∀ p ∈ todo,p ∈ m) ∧ ∀ x,left (Q.kl x) = true ↔ x ∈ todo.map (·.1)
variable {Q} {w w':World} {b r:Nat} {m m' todo:List (α × Value)}
theorem MSays.perm {D:DataW Value} (h:MSays Q D m) (hp:m.Perm m'):MSays Q D m' :=
 ⟨(hp.map _).nodup_iff.1 h.nodup,fun p hp'=>h.ok p (hp.mem_iff.2 hp'),fun x=>(h.has x).trans (hp.map _).mem_iff,fun p hp'=>h.at_ p (hp.mem_iff.2 hp')⟩
theorem MapIs.perm (h:MapIs Q w b m) (hp:m.Perm m'):MapIs Q w b m':=by
 obtain ⟨D,h1,h2⟩:=h
 exact ⟨D,hp.length_eq ▸ h1,h2.perm hp⟩
theorem MapIs.lt (h:MapIs Q w b m):b < w.heap.size:=by
 obtain ⟨D,h1,_⟩:=h
 exact h1.lt
theorem MapIs.nodup (h:MapIs Q w b m):(m.map (·.1)).Nodup:=by
 obtain ⟨D,_,h2⟩:=h
 exact h2.nodup
theorem MapIs.kept (h:MapIs Q w b m) (hk:w'.heap[b]? = w.heap[b]?):MapIs Q w' b m:=by
 obtain ⟨D,⟨es,clock,h1,h2⟩,h3⟩:=h
 exact ⟨D,⟨es,clock,hk.trans h1,h2⟩,h3⟩
theorem MapIs.below (h:MapIs Q w b m) (hb:Below w.heap.size w w'):MapIs Q w' b m:=h.kept (hb.block b h.lt)
theorem MapIs.isMap (h:MapIs Q w b m):∃ es clock,w.heap[b]? = some (.map es clock):=by
 obtain ⟨D,⟨es,clock,h1,_⟩,_⟩:=h
 exact ⟨es,clock,h1⟩
theorem MapIs.ne (h:MapIs Q w b m) {g:Nat} {cs:Array Value} {t:TypeId} {f:Nat × Nat} (hg:w.heap[g]? = some (.cells cs t f)):b ≠ g:=by
 obtain ⟨es,clock,h1⟩:=h.isMap
 rintro rfl
 rw [h1] at hg;cases hg
theorem mapIs_made (Q:KeyT P k α) (w:World):MapIs Q (w.alloc (.map #[] 0)) w.heap.size [] :=
 ⟨.map [],World.ownsMap_made _ _ _ _,⟨List.nodup_nil,by simp,fun x=>by simp [Maps.has],by simp⟩⟩
theorem says_size {n:Nat} {D:DataW Value} (h:w.ownsMap P k rdV b n D) (hs:MSays Q D m):Maps.size D = m.length:=by
 obtain ⟨es,hD,hpw,_⟩:=h.entries Q.keyed
 obtain ⟨es',hD',hko⟩:=h.keysOf
 obtain rfl:es = es':=by rw [hD] at hD';simpa using hD'
 subst hD
 have hnd:(es.map (·.1)).Nodup:=List.pairwise_map.2 hpw
 have hnm:(m.map (fun p=>Q.kl p.1)).Nodup:=by
  have:=hs.nodup
  rw [List.Nodup,List.pairwise_map] at this ⊢
  exact this.imp fun {a b} hne e=>hne (Q.inj _ _ e)
 have hperm:(es.map (·.1)).Perm (m.map (fun p=>Q.kl p.1)):=by
  refine (List.perm_ext_iff_of_nodup hnd hnm).2 fun l=>?_
  constructor
  ·intro hl
   obtain ⟨p,hp,rfl⟩:=List.mem_map.1 hl
   obtain ⟨v,hv⟩:=hko p hp
   obtain ⟨x,hx,rfl,e⟩:=Q.inv v p.1 hv
   have hh:Maps.has (DataW.map es) (Q.kl x) = true:=List.any_eq_true.2 ⟨p,hp,by rw [e];exact WideAt.sameKey_self (Q.isKey hx)⟩
   obtain ⟨q,hq,e2⟩:=List.mem_map.1 ((hs.has x).1 hh)
   exact List.mem_map.2 ⟨q,hq,by rw [e2,e]⟩
  ·intro hl
   obtain ⟨q,hq,rfl⟩:=List.mem_map.1 hl
   have hh:=(hs.has q.1).2 (List.mem_map.2 ⟨q,hq,rfl⟩)
   obtain ⟨p,hp,hk⟩:=List.any_eq_true.1 hh
   exact List.mem_map.2 ⟨p,hp,WideAt.sameKey_eq hk⟩
 have:=hperm.length_eq
 rw [List.length_map,List.length_map] at this
 rw [Maps.size_eq];exact this
theorem MapIs.len {t e:TypeId} (h:MapIs Q w b m) (ht:P.underlying t = some (.map k e)) (ty:TypeId):(Builtin.len_ #[t] ty #[.map (some b)]).run P w = .ok (.int .i64 (m.length:Int)) w:=by
 obtain ⟨D,h1,h2⟩:=h
 rw [h1.len ht ty,says_size h1 h2]
theorem MapIs.look {t e:TypeId} (h:MapIs Q w b m) (ht:P.underlying t = some (.map k e)) {z:Value} (hz:(zeroValue e).run P w = .ok z w) {x:α} {v:Value} (hm:(x,v) ∈ m) :
  (Instr.lookup t (.map (some b)) (Q.kv x) false).run P w = .ok v w:=by
 obtain ⟨D,h1,h2⟩:=h
 obtain ⟨u,ps,hrun,hR⟩:=h1.lookup Q.keyed ht hz (show rdV z = some (.held z,[]) from rfl) (Q.key x (h2.ok _ hm))
 rw [h2.at_ _ hm] at hR
 simp only [rdV,Option.some.injEq,Prod.mk.injEq,DataW.held.injEq] at hR
 rw [hrun,hR.1]
theorem MapIs.look_no {t e:TypeId} (h:MapIs Q w b m) (ht:P.underlying t = some (.map k e)) {z:Value} (hz:(zeroValue e).run P w = .ok z w) {x:α} (hx:Q.ok x) (hm:x ∉ m.map (·.1)) :
  (Instr.lookup t (.map (some b)) (Q.kv x) false).run P w = .ok z w:=by
 obtain ⟨D,h1,h2⟩:=h
 obtain ⟨u,ps,hrun,hR⟩:=h1.lookup Q.keyed ht hz (show rdV z = some (.held z,[]) from rfl) (Q.key x hx)
 have hh:Maps.has D (Q.kl x) = false:=by
  cases hc:Maps.has D (Q.kl x) with
  | false=>rfl
  | true=>exact absurd ((h2.has x).1 hc) hm
 rw [Maps.atKey_of_not_has hh] at hR
 simp only [rdV,Option.some.injEq,Prod.mk.injEq,DataW.held.injEq] at hR
 rw [hrun,hR.1]
theorem tightM {H:Type} {R:Value → Option (DataW H × List MemPlace)} {n:Nat} {D:DataW H} (h:w.ownsMap P k R b n D) {l:Nat} (hm:Maps.size D ≤ l):w.ownsMap P k R b l D:=by
 obtain ⟨es,clock,hb,F,hs,rfl⟩:=h
 refine ⟨es,clock,hb,F,?_,rfl⟩
 rw [Maps.size_eq,length_read] at hm
 exact hm
theorem turned_size {w w':World} {b:Nat} (h:w.mapTurned w' b):w'.heap.size = w.heap.size:=by
 obtain ⟨es,clock,es',clock',_,rfl⟩:=h
 simp [ChangeMaps.setBlock]
theorem turned_other {w w':World} {b:Nat} (h:w.mapTurned w' b) {k:Nat} (hk:k ≠ b):w'.heap[k]? = w.heap[k]?:=by
 obtain ⟨es,clock,es',clock',hb,rfl⟩:=h
 exact ChangeMaps.heap_setBlock_other hb _ hk
theorem RangeIs.map (h:RangeIs Q w b r m todo):MapIs Q w b m:=by
 obtain ⟨D,left,cnt,h1,h2,_⟩:=h
 exact ⟨D,h1.owns,h2⟩
theorem RangeIs.lt (h:RangeIs Q w b r m todo):r < w.heap.size:=by
 obtain ⟨D,left,cnt,h1,_⟩:=h
 exact h1.lt
theorem RangeIs.sub (h:RangeIs Q w b r m todo):∀ p ∈ todo,p ∈ m:=by
 obtain ⟨D,left,cnt,_,_,_,h1,_⟩:=h
 exact h1
theorem RangeIs.kept (h:RangeIs Q w b r m todo) (hb:w'.heap[b]? = w.heap[b]?) (hr:w'.heap[r]? = w.heap[r]?):RangeIs Q w' b r m todo:=by
 obtain ⟨D,left,cnt,⟨es,clock,since,seen,c0,h1,F,hs,hD,h2,rest⟩,h3⟩:=h
 exact ⟨D,left,cnt,⟨es,clock,since,seen,c0,hb.trans h1,F,hs,hD,hr.trans h2,rest⟩,h3⟩
theorem RangeIs.below (h:RangeIs Q w b r m todo) (hb:Below w.heap.size w w'):RangeIs Q w' b r m todo:=h.kept (hb.block b h.map.lt) (hb.block r h.lt)
theorem rangeLeft_kept (hb:w'.heap[b]? = w.heap[b]?) (hr:w'.heap[r]? = w.heap[r]?):w'.rangeLeft b r = w.rangeLeft b r:=by
 unfold World.rangeLeft
 rw [hb,hr]
theorem MapIs.range {t e:TypeId} (h:MapIs Q w b m) (ht:P.underlying t = some (.map k e)) :
  ∃ w',(Instr.range t (.map (some b))).run P w = .ok (.pointer (some ⟨w.heap.size,0,none⟩)) w' ∧ RangeIs Q w' b w.heap.size m m ∧ Below w.heap.size w w' ∧ w'.heap.size = w.heap.size + 1:=by
 obtain ⟨D,h1,h2⟩:=h
 obtain ⟨w',hrun,hr,hg,hs⟩:=h1.range Q.keyed ht
 exact ⟨w',hrun,⟨D,_,_,hr,h2,h2.nodup,fun p hp=>hp,fun x=>h2.has x⟩,⟨hg.os,hg.tape,hg.output,hg.size,fun i hi=>hg.block i hi (by simp)⟩,hs⟩
variable [DecidableEq α]
def outM (m:List (α × Value)) (x:α):List (α × Value):=m.filter (fun p=>decide (p.1 ≠ x))
theorem outM_mem {x:α} {p:α × Value}:p ∈ outM m x ↔ p ∈ m ∧ p.1 ≠ x:=by unfold outM;rw [List.mem_filter];simp
theorem outM_keys {x y:α}:y ∈ (outM m x).map (·.1) ↔ y ∈ m.map (·.1) ∧ y ≠ x:=by
 constructor
 ·intro h
  obtain ⟨p,hp,rfl⟩:=List.mem_map.1 h
  exact ⟨List.mem_map.2 ⟨p,(outM_mem.1 hp).1,rfl⟩,(outM_mem.1 hp).2⟩
 ·rintro ⟨h,hne⟩
  obtain ⟨p,hp,rfl⟩:=List.mem_map.1 h
  exact List.mem_map.2 ⟨p,outM_mem.2 ⟨hp,hne⟩,rfl⟩
theorem outM_nodup {x:α} (h:(m.map (·.1)).Nodup):((outM m x).map (·.1)).Nodup:=List.Nodup.sublist ((List.filter_sublist).map _) h
theorem outM_perm {x:α} {v:Value} (h:(m.map (·.1)).Nodup) (hm:(x,v) ∈ m):m.Perm ((x,v) :: outM m x):=by
 induction m with
 | nil=>cases hm
 | cons p r ih =>
  rw [List.map_cons,List.nodup_cons] at h
  rcases List.mem_cons.1 hm with rfl | hm
  ·have:outM ((x,v) :: r) x = r:=by
    unfold outM
    rw [List.filter_cons_of_neg (by simp)]
    exact List.filter_eq_self.2 fun q hq=>by
     simp only [decide_eq_true_eq]
     exact fun e=>h.1 (List.mem_map.2 ⟨q,hq,e⟩)
   rw [this]
  ·have hne:p.1 ≠ x:=fun e=>h.1 (List.mem_map.2 ⟨_,hm,e.symm⟩)
   have:outM (p :: r) x = p :: outM r x:=by unfold outM;rw [List.filter_cons_of_pos (by simpa using hne)]
   rw [this]
   exact ((ih h.2 hm).cons p).trans (List.Perm.swap _ _ _)
theorem outM_none {x:α} (h:x ∉ m.map (·.1)):outM m x = m:=List.filter_eq_self.2 fun q hq=>by
 simp only [decide_eq_true_eq]
 exact fun e=>h (List.mem_map.2 ⟨q,hq,e⟩)
theorem MSays.put {D:DataW Value} (h:MSays Q D m) (hD:Maps.IsMap D) {x:α} (hx:Q.ok x) (v:Value):MSays Q (D.put (Q.kl x) (.held v)) ((x,v) :: outM m x):=by
 refine ⟨?_,?_,fun y=>?_,?_⟩
 ·rw [List.map_cons,List.nodup_cons]
  exact ⟨fun hc=>(outM_keys.1 hc).2 rfl,outM_nodup h.nodup⟩
 ·intro p hp
  rcases List.mem_cons.1 hp with rfl | hp
  ·exact hx
  ·exact h.ok _ (outM_mem.1 hp).1
 ·by_cases e:y = x
  ·subst e
   exact ⟨fun _=>List.mem_cons_self ..,fun _=>Maps.has_put_same hD (Q.isKey hx) _⟩
  ·rw [Maps.has_put_other (Q.ne e),h.has y,List.map_cons,List.mem_cons,outM_keys]
   simp [e]
 ·intro p hp z
  rcases List.mem_cons.1 hp with rfl | hp
  ·exact Maps.atKey_put_same hD (Q.isKey hx) _ _
  ·obtain ⟨h1,h2⟩:=outM_mem.1 hp
   rw [Maps.atKey_put_other (Q.ne h2),h.at_ p h1]
theorem MapIs.store {t e:TypeId} (h:MapIs Q w b m) (ht:P.underlying t = some (.map k e)) (hn:m.length < maxLen) {x:α} (hx:Q.ok x) (v:Value) :
  ∃ w',(Instr.mapUpdate t (.map (some b)) (Q.kv x) v).run P w = .ok () w' ∧ MapIs Q w' b ((x,v) :: outM m x) ∧ w.mapTurned w' b:=by
 obtain ⟨D,h1,h2⟩:=h
 obtain ⟨w',hrun,ho,ht'⟩:=h1.store Q.keyed ht hn (Q.key x hx) (show rdV v = some (.held v,[]) from rfl)
 have hs:=h2.put h1.isMap hx v
 exact ⟨w',hrun,⟨_,tightM ho (by rw [says_size ho hs];exact Nat.le_refl _),hs⟩,ht'⟩
theorem RangeIs.next (h:RangeIs Q w b r m todo) (ty:TypeId) :
  (todo = [] ∧ (Instr.next (.pointer (some ⟨r,0,none⟩)) false ty).run P w = .ok (.tuple #[.bool false]) w) ∨
  ∃ (x:α) (v:Value) (todo':List (α × Value)) (w':World),todo.Perm ((x,v) :: todo') ∧ Q.ok x ∧ (Instr.next (.pointer (some ⟨r,0,none⟩)) false ty).run P w = .ok (.tuple #[.bool true,Q.kv x,v]) w' ∧
   RangeIs Q w' b r m todo' ∧ w'.rangeLeft b r < w.rangeLeft b r ∧ w.grownBy w' (some r) ∧ w'.heap.size = w.heap.size ∧ (Instr.entry (.pointer (some ⟨r,0,none⟩))).run P w' = .ok (.tuple #[Q.kv x,v]) w':=by
 obtain ⟨D,left,cnt,h1,h2,hnd,hsub,hl⟩:=h
 rcases h1.next Q.keyed ty with ⟨_,hl0,hrun⟩ | ⟨key,v,kl,y,w',cnt',hkey,hlk,hv,hat,hrun,hrg,hlt,hgr,hsz,hen⟩
 ·refine .inl ⟨?_,hrun⟩
  cases todo with
  | nil=>rfl
  | cons p t =>
   have:=(hl p.1).2 (List.mem_cons_self ..)
   rw [hl0] at this;cases this
 ·obtain ⟨x,hx,rfl,rfl⟩:=Q.inv key kl hkey
  obtain ⟨p,hp,e⟩:=List.mem_map.1 ((hl x).1 hlk)
  obtain ⟨px,pv⟩:=p
  simp only at e
  subst e
  have hpv:pv = v:=by
   have e1:=h2.at_ _ (hsub _ hp) (.held v)
   rw [hat] at e1
   simp only [rdV,Option.some.injEq] at hv
   rw [← hv] at e1
   simpa using e1.symm
  subst hpv
  have hpm:=outM_perm hnd hp
  refine .inr ⟨px,pv,outM todo px,w',hpm,hx,hrun,⟨D,_,cnt',hrg,h2,outM_nodup hnd,fun q hq=>hsub q (outM_mem.1 hq).1,fun z=>?_⟩,by rw [hrg.left_eq,h1.left_eq];exact hlt,hgr,hsz,hen⟩
  rw [outM_keys]
  by_cases e:z = px
  ·subst e
   simp [WideAt.sameKey_self (Q.isKey hx)]
  ·rw [Maps.sameKey_ne (Q.ne e)]
   simp [hl z,e]
end
section
variable {P:Program} {k:TypeId} {α:Type} {Q:KeyT P k α} {w:World} {ops:Array Oper} {rest:List Oper} {o:Oper} {a:Act} {K:Exit → Act → World → Prop}
theorem wpList_range_is (Q:KeyT P k α) (hg:o.guard = none) (x:Operand) (t e:TypeId) (hop:o.op = Op.range t x) (ht:P.underlying t = some (.map k e)) (b:Nat) (m:List (α × Value))
  (hm:a.eval x = .map (some b)) (h:MapIs Q w b m)
  (hK:∀ w',RangeIs Q w' b w.heap.size m m → Below w.heap.size w w' → w'.heap.size = w.heap.size + 1 → wpList P ops K rest (a.put o.dst (.pointer (some ⟨w.heap.size,0,none⟩))) w') :
  wpList P ops K (o :: rest) a w:=by
 refine wpList_plain hg fun K' hK'=>?_
 obtain ⟨w',hrun,r1,r2,r3⟩:=h.range ht
 unfold Oper.wp
 simp [execOp,hop,hm,hrun,Result.andThen]
 exact hK' _ _ (hK w' r1 r2 r3)
variable [DecidableEq α]
theorem wpList_next_is (Q:KeyT P k α) (hg:o.guard = none) (it:Operand) (hop:o.op = Op.next it false) (b r:Nat) (m todo:List (α × Value))
  (hit:a.eval it = .pointer (some ⟨r,0,none⟩)) (h:RangeIs Q w b r m todo)
  (hDone:todo = [] → wpList P ops K rest (a.put o.dst (.tuple #[.bool false])) w)
  (hMore:∀ (x:α) (v:Value) (todo':List (α × Value)) (w':World),todo.Perm ((x,v) :: todo') → Q.ok x → RangeIs Q w' b r m todo' → w'.rangeLeft b r < w.rangeLeft b r → w.grownBy w' (some r) → w'.heap.size = w.heap.size →
   (Instr.entry (.pointer (some ⟨r,0,none⟩))).run P w' = .ok (.tuple #[Q.kv x,v]) w' → wpList P ops K rest (a.put o.dst (.tuple #[.bool true,Q.kv x,v])) w') :
  wpList P ops K (o :: rest) a w:=by
 refine wpList_plain hg fun K' hK'=>?_
 unfold Oper.wp
 rcases h.next o.type with ⟨h0,hrun⟩ | ⟨x,v,todo',w',hp,hx,hrun,hrg,hlt,hgr,hsz,hen⟩
 ·simp [execOp,hop,hit,hrun,Result.andThen]
  exact hK' _ _ (hDone h0)
 ·simp [execOp,hop,hit,hrun,Result.andThen]
  exact hK' _ _ (hMore x v todo' w' hp hx hrg hlt hgr hsz hen)
theorem wpList_update_is (Q:KeyT P k α) (hg:o.guard = none) (x y z:Operand) (t e:TypeId) (hop:o.op = Op.mapUpdate t x y z) (ht:P.underlying t = some (.map k e)) (b:Nat) (m:List (α × Value))
  (hm:a.eval x = .map (some b)) (h:MapIs Q w b m) (hn:m.length < maxLen) (key:α) (hx:Q.ok key) (v:Value) (hy:a.eval y = Q.kv key) (hz:a.eval z = v)
  (hK:∀ w',MapIs Q w' b ((key,v) :: outM m key) → w.mapTurned w' b → wpList P ops K rest (a.put o.dst undef) w') :
  wpList P ops K (o :: rest) a w:=by
 refine wpList_plain hg fun K' hK'=>?_
 obtain ⟨w',hrun,r1,r2⟩:=h.store ht hn hx v
 unfold Oper.wp
 simp [execOp,hop,hm,hy,hz,hrun,Result.andThen]
 exact hK' _ _ (hK w' r1 r2)
end
end Sh
end Go.Proofs.YtlfkhlfkckfbpaaGreat
