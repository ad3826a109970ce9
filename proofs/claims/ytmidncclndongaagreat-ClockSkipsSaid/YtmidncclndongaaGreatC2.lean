/- Parts of the proof, joined: LtWrs, LtSame, BkInts, BkOpen, LtOpen, LtOpen2, LtEnv, PkRef, PkRef2, PkRef3; their conditions stand with each. -/
import Derived.WalkKit
import Derived.ProofKit
import Derived.SizedLaws
import Derived.ChangeSlices
import Derived.SliceStrings
import Derived.Carry
import Derived.Lib.SmallJoins
import Derived.Deep.SlicePairs
import Derived.Deep.Cut
import Derived.Deep.CutRange
import Derived.Deep.DeepCutAuto
import Derived.Test.YtmidncclndongaaGreatC0
import Derived.Test.YtmidncclndongaaGreatC1

set_option maxRecDepth 20000
set_option maxHeartbeats 8000000
namespace Go.Proofs.YtmidncclndongaaGreat
namespace Lt
open Go.RowKit Bk
attribute [local go_sem ↓] Go.wp_at_zero Go.wp_at_succ
attribute [local go_sem] floatUpon pick
theorem add_field (a:Addr) (n k:Nat) (hk:0 < k):(⟨(a.add n).block,(a.add n).off + k,none⟩:Addr) = a.add (n + k):=by
 unfold Addr.add
 by_cases h:n = 0
 ·rw [if_pos h,if_neg (by omega),h,Nat.zero_add]
 ·rw [if_neg h,if_neg (by omega)]
  simp only [Nat.add_assoc]
def WrsAt (w:World) (A:Option Addr) (l:List Wr):Prop :=
 0 < l.length → ∃ ad,A = some ad ∧ ad.block < w.heap.size ∧ ∀ i (h:i < l.length),w.cell? (ad.add (i * 3)) = some (.string l[i].key) ∧ w.cell? (ad.add (i * 3 + 1)) = some (.string l[i].shard) ∧ w.cell? (ad.add (i * 3 + 2)) = some (.bool l[i].dead)
theorem WrsAt.below {w w':World} {A:Option Addr} {l:List Wr} (h:WrsAt w A l) (hb:Below w.heap.size w w'):WrsAt w' A l:=fun hp=>by
 obtain ⟨ad,h1,h2,h3⟩:=h hp
 exact ⟨ad,h1,Nat.lt_of_lt_of_le h2 hb.size,fun i hi=>⟨(cell_kept hb _ (by rw [st_block];exact h2)).trans (h3 i hi).1,(cell_kept hb _ (by rw [st_block];exact h2)).trans (h3 i hi).2.1,(cell_kept hb _ (by rw [st_block];exact h2)).trans (h3 i hi).2.2⟩⟩
theorem WrsAt.alloc {w:World} {A:Option Addr} {l:List Wr} (h:WrsAt w A l) (o:Obj):WrsAt (w.alloc o) A l:=h.below ((Below.refl _ w).alloc (Nat.le_refl _) o)
noncomputable def writesB (l:List Wr):Bool:=@decide (WritesOk l) (Classical.propDecidable _)
theorem writesB_true {l:List Wr} (h:WritesOk l):writesB l = true:=by unfold writesB;exact @decide_eq_true _ (Classical.propDecidable _) h
theorem writesB_false {l:List Wr} (h:¬ WritesOk l):writesB l = false:=by unfold writesB;exact @decide_eq_false _ (Classical.propDecidable _) h
theorem writesB_eq {l:List Wr} (h1:l.length ≤ 16) (h2:∀ x ∈ l,wrOk x):writesB l = risesB (l.map Wr.key):=by
 by_cases h:Rises (l.map Wr.key)
 ·rw [risesB_true h,writesB_true ⟨h1,h2,h⟩]
 ·rw [risesB_false h,writesB_false (fun hh=>h hh.2.2)]
theorem mem_take_succ {α:Type} {l:List α} {j:Nat} (h:j < l.length) {p:α → Prop} (h1:∀ x ∈ l.take j,p x) (h2:p l[j]):∀ x ∈ l.take (j + 1),p x:=by
 intro x hx
 rw [List.take_add_one,List.getElem?_eq_getElem h] at hx
 rcases List.mem_append.1 hx with hx | hx
 ·exact h1 x hx
 ·rw [Option.toList_some,List.mem_singleton] at hx
  rw [hx];exact h2
theorem keys_take {l:List Wr} {j:Nat} (h:j < l.length):strV ((l.map Wr.key).take (j + 1)) = strV ((l.map Wr.key).take j) ++ [.string l[j].key]:=by
 unfold strV
 rw [List.take_add_one,List.getElem?_map,List.getElem?_eq_getElem h,List.map_append]
 rfl
theorem writes_any (A:Option Addr) (c:Nat) (l:List Wr) (w:World) (h:WrsAt w A l) (hn:l.length * 16 + 16 ≤ 140737488355328) (hr:∀ x ∈ l,x.key.size ≤ 9223372036854775807 ∧ x.shard.size ≤ 9223372036854775807) :
  Calls Tryz.prog 211 #[.slice A l.length c] w fun e w'=>e = .returned (.bool (writesB l)) ∧ Below w.heap.size w w':=by
 obtain ⟨i0,hi,hz0,hz1,hz2⟩:=info_parts Tryz.infoStr
 have HRr:=Lib.hid hr
 have HA:=Lib.hid h
 clear h hr
 go_enter Tryz.func211,Tryz.ntmps211
 go_wp2_with fail
 go_loopw [3,4] (fun u i wr=>∃ j:Nat,j ≤ l.length ∧ i = .int .i64 (j:Int) ∧ Hid (∀ x ∈ l.take j,wrOk x) ∧ Hid (wr.ownsRow w.heap.size 9 1 u j (strV ((l.map Wr.key).take j))) ∧ Hid (Below w.heap.size w wr)) (fun _ i _=>l.length - (intOf i).toNat)
 case atStart=>exact ⟨0,by omega,rfl,fun x hx=>absurd hx (by simp),World.ownsRow_nil _ _ _ _,Below.refl _ _⟩
 case round =>
  obtain ⟨j,hj,rfl,hall,hown,hbel⟩:=hrel
  by_cases hlt:j < l.length
  ·have pj:(j:Int) < (l.length:Int):=by omega
   obtain ⟨ad,rfl,_,_⟩:=HA.out (by omega)
   obtain ⟨ad',e',hab,hcl⟩:=(HA.out.below hbel.out) (by omega)
   obtain rfl:=Option.some.inj e'
   obtain ⟨x1,-,-⟩:=hcl j hlt
   have hkt:=keys_take hlt
   have hmem:l[j] ∈ l:=List.getElem_mem hlt
   have HKt:=Lib.hid hkt
   generalize hX:l[j] = X at x1 hkt hmem HKt
   have HX:=Lib.hid hX
   clear hkt hX hcl e' hab
   go_upto_region 6 with (at_builtin;refine wpList_append_own _ rfl _ _ 36 rfl w.heap.size 9 i0 (.string ⟨#[]⟩) 1 16 Tryz.underlying36 hi hz0 hz1 hz2 rfl (by decide) _ _ _ rfl (hown.out.alloc _) ⟨wr.heap.size,0,none⟩ 1 1 [.string X.key] rfl rfl ?c1 ?c2 ?c3 ?c4 ?c5 ?_)
   case c1=>exact cell_one_new _ _ _
   case c2=>intro q hq;simp at hq;subst hq;rfl
   case c3=>unfold maxLen;omega
   case c4=>omega
   case c5=>have:=hbel.out.size;simp;omega
   intro v' w5 hown' hgrow _
   have HB5:=Lib.hid (below_append hown.out hbel.out (Nat.le_refl _) hgrow)
   rw [← HKt.out] at hown'
   have HO5:=Lib.hid hown'
   obtain ⟨ad',e',hab,hcl⟩:=(HA.out.below HB5.out) (by omega)
   obtain rfl:=Option.some.inj e'
   obtain ⟨-,y1,y2⟩:=hcl j hlt
   rw [HX.out] at y1 y2
   rw [← add_field _ _ _ (by omega)] at y1 y2
   have hrs:=(HRr.out _ hmem).2
   clear hown' hgrow hcl e' hab hown hbel x1
   have hno:¬ wrOk X → ¬ WritesOk l:=fun h hw=>h (hw.2.1 X hmem)
   have hyes:wrOk X → ∀ x ∈ l.take (j + 1),wrOk x:=fun h=>mem_take_succ hlt hall.out (by rw [HX.out];exact h)
   obtain ⟨xk,xs,xd⟩:=X
   simp only at *
   by_cases hs:xs.size ≤ 2052
   ·have ps:(xs.size:Int) ≤ 2052:=by omega
    cases xd with
    | false =>
     have HW:=Lib.hid (hyes ⟨hs,fun h=>by cases h.1⟩)
     clear hno hyes hs hall hmem HX
     go_wp2_with fail
     go_roundw
     case rel=>exact ⟨j + 1,by omega,by go_num,HW.out,HO5.out,HB5.out⟩
     case measure=>simp [intOf];omega
    | true =>
     by_cases he:xs = ⟨#[]⟩
     ·have HW:=Lib.hid (hyes ⟨hs,fun h=>h.2 he⟩)
      subst he
      have t0:=text_eq ⟨#[]⟩
      clear hno hyes hs hall hmem HX
      go_wp2_with fail
      go_roundw
      case rel=>exact ⟨j + 1,by omega,by go_num,HW.out,HO5.out,HB5.out⟩
      case measure=>simp [intOf];omega
     ·have E:=Lib.hid (writesB_false (hno (fun h=>h.2 ⟨rfl,he⟩)))
      have t0:=text_ne he
      have t1:¬ xs.toList = []:=fun h=>he (by
       rw [ByteArray.toList_eq] at h
       obtain ⟨a⟩:=xs
       congr 1
       exact Array.toList_inj.1 h)
      have t2:xs.toList.isEmpty = false:=by rw [List.isEmpty_eq_false_iff];exact t1
      clear hno hyes hs hall hmem HX he
      go_wp2_with fail
      go_ret
      exact ⟨by rw [E.out];rfl,HB5.out⟩
   ·have E:=Lib.hid (writesB_false (hno (fun h=>hs h.1)))
    have ps:(2052:Int) < (xs.size:Int):=by omega
    clear hno hyes hs hall hmem HX
    go_wp2_with fail
    go_ret
    exact ⟨by rw [E.out];rfl,HB5.out⟩
  ·obtain rfl:j = l.length:=by omega
   have hall2:=hall.out
   rw [List.take_length] at hall2
   have hown2:=hown.out
   have hkl:(l.map Wr.key).length = l.length:=List.length_map ..
   rw [List.take_of_length_le (by rw [hkl];exact Nat.le_refl _)] at hown2
   by_cases h16:l.length ≤ 16
   ·have p16:(l.length:Int) ≤ 16:=by omega
    have E:=Lib.hid (writesB_eq h16 hall2)
    obtain ⟨B,d,rfl,hsb⟩:∃ (B:Option Addr) (d:Nat),u3 = .slice B l.length d ∧ StrsAt wr B (l.map Wr.key):=by
     rcases hown2.2 with ⟨h1,h2⟩ | ⟨g,cap,cur,h1,_⟩
     ·exact ⟨none,0,by rw [h1,h2],fun hp=>by rw [hkl] at hp;omega⟩
     ·subst h1
      exact ⟨_,_,rfl,StrsAt.own hown2 hkl.symm⟩
    have hR:=rising_any B d (l.map Wr.key) wr hsb (by rw [hkl];omega) (fun s hs=>by obtain ⟨x,hx,rfl⟩:=List.mem_map.1 hs;exact (HRr.out x hx).1)
    rw [hkl] at hR
    have HR:=Lib.hid hR
    have HBl:=hbel
    clear hall hall2 hown hown2 hsb hR hbel hkl
    go_wp2_with fail
    refine HR.out.mono ?_
    rintro e w1 ⟨rfl,hb⟩
    have HB1:=Lib.hid (HBl.out.trans (hb.mono HBl.out.size))
    clear hb HBl HR
    go_wp2_with fail
    go_ret
    exact ⟨by rw [E.out];rfl,HB1.out⟩
   ·have p16:(16:Int) < (l.length:Int):=by omega
    have E:=Lib.hid (writesB_false (fun h=>h16 h.1))
    have HBl:=hbel
    clear hall hall2 hown hown2 hbel hkl h16
    go_wp2_with fail
    go_ret
    exact ⟨by rw [E.out];rfl,HBl.out⟩
theorem wr_ext {x y:Wr} (h1:x.key = y.key) (h2:x.shard = y.shard) (h3:x.dead = y.dead):x = y:=by
 obtain ⟨a,b,c⟩:=x
 obtain ⟨d,e,f⟩:=y
 simp only at h1 h2 h3
 rw [h1,h2,h3]
instance:DecidableEq Wr:=fun x y=>decidable_of_iff (x.key = y.key ∧ x.shard = y.shard ∧ x.dead = y.dead) ⟨fun h=>wr_ext h.1 h.2.1 h.2.2,fun h=>by rw [h];exact ⟨rfl,rfl,rfl⟩⟩
end Lt
end Go.Proofs.YtmidncclndongaaGreat
namespace Go.Proofs.YtmidncclndongaaGreat
namespace Bk
open Go.RowKit
attribute [local go_sem ↓] Go.wp_at_zero Go.wp_at_succ
def intV (l:List Int):List Value:=l.map (Value.int .i64)
theorem intV_len (l:List Int):(intV l).length = l.length:=by simp [intV]
theorem intV_at {l:List Int} {i:Nat} (h:i < l.length):(intV l)[i]? = some (.int .i64 l[i]):=by
 unfold intV
 rw [List.getElem?_map,List.getElem?_eq_getElem h];rfl
theorem intV_snoc (O:List Int) (x:Int):intV (O ++ [x]) = intV O ++ [.int .i64 x]:=by simp [intV]
def IntsAt (w:World) (A:Option Addr) (l:List Int):Prop :=
 0 < l.length → ∃ ad,A = some ad ∧ ad.block < w.heap.size ∧ ∀ i (h:i < l.length),w.cell? (ad.add i) = some (.int .i64 l[i])
theorem IntsAt.below {w w':World} {A:Option Addr} {l:List Int} (h:IntsAt w A l) (hb:Below w.heap.size w w'):IntsAt w' A l:=fun hp=>by
 obtain ⟨ad,h1,h2,h3⟩:=h hp
 exact ⟨ad,h1,Nat.lt_of_lt_of_le h2 hb.size,fun i hi=>(cell_kept hb _ (by rw [st_block];exact h2)).trans (h3 i hi)⟩
theorem IntsAt.alloc {w:World} {A:Option Addr} {l:List Int} (h:IntsAt w A l) (o:Obj):IntsAt (w.alloc o) A l:=h.below ((Below.refl _ w).alloc (Nat.le_refl _) o)
theorem IntsAt.own {w:World} {H g n cap:Nat} {e:TypeId} {l:List Int} (h:w.ownsRow H e 1 (.slice (some ⟨g,0,none⟩) n cap) n (intV l)) (hl:n = l.length):IntsAt w (some ⟨g,0,none⟩) l:=fun hp=>by
 have hf:=World.ownsRow.cellAt h
 refine ⟨_,rfl,?_,fun i hi=>?_⟩
 ·obtain ⟨g',cap',hv,_,hlt⟩:=World.ownsRow.form h (by omega)
  simp only [Value.slice.injEq,Option.some.injEq,Addr.mk.injEq] at hv
  obtain ⟨⟨rfl,-⟩,-⟩:=hv
  exact hlt
 ·rw [addr_head,hf i (by omega)]
  exact intV_at hi
theorem ints_of_own {w:World} {H n:Nat} {v:Value} {e:TypeId} {O:List Int} (h:w.ownsRow H e 1 v n (intV O)) (hl:n = O.length):∃ (A:Option Addr) (c:Nat),v = .slice A n c ∧ IntsAt w A O:=by
 have h2:=h.2
 rcases h2 with ⟨h1,h2,h3⟩ | ⟨g,cap,cur,h1,_⟩
 ·exact ⟨none,0,h1,fun hp=>absurd hl (by omega)⟩
 ·subst h1
  exact ⟨_,_,rfl,IntsAt.own h hl⟩
theorem strs_of_own2 {w:World} {H n:Nat} {v:Value} {e:TypeId} {O:List ByteArray} (h:w.ownsRow H e 1 v n (strV O)) (hl:n = O.length):∃ (A:Option Addr) (c:Nat),v = .slice A n c ∧ StrsAt w A O:=by
 have h2:=h.2
 rcases h2 with ⟨h1,h2,h3⟩ | ⟨g,cap,cur,h1,_⟩
 ·exact ⟨none,0,h1,fun hp=>absurd hl (by omega)⟩
 ·subst h1
  exact ⟨_,_,rfl,StrsAt.own h hl⟩
end Bk
end Go.Proofs.YtmidncclndongaaGreat
namespace Go.Proofs.YtmidncclndongaaGreat
namespace Bk
open Go.ChangeShapes Go.WideShapes Go.ChangeAt Go.RowKit Go.Joins
section
variable {H:Type} {enc:TypeId × Value → H} {W:World}
theorem field_ints {t e:TypeId} {v:Value} {fuel:Nat} {y:DataW H × List MemPlace} (ht:Tryz.prog.underlying t = some (.slice e)) (he:Tryz.prog.underlying e = some (.int .i64)) (hc:Tryz.prog.cellsOf e = 1) (hb8:Tryz.prog.bytesOf e = 8)
  (hf:DataW.trod enc Tryz.prog W 0 (fun _=>true) true fuel t [v] = some y) (hwt:∀ k ∈ y.1.weights Tryz.prog t,k ≤ reachBytes) (hl:∀ x ∈ y.2,x.block < W.heap.size) :
  ∃ (A:Option Addr) (c:Nat) (L:List Int),v = .slice A L.length c ∧ IntsAt W A L ∧ L.length * 8 ≤ reachBytes ∧ L.length ≤ c ∧ c ≤ maxLen ∧ (∀ n ∈ L,-9223372036854775808 ≤ n ∧ n ≤ 9223372036854775807) ∧ (A = none → L = [] ∧ c = 0):=by
 rcases open_ints ht he hc hf with ⟨hcs,hx⟩ | ⟨a,len,cap,zs,hcs,_,hl',hm,hz,hx,hcell,hwz⟩
 ·obtain rfl:v = .slice none 0 0:=by simpa using hcs
  exact ⟨none,0,[],rfl,fun h=>absurd h (by simp),by simp,by simp,Nat.zero_le _,by simp,fun _=>⟨rfl,rfl⟩⟩
 ·obtain rfl:v = .slice (some a) len cap:=by simpa using hcs
  subst hx
  simp only [if_true] at hz
  have hlen:(zs.take len).length = len:=by rw [List.length_take];omega
  have hs:=hwt (((lits (H:=H) .i64 (zs.take len)).length + (lits (H:=H) .i64 (zs.drop len)).length) * Tryz.prog.bytesOf e) (by simp [DataW.weights,ht])
  rw [hb8] at hs
  have hs2:(zs.take len).length * 8 ≤ reachBytes:=by
   refine Nat.le_trans (Nat.mul_le_mul_right 8 ?_) hs
   simp only [lits,List.length_map]
   omega
  refine ⟨some a,cap,zs.take len,by rw [hlen],fun hpos=>⟨a,rfl,?_,fun i hi=>?_⟩,hs2,by rw [hlen];exact hl',hm,fun n hn=>?_,fun h=>by cases h⟩
  ·obtain ⟨b,off,spot⟩:=a
   exact hl (.cell b off) (MemPlace.mem_row.2 ⟨0,by omega,by simp⟩)
  ·have h1:=hcell i (by omega)
   rw [h1]
   congr 2
   rw [List.getElem_take,List.getD_eq_getElem?_getD,List.getElem?_eq_getElem (by omega),Option.getD_some]
  ·have:=hwz n (List.mem_of_mem_take hn)
   exact show IntKind.i64.min ≤ n ∧ n ≤ 9223372036854775807 by simpa [Lit.wf] using this
theorem arg_weights {ts:List TypeId} {ds:List (DataW H)} {j:Nat} {t:TypeId} {d:DataW H} (hsz:(DataW.weightsEach Tryz.prog ts ds).all (· ≤ reachBytes) = true) (hj:ts[j]? = some t) (hd:ds[j]? = some d):∀ k ∈ d.weights Tryz.prog t,k ≤ reachBytes:=fun k hk=>by
 have h1:=List.all_eq_true.1 hsz _ (DataW.weights_mem_each hj hd k hk)
 simpa using h1
end
end Bk
end Go.Proofs.YtmidncclndongaaGreat
namespace Go.Proofs.YtmidncclndongaaGreat
namespace Lt
open Go.ChangeShapes Go.WideShapes Go.ChangeAt Go.RowKit Go.Joins Go.Deep Bk
section
variable {H:Type} {enc:TypeId × Value → H} {W:World}
instance:Inhabited Wr:=⟨⟨⟨#[]⟩,⟨#[]⟩,false⟩⟩
structure LetRng (l:Let):Prop where
 kind:-9223372036854775808 ≤ l.kind ∧ l.kind ≤ 9223372036854775807
 src:-9223372036854775808 ≤ l.src ∧ l.src ≤ 9223372036854775807
 dst:-9223372036854775808 ≤ l.dst ∧ l.dst ≤ 9223372036854775807
 txn:-9223372036854775808 ≤ l.txn ∧ l.txn ≤ 9223372036854775807
 ts:-9223372036854775808 ≤ l.ts ∧ l.ts ≤ 9223372036854775807
 code:-9223372036854775808 ≤ l.code ∧ l.code ≤ 9223372036854775807
 text:l.text.size ≤ reachBytes
 k16:l.keys.length * 16 ≤ reachBytes
 w16:l.ws.length * 16 ≤ reachBytes
 kr:∀ s ∈ l.keys,s.size ≤ reachBytes
 wr:∀ x ∈ l.ws,x.key.size ≤ reachBytes ∧ x.shard.size ≤ reachBytes
def letV (l:Let) (A B:Option Addr) (c d:Nat):Value:=.agg #[.int .i64 l.kind,.int .i64 l.src,.int .i64 l.dst,.int .i64 l.txn,.int .i64 l.ts,.int .i64 l.code,.string l.text,.slice A l.keys.length c,.slice B l.ws.length d]
end
section
variable {H:Type} {enc:TypeId × Value → H} {W:World}
end
end Lt
end Go.Proofs.YtmidncclndongaaGreat
namespace Go.Proofs.YtmidncclndongaaGreat
namespace Lt
open Go.RowKit Bk
attribute [local go_sem ↓] Go.wp_at_zero Go.wp_at_succ
attribute [local go_sem] floatUpon pick
structure LtEnv (w W:World) (g:Nat) (A B:Option Addr) (c d:Nat) (l:Let):Prop where
 ks:StrsAt W A l.keys
 ws:WrsAt W B l.ws
 cel:Cel W g 388 [.int .i64 l.kind,.int .i64 l.src,.int .i64 l.dst,.int .i64 l.txn,.int .i64 l.ts,.int .i64 l.code,.string l.text,.slice A l.keys.length c,.slice B l.ws.length d]
 bel:Below w.heap.size w W
theorem LtEnv.step {w W W':World} {g:Nat} {A B:Option Addr} {c d:Nat} {l:Let} (h:LtEnv w W g A B c d l) (hb:Below W.heap.size W W'):LtEnv w W' g A B c d l :=
 ⟨h.ks.below hb,h.ws.below hb,h.cel.below hb,h.bel.trans (hb.mono h.bel.size)⟩
theorem LtEnv.start {w:World} {A B:Option Addr} {c d:Nat} {l:Let} (ha:StrsAt w A l.keys) (hb:WrsAt w B l.ws) :
  LtEnv w (w.alloc (.cells #[.int .i64 l.kind,.int .i64 l.src,.int .i64 l.dst,.int .i64 l.txn,.int .i64 l.ts,.int .i64 l.code,.string l.text,.slice A l.keys.length c,.slice B l.ws.length d] 388)) w.heap.size A B c d l :=
 ⟨ha.alloc _,hb.alloc _,(blk1 w _).2,(Below.refl _ w).alloc (Nat.le_refl _) _⟩
open Classical in
noncomputable def ckN (l:Let):Nat:=if LetOk l then 0 else 70
theorem ckN_zero {l:Let}:ckN l = 0 ↔ LetOk l:=by
 unfold ckN
 split
 ·next h=>exact ⟨fun _=>h,fun _=>rfl⟩
 ·next h=>exact ⟨fun e=>by omega,fun hh=>absurd hh h⟩
def OneOk (l:Let):Prop:=l.keys.length = 1 ∧ (∀ k ∈ l.keys,keyOk k) ∧ l.ws = []
def BareOk (l:Let):Prop:=l.keys = [] ∧ l.ws = [] ∧ l.text = ⟨#[]⟩
theorem kind_1 {l:Let} (h:l.kind = 1):kindOk l ↔ OneOk l ∧ l.text = ⟨#[]⟩ ∧ l.code = 0:=by
 constructor
 ·rintro (h2 | h2 | h2 | h2 | h2 | h2)
  ·exact h2.2
  all_goals omega
 ·intro h2;exact .inl ⟨h,h2⟩
theorem kind_2 {l:Let} (h:l.kind = 2):kindOk l ↔ OneOk l ∧ l.text.size ≤ 2052 ∧ (l.text = ⟨#[]⟩ ∨ l.code = 1):=by
 constructor
 ·rintro (h2 | h2 | h2 | h2 | h2 | h2)
  ·omega
  ·exact h2.2
  all_goals omega
 ·intro h2;exact .inr (.inl ⟨h,h2⟩)
theorem kind_3 {l:Let} (h:l.kind = 3):kindOk l ↔ l.keys.length ≤ 16 ∧ Rises l.keys ∧ WritesOk l.ws ∧ l.text = ⟨#[]⟩ ∧ l.code = 0:=by
 constructor
 ·rintro (h2 | h2 | h2 | h2 | h2 | h2)
  ·omega
  ·omega
  ·exact h2.2
  all_goals omega
 ·intro h2;exact .inr (.inr (.inl ⟨h,h2⟩))
theorem kind_4 {l:Let} (h:l.kind = 4):kindOk l ↔ BareOk l ∧ l.code ≤ 1:=by
 constructor
 ·rintro (h2 | h2 | h2 | h2 | h2 | h2)
  ·omega
  ·omega
  ·omega
  ·exact h2.2
  all_goals omega
 ·intro h2;exact .inr (.inr (.inr (.inl ⟨h,h2⟩)))
theorem kind_5 {l:Let} (h:l.kind = 5 ∨ l.kind = 6 ∨ l.kind = 7):kindOk l ↔ BareOk l ∧ l.code = 0:=by
 constructor
 ·rintro (h2 | h2 | h2 | h2 | h2 | h2)
  ·omega
  ·omega
  ·omega
  ·omega
  ·exact h2.2
  ·omega
 ·intro h2;exact .inr (.inr (.inr (.inr (.inl ⟨h,h2⟩))))
theorem kind_8 {l:Let} (h:l.kind = 8):kindOk l ↔ BareOk l ∧ l.code ≤ 2:=by
 constructor
 ·rintro (h2 | h2 | h2 | h2 | h2 | h2)
  ·omega
  ·omega
  ·omega
  ·omega
  ·omega
  ·exact h2.2
 ·intro h2;exact .inr (.inr (.inr (.inr (.inr ⟨h,h2⟩))))
theorem kind_no {l:Let} (h:l.kind < 1 ∨ 8 < l.kind):¬ kindOk l:=by
 rintro (h2 | h2 | h2 | h2 | h2 | h2) <;> omega
theorem empty_list {s:ByteArray} (h:s ≠ ⟨#[]⟩):¬ s.toList = []:=fun e=>h (by
 rw [ByteArray.toList_eq] at e
 obtain ⟨a⟩:=s
 congr 1
 exact Array.toList_inj.1 e)
theorem list_one {l:List ByteArray} (h:l.length = 1):∃ k,l = [k]:=by
 match l,h with
 | [k],_=>exact ⟨k,rfl⟩
end Lt
end Go.Proofs.YtmidncclndongaaGreat
namespace Go.Proofs.YtmidncclndongaaGreat
namespace Pk
open Go.RowKit Bk
attribute [local go_sem ↓] Go.wp_at_zero Go.wp_at_succ
attribute [local go_sem] floatUpon pick
theorem byteCells_snoc (O:List UInt8) (x:Nat) (h:x < 256):Lib.byteCells O ++ [.int .u8 (x:Int)] = Lib.byteCells (O ++ [UInt8.ofNat x]):=by
 unfold Lib.byteCells
 rw [List.map_append,List.map_cons,UInt8.toNat_ofNat_of_lt' (by show x < 256;exact h)];rfl
theorem u8_wrap {x:Int} (h0:0 ≤ x) (h1:x < 256):IntKind.u8.wrap x = x:=by
 simp only [IntKind.wrap,IntKind.bits,IntKind.signed];simp;omega
theorem plain_any (n:Nat) (w:World) (hn:n ≤ 9223372036854775807) :
  Calls Tryz.prog 290 #[.int .i64 (n:Int)] w fun e w'=>e = .returned (.string ⟨(plain n).toArray⟩) ∧ Below w.heap.size w w':=by
 obtain ⟨i1,hi',hz0',hz1',hz2'⟩:=info_parts Tryz.infoU8
 go_enter Tryz.func290,Tryz.ntmps290
 go_wp2_with fail
 go_loopw [0,3] (fun c u wr=>∃ (m:Nat) (O:List UInt8),m ≤ n ∧ Hid (plain n = O ++ plain m) ∧ c = .int .i64 (m:Int) ∧ Hid (wr.ownsRow w.heap.size 5 1 u O.length (Lib.byteCells O)) ∧ Hid (Below w.heap.size w wr)) (fun c _ _=>(intOf c).toNat)
 case atStart=>exact ⟨n,[],Nat.le_refl _,rfl,rfl,World.ownsRow_nil _ _ _ _,Below.refl _ _⟩
 case round =>
  obtain ⟨m,O,hmn,hpl,rfl,hown,hbel⟩:=hrel
  have hOl:O.length ≤ 8:=by
   have h1:=plain_len 9 n (by show n < 9223372036854775808;omega) (by omega)
   have h2:=plain_pos m
   rw [hpl.out,List.length_append] at h1
   omega
  by_cases hlt:128 ≤ m
  ·have pm:(128:Int) ≤ (m:Int):=by omega
   have hmod:(m:Int).tmod 128 = ((m % 128:Nat):Int):=by rw [Int.tmod_eq_emod_of_nonneg (by omega)];omega
   have hdiv:(m:Int).tdiv 128 = ((m / 128:Nat):Int):=by rw [Int.tdiv_eq_ediv_of_nonneg (by omega)];omega
   have hp2:plain n = (O ++ [UInt8.ofNat (m % 128 + 128)]) ++ plain (m / 128):=by rw [hpl.out,plain_big hlt,List.append_assoc];rfl
   have hbc:=byteCells_snoc O (m % 128 + 128) (by omega)
   have hx:m % 128 < 128:=by omega
   have hy:m / 128 + 1 ≤ m:=by omega
   generalize hxe:m % 128 = x at hmod hbc hx hp2
   generalize hye:m / 128 = y at hdiv hy hp2
   have hxi:(x:Int) < 128:=by omega
   have hcv:IntKind.u8.wrap ((x:Int) + 128) = (x:Int) + 128:=u8_wrap (by omega) (by omega)
   have hbc:Lib.byteCells O ++ [.int .u8 ((x:Int) + 128)] = Lib.byteCells (O ++ [UInt8.ofNat (x + 128)]):=hbc
   have HBC:=Lib.hid hbc
   have HP:=Lib.hid hp2
   clear hbc hp2 hxe hye hpl
   go_wp2_with (at_builtin;refine wpList_append_own _ rfl _ _ 119 rfl w.heap.size 5 i1 (.int .u8 0) 1 1 Tryz.underlying119 hi' hz0' hz1' hz2' rfl (by decide) _ _ _ rfl (hown.out.alloc _) ⟨wr.heap.size,0,none⟩ 1 1 [.int .u8 ((x:Int) + 128)] rfl rfl ?c1 ?c2 ?c3 ?c4 ?c5 ?_)
   case c1=>exact cell_one_new _ _ _
   case c2=>intro u hu;simp at hu;subst hu;rfl
   case c3=>unfold maxLen;omega
   case c4=>omega
   case c5=>have:=hbel.out.size;simp;omega
   intro v' w5 hown' hgrow _
   have HB5:=Lib.hid (below_append hown.out hbel.out (Nat.le_refl _) hgrow)
   rw [HBC.out] at hown'
   have HO5:=Lib.hid hown'
   clear hown' hgrow hown hbel
   go_wp2_with fail
   go_roundw
   case rel=>exact ⟨y,O ++ [UInt8.ofNat (x + 128)],by omega,HP.out,rfl,by rw [List.length_append,List.length_singleton];exact HO5.out,HB5.out⟩
   case measure=>simp [intOf];omega
  ·have pm:(m:Int) < 128:=by omega
   have hcv:IntKind.u8.wrap (m:Int) = (m:Int):=u8_wrap (by omega) (by omega)
   have hbc:=byteCells_snoc O m (by omega)
   have hp2:plain n = O ++ [UInt8.ofNat m]:=by rw [hpl.out,plain_small (by omega)]
   have HBC:=Lib.hid hbc
   have HP:=Lib.hid hp2
   clear hbc hp2 hpl
   go_wp2_with (at_builtin;refine wpList_append_own _ rfl _ _ 119 rfl w.heap.size 5 i1 (.int .u8 0) 1 1 Tryz.underlying119 hi' hz0' hz1' hz2' rfl (by decide) _ _ _ rfl (hown.out.alloc _) ⟨wr.heap.size,0,none⟩ 1 1 [.int .u8 (m:Int)] rfl rfl ?c1 ?c2 ?c3 ?c4 ?c5 ?_)
   case c1=>exact cell_one_new _ _ _
   case c2=>intro u hu;simp at hu;subst hu;rfl
   case c3=>unfold maxLen;omega
   case c4=>omega
   case c5=>have:=hbel.out.size;simp;omega
   intro v' w5 hown' hgrow _
   have HB5:=Lib.hid (below_append hown.out hbel.out (Nat.le_refl _) hgrow)
   rw [HBC.out,← HP.out] at hown'
   have hl:O.length + 1 = (plain n).length:=by rw [HP.out,List.length_append,List.length_singleton]
   have HO5:=Lib.hid hown'
   obtain ⟨g,cap,rfl,_,_⟩:=World.ownsRow.form hown' (by omega)
   have hcv2:=own_bytes hown' hl 0 (O.length + 1) cap (by omega)
   rw [List.drop_zero,List.take_of_length_le (by omega)] at hcv2
   clear hown' hgrow hown hbel hl
   go_wp2_with fail
   go_ret
   exact ⟨rfl,HB5.out⟩
theorem signed_any (z:Int) (w:World) (hz:numOk z) :
  Calls Tryz.prog 291 #[.int .i64 z] w fun e w'=>e = .returned (.string ⟨(signed z).toArray⟩) ∧ Below w.heap.size w w':=by
 obtain ⟨z1,z2⟩:=hz
 have HP:=Lib.hid (fun W=>plain_any (zig z) W (by have:=zig_lt ⟨z1,z2⟩;have h:zig z < 9223372036854775808:=this;omega))
 by_cases h0:z < 0
 ·have hzig:((zig z:Nat):Int) = -2 * (z + 1) + 1:=by unfold zig;rw [if_pos h0];omega
  rw [hzig] at HP
  clear hzig
  go_enter Tryz.func291,Tryz.ntmps291
  go_wp2_with fail
  refine (HP.out _).mono ?_
  rintro e w1 ⟨rfl,hb⟩
  go_wp2_with fail
  go_ret
  exact ⟨rfl,hb⟩
 ·have hzig:((zig z:Nat):Int) = 2 * z:=by unfold zig;rw [if_neg h0];omega
  rw [hzig] at HP
  have hp:0 ≤ z:=by omega
  clear hzig h0
  go_enter Tryz.func291,Tryz.ntmps291
  go_wp2_with fail
  refine (HP.out _).mono ?_
  rintro e w1 ⟨rfl,hb⟩
  go_wp2_with fail
  go_ret
  exact ⟨rfl,hb⟩
def packV (A B:Option Addr) (c d:Nat) (ns:List Int) (ts:List ByteArray):Value:=.agg #[.slice A ns.length c,.slice B ts.length d]
theorem ckE_long {ns:List Int} {ts:List ByteArray} (h:1024 < ns.length ∨ 1024 < ts.length):ckE ns ts = 2:=by unfold ckE;rw [if_pos h]
theorem ckE_num {ns:List Int} {ts:List ByteArray} (h:¬ (1024 < ns.length ∨ 1024 < ts.length)) {z:Int} (hz:z ∈ ns) (hn:¬ numOk z):ckE ns ts = 1:=by
 unfold ckE
 rw [if_neg h,if_pos (fun hh=>hn (hh z hz))]
theorem ckE_text {ns:List Int} {ts:List ByteArray} (h:¬ (1024 < ns.length ∨ 1024 < ts.length)) (h2:∀ n ∈ ns,numOk n) {t:ByteArray} (ht:t ∈ ts) (hn:4096 < t.size):ckE ns ts = 2:=by
 unfold ckE
 rw [if_neg h,if_neg (fun hh=>hh h2),if_pos (fun hh=>by have:=hh t ht;omega)]
theorem ckE_ok {ns:List Int} {ts:List ByteArray} (h:¬ (1024 < ns.length ∨ 1024 < ts.length)) (h2:∀ n ∈ ns,numOk n) (h3:∀ t ∈ ts,t.size ≤ 4096):ckE ns ts = 0:=ckE_zero.2 ⟨by omega,by omega,h2,h3⟩
theorem mem_take_succ {α:Type} {l:List α} {j:Nat} (h:j < l.length) {p:α → Prop} (h1:∀ x ∈ l.take j,p x) (h2:p l[j]):∀ x ∈ l.take (j + 1),p x:=by
 intro x hx
 rw [List.take_add_one,List.getElem?_eq_getElem h] at hx
 rcases List.mem_append.1 hx with hx | hx
 ·exact h1 x hx
 ·rw [Option.toList_some,List.mem_singleton] at hx
  rw [hx];exact h2
theorem cat_size (L:List UInt8):(⟨L.toArray⟩:ByteArray).size = L.length:=by
 show L.toArray.size = _
 simp
theorem text_cat (L M:List UInt8):(⟨L.toArray⟩:ByteArray) ++ ⟨M.toArray⟩ = ⟨(L ++ M).toArray⟩:=by rw [← ByteArray.mk_append_mk]
theorem numsL_succ {ns:List Int} {j:Nat} (h:j < ns.length):numsL (ns.take (j + 1)) = numsL (ns.take j) ++ signed ns[j]:=by
 unfold numsL
 rw [List.take_add_one,List.getElem?_eq_getElem h,List.flatMap_append]
 simp
theorem textsL_succ {ts:List ByteArray} {j:Nat} (h:j < ts.length):textsL (ts.take (j + 1)) = textsL (ts.take j) ++ textL ts[j]:=by
 unfold textsL
 rw [List.take_add_one,List.getElem?_eq_getElem h,List.flatMap_append]
 simp
theorem bytesL_at {ns:List Int} {ts:List ByteArray} (h:MayBe ns ts) (j k:Nat):(plain ns.length ++ numsL (ns.take j)).length ≤ 5000000 ∧ (plain ns.length ++ (numsL ns ++ (plain ts.length ++ textsL (ts.take k)))).length ≤ 5000000:=by
 obtain ⟨h1,h2,h3,h4⟩:=h
 have b1:MayBe (ns.take j) []:=⟨by rw [List.length_take];omega,by simp,fun n hn=>h3 n (List.mem_of_mem_take hn),by simp⟩
 have a1:=plain_len 9 ns.length (by show _ < 9223372036854775808;omega) (by omega)
 have a2:=plain_len 9 ts.length (by show _ < 9223372036854775808;omega) (by omega)
 have a3:=numsL_le ns h3
 have a4:=numsL_le (ns.take j) (fun n hn=>h3 n (List.mem_of_mem_take hn))
 have a5:=textsL_le (ts.take k) (fun n hn=>h4 n (List.mem_of_mem_take hn))
 rw [List.length_take] at a4 a5
 simp only [List.length_append]
 omega
def PkEnv (w W:World) (g:Nat) (A B:Option Addr) (c d:Nat) (ns:List Int) (ts:List ByteArray):Prop :=
 IntsAt W A ns ∧ StrsAt W B ts ∧ Cel W g 222 [.slice A ns.length c,.slice B ts.length d] ∧ Below w.heap.size w W
theorem PkEnv.step {w W W':World} {g:Nat} {A B:Option Addr} {c d:Nat} {ns:List Int} {ts:List ByteArray} (h:PkEnv w W g A B c d ns ts) (hb:Below W.heap.size W W'):PkEnv w W' g A B c d ns ts :=
 ⟨h.1.below hb,h.2.1.below hb,h.2.2.1.below hb,h.2.2.2.trans (hb.mono h.2.2.2.size)⟩
theorem PkEnv.start {w:World} {A B:Option Addr} {c d:Nat} {ns:List Int} {ts:List ByteArray} (ha:IntsAt w A ns) (hb:StrsAt w B ts) :
  PkEnv w (w.alloc (.cells #[.slice A ns.length c,.slice B ts.length d] 222)) w.heap.size A B c d ns ts :=
 ⟨ha.alloc _,hb.alloc _,(blk1 w _).2,(Below.refl _ w).alloc (Nat.le_refl _) _⟩
theorem PkEnv.c0 {w W:World} {g:Nat} {A B:Option Addr} {c d:Nat} {ns:List Int} {ts:List ByteArray} (h:PkEnv w W g A B c d ns ts):W.cell? ⟨g,0,none⟩ = some (.slice A ns.length c):=h.2.2.1.cell rfl
theorem PkEnv.c1 {w W:World} {g:Nat} {A B:Option Addr} {c d:Nat} {ns:List Int} {ts:List ByteArray} (h:PkEnv w W g A B c d ns ts):W.cell? ⟨g,1,none⟩ = some (.slice B ts.length d):=h.2.2.1.cell rfl
theorem bytes_any (A B:Option Addr) (c d:Nat) (ns:List Int) (ts:List ByteArray) (w:World) (ha:IntsAt w A ns) (hb:StrsAt w B ts) (hm:MayBe ns ts) :
  Calls Tryz.prog 214 #[packV A B c d ns ts] w fun e w'=>e = .returned (.string ⟨(bytesL ns ts).toArray⟩) ∧ Below w.heap.size w w':=by
 unfold packV
 have HM:=Lib.hid hm
 have p1:(ns.length:Int) ≤ 1024:=by have:=hm.1;omega
 have p2:(ts.length:Int) ≤ 1024:=by have:=hm.2.1;omega
 have HP1:=Lib.hid (fun W=>plain_any ns.length W (by omega))
 have HP2:=Lib.hid (fun W=>plain_any ts.length W (by omega))
 have HE:=Lib.hid (PkEnv.start (c:=c) (d:=d) ha hb)
 clear ha hb hm
 go_enter Tryz.func214,Tryz.ntmps214
 go_upto_region 1 with fail
 generalize w.alloc (.cells #[.slice A ns.length c,.slice B ts.length d] 222) = W1 at *
 have c0:=HE.out.c0
 go_wp2_with fail
 refine (HP1.out _).mono ?_
 rintro e w2 ⟨rfl,hb⟩
 have HE2:=Lib.hid (HE.out.step hb)
 clear hb HE c0
 go_wp2_with fail
 go_loopw [3,4] (fun x i wr=>∃ j:Nat,j ≤ ns.length ∧ i = .int .i64 (j:Int) ∧ x = .string ⟨(plain ns.length ++ numsL (ns.take j)).toArray⟩ ∧ Hid (PkEnv w wr w.heap.size A B c d ns ts)) (fun _ i _=>ns.length - (intOf i).toNat)
 case atStart=>exact ⟨0,by omega,rfl,by rw [List.take_zero];simp [numsL],HE2.out⟩
 case round =>
  obtain ⟨j,hj,rfl,rfl,hE⟩:=hrel
  have c0:=hE.out.c0
  by_cases hlt:j < ns.length
  ·have pj:(j:Int) < (ns.length:Int):=by omega
   obtain ⟨ad,rfl,hab,hcl⟩:=hE.out.1 (by omega)
   have x1:=hcl j hlt
   have hz:=HM.out.2.2.1 _ (List.getElem_mem hlt)
   have HS:=Lib.hid (fun W=>signed_any ns[j] W hz)
   have hsz1:=(bytesL_at HM.out j 0).1
   have hsl:=(signed_len hz).2
   have hadd:=fun W=>run_string_add_sum (P:=Tryz.prog) W ⟨(plain ns.length ++ numsL (ns.take j)).toArray⟩ ⟨(signed ns[j]).toArray⟩ (by rw [cat_size,cat_size];omega)
   rw [text_cat,List.append_assoc,← numsL_succ hlt] at hadd
   have HA:=Lib.hid (show (plain ns.length ++ numsL (ns.take (j + 1))) = plain ns.length ++ numsL (ns.take (j + 1)) from rfl)
   clear hcl hz hsz1 hsl
   generalize (⟨(signed ns[j]).toArray⟩:ByteArray) = Sg at HS hadd
   generalize (⟨(plain ns.length ++ numsL (ns.take j)).toArray⟩:ByteArray) = S0 at hadd
   generalize ns[j] = z at x1 HS
   obtain ⟨S1,hS1⟩:∃ S1:ByteArray,S1 = ⟨(plain ns.length ++ numsL (ns.take (j + 1))).toArray⟩:=⟨_,rfl⟩
   rw [← hS1] at hadd
   have HS1:=Lib.hid hS1
   clear hS1 HA
   go_wp2_with fail
   refine (HS.out _).mono ?_
   rintro e w3 ⟨rfl,hb⟩
   have HE3:=Lib.hid (hE.out.step hb)
   clear hb hE c0
   go_wp2_with fail
   go_roundw
   case rel=>exact ⟨j + 1,by omega,by go_num,by rw [HS1.out],HE3.out⟩
   case measure=>simp [intOf];omega
  ·obtain rfl:j = ns.length:=by omega
   rw [List.take_length]
   have c1:=hE.out.c1
   have hsz1:=(bytesL_at HM.out ns.length 0).1
   rw [List.take_length] at hsz1
   have hsl:=plain_len 9 ts.length (by show _ < 9223372036854775808;omega) (by omega)
   have hadd:=fun W=>run_string_add_sum (P:=Tryz.prog) W ⟨(plain ns.length ++ numsL ns).toArray⟩ ⟨(plain ts.length).toArray⟩ (by rw [cat_size,cat_size];omega)
   rw [text_cat,List.append_assoc] at hadd
   generalize (⟨(plain ns.length ++ numsL ns).toArray⟩:ByteArray) = S0 at hadd
   obtain ⟨S1,hS1⟩:∃ S1:ByteArray,S1 = ⟨(plain ns.length ++ (numsL ns ++ plain ts.length)).toArray⟩:=⟨_,rfl⟩
   rw [← hS1] at hadd
   have HS1:=Lib.hid hS1
   clear hS1 hsz1 hsl HP1
   generalize (⟨(plain ts.length).toArray⟩:ByteArray) = Sg at HP2 hadd
   go_wp2_with fail
   refine (HP2.out _).mono ?_
   rintro e w3 ⟨rfl,hb⟩
   have HE3:=Lib.hid (hE.out.step hb)
   clear hb hE c0 c1 HP2
   go_wp2_with fail
   go_loopw [3,5] (fun x i wr=>∃ j:Nat,j ≤ ts.length ∧ i = .int .i64 (j:Int) ∧ x = .string ⟨(plain ns.length ++ (numsL ns ++ (plain ts.length ++ textsL (ts.take j)))).toArray⟩ ∧ Hid (PkEnv w wr w.heap.size A B c d ns ts)) (fun _ i _=>ts.length - (intOf i).toNat)
   case atStart=>exact ⟨0,by omega,rfl,by rw [List.take_zero,HS1.out];simp [textsL],HE3.out⟩
   case round =>
    obtain ⟨j,hj,rfl,rfl,hE⟩:=hrel
    have c1:=hE.out.c1
    by_cases hlt:j < ts.length
    ·have pj:(j:Int) < (ts.length:Int):=by omega
     obtain ⟨bd,rfl,hbb,hcl⟩:=hE.out.2.1 (by omega)
     have x1:=hcl j hlt
     have hz:=HM.out.2.2.2 _ (List.getElem_mem hlt)
     have HS:=Lib.hid (fun W=>plain_any ts[j].size W (by omega))
     have hsz1:=(bytesL_at HM.out 0 j).2
     have htl:=textL_le hz
     have hpl:=plain_len 9 ts[j].size (by show _ < 9223372036854775808;omega) (by omega)
     have hadd1:=fun W=>run_string_add_sum (P:=Tryz.prog) W ⟨(plain ts[j].size).toArray⟩ ts[j] (by rw [cat_size];omega)
     have e1:(⟨(plain ts[j].size).toArray⟩:ByteArray) ++ ts[j] = ⟨(textL ts[j]).toArray⟩:=by unfold textL;rw [← text_cat]
     rw [e1] at hadd1
     have hadd2:=fun W=>run_string_add_sum (P:=Tryz.prog) W ⟨(plain ns.length ++ (numsL ns ++ (plain ts.length ++ textsL (ts.take j)))).toArray⟩ ⟨(textL ts[j]).toArray⟩ (by rw [cat_size,cat_size];omega)
     rw [text_cat,List.append_assoc,List.append_assoc,List.append_assoc,← textsL_succ hlt] at hadd2
     obtain ⟨S1,hS1⟩:∃ S1:ByteArray,S1 = ⟨(plain ns.length ++ (numsL ns ++ (plain ts.length ++ textsL (ts.take (j + 1))))).toArray⟩:=⟨_,rfl⟩
     rw [← hS1] at hadd2
     have HS1':=Lib.hid hS1
     have zb:(ts[j].size:Int) ≤ 4096:=by omega
     have HI:Hid (StrsAt wr (some bd) ts):=hE.out.2.1
     clear hS1 hcl hz hsz1 htl hpl e1 HS1
     generalize (⟨(plain ns.length ++ (numsL ns ++ (plain ts.length ++ textsL (ts.take j)))).toArray⟩:ByteArray) = S0 at hadd2
     generalize (⟨(plain ts[j].size).toArray⟩:ByteArray) = Pz at HS hadd1
     generalize (⟨(textL ts[j]).toArray⟩:ByteArray) = Tz at hadd1 hadd2
     generalize ts[j] = t at x1 HS hadd1 zb
     go_upto_region 10 with fail
     refine wp_region_said 15 [38,39,40,41,42,43,44,45,46,47,48,49,50,51,52]
      [.is (.string S0),.is (.pointer (some ⟨w.heap.size,1,none⟩)),.is (.slice (some bd) ts.length d),.is (.int .i64 (j:Int)),.is (.pointer (some (bd.add j))),.is (.string t),.is (.int .i64 (t.size:Int)),.is (.string Pz),
       .is (.pointer (some ⟨w.heap.size,1,none⟩)),.is (.slice (some bd) ts.length d),.is (.int .i64 (j:Int)),.is (.pointer (some (bd.add j))),.is (.string t),.is (.string Tz),.is (.string S1)]
      (fun W=>PkEnv w W w.heap.size A (some bd) c d ns ts ∧ (W.cell? (bd.add j) = some (.string t) ∧ bd.block < W.heap.size)) (by kernel_rfl) (by kernel_rfl) (by kernel_rfl) (by kernel_rfl) (by kernel_rfl)
      (fun W W' h hb=>⟨h.1.step hb,(cell_kept hb _ (by rw [st_block];exact h.2.2)).trans h.2.1,Nat.lt_of_lt_of_le h.2.2 hb.size⟩) ⟨hE.out,x1,hbb⟩ ?steps ?last
     case steps =>
      simp only [List.take_succ_cons,List.take_zero]
      refine ⟨?_,?_,?_,?_,?_,?_,?_,?_,?_,?_,?_,?_,?_,?_,?_,trivial⟩
      all_goals
       intro vs W ρ hρ hc hf hg hI hH hd R' hR
       have k1:=hI.1.c1
       have k2:=hI.2.1
       have HR:=Lib.hid hR
       simp [depsOf,Region.binds,sayAt,Say.holds] at hd
       clear hR hI c1 x1
       go_simp
       first
        | exact HR.out _ _ (by simp [sayAt,Say.holds]) (Below.refl _ _) (by simp [sayAt,Say.isBlk])
        | (refine (HS.out _).mono ?_;rintro e w' ⟨rfl,hb⟩;exact ⟨_,rfl,HR.out _ _ (by simp [sayAt,Say.holds]) hb (by simp [sayAt,Say.isBlk])⟩)
        | trace_state
     case last =>
      intro vs W hI hb hg hd
      have g:=hg 14 (by omega)
      simp only [sayAt,Say.holds,List.getD_cons_succ,List.getD_cons_zero] at g
      simp only [List.take_succ_cons,List.take_zero,List.drop_succ_cons,List.drop_zero,putAll,Act.put,List.setIfInBounds_toArray,List.set_cons_succ,List.set_cons_zero,Nat.zero_add,Nat.reduceAdd]
      rw [g]
      have HE4:=Lib.hid hI.1
      clear g hg hd hb hI hE c1 x1 HI HE3 HE2
      go_wp2_with fail
      go_roundw
      case rel=>exact ⟨j + 1,by omega,by go_num,by rw [HS1'.out],HE4.out⟩
      case measure=>simp [intOf];omega
    ·obtain rfl:j = ts.length:=by omega
     rw [List.take_length]
     have HBl:=Lib.hid hE.out.2.2.2
     go_wp2_with fail
     go_ret
     exact ⟨rfl,HBl.out⟩
def encV (ns:List Int) (ts:List ByteArray):Value:=if ckE ns ts = 0 then .tuple #[.string ⟨(bytesL ns ts).toArray⟩,.int .i64 0] else .tuple #[.string ⟨#[]⟩,.int .i64 (ckE ns ts:Int)]
theorem encV_ok {ns:List Int} {ts:List ByteArray} (h:MayBe ns ts):encV ns ts = .tuple #[.string ⟨(bytesL ns ts).toArray⟩,.int .i64 0]:=by unfold encV;rw [if_pos (ckE_zero.2 h)]
theorem encV_bad {ns:List Int} {ts:List ByteArray} (h:ckE ns ts ≠ 0):encV ns ts = .tuple #[.string ⟨#[]⟩,.int .i64 (ckE ns ts:Int)]:=by unfold encV;rw [if_neg h]
theorem ckE_le (ns:List Int) (ts:List ByteArray):ckE ns ts ≤ 2:=by
 unfold ckE
 split
 ·omega
 ·split
  ·omega
  ·split <;> omega
def InRange (ns:List Int) (ts:List ByteArray):Prop :=
 ns.length ≤ 9223372036854775807 ∧ ts.length ≤ 9223372036854775807 ∧ (∀ n ∈ ns,-9223372036854775808 ≤ n ∧ n ≤ 9223372036854775807) ∧ ∀ t ∈ ts,t.size ≤ 9223372036854775807
end Pk
end Go.Proofs.YtmidncclndongaaGreat
