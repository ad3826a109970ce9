/- Parts of the proof, joined: LtDone1, LtDone2, LtRoom, LtHolds, LtKind; their conditions stand with each. -/
import Derived.OneCell
import Derived.Test.YtlfkhlfkckfbpaaGreatC1
import Derived.Test.YtlfkhlfkckfbpaaGreatC3

set_option maxRecDepth 20000
set_option maxHeartbeats 8000000
namespace Go.Proofs.YtlfkhlfkckfbpaaGreat
namespace Lt
open Go.RowKit Bk
attribute [local go_sem ↓] Go.wp_at_zero Go.wp_at_succ
attribute [local go_sem] floatUpon pick
theorem within_any (n a b:Int) (w:World) :
  Calls Tryz.prog 224 #[.int .i64 n,.int .i64 a,.int .i64 b] w fun e w'=>e = .returned (.bool (decide (a ≤ n) && decide (n ≤ b))) ∧ w' = w:=by
 by_cases h1:a ≤ n
 ·have E:=Lib.hid (show (decide (a ≤ n) && decide (n ≤ b)) = decide (n ≤ b) by rw [decide_eq_true h1,Bool.true_and])
  go_enter Tryz.func224,Tryz.ntmps224
  go_wp2_with fail
  go_ret
  exact ⟨by rw [E.out];rfl,rfl⟩
 ·have E:=Lib.hid (show (decide (a ≤ n) && decide (n ≤ b)) = false by rw [decide_eq_false h1,Bool.false_and])
  have h2:n < a:=by omega
  clear h1
  go_enter Tryz.func224,Tryz.ntmps224
  go_wp2_with fail
  go_ret
  exact ⟨by rw [E.out];rfl,rfl⟩
theorem isAddress_any (n:Int) (w:World) :
  Calls Tryz.prog 223 #[.int .i64 n] w fun e w'=>e = .returned (.bool (decide (addr n))) ∧ w' = w:=by
 have H1:=Lib.hid (within_any n 0 11 w)
 have H2:=Lib.hid (within_any n 100 115 w)
 by_cases h1:0 ≤ n ∧ n ≤ 11
 ·have E:=Lib.hid (show decide (addr n) = true by rw [decide_eq_true_eq];unfold addr;omega)
  rw [show (decide (0 ≤ n) && decide (n ≤ 11)) = true by simp [h1]] at H1
  clear h1 H2
  go_enter Tryz.func223,Tryz.ntmps223
  go_wp2_with fail
  refine H1.out.mono ?_
  rintro e w1 ⟨rfl,rfl⟩
  go_wp2_with fail
  go_ret
  exact ⟨by rw [E.out];rfl,rfl⟩
 ·have E:=Lib.hid (show decide (addr n) = (decide (100 ≤ n) && decide (n ≤ 115)) by rw [← Bool.decide_and];unfold addr;congr 1;exact propext ⟨fun h=>by omega,fun h=>by omega⟩)
  rw [show (decide (0 ≤ n) && decide (n ≤ 11)) = false by rw [← Bool.decide_and,decide_eq_false h1]] at H1
  clear h1
  generalize (decide (100 ≤ n) && decide (n ≤ 115)) = b at E H2
  go_enter Tryz.func223,Tryz.ntmps223
  go_wp2_with fail
  refine H1.out.mono ?_
  rintro e w1 ⟨rfl,rfl⟩
  go_wp2_with fail
  refine H2.out.mono ?_
  rintro e w1 ⟨rfl,rfl⟩
  go_wp2_with fail
  go_ret
  exact ⟨by rw [E.out];rfl,rfl⟩
theorem lkey_any (s:ByteArray) (w:World) (hs:s.size ≤ 9223372036854775807) :
  Calls Tryz.prog 232 #[.string s] w fun e w'=>e = .returned (.bool (decide (keyOk s))) ∧ w' = w:=by
 have H1:=Lib.hid (within_any (s.size:Int) 1 32 w)
 rw [show (decide ((1:Int) ≤ (s.size:Int)) && decide ((s.size:Int) ≤ 32)) = decide (keyOk s) by rw [← Bool.decide_and];unfold keyOk;congr 1;exact propext ⟨fun h=>by omega,fun h=>by omega⟩] at H1
 go_enter Tryz.func232,Tryz.ntmps232
 go_wp2_with fail
 refine H1.out.mono ?_
 rintro e w1 ⟨rfl,rfl⟩
 go_wp2_with fail
 go_ret
 exact ⟨rfl,rfl⟩
theorem bytesLess_nil (l:List UInt8):Op.bytesLess l [] = false:=by
 cases l <;> rfl
theorem leT_nil {s:ByteArray} (h:1 ≤ s.size):leT s ⟨#[]⟩ = false:=by
 unfold leT
 rw [ByteArray.toList_eq,ByteArray.toList_eq]
 show (Op.bytesLess s.data.toList [] || s.data.toList == []) = false
 rw [bytesLess_nil,Bool.false_or]
 obtain ⟨a⟩:=s
 have h2:1 ≤ a.size:=h
 rw [beq_eq_false_iff_ne]
 intro e
 have:=congrArg List.length e
 simp at this
 rw [this] at h2
 simp at h2
def aheadT (l:List ByteArray) (j:Nat):ByteArray:=if j = 0 then ⟨#[]⟩ else l.getD (j - 1) ⟨#[]⟩
theorem ahead_succ {l:List ByteArray} {j:Nat} (h:j < l.length):aheadT l (j + 1) = l[j]:=by
 unfold aheadT
 rw [if_neg (by omega),Nat.add_sub_cancel,List.getD_eq_getElem?_getD,List.getElem?_eq_getElem h];rfl
theorem ahead_le {l:List ByteArray} {j:Nat} (h:j < l.length) (hk:keyOk l[j]):leT l[j] (aheadT l j) = true ↔ ∃ h0:0 < j,leT l[j] (l[j - 1]'(by omega)) = true:=by
 unfold aheadT
 by_cases h0:j = 0
 ·subst h0
  rw [if_pos rfl,leT_nil hk.1]
  exact ⟨fun e=>(by cases e),fun ⟨e,_⟩=>absurd e (by omega)⟩
 ·rw [if_neg h0,List.getD_eq_getElem?_getD,List.getElem?_eq_getElem (by omega)]
  exact ⟨fun e=>⟨by omega,e⟩,fun ⟨_,e⟩=>e⟩
theorem lrising_any (A:Option Addr) (c:Nat) (l:List ByteArray) (w:World) (h:StrsAt w A l) (hn:l.length ≤ 9223372036854775807) (hr:∀ s ∈ l,s.size ≤ 9223372036854775807) :
  Calls Tryz.prog 229 #[.slice A l.length c] w fun e w'=>e = .returned (.bool (risesB l)) ∧ Below w.heap.size w w':=by
 have HA:=Lib.hid h
 have HRr:=Lib.hid hr
 clear h hr
 go_enter Tryz.func229,Tryz.ntmps229
 go_wp2_with fail
 go_loopw [3,8] (fun u i wr=>∃ j:Nat,j ≤ l.length ∧ u = .string (aheadT l j) ∧ i = .int .i64 (j:Int) ∧ Hid (RisesTo l j) ∧ wr = w) (fun _ i _=>l.length - (intOf i).toNat)
 case atStart=>exact ⟨0,by omega,rfl,rfl,RisesTo.zero l,rfl⟩
 case round =>
  obtain ⟨j,hj,rfl,rfl,hup,rfl⟩:=hrel
  by_cases hlt:j < l.length
  ·have pj:(j:Int) < (l.length:Int):=by omega
   obtain ⟨ad,rfl,hab,hcl⟩:=HA.out (by omega)
   have x1:=hcl j hlt
   have HK:=Lib.hid (fun W=>lkey_any l[j] W (HRr.out _ (List.getElem_mem hlt)))
   have hsu:=ahead_succ hlt
   by_cases hk:keyOk l[j]
   ·rw [show decide (keyOk l[j]) = true by simpa using hk] at HK
    have hle:=ahead_le hlt hk
    cases hb:leT l[j] (aheadT l j) with
    | true =>
     have E:=Lib.hid (risesB_false (not_rises hlt (fun hh=>by
      obtain ⟨h0,e⟩:=hle.1 hb
      have:=hh.2 h0
      rw [e] at this;cases this)))
     have hle2:(Op.bytesLess l[j].toList (aheadT l j).toList || l[j].toList == (aheadT l j).toList) = true:=hb
     generalize aheadT l j = u at *
     generalize l[j] = x at *
     clear hup hk hle hb hcl hsu
     go_wp2_with fail
     refine (HK.out _).mono ?_
     rintro e w' ⟨rfl,rfl⟩
     go_wp2_with fail
     go_ret
     exact ⟨by rw [E.out];rfl,Below.refl _ _⟩
    | false =>
     have HU:=Lib.hid (hup.out.succ hlt hk (fun h0=>by
      cases e:leT l[j] (l[j - 1]'(by omega)) with
      | false=>rfl
      | true=>have:=hle.2 ⟨h0,e⟩;rw [hb] at this;cases this))
     have hle2:(Op.bytesLess l[j].toList (aheadT l j).toList || l[j].toList == (aheadT l j).toList) = false:=hb
     have HSu:=Lib.hid hsu
     generalize aheadT l j = u at *
     generalize l[j] = x at *
     clear hup hk hle hb hcl hsu
     go_wp2_with fail
     refine (HK.out _).mono ?_
     rintro e w' ⟨rfl,rfl⟩
     go_wp2_with fail
     go_roundw
     case rel=>exact ⟨j + 1,by omega,by rw [HSu.out],by go_num,HU.out,trivial⟩
     case measure=>simp [intOf];omega
   ·rw [show decide (keyOk l[j]) = false by simpa using hk] at HK
    have E:=Lib.hid (risesB_false (not_rises hlt (fun hh=>hk hh.1)))
    generalize aheadT l j = u at *
    generalize l[j] = x at *
    clear hup hk hcl hsu
    go_wp2_with fail
    refine (HK.out _).mono ?_
    rintro e w' ⟨rfl,rfl⟩
    go_wp2_with fail
    go_ret
    exact ⟨by rw [E.out];rfl,Below.refl _ _⟩
  ·obtain rfl:j = l.length:=by omega
   have E:=Lib.hid (risesB_true hup.out.all)
   clear hup
   go_wp2_with fail
   go_ret
   exact ⟨by rw [E.out];rfl,Below.refl _ _⟩
def AreOk (l:List Wr):Prop:=(∀ x ∈ l,wrOk x) ∧ Rises (l.map Wr.key)
noncomputable def areB (l:List Wr):Bool:=@decide (AreOk l) (Classical.propDecidable _)
theorem areB_true {l:List Wr} (h:AreOk l):areB l = true:=by unfold areB;exact @decide_eq_true _ (Classical.propDecidable _) h
theorem areB_false {l:List Wr} (h:¬ AreOk l):areB l = false:=by unfold areB;exact @decide_eq_false _ (Classical.propDecidable _) h
theorem areB_eq {l:List Wr} (h2:∀ x ∈ l,wrOk x):areB l = risesB (l.map Wr.key):=by
 by_cases h:Rises (l.map Wr.key)
 ·rw [risesB_true h,areB_true ⟨h2,h⟩]
 ·rw [risesB_false h,areB_false (fun hh=>h hh.2)]
theorem areWrites_any (A:Option Addr) (c:Nat) (l:List Wr) (w:World) (h:WrsAt w A l) (hn:l.length * 16 + 16 ≤ 140737488355328) (hr:∀ x ∈ l,x.key.size ≤ 9223372036854775807 ∧ x.shard.size ≤ 9223372036854775807) :
  Calls Tryz.prog 230 #[.slice A l.length c] w fun e w'=>e = .returned (.bool (areB l)) ∧ Below w.heap.size w w':=by
 obtain ⟨i0,hi,hz0,hz1,hz2⟩:=info_parts Tryz.infoStr
 have HRr:=Lib.hid hr
 have HA:=Lib.hid h
 clear h hr
 go_enter Tryz.func230,Tryz.ntmps230
 go_wp2_with fail
 go_loopw [3,8] (fun u i wr=>∃ j:Nat,j ≤ l.length ∧ i = .int .i64 (j:Int) ∧ Hid (∀ x ∈ l.take j,wrOk x) ∧ Hid (wr.ownsRow w.heap.size 9 1 u j (strV ((l.map Wr.key).take j))) ∧ Hid (Below w.heap.size w wr)) (fun _ i _=>l.length - (intOf i).toNat)
 case atStart=>exact ⟨0,by omega,rfl,fun x hx=>absurd hx (by simp),World.ownsRow_nil _ _ _ _,Below.refl _ _⟩
 case round =>
  obtain ⟨j,hj,rfl,hall,hown,hbel⟩:=hrel
  by_cases hlt:j < l.length
  ·have pj:(j:Int) < (l.length:Int):=by omega
   obtain ⟨ad,rfl,_,_⟩:=HA.out (by omega)
   obtain ⟨ad',e',hab,hcl⟩:=(HA.out.below hbel.out) (by omega)
   obtain rfl:=Option.some.inj e'
   obtain ⟨x0,x1,x2⟩:=hcl j hlt
   rw [← add_field _ _ _ (by omega)] at x1 x2
   have HKt:=Lib.hid (keys_take hlt)
   have hmem:l[j] ∈ l:=List.getElem_mem hlt
   have hrs:=(HRr.out _ hmem).2
   have hno:¬ wrOk l[j] → ¬ AreOk l:=fun h hw=>h (hw.1 _ hmem)
   have hyes:wrOk l[j] → ∀ x ∈ l.take (j + 1),wrOk x:=fun h=>mem_take_succ hlt hall.out h
   obtain ⟨X,hX⟩:∃ X,X = l[j]:=⟨_,rfl⟩
   rw [← hX] at x0 x1 x2 hrs hno hyes HKt
   clear hX hcl e' hab hmem
   obtain ⟨xk,xs,xd⟩:=X
   simp only at *
   go_upto_region 5 with fail
   have hB1:Below w.heap.size w (wr.alloc (.cells #[.string xk,.string xs,.bool xd] 139)):=hbel.out.alloc hbel.out.size _
   have hO1:(wr.alloc (.cells #[.string xk,.string xs,.bool xd] 139)).ownsRow w.heap.size 9 1 u3 j (strV ((l.map Wr.key).take j)):=hown.out.alloc _
   have hC1:Cel (wr.alloc (.cells #[.string xk,.string xs,.bool xd] 139)) wr.heap.size 139 [.string xk,.string xs,.bool xd]:=(blk1 _ _).2
   generalize wr.alloc (.cells #[.string xk,.string xs,.bool xd] 139) = W1 at hB1 hO1 hC1 ⊢
   have z0:=hC1.cell (i:=0) rfl
   have z1:=hC1.cell (i:=1) rfl
   have z2:=hC1.cell (i:=2) rfl
   have HB1:=Lib.hid hB1
   have HO1:=Lib.hid hO1
   have HC1:=Lib.hid hC1
   generalize wr.heap.size = g at *
   clear hB1 hO1 hC1 x0 x1 x2 hown hbel
   by_cases hs:xs.size ≤ 2052
   ·have ps:(xs.size:Int) ≤ 2052:=by omega
    cases xd with
    | false =>
     have HW:=Lib.hid (hyes ⟨hs,fun h=>by cases h.1⟩)
     clear hno hyes hs hall
     go_wp2_with (at_builtin;refine wpList_append_own _ rfl _ _ 57 rfl w.heap.size 9 i0 (.string ⟨#[]⟩) 1 16 Tryz.underlying57 hi hz0 hz1 hz2 rfl (by decide) _ _ _ rfl (HO1.out.alloc _) ⟨W1.heap.size,0,none⟩ 1 1 [.string xk] rfl rfl ?c1 ?c2 ?c3 ?c4 ?c5 ?_)
     case c1=>exact cell_one_new _ _ _
     case c2=>intro q hq;simp at hq;subst hq;rfl
     case c3=>unfold maxLen;omega
     case c4=>omega
     case c5=>have:=HB1.out.size;simp;omega
     intro v' w5 hown' hgrow _
     have HB5:=Lib.hid (below_append HO1.out HB1.out (Nat.le_refl _) hgrow)
     rw [← HKt.out] at hown'
     have HO5:=Lib.hid hown'
     clear hown' hgrow
     go_wp2_with fail
     go_roundw
     case rel=>exact ⟨j + 1,by omega,by go_num,HW.out,HO5.out,HB5.out⟩
     case measure=>simp [intOf];omega
    | true =>
     by_cases he:xs = ⟨#[]⟩
     ·have HW:=Lib.hid (hyes ⟨hs,fun h=>h.2 he⟩)
      subst he
      have t0:=text_eq ⟨#[]⟩
      clear hno hyes hs hall
      go_wp2_with (at_builtin;refine wpList_append_own _ rfl _ _ 57 rfl w.heap.size 9 i0 (.string ⟨#[]⟩) 1 16 Tryz.underlying57 hi hz0 hz1 hz2 rfl (by decide) _ _ _ rfl (HO1.out.alloc _) ⟨W1.heap.size,0,none⟩ 1 1 [.string xk] rfl rfl ?c1 ?c2 ?c3 ?c4 ?c5 ?_)
      case c1=>exact cell_one_new _ _ _
      case c2=>intro q hq;simp at hq;subst hq;rfl
      case c3=>unfold maxLen;omega
      case c4=>omega
      case c5=>have:=HB1.out.size;simp;omega
      intro v' w5 hown' hgrow _
      have HB5:=Lib.hid (below_append HO1.out HB1.out (Nat.le_refl _) hgrow)
      rw [← HKt.out] at hown'
      have HO5:=Lib.hid hown'
      clear hown' hgrow
      go_wp2_with fail
      go_roundw
      case rel=>exact ⟨j + 1,by omega,by go_num,HW.out,HO5.out,HB5.out⟩
      case measure=>simp [intOf];omega
     ·have E:=Lib.hid (areB_false (hno (fun h=>h.2 ⟨rfl,he⟩)))
      have t0:=text_ne he
      have t1:¬ xs.toList = []:=fun h=>he (by
       rw [ByteArray.toList_eq] at h
       obtain ⟨a⟩:=xs
       congr 1
       exact Array.toList_inj.1 h)
      have t2:xs.toList.isEmpty = false:=by rw [List.isEmpty_eq_false_iff];exact t1
      clear hno hyes hs hall he
      go_wp2_with fail
      go_ret
      exact ⟨by rw [E.out];rfl,HB1.out⟩
   ·have E:=Lib.hid (areB_false (hno (fun h=>hs h.1)))
    have ps:(2052:Int) < (xs.size:Int):=by omega
    clear hno hyes hs hall
    go_wp2_with fail
    go_ret
    exact ⟨by rw [E.out];rfl,HB1.out⟩
  ·obtain rfl:j = l.length:=by omega
   have hall2:=hall.out
   rw [List.take_length] at hall2
   have hown2:=hown.out
   have hkl:(l.map Wr.key).length = l.length:=List.length_map ..
   rw [List.take_of_length_le (by rw [hkl];exact Nat.le_refl _)] at hown2
   have E:=Lib.hid (areB_eq hall2)
   obtain ⟨B,d,rfl,hsb⟩:∃ (B:Option Addr) (d:Nat),u3 = .slice B l.length d ∧ StrsAt wr B (l.map Wr.key):=by
    rcases hown2.2 with ⟨h1,h2⟩ | ⟨g,cap,cur,h1,_⟩
    ·exact ⟨none,0,by rw [h1,h2],fun hp=>by rw [hkl] at hp;omega⟩
    ·subst h1
     exact ⟨_,_,rfl,StrsAt.own hown2 hkl.symm⟩
   have hR:=lrising_any B d (l.map Wr.key) wr hsb (by rw [hkl];omega) (fun s hs=>by obtain ⟨x,hx,rfl⟩:=List.mem_map.1 hs;exact (HRr.out x hx).1)
   rw [hkl] at hR
   have HR:=Lib.hid hR
   have HBl:=hbel
   clear hall hall2 hown hown2 hsb hR hbel hkl
   go_wp2_with fail
   refine HR.out.mono ?_
   rintro e w1 ⟨rfl,hb⟩
   have HB1:=Lib.hid (HBl.out.trans (hb.mono HBl.out.size))
   clear hb HBl HR
   go_wp2_with fail
   go_ret
   exact ⟨by rw [E.out];rfl,HB1.out⟩
structure Rm where
 code:Int
 text:Int
 fewest:Int
 most:Int
 writes:Int
def rmV (r:Rm):Value:=.agg #[.int .i64 r.code,.int .i64 r.text,.int .i64 r.fewest,.int .i64 r.most,.int .i64 r.writes]
def roomR (k:Int):Rm × Bool :=
 if k = 1 then (⟨0,0,1,1,0⟩,true) else if k = 2 then (⟨4,2052,1,1,0⟩,true) else if k = 3 then (⟨0,0,0,16,16⟩,true) else
 if k = 4 then (⟨1,0,0,0,0⟩,true) else if k = 8 then (⟨2,0,0,0,0⟩,true) else if k = 5 ∨ k = 6 ∨ k = 7 then (⟨0,0,0,0,0⟩,true) else (⟨0,0,0,0,0⟩,false)
theorem room_blk (w:World):Cel (w.alloc (.cells #[.int .i64 0,.int .i64 0,.int .i64 0,.int .i64 0,.int .i64 0] 289)) w.heap.size 289 [.int .i64 0,.int .i64 0,.int .i64 0,.int .i64 0,.int .i64 0]:=(blk1 w _).2
def set5 (W:World) (R:Nat) (v0 v1 v2 v3 v4:Value):World :=
 (((((W.setCell ⟨R,0,none⟩ v0).setCell ⟨R,1,none⟩ v1).setCell ⟨R,2,none⟩ v2).setCell ⟨R,3,none⟩ v3).setCell ⟨R,4,none⟩ v4)
theorem set5_cel {W:World} {R:Nat} {t:TypeId} {u0 u1 u2 u3 u4 v0 v1 v2 v3 v4:Value} (h:Cel W R t [u0,u1,u2,u3,u4]):Cel (set5 W R v0 v1 v2 v3 v4) R t [v0,v1,v2,v3,v4] :=
 ((((h.set (i:=0) (v:=v0)).set (i:=1) (v:=v1)).set (i:=2) (v:=v2)).set (i:=3) (v:=v3)).set (i:=4) (v:=v4)
theorem set5_below {w W:World} {H R:Nat} {v0 v1 v2 v3 v4:Value} (h:Below H w W) (hR:H ≤ R):Below H w (set5 W R v0 v1 v2 v3 v4) :=
 ((((h.setCell (p:=⟨R,0,none⟩) hR v0).setCell (p:=⟨R,1,none⟩) hR v1).setCell (p:=⟨R,2,none⟩) hR v2).setCell (p:=⟨R,3,none⟩) hR v3).setCell (p:=⟨R,4,none⟩) hR v4
theorem room_2 (w:World):Calls Tryz.prog 222 #[.int .i64 2] w fun e w'=>e = .returned (.tuple #[rmV ⟨4,2052,1,1,0⟩,.bool true]) ∧ Below w.heap.size w w':=by
 have hB1:Below w.heap.size w (w.alloc (.cells #[.int .i64 0,.int .i64 0,.int .i64 0,.int .i64 0,.int .i64 0] 289)):=(Below.refl _ w).alloc (Nat.le_refl _) _
 have HB1:=Lib.hid hB1
 have HC:=Lib.hid (room_blk w)
 clear hB1
 go_enter Tryz.func222,Tryz.ntmps222
 go_upto_region 1 with fail
 generalize w.alloc (.cells #[.int .i64 0,.int .i64 0,.int .i64 0,.int .i64 0,.int .i64 0] 289) = W1 at HB1 HC ⊢
 have a0:=HC.out.cell (i:=0) rfl
 have a1:=HC.out.cell (i:=1) rfl
 have a2:=HC.out.cell (i:=2) rfl
 have a3:=HC.out.cell (i:=3) rfl
 have a4:=HC.out.cell (i:=4) rfl
 have aq:=fun i=>HC.out.free (i:=i)
 go_wp2_with fail
 have HF:=Lib.hid (set5_cel (v0:=.int .i64 4) (v1:=.int .i64 2052) (v2:=.int .i64 1) (v3:=.int .i64 1) (v4:=.int .i64 0) ((((HC.out.set (i:=0) (v:=.int .i64 4)).set (i:=1) (v:=.int .i64 2052)).set (i:=2) (v:=.int .i64 1)).set (i:=3) (v:=.int .i64 1)))
 have z0:=HF.out.cell (i:=0) rfl
 have z1:=HF.out.cell (i:=1) rfl
 have z2:=HF.out.cell (i:=2) rfl
 have z3:=HF.out.cell (i:=3) rfl
 have z4:=HF.out.cell (i:=4) rfl
 have HBF:=Lib.hid (set5_below (v0:=.int .i64 4) (v1:=.int .i64 2052) (v2:=.int .i64 1) (v3:=.int .i64 1) (v4:=.int .i64 0) ((((HB1.out.setCell (p:=⟨w.heap.size,0,none⟩) (Nat.le_refl _) (.int .i64 4)).setCell (p:=⟨w.heap.size,1,none⟩) (Nat.le_refl _) (.int .i64 2052)).setCell (p:=⟨w.heap.size,2,none⟩) (Nat.le_refl _) (.int .i64 1)).setCell (p:=⟨w.heap.size,3,none⟩) (Nat.le_refl _) (.int .i64 1)) (Nat.le_refl _))
 unfold set5 at z0 z1 z2 z3 z4
 exact bodyPost_ret (v:=.tuple #[rmV ⟨4,2052,1,1,0⟩,.bool true]) (by simp [results,Tryz.results222,go_sem,rmV,z0,z1,z2,z3,z4]) rfl ⟨rfl,HBF.out⟩
theorem room_1 (w:World):Calls Tryz.prog 222 #[.int .i64 1] w fun e w'=>e = .returned (.tuple #[rmV ⟨0,0,1,1,0⟩,.bool true]) ∧ Below w.heap.size w w':=by
 have hB1:Below w.heap.size w (w.alloc (.cells #[.int .i64 0,.int .i64 0,.int .i64 0,.int .i64 0,.int .i64 0] 289)):=(Below.refl _ w).alloc (Nat.le_refl _) _
 have HB1:=Lib.hid hB1
 have HC:=Lib.hid (room_blk w)
 clear hB1
 go_enter Tryz.func222,Tryz.ntmps222
 go_upto_region 1 with fail
 generalize w.alloc (.cells #[.int .i64 0,.int .i64 0,.int .i64 0,.int .i64 0,.int .i64 0] 289) = W1 at HB1 HC ⊢
 have a0:=HC.out.cell (i:=0) rfl
 have a1:=HC.out.cell (i:=1) rfl
 have a2:=HC.out.cell (i:=2) rfl
 have a3:=HC.out.cell (i:=3) rfl
 have a4:=HC.out.cell (i:=4) rfl
 have aq:=fun i=>HC.out.free (i:=i)
 go_wp2_with fail
 have HF:=Lib.hid (set5_cel (v0:=.int .i64 0) (v1:=.int .i64 0) (v2:=.int .i64 1) (v3:=.int .i64 1) (v4:=.int .i64 0) ((HC.out.set (i:=2) (v:=.int .i64 1)).set (i:=3) (v:=.int .i64 1)))
 have z0:=HF.out.cell (i:=0) rfl
 have z1:=HF.out.cell (i:=1) rfl
 have z2:=HF.out.cell (i:=2) rfl
 have z3:=HF.out.cell (i:=3) rfl
 have z4:=HF.out.cell (i:=4) rfl
 have HBF:=Lib.hid (set5_below (v0:=.int .i64 0) (v1:=.int .i64 0) (v2:=.int .i64 1) (v3:=.int .i64 1) (v4:=.int .i64 0) ((HB1.out.setCell (p:=⟨w.heap.size,2,none⟩) (Nat.le_refl _) (.int .i64 1)).setCell (p:=⟨w.heap.size,3,none⟩) (Nat.le_refl _) (.int .i64 1)) (Nat.le_refl _))
 unfold set5 at z0 z1 z2 z3 z4
 exact bodyPost_ret (v:=.tuple #[rmV ⟨0,0,1,1,0⟩,.bool true]) (by simp [results,Tryz.results222,go_sem,rmV,z0,z1,z2,z3,z4]) rfl ⟨rfl,HBF.out⟩
theorem room_3 (w:World):Calls Tryz.prog 222 #[.int .i64 3] w fun e w'=>e = .returned (.tuple #[rmV ⟨0,0,0,16,16⟩,.bool true]) ∧ Below w.heap.size w w':=by
 have hB1:Below w.heap.size w (w.alloc (.cells #[.int .i64 0,.int .i64 0,.int .i64 0,.int .i64 0,.int .i64 0] 289)):=(Below.refl _ w).alloc (Nat.le_refl _) _
 have HB1:=Lib.hid hB1
 have HC:=Lib.hid (room_blk w)
 clear hB1
 go_enter Tryz.func222,Tryz.ntmps222
 go_upto_region 1 with fail
 generalize w.alloc (.cells #[.int .i64 0,.int .i64 0,.int .i64 0,.int .i64 0,.int .i64 0] 289) = W1 at HB1 HC ⊢
 have a0:=HC.out.cell (i:=0) rfl
 have a1:=HC.out.cell (i:=1) rfl
 have a2:=HC.out.cell (i:=2) rfl
 have a3:=HC.out.cell (i:=3) rfl
 have a4:=HC.out.cell (i:=4) rfl
 have aq:=fun i=>HC.out.free (i:=i)
 go_wp2_with fail
 have HF:=Lib.hid (set5_cel (v0:=.int .i64 0) (v1:=.int .i64 0) (v2:=.int .i64 0) (v3:=.int .i64 16) (v4:=.int .i64 16) ((HC.out.set (i:=3) (v:=.int .i64 16)).set (i:=4) (v:=.int .i64 16)))
 have z0:=HF.out.cell (i:=0) rfl
 have z1:=HF.out.cell (i:=1) rfl
 have z2:=HF.out.cell (i:=2) rfl
 have z3:=HF.out.cell (i:=3) rfl
 have z4:=HF.out.cell (i:=4) rfl
 have HBF:=Lib.hid (set5_below (v0:=.int .i64 0) (v1:=.int .i64 0) (v2:=.int .i64 0) (v3:=.int .i64 16) (v4:=.int .i64 16) ((HB1.out.setCell (p:=⟨w.heap.size,3,none⟩) (Nat.le_refl _) (.int .i64 16)).setCell (p:=⟨w.heap.size,4,none⟩) (Nat.le_refl _) (.int .i64 16)) (Nat.le_refl _))
 unfold set5 at z0 z1 z2 z3 z4
 exact bodyPost_ret (v:=.tuple #[rmV ⟨0,0,0,16,16⟩,.bool true]) (by simp [results,Tryz.results222,go_sem,rmV,z0,z1,z2,z3,z4]) rfl ⟨rfl,HBF.out⟩
theorem room_4 (w:World):Calls Tryz.prog 222 #[.int .i64 4] w fun e w'=>e = .returned (.tuple #[rmV ⟨1,0,0,0,0⟩,.bool true]) ∧ Below w.heap.size w w':=by
 have hB1:Below w.heap.size w (w.alloc (.cells #[.int .i64 0,.int .i64 0,.int .i64 0,.int .i64 0,.int .i64 0] 289)):=(Below.refl _ w).alloc (Nat.le_refl _) _
 have HB1:=Lib.hid hB1
 have HC:=Lib.hid (room_blk w)
 clear hB1
 go_enter Tryz.func222,Tryz.ntmps222
 go_upto_region 1 with fail
 generalize w.alloc (.cells #[.int .i64 0,.int .i64 0,.int .i64 0,.int .i64 0,.int .i64 0] 289) = W1 at HB1 HC ⊢
 have a0:=HC.out.cell (i:=0) rfl
 have a1:=HC.out.cell (i:=1) rfl
 have a2:=HC.out.cell (i:=2) rfl
 have a3:=HC.out.cell (i:=3) rfl
 have a4:=HC.out.cell (i:=4) rfl
 have aq:=fun i=>HC.out.free (i:=i)
 go_wp2_with fail
 have HF:=Lib.hid (set5_cel (v0:=.int .i64 1) (v1:=.int .i64 0) (v2:=.int .i64 0) (v3:=.int .i64 0) (v4:=.int .i64 0) (HC.out.set (i:=0) (v:=.int .i64 1)))
 have z0:=HF.out.cell (i:=0) rfl
 have z1:=HF.out.cell (i:=1) rfl
 have z2:=HF.out.cell (i:=2) rfl
 have z3:=HF.out.cell (i:=3) rfl
 have z4:=HF.out.cell (i:=4) rfl
 have HBF:=Lib.hid (set5_below (v0:=.int .i64 1) (v1:=.int .i64 0) (v2:=.int .i64 0) (v3:=.int .i64 0) (v4:=.int .i64 0) (HB1.out.setCell (p:=⟨w.heap.size,0,none⟩) (Nat.le_refl _) (.int .i64 1)) (Nat.le_refl _))
 unfold set5 at z0 z1 z2 z3 z4
 exact bodyPost_ret (v:=.tuple #[rmV ⟨1,0,0,0,0⟩,.bool true]) (by simp [results,Tryz.results222,go_sem,rmV,z0,z1,z2,z3,z4]) rfl ⟨rfl,HBF.out⟩
theorem room_8 (w:World):Calls Tryz.prog 222 #[.int .i64 8] w fun e w'=>e = .returned (.tuple #[rmV ⟨2,0,0,0,0⟩,.bool true]) ∧ Below w.heap.size w w':=by
 have hB1:Below w.heap.size w (w.alloc (.cells #[.int .i64 0,.int .i64 0,.int .i64 0,.int .i64 0,.int .i64 0] 289)):=(Below.refl _ w).alloc (Nat.le_refl _) _
 have HB1:=Lib.hid hB1
 have HC:=Lib.hid (room_blk w)
 clear hB1
 go_enter Tryz.func222,Tryz.ntmps222
 go_upto_region 1 with fail
 generalize w.alloc (.cells #[.int .i64 0,.int .i64 0,.int .i64 0,.int .i64 0,.int .i64 0] 289) = W1 at HB1 HC ⊢
 have a0:=HC.out.cell (i:=0) rfl
 have a1:=HC.out.cell (i:=1) rfl
 have a2:=HC.out.cell (i:=2) rfl
 have a3:=HC.out.cell (i:=3) rfl
 have a4:=HC.out.cell (i:=4) rfl
 have aq:=fun i=>HC.out.free (i:=i)
 go_wp2_with fail
 have HF:=Lib.hid (set5_cel (v0:=.int .i64 2) (v1:=.int .i64 0) (v2:=.int .i64 0) (v3:=.int .i64 0) (v4:=.int .i64 0) (HC.out.set (i:=0) (v:=.int .i64 2)))
 have z0:=HF.out.cell (i:=0) rfl
 have z1:=HF.out.cell (i:=1) rfl
 have z2:=HF.out.cell (i:=2) rfl
 have z3:=HF.out.cell (i:=3) rfl
 have z4:=HF.out.cell (i:=4) rfl
 have HBF:=Lib.hid (set5_below (v0:=.int .i64 2) (v1:=.int .i64 0) (v2:=.int .i64 0) (v3:=.int .i64 0) (v4:=.int .i64 0) (HB1.out.setCell (p:=⟨w.heap.size,0,none⟩) (Nat.le_refl _) (.int .i64 2)) (Nat.le_refl _))
 unfold set5 at z0 z1 z2 z3 z4
 exact bodyPost_ret (v:=.tuple #[rmV ⟨2,0,0,0,0⟩,.bool true]) (by simp [results,Tryz.results222,go_sem,rmV,z0,z1,z2,z3,z4]) rfl ⟨rfl,HBF.out⟩
theorem room_5 (w:World):Calls Tryz.prog 222 #[.int .i64 5] w fun e w'=>e = .returned (.tuple #[rmV ⟨0,0,0,0,0⟩,.bool true]) ∧ Below w.heap.size w w':=by
 have hB1:Below w.heap.size w (w.alloc (.cells #[.int .i64 0,.int .i64 0,.int .i64 0,.int .i64 0,.int .i64 0] 289)):=(Below.refl _ w).alloc (Nat.le_refl _) _
 have HB1:=Lib.hid hB1
 have HC:=Lib.hid (room_blk w)
 clear hB1
 go_enter Tryz.func222,Tryz.ntmps222
 go_upto_region 1 with fail
 generalize w.alloc (.cells #[.int .i64 0,.int .i64 0,.int .i64 0,.int .i64 0,.int .i64 0] 289) = W1 at HB1 HC ⊢
 have a0:=HC.out.cell (i:=0) rfl
 have a1:=HC.out.cell (i:=1) rfl
 have a2:=HC.out.cell (i:=2) rfl
 have a3:=HC.out.cell (i:=3) rfl
 have a4:=HC.out.cell (i:=4) rfl
 have aq:=fun i=>HC.out.free (i:=i)
 go_wp2_with fail
 have HF:=Lib.hid (set5_cel (v0:=.int .i64 0) (v1:=.int .i64 0) (v2:=.int .i64 0) (v3:=.int .i64 0) (v4:=.int .i64 0) HC.out)
 have z0:=HF.out.cell (i:=0) rfl
 have z1:=HF.out.cell (i:=1) rfl
 have z2:=HF.out.cell (i:=2) rfl
 have z3:=HF.out.cell (i:=3) rfl
 have z4:=HF.out.cell (i:=4) rfl
 have HBF:=Lib.hid (set5_below (v0:=.int .i64 0) (v1:=.int .i64 0) (v2:=.int .i64 0) (v3:=.int .i64 0) (v4:=.int .i64 0) HB1.out (Nat.le_refl _))
 unfold set5 at z0 z1 z2 z3 z4
 exact bodyPost_ret (v:=.tuple #[rmV ⟨0,0,0,0,0⟩,.bool true]) (by simp [results,Tryz.results222,go_sem,rmV,z0,z1,z2,z3,z4]) rfl ⟨rfl,HBF.out⟩
theorem room_6 (w:World):Calls Tryz.prog 222 #[.int .i64 6] w fun e w'=>e = .returned (.tuple #[rmV ⟨0,0,0,0,0⟩,.bool true]) ∧ Below w.heap.size w w':=by
 have hB1:Below w.heap.size w (w.alloc (.cells #[.int .i64 0,.int .i64 0,.int .i64 0,.int .i64 0,.int .i64 0] 289)):=(Below.refl _ w).alloc (Nat.le_refl _) _
 have HB1:=Lib.hid hB1
 have HC:=Lib.hid (room_blk w)
 clear hB1
 go_enter Tryz.func222,Tryz.ntmps222
 go_upto_region 1 with fail
 generalize w.alloc (.cells #[.int .i64 0,.int .i64 0,.int .i64 0,.int .i64 0,.int .i64 0] 289) = W1 at HB1 HC ⊢
 have a0:=HC.out.cell (i:=0) rfl
 have a1:=HC.out.cell (i:=1) rfl
 have a2:=HC.out.cell (i:=2) rfl
 have a3:=HC.out.cell (i:=3) rfl
 have a4:=HC.out.cell (i:=4) rfl
 have aq:=fun i=>HC.out.free (i:=i)
 go_wp2_with fail
 have HF:=Lib.hid (set5_cel (v0:=.int .i64 0) (v1:=.int .i64 0) (v2:=.int .i64 0) (v3:=.int .i64 0) (v4:=.int .i64 0) HC.out)
 have z0:=HF.out.cell (i:=0) rfl
 have z1:=HF.out.cell (i:=1) rfl
 have z2:=HF.out.cell (i:=2) rfl
 have z3:=HF.out.cell (i:=3) rfl
 have z4:=HF.out.cell (i:=4) rfl
 have HBF:=Lib.hid (set5_below (v0:=.int .i64 0) (v1:=.int .i64 0) (v2:=.int .i64 0) (v3:=.int .i64 0) (v4:=.int .i64 0) HB1.out (Nat.le_refl _))
 unfold set5 at z0 z1 z2 z3 z4
 exact bodyPost_ret (v:=.tuple #[rmV ⟨0,0,0,0,0⟩,.bool true]) (by simp [results,Tryz.results222,go_sem,rmV,z0,z1,z2,z3,z4]) rfl ⟨rfl,HBF.out⟩
theorem room_7 (w:World):Calls Tryz.prog 222 #[.int .i64 7] w fun e w'=>e = .returned (.tuple #[rmV ⟨0,0,0,0,0⟩,.bool true]) ∧ Below w.heap.size w w':=by
 have hB1:Below w.heap.size w (w.alloc (.cells #[.int .i64 0,.int .i64 0,.int .i64 0,.int .i64 0,.int .i64 0] 289)):=(Below.refl _ w).alloc (Nat.le_refl _) _
 have HB1:=Lib.hid hB1
 have HC:=Lib.hid (room_blk w)
 clear hB1
 go_enter Tryz.func222,Tryz.ntmps222
 go_upto_region 1 with fail
 generalize w.alloc (.cells #[.int .i64 0,.int .i64 0,.int .i64 0,.int .i64 0,.int .i64 0] 289) = W1 at HB1 HC ⊢
 have a0:=HC.out.cell (i:=0) rfl
 have a1:=HC.out.cell (i:=1) rfl
 have a2:=HC.out.cell (i:=2) rfl
 have a3:=HC.out.cell (i:=3) rfl
 have a4:=HC.out.cell (i:=4) rfl
 have aq:=fun i=>HC.out.free (i:=i)
 go_wp2_with fail
 have HF:=Lib.hid (set5_cel (v0:=.int .i64 0) (v1:=.int .i64 0) (v2:=.int .i64 0) (v3:=.int .i64 0) (v4:=.int .i64 0) HC.out)
 have z0:=HF.out.cell (i:=0) rfl
 have z1:=HF.out.cell (i:=1) rfl
 have z2:=HF.out.cell (i:=2) rfl
 have z3:=HF.out.cell (i:=3) rfl
 have z4:=HF.out.cell (i:=4) rfl
 have HBF:=Lib.hid (set5_below (v0:=.int .i64 0) (v1:=.int .i64 0) (v2:=.int .i64 0) (v3:=.int .i64 0) (v4:=.int .i64 0) HB1.out (Nat.le_refl _))
 unfold set5 at z0 z1 z2 z3 z4
 exact bodyPost_ret (v:=.tuple #[rmV ⟨0,0,0,0,0⟩,.bool true]) (by simp [results,Tryz.results222,go_sem,rmV,z0,z1,z2,z3,z4]) rfl ⟨rfl,HBF.out⟩
theorem room_no (k:Int) (n1:(k == 1) = false) (n2:(k == 2) = false) (n3:(k == 3) = false) (n4:(k == 4) = false) (n5:(k == 5) = false) (n6:(k == 6) = false) (n7:(k == 7) = false) (n8:(k == 8) = false) (w:World):Calls Tryz.prog 222 #[.int .i64 k] w fun e w'=>e = .returned (.tuple #[rmV ⟨0,0,0,0,0⟩,.bool false]) ∧ Below w.heap.size w w':=by
 have hB1:Below w.heap.size w (w.alloc (.cells #[.int .i64 0,.int .i64 0,.int .i64 0,.int .i64 0,.int .i64 0] 289)):=(Below.refl _ w).alloc (Nat.le_refl _) _
 have HB1:=Lib.hid hB1
 have HC:=Lib.hid (room_blk w)
 clear hB1
 go_enter Tryz.func222,Tryz.ntmps222
 go_upto_region 1 with fail
 generalize w.alloc (.cells #[.int .i64 0,.int .i64 0,.int .i64 0,.int .i64 0,.int .i64 0] 289) = W1 at HB1 HC ⊢
 have a0:=HC.out.cell (i:=0) rfl
 have a1:=HC.out.cell (i:=1) rfl
 have a2:=HC.out.cell (i:=2) rfl
 have a3:=HC.out.cell (i:=3) rfl
 have a4:=HC.out.cell (i:=4) rfl
 have aq:=fun i=>HC.out.free (i:=i)
 go_wp2_with fail
 have HF:=Lib.hid (set5_cel (v0:=.int .i64 0) (v1:=.int .i64 0) (v2:=.int .i64 0) (v3:=.int .i64 0) (v4:=.int .i64 0) HC.out)
 have z0:=HF.out.cell (i:=0) rfl
 have z1:=HF.out.cell (i:=1) rfl
 have z2:=HF.out.cell (i:=2) rfl
 have z3:=HF.out.cell (i:=3) rfl
 have z4:=HF.out.cell (i:=4) rfl
 have HBF:=Lib.hid (set5_below (v0:=.int .i64 0) (v1:=.int .i64 0) (v2:=.int .i64 0) (v3:=.int .i64 0) (v4:=.int .i64 0) HB1.out (Nat.le_refl _))
 unfold set5 at z0 z1 z2 z3 z4
 exact bodyPost_ret (v:=.tuple #[rmV ⟨0,0,0,0,0⟩,.bool false]) (by simp [results,Tryz.results222,go_sem,rmV,z0,z1,z2,z3,z4]) rfl ⟨rfl,HBF.out⟩
theorem roomOf_any (k:Int) (w:World):Calls Tryz.prog 222 #[.int .i64 k] w fun e w'=>e = .returned (.tuple #[rmV (roomR k).1,.bool (roomR k).2]) ∧ Below w.heap.size w w':=by
 have hn:∀ z:Int,¬ k = z → (k == z) = false:=fun z h=>by simpa using h
 by_cases h1:k = 1
 ·subst h1;exact room_1 w
 by_cases h2:k = 2
 ·subst h2;exact room_2 w
 by_cases h3:k = 3
 ·subst h3;exact room_3 w
 by_cases h4:k = 4
 ·subst h4;exact room_4 w
 by_cases h5:k = 5
 ·subst h5;exact room_5 w
 by_cases h6:k = 6
 ·subst h6;exact room_6 w
 by_cases h7:k = 7
 ·subst h7;exact room_7 w
 by_cases h8:k = 8
 ·subst h8;exact room_8 w
 have e:roomR k = (⟨0,0,0,0,0⟩,false):=by
  unfold roomR
  rw [if_neg h1,if_neg h2,if_neg h3,if_neg h4,if_neg h8,if_neg (by omega)]
 rw [e]
 exact room_no k (hn _ h1) (hn _ h2) (hn _ h3) (hn _ h4) (hn _ h5) (hn _ h6) (hn _ h7) (hn _ h8) w
noncomputable def holdsB (r:Rm) (l:Let):Bool :=
 (decide (0 ≤ l.code) && decide (l.code ≤ r.code)) && (decide ((l.text.size:Int) ≤ r.text) && ((decide (l.text = ⟨#[]⟩) || decide (l.code = 1)) &&
 ((decide (r.fewest ≤ (l.keys.length:Int)) && decide ((l.keys.length:Int) ≤ r.most)) && (risesB l.keys && (decide ((l.ws.length:Int) ≤ r.writes) && areB l.ws)))))
theorem holds_any (r:Rm) (A B:Option Addr) (c d:Nat) (l:Let) (w:World) (ha:StrsAt w A l.keys) (hb:WrsAt w B l.ws) (hr:LetRng l) :
  Calls Tryz.prog 225 #[rmV r,letV l A B c d] w fun e w'=>e = .returned (.bool (holdsB r l)) ∧ Below w.heap.size w w':=by
 have rb:reachBytes = 140737488351232:=by unfold reachBytes;rfl
 have r16:=hr.k16
 have w16:=hr.w16
 have HI:=Lib.hid (fun W=>within_any l.code 0 r.code W)
 have HL:=Lib.hid (fun W=>within_any (l.keys.length:Int) r.fewest r.most W)
 have HK:=Lib.hid (fun W (hbl:Below w.heap.size w W)=>lrising_any A c l.keys W (ha.below hbl) (by omega) (fun s hs=>by have:=hr.kr s hs;omega))
 have HW:=Lib.hid (fun W (hbl:Below w.heap.size w W)=>areWrites_any B d l.ws W (hb.below hbl) (by omega) (fun x hx=>by have:=hr.wr x hx;omega))
 unfold letV rmV
 obtain ⟨s2,b1,b2⟩:=blk2 w (.cells #[.int .i64 r.code,.int .i64 r.text,.int .i64 r.fewest,.int .i64 r.most,.int .i64 r.writes] 289) (.cells #[.int .i64 l.kind,.int .i64 l.src,.int .i64 l.dst,.int .i64 l.txn,.int .i64 l.ts,.int .i64 l.code,.string l.text,.slice A l.keys.length c,.slice B l.ws.length d] 270)
 have hB:Below w.heap.size w ((w.alloc (.cells #[.int .i64 r.code,.int .i64 r.text,.int .i64 r.fewest,.int .i64 r.most,.int .i64 r.writes] 289)).alloc (.cells #[.int .i64 l.kind,.int .i64 l.src,.int .i64 l.dst,.int .i64 l.txn,.int .i64 l.ts,.int .i64 l.code,.string l.text,.slice A l.keys.length c,.slice B l.ws.length d] 270)) :=
  ((Below.refl _ w).alloc (Nat.le_refl _) _).alloc (by simp) _
 have HB:=Lib.hid hB
 have C1:Cel _ _ _ [_,_,_,_,_]:=b1
 have C2:Cel _ _ _ [_,_,_,_,_,_,_,_,_]:=b2
 have HC1:=Lib.hid C1
 have HC2:=Lib.hid C2
 clear hB s2 b1 b2 C1 C2 ha hb hr r16 w16
 go_enter Tryz.func225,Tryz.ntmps225
 go_upto_region 1 with fail
 generalize ((w.alloc (.cells #[.int .i64 r.code,.int .i64 r.text,.int .i64 r.fewest,.int .i64 r.most,.int .i64 r.writes] 289)).alloc (.cells #[.int .i64 l.kind,.int .i64 l.src,.int .i64 l.dst,.int .i64 l.txn,.int .i64 l.ts,.int .i64 l.code,.string l.text,.slice A l.keys.length c,.slice B l.ws.length d] 270)) = W1 at HB HC1 HC2 ⊢
 have p0:=HC1.out.cell (i:=0) rfl
 have p1:=HC1.out.cell (i:=1) rfl
 have p2:=HC1.out.cell (i:=2) rfl
 have p3:=HC1.out.cell (i:=3) rfl
 have p4:=HC1.out.cell (i:=4) rfl
 have q5:=HC2.out.cell (i:=5) rfl
 have q6:=HC2.out.cell (i:=6) rfl
 have q7:=HC2.out.cell (i:=7) rfl
 have q8:=HC2.out.cell (i:=8) rfl
 obtain ⟨x1,hx1⟩:∃ x,x = (decide (0 ≤ l.code) && decide (l.code ≤ r.code)):=⟨_,rfl⟩
 obtain ⟨x4,hx4⟩:∃ x,x = (decide (r.fewest ≤ (l.keys.length:Int)) && decide ((l.keys.length:Int) ≤ r.most)):=⟨_,rfl⟩
 have e0:holdsB r l = (x1 && (decide ((l.text.size:Int) ≤ r.text) && ((decide (l.text = ⟨#[]⟩) || decide (l.code = 1)) && (x4 && (risesB l.keys && (decide ((l.ws.length:Int) ≤ r.writes) && areB l.ws)))))):=by rw [hx1,hx4];rfl
 rw [← hx1] at HI
 rw [← hx4] at HL
 clear hx1 hx4
 generalize risesB l.keys = x5 at *
 generalize areB l.ws = x7 at *
 cases x1 with
 | false =>
  have E:=Lib.hid e0
  clear e0
  go_wp2_with fail
  refine (HI.out _).mono ?_
  rintro e w2 ⟨rfl,rfl⟩
  go_wp2_with fail
  go_ret
  exact ⟨by rw [E.out];rfl,HB.out⟩
 | true =>
 by_cases h2:(l.text.size:Int) ≤ r.text
 case neg =>
  have E:=Lib.hid (show holdsB r l = false by rw [e0,decide_eq_false h2];rfl)
  have n2:r.text < (l.text.size:Int):=by omega
  clear e0
  go_wp2_with fail
  refine (HI.out _).mono ?_
  rintro e w2 ⟨rfl,rfl⟩
  go_wp2_with fail
  go_ret
  exact ⟨by rw [E.out];rfl,HB.out⟩
 rw [decide_eq_true h2] at e0
 have hor:((decide (l.text = ⟨#[]⟩) || decide (l.code = 1)) = false ∧ ¬ l.text.toList = [] ∧ (l.code == 1) = false) ∨ ((decide (l.text = ⟨#[]⟩) || decide (l.code = 1)) = true ∧ ((l.text = ⟨#[]⟩) ∨ (¬ l.text.toList = [] ∧ (l.code == 1) = true))):=by
  by_cases he:l.text = ⟨#[]⟩
  ·exact .inr ⟨by rw [decide_eq_true he];rfl,.inl he⟩
  ·by_cases hc:l.code = 1
   ·exact .inr ⟨by rw [decide_eq_true hc,Bool.or_true],.inr ⟨empty_list he,by simpa using hc⟩⟩
   ·exact .inl ⟨by rw [decide_eq_false he,decide_eq_false hc];rfl,empty_list he,by simpa using hc⟩
 rcases hor with ⟨f3,f4,f5⟩ | ⟨f3,f4⟩
 ·have E:=Lib.hid (show holdsB r l = false by rw [e0,f3];rfl)
  have f6:l.text.toList.isEmpty = false:=by rw [List.isEmpty_eq_false_iff];exact f4
  clear e0 f3
  go_wp2_with fail
  refine (HI.out _).mono ?_
  rintro e w2 ⟨rfl,rfl⟩
  go_wp2_with fail
  go_ret
  exact ⟨by rw [E.out];rfl,HB.out⟩
 rw [f3] at e0
 have HO:∀ (P:Prop),(l.text = ⟨#[]⟩ → P) → (¬ l.text.toList = [] → l.text.toList.isEmpty = false → (l.code == 1) = true → P) → P:=fun P h1 h2=>by
  rcases f4 with f4 | ⟨f4,f5⟩
  ·exact h1 f4
  ·exact h2 f4 (by rw [List.isEmpty_eq_false_iff];exact f4) f5
 have HO2:=Lib.hid HO
 clear f3 f4 HO
 cases x4 with
 | false =>
  have E:=Lib.hid e0
  clear e0
  refine HO2.out _ (fun f4=>?_) (fun f4 f5 f6=>?_)
  ·rw [f4] at q6 h2
   have t0:=text_eq ⟨#[]⟩
   go_wp2_with fail
   refine (HI.out _).mono ?_
   rintro e w2 ⟨rfl,rfl⟩
   go_wp2_with fail
   refine (HL.out _).mono ?_
   rintro e w2 ⟨rfl,rfl⟩
   go_wp2_with fail
   go_ret
   exact ⟨by rw [E.out];rfl,HB.out⟩
  ·go_wp2_with fail
   refine (HI.out _).mono ?_
   rintro e w2 ⟨rfl,rfl⟩
   go_wp2_with fail
   refine (HL.out _).mono ?_
   rintro e w2 ⟨rfl,rfl⟩
   go_wp2_with fail
   go_ret
   exact ⟨by rw [E.out];rfl,HB.out⟩
 | true =>
 have hrest:∀ (W2:World),Below W1.heap.size W1 W2 → Hid (Below w.heap.size w W2 ∧ W2.cell? ⟨w.heap.size + 1,8,none⟩ = some (.slice B l.ws.length d) ∧ W2.cell? ⟨w.heap.size,4,none⟩ = some (.int .i64 r.writes)):=fun W2 hb =>
  Lib.hid ⟨HB.out.trans (hb.mono HB.out.size),(HC2.out.below hb).cell (i:=8) rfl,(HC1.out.below hb).cell (i:=4) rfl⟩
 have HRest:=Lib.hid hrest
 clear hrest HC1 HC2
 have hcase:(x5 = false) ∨ (x5 = true ∧ ¬ (l.ws.length:Int) ≤ r.writes) ∨ (x5 = true ∧ (l.ws.length:Int) ≤ r.writes):=by
  cases x5 with
  | false=>exact .inl rfl
  | true=>exact .inr (by by_cases h:(l.ws.length:Int) ≤ r.writes;exact .inr ⟨rfl,h⟩;exact .inl ⟨rfl,h⟩)
 rcases hcase with rfl | ⟨rfl,h6⟩ | ⟨rfl,h6⟩
 ·have E:=Lib.hid e0
  clear e0
  refine HO2.out _ (fun f4=>?_) (fun f4 f5 f6=>?_)
  ·rw [f4] at q6 h2
   have t0:=text_eq ⟨#[]⟩
   go_wp2_with fail
   refine (HI.out _).mono ?_
   rintro e w2 ⟨rfl,rfl⟩
   go_wp2_with fail
   refine (HL.out _).mono ?_
   rintro e w2 ⟨rfl,rfl⟩
   go_wp2_with fail
   refine (HK.out _ HB.out).mono ?_
   rintro e w2 ⟨rfl,hb⟩
   have HB2:=HRest.out _ hb
   clear hb
   go_wp2_with fail
   go_ret
   exact ⟨by rw [E.out];rfl,HB2.out.1⟩
  ·go_wp2_with fail
   refine (HI.out _).mono ?_
   rintro e w2 ⟨rfl,rfl⟩
   go_wp2_with fail
   refine (HL.out _).mono ?_
   rintro e w2 ⟨rfl,rfl⟩
   go_wp2_with fail
   refine (HK.out _ HB.out).mono ?_
   rintro e w2 ⟨rfl,hb⟩
   have HB2:=HRest.out _ hb
   clear hb
   go_wp2_with fail
   go_ret
   exact ⟨by rw [E.out];rfl,HB2.out.1⟩
 ·have E:=Lib.hid (show holdsB r l = false by rw [e0,decide_eq_false h6];rfl)
  have n6:r.writes < (l.ws.length:Int):=by omega
  clear e0
  refine HO2.out _ (fun f4=>?_) (fun f4 f5 f6=>?_)
  ·rw [f4] at q6 h2
   have t0:=text_eq ⟨#[]⟩
   go_wp2_with fail
   refine (HI.out _).mono ?_
   rintro e w2 ⟨rfl,rfl⟩
   go_wp2_with fail
   refine (HL.out _).mono ?_
   rintro e w2 ⟨rfl,rfl⟩
   go_wp2_with fail
   refine (HK.out _ HB.out).mono ?_
   rintro e w2 ⟨rfl,hb⟩
   have HB2:=HRest.out _ hb
   have y8:=HB2.out.2.1
   have y4:=HB2.out.2.2
   clear hb
   go_wp2_with fail
   go_ret
   exact ⟨by rw [E.out];rfl,HB2.out.1⟩
  ·go_wp2_with fail
   refine (HI.out _).mono ?_
   rintro e w2 ⟨rfl,rfl⟩
   go_wp2_with fail
   refine (HL.out _).mono ?_
   rintro e w2 ⟨rfl,rfl⟩
   go_wp2_with fail
   refine (HK.out _ HB.out).mono ?_
   rintro e w2 ⟨rfl,hb⟩
   have HB2:=HRest.out _ hb
   have y8:=HB2.out.2.1
   have y4:=HB2.out.2.2
   clear hb
   go_wp2_with fail
   go_ret
   exact ⟨by rw [E.out];rfl,HB2.out.1⟩
 ·have E:=Lib.hid (show holdsB r l = x7 by rw [e0,decide_eq_true h6];simp)
  clear e0
  refine HO2.out _ (fun f4=>?_) (fun f4 f5 f6=>?_)
  ·rw [f4] at q6 h2
   have t0:=text_eq ⟨#[]⟩
   go_wp2_with fail
   refine (HI.out _).mono ?_
   rintro e w2 ⟨rfl,rfl⟩
   go_wp2_with fail
   refine (HL.out _).mono ?_
   rintro e w2 ⟨rfl,rfl⟩
   go_wp2_with fail
   refine (HK.out _ HB.out).mono ?_
   rintro e w2 ⟨rfl,hb⟩
   have HB2:=HRest.out _ hb
   have y8:=HB2.out.2.1
   have y4:=HB2.out.2.2
   clear hb
   go_wp2_with fail
   refine (HW.out _ HB2.out.1).mono ?_
   rintro e w3 ⟨rfl,hb⟩
   have HB3:=Lib.hid (HB2.out.1.trans (hb.mono HB2.out.1.size))
   clear hb
   go_wp2_with fail
   go_ret
   exact ⟨by rw [E.out];rfl,HB3.out⟩
  ·go_wp2_with fail
   refine (HI.out _).mono ?_
   rintro e w2 ⟨rfl,rfl⟩
   go_wp2_with fail
   refine (HL.out _).mono ?_
   rintro e w2 ⟨rfl,rfl⟩
   go_wp2_with fail
   refine (HK.out _ HB.out).mono ?_
   rintro e w2 ⟨rfl,hb⟩
   have HB2:=HRest.out _ hb
   have y8:=HB2.out.2.1
   have y4:=HB2.out.2.2
   clear hb
   go_wp2_with fail
   refine (HW.out _ HB2.out.1).mono ?_
   rintro e w3 ⟨rfl,hb⟩
   have HB3:=Lib.hid (HB2.out.1.trans (hb.mono HB2.out.1.size))
   clear hb
   go_wp2_with fail
   go_ret
   exact ⟨by rw [E.out];rfl,HB3.out⟩
theorem size_zero {s:ByteArray} (h:s.size = 0):s = ⟨#[]⟩:=by
 obtain ⟨a⟩:=s
 congr 1
 exact Array.eq_empty_of_size_eq_zero h
theorem rises_one {k:ByteArray}:Rises [k] ↔ keyOk k:=by
 constructor
 ·intro h;exact (h 0 (by simp)).1
 ·intro h i hi
  match i,hi with
  | 0,_=>exact ⟨h,fun h0=>absurd h0 (by omega)⟩
theorem are_nil:AreOk []:=⟨fun x hx=>absurd hx (by simp),Rises.nil⟩
theorem holds_kind (l:Let):(headOk l ∧ kindOk l) ↔ ((roomR l.kind).2 = true ∧ addr l.src ∧ addr l.dst ∧ txnOk l.txn ∧ stampOk l.ts ∧ holdsB (roomR l.kind).1 l = true):=by
 have hb:∀ r:Rm,holdsB r l = true ↔ (0 ≤ l.code ∧ l.code ≤ r.code) ∧ (l.text.size:Int) ≤ r.text ∧ (l.text = ⟨#[]⟩ ∨ l.code = 1) ∧ (r.fewest ≤ (l.keys.length:Int) ∧ (l.keys.length:Int) ≤ r.most) ∧ Rises l.keys ∧ (l.ws.length:Int) ≤ r.writes ∧ AreOk l.ws:=fun r=>by
  unfold holdsB
  have hR:risesB l.keys = true ↔ Rises l.keys:=⟨fun h=>Classical.byContradiction fun h2=>(by rw [risesB_false h2] at h;cases h),risesB_true⟩
  have hA:areB l.ws = true ↔ AreOk l.ws:=⟨fun h=>Classical.byContradiction fun h2=>(by rw [areB_false h2] at h;cases h),areB_true⟩
  simp only [Bool.and_eq_true,Bool.or_eq_true,decide_eq_true_eq,hR,hA]
 rw [hb]
 have t0:∀ {s:ByteArray},(s.size:Int) ≤ 0 → s = ⟨#[]⟩:=fun h=>size_zero (by omega)
 have z0:((⟨#[]⟩:ByteArray).size:Int) = 0:=rfl
 have n0:∀ {α:Type} {m:List α},(m.length:Int) ≤ 0 → m = []:=fun h=>List.eq_nil_of_length_eq_zero (by omega)
 unfold headOk
 by_cases h1:l.kind = 1
 ·rw [kind_1 h1,show roomR l.kind = (⟨0,0,1,1,0⟩,true) by rw [h1];rfl]
  unfold OneOk
  simp only [true_and]
  constructor
  ·rintro ⟨⟨a1,a2,a3,a4,a5,a6⟩,⟨b1,b2,b3⟩,b4,b5⟩
   obtain ⟨k,hk⟩:=list_one b1
   rw [hk] at b2
   refine ⟨a1,a2,a3,a4,⟨a5,by omega⟩,by rw [b4,z0];omega,.inl b4,⟨by omega,by omega⟩,by rw [hk];exact rises_one.2 (b2 k (by simp)),by rw [b3];decide,by rw [b3];exact are_nil⟩
  ·rintro ⟨a1,a2,a3,a4,⟨a5,a6⟩,b1,b2,⟨b3,b4⟩,b5,b6,b7⟩
   obtain ⟨k,hk⟩:=list_one (show l.keys.length = 1 by omega)
   refine ⟨⟨a1,a2,a3,a4,a5,by omega⟩,⟨by omega,fun x hx=>?_,n0 b6⟩,t0 b1,by omega⟩
   rw [hk] at hx b5
   rw [List.mem_singleton] at hx
   rw [hx];exact rises_one.1 b5
 by_cases h2:l.kind = 2
 ·rw [kind_2 h2,show roomR l.kind = (⟨4,2052,1,1,0⟩,true) by rw [h2];rfl]
  unfold OneOk
  simp only [true_and]
  constructor
  ·rintro ⟨⟨a1,a2,a3,a4,a5,a6⟩,⟨b1,b2,b3⟩,b4,b5⟩
   obtain ⟨k,hk⟩:=list_one b1
   rw [hk] at b2
   refine ⟨a1,a2,a3,a4,⟨a5,by omega⟩,by omega,b5,⟨by omega,by omega⟩,by rw [hk];exact rises_one.2 (b2 k (by simp)),by rw [b3];decide,by rw [b3];exact are_nil⟩
  ·rintro ⟨a1,a2,a3,a4,⟨a5,a6⟩,b1,b2,⟨b3,b4⟩,b5,b6,b7⟩
   obtain ⟨k,hk⟩:=list_one (show l.keys.length = 1 by omega)
   refine ⟨⟨a1,a2,a3,a4,a5,by omega⟩,⟨by omega,fun x hx=>?_,n0 b6⟩,by omega,b2⟩
   rw [hk] at hx b5
   rw [List.mem_singleton] at hx
   rw [hx];exact rises_one.1 b5
 by_cases h3:l.kind = 3
 ·rw [kind_3 h3,show roomR l.kind = (⟨0,0,0,16,16⟩,true) by rw [h3];rfl]
  unfold WritesOk AreOk
  simp only [true_and]
  constructor
  ·rintro ⟨⟨a1,a2,a3,a4,a5,a6⟩,b1,b2,⟨b3,b4,b5⟩,b6,b7⟩
   exact ⟨a1,a2,a3,a4,⟨a5,by omega⟩,by rw [b6,z0];omega,.inl b6,⟨by omega,by omega⟩,b2,by omega,b4,b5⟩
  ·rintro ⟨a1,a2,a3,a4,⟨a5,a6⟩,b1,b2,⟨b3,b4⟩,b5,b6,b7,b8⟩
   exact ⟨⟨a1,a2,a3,a4,a5,by omega⟩,by omega,b5,⟨by omega,b7,b8⟩,t0 b1,by omega⟩
 have bare:∀ (q:Int),0 ≤ q → q ≤ 4 → (((addr l.src ∧ addr l.dst ∧ txnOk l.txn ∧ stampOk l.ts ∧ 0 ≤ l.code ∧ l.code ≤ 4) ∧ BareOk l ∧ l.code ≤ q) ↔
   (addr l.src ∧ addr l.dst ∧ txnOk l.txn ∧ stampOk l.ts ∧ (0 ≤ l.code ∧ l.code ≤ q) ∧ (l.text.size:Int) ≤ 0 ∧ (l.text = ⟨#[]⟩ ∨ l.code = 1) ∧ ((0:Int) ≤ (l.keys.length:Int) ∧ (l.keys.length:Int) ≤ 0) ∧ Rises l.keys ∧ (l.ws.length:Int) ≤ 0 ∧ AreOk l.ws)):=fun q hq0 hq4=>by
  unfold BareOk
  constructor
  ·rintro ⟨⟨a1,a2,a3,a4,a5,a6⟩,⟨b1,b2,b3⟩,b4⟩
   refine ⟨a1,a2,a3,a4,⟨a5,b4⟩,by rw [b3,z0];omega,.inl b3,⟨by omega,by rw [b1];decide⟩,by rw [b1];exact Rises.nil,by rw [b2];decide,by rw [b2];exact are_nil⟩
  ·rintro ⟨a1,a2,a3,a4,⟨a5,a6⟩,b1,b2,⟨b3,b4⟩,b5,b6,b7⟩
   exact ⟨⟨a1,a2,a3,a4,a5,by omega⟩,⟨n0 b4,n0 b6,t0 b1⟩,a6⟩
 by_cases h4:l.kind = 4
 ·rw [kind_4 h4,show roomR l.kind = (⟨1,0,0,0,0⟩,true) by rw [h4];rfl]
  simp only [true_and]
  exact bare 1 (by omega) (by omega)
 by_cases h8:l.kind = 8
 ·rw [kind_8 h8,show roomR l.kind = (⟨2,0,0,0,0⟩,true) by rw [h8];rfl]
  simp only [true_and]
  exact bare 2 (by omega) (by omega)
 by_cases h5:l.kind = 5 ∨ l.kind = 6 ∨ l.kind = 7
 ·rw [kind_5 h5,show roomR l.kind = (⟨0,0,0,0,0⟩,true) by rcases h5 with h | h | h <;> (rw [h];rfl)]
  simp only [true_and]
  rw [← bare 0 (by omega) (by omega)]
  constructor
  ·rintro ⟨a,b,c⟩;exact ⟨a,b,by omega⟩
  ·rintro ⟨a,b,c⟩;exact ⟨a,b,by have:=a.2.2.2.2.1;omega⟩
 ·have e:roomR l.kind = (⟨0,0,0,0,0⟩,false):=by
   unfold roomR
   rw [if_neg h1,if_neg h2,if_neg h3,if_neg h4,if_neg h8,if_neg h5]
  rw [e]
  have hk:¬ kindOk l:=kind_no (by omega)
  exact ⟨fun h=>absurd h.2 hk,fun h=>by have:=h.1;cases this⟩
noncomputable def okB (l:Let):Bool:=@decide (LetOk l) (Classical.propDecidable _)
theorem okB_true {l:Let} (h:LetOk l):okB l = true:=by unfold okB;exact @decide_eq_true _ (Classical.propDecidable _) h
theorem okB_false {l:Let} (h:¬ LetOk l):okB l = false:=by unfold okB;exact @decide_eq_false _ (Classical.propDecidable _) h
theorem okB_parts (l:Let):okB l = ((roomR l.kind).2 && (decide (addr l.src) && (decide (addr l.dst) && ((decide (1 ≤ l.txn) && decide (l.txn ≤ 1125899906842623)) && ((decide (0 ≤ l.ts) && decide (l.ts ≤ 1125899906842624)) && holdsB (roomR l.kind).1 l))))):=by
 have h:=holds_kind l
 by_cases hl:LetOk l
 ·rw [okB_true hl]
  obtain ⟨h1,h2,h3,h4,h5,h6⟩:=h.1 hl
  unfold txnOk at h4
  unfold stampOk at h5
  rw [h1,h6,decide_eq_true h2,decide_eq_true h3,decide_eq_true h4.1,decide_eq_true h4.2,decide_eq_true h5.1,decide_eq_true h5.2];rfl
 ·rw [okB_false hl]
  symm
  rw [Bool.eq_false_iff]
  intro hh
  simp only [Bool.and_eq_true,decide_eq_true_eq] at hh
  obtain ⟨h1,h2,h3,h4,h5,h6⟩:=hh
  exact hl (h.2 ⟨h1,h2,h3,h4,h5,h6⟩)
end Lt
end Go.Proofs.YtlfkhlfkckfbpaaGreat
