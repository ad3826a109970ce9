/- Parts of the proof, joined: RcTo, LtDone1, LtDone2, LtRoom, LtBook; their conditions stand with each. -/
import Derived.OneCell
import Derived.Test.YtbkanoblcojdfaaGreatV2
import Derived.Test.YtbkanoblcojdfaaGreatV3
import Derived.Test.YtbkanoblcojdfaaGreatV4
import Derived.Test.YtbkanoblcojdfaaGreatV10

set_option maxRecDepth 20000
set_option maxHeartbeats 8000000
namespace Go.Proofs.YtbkanoblcojdfaaGreat
namespace Rc
open Go.RowKit Bk Lt
attribute [local go_sem ↓] Go.wp_at_zero Go.wp_at_succ
attribute [local go_sem] floatUpon pick
def TwAns (fs:List Int) (ts:List ByteArray) (w:World):Ending → World → Prop:=fun e w' =>
 ((∀ f ∈ fs,f = 0 ∨ f = 1) ∧ ∃ v,e = .returned (.tuple #[v,.bool true]) ∧ w'.ownsRow w.heap.size 45 3 v fs.length (wrV (pairL fs ts)) ∧ Below w.heap.size w w') ∨
 (¬ (∀ f ∈ fs,f = 0 ∨ f = 1) ∧ e = .returned (.tuple #[.slice none 0 0,.bool false]) ∧ Below w.heap.size w w')
theorem toWrites_any (A B:Option Addr) (c d:Nat) (fs:List Int) (ts:List ByteArray) (w:World) (ha:IntsAt w A fs) (hb:StrsAt w B ts) (hl:ts.length = 2 * fs.length) (h1:fs.length ≤ 100000) :
  Calls Tryz.prog 264 #[.slice A fs.length c,.slice B ts.length d] w (TwAns fs ts w):=by
 obtain ⟨i0,hi,hz0,hz1,hz2⟩:=info_parts Tryz.infoWrite
 have hpl:=pairL_len fs ts hl
 have pfl:(fs.length:Int) ≤ 100000:=by omega
 have HMk:Hid (∀ v w',(∀ f ∈ fs,f = 0 ∨ f = 1) → w'.ownsRow w.heap.size 45 3 v fs.length (wrV (pairL fs ts)) → Below w.heap.size w w' → TwAns fs ts w (.returned (.tuple #[v,.bool true])) w'):=Lib.hid (fun v w' h a b=>.inl ⟨h,v,rfl,a,b⟩)
 have HMn:Hid (∀ w',¬ (∀ f ∈ fs,f = 0 ∨ f = 1) → Below w.heap.size w w' → TwAns fs ts w (.returned (.tuple #[.slice none 0 0,.bool false])) w'):=Lib.hid (fun w' h b=>.inr ⟨h,rfl,b⟩)
 have HL:=Lib.hid hl
 have HPl:=Lib.hid hpl
 have HA:=Lib.hid ha
 have HB:=Lib.hid hb
 clear hl hpl ha hb
 go_enter Tryz.func264,Tryz.ntmps264
 go_wp2_with fail
 go_loopw [6,13] (fun x i wr=>∃ (j:Nat) (u:Value),u = x ∧ j ≤ fs.length ∧ i = .int .i64 (j:Int) ∧ Hid (∀ f ∈ fs.take j,f = 0 ∨ f = 1) ∧ Hid (wr.ownsRow w.heap.size 45 3 u j (wrV ((pairL fs ts).take j))) ∧ Hid (Below w.heap.size w wr)) (fun _ i _=>fs.length - (intOf i).toNat)
 case atStart=>exact ⟨0,_,rfl,by omega,rfl,fun f h=>absurd h (by simp),World.ownsRow_nil _ _ _ _,Below.refl _ _⟩
 case round =>
  obtain ⟨j,u,rfl,hj,rfl,hall,hown,hbel⟩:=hrel
  by_cases hlt:j < fs.length
  ·have pj:(j:Int) < (fs.length:Int):=by omega
   have l1:2 * j < ts.length:=by have:=HL.out;omega
   have l2:2 * j + 1 < ts.length:=by have:=HL.out;omega
   obtain ⟨ad,rfl,_,_⟩:=HA.out (by omega)
   obtain ⟨bd,rfl,_,_⟩:=HB.out (by omega)
   have hp:=pairL_at fs ts HL.out j hlt (by rw [HPl.out];exact hlt) l1 l2
   have hmem:fs[j] ∈ fs:=List.getElem_mem hlt
   have hT:=fun W=>toBool_any fs[j] W
   have hAl:=mem_take_succ hlt hall.out
   obtain ⟨k,hk⟩:∃ k,k = ts[2 * j]:=⟨_,rfl⟩
   obtain ⟨s,hs⟩:∃ s,s = ts[2 * j + 1]:=⟨_,rfl⟩
   obtain ⟨f,hf⟩:∃ f,f = fs[j]:=⟨_,rfl⟩
   rw [← hf] at hmem hT hAl
   obtain ⟨dd,hd⟩:∃ dd,dd = (f == 1):=⟨_,rfl⟩
   rw [← hk,← hs,← hf,← hd] at hp
   rw [← hd] at hT
   have htk:wrV ((pairL fs ts).take (j + 1)) = wrV ((pairL fs ts).take j) ++ [.string k,.string s,.bool dd]:=by
    rw [List.take_add_one,List.getElem?_eq_getElem (by rw [HPl.out];exact hlt),hp]
    exact wrV_snoc _ _
   have hC:∀ W,Below w.heap.size w W → W.cell? (bd.add (2 * j)) = some (.string k) ∧ W.cell? (bd.add (2 * j + 1)) = some (.string s) ∧ W.cell? (ad.add j) = some (.int .i64 f):=fun W hW=>by
    obtain ⟨ad',e1,_,hca⟩:=(HA.out.below hW) (by omega)
    obtain ⟨bd',e2,_,hcb⟩:=(HB.out.below hW) (by omega)
    obtain rfl:=Option.some.inj e1
    obtain rfl:=Option.some.inj e2
    rw [hk,hs,hf]
    exact ⟨hcb _ l1,hcb _ l2,hca _ hlt⟩
   have x7:=(hC _ hbel.out).2.2
   have HC:=Lib.hid hC
   have HTk:=Lib.hid htk
   have p1:(2 * (j:Int)) < (ts.length:Int):=by omega
   have p2:(2 * (j:Int)) + 1 < (ts.length:Int):=by omega
   have w2:IntKind.i64.wrap (2 * (j:Int)) = 2 * (j:Int):=i64_wrap (by omega) (by omega)
   have w3:IntKind.i64.wrap (2 * (j:Int) + 1) = 2 * (j:Int) + 1:=i64_wrap (by omega) (by omega)
   obtain ⟨q0,hq0⟩:∃ q,q = 2 * j:=⟨_,rfl⟩
   obtain ⟨q1,hq1⟩:∃ q,q = 2 * j + 1:=⟨_,rfl⟩
   have t2:(2 * (j:Int)).toNat = q0:=by omega
   have t3:(2 * (j:Int) + 1).toNat = q1:=by omega
   rw [← hq1,← hq0] at HC
   clear hC hp htk hk hs hf hd hq0 hq1 l1 l2 hall
   by_cases hf01:f = 0 ∨ f = 1
   case neg =>
    rw [decide_eq_false hf01] at hT
    have HT:=Lib.hid hT
    have HN:=Lib.hid (show ¬ (∀ f ∈ fs,f = 0 ∨ f = 1) from fun h=>hf01 (h f hmem))
    clear hT hmem hAl hf01
    go_wp2_with fail
    refine (HT.out _).mono ?_
    rintro e w8 ⟨rfl,rfl⟩
    go_wp2_with fail
    go_ret2
    exact HMn.out _ HN.out hbel.out
   rw [decide_eq_true hf01] at hT
   have HT:=Lib.hid hT
   have HAl:=Lib.hid (hAl hf01)
   clear hT hmem hAl hf01
   go_wp2_with fail
   refine (HT.out _).mono ?_
   rintro e w8 ⟨rfl,rfl⟩
   clear x7
   go_upto_region 8 with fail
   refine wp_region_said 15 [25,26,27,28,29,30,31,32,33,34,35,36,37,38,39]
    [.is u,.is (.slice (some bd) ts.length d),.is (.int .i64 (j:Int)),.is (.int .i64 (2 * (j:Int))),.is (.pointer (some (bd.add q0))),.is (.string k),.is (.slice (some bd) ts.length d),.is (.int .i64 (j:Int)),.is (.int .i64 (2 * (j:Int))),.is (.int .i64 (2 * (j:Int) + 1)),.is (.pointer (some (bd.add q1))),.is (.string s),.is (.bool dd),.is (.agg #[.string k,.string s,.bool dd]),.arr 45 #[.string k,.string s,.bool dd] 1 1]
    (fun W=>W.ownsRow w.heap.size 45 3 u j (wrV ((pairL fs ts).take j)) ∧ Below w.heap.size w W) (by kernel_rfl) (by kernel_rfl) (by kernel_rfl) (by kernel_rfl) (by kernel_rfl) (fun W W' h hb=>⟨st_keep h.1 hb,h.2.trans (hb.mono h.2.size)⟩) ⟨hown.out,hbel.out⟩ ?steps ?last
   case steps =>
    simp only [List.take_succ_cons,List.take_zero]
    refine ⟨?_,?_,?_,?_,?_,?_,?_,?_,?_,?_,?_,?_,?_,?_,?_,trivial⟩
    all_goals
     intro vs W ρ hρ hc hf hg hI hH hd R' hR
     obtain ⟨z0,z1,-⟩:=HC.out W hI.2
     have HR:=Lib.hid hR
     simp [depsOf,Region.binds,sayAt,Say.holds] at hd
     clear hR hI
     go_simp
     first
      | exact HR.out _ _ (by simp [sayAt,Say.holds]) (Below.refl _ _) (by simp [sayAt,Say.isBlk])
      | exact HR.out _ _ ⟨_,hH,by simp,rfl,heap_alloc_new _ _⟩ ((Below.refl _ _).alloc (Nat.le_refl _) _) (fun h=>by cases h)
      | trace_state
   case last =>
    intro vs W hI hb hg hd
    have g0:=hg 0 (by omega)
    obtain ⟨o,ho1,ho2,g14,ho⟩:=hg 14 (by omega)
    simp only [sayAt,Say.holds,List.getD_cons_zero] at g0
    simp only [List.take_succ_cons,List.take_zero,List.drop_succ_cons,List.drop_zero,putAll,Act.put,List.setIfInBounds_toArray,List.set_cons_succ,List.set_cons_zero,Nat.zero_add,Nat.reduceAdd]
    rw [g0,g14]
    have HI:=Lib.hid hI
    clear g0 g14 hg hd hI hown hbel
    refine wpList_append_own_at _ rfl _ _ 35 rfl w.heap.size 45 i0 (.agg #[.string ⟨#[]⟩,.string ⟨#[]⟩,.bool false]) 3 40 Tryz.underlying35 hi hz0 hz1 hz2 rfl (by decide) _ _ _ rfl HI.out.1 ⟨o,0,none⟩ 1 1 [.string k,.string s,.bool dd] rfl rfl ?d1 ?d2 ?d3 ?d4 HI.out.2.size ?_
    case d1=>exact new_row ho
    case d2=>intro q hq;simp at hq;rcases hq with rfl | rfl | rfl <;> rfl
    case d3=>unfold maxLen;omega
    case d4=>omega
    intro v' w5 hown' hgrow _ hat
    have HB5:=Lib.hid (HI.out.2.grown hgrow HI.out.2.size (fun k hk=>(HI.out.1.lt k hk).1))
    rw [← HTk.out] at hown'
    have HO5:=Lib.hid hown'
    clear hown' hgrow hat HI ho ho1 ho2 hb
    go_wp2_with fail
    go_roundw
    case rel=>exact ⟨j + 1,_,rfl,by omega,by go_num,HAl.out,HO5.out,HB5.out⟩
    case measure=>simp [intOf];omega
  ·obtain rfl:j = fs.length:=by omega
   have ho:=hown.out
   rw [List.take_of_length_le (by rw [HPl.out];exact Nat.le_refl _)] at ho
   have ha2:=hall.out
   rw [List.take_length] at ha2
   have HO:=Lib.hid ho
   have HAl:=Lib.hid ha2
   clear ho hown hall ha2
   go_wp2_with fail
   go_ret2
   exact HMk.out _ _ HAl.out HO.out hbel.out
end Rc
end Go.Proofs.YtbkanoblcojdfaaGreat
namespace Go.Proofs.YtbkanoblcojdfaaGreat
namespace Lt
open Go.RowKit Bk
attribute [local go_sem ↓] Go.wp_at_zero Go.wp_at_succ
attribute [local go_sem] floatUpon pick
theorem within_any (n a b:Int) (w:World) :
  Calls Tryz.prog 350 #[.int .i64 n,.int .i64 a,.int .i64 b] w fun e w'=>e = .returned (.bool (decide (a ≤ n) && decide (n ≤ b))) ∧ w' = w:=by
 by_cases h1:a ≤ n
 ·have E:=Lib.hid (show (decide (a ≤ n) && decide (n ≤ b)) = decide (n ≤ b) by rw [decide_eq_true h1,Bool.true_and])
  go_enter Tryz.func350,Tryz.ntmps350
  go_wp2_with fail
  go_ret
  exact ⟨by rw [E.out];rfl,rfl⟩
 ·have E:=Lib.hid (show (decide (a ≤ n) && decide (n ≤ b)) = false by rw [decide_eq_false h1,Bool.false_and])
  have h2:n < a:=by omega
  clear h1
  go_enter Tryz.func350,Tryz.ntmps350
  go_wp2_with fail
  go_ret
  exact ⟨by rw [E.out];rfl,rfl⟩
theorem isAddress_any (n:Int) (w:World) :
  Calls Tryz.prog 349 #[.int .i64 n] w fun e w'=>e = .returned (.bool (decide (addr n))) ∧ w' = w:=by
 have H1:=Lib.hid (within_any n 0 11 w)
 have H2:=Lib.hid (within_any n 100 115 w)
 by_cases h1:0 ≤ n ∧ n ≤ 11
 ·have E:=Lib.hid (show decide (addr n) = true by rw [decide_eq_true_eq];unfold addr;omega)
  rw [show (decide (0 ≤ n) && decide (n ≤ 11)) = true by simp [h1]] at H1
  clear h1 H2
  go_enter Tryz.func349,Tryz.ntmps349
  go_wp2_with fail
  refine H1.out.mono ?_
  rintro e w1 ⟨rfl,rfl⟩
  go_wp2_with fail
  go_ret
  exact ⟨by rw [E.out];rfl,rfl⟩
 ·have E:=Lib.hid (show decide (addr n) = (decide (100 ≤ n) && decide (n ≤ 115)) by rw [← Bool.decide_and];unfold addr;congr 1;exact propext ⟨fun h=>by omega,fun h=>by omega⟩)
  rw [show (decide (0 ≤ n) && decide (n ≤ 11)) = false by rw [← Bool.decide_and,decide_eq_false h1]] at H1
  clear h1
  generalize (decide (100 ≤ n) && decide (n ≤ 115)) = b at E H2
  go_enter Tryz.func349,Tryz.ntmps349
  go_wp2_with fail
  refine H1.out.mono ?_
  rintro e w1 ⟨rfl,rfl⟩
  go_wp2_with fail
  refine H2.out.mono ?_
  rintro e w1 ⟨rfl,rfl⟩
  go_wp2_with fail
  go_ret
  exact ⟨by rw [E.out];rfl,rfl⟩
theorem lkey_any (s:ByteArray) (w:World) (hs:s.size ≤ 9223372036854775807) :
  Calls Tryz.prog 360 #[.string s] w fun e w'=>e = .returned (.bool (decide (keyOk s))) ∧ w' = w:=by
 have H1:=Lib.hid (within_any (s.size:Int) 1 32 w)
 rw [show (decide ((1:Int) ≤ (s.size:Int)) && decide ((s.size:Int) ≤ 32)) = decide (keyOk s) by rw [← Bool.decide_and];unfold keyOk;congr 1;exact propext ⟨fun h=>by omega,fun h=>by omega⟩] at H1
 go_enter Tryz.func360,Tryz.ntmps360
 go_wp2_with fail
 refine H1.out.mono ?_
 rintro e w1 ⟨rfl,rfl⟩
 go_wp2_with fail
 go_ret
 exact ⟨rfl,rfl⟩
theorem bytesLess_nil (l:List UInt8):Op.bytesLess l [] = false:=by
 cases l <;> rfl
theorem leT_nil {s:ByteArray} (h:1 ≤ s.size):leT s ⟨#[]⟩ = false:=by
 unfold leT
 rw [ByteArray.toList_eq,ByteArray.toList_eq]
 show (Op.bytesLess s.data.toList [] || s.data.toList == []) = false
 rw [bytesLess_nil,Bool.false_or]
 obtain ⟨a⟩:=s
 have h2:1 ≤ a.size:=h
 rw [beq_eq_false_iff_ne]
 intro e
 have:=congrArg List.length e
 simp at this
 rw [this] at h2
 simp at h2
def aheadT (l:List ByteArray) (j:Nat):ByteArray:=if j = 0 then ⟨#[]⟩ else l.getD (j - 1) ⟨#[]⟩
theorem ahead_succ {l:List ByteArray} {j:Nat} (h:j < l.length):aheadT l (j + 1) = l[j]:=by
 unfold aheadT
 rw [if_neg (by omega),Nat.add_sub_cancel,List.getD_eq_getElem?_getD,List.getElem?_eq_getElem h];rfl
theorem ahead_le {l:List ByteArray} {j:Nat} (h:j < l.length) (hk:keyOk l[j]):leT l[j] (aheadT l j) = true ↔ ∃ h0:0 < j,leT l[j] (l[j - 1]'(by omega)) = true:=by
 unfold aheadT
 by_cases h0:j = 0
 ·subst h0
  rw [if_pos rfl,leT_nil hk.1]
  exact ⟨fun e=>(by cases e),fun ⟨e,_⟩=>absurd e (by omega)⟩
 ·rw [if_neg h0,List.getD_eq_getElem?_getD,List.getElem?_eq_getElem (by omega)]
  exact ⟨fun e=>⟨by omega,e⟩,fun ⟨_,e⟩=>e⟩
theorem lrising_any (A:Option Addr) (c:Nat) (l:List ByteArray) (w:World) (h:StrsAt w A l) (hn:l.length ≤ 9223372036854775807) (hr:∀ s ∈ l,s.size ≤ 9223372036854775807) :
  Calls Tryz.prog 357 #[.slice A l.length c] w fun e w'=>e = .returned (.bool (risesB l)) ∧ Below w.heap.size w w':=by
 have HA:=Lib.hid h
 have HRr:=Lib.hid hr
 clear h hr
 go_enter Tryz.func357,Tryz.ntmps357
 go_wp2_with fail
 go_loopw [3,8] (fun u i wr=>∃ j:Nat,j ≤ l.length ∧ u = .string (aheadT l j) ∧ i = .int .i64 (j:Int) ∧ Hid (RisesTo l j) ∧ wr = w) (fun _ i _=>l.length - (intOf i).toNat)
 case atStart=>exact ⟨0,by omega,rfl,rfl,RisesTo.zero l,rfl⟩
 case round =>
  obtain ⟨j,hj,rfl,rfl,hup,rfl⟩:=hrel
  by_cases hlt:j < l.length
  ·have pj:(j:Int) < (l.length:Int):=by omega
   obtain ⟨ad,rfl,hab,hcl⟩:=HA.out (by omega)
   have x1:=hcl j hlt
   have HK:=Lib.hid (fun W=>lkey_any l[j] W (HRr.out _ (List.getElem_mem hlt)))
   have hsu:=ahead_succ hlt
   by_cases hk:keyOk l[j]
   ·rw [show decide (keyOk l[j]) = true by simpa using hk] at HK
    have hle:=ahead_le hlt hk
    cases hb:leT l[j] (aheadT l j) with
    | true =>
     have E:=Lib.hid (risesB_false (not_rises hlt (fun hh=>by
      obtain ⟨h0,e⟩:=hle.1 hb
      have:=hh.2 h0
      rw [e] at this;cases this)))
     have hle2:(Op.bytesLess l[j].toList (aheadT l j).toList || l[j].toList == (aheadT l j).toList) = true:=hb
     generalize aheadT l j = u at *
     generalize l[j] = x at *
     clear hup hk hle hb hcl hsu
     go_wp2_with fail
     refine (HK.out _).mono ?_
     rintro e w' ⟨rfl,rfl⟩
     go_wp2_with fail
     go_ret
     exact ⟨by rw [E.out];rfl,Below.refl _ _⟩
    | false =>
     have HU:=Lib.hid (hup.out.succ hlt hk (fun h0=>by
      cases e:leT l[j] (l[j - 1]'(by omega)) with
      | false=>rfl
      | true=>have:=hle.2 ⟨h0,e⟩;rw [hb] at this;cases this))
     have hle2:(Op.bytesLess l[j].toList (aheadT l j).toList || l[j].toList == (aheadT l j).toList) = false:=hb
     have HSu:=Lib.hid hsu
     generalize aheadT l j = u at *
     generalize l[j] = x at *
     clear hup hk hle hb hcl hsu
     go_wp2_with fail
     refine (HK.out _).mono ?_
     rintro e w' ⟨rfl,rfl⟩
     go_wp2_with fail
     go_roundw
     case rel=>exact ⟨j + 1,by omega,by rw [HSu.out],by go_num,HU.out,trivial⟩
     case measure=>simp [intOf];omega
   ·rw [show decide (keyOk l[j]) = false by simpa using hk] at HK
    have E:=Lib.hid (risesB_false (not_rises hlt (fun hh=>hk hh.1)))
    generalize aheadT l j = u at *
    generalize l[j] = x at *
    clear hup hk hcl hsu
    go_wp2_with fail
    refine (HK.out _).mono ?_
    rintro e w' ⟨rfl,rfl⟩
    go_wp2_with fail
    go_ret
    exact ⟨by rw [E.out];rfl,Below.refl _ _⟩
  ·obtain rfl:j = l.length:=by omega
   have E:=Lib.hid (risesB_true hup.out.all)
   clear hup
   go_wp2_with fail
   go_ret
   exact ⟨by rw [E.out];rfl,Below.refl _ _⟩
def AreOk (l:List Wr):Prop:=(∀ x ∈ l,wrOk x) ∧ Rises (l.map Wr.key)
noncomputable def areB (l:List Wr):Bool:=@decide (AreOk l) (Classical.propDecidable _)
theorem areB_true {l:List Wr} (h:AreOk l):areB l = true:=by unfold areB;exact @decide_eq_true _ (Classical.propDecidable _) h
theorem areB_false {l:List Wr} (h:¬ AreOk l):areB l = false:=by unfold areB;exact @decide_eq_false _ (Classical.propDecidable _) h
theorem areB_eq {l:List Wr} (h2:∀ x ∈ l,wrOk x):areB l = risesB (l.map Wr.key):=by
 by_cases h:Rises (l.map Wr.key)
 ·rw [risesB_true h,areB_true ⟨h2,h⟩]
 ·rw [risesB_false h,areB_false (fun hh=>h hh.2)]
theorem areWrites_any (A:Option Addr) (c:Nat) (l:List Wr) (w:World) (h:WrsAt w A l) (hn:l.length * 16 + 16 ≤ 140737488355328) (hr:∀ x ∈ l,x.key.size ≤ 9223372036854775807 ∧ x.shard.size ≤ 9223372036854775807) :
  Calls Tryz.prog 358 #[.slice A l.length c] w fun e w'=>e = .returned (.bool (areB l)) ∧ Below w.heap.size w w':=by
 obtain ⟨i0,hi,hz0,hz1,hz2⟩:=info_parts Tryz.infoStr
 have HRr:=Lib.hid hr
 have HA:=Lib.hid h
 clear h hr
 go_enter Tryz.func358,Tryz.ntmps358
 go_wp2_with fail
 go_loopw [3,8] (fun u i wr=>∃ j:Nat,j ≤ l.length ∧ i = .int .i64 (j:Int) ∧ Hid (∀ x ∈ l.take j,wrOk x) ∧ Hid (wr.ownsRow w.heap.size 9 1 u j (strV ((l.map Wr.key).take j))) ∧ Hid (Below w.heap.size w wr)) (fun _ i _=>l.length - (intOf i).toNat)
 case atStart=>exact ⟨0,by omega,rfl,fun x hx=>absurd hx (by simp),World.ownsRow_nil _ _ _ _,Below.refl _ _⟩
 case round =>
  obtain ⟨j,hj,rfl,hall,hown,hbel⟩:=hrel
  by_cases hlt:j < l.length
  ·have pj:(j:Int) < (l.length:Int):=by omega
   obtain ⟨ad,rfl,_,_⟩:=HA.out (by omega)
   obtain ⟨ad',e',hab,hcl⟩:=(HA.out.below hbel.out) (by omega)
   obtain rfl:=Option.some.inj e'
   obtain ⟨x0,x1,x2⟩:=hcl j hlt
   rw [← add_field _ _ _ (by omega)] at x1 x2
   have HKt:=Lib.hid (keys_take hlt)
   have hmem:l[j] ∈ l:=List.getElem_mem hlt
   have hrs:=(HRr.out _ hmem).2
   have hno:¬ wrOk l[j] → ¬ AreOk l:=fun h hw=>h (hw.1 _ hmem)
   have hyes:wrOk l[j] → ∀ x ∈ l.take (j + 1),wrOk x:=fun h=>mem_take_succ hlt hall.out h
   obtain ⟨X,hX⟩:∃ X,X = l[j]:=⟨_,rfl⟩
   rw [← hX] at x0 x1 x2 hrs hno hyes HKt
   clear hX hcl e' hab hmem
   obtain ⟨xk,xs,xd⟩:=X
   simp only at *
   go_upto_region 5 with fail
   have hB1:Below w.heap.size w (wr.alloc (.cells #[.string xk,.string xs,.bool xd] 45)):=hbel.out.alloc hbel.out.size _
   have hO1:(wr.alloc (.cells #[.string xk,.string xs,.bool xd] 45)).ownsRow w.heap.size 9 1 u3 j (strV ((l.map Wr.key).take j)):=hown.out.alloc _
   have hC1:Cel (wr.alloc (.cells #[.string xk,.string xs,.bool xd] 45)) wr.heap.size 45 [.string xk,.string xs,.bool xd]:=(blk1 _ _).2
   generalize wr.alloc (.cells #[.string xk,.string xs,.bool xd] 45) = W1 at hB1 hO1 hC1 ⊢
   have z0:=hC1.cell (i:=0) rfl
   have z1:=hC1.cell (i:=1) rfl
   have z2:=hC1.cell (i:=2) rfl
   have HB1:=Lib.hid hB1
   have HO1:=Lib.hid hO1
   have HC1:=Lib.hid hC1
   generalize wr.heap.size = g at *
   clear hB1 hO1 hC1 x0 x1 x2 hown hbel
   by_cases hs:xs.size ≤ 2052
   ·have ps:(xs.size:Int) ≤ 2052:=by omega
    cases xd with
    | false =>
     have HW:=Lib.hid (hyes ⟨hs,fun h=>by cases h.1⟩)
     clear hno hyes hs hall
     go_wp2_with (at_builtin;refine wpList_append_own _ rfl _ _ 23 rfl w.heap.size 9 i0 (.string ⟨#[]⟩) 1 16 Tryz.underlying23 hi hz0 hz1 hz2 rfl (by decide) _ _ _ rfl (HO1.out.alloc _) ⟨W1.heap.size,0,none⟩ 1 1 [.string xk] rfl rfl ?c1 ?c2 ?c3 ?c4 ?c5 ?_)
     case c1=>exact cell_one_new _ _ _
     case c2=>intro q hq;simp at hq;subst hq;rfl
     case c3=>unfold maxLen;omega
     case c4=>omega
     case c5=>have:=HB1.out.size;simp;omega
     intro v' w5 hown' hgrow _
     have HB5:=Lib.hid (below_append HO1.out HB1.out (Nat.le_refl _) hgrow)
     rw [← HKt.out] at hown'
     have HO5:=Lib.hid hown'
     clear hown' hgrow
     go_wp2_with fail
     go_roundw
     case rel=>exact ⟨j + 1,by omega,by go_num,HW.out,HO5.out,HB5.out⟩
     case measure=>simp [intOf];omega
    | true =>
     by_cases he:xs = ⟨#[]⟩
     ·have HW:=Lib.hid (hyes ⟨hs,fun h=>h.2 he⟩)
      subst he
      have t0:=text_eq ⟨#[]⟩
      clear hno hyes hs hall
      go_wp2_with (at_builtin;refine wpList_append_own _ rfl _ _ 23 rfl w.heap.size 9 i0 (.string ⟨#[]⟩) 1 16 Tryz.underlying23 hi hz0 hz1 hz2 rfl (by decide) _ _ _ rfl (HO1.out.alloc _) ⟨W1.heap.size,0,none⟩ 1 1 [.string xk] rfl rfl ?c1 ?c2 ?c3 ?c4 ?c5 ?_)
      case c1=>exact cell_one_new _ _ _
      case c2=>intro q hq;simp at hq;subst hq;rfl
      case c3=>unfold maxLen;omega
      case c4=>omega
      case c5=>have:=HB1.out.size;simp;omega
      intro v' w5 hown' hgrow _
      have HB5:=Lib.hid (below_append HO1.out HB1.out (Nat.le_refl _) hgrow)
      rw [← HKt.out] at hown'
      have HO5:=Lib.hid hown'
      clear hown' hgrow
      go_wp2_with fail
      go_roundw
      case rel=>exact ⟨j + 1,by omega,by go_num,HW.out,HO5.out,HB5.out⟩
      case measure=>simp [intOf];omega
     ·have E:=Lib.hid (areB_false (hno (fun h=>h.2 ⟨rfl,he⟩)))
      have t0:=text_ne he
      have t1:¬ xs.toList = []:=fun h=>he (by
       rw [ByteArray.toList_eq] at h
       obtain ⟨a⟩:=xs
       congr 1
       exact Array.toList_inj.1 h)
      have t2:xs.toList.isEmpty = false:=by rw [List.isEmpty_eq_false_iff];exact t1
      clear hno hyes hs hall he
      go_wp2_with fail
      go_ret
      exact ⟨by rw [E.out];rfl,HB1.out⟩
   ·have E:=Lib.hid (areB_false (hno (fun h=>hs h.1)))
    have ps:(2052:Int) < (xs.size:Int):=by omega
    clear hno hyes hs hall
    go_wp2_with fail
    go_ret
    exact ⟨by rw [E.out];rfl,HB1.out⟩
  ·obtain rfl:j = l.length:=by omega
   have hall2:=hall.out
   rw [List.take_length] at hall2
   have hown2:=hown.out
   have hkl:(l.map Wr.key).length = l.length:=List.length_map ..
   rw [List.take_of_length_le (by rw [hkl];exact Nat.le_refl _)] at hown2
   have E:=Lib.hid (areB_eq hall2)
   obtain ⟨B,d,rfl,hsb⟩:∃ (B:Option Addr) (d:Nat),u3 = .slice B l.length d ∧ StrsAt wr B (l.map Wr.key):=by
    rcases hown2.2 with ⟨h1,h2⟩ | ⟨g,cap,cur,h1,_⟩
    ·exact ⟨none,0,by rw [h1,h2],fun hp=>by rw [hkl] at hp;omega⟩
    ·subst h1
     exact ⟨_,_,rfl,StrsAt.own hown2 hkl.symm⟩
   have hR:=lrising_any B d (l.map Wr.key) wr hsb (by rw [hkl];omega) (fun s hs=>by obtain ⟨x,hx,rfl⟩:=List.mem_map.1 hs;exact (HRr.out x hx).1)
   rw [hkl] at hR
   have HR:=Lib.hid hR
   have HBl:=hbel
   clear hall hall2 hown hown2 hsb hR hbel hkl
   go_wp2_with fail
   refine HR.out.mono ?_
   rintro e w1 ⟨rfl,hb⟩
   have HB1:=Lib.hid (HBl.out.trans (hb.mono HBl.out.size))
   clear hb HBl HR
   go_wp2_with fail
   go_ret
   exact ⟨by rw [E.out];rfl,HB1.out⟩
structure Rm where
 code:Int
 text:Int
 fewest:Int
 most:Int
 writes:Int
def rmV (r:Rm):Value:=.agg #[.int .i64 r.code,.int .i64 r.text,.int .i64 r.fewest,.int .i64 r.most,.int .i64 r.writes]
def roomR (k:Int):Rm × Bool :=
 if k = 1 then (⟨0,0,1,1,0⟩,true) else if k = 2 then (⟨4,2052,1,1,0⟩,true) else if k = 3 then (⟨0,0,0,16,16⟩,true) else
 if k = 4 then (⟨1,0,0,0,0⟩,true) else if k = 8 then (⟨2,0,0,0,0⟩,true) else if k = 5 ∨ k = 6 ∨ k = 7 then (⟨0,0,0,0,0⟩,true) else (⟨0,0,0,0,0⟩,false)
theorem room_blk (w:World):Cel (w.alloc (.cells #[.int .i64 0,.int .i64 0,.int .i64 0,.int .i64 0,.int .i64 0] 378)) w.heap.size 378 [.int .i64 0,.int .i64 0,.int .i64 0,.int .i64 0,.int .i64 0]:=(blk1 w _).2
def set5 (W:World) (R:Nat) (v0 v1 v2 v3 v4:Value):World :=
 (((((W.setCell ⟨R,0,none⟩ v0).setCell ⟨R,1,none⟩ v1).setCell ⟨R,2,none⟩ v2).setCell ⟨R,3,none⟩ v3).setCell ⟨R,4,none⟩ v4)
theorem set5_cel {W:World} {R:Nat} {t:TypeId} {u0 u1 u2 u3 u4 v0 v1 v2 v3 v4:Value} (h:Cel W R t [u0,u1,u2,u3,u4]):Cel (set5 W R v0 v1 v2 v3 v4) R t [v0,v1,v2,v3,v4] :=
 ((((h.set (i:=0) (v:=v0)).set (i:=1) (v:=v1)).set (i:=2) (v:=v2)).set (i:=3) (v:=v3)).set (i:=4) (v:=v4)
theorem set5_below {w W:World} {H R:Nat} {v0 v1 v2 v3 v4:Value} (h:Below H w W) (hR:H ≤ R):Below H w (set5 W R v0 v1 v2 v3 v4) :=
 ((((h.setCell (p:=⟨R,0,none⟩) hR v0).setCell (p:=⟨R,1,none⟩) hR v1).setCell (p:=⟨R,2,none⟩) hR v2).setCell (p:=⟨R,3,none⟩) hR v3).setCell (p:=⟨R,4,none⟩) hR v4
theorem room_2 (w:World):Calls Tryz.prog 348 #[.int .i64 2] w fun e w'=>e = .returned (.tuple #[rmV ⟨4,2052,1,1,0⟩,.bool true]) ∧ Below w.heap.size w w':=by
 have hB1:Below w.heap.size w (w.alloc (.cells #[.int .i64 0,.int .i64 0,.int .i64 0,.int .i64 0,.int .i64 0] 378)):=(Below.refl _ w).alloc (Nat.le_refl _) _
 have HB1:=Lib.hid hB1
 have HC:=Lib.hid (room_blk w)
 clear hB1
 go_enter Tryz.func348,Tryz.ntmps348
 go_upto_region 1 with fail
 generalize w.alloc (.cells #[.int .i64 0,.int .i64 0,.int .i64 0,.int .i64 0,.int .i64 0] 378) = W1 at HB1 HC ⊢
 have a0:=HC.out.cell (i:=0) rfl
 have a1:=HC.out.cell (i:=1) rfl
 have a2:=HC.out.cell (i:=2) rfl
 have a3:=HC.out.cell (i:=3) rfl
 have a4:=HC.out.cell (i:=4) rfl
 have aq:=fun i=>HC.out.free (i:=i)
 go_wp2_with fail
 have HF:=Lib.hid (set5_cel (v0:=.int .i64 4) (v1:=.int .i64 2052) (v2:=.int .i64 1) (v3:=.int .i64 1) (v4:=.int .i64 0) ((((HC.out.set (i:=0) (v:=.int .i64 4)).set (i:=1) (v:=.int .i64 2052)).set (i:=2) (v:=.int .i64 1)).set (i:=3) (v:=.int .i64 1)))
 have z0:=HF.out.cell (i:=0) rfl
 have z1:=HF.out.cell (i:=1) rfl
 have z2:=HF.out.cell (i:=2) rfl
 have z3:=HF.out.cell (i:=3) rfl
 have z4:=HF.out.cell (i:=4) rfl
 have HBF:=Lib.hid (set5_below (v0:=.int .i64 4) (v1:=.int .i64 2052) (v2:=.int .i64 1) (v3:=.int .i64 1) (v4:=.int .i64 0) ((((HB1.out.setCell (p:=⟨w.heap.size,0,none⟩) (Nat.le_refl _) (.int .i64 4)).setCell (p:=⟨w.heap.size,1,none⟩) (Nat.le_refl _) (.int .i64 2052)).setCell (p:=⟨w.heap.size,2,none⟩) (Nat.le_refl _) (.int .i64 1)).setCell (p:=⟨w.heap.size,3,none⟩) (Nat.le_refl _) (.int .i64 1)) (Nat.le_refl _))
 unfold set5 at z0 z1 z2 z3 z4
 exact bodyPost_ret (v:=.tuple #[rmV ⟨4,2052,1,1,0⟩,.bool true]) (by simp [results,Tryz.results348,go_sem,rmV,z0,z1,z2,z3,z4]) rfl ⟨rfl,HBF.out⟩
theorem room_1 (w:World):Calls Tryz.prog 348 #[.int .i64 1] w fun e w'=>e = .returned (.tuple #[rmV ⟨0,0,1,1,0⟩,.bool true]) ∧ Below w.heap.size w w':=by
 have hB1:Below w.heap.size w (w.alloc (.cells #[.int .i64 0,.int .i64 0,.int .i64 0,.int .i64 0,.int .i64 0] 378)):=(Below.refl _ w).alloc (Nat.le_refl _) _
 have HB1:=Lib.hid hB1
 have HC:=Lib.hid (room_blk w)
 clear hB1
 go_enter Tryz.func348,Tryz.ntmps348
 go_upto_region 1 with fail
 generalize w.alloc (.cells #[.int .i64 0,.int .i64 0,.int .i64 0,.int .i64 0,.int .i64 0] 378) = W1 at HB1 HC ⊢
 have a0:=HC.out.cell (i:=0) rfl
 have a1:=HC.out.cell (i:=1) rfl
 have a2:=HC.out.cell (i:=2) rfl
 have a3:=HC.out.cell (i:=3) rfl
 have a4:=HC.out.cell (i:=4) rfl
 have aq:=fun i=>HC.out.free (i:=i)
 go_wp2_with fail
 have HF:=Lib.hid (set5_cel (v0:=.int .i64 0) (v1:=.int .i64 0) (v2:=.int .i64 1) (v3:=.int .i64 1) (v4:=.int .i64 0) ((HC.out.set (i:=2) (v:=.int .i64 1)).set (i:=3) (v:=.int .i64 1)))
 have z0:=HF.out.cell (i:=0) rfl
 have z1:=HF.out.cell (i:=1) rfl
 have z2:=HF.out.cell (i:=2) rfl
 have z3:=HF.out.cell (i:=3) rfl
 have z4:=HF.out.cell (i:=4) rfl
 have HBF:=Lib.hid (set5_below (v0:=.int .i64 0) (v1:=.int .i64 0) (v2:=.int .i64 1) (v3:=.int .i64 1) (v4:=.int .i64 0) ((HB1.out.setCell (p:=⟨w.heap.size,2,none⟩) (Nat.le_refl _) (.int .i64 1)).setCell (p:=⟨w.heap.size,3,none⟩) (Nat.le_refl _) (.int .i64 1)) (Nat.le_refl _))
 unfold set5 at z0 z1 z2 z3 z4
 exact bodyPost_ret (v:=.tuple #[rmV ⟨0,0,1,1,0⟩,.bool true]) (by simp [results,Tryz.results348,go_sem,rmV,z0,z1,z2,z3,z4]) rfl ⟨rfl,HBF.out⟩
theorem room_3 (w:World):Calls Tryz.prog 348 #[.int .i64 3] w fun e w'=>e = .returned (.tuple #[rmV ⟨0,0,0,16,16⟩,.bool true]) ∧ Below w.heap.size w w':=by
 have hB1:Below w.heap.size w (w.alloc (.cells #[.int .i64 0,.int .i64 0,.int .i64 0,.int .i64 0,.int .i64 0] 378)):=(Below.refl _ w).alloc (Nat.le_refl _) _
 have HB1:=Lib.hid hB1
 have HC:=Lib.hid (room_blk w)
 clear hB1
 go_enter Tryz.func348,Tryz.ntmps348
 go_upto_region 1 with fail
 generalize w.alloc (.cells #[.int .i64 0,.int .i64 0,.int .i64 0,.int .i64 0,.int .i64 0] 378) = W1 at HB1 HC ⊢
 have a0:=HC.out.cell (i:=0) rfl
 have a1:=HC.out.cell (i:=1) rfl
 have a2:=HC.out.cell (i:=2) rfl
 have a3:=HC.out.cell (i:=3) rfl
 have a4:=HC.out.cell (i:=4) rfl
 have aq:=fun i=>HC.out.free (i:=i)
 go_wp2_with fail
 have HF:=Lib.hid (set5_cel (v0:=.int .i64 0) (v1:=.int .i64 0) (v2:=.int .i64 0) (v3:=.int .i64 16) (v4:=.int .i64 16) ((HC.out.set (i:=3) (v:=.int .i64 16)).set (i:=4) (v:=.int .i64 16)))
 have z0:=HF.out.cell (i:=0) rfl
 have z1:=HF.out.cell (i:=1) rfl
 have z2:=HF.out.cell (i:=2) rfl
 have z3:=HF.out.cell (i:=3) rfl
 have z4:=HF.out.cell (i:=4) rfl
 have HBF:=Lib.hid (set5_below (v0:=.int .i64 0) (v1:=.int .i64 0) (v2:=.int .i64 0) (v3:=.int .i64 16) (v4:=.int .i64 16) ((HB1.out.setCell (p:=⟨w.heap.size,3,none⟩) (Nat.le_refl _) (.int .i64 16)).setCell (p:=⟨w.heap.size,4,none⟩) (Nat.le_refl _) (.int .i64 16)) (Nat.le_refl _))
 unfold set5 at z0 z1 z2 z3 z4
 exact bodyPost_ret (v:=.tuple #[rmV ⟨0,0,0,16,16⟩,.bool true]) (by simp [results,Tryz.results348,go_sem,rmV,z0,z1,z2,z3,z4]) rfl ⟨rfl,HBF.out⟩
theorem room_4 (w:World):Calls Tryz.prog 348 #[.int .i64 4] w fun e w'=>e = .returned (.tuple #[rmV ⟨1,0,0,0,0⟩,.bool true]) ∧ Below w.heap.size w w':=by
 have hB1:Below w.heap.size w (w.alloc (.cells #[.int .i64 0,.int .i64 0,.int .i64 0,.int .i64 0,.int .i64 0] 378)):=(Below.refl _ w).alloc (Nat.le_refl _) _
 have HB1:=Lib.hid hB1
 have HC:=Lib.hid (room_blk w)
 clear hB1
 go_enter Tryz.func348,Tryz.ntmps348
 go_upto_region 1 with fail
 generalize w.alloc (.cells #[.int .i64 0,.int .i64 0,.int .i64 0,.int .i64 0,.int .i64 0] 378) = W1 at HB1 HC ⊢
 have a0:=HC.out.cell (i:=0) rfl
 have a1:=HC.out.cell (i:=1) rfl
 have a2:=HC.out.cell (i:=2) rfl
 have a3:=HC.out.cell (i:=3) rfl
 have a4:=HC.out.cell (i:=4) rfl
 have aq:=fun i=>HC.out.free (i:=i)
 go_wp2_with fail
 have HF:=Lib.hid (set5_cel (v0:=.int .i64 1) (v1:=.int .i64 0) (v2:=.int .i64 0) (v3:=.int .i64 0) (v4:=.int .i64 0) (HC.out.set (i:=0) (v:=.int .i64 1)))
 have z0:=HF.out.cell (i:=0) rfl
 have z1:=HF.out.cell (i:=1) rfl
 have z2:=HF.out.cell (i:=2) rfl
 have z3:=HF.out.cell (i:=3) rfl
 have z4:=HF.out.cell (i:=4) rfl
 have HBF:=Lib.hid (set5_below (v0:=.int .i64 1) (v1:=.int .i64 0) (v2:=.int .i64 0) (v3:=.int .i64 0) (v4:=.int .i64 0) (HB1.out.setCell (p:=⟨w.heap.size,0,none⟩) (Nat.le_refl _) (.int .i64 1)) (Nat.le_refl _))
 unfold set5 at z0 z1 z2 z3 z4
 exact bodyPost_ret (v:=.tuple #[rmV ⟨1,0,0,0,0⟩,.bool true]) (by simp [results,Tryz.results348,go_sem,rmV,z0,z1,z2,z3,z4]) rfl ⟨rfl,HBF.out⟩
theorem room_8 (w:World):Calls Tryz.prog 348 #[.int .i64 8] w fun e w'=>e = .returned (.tuple #[rmV ⟨2,0,0,0,0⟩,.bool true]) ∧ Below w.heap.size w w':=by
 have hB1:Below w.heap.size w (w.alloc (.cells #[.int .i64 0,.int .i64 0,.int .i64 0,.int .i64 0,.int .i64 0] 378)):=(Below.refl _ w).alloc (Nat.le_refl _) _
 have HB1:=Lib.hid hB1
 have HC:=Lib.hid (room_blk w)
 clear hB1
 go_enter Tryz.func348,Tryz.ntmps348
 go_upto_region 1 with fail
 generalize w.alloc (.cells #[.int .i64 0,.int .i64 0,.int .i64 0,.int .i64 0,.int .i64 0] 378) = W1 at HB1 HC ⊢
 have a0:=HC.out.cell (i:=0) rfl
 have a1:=HC.out.cell (i:=1) rfl
 have a2:=HC.out.cell (i:=2) rfl
 have a3:=HC.out.cell (i:=3) rfl
 have a4:=HC.out.cell (i:=4) rfl
 have aq:=fun i=>HC.out.free (i:=i)
 go_wp2_with fail
 have HF:=Lib.hid (set5_cel (v0:=.int .i64 2) (v1:=.int .i64 0) (v2:=.int .i64 0) (v3:=.int .i64 0) (v4:=.int .i64 0) (HC.out.set (i:=0) (v:=.int .i64 2)))
 have z0:=HF.out.cell (i:=0) rfl
 have z1:=HF.out.cell (i:=1) rfl
 have z2:=HF.out.cell (i:=2) rfl
 have z3:=HF.out.cell (i:=3) rfl
 have z4:=HF.out.cell (i:=4) rfl
 have HBF:=Lib.hid (set5_below (v0:=.int .i64 2) (v1:=.int .i64 0) (v2:=.int .i64 0) (v3:=.int .i64 0) (v4:=.int .i64 0) (HB1.out.setCell (p:=⟨w.heap.size,0,none⟩) (Nat.le_refl _) (.int .i64 2)) (Nat.le_refl _))
 unfold set5 at z0 z1 z2 z3 z4
 exact bodyPost_ret (v:=.tuple #[rmV ⟨2,0,0,0,0⟩,.bool true]) (by simp [results,Tryz.results348,go_sem,rmV,z0,z1,z2,z3,z4]) rfl ⟨rfl,HBF.out⟩
theorem room_5 (w:World):Calls Tryz.prog 348 #[.int .i64 5] w fun e w'=>e = .returned (.tuple #[rmV ⟨0,0,0,0,0⟩,.bool true]) ∧ Below w.heap.size w w':=by
 have hB1:Below w.heap.size w (w.alloc (.cells #[.int .i64 0,.int .i64 0,.int .i64 0,.int .i64 0,.int .i64 0] 378)):=(Below.refl _ w).alloc (Nat.le_refl _) _
 have HB1:=Lib.hid hB1
 have HC:=Lib.hid (room_blk w)
 clear hB1
 go_enter Tryz.func348,Tryz.ntmps348
 go_upto_region 1 with fail
 generalize w.alloc (.cells #[.int .i64 0,.int .i64 0,.int .i64 0,.int .i64 0,.int .i64 0] 378) = W1 at HB1 HC ⊢
 have a0:=HC.out.cell (i:=0) rfl
 have a1:=HC.out.cell (i:=1) rfl
 have a2:=HC.out.cell (i:=2) rfl
 have a3:=HC.out.cell (i:=3) rfl
 have a4:=HC.out.cell (i:=4) rfl
 have aq:=fun i=>HC.out.free (i:=i)
 go_wp2_with fail
 have HF:=Lib.hid (set5_cel (v0:=.int .i64 0) (v1:=.int .i64 0) (v2:=.int .i64 0) (v3:=.int .i64 0) (v4:=.int .i64 0) HC.out)
 have z0:=HF.out.cell (i:=0) rfl
 have z1:=HF.out.cell (i:=1) rfl
 have z2:=HF.out.cell (i:=2) rfl
 have z3:=HF.out.cell (i:=3) rfl
 have z4:=HF.out.cell (i:=4) rfl
 have HBF:=Lib.hid (set5_below (v0:=.int .i64 0) (v1:=.int .i64 0) (v2:=.int .i64 0) (v3:=.int .i64 0) (v4:=.int .i64 0) HB1.out (Nat.le_refl _))
 unfold set5 at z0 z1 z2 z3 z4
 exact bodyPost_ret (v:=.tuple #[rmV ⟨0,0,0,0,0⟩,.bool true]) (by simp [results,Tryz.results348,go_sem,rmV,z0,z1,z2,z3,z4]) rfl ⟨rfl,HBF.out⟩
theorem room_6 (w:World):Calls Tryz.prog 348 #[.int .i64 6] w fun e w'=>e = .returned (.tuple #[rmV ⟨0,0,0,0,0⟩,.bool true]) ∧ Below w.heap.size w w':=by
 have hB1:Below w.heap.size w (w.alloc (.cells #[.int .i64 0,.int .i64 0,.int .i64 0,.int .i64 0,.int .i64 0] 378)):=(Below.refl _ w).alloc (Nat.le_refl _) _
 have HB1:=Lib.hid hB1
 have HC:=Lib.hid (room_blk w)
 clear hB1
 go_enter Tryz.func348,Tryz.ntmps348
 go_upto_region 1 with fail
 generalize w.alloc (.cells #[.int .i64 0,.int .i64 0,.int .i64 0,.int .i64 0,.int .i64 0] 378) = W1 at HB1 HC ⊢
 have a0:=HC.out.cell (i:=0) rfl
 have a1:=HC.out.cell (i:=1) rfl
 have a2:=HC.out.cell (i:=2) rfl
 have a3:=HC.out.cell (i:=3) rfl
 have a4:=HC.out.cell (i:=4) rfl
 have aq:=fun i=>HC.out.free (i:=i)
 go_wp2_with fail
 have HF:=Lib.hid (set5_cel (v0:=.int .i64 0) (v1:=.int .i64 0) (v2:=.int .i64 0) (v3:=.int .i64 0) (v4:=.int .i64 0) HC.out)
 have z0:=HF.out.cell (i:=0) rfl
 have z1:=HF.out.cell (i:=1) rfl
 have z2:=HF.out.cell (i:=2) rfl
 have z3:=HF.out.cell (i:=3) rfl
 have z4:=HF.out.cell (i:=4) rfl
 have HBF:=Lib.hid (set5_below (v0:=.int .i64 0) (v1:=.int .i64 0) (v2:=.int .i64 0) (v3:=.int .i64 0) (v4:=.int .i64 0) HB1.out (Nat.le_refl _))
 unfold set5 at z0 z1 z2 z3 z4
 exact bodyPost_ret (v:=.tuple #[rmV ⟨0,0,0,0,0⟩,.bool true]) (by simp [results,Tryz.results348,go_sem,rmV,z0,z1,z2,z3,z4]) rfl ⟨rfl,HBF.out⟩
theorem room_7 (w:World):Calls Tryz.prog 348 #[.int .i64 7] w fun e w'=>e = .returned (.tuple #[rmV ⟨0,0,0,0,0⟩,.bool true]) ∧ Below w.heap.size w w':=by
 have hB1:Below w.heap.size w (w.alloc (.cells #[.int .i64 0,.int .i64 0,.int .i64 0,.int .i64 0,.int .i64 0] 378)):=(Below.refl _ w).alloc (Nat.le_refl _) _
 have HB1:=Lib.hid hB1
 have HC:=Lib.hid (room_blk w)
 clear hB1
 go_enter Tryz.func348,Tryz.ntmps348
 go_upto_region 1 with fail
 generalize w.alloc (.cells #[.int .i64 0,.int .i64 0,.int .i64 0,.int .i64 0,.int .i64 0] 378) = W1 at HB1 HC ⊢
 have a0:=HC.out.cell (i:=0) rfl
 have a1:=HC.out.cell (i:=1) rfl
 have a2:=HC.out.cell (i:=2) rfl
 have a3:=HC.out.cell (i:=3) rfl
 have a4:=HC.out.cell (i:=4) rfl
 have aq:=fun i=>HC.out.free (i:=i)
 go_wp2_with fail
 have HF:=Lib.hid (set5_cel (v0:=.int .i64 0) (v1:=.int .i64 0) (v2:=.int .i64 0) (v3:=.int .i64 0) (v4:=.int .i64 0) HC.out)
 have z0:=HF.out.cell (i:=0) rfl
 have z1:=HF.out.cell (i:=1) rfl
 have z2:=HF.out.cell (i:=2) rfl
 have z3:=HF.out.cell (i:=3) rfl
 have z4:=HF.out.cell (i:=4) rfl
 have HBF:=Lib.hid (set5_below (v0:=.int .i64 0) (v1:=.int .i64 0) (v2:=.int .i64 0) (v3:=.int .i64 0) (v4:=.int .i64 0) HB1.out (Nat.le_refl _))
 unfold set5 at z0 z1 z2 z3 z4
 exact bodyPost_ret (v:=.tuple #[rmV ⟨0,0,0,0,0⟩,.bool true]) (by simp [results,Tryz.results348,go_sem,rmV,z0,z1,z2,z3,z4]) rfl ⟨rfl,HBF.out⟩
theorem room_no (k:Int) (n1:(k == 1) = false) (n2:(k == 2) = false) (n3:(k == 3) = false) (n4:(k == 4) = false) (n5:(k == 5) = false) (n6:(k == 6) = false) (n7:(k == 7) = false) (n8:(k == 8) = false) (w:World):Calls Tryz.prog 348 #[.int .i64 k] w fun e w'=>e = .returned (.tuple #[rmV ⟨0,0,0,0,0⟩,.bool false]) ∧ Below w.heap.size w w':=by
 have hB1:Below w.heap.size w (w.alloc (.cells #[.int .i64 0,.int .i64 0,.int .i64 0,.int .i64 0,.int .i64 0] 378)):=(Below.refl _ w).alloc (Nat.le_refl _) _
 have HB1:=Lib.hid hB1
 have HC:=Lib.hid (room_blk w)
 clear hB1
 go_enter Tryz.func348,Tryz.ntmps348
 go_upto_region 1 with fail
 generalize w.alloc (.cells #[.int .i64 0,.int .i64 0,.int .i64 0,.int .i64 0,.int .i64 0] 378) = W1 at HB1 HC ⊢
 have a0:=HC.out.cell (i:=0) rfl
 have a1:=HC.out.cell (i:=1) rfl
 have a2:=HC.out.cell (i:=2) rfl
 have a3:=HC.out.cell (i:=3) rfl
 have a4:=HC.out.cell (i:=4) rfl
 have aq:=fun i=>HC.out.free (i:=i)
 go_wp2_with fail
 have HF:=Lib.hid (set5_cel (v0:=.int .i64 0) (v1:=.int .i64 0) (v2:=.int .i64 0) (v3:=.int .i64 0) (v4:=.int .i64 0) HC.out)
 have z0:=HF.out.cell (i:=0) rfl
 have z1:=HF.out.cell (i:=1) rfl
 have z2:=HF.out.cell (i:=2) rfl
 have z3:=HF.out.cell (i:=3) rfl
 have z4:=HF.out.cell (i:=4) rfl
 have HBF:=Lib.hid (set5_below (v0:=.int .i64 0) (v1:=.int .i64 0) (v2:=.int .i64 0) (v3:=.int .i64 0) (v4:=.int .i64 0) HB1.out (Nat.le_refl _))
 unfold set5 at z0 z1 z2 z3 z4
 exact bodyPost_ret (v:=.tuple #[rmV ⟨0,0,0,0,0⟩,.bool false]) (by simp [results,Tryz.results348,go_sem,rmV,z0,z1,z2,z3,z4]) rfl ⟨rfl,HBF.out⟩
theorem roomOf_any (k:Int) (w:World):Calls Tryz.prog 348 #[.int .i64 k] w fun e w'=>e = .returned (.tuple #[rmV (roomR k).1,.bool (roomR k).2]) ∧ Below w.heap.size w w':=by
 have hn:∀ z:Int,¬ k = z → (k == z) = false:=fun z h=>by simpa using h
 by_cases h1:k = 1
 ·subst h1;exact room_1 w
 by_cases h2:k = 2
 ·subst h2;exact room_2 w
 by_cases h3:k = 3
 ·subst h3;exact room_3 w
 by_cases h4:k = 4
 ·subst h4;exact room_4 w
 by_cases h5:k = 5
 ·subst h5;exact room_5 w
 by_cases h6:k = 6
 ·subst h6;exact room_6 w
 by_cases h7:k = 7
 ·subst h7;exact room_7 w
 by_cases h8:k = 8
 ·subst h8;exact room_8 w
 have e:roomR k = (⟨0,0,0,0,0⟩,false):=by
  unfold roomR
  rw [if_neg h1,if_neg h2,if_neg h3,if_neg h4,if_neg h8,if_neg (by omega)]
 rw [e]
 exact room_no k (hn _ h1) (hn _ h2) (hn _ h3) (hn _ h4) (hn _ h5) (hn _ h6) (hn _ h7) (hn _ h8) w
theorem eql_dec (s t:ByteArray):(s.toList == t.toList) = decide (s = t):=by
 by_cases h:s = t
 ·subst h;simp
 ·rw [text_ne h,decide_eq_false h]
end Lt
end Go.Proofs.YtbkanoblcojdfaaGreat
