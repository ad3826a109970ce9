/- Parts of the proof, joined: PkDec, BkAppend, LtBytes, LtCheck, LtEnc, LtPairs, LtCand, LtShape; their conditions stand with each. -/
import Derived.Maps.AppendAt
import Derived.OneCell
import Derived.Test.YtmidncclndongaaGreatC2
import Derived.Test.YtmidncclndongaaGreatC3

set_option maxRecDepth 20000
set_option maxHeartbeats 8000000
namespace Go.Proofs.YtmidncclndongaaGreat
namespace Pk
open Go.RowKit Bk
attribute [local go_sem ↓] Go.wp_at_zero Go.wp_at_succ
attribute [local go_sem] floatUpon pick
theorem strV_snoc2 (O:List ByteArray) (t:ByteArray):strV (O ++ [t]) = strV O ++ [.string t]:=by simp [strV]
theorem ints_own_at {w:World} {H n c:Nat} {A:Option Addr} {e:TypeId} {O:List Int} (h:w.ownsRow H e 1 (.slice A n c) n (intV O)) (hl:n = O.length):IntsAt w A O:=by
 obtain ⟨A',c',e,h2⟩:=ints_of_own h hl
 simp only [Value.slice.injEq] at e
 rw [e.1];exact h2
theorem strs_own_at {w:World} {H n c:Nat} {A:Option Addr} {e:TypeId} {O:List ByteArray} (h:w.ownsRow H e 1 (.slice A n c) n (strV O)) (hl:n = O.length):StrsAt w A O:=by
 obtain ⟨A',c',e,h2⟩:=strs_of_own2 h hl
 simp only [Value.slice.injEq] at e
 rw [e.1];exact h2
theorem DcEnv.res {w W:World} {g g':Nat} {v1 v2:Value} {ns:List Int} {ts:List ByteArray} {t:TypeId} {xs:List Value} (h:DcEnv w W g v1 v2 ns ts) (hr:Cel w g' t xs) (hg:g' < g):Cel W g' t xs:=(h.bel.block g' hg).trans hr
theorem decode_any (s:ByteArray) (w:World) (hs:s.size ≤ 1000000000000000) :
  Calls Tryz.prog 135 #[.string s] w (DecAns s w):=by
 obtain ⟨i0,hi,hz0,hz1,hz2⟩:=info_parts Tryz.infoStr
 obtain ⟨i1,hi',hz0',hz1',hz2'⟩:=info_parts Tryz.infoInt
 have hB:(s.size:Int) ≤ 1000000000000000:=by omega
 obtain ⟨many,a0,c0,hv0,hs0,hmany⟩:=cnt_said s 0 1024 (by omega)
 rw [List.drop_zero] at hs0
 have hC:∀ W,Calls Tryz.prog 206 #[.string s,.int .i64 0,.int .i64 1024] W fun e w'=>e = .returned (.tuple #[.int .i64 (many:Int),.int .i64 (a0:Int),.int .i64 (c0:Int)]) ∧ w' = W:=fun W=>by
  have h:=count_any s 0 1024 W (by omega) hs (by omega)
  rw [hv0] at h
  exact h
 have HC:=Lib.hid hC
 have HS0:=Lib.hid (St1.start hs0)
 have ha0:a0 ≤ s.size ∧ c0 ≤ 50:=by rcases hs0 with ⟨h1,h2,_⟩ | ⟨_,h1,h2,_⟩ <;> exact ⟨by omega,by omega⟩
 have pmany:(many:Int) ≤ 1024:=by omega
 have HMk:Hid (∀ (A B:Option Addr) (c d:Nat) (x y:Nat) (ns:List Int) (ts:List ByteArray) (w':World),decR s = (ns,ts,x,y) → IntsAt w' A ns → StrsAt w' B ts → Below w.heap.size w w' → (ns.length ≤ c ∧ ts.length ≤ d ∧ c ≤ maxLen ∧ d ≤ maxLen) → (∀ ad,A = some ad → w.heap.size ≤ ad.block) → (∀ ad,B = some ad → w.heap.size ≤ ad.block) → DecAns s w (.returned (.tuple #[packV A B c d ns ts,.int .i64 (x:Int),.int .i64 (y:Int)])) w'):=Lib.hid (fun A B c d x y ns ts w' h1 h2 h3 h4 h5 h6 h7=>by
  refine ⟨A,B,c,d,?_,?_,?_,h4,?_,h6,h7⟩ <;> rw [h1]
  ·exact h2
  ·exact h3
  ·exact h5)
 unfold packV at HMk
 clear hC hv0 hs0
 go_enter Tryz.func135,Tryz.ntmps135
 go_upto_region 1 with fail
 have hR0:Cel (w.alloc (.cells #[.slice none 0 0,.slice none 0 0] 222)) w.heap.size 222 [.slice none 0 0,.slice none 0 0]:=(blk1 w _).2
 have hBW:Below w.heap.size w (w.alloc (.cells #[.slice none 0 0,.slice none 0 0] 222)):=(Below.refl _ w).alloc (Nat.le_refl _) _
 generalize w.alloc (.cells #[.slice none 0 0,.slice none 0 0] 222) = W1 at hR0 hBW ⊢
 have HR0:=Lib.hid hR0
 have HBW:=Lib.hid hBW
 have HE0:=Lib.hid (DcEnv.start W1)
 clear hR0 hBW
 go_wp2_with fail
 refine (HC.out _).mono ?_
 rintro e w2 ⟨rfl,rfl⟩
 clear HC
 go_wp2_with fail
 go_loopw [7,8,9] (fun at_ er i wr=>∃ (j a c:Nat) (v1:Value) (O:List Int),j ≤ many ∧ a ≤ s.size ∧ c ≤ 50 ∧ O.length = j ∧ i = .int .i64 (j:Int) ∧ at_ = .int .i64 (a:Int) ∧ er = .int .i64 (c:Int) ∧ Hid (St1 s many j a c O) ∧ Hid (DcEnv W1 wr W1.heap.size v1 (.slice none 0 0) O [])) (fun _ _ i _=>many - (intOf i).toNat)
 case atStart=>exact ⟨0,a0,c0,.slice none 0 0,[],by omega,ha0.1,ha0.2,rfl,rfl,rfl,rfl,HS0.out,HE0.out⟩
 case round =>
  obtain ⟨j,a,c,v1,O,hj,ha,hc50,hOl,rfl,rfl,rfl,hst,henv⟩:=hrel
  clear HS0 HE0 ha0
  have pa:(a:Int) ≤ (s.size:Int):=by omega
  by_cases hc:c = 0
  ·subst hc
   by_cases hlt:j < many
   ·have pj:(j:Int) < (many:Int):=by omega
    obtain ⟨n,p,c',hv,hsd⟩:=read_said s a ha
    have hR:∀ W,Calls Tryz.prog 207 #[.string s,.int .i64 (a:Int)] W fun e w'=>e = .returned (.tuple #[.int .i64 (n:Int),.int .i64 (p:Int),.int .i64 (c':Int)]) ∧ w' = W:=fun W=>by
     have h:=read_any s a W ha hs
     rw [hv] at h
     exact h
    have HR:=Lib.hid hR
    have HSt:=Lib.hid (St1.step hst.out hlt hsd)
    have hn9:n < 9223372036854775808:=by rcases hsd with ⟨_,_,h,_⟩ | ⟨_,_,_,h,_⟩ <;> omega
    have hp:p ≤ s.size ∧ c' ≤ 50:=by rcases hsd with ⟨h1,h2,_⟩ | ⟨_,h1,h2,_⟩ <;> exact ⟨by omega,by omega⟩
    have hdiv:(n:Int).tdiv 2 = ((n / 2:Nat):Int):=by rw [Int.tdiv_eq_ediv_of_nonneg (by omega)];omega
    have hmod:(n:Int).tmod 2 = ((n % 2:Nat):Int):=by rw [Int.tmod_eq_emod_of_nonneg (by omega)];omega
    have hy:n / 2 ≤ 4611686018427387903:=by omega
    have k0:=henv.out.c0
    have HP:=Lib.hid hp
    clear hv hsd hR hst hp
    by_cases hodd:n % 2 = 1
    ·have hu:unzig n = -((n / 2:Nat):Int) - 1:=by unfold unzig;rw [if_pos hodd]
     have hsn:=intV_snoc O (unzig n)
     rw [hu] at hsn HSt
     rw [hodd] at hmod
     have hb:((n:Int) % 2 == 1) = true:=by rw [show (n:Int) % 2 = 1 by omega];rfl
     generalize n / 2 = y at hdiv hy hsn HSt
     have hyi:(y:Int) ≤ 4611686018427387903:=by omega
     have HSn:=Lib.hid hsn
     clear hmod hodd hu hsn hn9
     go_wp2_with fail
     refine (HR.out _).mono ?_
     rintro e w3 ⟨rfl,rfl⟩
     go_wp2_with (at_builtin;refine wpList_append_own_at _ rfl _ _ 41 rfl (W1.heap.size + 1) 3 i1 (.int .i64 0) 1 8 Tryz.underlying41 hi' hz0' hz1' hz2' rfl (by decide) _ _ _ rfl (henv.out.r0.alloc _) ⟨w3.heap.size,0,none⟩ 1 1 [.int .i64 (-(y:Int) - 1)] rfl rfl ?c1 ?c2 ?c3 ?c4 ?c5 ?_)
     case c1=>exact cell_one_new _ _ _
     case c2=>intro u hu;simp at hu;subst hu;rfl
     case c3=>unfold maxLen;omega
     case c4=>omega
     case c5=>have:=henv.out.lt;simp;omega
     intro v' w5 hown' hgrow _ hat
     rw [← HSn.out] at hown'
     obtain ⟨gn,capn,rfl,_,_⟩:=World.ownsRow.form hown' (by omega)
     have HG:=Lib.hid (DcEnv.grow1 (henv.out.step ((Below.refl _ w3).alloc (Nat.le_refl _) _)) hown' hgrow (by simpa using hat))
     have k0':=HG.out.1.cell (i:=0) rfl
     have kf:=HG.out.1.free (i:=0)
     clear hown' hgrow hat henv k0
     go_wp2_with fail
     go_roundw
     case rel=>exact ⟨j + 1,p,c',_,O ++ [-(y:Int) - 1],by omega,HP.out.1,HP.out.2,by rw [List.length_append,List.length_singleton,hOl],by go_num,rfl,rfl,HSt.out,DcEnv.store1 HG.out (by rw [List.length_append,List.length_singleton,hOl])⟩
     case measure=>simp [intOf];omega
    ·have hu:unzig n = ((n / 2:Nat):Int):=by unfold unzig;rw [if_neg hodd]
     have hsn:=intV_snoc O (unzig n)
     rw [hu] at hsn HSt
     have hb:((n:Int) % 2 == 1) = false:=by rw [show (n:Int) % 2 = 0 by omega];rfl
     generalize n / 2 = y at hdiv hy hsn HSt
     have hyi:(y:Int) ≤ 4611686018427387903:=by omega
     have HSn:=Lib.hid hsn
     clear hmod hodd hu hsn hn9
     go_wp2_with fail
     refine (HR.out _).mono ?_
     rintro e w3 ⟨rfl,rfl⟩
     go_wp2_with (at_builtin;refine wpList_append_own_at _ rfl _ _ 41 rfl (W1.heap.size + 1) 3 i1 (.int .i64 0) 1 8 Tryz.underlying41 hi' hz0' hz1' hz2' rfl (by decide) _ _ _ rfl (henv.out.r0.alloc _) ⟨w3.heap.size,0,none⟩ 1 1 [.int .i64 ((y:Int))] rfl rfl ?c1 ?c2 ?c3 ?c4 ?c5 ?_)
     case c1=>exact cell_one_new _ _ _
     case c2=>intro u hu;simp at hu;subst hu;rfl
     case c3=>unfold maxLen;omega
     case c4=>omega
     case c5=>have:=henv.out.lt;simp;omega
     intro v' w5 hown' hgrow _ hat
     rw [← HSn.out] at hown'
     obtain ⟨gn,capn,rfl,_,_⟩:=World.ownsRow.form hown' (by omega)
     have HG:=Lib.hid (DcEnv.grow1 (henv.out.step ((Below.refl _ w3).alloc (Nat.le_refl _) _)) hown' hgrow (by simpa using hat))
     have k0':=HG.out.1.cell (i:=0) rfl
     have kf:=HG.out.1.free (i:=0)
     clear hown' hgrow hat henv k0
     go_wp2_with fail
     go_roundw
     case rel=>exact ⟨j + 1,p,c',_,O ++ [(y:Int)],by omega,HP.out.1,HP.out.2,by rw [List.length_append,List.length_singleton,hOl],by go_num,rfl,rfl,HSt.out,DcEnv.store1 HG.out (by rw [List.length_append,List.length_singleton,hOl])⟩
     case measure=>simp [intOf];omega
   ·obtain rfl:j = many:=by omega
    clear hOl
    obtain ⟨m,p,c',hv,hsd,hm⟩:=cnt_said s a 1024 ha
    have hR:∀ W,Calls Tryz.prog 206 #[.string s,.int .i64 (a:Int),.int .i64 1024] W fun e w'=>e = .returned (.tuple #[.int .i64 (m:Int),.int .i64 (p:Int),.int .i64 (c':Int)]) ∧ w' = W:=fun W=>by
     have h:=count_any s a 1024 W ha hs (by omega)
     rw [hv] at h
     exact h
    have HR:=Lib.hid hR
    have HSt:=Lib.hid (St2.start hst.out hsd)
    have hp:p ≤ s.size ∧ c' ≤ 50:=by rcases hsd with ⟨h1,h2,_⟩ | ⟨_,h1,h2,_⟩ <;> exact ⟨by omega,by omega⟩
    have HP:=Lib.hid hp
    clear hv hsd hR hst hp
    go_wp2_with fail
    refine (HR.out _).mono ?_
    rintro e w3 ⟨rfl,rfl⟩
    clear HR
    go_wp2_with fail
    go_loopw [7,8,12] (fun at_ er i wr=>∃ (j a c:Nat) (v2:Value) (T:List ByteArray),j ≤ m ∧ a ≤ s.size ∧ c ≤ 50 ∧ T.length ≤ j ∧ i = .int .i64 (j:Int) ∧ at_ = .int .i64 (a:Int) ∧ er = .int .i64 (c:Int) ∧ Hid (St2 s m j a c O T) ∧ Hid (DcEnv W1 wr W1.heap.size v1 v2 O T)) (fun _ _ i _=>m - (intOf i).toNat)
    case atStart=>exact ⟨0,p,c',.slice none 0 0,[],by omega,HP.out.1,HP.out.2,by simp,rfl,rfl,rfl,HSt.out,henv.out⟩
    case round =>
     obtain ⟨j,a,c,v2,T,hj,ha,hc50,hTl,rfl,rfl,rfl,hst,henv⟩:=hrel
     clear HSt HP
     have pa:(a:Int) ≤ (s.size:Int):=by omega
     have pm:(m:Int) ≤ 1024:=by omega
     by_cases hc:c = 0
     ·subst hc
      by_cases hlt:j < m
      ·have pj:(j:Int) < (m:Int):=by omega
       obtain ⟨n,p,c',hv,hsd,hn⟩:=cnt_said s a 4096 ha
       have hR:∀ W,Calls Tryz.prog 206 #[.string s,.int .i64 (a:Int),.int .i64 4096] W fun e w'=>e = .returned (.tuple #[.int .i64 (n:Int),.int .i64 (p:Int),.int .i64 (c':Int)]) ∧ w' = W:=fun W=>by
        have h:=count_any s a 4096 W ha hs (by omega)
        rw [hv] at h
        exact h
       have HR:=Lib.hid hR
       have pn:(n:Int) ≤ 4096:=by omega
       have k1:=henv.out.c1
       clear hv hR
       rcases hsd with ⟨rfl,hp,_,hok⟩ | ⟨hne,h50,hp,rfl,e,he,hpl,hcd⟩
       ·have pp:(p:Int) ≤ (s.size:Int):=by omega
        by_cases hshort:s.size - p < n
        ·have HF:=Lib.hid (St2.err hst.out hlt (textF_cut hok (by rw [List.length_drop,list_size];exact hshort)) (by show (50:Nat) ≠ 0;omega) (by show (50:Nat) ≤ 50;omega))
         have ps:(s.size:Int) - (p:Int) < (n:Int):=by omega
         clear hst hok hshort
         go_wp2_with fail
         refine (HR.out _).mono ?_
         rintro e w3 ⟨rfl,rfl⟩
         go_wp2_with fail
         go_roundw
         case rel=>exact ⟨j + 1,s.size,50,v2,T,by omega,by omega,by omega,by omega,by go_num,rfl,rfl,.inr HF.out,henv.out⟩
         case measure=>simp [intOf];omega
        ·have hts:=St2.more hst.out hlt (p:=p + n) (by rw [← List.drop_drop];exact textF_all hok (by rw [List.length_drop,list_size];exact hshort))
         have HSt:=Lib.hid hts
         have ps:(n:Int) ≤ (s.size:Int) - (p:Int):=by omega
         have ps2:(p:Int) + (n:Int) ≤ (s.size:Int):=by omega
         have hmid:=fun W=>str_mid s p (p + n) (by omega) (by omega) (p:Int) ((p:Int) + (n:Int)) rfl (by omega) W
         rw [show p + n - p = n by omega] at hmid
         generalize (⟨((s.data.toList.drop p).take n).toArray⟩:ByteArray) = t at hmid HSt
         have hpn:p + n ≤ s.size:=by omega
         have hwpn:IntKind.i64.wrap ((p:Int) + (n:Int)) = (p:Int) + (n:Int):=i64_wrap (by omega) (by omega)
         have hTb:=strV_snoc2 T t
         have HTb:=Lib.hid hTb
         clear hst hok hshort hts hTb
         go_wp2_with fail
         refine (HR.out _).mono ?_
         rintro e w3 ⟨rfl,rfl⟩
         go_upto_region 23 with fail
         refine wp_region_said 9 [89,90,91,92,93,94,95,96,97]
          [.is (.pointer (some ⟨W1.heap.size,1,none⟩)),.is v2,.is (.string s),.is (.int .i64 (p:Int)),.is (.int .i64 (p:Int)),.is (.int .i64 (n:Int)),.is (.int .i64 ((p:Int) + (n:Int))),.is (.string t),.arr 9 #[.string t] 1 1]
          (fun W=>DcEnv W1 W W1.heap.size v1 v2 O T) (by kernel_rfl) (by kernel_rfl) (by kernel_rfl) (by kernel_rfl) (by kernel_rfl) (fun W W' h hb=>h.step hb) henv.out ?steps ?last
         case steps =>
          simp only [List.take_succ_cons,List.take_zero]
          refine ⟨?_,?_,?_,?_,?_,?_,?_,?_,?_,trivial⟩
          all_goals
           intro vs W ρ hρ hc hf hg hI hH hd R' hR
           have k1':=hI.c1
           have HR:=Lib.hid hR
           simp [depsOf,Region.binds,sayAt,Say.holds] at hd
           clear hR hI k1
           go_simp
           first
            | exact HR.out _ _ (by simp [sayAt,Say.holds]) (Below.refl _ _) (by simp [sayAt,Say.isBlk])
            | exact HR.out _ _ ⟨_,hH,by simp,rfl,heap_alloc_new _ _⟩ ((Below.refl _ _).alloc (Nat.le_refl _) _) (fun h=>by cases h)
            | trace_state
         case last =>
          intro vs W hI hb hg hd
          have g1:=hg 1 (by omega)
          obtain ⟨o,ho1,ho2,g8,ho⟩:=hg 8 (by omega)
          simp only [sayAt,Say.holds,List.getD_cons_succ,List.getD_cons_zero] at g1
          simp only [List.take_succ_cons,List.take_zero,List.drop_succ_cons,List.drop_zero,putAll,Act.put,List.setIfInBounds_toArray,List.set_cons_succ,List.set_cons_zero,Nat.zero_add,Nat.reduceAdd]
          rw [g1,g8]
          have HI:=Lib.hid hI
          clear g1 g8 hg hd hI henv k1
          refine wpList_append_own_at _ rfl _ _ 36 rfl (W1.heap.size + 1) 9 i0 (.string ⟨#[]⟩) 1 16 Tryz.underlying36 hi hz0 hz1 hz2 rfl (by decide) _ _ _ rfl HI.out.r1 ⟨o,0,none⟩ 1 1 [.string t] rfl rfl ?d1 ?d2 ?d3 ?d4 HI.out.lt ?_
          case d1=>exact str_one ho
          case d2=>intro u hu;simp at hu;subst hu;rfl
          case d3=>unfold maxLen;omega
          case d4=>omega
          intro v' w5 hown' hgrow _ hat
          rw [← HTb.out] at hown'
          obtain ⟨gn,capn,rfl,_,_⟩:=World.ownsRow.form hown' (by omega)
          have HG:=Lib.hid (DcEnv.grow2 HI.out hown' hgrow hat)
          have k1':=HG.out.1.cell (i:=1) rfl
          have kf:=HG.out.1.free (i:=1)
          clear hown' hgrow hat HI ho ho1 ho2 hb
          go_wp2_with fail
          go_roundw
          case rel=>exact ⟨j + 1,p + n,0,_,T ++ [t],by omega,hpn,by omega,by rw [List.length_append,List.length_singleton];omega,by go_num,by go_num,rfl,HSt.out,DcEnv.store2 HG.out (by rw [List.length_append,List.length_singleton])⟩
          case measure=>simp [intOf];omega
       ·have HF:=Lib.hid (St2.err hst.out hlt (textF_err he) (by rw [← hcd];exact hne) (by rw [← hcd];exact h50))
        rw [← hpl,← hcd] at HF
        have pc:((c':Int) == 0) = false:=by simp;omega
        clear hst he hpl hcd
        go_wp2_with fail
        refine (HR.out _).mono ?_
        rintro e w3 ⟨rfl,rfl⟩
        go_wp2_with fail
        go_roundw
        case rel=>exact ⟨j + 1,p,c',v2,T,by omega,hp,h50,by omega,by go_num,rfl,rfl,.inr HF.out,henv.out⟩
        case measure=>simp [intOf];omega
      ·obtain rfl:j = m:=by omega
       by_cases hta:a < s.size
       ·have HD:=Lib.hid (St2.tail hst.out hta)
        have pta:(a:Int) < (s.size:Int):=by omega
        have HRc:=Lib.hid (henv.out.res HR0.out HR0.out.lt)
        have q0:=HRc.out.cell (i:=0) rfl
        have q1:=HRc.out.cell (i:=1) rfl
        have q2:=HRc.out.free (i:=0)
        have q3:=HRc.out.free (i:=1)
        clear hst hta
        go_wp2_with fail
        have HF:=Lib.hid ((HRc.out.set (i:=0) (v:=.slice none 0 0)).set (i:=1) (v:=.slice none 0 0))
        have z0:=HF.out.cell (i:=0) rfl
        have z1:=HF.out.cell (i:=1) rfl
        exact bodyPost_ret (v:=.tuple #[.agg #[.slice none 0 0,.slice none 0 0],.int .i64 (a:Int),.int .i64 (3:Int)]) (by simp [results,Tryz.results135,go_sem,z0,z1]) rfl
         (HMk.out none none 0 0 a 3 [] [] _ HD.out noInts noStrs (((HBW.out.trans (henv.out.bel.mono HBW.out.size)).setCell (Nat.le_refl _) _).setCell (Nat.le_refl _) _) ⟨Nat.zero_le _,Nat.zero_le _,Nat.zero_le _,Nat.zero_le _⟩ (fun _ e=>by cases e) (fun _ e=>by cases e))
       ·have HD:=Lib.hid (St2.whole hst.out (by omega))
        have pta:(s.size:Int) ≤ (a:Int):=by omega
        have HRc:=Lib.hid (henv.out.res HR0.out HR0.out.lt)
        have q0:=HRc.out.cell (i:=0) rfl
        have q1:=HRc.out.cell (i:=1) rfl
        have q2:=HRc.out.free (i:=0)
        have q3:=HRc.out.free (i:=1)
        have k0:=henv.out.c0
        have k1:=henv.out.c1
        clear hst hta
        obtain ⟨A1,cA,rfl,l1,l2⟩:=own_form henv.out.r0
        obtain ⟨B1,cB,rfl,l3,l4⟩:=own_form henv.out.r1
        have HCap:=Lib.hid (And.intro l1 (And.intro l3 (And.intro l2 l4)))
        clear l1 l2 l3 l4
        go_wp2_with fail
        have HF:=Lib.hid ((HRc.out.set (i:=0) (v:=.slice A1 O.length cA)).set (i:=1) (v:=.slice B1 T.length cB))
        have z0:=HF.out.cell (i:=0) rfl
        have z1:=HF.out.cell (i:=1) rfl
        have hlt1:w.heap.size < W1.heap.size + 1:=Nat.lt_succ_of_lt HR0.out.lt
        have rr0:=ownsRow_setCell_below (ownsRow_setCell_below henv.out.r0 (a:=⟨w.heap.size,0,none⟩) hlt1 (.slice A1 O.length cA)) (a:=⟨w.heap.size,1,none⟩) hlt1 (.slice B1 T.length cB)
        have rr1:=ownsRow_setCell_below (ownsRow_setCell_below henv.out.r1 (a:=⟨w.heap.size,0,none⟩) hlt1 (.slice A1 O.length cA)) (a:=⟨w.heap.size,1,none⟩) hlt1 (.slice B1 T.length cB)
        exact bodyPost_ret (v:=.tuple #[.agg #[.slice A1 O.length cA,.slice B1 T.length cB],.int .i64 ((0:Nat):Int),.int .i64 ((0:Nat):Int)]) (by simp [results,Tryz.results135,go_sem,z0,z1]) rfl
         (HMk.out A1 B1 cA cB 0 0 O T _ HD.out (ints_own_at rr0 rfl) (strs_own_at rr1 rfl) (((HBW.out.trans (henv.out.bel.mono HBW.out.size)).setCell (Nat.le_refl _) _).setCell (Nat.le_refl _) _) HCap.out (own_new henv.out.r0 (by have:=HR0.out.lt;omega)) (own_new henv.out.r1 (by have:=HR0.out.lt;omega)))
     ·have HD:=Lib.hid (Failed.out (hst.out.resolve_left (fun h=>hc h.1)))
      have pc:((c:Int) == 0) = false:=by simp;omega
      have pc2:((c:Int) != 0) = true:=by simp;omega
      have HRc:=Lib.hid (henv.out.res HR0.out HR0.out.lt)
      have q0:=HRc.out.cell (i:=0) rfl
      have q1:=HRc.out.cell (i:=1) rfl
      have q2:=HRc.out.free (i:=0)
      have q3:=HRc.out.free (i:=1)
      clear hst
      go_wp2_with fail
      have HF:=Lib.hid ((HRc.out.set (i:=0) (v:=.slice none 0 0)).set (i:=1) (v:=.slice none 0 0))
      have z0:=HF.out.cell (i:=0) rfl
      have z1:=HF.out.cell (i:=1) rfl
      exact bodyPost_ret (v:=.tuple #[.agg #[.slice none 0 0,.slice none 0 0],.int .i64 (a:Int),.int .i64 (c:Int)]) (by simp [results,Tryz.results135,go_sem,z0,z1]) rfl
       (HMk.out none none 0 0 a c [] [] _ HD.out noInts noStrs (((HBW.out.trans (henv.out.bel.mono HBW.out.size)).setCell (Nat.le_refl _) _).setCell (Nat.le_refl _) _) ⟨Nat.zero_le _,Nat.zero_le _,Nat.zero_le _,Nat.zero_le _⟩ (fun _ e=>by cases e) (fun _ e=>by cases e))
  ·have HD:=Lib.hid (Failed.out (hst.out.resolve_left (fun h=>hc h.1)))
   have pc:((c:Int) == 0) = false:=by simp;omega
   have pc2:((c:Int) != 0) = true:=by simp;omega
   have HRc:=Lib.hid (henv.out.res HR0.out HR0.out.lt)
   have q0:=HRc.out.cell (i:=0) rfl
   have q1:=HRc.out.cell (i:=1) rfl
   have q2:=HRc.out.free (i:=0)
   have q3:=HRc.out.free (i:=1)
   clear hst
   go_wp2_with fail
   obtain ⟨wo,rfl⟩:∃ wo:World,wo = wr:=⟨_,rfl⟩
   go_loopw [7,8,12] (fun at_ er i wr=>at_ = .int .i64 (a:Int) ∧ er = .int .i64 (c:Int) ∧ i = .int .i64 0 ∧ wr = wo) (fun _ _ i _=>1 - (intOf i).toNat)
   case atStart=>exact ⟨rfl,rfl,rfl,rfl⟩
   case round =>
    obtain ⟨rfl,rfl,rfl,rfl⟩:=hrel
    go_wp2_with fail
    have HF:=Lib.hid ((HRc.out.set (i:=0) (v:=.slice none 0 0)).set (i:=1) (v:=.slice none 0 0))
    have z0:=HF.out.cell (i:=0) rfl
    have z1:=HF.out.cell (i:=1) rfl
    exact bodyPost_ret (v:=.tuple #[.agg #[.slice none 0 0,.slice none 0 0],.int .i64 (a:Int),.int .i64 (c:Int)]) (by simp [results,Tryz.results135,go_sem,z0,z1]) rfl
     (HMk.out none none 0 0 a c [] [] _ HD.out noInts noStrs (((HBW.out.trans (henv.out.bel.mono HBW.out.size)).setCell (Nat.le_refl _) _).setCell (Nat.le_refl _) _) ⟨Nat.zero_le _,Nat.zero_le _,Nat.zero_le _,Nat.zero_le _⟩ (fun _ e=>by cases e) (fun _ e=>by cases e))
end Pk
end Go.Proofs.YtmidncclndongaaGreat
namespace Go.Proofs.YtmidncclndongaaGreat
namespace Bk
open Go.RowKit
theorem run_append_opt {P:Program} (w:World) (base:Nat) (t ty e:TypeId) (i:TypeInfo) (z:Value) (bytes:Nat) (ht:P.underlying t = some (.slice e)) (hi:P.info? e = some i) (hz:i.zero = some z)
  (hsize:i.size = 1) (hby:i.bytes = bytes) (hzs:z.cells.size = 1) (v:Value) (n:Nat) (xs:List Value) (hown:w.ownsRow base e 1 v n xs)
  (A:Option Addr) (m c:Nat) (news:List Value) (hl:news.length = m) (hA:A = none → m = 0 ∧ c = 0) (hnews:∀ ad,A = some ad → ∀ j u,news[j]? = some u → w.cell? (ad.add j) = some u) (h1:∀ u ∈ news,u.oneCell' = true)
  (h63:n + m ≤ maxLen) (hbytes:(n + m) * bytes ≤ 140737488355328) (hbase:base ≤ w.heap.size) :
  ∃ v' w',(Builtin.append_ #[t,t] ty #[v,.slice A m c]).run P w = .ok v' w' ∧ w'.ownsRow base e 1 v' (n + m) (xs ++ news) ∧ w.grownBy w' v.ownBlock ∧ (v'.ownBlock = v.ownBlock ∨ v'.ownBlock = some w.heap.size):=by
 cases A with
 | none =>
  obtain ⟨rfl,rfl⟩:=hA rfl
  obtain rfl:news = []:=List.eq_nil_of_length_eq_zero hl
  exact ⟨v,w,run_append_owned_none (P:=P) w base t ty e i 1 ht hi _ _ _ hown,by rw [List.append_nil];exact hown,⟨rfl,rfl,rfl,Nat.le_refl _,fun _ _ _=>rfl⟩,.inl rfl⟩
 | some ad =>
  obtain ⟨v',w',hr,h2,h3,_,h5⟩:=run_append_own_at (P:=P) w base t ty e i z 1 bytes ht hi hz hsize hby hzs (by omega) v n xs hown ad m c news (by omega) (hnews ad rfl) h1 h63 hbytes hbase
  exact ⟨v',w',hr,h2,h3,h5⟩
theorem wpList_append_opt {P:Program} {w:World} {ops:Array Oper} {rest:List Oper} {o:Oper} {a:Act} {Q:Exit → Act → World → Prop} (hgd:o.guard = none) (s x:Operand) (t:TypeId)
  (ho:o.op = .call { callee:=.builtin .append,args:=#[s,x],argTypes:=#[t,t] })
  (base:Nat) (e:TypeId) (i:TypeInfo) (z:Value) (bytes:Nat) (ht:P.underlying t = some (.slice e)) (hi:P.info? e = some i) (hz:i.zero = some z)
  (hsize:i.size = 1) (hby:i.bytes = bytes) (hzs:z.cells.size = 1) (v:Value) (n:Nat) (xs:List Value) (hs:a.eval s = v) (hown:w.ownsRow base e 1 v n xs)
  (A:Option Addr) (m c:Nat) (news:List Value) (hx:a.eval x = .slice A m c) (hl:news.length = m) (hA:A = none → m = 0 ∧ c = 0) (hnews:∀ ad,A = some ad → ∀ j u,news[j]? = some u → w.cell? (ad.add j) = some u) (h1:∀ u ∈ news,u.oneCell' = true)
  (h63:n + m ≤ maxLen) (hbytes:(n + m) * bytes ≤ 140737488355328) (hbase:base ≤ w.heap.size)
  (h:∀ v' w',w'.ownsRow base e 1 v' (n + m) (xs ++ news) → w.grownBy w' v.ownBlock → (v'.ownBlock = v.ownBlock ∨ v'.ownBlock = some w.heap.size) → wpList P ops Q rest (a.put o.dst v') w') :
  wpList P ops Q (o :: rest) a w:=by
 refine wpList_plain hgd fun K hK=>?_
 obtain ⟨v',w',hr,h2,h3,h5⟩:=run_append_opt (P:=P) w base t o.type e i z bytes ht hi hz hsize hby hzs v n xs hown A m c news hl hA hnews h1 h63 hbytes hbase
 unfold Oper.wp execOp
 simp only [ho,resolve,invoke,builtin,Sem.run_bind,Sem.run_pure,Result.andThen_ok,List.map_toArray,List.map_cons,List.map_nil,hs,hx,hr]
 exact hK _ _ (h v' w' h2 h3 h5)
end Bk
end Go.Proofs.YtmidncclndongaaGreat
namespace Go.Proofs.YtmidncclndongaaGreat
namespace Lt
open Go.RowKit Bk
attribute [local go_sem ↓] Go.wp_at_zero Go.wp_at_succ
attribute [local go_sem] floatUpon pick
structure BtEnv (w W:World) (X g:Nat) (v1 v2:Value) (ns:List Int) (ts:List ByteArray):Prop where
 cel:Cel W g 222 [v1,v2]
 r0:W.ownsRow X 3 1 v1 ns.length (intV ns)
 r1:W.ownsRow X 9 1 v2 ts.length (strV ts)
 d:Unlike v1 v2
 n0:v1.ownBlock ≠ some g
 n1:v2.ownBlock ≠ some g
 gx:X ≤ g
 bel:Below X w W
theorem BtEnv.lt {w W:World} {X g:Nat} {v1 v2:Value} {ns:List Int} {ts:List ByteArray} (h:BtEnv w W X g v1 v2 ns ts):X ≤ W.heap.size:=Nat.le_of_lt (Nat.lt_of_le_of_lt h.gx h.cel.lt)
theorem BtEnv.c0 {w W:World} {X g:Nat} {v1 v2:Value} {ns:List Int} {ts:List ByteArray} (h:BtEnv w W X g v1 v2 ns ts):W.cell? ⟨g,0,none⟩ = some v1:=h.cel.cell rfl
theorem BtEnv.c1 {w W:World} {X g:Nat} {v1 v2:Value} {ns:List Int} {ts:List ByteArray} (h:BtEnv w W X g v1 v2 ns ts):W.cell? ⟨g,1,none⟩ = some v2:=h.cel.cell rfl
theorem BtEnv.step {w W W':World} {X g:Nat} {v1 v2:Value} {ns:List Int} {ts:List ByteArray} (h:BtEnv w W X g v1 v2 ns ts) (hb:Below W.heap.size W W'):BtEnv w W' X g v1 v2 ns ts :=
 ⟨h.cel.below hb,st_keep h.r0 hb,st_keep h.r1 hb,h.d,h.n0,h.n1,h.gx,h.bel.trans (hb.mono h.lt)⟩
theorem own_ne {W:World} {v v':Value} {g:Nat} (hn:v.ownBlock ≠ some g) (hg:g < W.heap.size) (hat:v'.ownBlock = v.ownBlock ∨ v'.ownBlock = some W.heap.size):v'.ownBlock ≠ some g:=by
 rcases hat with h | h
 ·rw [h];exact hn
 ·rw [h];intro e;simp only [Option.some.injEq] at e;omega
theorem BtEnv.grow1 {w W W1:World} {X g n':Nat} {v1 v2 v':Value} {ns ns':List Int} {ts:List ByteArray} (h:BtEnv w W X g v1 v2 ns ts) (ho:W1.ownsRow X 3 1 v' n' (intV ns')) (hl:n' = ns'.length) (hg:W.grownBy W1 v1.ownBlock) (hat:v'.ownBlock = v1.ownBlock ∨ v'.ownBlock = some W.heap.size) :
  Cel W1 g 222 [v1,v2] ∧ BtEnv w (W1.setCell ⟨g,0,none⟩ v') X g v' v2 ns' ts:=by
 subst hl
 have hc:Cel W1 g 222 [v1,v2]:=(hg.block g h.cel.lt (fun e=>h.n0 e.symm)).trans h.cel
 have h2:=h.r1.kept hg h.d.symm.ne
 have hn:=own_ne h.n0 h.cel.lt hat
 exact ⟨hc,hc.set,ownsRow_setCell_other ho hn _,ownsRow_setCell_other h2 h.n1 _,(h.d.symm.next (fun j hj=>(h.r1.lt j hj).2) hat (Nat.le_refl _)).symm,hn,h.n1,h.gx,(h.bel.grown hg h.lt (fun k hk=>(h.r0.lt k hk).1)).setCell h.gx _⟩
theorem BtEnv.grow2 {w W W1:World} {X g n':Nat} {v1 v2 v':Value} {ns:List Int} {ts ts':List ByteArray} (h:BtEnv w W X g v1 v2 ns ts) (ho:W1.ownsRow X 9 1 v' n' (strV ts')) (hl:n' = ts'.length) (hg:W.grownBy W1 v2.ownBlock) (hat:v'.ownBlock = v2.ownBlock ∨ v'.ownBlock = some W.heap.size) :
  Cel W1 g 222 [v1,v2] ∧ BtEnv w (W1.setCell ⟨g,1,none⟩ v') X g v1 v' ns ts':=by
 subst hl
 have hc:Cel W1 g 222 [v1,v2]:=(hg.block g h.cel.lt (fun e=>h.n1 e.symm)).trans h.cel
 have h2:=h.r0.kept hg h.d.ne
 have hn:=own_ne h.n1 h.cel.lt hat
 exact ⟨hc,hc.set,ownsRow_setCell_other h2 h.n0 _,ownsRow_setCell_other ho hn _,h.d.next (fun j hj=>(h.r0.lt j hj).2) hat (Nat.le_refl _),h.n0,hn,h.gx,(h.bel.grown hg h.lt (fun k hk=>(h.r1.lt k hk).1)).setCell h.gx _⟩
theorem flat_len (ws:List Wr):(ws.flatMap fun x=>[x.key,x.shard]).length = 2 * ws.length:=by
 induction ws with
 | nil=>rfl
 | cons x r ih=>simp only [List.flatMap_cons,List.length_append,List.length_cons,List.length_nil];omega
theorem bool_of {p:Prop}:∃ b:Bool,(b = true ↔ p):=⟨@decide p (Classical.propDecidable _),by rw [@decide_eq_true_eq _ (Classical.propDecidable _)]⟩
theorem ckN_of {l:Let} (h:LetOk l):ckN l = 0:=ckN_zero.2 h
theorem ckN_not {l:Let} (h:¬ LetOk l):ckN l = 70:=by unfold ckN;rw [if_neg h]
theorem Tryz.infoWrite:(Tryz.prog.info? 202).map (fun i=>(i.zero,i.size,i.bytes)) = some (some (.agg #[.string ⟨#[]⟩,.string ⟨#[]⟩,.bool false]),3,40):=by kernel_rfl
def wrV (l:List Wr):List Value:=l.flatMap fun x=>[.string x.key,.string x.shard,.bool x.dead]
theorem wrV_len (l:List Wr):(wrV l).length = l.length * 3:=by
 induction l with
 | nil=>rfl
 | cons x r ih =>
  show ([_,_,_] ++ wrV r).length = _
  rw [List.length_append,ih,List.length_cons]
  simp;omega
theorem wrV_snoc (l:List Wr) (x:Wr):wrV (l ++ [x]) = wrV l ++ [.string x.key,.string x.shard,.bool x.dead]:=by
 unfold wrV
 rw [List.flatMap_append];rfl
theorem wrV_at:∀ (l:List Wr) (i:Nat) (h:i < l.length),(wrV l)[i * 3]? = some (.string l[i].key) ∧ (wrV l)[i * 3 + 1]? = some (.string l[i].shard) ∧ (wrV l)[i * 3 + 2]? = some (.bool l[i].dead)
 | [],_,h=>absurd h (by simp)
 | x :: r,0,_=>⟨rfl,rfl,rfl⟩
 | x :: r,i + 1,h=>by
  have ih:=wrV_at r i (by simpa using h)
  have e:wrV (x :: r) = .string x.key :: .string x.shard :: .bool x.dead :: wrV r:=rfl
  rw [e,show (i + 1) * 3 = i * 3 + 3 by omega]
  exact ih
theorem wrs_own {w:World} {H n:Nat} {v:Value} {e:TypeId} {l:List Wr} (h:w.ownsRow H e 3 v n (wrV l)) (hl:n = l.length):∃ (A:Option Addr) (c:Nat),v = .slice A n c ∧ WrsAt w A l ∧ n ≤ c ∧ c ≤ maxLen ∧ (A = none → c = 0):=by
 rcases h.2 with ⟨rfl,rfl⟩ | ⟨g,cap,cur,rfl,_,hg,h1,h2,hsz,htk⟩
 ·exact ⟨none,0,rfl,fun hp=>by omega,Nat.le_refl _,Nat.zero_le _,fun _=>rfl⟩
 ·refine ⟨_,cap,rfl,fun _=>⟨_,rfl,(Array.getElem?_eq_some_iff.1 hg).1,fun i hi=>?_⟩,h1,h2,fun e=>by cases e⟩
  obtain ⟨x0,x1,x2⟩:=wrV_at l i hi
  have hlen:(wrV l).length = n * 3:=by rw [wrV_len,hl]
  have hc:∀ j u,(wrV l)[j]? = some u → w.cell? ((⟨g,0,none⟩:Addr).add j) = some u:=fun j u hu=>by
   rw [addr_head]
   refine blk_cell hg ?_
   have hj:=(List.getElem?_eq_some_iff.1 hu).1
   rw [← htk,List.getElem?_take_of_lt (by omega)] at hu
   rw [← Array.getElem?_toList];exact hu
  exact ⟨hc _ _ x0,hc _ _ x1,hc _ _ x2⟩
def pairL:List Int → List ByteArray → List Wr
 | f :: fs,k :: s :: ts=>⟨k,s,f == 1⟩ :: pairL fs ts
 | _,_=>[]
theorem pairL_len:∀ (fs:List Int) (ts:List ByteArray),ts.length = 2 * fs.length → (pairL fs ts).length = fs.length
 | [],_,_=>by simp [pairL]
 | f :: fs,[],h=>by simp at h
 | f :: fs,[k],h=>by simp at h;omega
 | f :: fs,k :: s :: ts,h=>by
  rw [pairL,List.length_cons,List.length_cons,pairL_len fs ts (by simp at h;omega)]
theorem pairL_at:∀ (fs:List Int) (ts:List ByteArray) (_h:ts.length = 2 * fs.length) (i:Nat) (hi:i < fs.length) (hp:i < (pairL fs ts).length) (h1:2 * i < ts.length) (h2:2 * i + 1 < ts.length),(pairL fs ts)[i] = ⟨ts[2 * i],ts[2 * i + 1],fs[i] == 1⟩
 | [],_,_,_,hi,_,_,_=>absurd hi (by simp)
 | f :: fs,[],h,_,_,_,_,_=>by simp at h
 | f :: fs,[k],h,_,_,_,_,_=>by simp at h;omega
 | f :: fs,k :: s :: ts,h,0,_,_,_,_=>rfl
 | f :: fs,k :: s :: ts,h,i + 1,hi,hp,h1,h2=>by
  have ih:=pairL_at fs ts (by simp at h;omega) i (by simpa using hi) (by simpa [pairL] using hp) (by simp at h1;omega) (by simp at h2;omega)
  simp only [pairL,List.getElem_cons_succ,ih]
  congr 1 <;> simp [show 2 * (i + 1) = 2 * i + 1 + 1 by omega]
theorem new_row {w:World} {g:Nat} {t:TypeId} {xs:List Value} (h:w.heap[g]? = some (.cells xs.toArray t (0,0))):∀ j v,xs[j]? = some v → w.cell? ((⟨g,0,none⟩:Addr).add j) = some v:=fun j v hv=>by
 rw [addr_head]
 exact blk_cell h (by rw [List.getElem?_toArray];exact hv)
def PairsAns (fs:List Int) (ts:List ByteArray) (w:World):Ending → World → Prop:=fun e w' =>
 (ts.length = 2 * fs.length ∧ ∃ v,e = .returned (.tuple #[v,.bool true]) ∧ w'.ownsRow w.heap.size 202 3 v fs.length (wrV (pairL fs ts)) ∧ Below w.heap.size w w') ∨
 (ts.length ≠ 2 * fs.length ∧ e = .returned (.tuple #[.slice none 0 0,.bool false]) ∧ w' = w)
theorem pairs_any (A B:Option Addr) (c d:Nat) (fs:List Int) (ts:List ByteArray) (w:World) (ha:IntsAt w A fs) (hb:StrsAt w B ts) (h1:fs.length ≤ 100000) (h2:ts.length ≤ 100000) :
  Calls Tryz.prog 136 #[.slice A fs.length c,.slice B ts.length d] w (PairsAns fs ts w):=by
 obtain ⟨i0,hi,hz0,hz1,hz2⟩:=info_parts Tryz.infoWrite
 by_cases hl:ts.length = 2 * fs.length
 ·have pl:(2 * (fs.length:Int)) = (ts.length:Int):=by omega
  have plb:((ts.length:Int) != (ts.length:Int)) = false:=by simp
  have hpl:=pairL_len fs ts hl
  have pfl:(fs.length:Int) ≤ 100000:=by omega
  have HMk:Hid (∀ v w',w'.ownsRow w.heap.size 202 3 v fs.length (wrV (pairL fs ts)) → Below w.heap.size w w' → PairsAns fs ts w (.returned (.tuple #[v,.bool true])) w'):=Lib.hid (fun v w' a b=>.inl ⟨hl,v,rfl,a,b⟩)
  have HL:=Lib.hid hl
  have HPl:=Lib.hid hpl
  have HA:=Lib.hid ha
  have HB:=Lib.hid hb
  clear hl hpl ha hb h2
  go_enter Tryz.func136,Tryz.ntmps136
  go_wp2_with fail
  go_loopw [6,7] (fun x i wr=>∃ (j:Nat) (u:Value),u = x ∧ j ≤ fs.length ∧ i = .int .i64 (j:Int) ∧ Hid (wr.ownsRow w.heap.size 202 3 u j (wrV ((pairL fs ts).take j))) ∧ Hid (Below w.heap.size w wr)) (fun _ i _=>fs.length - (intOf i).toNat)
  case atStart=>exact ⟨0,_,rfl,by omega,rfl,World.ownsRow_nil _ _ _ _,Below.refl _ _⟩
  case round =>
   obtain ⟨j,u,rfl,hj,rfl,hown,hbel⟩:=hrel
   by_cases hlt:j < fs.length
   ·have pj:(j:Int) < (fs.length:Int):=by omega
    have l1:2 * j < ts.length:=by have:=HL.out;omega
    have l2:2 * j + 1 < ts.length:=by have:=HL.out;omega
    obtain ⟨ad,rfl,_,_⟩:=HA.out (by omega)
    obtain ⟨bd,rfl,_,_⟩:=HB.out (by omega)
    have hp:=pairL_at fs ts HL.out j hlt (by rw [HPl.out];exact hlt) l1 l2
    obtain ⟨k,hk⟩:∃ k,k = ts[2 * j]:=⟨_,rfl⟩
    obtain ⟨s,hs⟩:∃ s,s = ts[2 * j + 1]:=⟨_,rfl⟩
    obtain ⟨f,hf⟩:∃ f,f = fs[j]:=⟨_,rfl⟩
    obtain ⟨dd,hd⟩:∃ dd,dd = (f == 1):=⟨_,rfl⟩
    rw [← hk,← hs,← hf,← hd] at hp
    have htk:wrV ((pairL fs ts).take (j + 1)) = wrV ((pairL fs ts).take j) ++ [.string k,.string s,.bool dd]:=by
     rw [List.take_add_one,List.getElem?_eq_getElem (by rw [HPl.out];exact hlt),hp]
     exact wrV_snoc _ _
    have hC:∀ W,Below w.heap.size w W → W.cell? (bd.add (2 * j)) = some (.string k) ∧ W.cell? (bd.add (2 * j + 1)) = some (.string s) ∧ W.cell? (ad.add j) = some (.int .i64 f):=fun W hW=>by
     obtain ⟨ad',e1,_,hca⟩:=(HA.out.below hW) (by omega)
     obtain ⟨bd',e2,_,hcb⟩:=(HB.out.below hW) (by omega)
     obtain rfl:=Option.some.inj e1
     obtain rfl:=Option.some.inj e2
     rw [hk,hs,hf]
     exact ⟨hcb _ l1,hcb _ l2,hca _ hlt⟩
    have HC:=Lib.hid hC
    have HTk:=Lib.hid htk
    have hdd:(f == 1) = dd:=hd.symm
    have p1:(2 * (j:Int)) < (ts.length:Int):=by omega
    have p2:(2 * (j:Int)) + 1 < (ts.length:Int):=by omega
    have w2:IntKind.i64.wrap (2 * (j:Int)) = 2 * (j:Int):=i64_wrap (by omega) (by omega)
    have w3:IntKind.i64.wrap (2 * (j:Int) + 1) = 2 * (j:Int) + 1:=i64_wrap (by omega) (by omega)
    obtain ⟨q0,hq0⟩:∃ q,q = 2 * j:=⟨_,rfl⟩
    obtain ⟨q1,hq1⟩:∃ q,q = 2 * j + 1:=⟨_,rfl⟩
    have t2:(2 * (j:Int)).toNat = q0:=by omega
    have t3:(2 * (j:Int) + 1).toNat = q1:=by omega
    rw [← hq1,← hq0] at HC
    clear hC hp htk hk hs hf hd hq0 hq1
    go_upto_region 7 with fail
    refine wp_region_said 19 [20,21,22,23,24,25,26,27,28,29,30,31,32,33,34,35,36,37,38]
     [.is u,.is (.slice (some bd) ts.length d),.is (.int .i64 (j:Int)),.is (.int .i64 (2 * (j:Int))),.is (.pointer (some (bd.add q0))),.is (.string k),.is (.slice (some bd) ts.length d),.is (.int .i64 (j:Int)),.is (.int .i64 (2 * (j:Int))),.is (.int .i64 (2 * (j:Int) + 1)),.is (.pointer (some (bd.add q1))),.is (.string s),.is (.slice (some ad) fs.length c),.is (.int .i64 (j:Int)),.is (.pointer (some (ad.add j))),.is (.int .i64 f),.is (.bool dd),.is (.agg #[.string k,.string s,.bool dd]),.arr 202 #[.string k,.string s,.bool dd] 1 1]
     (fun W=>W.ownsRow w.heap.size 202 3 u j (wrV ((pairL fs ts).take j)) ∧ Below w.heap.size w W) (by kernel_rfl) (by kernel_rfl) (by kernel_rfl) (by kernel_rfl) (by kernel_rfl) (fun W W' h hb=>⟨st_keep h.1 hb,h.2.trans (hb.mono h.2.size)⟩) ⟨hown.out,hbel.out⟩ ?steps ?last
    case steps =>
     simp only [List.take_succ_cons,List.take_zero]
     refine ⟨?_,?_,?_,?_,?_,?_,?_,?_,?_,?_,?_,?_,?_,?_,?_,?_,?_,?_,?_,trivial⟩
     all_goals
      intro vs W ρ hρ hc hf hg hI hH hd R' hR
      obtain ⟨z0,z1,z2⟩:=HC.out W hI.2
      have HR:=Lib.hid hR
      simp [depsOf,Region.binds,sayAt,Say.holds] at hd
      clear hR hI
      go_simp
      first
       | exact HR.out _ _ (by simp [sayAt,Say.holds]) (Below.refl _ _) (by simp [sayAt,Say.isBlk])
       | exact HR.out _ _ ⟨_,hH,by simp,rfl,heap_alloc_new _ _⟩ ((Below.refl _ _).alloc (Nat.le_refl _) _) (fun h=>by cases h)
       | trace_state
    case last =>
     intro vs W hI hb hg hd
     have g0:=hg 0 (by omega)
     obtain ⟨o,ho1,ho2,g18,ho⟩:=hg 18 (by omega)
     simp only [sayAt,Say.holds,List.getD_cons_zero] at g0
     simp only [List.take_succ_cons,List.take_zero,List.drop_succ_cons,List.drop_zero,putAll,Act.put,List.setIfInBounds_toArray,List.set_cons_succ,List.set_cons_zero,Nat.zero_add,Nat.reduceAdd]
     rw [g0,g18]
     have HI:=Lib.hid hI
     clear g0 g18 hg hd hI hown hbel
     refine wpList_append_own_at _ rfl _ _ 37 rfl w.heap.size 202 i0 (.agg #[.string ⟨#[]⟩,.string ⟨#[]⟩,.bool false]) 3 40 Tryz.underlying37 hi hz0 hz1 hz2 rfl (by decide) _ _ _ rfl HI.out.1 ⟨o,0,none⟩ 1 1 [.string k,.string s,.bool dd] rfl rfl ?d1 ?d2 ?d3 ?d4 HI.out.2.size ?_
     case d1=>exact new_row ho
     case d2=>intro q hq;simp at hq;rcases hq with rfl | rfl | rfl <;> rfl
     case d3=>unfold maxLen;omega
     case d4=>omega
     intro v' w5 hown' hgrow _ hat
     have HB5:=Lib.hid (HI.out.2.grown hgrow HI.out.2.size (fun k hk=>(HI.out.1.lt k hk).1))
     rw [← HTk.out] at hown'
     have HO5:=Lib.hid hown'
     clear hown' hgrow hat HI ho ho1 ho2 hb
     go_wp2_with fail
     go_roundw
     case rel=>exact ⟨j + 1,_,rfl,by omega,by go_num,HO5.out,HB5.out⟩
     case measure=>simp [intOf];omega
   ·obtain rfl:j = fs.length:=by omega
    have ho:=hown.out
    rw [List.take_of_length_le (by rw [HPl.out];exact Nat.le_refl _)] at ho
    have HO:=Lib.hid ho
    clear ho hown
    go_wp2_with fail
    go_ret2
    exact HMk.out _ _ HO.out hbel.out
 ·have plb:((ts.length:Int) != 2 * (fs.length:Int)) = true:=by simp;omega
  have HMk:Hid (PairsAns fs ts w (.returned (.tuple #[.slice none 0 0,.bool false])) w):=Lib.hid (.inr ⟨hl,rfl,rfl⟩)
  have pfl:(fs.length:Int) ≤ 100000:=by omega
  clear hl ha hb
  go_enter Tryz.func136,Tryz.ntmps136
  go_wp2_with fail
  go_ret2
  exact HMk.out
end Lt
end Go.Proofs.YtmidncclndongaaGreat
namespace Go.Proofs.YtmidncclndongaaGreat
namespace Lt
open Go.RowKit Bk
theorem pairL_of (ws:List Wr):pairL (ws.map fun x=>if x.dead then 1 else 0) (ws.flatMap fun x=>[x.key,x.shard]) = ws:=by
 induction ws with
 | nil=>rfl
 | cons x r ih =>
  show (⟨x.key,x.shard,(if x.dead then (1:Int) else 0) == 1⟩:Wr) :: pairL (r.map fun x=>if x.dead then 1 else 0) (r.flatMap fun x=>[x.key,x.shard]) = _
  rw [ih]
  obtain ⟨k,s,d⟩:=x
  cases d <;> rfl
theorem pair_flags:∀ (fs:List Int) (us:List ByteArray),us.length = 2 * fs.length → (∀ f ∈ fs,f = 0 ∨ f = 1) → ((pairL fs us).map fun x=>if x.dead then (1:Int) else 0) = fs ∧ ((pairL fs us).flatMap fun x=>[x.key,x.shard]) = us
 | [],[],_,_=>⟨rfl,rfl⟩
 | [],_ :: _,h,_=>by simp at h
 | f :: fs,[],h,_=>by simp at h
 | f :: fs,[k],h,_=>by simp at h;omega
 | f :: fs,k :: s :: r,h,h1=>by
  obtain ⟨i1,i2⟩:=pair_flags fs r (by simp at h;omega) (fun g hg=>h1 g (by simp [hg]))
  have hf:(if (f == 1) = true then (1:Int) else 0) = f:=by
   rcases h1 f (by simp) with rfl | rfl <;> rfl
  constructor
  ·show (if (f == 1) = true then (1:Int) else 0) :: ((pairL fs r).map _) = _
   rw [hf,i1]
  ·show k :: s :: ((pairL fs r).flatMap _) = _
   rw [i2]
end Lt
end Go.Proofs.YtmidncclndongaaGreat
