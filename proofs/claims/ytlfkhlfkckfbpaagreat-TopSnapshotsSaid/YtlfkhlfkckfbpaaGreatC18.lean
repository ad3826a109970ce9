/- Parts of the proof, joined: ScLand7, ScDoneB, RlDone, CkMath, CkAt, RcBytes, LtPack, RcPack, PkLaw; their conditions stand with each. -/
import Derived.Test.YtlfkhlfkckfbpaaGreatC2
import Derived.Test.YtlfkhlfkckfbpaaGreatC3
import Derived.Test.YtlfkhlfkckfbpaaGreatC8
import Derived.Test.YtlfkhlfkckfbpaaGreatC10
import Derived.Test.YtlfkhlfkckfbpaaGreatC11
import Derived.Test.YtlfkhlfkckfbpaaGreatC15
import Derived.Test.YtlfkhlfkckfbpaaGreatC16
import Derived.Test.YtlfkhlfkckfbpaaGreatC17

set_option maxRecDepth 20000
set_option maxHeartbeats 8000000
namespace Go.Proofs.YtlfkhlfkckfbpaaGreat
namespace Sc
open Go.RowKit Bk
attribute [local go_sem ↓] Go.wp_at_zero Go.wp_at_succ
attribute [local go_sem] floatUpon pick
section
variable {w w':World} {g a b:Nat} {D:Dev}
theorem CrMid.step {W W':World} {vb:Nat} {A:Option Addr} {ps:List Int} {j:Nat} {n:ByteArray} (h:CrMid w W g a b vb A D ps j n) (hb:Below W.heap.size W W'):CrMid w W' g a b vb A D ps j n:=⟨h.e.step hb,h.c.below hb⟩
theorem lcrash_any (h:LAt w g a b D) (hok:DevOk D) (A:Option Addr) (c:Nat) (ps:List Int) (hp:IntsAt w A ps) (hpd:0 < ps.length → ∀ x,A = some x → ¬ LFoot g a b x.block) (hpl:ps.length ≤ 140737488351232) :
  Calls Tryz.prog 16 #[.pointer (some ⟨g,0,none⟩),.slice A ps.length c] w fun e w'=>e = .returned (.tuple #[]) ∧ LAt w' g a b (crD D ps) ∧ Fr (LFoot g a b) (LFoot g a b) w w':=by
 have k1:=h.cel.cell (i:=1) rfl
 have hmx:=hok.max
 have HSk:=Lib.hid (sorted_keys h.mp (by rw [hok.len];exact hmx))
 have hlt0:=Lib.hid (And.intro h.ro.lt h.mp.lt)
 have HPs:=Lib.hid (fun wr (hf:Fr (LFoot g a b) (LFoot g a b) w wr) (k:Nat) (hk:k < ps.length)=>show ∃ ad,A = some ad ∧ wr.cell? (ad.add k) = some (.int .i64 ps[k]) from by
  obtain ⟨ad,e,hb,hc⟩:=hp (by omega)
  refine ⟨ad,e,?_⟩
  have hkp:wr.heap[(ad.add k).block]? = w.heap[(ad.add k).block]?:=by rw [st_block];exact hf.block _ hb (hpd (by omega) ad e)
  rw [show wr.cell? (ad.add k) = w.cell? (ad.add k) from by unfold World.cell?;rw [hkp]]
  exact hc k hk)
 have H:=Lib.hid h
 have HOk:=Lib.hid hok
 have hzs:=zero_sec
 obtain ⟨Z,hZ⟩:∃ Z,Z = secC zero64:=⟨_,rfl⟩
 have hZl:Z.length = 64:=by rw [hZ,secC_len];rfl
 unfold secV at hzs
 rw [← hZ] at hzs
 have HZ:=Lib.hid hZl
 have hle:cnt D.new D.new.length ≤ 2048:=by have:=cnt_le D.new D.new.length;rw [hok.len] at this ⊢;omega
 clear h hok hp hpd hZ hZl
 go_enter Tryz.func16,Tryz.ntmps16
 go_wp2_with fail
 refine (keys_call _ _).mono ?_
 rintro e w1 ⟨rfl,rfl⟩
 go_wp2_with fail
 refine HSk.out.mono ?_
 rintro e w2 ⟨B,cB,rfl,hB,hBn,hb2⟩
 have HE0:Hid (CrEnv w w2 g a b B D ps 0):=Lib.hid (by
  refine ⟨?_,(Fr.refl _ w).below hb2,hB,hBn⟩
  rw [crL_start]
  exact H.out.step hb2)
 obtain ⟨N,hN⟩:∃ N,N = cnt D.new D.new.length:=⟨_,rfl⟩
 rw [← hN] at hle ⊢
 have HN:=Lib.hid hN
 clear hB hBn hb2 HSk k1 hN
 have pN:(N:Int) ≤ 2048:=by omega
 go_wp2_with fail
 go_loopw [4,5,6,7,15] (fun _ _ _ _ i wr=>∃ j:Nat,j ≤ N ∧ i = .int .i64 (j:Int) ∧ Hid (CrEnv w wr g a b B D ps j)) (fun _ _ _ _ i _=>N - (intOf i).toNat)
 case atStart=>exact ⟨0,by omega,rfl,HE0.out⟩
 case round =>
  obtain ⟨j,hj,rfl,hr⟩:=hrel
  clear HE0
  by_cases hlt:j < N
  ·have hlk:j < (dirtyK D.new D.new.length).length:=by rw [dirtyK_cnt (Nat.le_refl _),← HN.out];exact hlt
   obtain ⟨i,hx,hi,hw,hc⟩:=dirtyK_at (Nat.le_refl _) (List.getElem?_eq_getElem hlk)
   obtain ⟨bd,hBe,hbl,hcell⟩:=hr.out.ks (by omega)
   have xk:=hcell j hlk
   rw [hx] at xk
   subst hBe
   have hn:i < D.on.length:=by rw [← HOk.out.len];exact hi
   have hn64:=(HOk.out.new64 _ (getD_mem hi)).resolve_left hw
   have hsl:=slot_nat hi
   rw [if_neg hw] at hsl
   have k1:=hr.out.d.cel.cell (i:=1) rfl
   have hgl:=hr.out.d.cel.lt
   have pn:(i:Int) < (D.on.length:Int):=by omega
   have pj:(j:Int) < (N:Int):=by omega
   have hn48:(i:Int) ≤ 2048:=by omega
   have hlk1:=hr.out.d.mp.look1 (x:=(i:Int)) (by omega) (by omega) hsl
   obtain ⟨n,hnv⟩:∃ n,n = D.new.getD i nil0:=⟨_,rfl⟩
   rw [← hnv] at hn64 hlk1
   obtain ⟨p,hpv⟩:∃ p,p = ps.getD j 0:=⟨_,rfl⟩
   obtain ⟨m,hm⟩:∃ m,cutN p = m:=⟨_,rfl⟩
   have hm64:m ≤ 64:=by rw [← hm];exact cut_le p
   have pm:(m:Int) ≤ 64:=by omega
   have HRe:=Lib.hid (fun W=>by have:=reached_any p W;rw [hm] at this;exact this)
   have htc:=torn_cells (HOk.out.on64 _ (List.getElem_mem hn)) hn64 p
   rw [hm] at htc
   have hs1:=put_cells wr Z HZ.out hn64
   have hcl:(secC n).length = 64:=by rw [secC_len,hn64]
   unfold secV at hlk1
   have HM:Hid (CrMid w (wr.alloc (.cells (secC n).toArray 99)) g a b wr.heap.size (some bd) D ps j n):=Lib.hid
    ⟨hr.out.step ((Below.refl _ wr).alloc (Nat.le_refl _) _),heap_alloc_new wr _⟩
   have HI:=Lib.hid (And.intro hi (And.intro hw (And.intro hc (And.intro hn (And.intro hn64 (And.intro hnv (And.intro hpv (And.intro htc hm64))))))))
   have hP:=HPs.out wr hr.out.f
   clear hlk hx hi hw hc hn64 hnv htc hm64 hsl hcell hle
   obtain ⟨C1,hC⟩:∃ C1,secC n = C1:=⟨_,rfl⟩
   have HC:=Lib.hid hC
   rw [hC] at hs1 hlk1 hcl HM
   clear hC
   by_cases hk:j < ps.length
   case neg =>
    have hp0:p = 0:=by rw [hpv,List.getD_eq_getElem?_getD,List.getElem?_eq_none (by omega)];rfl
    have pk:(ps.length:Int) ≤ (j:Int):=by omega
    have hmv:m = 0:=by rw [← hm,hp0];rfl
    subst hp0
    clear hm hpv hk hP hmv
    go_upto_region 7 with fail
    generalize wr.alloc (.cells C1.toArray 99) = W1 at HM ⊢
    generalize wr.heap.size = vb at HM ⊢
    clear hs1 hlk1 hcl k1 hgl xk
    refine wp_region_said 10 [34,35,36,37,38,39,40,41,42,43]
     [.is (.pointer (some ⟨g,0,none⟩)),.is (.pointer (some ⟨g,0,none⟩)),.is (.pointer (some ⟨g,0,none⟩)),.is (.slice (some ⟨a,0,none⟩) D.on.length D.on.length),.is (.int .i64 (i:Int)),.is (.pointer (some ⟨a,i * 64,none⟩)),.is (.slice (some ⟨a,i * 64,none⟩) 64 64),.is (.int .i64 0),.is (.int .i64 (m:Int)),.is (.slice (some ⟨vb,0,none⟩) m 64)]
     (fun W=>CrMid w W g a b vb (some bd) D ps j n) (by kernel_rfl) (by kernel_rfl) (by kernel_rfl) (by kernel_rfl) (by kernel_rfl) (fun W W' h hb=>h.step hb) HM.out ?stepsa ?lasta
    case stepsa =>
     simp only [List.take_succ_cons,List.take_zero]
     refine ⟨?_,?_,?_,?_,?_,?_,?_,?_,?_,?_,trivial⟩
     all_goals
      intro vs W ρ hρ hc hf hg hI hH hd R' hR
      have z0:=hI.e.d.cel.cell (i:=0) rfl
      simp only [crL_len] at z0
      have HR:=Lib.hid hR
      simp [depsOf,Region.binds,sayAt,Say.holds] at hd
      clear hR hI
      go_simp
      first
       | exact HR.out _ _ (by simp [sayAt,Say.holds]) (Below.refl _ _) (by simp [sayAt,Say.isBlk])
       | (refine (HRe.out _).mono ?_;rintro e w' ⟨rfl,rfl⟩;exact ⟨_,rfl,HR.out _ _ (by simp [sayAt,Say.holds]) (Below.refl _ _) (by simp [sayAt,Say.isBlk])⟩)
       | trace_state
    case lasta =>
     intro vs W hI hb hg hd
     have e6:=hg 6 (by omega)
     have e9:=hg 9 (by omega)
     simp only [sayAt,Say.holds,List.getD_cons_succ,List.getD_cons_zero] at e6 e9
     simp only [List.take_succ_cons,List.take_zero,List.drop_succ_cons,List.drop_zero,putAll,Act.put,List.setIfInBounds_toArray,List.set_cons_succ,List.set_cons_zero,Nat.zero_add,Nat.reduceAdd]
     rw [e6,e9]
     have hcp:=fun ty=>copy_part ty hI.e.d.ro (crL_64 HOk.out ps j) (i:=i) (by rw [crL_len];exact HI.out.2.2.2.1) hI.c HI.out.2.2.2.2.1 HI.out.2.2.2.2.2.2.2.2 (torn D.on[i] n 0) (by
      rw [crL_at HI.out.2.2.2.1 HI.out.2.2.1];exact HI.out.2.2.2.2.2.2.2.1)
     have hA:=CrEnv.put HOk.out hlt0.out.1 HI.out.2.2.2.1 HI.out.2.1 HI.out.2.2.1 hI.e HI.out.2.2.2.2.2.1 HI.out.2.2.2.2.2.2.1
     have HA:=Lib.hid hA
     clear hA
     generalize W.setRow a (onC ((crL D ps j).set i (torn D.on[i] n 0))).toArray = W6 at HA hcp ⊢
     have wj:IntKind.i64.wrap ((j:Int) + 1) = (j:Int) + 1:=i64_wrap (by omega) (by omega)
     clear e6 e9 hg hd hb hI HM HC HI HRe
     go_wp2_with fail
     go_roundw
     case rel=>exact ⟨j + 1,by omega,by go_num,HA.out⟩
     case measure=>simp [intOf];omega
   case pos =>
    obtain ⟨ad,hAe,xp⟩:=hP j hk
    have hp1:ps[j] = p:=by rw [hpv,List.getD_eq_getElem?_getD,List.getElem?_eq_getElem hk];rfl
    rw [hp1] at xp
    have pk:(j:Int) < (ps.length:Int):=by omega
    subst hAe
    clear hm hpv hk hP hp1
    go_upto_region 7 with fail
    generalize wr.alloc (.cells C1.toArray 99) = W1 at HM ⊢
    generalize wr.heap.size = vb at HM ⊢
    clear hs1 hlk1 hcl k1 hgl xk
    refine wp_region_said 10 [34,35,36,37,38,39,40,41,42,43]
     [.is (.pointer (some ⟨g,0,none⟩)),.is (.pointer (some ⟨g,0,none⟩)),.is (.pointer (some ⟨g,0,none⟩)),.is (.slice (some ⟨a,0,none⟩) D.on.length D.on.length),.is (.int .i64 (i:Int)),.is (.pointer (some ⟨a,i * 64,none⟩)),.is (.slice (some ⟨a,i * 64,none⟩) 64 64),.is (.int .i64 p),.is (.int .i64 (m:Int)),.is (.slice (some ⟨vb,0,none⟩) m 64)]
     (fun W=>CrMid w W g a b vb (some bd) D ps j n) (by kernel_rfl) (by kernel_rfl) (by kernel_rfl) (by kernel_rfl) (by kernel_rfl) (fun W W' h hb=>h.step hb) HM.out ?stepsb ?lastb
    case stepsb =>
     simp only [List.take_succ_cons,List.take_zero]
     refine ⟨?_,?_,?_,?_,?_,?_,?_,?_,?_,?_,trivial⟩
     all_goals
      intro vs W ρ hρ hc hf hg hI hH hd R' hR
      have z0:=hI.e.d.cel.cell (i:=0) rfl
      simp only [crL_len] at z0
      have HR:=Lib.hid hR
      simp [depsOf,Region.binds,sayAt,Say.holds] at hd
      clear hR hI
      go_simp
      first
       | exact HR.out _ _ (by simp [sayAt,Say.holds]) (Below.refl _ _) (by simp [sayAt,Say.isBlk])
       | (refine (HRe.out _).mono ?_;rintro e w' ⟨rfl,rfl⟩;exact ⟨_,rfl,HR.out _ _ (by simp [sayAt,Say.holds]) (Below.refl _ _) (by simp [sayAt,Say.isBlk])⟩)
       | trace_state
    case lastb =>
     intro vs W hI hb hg hd
     have e6:=hg 6 (by omega)
     have e9:=hg 9 (by omega)
     simp only [sayAt,Say.holds,List.getD_cons_succ,List.getD_cons_zero] at e6 e9
     simp only [List.take_succ_cons,List.take_zero,List.drop_succ_cons,List.drop_zero,putAll,Act.put,List.setIfInBounds_toArray,List.set_cons_succ,List.set_cons_zero,Nat.zero_add,Nat.reduceAdd]
     rw [e6,e9]
     have hcp:=fun ty=>copy_part ty hI.e.d.ro (crL_64 HOk.out ps j) (i:=i) (by rw [crL_len];exact HI.out.2.2.2.1) hI.c HI.out.2.2.2.2.1 HI.out.2.2.2.2.2.2.2.2 (torn D.on[i] n p) (by
      rw [crL_at HI.out.2.2.2.1 HI.out.2.2.1];exact HI.out.2.2.2.2.2.2.2.1)
     have hA:=CrEnv.put HOk.out hlt0.out.1 HI.out.2.2.2.1 HI.out.2.1 HI.out.2.2.1 hI.e HI.out.2.2.2.2.2.1 HI.out.2.2.2.2.2.2.1
     have HA:=Lib.hid hA
     clear hA
     generalize W.setRow a (onC ((crL D ps j).set i (torn D.on[i] n p))).toArray = W6 at HA hcp ⊢
     have wj:IntKind.i64.wrap ((j:Int) + 1) = (j:Int) + 1:=i64_wrap (by omega) (by omega)
     clear e6 e9 hg hd hb hI HM HC HI HRe
     go_wp2_with fail
     go_roundw
     case rel=>exact ⟨j + 1,by omega,by go_num,HA.out⟩
     case measure=>simp [intOf];omega
  ·obtain rfl:j = N:=by omega
   have HR:=Lib.hid (lrestart_any hr.out.d D.on.length)
   have HF:=Lib.hid hr.out.f
   clear hr
   go_wp2_with fail
   refine HR.out.mono ?_
   rintro e w5 ⟨rfl,hb⟩
   have HB:=Lib.hid hb
   clear hb
   go_wp2_with fail
   refine bodyPost_end (results_none rfl _ _ _) rfl ?_
   refine ⟨rfl,?_,HF.out.trans HB.out.2⟩
   have e1:calm ⟨crL D ps j,D.new,D.left,D.down⟩ D.on.length = crD D ps:=by
    unfold calm crD
    rw [HN.out,crL_end HOk.out,← HOk.out.len,upd_all]
   rw [← e1]
   exact HB.out.1
end
end Sc
end Go.Proofs.YtlfkhlfkckfbpaaGreat
namespace Go.Proofs.YtlfkhlfkckfbpaaGreat
namespace Sc
open Go.RowKit Bk
theorem devBase:DevBase Rep where
 lt:=fun {W F g D} h=>by obtain ⟨a,b,rfl,h1,_⟩:=h;exact h1.lt
 ok:=fun {W F g D} h=>by obtain ⟨a,b,_,_,h2⟩:=h;exact h2
 kept:=fun {W W' F g D} h hk=>by obtain ⟨a,b,rfl,h1,h2⟩:=h;exact ⟨a,b,rfl,h1.kept hk,h2⟩
 new:=fun n w _=>lnew_any n w
 size:=fun {F g D} w h=>by
  obtain ⟨a,b,rfl,h1,h2⟩:=h
  refine (lsize_any h1).mono ?_
  rintro e w' ⟨rfl,rfl⟩
  exact ⟨rfl,_,⟨a,b,rfl,h1,h2⟩,Fr.refl _ _⟩
 read:=fun {F g D} i w h hi=>by
  obtain ⟨a,b,rfl,h1,h2⟩:=h
  refine (lread_any h1 h2 i hi).mono ?_
  rintro e w' ⟨rfl,hb⟩
  exact ⟨rfl,_,⟨a,b,rfl,h1.step hb,h2⟩,(Fr.refl _ _).below hb⟩
 write:=fun {F g D} i t w h hi _=>by
  obtain ⟨a,b,rfl,h1,h2⟩:=h
  refine (lwrite_any h1 h2 i hi t).mono ?_
  rintro e w' ⟨rfl,h3,h4⟩
  exact ⟨rfl,_,⟨a,b,rfl,h3,wrD_ok h2 i t⟩,h4⟩
 flush:=fun {F g D} w h=>by
  obtain ⟨a,b,rfl,h1,h2⟩:=h
  refine (lflush_any h1 h2).mono ?_
  rintro e w' ⟨rfl,h3,h4⟩
  exact ⟨rfl,_,⟨a,b,rfl,h3,flD_ok h2⟩,h4⟩
 crash:=fun {F g D} A c ps w h hp hd hl _=>by
  obtain ⟨a,b,rfl,h1,h2⟩:=h
  refine (lcrash_any h1 h2 A c ps hp hd (by unfold reachBytes at hl;omega)).mono ?_
  rintro e w' ⟨rfl,h3,h4⟩
  exact ⟨rfl,_,⟨a,b,rfl,h3,crD_ok h2 ps⟩,h4⟩
end Sc
end Go.Proofs.YtlfkhlfkckfbpaaGreat
namespace Go.Proofs.YtlfkhlfkckfbpaaGreat
namespace Rd
open Go.RowKit Sc Bk
theorem devQ:DevQ Sc.Rep where
 lt:=fun h=>devBase.lt h
 ok:=fun h=>devBase.ok h
 kept:=fun h hk=>devBase.kept h hk
 size:=fun {F g D} w h=>by
  obtain ⟨a,b,rfl,h1,h2⟩:=h
  exact lsize_any h1
 read:=fun {F g D} i w h hi=>by
  obtain ⟨a,b,rfl,h1,h2⟩:=h
  exact lread_any h1 h2 i hi
theorem logF:LogF 22 88 75 136 89 Sc.Rep LRep where
 lt:=fun {W F p g n l} h=>by
  obtain ⟨A,B,rfl,h1⟩:=h
  exact h1.lt
 kept:=fun {W W' F p g n l} h hk=>by
  obtain ⟨A,B,rfl,h1⟩:=h
  exact ⟨A,B,rfl,h1.kept hk⟩
 opn:=fun {F g D} w h=>by
  refine (open_any repTxt devBase devQ h).mono ?_
  intro e w' hp
  exact hp
 app:=fun {F L g p D l} t w h hl hd hi _ ht=>by
  obtain ⟨A,B,rfl,h1⟩:=hl
  refine (append_any devQ h h1 hd hi t ht).mono ?_
  rintro e w' ⟨rfl,F',A',B',q1,q2,q3,q4⟩
  exact ⟨rfl,F',_,q1,⟨A',B',rfl,q2⟩,q3,q4⟩
 syn:=fun {F L g p D l} w h hl hd hi hu=>by
  obtain ⟨A,B,rfl,h1⟩:=hl
  refine (sync_any repTxt devBase devQ h h1 hd hi hu).mono ?_
  rintro e w' ⟨rfl,F',A',B',q1,q2,q3,q4⟩
  exact ⟨rfl,F',_,q1,⟨A',B',rfl,q2⟩,q3,q4⟩
 room:=fun {F L g p D l} w h hl hd hi _=>by
  obtain ⟨A,B,rfl,h1⟩:=hl
  refine (room_any devQ h h1 hi.ok).mono ?_
  rintro e w' ⟨rfl,hb⟩
  exact ⟨rfl,F,LFt p A B,devQ.step h hb,⟨A,B,rfl,h1.step hb⟩,hd,fr_refl_below hb⟩
 rst:=fun {F L g p D l} E cE ts w h hl hd hi hu hE hEn hEo hn hs hq=>by
  obtain ⟨A,B,rfl,h1⟩:=hl
  refine (restart_any repTxt devBase devQ h h1 hd hi hu E cE ts hE hEn hEo hn hs hq).mono ?_
  rintro e w' ⟨rfl,F',A',B',q1,q2,q3,q4⟩
  exact ⟨rfl,F',_,q1,⟨A',B',rfl,q2⟩,q3,q4⟩
end Rd
end Go.Proofs.YtlfkhlfkckfbpaaGreat
namespace Go.Proofs.YtlfkhlfkckfbpaaGreat
namespace Ck
open Rd Sc Rc
def mxS:Int:=1125899906842624
theorem mx_eq:mxS = 1125899906842624:=rfl
def upB (n:Int):ByteArray:=⟨(recL (bareR 7 0 n)).toArray⟩
theorem up_ok {n:Int} (h1:1 ≤ n) (h2:n ≤ mxS):RecOk (bareR 7 0 n):=by
 have h3:=mx_eq
 refine ⟨⟨.inl rfl,?_,?_,?_⟩,(kind_7 rfl).2 ⟨⟨⟨rfl,rfl⟩,⟨rfl,rfl,rfl⟩,rfl⟩,rfl,?_⟩⟩
 ·show 0 ≤ n ∧ n ≤ 1125899906842624
  omega
 ·show (0:Int) ≤ 0;decide
 ·show (0:Int) < 16;decide
 ·show n ≠ 0;omega
theorem up_dec {n:Int} (h1:1 ≤ n) (h2:n ≤ mxS):decX (upB n) = (bareR 7 0 n,0):=decX_bytes (up_ok h1 h2)
theorem up_size {n:Int} (h1:1 ≤ n) (h2:n ≤ mxS):(upB n).size ≤ 80:=by
 have h3:=mx_eq
 have k:∀ z:Int,0 ≤ z → z ≤ 1125899906842624 → (Pk.signed z).length ≤ 9:=fun z z1 z2=>by
  refine (Pk.signed_len ?_).2
  constructor <;> omega
 have a1:=k 7 (by omega) (by omega)
 have a2:=k 0 (by omega) (by omega)
 have a3:=k n (by omega) (by omega)
 have h0:Pk.plain 6 = [6]:=Pk.plain_small (by omega)
 have h5:Pk.plain 2 = [2]:=Pk.plain_small (by omega)
 have h6:Pk.plain 0 = [0]:=Pk.plain_small (by omega)
 have e:recL (bareR 7 0 n) = Pk.plain 6 ++ ((Pk.signed 7 ++ (Pk.signed 0 ++ (Pk.signed n ++ (Pk.signed 0 ++ (Pk.signed 0 ++ (Pk.signed 0 ++ [])))))) ++ (Pk.plain 2 ++ ((Pk.plain 0 ++ []) ++ ((Pk.plain 0 ++ []) ++ [])))):=rfl
 show (recL (bareR 7 0 n)).toArray.size ≤ 80
 rw [List.size_toArray,e,h0,h5,h6]
 simp only [List.length_append,List.length_cons,List.length_nil]
 omega
noncomputable def loadC:List ByteArray → Int → Option Int
 | [],b=>some b
 | t :: r,b=>if (decX t).2 = 0 ∧ (decX t).1.kind = 7 ∧ b < (decX t).1.ts then loadC r (decX t).1.ts else none
theorem load_app (a c:List ByteArray):∀ b,loadC (a ++ c) b = (loadC a b).bind (loadC c):=by
 induction a with
 | nil=>intro b;rfl
 | cons t r ih =>
  intro b
  show (if (decX t).2 = 0 ∧ (decX t).1.kind = 7 ∧ b < (decX t).1.ts then loadC (r ++ c) (decX t).1.ts else none) = (if (decX t).2 = 0 ∧ (decX t).1.kind = 7 ∧ b < (decX t).1.ts then loadC r (decX t).1.ts else none).bind (loadC c)
  split
  ·exact ih _
  ·rfl
theorem load_snoc {ts:List ByteArray} {t:ByteArray} {b0 b:Int} (h:loadC ts b0 = some b):loadC (ts ++ [t]) b0 = if (decX t).2 = 0 ∧ (decX t).1.kind = 7 ∧ b < (decX t).1.ts then some (decX t).1.ts else none:=by
 rw [load_app,h]
 rfl
theorem load_up {ts:List ByteArray} {b n:Int} (h:loadC ts 0 = some b) (h1:b < n) (h0:0 ≤ b) (h2:n ≤ mxS):loadC (ts ++ [upB n]) 0 = some n:=by
 rw [load_snoc h,up_dec (by omega) h2]
 exact if_pos ⟨rfl,rfl,h1⟩
theorem load_one {n:Int} (h1:1 ≤ n) (h2:n ≤ mxS):loadC [upB n] 0 = some n:=load_up (ts:=[]) (b:=0) rfl (by omega) (by omega) h2
def writeC (D:Dev) (l:Lg) (t:ByteArray):Dev × Lg × Int :=
 if (appendP D l t).2 = 100 then restartP D (appendP D l t).1 [t]
 else if (appendP D l t).2 = 0 then syncP D (appendP D l t).1
 else (D,appendP D l t)
structure Cl where
 l:Lg
 last:Int
 bound:Int
def raiseC (D:Dev) (k:Cl) (n:Int):Dev × Cl × Int :=
 ((writeC D k.l (upB n)).1,⟨(writeC D k.l (upB n)).2.1,k.last,if (writeC D k.l (upB n)).2.2 = 0 then n else k.bound⟩,(writeC D k.l (upB n)).2.2)
def nextC (D:Dev) (k:Cl) (blk:Int):Dev × Cl × Int × Int :=
 if k.last = mxS then (D,k,0,160)
 else if k.last = k.bound then
  if (raiseC D k (min (k.bound + blk) mxS)).2.2 = 0 then
   ((raiseC D k (min (k.bound + blk) mxS)).1,⟨(raiseC D k (min (k.bound + blk) mxS)).2.1.l,k.last + 1,(raiseC D k (min (k.bound + blk) mxS)).2.1.bound⟩,k.last + 1,0)
  else ((raiseC D k (min (k.bound + blk) mxS)).1,(raiseC D k (min (k.bound + blk) mxS)).2.1,0,(raiseC D k (min (k.bound + blk) mxS)).2.2)
 else (D,⟨k.l,k.last + 1,k.bound⟩,k.last + 1,0)
noncomputable def openC (D:Dev) (blk:Int):Dev × Option Cl × Int :=
 if blk < 1 ∨ 4096 < blk then (D,none,1) else
 match (openP D).2.1 with
 | none=>((openP D).1,none,(openP D).2.2)
 | some l=>match loadC l.ts 0 with
  | none=>((openP D).1,none,101)
  | some b=>((openP D).1,some ⟨l,b,b⟩,0)
structure ClOk (k:Cl):Prop where
 l0:0 ≤ k.last
 lb:k.last ≤ k.bound
 bm:k.bound ≤ mxS
section
variable {D:Dev} {l:Lg} {k:Cl}
end
end Ck
end Go.Proofs.YtlfkhlfkckfbpaaGreat
namespace Go.Proofs.YtlfkhlfkckfbpaaGreat
namespace Ck
open Go.RowKit Bk Sc Rd
def Tc (F:Nat → Prop) (b:Nat):Nat → Prop:=fun k=>F k ∨ k = b
structure CAt (Rep:RepT) (LRep:LRepT) (t:TypeId) (W:World) (F:Nat → Prop) (b g p:Nat) (D:Dev) (blk:Int) (k:Cl):Prop where
 sd:Side Rep LRep W F g D (some (p,k.l))
 cel:Cel W b t [.pointer (some ⟨p,0,none⟩),.int .i64 blk,.int .i64 k.last,.int .i64 k.bound]
 nf:¬ F b
theorem Fr.after {F F':Nat → Prop} {w W W':World} (h:Below w.heap.size w W) (k:Fr F F' W W'):Fr F F' w W' :=
 ⟨k.os.trans h.os,k.tape.trans h.tape,k.output.trans h.output,Nat.le_trans h.size k.size,fun i hi hn=>(k.block i (Nat.lt_of_lt_of_le hi h.size) hn).trans (h.block i hi),fun i hi=>(k.foot i hi).elim .inl (fun hs=>.inr (Nat.le_trans h.size hs))⟩
theorem fr_less {w W:World} {P Q R:Nat → Prop} (h:Fr P Q w W) (hs:∀ k,R k → Q k):Fr P R w W:=⟨h.os,h.tape,h.output,h.size,h.block,fun k hk=>h.foot k (hs k hk)⟩
theorem fr_below {w W W':World} {P Q:Nat → Prop} (h:Fr P Q w W) (hb:Below W.heap.size W W'):Fr P Q w W' :=
 ⟨hb.os.trans h.os,hb.tape.trans h.tape,hb.output.trans h.output,Nat.le_trans h.size hb.size,fun k hk hn=>(hb.block k (Nat.lt_of_lt_of_le hk h.size)).trans (h.block k hk hn),h.foot⟩
theorem side_none {Rep:RepT} {LRep:LRepT} {w:World} {D:Dev} {g:Nat} {F:Nat → Prop} {o:Option (Nat × Lg)} (h:Side Rep LRep w F g D o):∃ F':Nat → Prop,(∀ k,F' k → F k) ∧ Side Rep LRep w F' g D none:=by
 obtain ⟨Fd,hs,h1⟩:=h.dev
 exact ⟨Fd,hs,h1⟩
section
variable {f1 f2 f3 f4 f5 f6 f7 f8 f9 f10:FuncId} {Rep:RepT} {LRep:LRepT} {t:TypeId} {w W W':World} {F F':Nat → Prop} {b g p:Nat} {D D':Dev} {blk:Int} {k k':Cl} {l':Lg}
theorem CAt.below (HD:DevF f1 f2 f3 f4 f5 Rep) (HL:LogF f6 f7 f8 f9 f10 Rep LRep) (h:CAt Rep LRep t W F b g p D blk k) (hb:Below W.heap.size W W'):CAt Rep LRep t W' F b g p D blk k :=
 ⟨h.sd.kept HD HL (fun j hj=>hb.block j (h.sd.lt HD HL j hj)),h.cel.below hb,h.nf⟩
theorem CAt.lt (HD:DevF f1 f2 f3 f4 f5 Rep) (HL:LogF f6 f7 f8 f9 f10 Rep LRep) (h:CAt Rep LRep t W F b g p D blk k):∀ j,Tc F b j → j < W.heap.size:=fun j hj=>hj.elim (h.sd.lt HD HL j) (fun e=>e ▸ h.cel.lt)
theorem CAt.kept (HD:DevF f1 f2 f3 f4 f5 Rep) (HL:LogF f6 f7 f8 f9 f10 Rep LRep) (h:CAt Rep LRep t W F b g p D blk k) (hk:∀ j,Tc F b j → W'.heap[j]? = W.heap[j]?):CAt Rep LRep t W' F b g p D blk k :=
 ⟨h.sd.kept HD HL (fun j hj=>hk j (.inl hj)),(hk b (.inr rfl)).trans h.cel,h.nf⟩
theorem CAt.dev (h:CAt Rep LRep t W F b g p D blk k) (h1:Side Rep LRep W' F' g D' (some (p,l'))) (h2:Fr F F' W W'):CAt Rep LRep t W' F' b g p D' blk ⟨l',k.last,k.bound⟩ ∧ Fr (Tc F b) (Tc F' b) W W' :=
 ⟨⟨h1,(h2.block b h.cel.lt h.nf).trans h.cel,fun hk=>(h2.foot b hk).elim h.nf (fun hs=>by have:=h.cel.lt;omega)⟩,
  ⟨h2.os,h2.tape,h2.output,h2.size,fun j hj hn=>h2.block j hj (fun hf=>hn (.inl hf)),fun j hj=>by
   rcases hj with h3 | h3
   ·exact (h2.foot j h3).elim (fun h4=>.inl (.inl h4)) .inr
   ·exact .inl (.inr h3)⟩⟩
theorem CAt.setLast (HD:DevF f1 f2 f3 f4 f5 Rep) (HL:LogF f6 f7 f8 f9 f10 Rep LRep) (h:CAt Rep LRep t W F b g p D blk k) (n:Int):CAt Rep LRep t (W.setCell ⟨b,2,none⟩ (.int .i64 n)) F b g p D blk ⟨k.l,n,k.bound⟩ :=
 ⟨h.sd.kept HD HL (fun j hj=>Below.heap_setCell W ⟨b,2,none⟩ _ j (fun e=>h.nf ((show j = b from e) ▸ hj))),h.cel.set (i:=2),h.nf⟩
theorem CAt.setBound (HD:DevF f1 f2 f3 f4 f5 Rep) (HL:LogF f6 f7 f8 f9 f10 Rep LRep) (h:CAt Rep LRep t W F b g p D blk k) (n:Int):CAt Rep LRep t (W.setCell ⟨b,3,none⟩ (.int .i64 n)) F b g p D blk ⟨k.l,k.last,n⟩ :=
 ⟨h.sd.kept HD HL (fun j hj=>Below.heap_setCell W ⟨b,3,none⟩ _ j (fun e=>h.nf ((show j = b from e) ▸ hj))),h.cel.set (i:=3),h.nf⟩
theorem fr_set {P Q:Nat → Prop} (h:Fr P Q w W) (hP:P b ∨ w.heap.size ≤ b) (i:Nat) (v:Value):Fr P Q w (W.setCell ⟨b,i,none⟩ v) :=
 ⟨h.os,h.tape,h.output,by simp only [World.setCell,Array.size_modify];exact h.size,fun j hj hn=>(Below.heap_setCell W ⟨b,i,none⟩ v j (fun e=>by
  have e2:j = b:=e
  rcases hP with q | q
  ·exact hn (e2 ▸ q)
  ·omega)).trans (h.block j hj hn),h.foot⟩
end
def CPost (Rep:RepT) (LRep:LRepT) (t:TypeId) (w:World) (F:Nat → Prop) (b g p:Nat) (blk:Int) (D:Dev) (k:Cl) (w':World):Prop :=
 ∃ F',CAt Rep LRep t w' F' b g p D blk k ∧ Fr (Tc F b) (Tc F' b) w w'
def OPost (Rep:RepT) (LRep:LRepT) (t:TypeId) (w:World) (F:Nat → Prop) (g:Nat) (blk:Int) (R:Dev × Option Cl × Int) (e:Ending) (w':World):Prop :=
 (∃ k,R.2.1 = some k ∧ R.2.2 = 0 ∧ ∃ (F':Nat → Prop) (b p:Nat),e = .returned (.tuple #[.pointer (some ⟨b,0,none⟩),.int .i64 0]) ∧ CAt Rep LRep t w' F' b g p R.1 blk k ∧ Fr F (Tc F' b) w w') ∨
 (R.2.1 = none ∧ R.2.2 ≠ 0 ∧ e = .returned (.tuple #[.pointer none,.int .i64 R.2.2]) ∧ ∃ F':Nat → Prop,Side Rep LRep w' F' g R.1 none ∧ Fr F F' w w')
end Ck
end Go.Proofs.YtlfkhlfkckfbpaaGreat
namespace Go.Proofs.YtlfkhlfkckfbpaaGreat
namespace Rc
open Go.RowKit Bk Lt
attribute [local go_sem ↓] Go.wp_at_zero Go.wp_at_succ
attribute [local go_sem] floatUpon pick
def numsP (r:Rec) (j:Nat):List Int:=[r.kind,r.txn,r.ts,r.coord,flag r.dead,(r.keys.length:Int)] ++ (r.ws.take j).map fun x=>if x.dead then 1 else 0
def textsP (r:Rec) (j:Nat):List ByteArray:=r.key :: r.text :: (r.keys ++ (r.ws.take j).flatMap fun x=>[x.key,x.shard])
theorem numsP_all (r:Rec):numsP r r.ws.length = numsOf r:=by unfold numsP numsOf;rw [List.take_length]
theorem textsP_all (r:Rec):textsP r r.ws.length = textsOf r:=by unfold textsP textsOf;rw [List.take_length]
theorem numsP_succ {r:Rec} {j:Nat} (h:j < r.ws.length):numsP r (j + 1) = numsP r j ++ [if r.ws[j].dead then 1 else 0]:=by
 unfold numsP
 rw [List.take_add_one,List.getElem?_eq_getElem h,List.map_append]
 simp
theorem textsP_succ {r:Rec} {j:Nat} (h:j < r.ws.length):textsP r (j + 1) = (textsP r j ++ [r.ws[j].key]) ++ [r.ws[j].shard]:=by
 unfold textsP
 rw [List.take_add_one,List.getElem?_eq_getElem h,List.flatMap_append]
 simp
theorem numsP_len (r:Rec) (j:Nat):(numsP r j).length ≤ 6 + j:=by
 unfold numsP
 rw [List.length_append,List.length_map,List.length_take]
 show 6 + _ ≤ _
 omega
theorem textsP_len (r:Rec) (j:Nat):(textsP r j).length ≤ 2 + r.keys.length + 2 * j:=by
 unfold textsP
 rw [List.length_cons,List.length_cons,List.length_append,flat_len,List.length_take]
 omega
end Rc
end Go.Proofs.YtlfkhlfkckfbpaaGreat
namespace Go.Proofs.YtlfkhlfkckfbpaaGreat
namespace Lt
open Go.RowKit Bk
attribute [local go_sem ↓] Go.wp_at_zero Go.wp_at_succ
attribute [local go_sem] floatUpon pick
structure PkRows (w W:World) (X:Nat) (v1 v2:Value) (ns:List Int) (ts:List ByteArray):Prop where
 r0:W.ownsRow X 3 1 v1 ns.length (intV ns)
 r1:W.ownsRow X 9 1 v2 ts.length (strV ts)
 d:Unlike v1 v2
 bel:Below X w W
 le:X ≤ W.heap.size
theorem PkRows.step {w W W':World} {X:Nat} {v1 v2:Value} {ns:List Int} {ts:List ByteArray} (h:PkRows w W X v1 v2 ns ts) (hb:Below W.heap.size W W'):PkRows w W' X v1 v2 ns ts :=
 ⟨st_keep h.r0 hb,st_keep h.r1 hb,h.d,h.bel.trans (hb.mono h.le),Nat.le_trans h.le hb.size⟩
theorem PkRows.grow1 {w W W1:World} {X n':Nat} {v1 v2 v':Value} {ns ns':List Int} {ts:List ByteArray} (h:PkRows w W X v1 v2 ns ts) (ho:W1.ownsRow X 3 1 v' n' (intV ns')) (hl:n' = ns'.length) (hg:W.grownBy W1 v1.ownBlock) (hat:v'.ownBlock = v1.ownBlock ∨ v'.ownBlock = some W.heap.size):PkRows w W1 X v' v2 ns' ts:=by
 subst hl
 have hb:=h.bel.grown hg h.le (fun k hk=>(h.r0.lt k hk).1)
 exact ⟨ho,h.r1.kept hg h.d.symm.ne,(h.d.symm.next (fun j hj=>(h.r1.lt j hj).2) hat (Nat.le_refl _)).symm,hb,Nat.le_trans h.le hg.size⟩
theorem PkRows.grow2 {w W W1:World} {X n':Nat} {v1 v2 v':Value} {ns:List Int} {ts ts':List ByteArray} (h:PkRows w W X v1 v2 ns ts) (ho:W1.ownsRow X 9 1 v' n' (strV ts')) (hl:n' = ts'.length) (hg:W.grownBy W1 v2.ownBlock) (hat:v'.ownBlock = v2.ownBlock ∨ v'.ownBlock = some W.heap.size):PkRows w W1 X v1 v' ns ts':=by
 subst hl
 have hb:=h.bel.grown hg h.le (fun k hk=>(h.r1.lt k hk).1)
 exact ⟨h.r0.kept hg h.d.ne,ho,h.d.next (fun j hj=>(h.r0.lt j hj).2) hat (Nat.le_refl _),hb,Nat.le_trans h.le hg.size⟩
theorem ints_of_slice {w:World} {H c:Nat} {A:Option Addr} {e:TypeId} {O:List Int} (h:w.ownsRow H e 1 (.slice A O.length c) O.length (intV O)):IntsAt w A O:=by
 obtain ⟨A2,c2,e2,hh⟩:=ints_of_own h rfl
 simp only [Value.slice.injEq] at e2
 rw [e2.1];exact hh
theorem strs_of_slice {w:World} {H c:Nat} {A:Option Addr} {e:TypeId} {O:List ByteArray} (h:w.ownsRow H e 1 (.slice A O.length c) O.length (strV O)):StrsAt w A O:=by
 obtain ⟨A2,c2,e2,hh⟩:=strs_of_own2 h rfl
 simp only [Value.slice.injEq] at e2
 rw [e2.1];exact hh
end Lt
end Go.Proofs.YtlfkhlfkckfbpaaGreat
namespace Go.Proofs.YtlfkhlfkckfbpaaGreat
namespace Rc
open Go.RowKit Bk Lt
attribute [local go_sem ↓] Go.wp_at_zero Go.wp_at_succ
attribute [local go_sem] floatUpon pick
theorem toPack_any (A B:Option Addr) (c d:Nat) (r:Rec) (w:World) (ha:StrsAt w A r.keys) (hb:WrsAt w B r.ws) (hA:A = none → c = 0) (hok:RecOk r) :
  Calls Tryz.prog 87 #[recV r A B c d] w fun e w'=>∃ (A1 B1:Option Addr) (c1 d1:Nat),e = .returned (Pk.packV A1 B1 c1 d1 (numsOf r) (textsOf r)) ∧ IntsAt w' A1 (numsOf r) ∧ StrsAt w' B1 (textsOf r) ∧ (numsOf r).length ≤ c1 ∧ (textsOf r).length ≤ d1 ∧ c1 ≤ maxLen ∧ d1 ≤ maxLen ∧ Below w.heap.size w w':=by
 obtain ⟨i0,hi,hz0,hz1,hz2⟩:=info_parts Tryz.infoStr
 obtain ⟨i1,hi',hz0',hz1',hz2'⟩:=info_parts Pk.Tryz.infoInt
 have henv:=RcEnv.start (c:=c) (d:=d) ha hb
 have hbd:=hok.bounds
 have nk:r.keys.length ≤ 16:=hbd.1
 have nw:r.ws.length ≤ 16:=hbd.2.1
 have pk:(r.keys.length:Int) ≤ 16:=by omega
 have pw:(r.ws.length:Int) ≤ 16:=by omega
 have HAn:=Lib.hid hA
 have HFb:=Lib.hid (fun b W=>fromBool_any b W)
 clear ha hb hbd hok hA
 unfold recV
 go_enter Tryz.func87,Tryz.ntmps87
 go_upto_region 1 with fail
 have hE1:=henv.step ((Below.refl _ _).alloc (Nat.le_refl _) (.cells #[.slice none 0 0,.slice none 0 0] 148))
 have hR1:Cel ((w.alloc (.cells #[.int .i64 r.kind,.int .i64 r.txn,.int .i64 r.ts,.int .i64 r.coord,.string r.key,.string r.text,.bool r.dead,.slice A r.keys.length c,.slice B r.ws.length d] 60)).alloc (.cells #[.slice none 0 0,.slice none 0 0] 148)) (w.heap.size + 1) 148 [.slice none 0 0,.slice none 0 0]:=(blk2 w _ _).2.2
 generalize (w.alloc (.cells #[.int .i64 r.kind,.int .i64 r.txn,.int .i64 r.ts,.int .i64 r.coord,.string r.key,.string r.text,.bool r.dead,.slice A r.keys.length c,.slice B r.ws.length d] 60)).alloc (.cells #[.slice none 0 0,.slice none 0 0] 148) = W1 at hE1 hR1 ⊢
 have HE:=Lib.hid hE1
 have HR:=Lib.hid hR1
 clear henv hE1 hR1
 refine wp_region_said 15 [7,8,9,10,11,12,13,14,15,16,17,18,19,20,21]
  [.is (.pointer (some ⟨w.heap.size,0,none⟩)),.is (.int .i64 r.kind),.is (.pointer (some ⟨w.heap.size,1,none⟩)),.is (.int .i64 r.txn),.is (.pointer (some ⟨w.heap.size,2,none⟩)),.is (.int .i64 r.ts),.is (.pointer (some ⟨w.heap.size,3,none⟩)),.is (.int .i64 r.coord),.is (.pointer (some ⟨w.heap.size,6,none⟩)),.is (.bool r.dead),.is (.int .i64 (flag r.dead)),.is (.pointer (some ⟨w.heap.size,7,none⟩)),.is (.slice A r.keys.length c),.is (.int .i64 (r.keys.length:Int)),.arr 3 #[.int .i64 r.kind,.int .i64 r.txn,.int .i64 r.ts,.int .i64 r.coord,.int .i64 (flag r.dead),.int .i64 (r.keys.length:Int)] 6 6]
  (fun W=>RcEnv w W w.heap.size A B c d r ∧ Below W1.heap.size W1 W) (by kernel_rfl) (by kernel_rfl) (by kernel_rfl) (by kernel_rfl) (by kernel_rfl) (fun W W' h hb=>⟨h.1.step hb,h.2.trans (hb.mono h.2.size)⟩) ⟨HE.out,Below.refl _ _⟩ ?steps1 ?last1
 case steps1 =>
  simp only [List.take_succ_cons,List.take_zero]
  refine ⟨?_,?_,?_,?_,?_,?_,?_,?_,?_,?_,?_,?_,?_,?_,?_,trivial⟩
  all_goals
   intro vs W ρ hρ hc hf hg hI hH hd R' hR
   have k0:=hI.1.cel.cell (i:=0) rfl
   have k1:=hI.1.cel.cell (i:=1) rfl
   have k2:=hI.1.cel.cell (i:=2) rfl
   have k3:=hI.1.cel.cell (i:=3) rfl
   have k6:=hI.1.cel.cell (i:=6) rfl
   have k7:=hI.1.cel.cell (i:=7) rfl
   have HR:=Lib.hid hR
   simp [depsOf,Region.binds,sayAt,Say.holds] at hd
   clear hR hI
   go_simp
   first
    | exact HR.out _ _ (by simp [sayAt,Say.holds]) (Below.refl _ _) (by simp [sayAt,Say.isBlk])
    | exact HR.out _ _ ⟨_,hH,by simp,rfl,heap_alloc_new _ _⟩ ((Below.refl _ _).alloc (Nat.le_refl _) _) (fun h=>by cases h)
    | (refine (HFb.out _ _).mono ?_;rintro e w' ⟨rfl,rfl⟩;exact ⟨_,rfl,HR.out _ _ (by simp [sayAt,Say.holds]) (Below.refl _ _) (by simp [sayAt,Say.isBlk])⟩)
    | trace_state
 case last1 =>
 intro vs W hI hb hg hd
 obtain ⟨p,hp1,hp2,g14,hp4⟩:=hg 14 (by omega)
 simp only [List.take_succ_cons,List.take_zero,List.drop_succ_cons,List.drop_zero,putAll,Act.put,List.setIfInBounds_toArray,List.set_cons_succ,List.set_cons_zero,Nat.zero_add,Nat.reduceAdd]
 rw [g14]
 clear g14 hg hd hb
 go_upto_region 2 with fail
 have hE1:=hI.1
 have hB1:=hI.2
 have k4:=hE1.cel.cell (i:=4) rfl
 have k5:=hE1.cel.cell (i:=5) rfl
 have q7:=fun o:Obj=>(hE1.step ((Below.refl _ W).alloc (Nat.le_refl _) o)).cel.cell (i:=7) rfl
 obtain ⟨s2,b2⟩:=blk1 W (.cells #[.string r.key,.string r.text] 9)
 have hrw:PkRows W1 (W.alloc (.cells #[.string r.key,.string r.text] 9)) W1.heap.size (.slice (some ⟨p,0,none⟩) 6 6) (.slice (some ⟨W.heap.size,0,none⟩) 2 2) (numsP r 0) [r.key,r.text]:=by
  have hsz:=hB1.size
  refine ⟨?_,?_,?_,hB1.alloc hsz _,by omega⟩
  ·have:(numsP r 0).length = 6:=by simp [numsP]
   rw [this]
   exact ⟨by rw [intV_len,this],.inr ⟨p,6,_,rfl,hp1,((Below.refl _ W).alloc (Nat.le_refl _) _).block p hp2 |>.trans hp4,Nat.le_refl _,by unfold maxLen;omega,rfl,by simp [numsP,intV]⟩⟩
  ·exact ⟨rfl,.inr ⟨W.heap.size,2,_,rfl,hsz,b2,Nat.le_refl _,by unfold maxLen;omega,rfl,rfl⟩⟩
  ·intro j h1 h2;simp [Value.ownBlock] at h1 h2;omega
 have HRw:=Lib.hid hrw
 have HA2:=Lib.hid (show A = none → r.keys.length = 0 ∧ c = 0 from fun e=>by
   refine ⟨?_,HAn.out e⟩
   rcases Nat.eq_zero_or_pos r.keys.length with h | h
   ·exact h
   ·obtain ⟨ad,h2,_⟩:=HE.out.ks h;rw [e] at h2;cases h2)
 clear s2 b2 hrw hp1 hp2 hp4 hI hE1 hB1
 go_upto_region 3 with (at_builtin;refine wpList_append_opt rfl _ _ 57 rfl W1.heap.size 9 i0 (.string ⟨#[]⟩) 16 Tryz.underlying57 hi hz0 hz1 hz2 rfl _ 2 _ rfl HRw.out.r1 A r.keys.length c (strV r.keys) rfl (strV_len _) HA2.out ?c1 ?c2 ?c3 ?c4 HRw.out.le ?_)
 case c1=>exact fun ad e=>by subst e;exact (HE.out.step HRw.out.bel).ks.news
 case c2=>intro u hu;obtain ⟨s,_,rfl⟩:=List.mem_map.1 hu;rfl
 case c3=>unfold maxLen;omega
 case c4=>omega
 intro v' w3 ho hg hat
 have HR3:=Lib.hid (PkRows.grow2 (ts':=textsP r 0) HRw.out (by
  have e:strV [r.key,r.text] ++ strV r.keys = strV (textsP r 0):=by simp [strV,textsP]
  rw [← e];exact ho) (by simp [textsP];omega) hg (by rcases hat with h | h;exact .inl h;exact .inr (by rw [h];simp)))
 clear ho hg hat HRw q7 k4 k5
 generalize (Value.slice (some ⟨p,0,none⟩) 6 6) = vn at HR3 ⊢
 have k8:=(HE.out.step HR3.out.bel).cel.cell (i:=8) rfl
 go_wp2_with fail
 go_loopw [3,4,33] (fun v1 v2 i wr=>∃ (j:Nat),j ≤ r.ws.length ∧ i = .int .i64 (j:Int) ∧ Hid (PkRows W1 wr W1.heap.size v1 v2 (numsP r j) (textsP r j))) (fun _ _ i _=>r.ws.length - (intOf i).toNat)
 case atStart=>exact ⟨0,by omega,rfl,HR3.out⟩
 case round =>
  obtain ⟨j,hj,rfl,hrw⟩:=hrel
  clear HR3 k8
  by_cases hlt:j < r.ws.length
  ·have pj:(j:Int) < (r.ws.length:Int):=by omega
   have hle:=HE.out.step hrw.out.bel
   obtain ⟨bd,rfl,_,hcb⟩:=hle.ws (by omega)
   obtain ⟨x0,x1,x2⟩:=hcb j hlt
   rw [← add_field _ _ _ (by omega)] at x1 x2
   have hns:=numsP_succ hlt
   have hts:=textsP_succ hlt
   have hnl:=numsP_len r j
   have htl:=textsP_len r j
   obtain ⟨X,hX⟩:∃ X,X = r.ws[j]:=⟨_,rfl⟩
   rw [← hX] at x0 x1 x2 hns hts
   clear hX hcb hle
   obtain ⟨xk,xs,xd⟩:=X
   simp only at *
   go_upto_region 6 with fail
   have hR2:=hrw.out.step ((Below.refl _ wr).alloc (Nat.le_refl _) (.cells #[.string xk,.string xs,.bool xd] 139))
   have hC2:Cel (wr.alloc (.cells #[.string xk,.string xs,.bool xd] 139)) wr.heap.size 139 [.string xk,.string xs,.bool xd]:=(blk1 _ _).2
   have hOn:∀ k,u3.ownBlock = some k → k < wr.heap.size:=fun k hk=>(hrw.out.r0.lt k hk).2
   generalize wr.alloc (.cells #[.string xk,.string xs,.bool xd] 139) = W2 at hR2 hC2 ⊢
   have HR2:=Lib.hid hR2
   have HNs:=Lib.hid (show numsP r (j + 1) = numsP r j ++ [flag xd] from hns)
   have HTs:=Lib.hid hts
   have HOn:=Lib.hid hOn
   have z0:=hC2.cell (i:=0) rfl
   have z1:=hC2.cell (i:=1) rfl
   have z2:=hC2.cell (i:=2) rfl
   have HC2:=Lib.hid hC2
   clear hR2 hns hts hOn hC2 hrw x0 x1 x2
   generalize wr.heap.size = g5 at *
   go_wp2_with fail
   refine (HFb.out _ _).mono ?_
   rintro e w' ⟨rfl,rfl⟩
   generalize flag xd = fx at HNs ⊢
   go_upto_region 7 with (at_builtin;refine wpList_append_own_at _ rfl _ _ 22 rfl W1.heap.size 3 i1 (.int .i64 0) 1 8 Tryz.underlying22 hi' hz0' hz1' hz2' rfl (by decide) _ _ _ rfl (HR2.out.step ((Below.refl _ w').alloc (Nat.le_refl _) _)).r0 ⟨w'.heap.size,0,none⟩ 1 1 [.int .i64 fx] rfl rfl (cell_one_new _ _ _) ?a2 ?a3 ?a4 (HR2.out.step ((Below.refl _ w').alloc (Nat.le_refl _) _)).le ?_)
   case a2=>first | rfl | (intro u hu;simp at hu;subst hu;rfl)
   case a3=>unfold maxLen;omega
   case a4=>omega
   intro v' w5 hown' hgrow _ hat
   have hR5:=PkRows.grow1 (ns':=numsP r (j + 1)) (HR2.out.step ((Below.refl _ w').alloc (Nat.le_refl _) (.cells #[.int .i64 fx] 3))) (by rw [HNs.out,intV_snoc];exact hown') (by rw [HNs.out,List.length_append];rfl) hgrow (by rcases hat with h | h;exact .inl h;exact .inr (by rw [h];simp))
   have hC5:Cel w5 g5 139 [.string xk,.string xs,.bool xd] :=
    (hgrow.block g5 (by have:=HC2.out.lt;simp;omega) (fun e=>absurd (HOn.out _ e.symm) (Nat.lt_irrefl _))).trans (HC2.out.below ((Below.refl _ w').alloc (Nat.le_refl _) _))
   have HR5:=Lib.hid hR5
   have y0:=hC5.cell (i:=0) rfl
   have y1:=hC5.cell (i:=1) rfl
   clear hown' hgrow hat hR5 hC5 HR2 HC2 z0 z1 z2 HOn
   go_wp2_with (at_builtin;refine wpList_append_own_at _ rfl _ _ 57 rfl W1.heap.size 9 i0 (.string ⟨#[]⟩) 1 16 Tryz.underlying57 hi hz0 hz1 hz2 rfl (by decide) _ _ _ rfl (HR5.out.step ((Below.refl _ w5).alloc (Nat.le_refl _) _)).r1 ⟨w5.heap.size,0,none⟩ 2 2 [.string xk,.string xs] rfl rfl (new_row (heap_alloc_new _ _)) ?b2 ?b3 ?b4 (HR5.out.step ((Below.refl _ w5).alloc (Nat.le_refl _) _)).le ?_)
   case b2=>intro u hu;simp at hu;rcases hu with rfl | rfl <;> rfl
   case b3=>unfold maxLen;omega
   case b4=>omega
   intro v2 w6 hown' hgrow _ hat
   have HR6:=Lib.hid (PkRows.grow2 (ts':=textsP r (j + 1)) (HR5.out.step ((Below.refl _ w5).alloc (Nat.le_refl _) (.cells #[.string xk,.string xs] 9))) (by rw [HTs.out,Pk.strV_snoc2,Pk.strV_snoc2,List.append_assoc];exact hown') (by rw [HTs.out];simp) hgrow (by rcases hat with h | h;exact .inl h;exact .inr (by rw [h];simp)))
   clear hown' hgrow hat HR5 y0 y1
   go_wp2_with fail
   go_roundw
   case rel=>exact ⟨j + 1,by omega,by go_num,HR6.out⟩
   case measure=>simp [intOf];omega
  ·obtain rfl:j = r.ws.length:=by omega
   have h2:=hrw.out
   rw [numsP_all,textsP_all] at h2
   obtain ⟨A1,c1,rfl,f1,f2⟩:=Pk.own_form h2.r0
   obtain ⟨B1,d1,rfl,f3,f4⟩:=Pk.own_form h2.r1
   have F:=Lib.hid (And.intro f1 (And.intro f2 (And.intro f3 f4)))
   have hlt0:w.heap.size + 1 < W1.heap.size:=HR.out.lt
   have hN0:(Value.slice A1 (numsOf r).length c1).ownBlock ≠ some (w.heap.size + 1):=fun e=>by have:=(h2.r0.lt _ e).1;omega
   have hN1:(Value.slice B1 (textsOf r).length d1).ownBlock ≠ some (w.heap.size + 1):=fun e=>by have:=(h2.r1.lt _ e).1;omega
   have o0:=ownsRow_setCell_other (a:=⟨w.heap.size + 1,1,none⟩) (ownsRow_setCell_other (a:=⟨w.heap.size + 1,0,none⟩) h2.r0 hN0 (.slice A1 (numsOf r).length c1)) hN0 (.slice B1 (textsOf r).length d1)
   have o1:=ownsRow_setCell_other (a:=⟨w.heap.size + 1,1,none⟩) (ownsRow_setCell_other (a:=⟨w.heap.size + 1,0,none⟩) h2.r1 hN1 (.slice A1 (numsOf r).length c1)) hN1 (.slice B1 (textsOf r).length d1)
   have hRc:=HR.out.below h2.bel
   have hF:=(hRc.set (i:=0) (v:=.slice A1 (numsOf r).length c1)).set (i:=1) (v:=.slice B1 (textsOf r).length d1)
   have hBl:Below w.heap.size w ((wr.setCell ⟨w.heap.size + 1,0,none⟩ (.slice A1 (numsOf r).length c1)).setCell ⟨w.heap.size + 1,1,none⟩ (.slice B1 (textsOf r).length d1)) :=
    ((HE.out.bel.trans (h2.bel.mono HE.out.bel.size)).setCell (p:=⟨w.heap.size + 1,0,none⟩) (by show w.heap.size ≤ w.heap.size + 1;omega) (.slice A1 (numsOf r).length c1)).setCell (p:=⟨w.heap.size + 1,1,none⟩) (by show w.heap.size ≤ w.heap.size + 1;omega) (.slice B1 (textsOf r).length d1)
   have hI1:=ints_of_slice o0
   have hS1:=strs_of_slice o1
   have kq:=fun i=>hRc.free (i:=i)
   have kq0:=hRc.cell (i:=0) rfl
   have kq1:=hRc.cell (i:=1) rfl
   have z0:=hF.cell (i:=0) rfl
   have z1:=hF.cell (i:=1) rfl
   have HBl:=Lib.hid hBl
   have HI1:=Lib.hid hI1
   have HS1:=Lib.hid hS1
   clear hrw h2 hN0 hN1 o0 o1 hRc hF hBl hI1 hS1 f1 f2 f3 f4
   go_wp2_with fail
   exact bodyPost_ret (v:=Pk.packV A1 B1 c1 d1 (numsOf r) (textsOf r)) (by simp [results,Tryz.results87,go_sem,Pk.packV,z0,z1]) rfl ⟨A1,B1,c1,d1,rfl,HI1.out,HS1.out,F.out.1,F.out.2.2.1,F.out.2.1,F.out.2.2.2,HBl.out⟩
end Rc
end Go.Proofs.YtlfkhlfkckfbpaaGreat
namespace Go.Proofs.YtlfkhlfkckfbpaaGreat
namespace Pk
open Go.RowKit Bk
attribute [local go_sem ↓] Go.wp_at_zero Go.wp_at_succ
attribute [local go_sem] floatUpon pick
structure ArgOk (c d:Nat) (ns:List Int) (ts:List ByteArray):Prop where
 n8:ns.length * 8 ≤ 140737488351232
 t16:ts.length * 16 ≤ 140737488351232
 nr:∀ n ∈ ns,-9223372036854775808 ≤ n ∧ n ≤ 9223372036854775807
 tr:∀ t ∈ ts,t.size ≤ 140737488351232
 nc:ns.length ≤ c
 tc:ts.length ≤ d
 c63:c ≤ maxLen
 d63:d ≤ maxLen
theorem ArgOk.range {c d:Nat} {ns:List Int} {ts:List ByteArray} (h:ArgOk c d ns ts):InRange ns ts :=
 ⟨by have:=h.n8;omega,by have:=h.t16;omega,h.nr,fun t ht=>by have:=h.tr t ht;omega⟩
def CheckAll:Prop:=∀ (A B:Option Addr) (c d:Nat) (ns:List Int) (ts:List ByteArray) (w:World),IntsAt w A ns → StrsAt w B ts → ArgOk c d ns ts →
 Calls Tryz.prog 130 #[packV A B c d ns ts] w fun e w'=>e = .returned (.int .i64 (ckE ns ts:Int)) ∧ Below w.heap.size w w'
def EncodeAll:Prop:=∀ (A B:Option Addr) (c d:Nat) (ns:List Int) (ts:List ByteArray) (w:World),IntsAt w A ns → StrsAt w B ts → ArgOk c d ns ts →
 Calls Tryz.prog 86 #[packV A B c d ns ts] w fun e w'=>e = .returned (encV ns ts) ∧ Below w.heap.size w w'
def DecAns2 (s:ByteArray) (w:World):Ending → World → Prop:=fun e w' =>
 ∃ (A B:Option Addr) (c d:Nat),e = .returned (.tuple #[packV A B c d (decR s).1 (decR s).2.1,.int .i64 ((decR s).2.2.1:Int),.int .i64 ((decR s).2.2.2:Int)]) ∧ IntsAt w' A (decR s).1 ∧ StrsAt w' B (decR s).2.1 ∧ Below w.heap.size w w' ∧
  (decR s).1.length ≤ c ∧ (decR s).2.1.length ≤ d ∧ c ≤ maxLen ∧ d ≤ maxLen
def DecodeAll:Prop:=∀ (s:ByteArray) (w:World),s.size ≤ 1000000000000000 → Calls Tryz.prog 82 #[.string s] w (DecAns2 s w)
end Pk
end Go.Proofs.YtlfkhlfkckfbpaaGreat
