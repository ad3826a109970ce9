/- Parts of the proof, joined: ScRef3, BkGrow, ScRef5; their conditions stand with each. -/
import Derived.Maps.AppendAt
import Derived.Test.YtmidncclndongaaGreatC2
import Derived.Test.YtmidncclndongaaGreatC3
import Derived.Test.YtmidncclndongaaGreatC4
import Derived.Test.YtmidncclndongaaGreatC7

set_option maxRecDepth 20000
set_option maxHeartbeats 8000000
namespace Go.Proofs.YtmidncclndongaaGreat
namespace Sc
open Go.RowKit Bk
attribute [local go_sem ↓] Go.wp_at_zero Go.wp_at_succ
attribute [local go_sem] floatUpon pick
theorem cut_mod (p:Int):((p % 64).toNat:Int) = p % 64 ∧ (p % 64).toNat ≤ 64:=by omega
theorem torn_two (o n:ByteArray) (p:Int) {m:Nat} (hm:cutN p = m):(⟨(n.data.toList.take m).toArray⟩:ByteArray) ++ ⟨(o.data.toList.drop m).toArray⟩ = torn o n p:=by
 unfold torn
 rw [hm]
 apply ByteArray.ext
 apply Array.toList_inj.1
 simp
section
variable {w:World} {g:Nat} {ao an:Addr} {co cn:Nat} {so sn:List Value} {D:Dev}
theorem rcrash_any (h:RAt w g ao an co cn so sn D) (hok:DevOk D) (A:Option Addr) (c:Nat) (ps:List Int) (hp:IntsAt w A ps) (hpd:0 < ps.length → ∀ a,A = some a → ¬ RFoot g ao an a.block) (hpl:ps.length ≤ 140737488351232) :
  Calls Tryz.prog 83 #[.pointer (some ⟨g,0,none⟩),.slice A ps.length c] w fun e w'=>e = .returned (.tuple #[]) ∧ RAt w' g ao an co cn so sn (crD D ps) ∧ Fr (RFoot g ao an) (RFoot g ao an) w w':=by
 have H:=Lib.hid (show RAt w g ao an co cn so sn (part D 0 (tearF D ps) D.left D.down) from by rw [part_zero];exact h)
 have hlen:=hok.len
 have hmx:=hok.max
 have hlt0:=h.lt
 have HPs:=Lib.hid (fun wr (hf:Fr (RFoot g ao an) (RFoot g ao an) w wr) (k:Nat) (hk:k < ps.length)=>show ∃ ad,A = some ad ∧ wr.cell? (ad.add k) = some (.int .i64 ps[k]) from by
  obtain ⟨ad,e,hb,hc⟩:=hp (by omega)
  refine ⟨ad,e,?_⟩
  have hkp:wr.heap[(ad.add k).block]? = w.heap[(ad.add k).block]?:=by rw [st_block];exact hf.block _ hb (hpd (by omega) ad e)
  rw [show wr.cell? (ad.add k) = w.cell? (ad.add k) from by unfold World.cell?;rw [hkp]]
  exact hc k hk)
 have HOk:=Lib.hid hok
 clear h hok hp hpd
 go_enter Tryz.func83,Tryz.ntmps83
 go_wp2_with fail
 go_loopw [4,5] (fun k i wr=>∃ j:Nat,j ≤ D.on.length ∧ k = .int .i64 (cnt D.new j:Int) ∧ i = .int .i64 (j:Int) ∧ Hid (RAt wr g ao an co cn so sn (part D j (tearF D ps) D.left D.down) ∧ Fr (RFoot g ao an) (RFoot g ao an) w wr)) (fun _ i _=>D.on.length - (intOf i).toNat)
 case atStart=>exact ⟨0,by omega,rfl,rfl,H.out,Fr.refl _ _⟩
 case round =>
  obtain ⟨j,hj,rfl,rfl,hr⟩:=hrel
  clear H
  have lo:(part D j (tearF D ps) D.left D.down).on.length = D.on.length:=upd_len _ _ _
  have ln:(part D j (tearF D ps) D.left D.down).new.length = D.on.length:=(upd_len _ _ _).trans hlen
  have k0:=hr.out.1.cel.cell (i:=0) rfl
  have k1:=hr.out.1.cel.cell (i:=1) rfl
  rw [lo] at k0
  rw [ln] at k1
  by_cases hlt:j < D.on.length
  ·have pj:(j:Int) < (D.on.length:Int):=by omega
   have hlt2:j < D.new.length:=by omega
   have x1:=hr.out.1.readN (i:=j) (by rw [ln];exact hlt)
   have e1:(part D j (tearF D ps) D.left D.down).new[j]'(by rw [ln];exact hlt) = D.new[j]:=upd_here hlt2 _
   have eo:(part D j (tearF D ps) D.left D.down).on[j]'(by rw [lo];exact hlt) = D.on[j]:=upd_here hlt _
   rw [e1] at x1
   have hf:tearF D ps j = if D.new[j] = nil0 then D.on[j] else torn D.on[j] D.new[j] (ps.getD (cnt D.new j) 0):=by unfold tearF;rw [getD_at hlt,getD_at hlt2]
   have hc:=cnt_succ hlt2
   have hcl:=cnt_le D.new j
   have ho64:=HOk.out.on64 _ (List.getElem_mem hlt)
   have hn64:=HOk.out.new64 _ (List.getElem_mem hlt2)
   obtain ⟨n,hn'⟩:∃ n,n = D.new[j]:=⟨_,rfl⟩
   obtain ⟨o,ho'⟩:∃ o,o = D.on[j]:=⟨_,rfl⟩
   rw [← hn'] at x1 hf hc hn64
   rw [← ho'] at hf ho64
   generalize cnt D.new j = q at hf hc hcl ⊢
   have pq:(q:Int) ≤ 2048:=by omega
   have wq:IntKind.i64.wrap ((q:Int) + 1) = (q:Int) + 1:=i64_wrap (by omega) (by omega)
   by_cases hn:n = nil0
   ·rw [if_pos hn] at hf hc
    have HN:=Lib.hid (show RAt wr g ao an co cn so sn (part D (j + 1) (tearF D ps) D.left D.down) ∧ Fr (RFoot g ao an) (RFoot g ao an) w wr from by
     have:part D (j + 1) (tearF D ps) D.left D.down = part D j (tearF D ps) D.left D.down:=by
      unfold part
      rw [upd_same hlt (by rw [hf,ho']),upd_same hlt2 (by rw [← hn',hn])]
     rw [this];exact hr.out)
    subst hn
    have HC:=Lib.hid hc
    have t0:=text_eq nil0
    unfold nil0 at t0 x1
    clear hr hf hn' ho' e1 eo lo ln hc ho64 hn64 wq
    go_wp2_with fail
    go_roundw
    case rel=>exact ⟨j + 1,by omega,by rw [HC.out];rfl,by go_num,HN.out⟩
    case measure=>simp [intOf];omega
   ·rw [if_neg hn] at hf hc
    obtain ⟨t1,t2,t0⟩:=text_no hn
    have hn64':n.size = 64:=hn64.resolve_left hn
    obtain ⟨p,hpv⟩:∃ p,p = ps.getD q 0:=⟨_,rfl⟩
    rw [← hpv] at hf
    obtain ⟨m,hm⟩:∃ m,cutN p = m:=⟨_,rfl⟩
    have hm64:m ≤ 64:=by rw [← hm];exact cut_le p
    have htw:=torn_two o n p hm
    obtain ⟨X,hX⟩:∃ X,X = (⟨(n.data.toList.take m).toArray⟩:ByteArray):=⟨_,rfl⟩
    obtain ⟨Y,hY⟩:∃ Y,Y = (⟨(o.data.toList.drop m).toArray⟩:ByteArray):=⟨_,rfl⟩
    rw [← hX,← hY] at htw
    have hxy:¬ 9223372036854775807 < X.size + Y.size:=by
     have h1:X.size ≤ 64:=by rw [hX,text_size,List.length_take];omega
     have h2:Y.size ≤ 64:=by
      have h3:o.data.toList.length = 64:=ho64
      rw [hY,text_size,List.length_drop];omega
     omega
    have HXY:=Lib.hid hxy
    have HXe:=Lib.hid (And.intro hX (And.intro hY (And.intro hn64' ho64)))
    rw [← htw] at hf
    have HN:=Lib.hid (fun W (hW:RAt W g ao an co cn so sn (part D j (tearF D ps) D.left D.down))=>show RAt (W.setCell (ao.add j) (.string (X ++ Y))) g ao an co cn so sn ⟨upd D.on (j + 1) (tearF D ps),upd D.new j (fun _=>nil0),D.left,D.down⟩ from by
     have:=hW.setO (i:=j) (by rw [lo];exact hlt) (X ++ Y)
     have e:(part D j (tearF D ps) D.left D.down).on.set j (X ++ Y) = upd D.on (j + 1) (tearF D ps):=upd_set hlt hf.symm
     rw [e] at this
     exact this)
    have HX:=Lib.hid (fun W (hW:RAt W g ao an co cn so sn (part D j (tearF D ps) D.left D.down))=>show W.cell? (an.add j) = some (.string n) ∧ W.cell? (ao.add j) = some (.string o) from by
     have h1:=hW.readN (i:=j) (by rw [ln];exact hlt)
     have h2:=hW.readO (i:=j) (by rw [lo];exact hlt)
     rw [e1,← hn'] at h1
     rw [eo,← ho'] at h2
     exact ⟨h1,h2⟩)
    have Hln:=Lib.hid ln
    have Hlo:=Lib.hid lo
    have HC:=Lib.hid hc
    clear hf hn hn' ho' e1 eo lo ln hc ho64 hn64 hn64' htw hX hY hxy
    by_cases hk:q < ps.length
    case neg =>
     have hp0:p = 0:=by rw [hpv,List.getD_eq_getElem?_getD,List.getElem?_eq_none (by omega)];rfl
     have pk:(ps.length:Int) ≤ (q:Int):=by omega
     subst hp0
     have hmv:m = 0:=by rw [← hm];rfl
     subst hmv
     clear hm hpv hk
     go_upto_region 14 with fail
     have HTo:Hid (∀ W,(Instr.slice 9 (.string n) none (some (.int .i64 0)) none).run Tryz.prog W = .ok (.string X) W):=Lib.hid (fun W=>by rw [HXe.out.1];exact str_to n 0 (by rw [HXe.out.2.2.1];omega) 0 rfl W)
     have HFrom:Hid (∀ W,(Instr.slice 9 (.string o) (some (.int .i64 0)) none none).run Tryz.prog W = .ok (.string Y) W):=Lib.hid (fun W=>by rw [HXe.out.2.1];exact str_from o 0 (by rw [HXe.out.2.2.2];omega) 0 rfl W)
     refine wp_region_said 25 [43,44,45,46,47,48,49,50,51,52,53,54,55,56,57,58,59,60,61,62,63,64,65,66,67]
      [.is (.pointer (some ⟨g,0,none⟩)),.is (.pointer (some ⟨g,0,none⟩)),.is (.pointer (some ⟨g,0,none⟩)),.is (.slice (some ao) D.on.length co),.is (.int .i64 (j:Int)),.is (.pointer (some ⟨g,0,none⟩)),.is (.pointer (some ⟨g,0,none⟩)),.is (.pointer (some ⟨g,1,none⟩)),.is (.slice (some an) D.on.length cn),.is (.int .i64 (j:Int)),.is (.pointer (some (an.add j))),.is (.string n),.is (.int .i64 0),.is (.string X),.is (.pointer (some ⟨g,0,none⟩)),.is (.pointer (some ⟨g,0,none⟩)),.is (.pointer (some ⟨g,0,none⟩)),.is (.slice (some ao) D.on.length co),.is (.int .i64 (j:Int)),.is (.pointer (some (ao.add j))),.is (.string o),.is (.int .i64 0),.is (.string Y),.is (.string (X ++ Y)),.is (.pointer (some (ao.add j)))]
      (fun W=>RAt W g ao an co cn so sn (part D j (tearF D ps) D.left D.down) ∧ Fr (RFoot g ao an) (RFoot g ao an) w W) (by kernel_rfl) (by kernel_rfl) (by kernel_rfl) (by kernel_rfl) (by kernel_rfl) (fun W W' h hb=>⟨h.1.step hb,h.2.below hb⟩) hr.out ?stepsa ?lasta
     case stepsa =>
      simp only [List.take_succ_cons,List.take_zero]
      refine ⟨?_,?_,?_,?_,?_,?_,?_,?_,?_,?_,?_,?_,?_,?_,?_,?_,?_,?_,?_,?_,?_,?_,?_,?_,?_,trivial⟩
      all_goals
       intro vs W ρ hρ hc hf hg hI hH hd R' hR
       have z0:=hI.1.cel.cell (i:=0) rfl
       have z1:=hI.1.cel.cell (i:=1) rfl
       rw [Hlo.out] at z0
       rw [Hln.out] at z1
       obtain ⟨zx,zy⟩:=HX.out W hI.1
       have hto:=HTo.out
       have hfrom:=HFrom.out
       have hxy:=HXY.out
       have HR:=Lib.hid hR
       simp [depsOf,Region.binds,sayAt,Say.holds] at hd
       clear hR hI k0 k1
       go_simp
       first
        | exact HR.out _ _ (by simp [sayAt,Say.holds]) (Below.refl _ _) (by simp [sayAt,Say.isBlk])
        | trace_state
     case lasta =>
      intro vs W hI hb hg hd
      have e23:=hg 23 (by omega)
      have e24:=hg 24 (by omega)
      simp only [sayAt,Say.holds,List.getD_cons_succ,List.getD_cons_zero] at e23 e24
      simp only [List.take_succ_cons,List.take_zero,List.drop_succ_cons,List.drop_zero,putAll,Act.put,List.setIfInBounds_toArray,List.set_cons_succ,List.set_cons_zero,Nat.zero_add,Nat.reduceAdd]
      rw [e23,e24]
      have xo:=(HX.out W hI.1).2
      have xf:=hI.1.freeO j
      have HA:=Lib.hid (And.intro (HN.out W hI.1) (hI.2.set (foot_o j) (.string (X ++ Y))))
      clear e23 e24 hg hd hb hI k0 k1 HN HX hr
      go_upto_region 15 with fail
      generalize W.setCell (ao.add j) (.string (X ++ Y)) = W2 at HA ⊢
      clear xo xf
      have ln2:j < (⟨upd D.on (j + 1) (tearF D ps),upd D.new j (fun _=>nil0),D.left,D.down⟩:Dev).new.length:=by show j < (upd _ _ _).length;rw [upd_len];omega
      have k1:=HA.out.1.cel.cell (i:=1) rfl
      have e2:(⟨upd D.on (j + 1) (tearF D ps),upd D.new j (fun _=>nil0),D.left,D.down⟩:Dev).new.length = D.on.length:=(upd_len _ _ _).trans hlen
      rw [e2] at k1
      obtain ⟨y,xo⟩:∃ y,W2.cell? (an.add j) = some (.string y):=⟨_,HA.out.1.readN ln2⟩
      have xf:=HA.out.1.freeN j
      have HA2:=Lib.hid (show RAt (W2.setCell (an.add j) (.string nil0)) g ao an co cn so sn (part D (j + 1) (tearF D ps) D.left D.down) ∧ Fr (RFoot g ao an) (RFoot g ao an) w (W2.setCell (an.add j) (.string nil0)) from by
       refine ⟨?_,HA.out.2.set (foot_n j) _⟩
       have:=HA.out.1.setN ln2 nil0
       have e:(upd D.new j (fun _=>nil0)).set j nil0 = upd D.new (j + 1) (fun _=>nil0):=upd_set hlt2 rfl
       simp only at this
       rw [e] at this
       exact this)
      unfold nil0 at HA2
      clear HA e2 ln2
      go_upto_region 3 with fail
      generalize W2.setCell (an.add j) (.string ⟨#[]⟩) = W3 at HA2 ⊢
      clear xo xf k1
      go_wp2_with fail
      go_roundw
      case rel=>exact ⟨j + 1,by omega,by rw [HC.out];rfl,by go_num,HA2.out⟩
      case measure=>simp [intOf];omega
    obtain ⟨ad,rfl,xp⟩:=HPs.out wr hr.out.2 q hk
    have hpe:p = ps[q]:=by rw [hpv,List.getD_eq_getElem?_getD,List.getElem?_eq_getElem hk];rfl
    rw [← hpe] at xp
    have pk:(q:Int) < (ps.length:Int):=by omega
    clear hpe hpv
    by_cases hp0:p = 0
    ·subst hp0
     have hmv:m = 0:=by rw [← hm];rfl
     subst hmv
     clear hm hk
     go_upto_region 14 with fail
     have HTo:Hid (∀ W,(Instr.slice 9 (.string n) none (some (.int .i64 0)) none).run Tryz.prog W = .ok (.string X) W):=Lib.hid (fun W=>by rw [HXe.out.1];exact str_to n 0 (by rw [HXe.out.2.2.1];omega) 0 rfl W)
     have HFrom:Hid (∀ W,(Instr.slice 9 (.string o) (some (.int .i64 0)) none none).run Tryz.prog W = .ok (.string Y) W):=Lib.hid (fun W=>by rw [HXe.out.2.1];exact str_from o 0 (by rw [HXe.out.2.2.2];omega) 0 rfl W)
     refine wp_region_said 25 [43,44,45,46,47,48,49,50,51,52,53,54,55,56,57,58,59,60,61,62,63,64,65,66,67]
      [.is (.pointer (some ⟨g,0,none⟩)),.is (.pointer (some ⟨g,0,none⟩)),.is (.pointer (some ⟨g,0,none⟩)),.is (.slice (some ao) D.on.length co),.is (.int .i64 (j:Int)),.is (.pointer (some ⟨g,0,none⟩)),.is (.pointer (some ⟨g,0,none⟩)),.is (.pointer (some ⟨g,1,none⟩)),.is (.slice (some an) D.on.length cn),.is (.int .i64 (j:Int)),.is (.pointer (some (an.add j))),.is (.string n),.is (.int .i64 0),.is (.string X),.is (.pointer (some ⟨g,0,none⟩)),.is (.pointer (some ⟨g,0,none⟩)),.is (.pointer (some ⟨g,0,none⟩)),.is (.slice (some ao) D.on.length co),.is (.int .i64 (j:Int)),.is (.pointer (some (ao.add j))),.is (.string o),.is (.int .i64 0),.is (.string Y),.is (.string (X ++ Y)),.is (.pointer (some (ao.add j)))]
      (fun W=>RAt W g ao an co cn so sn (part D j (tearF D ps) D.left D.down) ∧ Fr (RFoot g ao an) (RFoot g ao an) w W) (by kernel_rfl) (by kernel_rfl) (by kernel_rfl) (by kernel_rfl) (by kernel_rfl) (fun W W' h hb=>⟨h.1.step hb,h.2.below hb⟩) hr.out ?stepsb ?lastb
     case stepsb =>
      simp only [List.take_succ_cons,List.take_zero]
      refine ⟨?_,?_,?_,?_,?_,?_,?_,?_,?_,?_,?_,?_,?_,?_,?_,?_,?_,?_,?_,?_,?_,?_,?_,?_,?_,trivial⟩
      all_goals
       intro vs W ρ hρ hc hf hg hI hH hd R' hR
       have z0:=hI.1.cel.cell (i:=0) rfl
       have z1:=hI.1.cel.cell (i:=1) rfl
       rw [Hlo.out] at z0
       rw [Hln.out] at z1
       obtain ⟨zx,zy⟩:=HX.out W hI.1
       have hto:=HTo.out
       have hfrom:=HFrom.out
       have hxy:=HXY.out
       have HR:=Lib.hid hR
       simp [depsOf,Region.binds,sayAt,Say.holds] at hd
       clear hR hI k0 k1
       go_simp
       first
        | exact HR.out _ _ (by simp [sayAt,Say.holds]) (Below.refl _ _) (by simp [sayAt,Say.isBlk])
        | trace_state
     case lastb =>
      intro vs W hI hb hg hd
      have e23:=hg 23 (by omega)
      have e24:=hg 24 (by omega)
      simp only [sayAt,Say.holds,List.getD_cons_succ,List.getD_cons_zero] at e23 e24
      simp only [List.take_succ_cons,List.take_zero,List.drop_succ_cons,List.drop_zero,putAll,Act.put,List.setIfInBounds_toArray,List.set_cons_succ,List.set_cons_zero,Nat.zero_add,Nat.reduceAdd]
      rw [e23,e24]
      have xo:=(HX.out W hI.1).2
      have xf:=hI.1.freeO j
      have HA:=Lib.hid (And.intro (HN.out W hI.1) (hI.2.set (foot_o j) (.string (X ++ Y))))
      clear e23 e24 hg hd hb hI k0 k1 HN HX hr
      go_upto_region 15 with fail
      generalize W.setCell (ao.add j) (.string (X ++ Y)) = W2 at HA ⊢
      clear xo xf
      have ln2:j < (⟨upd D.on (j + 1) (tearF D ps),upd D.new j (fun _=>nil0),D.left,D.down⟩:Dev).new.length:=by show j < (upd _ _ _).length;rw [upd_len];omega
      have k1:=HA.out.1.cel.cell (i:=1) rfl
      have e2:(⟨upd D.on (j + 1) (tearF D ps),upd D.new j (fun _=>nil0),D.left,D.down⟩:Dev).new.length = D.on.length:=(upd_len _ _ _).trans hlen
      rw [e2] at k1
      obtain ⟨y,xo⟩:∃ y,W2.cell? (an.add j) = some (.string y):=⟨_,HA.out.1.readN ln2⟩
      have xf:=HA.out.1.freeN j
      have HA2:=Lib.hid (show RAt (W2.setCell (an.add j) (.string nil0)) g ao an co cn so sn (part D (j + 1) (tearF D ps) D.left D.down) ∧ Fr (RFoot g ao an) (RFoot g ao an) w (W2.setCell (an.add j) (.string nil0)) from by
       refine ⟨?_,HA.out.2.set (foot_n j) _⟩
       have:=HA.out.1.setN ln2 nil0
       have e:(upd D.new j (fun _=>nil0)).set j nil0 = upd D.new (j + 1) (fun _=>nil0):=upd_set hlt2 rfl
       simp only at this
       rw [e] at this
       exact this)
      unfold nil0 at HA2
      clear HA e2 ln2
      go_upto_region 3 with fail
      generalize W2.setCell (an.add j) (.string ⟨#[]⟩) = W3 at HA2 ⊢
      clear xo xf k1
      go_wp2_with fail
      go_roundw
      case rel=>exact ⟨j + 1,by omega,by rw [HC.out];rfl,by go_num,HA2.out⟩
      case measure=>simp [intOf];omega
    by_cases hp1:p = 1
    ·subst hp1
     have hmv:m = 64:=by rw [← hm];rfl
     subst hmv
     clear hm hk hp0
     go_upto_region 14 with fail
     have HTo:Hid (∀ W,(Instr.slice 9 (.string n) none (some (.int .i64 64)) none).run Tryz.prog W = .ok (.string X) W):=Lib.hid (fun W=>by rw [HXe.out.1];exact str_to n 64 (by rw [HXe.out.2.2.1];omega) 64 rfl W)
     have HFrom:Hid (∀ W,(Instr.slice 9 (.string o) (some (.int .i64 64)) none none).run Tryz.prog W = .ok (.string Y) W):=Lib.hid (fun W=>by rw [HXe.out.2.1];exact str_from o 64 (by rw [HXe.out.2.2.2];omega) 64 rfl W)
     refine wp_region_said 25 [43,44,45,46,47,48,49,50,51,52,53,54,55,56,57,58,59,60,61,62,63,64,65,66,67]
      [.is (.pointer (some ⟨g,0,none⟩)),.is (.pointer (some ⟨g,0,none⟩)),.is (.pointer (some ⟨g,0,none⟩)),.is (.slice (some ao) D.on.length co),.is (.int .i64 (j:Int)),.is (.pointer (some ⟨g,0,none⟩)),.is (.pointer (some ⟨g,0,none⟩)),.is (.pointer (some ⟨g,1,none⟩)),.is (.slice (some an) D.on.length cn),.is (.int .i64 (j:Int)),.is (.pointer (some (an.add j))),.is (.string n),.is (.int .i64 64),.is (.string X),.is (.pointer (some ⟨g,0,none⟩)),.is (.pointer (some ⟨g,0,none⟩)),.is (.pointer (some ⟨g,0,none⟩)),.is (.slice (some ao) D.on.length co),.is (.int .i64 (j:Int)),.is (.pointer (some (ao.add j))),.is (.string o),.is (.int .i64 64),.is (.string Y),.is (.string (X ++ Y)),.is (.pointer (some (ao.add j)))]
      (fun W=>RAt W g ao an co cn so sn (part D j (tearF D ps) D.left D.down) ∧ Fr (RFoot g ao an) (RFoot g ao an) w W) (by kernel_rfl) (by kernel_rfl) (by kernel_rfl) (by kernel_rfl) (by kernel_rfl) (fun W W' h hb=>⟨h.1.step hb,h.2.below hb⟩) hr.out ?stepsc ?lastc
     case stepsc =>
      simp only [List.take_succ_cons,List.take_zero]
      refine ⟨?_,?_,?_,?_,?_,?_,?_,?_,?_,?_,?_,?_,?_,?_,?_,?_,?_,?_,?_,?_,?_,?_,?_,?_,?_,trivial⟩
      all_goals
       intro vs W ρ hρ hc hf hg hI hH hd R' hR
       have z0:=hI.1.cel.cell (i:=0) rfl
       have z1:=hI.1.cel.cell (i:=1) rfl
       rw [Hlo.out] at z0
       rw [Hln.out] at z1
       obtain ⟨zx,zy⟩:=HX.out W hI.1
       have hto:=HTo.out
       have hfrom:=HFrom.out
       have hxy:=HXY.out
       have HR:=Lib.hid hR
       simp [depsOf,Region.binds,sayAt,Say.holds] at hd
       clear hR hI k0 k1
       go_simp
       first
        | exact HR.out _ _ (by simp [sayAt,Say.holds]) (Below.refl _ _) (by simp [sayAt,Say.isBlk])
        | trace_state
     case lastc =>
      intro vs W hI hb hg hd
      have e23:=hg 23 (by omega)
      have e24:=hg 24 (by omega)
      simp only [sayAt,Say.holds,List.getD_cons_succ,List.getD_cons_zero] at e23 e24
      simp only [List.take_succ_cons,List.take_zero,List.drop_succ_cons,List.drop_zero,putAll,Act.put,List.setIfInBounds_toArray,List.set_cons_succ,List.set_cons_zero,Nat.zero_add,Nat.reduceAdd]
      rw [e23,e24]
      have xo:=(HX.out W hI.1).2
      have xf:=hI.1.freeO j
      have HA:=Lib.hid (And.intro (HN.out W hI.1) (hI.2.set (foot_o j) (.string (X ++ Y))))
      clear e23 e24 hg hd hb hI k0 k1 HN HX hr
      go_upto_region 15 with fail
      generalize W.setCell (ao.add j) (.string (X ++ Y)) = W2 at HA ⊢
      clear xo xf
      have ln2:j < (⟨upd D.on (j + 1) (tearF D ps),upd D.new j (fun _=>nil0),D.left,D.down⟩:Dev).new.length:=by show j < (upd _ _ _).length;rw [upd_len];omega
      have k1:=HA.out.1.cel.cell (i:=1) rfl
      have e2:(⟨upd D.on (j + 1) (tearF D ps),upd D.new j (fun _=>nil0),D.left,D.down⟩:Dev).new.length = D.on.length:=(upd_len _ _ _).trans hlen
      rw [e2] at k1
      obtain ⟨y,xo⟩:∃ y,W2.cell? (an.add j) = some (.string y):=⟨_,HA.out.1.readN ln2⟩
      have xf:=HA.out.1.freeN j
      have HA2:=Lib.hid (show RAt (W2.setCell (an.add j) (.string nil0)) g ao an co cn so sn (part D (j + 1) (tearF D ps) D.left D.down) ∧ Fr (RFoot g ao an) (RFoot g ao an) w (W2.setCell (an.add j) (.string nil0)) from by
       refine ⟨?_,HA.out.2.set (foot_n j) _⟩
       have:=HA.out.1.setN ln2 nil0
       have e:(upd D.new j (fun _=>nil0)).set j nil0 = upd D.new (j + 1) (fun _=>nil0):=upd_set hlt2 rfl
       simp only at this
       rw [e] at this
       exact this)
      unfold nil0 at HA2
      clear HA e2 ln2
      go_upto_region 3 with fail
      generalize W2.setCell (an.add j) (.string ⟨#[]⟩) = W3 at HA2 ⊢
      clear xo xf k1
      go_wp2_with fail
      go_roundw
      case rel=>exact ⟨j + 1,by omega,by rw [HC.out];rfl,by go_num,HA2.out⟩
      case measure=>simp [intOf];omega
    obtain ⟨a1,a2,a3⟩:=among_eq p 64 (by omega)
    have e6:IntKind.i64.wrap (p.tmod 64 + 64) = p.tmod 64 + 64:=by rw [IntKind.wrap_i64];simp at a2 a3;omega
    have em:(amongV p 64:Int) = (m:Int):=by
     rw [amongV_emod p 64 (by omega),← hm]
     unfold cutN
     rw [if_neg hp0,if_neg hp1]
     exact (cut_mod p).1.symm
    rw [em] at a1
    have a4:(p.tmod 64 + 64).tmod 64 = (m:Int):=by simpa using a1
    clear hm hk em a1 a2 a3
    go_upto_region 14 with fail
    have HTo:Hid (∀ W,(Instr.slice 9 (.string n) none (some (.int .i64 (m:Int))) none).run Tryz.prog W = .ok (.string X) W):=Lib.hid (fun W=>by rw [HXe.out.1];exact str_to n m (by rw [HXe.out.2.2.1];omega) (m:Int) rfl W)
    have HFrom:Hid (∀ W,(Instr.slice 9 (.string o) (some (.int .i64 (m:Int))) none none).run Tryz.prog W = .ok (.string Y) W):=Lib.hid (fun W=>by rw [HXe.out.2.1];exact str_from o m (by rw [HXe.out.2.2.2];omega) (m:Int) rfl W)
    refine wp_region_said 25 [43,44,45,46,47,48,49,50,51,52,53,54,55,56,57,58,59,60,61,62,63,64,65,66,67]
     [.is (.pointer (some ⟨g,0,none⟩)),.is (.pointer (some ⟨g,0,none⟩)),.is (.pointer (some ⟨g,0,none⟩)),.is (.slice (some ao) D.on.length co),.is (.int .i64 (j:Int)),.is (.pointer (some ⟨g,0,none⟩)),.is (.pointer (some ⟨g,0,none⟩)),.is (.pointer (some ⟨g,1,none⟩)),.is (.slice (some an) D.on.length cn),.is (.int .i64 (j:Int)),.is (.pointer (some (an.add j))),.is (.string n),.is (.int .i64 (m:Int)),.is (.string X),.is (.pointer (some ⟨g,0,none⟩)),.is (.pointer (some ⟨g,0,none⟩)),.is (.pointer (some ⟨g,0,none⟩)),.is (.slice (some ao) D.on.length co),.is (.int .i64 (j:Int)),.is (.pointer (some (ao.add j))),.is (.string o),.is (.int .i64 (m:Int)),.is (.string Y),.is (.string (X ++ Y)),.is (.pointer (some (ao.add j)))]
     (fun W=>RAt W g ao an co cn so sn (part D j (tearF D ps) D.left D.down) ∧ Fr (RFoot g ao an) (RFoot g ao an) w W) (by kernel_rfl) (by kernel_rfl) (by kernel_rfl) (by kernel_rfl) (by kernel_rfl) (fun W W' h hb=>⟨h.1.step hb,h.2.below hb⟩) hr.out ?stepsd ?lastd
    case stepsd =>
     simp only [List.take_succ_cons,List.take_zero]
     refine ⟨?_,?_,?_,?_,?_,?_,?_,?_,?_,?_,?_,?_,?_,?_,?_,?_,?_,?_,?_,?_,?_,?_,?_,?_,?_,trivial⟩
     all_goals
      intro vs W ρ hρ hc hf hg hI hH hd R' hR
      have z0:=hI.1.cel.cell (i:=0) rfl
      have z1:=hI.1.cel.cell (i:=1) rfl
      rw [Hlo.out] at z0
      rw [Hln.out] at z1
      obtain ⟨zx,zy⟩:=HX.out W hI.1
      have hto:=HTo.out
      have hfrom:=HFrom.out
      have hxy:=HXY.out
      have HR:=Lib.hid hR
      simp [depsOf,Region.binds,sayAt,Say.holds] at hd
      clear hR hI k0 k1
      go_simp
      first
       | exact HR.out _ _ (by simp [sayAt,Say.holds]) (Below.refl _ _) (by simp [sayAt,Say.isBlk])
       | trace_state
    case lastd =>
     intro vs W hI hb hg hd
     have e23:=hg 23 (by omega)
     have e24:=hg 24 (by omega)
     simp only [sayAt,Say.holds,List.getD_cons_succ,List.getD_cons_zero] at e23 e24
     simp only [List.take_succ_cons,List.take_zero,List.drop_succ_cons,List.drop_zero,putAll,Act.put,List.setIfInBounds_toArray,List.set_cons_succ,List.set_cons_zero,Nat.zero_add,Nat.reduceAdd]
     rw [e23,e24]
     have xo:=(HX.out W hI.1).2
     have xf:=hI.1.freeO j
     have HA:=Lib.hid (And.intro (HN.out W hI.1) (hI.2.set (foot_o j) (.string (X ++ Y))))
     clear e23 e24 hg hd hb hI k0 k1 HN HX hr
     go_upto_region 15 with fail
     generalize W.setCell (ao.add j) (.string (X ++ Y)) = W2 at HA ⊢
     clear xo xf
     have ln2:j < (⟨upd D.on (j + 1) (tearF D ps),upd D.new j (fun _=>nil0),D.left,D.down⟩:Dev).new.length:=by show j < (upd _ _ _).length;rw [upd_len];omega
     have k1:=HA.out.1.cel.cell (i:=1) rfl
     have e2:(⟨upd D.on (j + 1) (tearF D ps),upd D.new j (fun _=>nil0),D.left,D.down⟩:Dev).new.length = D.on.length:=(upd_len _ _ _).trans hlen
     rw [e2] at k1
     obtain ⟨y,xo⟩:∃ y,W2.cell? (an.add j) = some (.string y):=⟨_,HA.out.1.readN ln2⟩
     have xf:=HA.out.1.freeN j
     have HA2:=Lib.hid (show RAt (W2.setCell (an.add j) (.string nil0)) g ao an co cn so sn (part D (j + 1) (tearF D ps) D.left D.down) ∧ Fr (RFoot g ao an) (RFoot g ao an) w (W2.setCell (an.add j) (.string nil0)) from by
      refine ⟨?_,HA.out.2.set (foot_n j) _⟩
      have:=HA.out.1.setN ln2 nil0
      have e:(upd D.new j (fun _=>nil0)).set j nil0 = upd D.new (j + 1) (fun _=>nil0):=upd_set hlt2 rfl
      simp only at this
      rw [e] at this
      exact this)
     unfold nil0 at HA2
     clear HA e2 ln2
     go_upto_region 3 with fail
     generalize W2.setCell (an.add j) (.string ⟨#[]⟩) = W3 at HA2 ⊢
     clear xo xf k1
     go_wp2_with fail
     go_roundw
     case rel=>exact ⟨j + 1,by omega,by rw [HC.out];rfl,by go_num,HA2.out⟩
     case measure=>simp [intOf];omega
  ·obtain rfl:j = D.on.length:=by omega
   have HN:=Lib.hid (hr.out.1.setLeft 0)
   have HF:=Lib.hid (hr.out.2.set (p:=⟨g,2,none⟩) foot_g (.int .i64 0))
   have kq:=fun i=>hr.out.1.cel.free (i:=i)
   have k2:=hr.out.1.cel.cell (i:=2) rfl
   clear hr lo ln
   go_upto_region 17 with fail
   have e0:(Value.int .i64 ((0:Nat):Int)) = .int .i64 0:=rfl
   rw [e0] at HN
   generalize wr.setCell ⟨g,2,none⟩ (.int .i64 0) = W2 at HN HF ⊢
   clear kq k2 k0 k1 e0
   have HN2:=Lib.hid (HN.out.setDown false)
   have HF2:=Lib.hid (HF.out.set (p:=⟨g,3,none⟩) foot_g (.bool false))
   have kq:=fun i=>HN.out.cel.free (i:=i)
   have k3:=HN.out.cel.cell (i:=3) rfl
   clear HN HF
   go_wp2_with fail
   refine bodyPost_end (results_none rfl _ _ _) rfl ?_
   exact ⟨rfl,HN2.out,HF2.out⟩
end
end Sc
end Go.Proofs.YtmidncclndongaaGreat
namespace Go.Proofs.YtmidncclndongaaGreat
namespace Bk
open Go.RowKit
def GrK (T:TypeId) (r:Option Nat) (pre:List Value) (u:Value) (W W':World):Prop :=
 Below W.heap.size W W' ∨ ∃ (g:Nat) (cur:Array Value),r = some g ∧ W.heap[g]? = some (.cells cur T (0,0)) ∧ pre.length + 1 ≤ cur.size ∧ cur.toList.take pre.length = pre ∧ W' = W.setRow g (pre ++ [u] ++ cur.toList.drop (pre.length + 1)).toArray
section
variable {T:TypeId} {r:Option Nat} {pre:List Value} {u:Value} {w W W':World}
theorem GrK.grown (h:GrK T r pre u W W'):W.grownBy W' r:=by
 rcases h with h | ⟨g,cur,rfl,_,_,_,rfl⟩
 ·exact ⟨h.os,h.tape,h.output,h.size,fun k hk _=>h.block k hk⟩
 ·exact ⟨rfl,rfl,rfl,by simp,fun k _ hk=>setRow_other W g k _ (fun e=>hk (by rw [e]))⟩
theorem GrK.size (h:GrK T r pre u W W'):W.heap.size ≤ W'.heap.size:=h.grown.size
theorem GrK.below {X:Nat} (h:Below X w W) (hX:X ≤ W.heap.size) (hr:∀ g,r = some g → X ≤ g) (hk:GrK T r pre u W W'):Below X w W':=h.grown hk.grown hX hr
theorem GrK.cel {k:Nat} {t:TypeId} {xs:List Value} (h:Cel W k t xs) (hn:r ≠ some k) (hk:GrK T r pre u W W'):Cel W' k t xs:=(hk.grown.block k h.lt (fun e=>hn e.symm)).trans h
theorem GrK.blk {k:Nat} {o:Obj} (h:W.heap[k]? = some o) (hn:r ≠ some k) (hk:GrK T r pre u W W'):W'.heap[k]? = some o:=(hk.grown.block k (Array.getElem?_eq_some_iff.1 h).1 (fun e=>hn e.symm)).trans h
theorem GrK.first {H n:Nat} {v:Value} (h:W.ownsRow H T 1 v n pre) (hk:GrK T r pre u W W'):W'.ownsRow H T 1 v n pre:=by
 rcases hk with hb | ⟨g,cur,rfl,hg,hz,ht,rfl⟩
 ·exact st_keep h hb
 ·refine ⟨h.1,?_⟩
  rcases h.2 with h' | ⟨g2,cap2,cur2,hv,hH,hg2,h1,h2,h3,h4⟩
  ·exact .inl h'
  ·right
   by_cases e:g2 = g
   ·subst e
    rw [hg] at hg2
    simp only [Option.some.injEq,Obj.cells.injEq,and_true] at hg2
    obtain rfl:=hg2
    refine ⟨g2,cap2,_,hv,hH,setRow_heap W g2 _ _ T _ hg,h1,h2,?_,?_⟩
    ·rw [← h3]
     simp only [List.size_toArray,List.length_append,List.length_drop,Array.length_toList,List.length_singleton]
     omega
    ·rw [List.toList_toArray,List.append_assoc]
     have hl:pre.length = n * 1:=h.1
     rw [List.take_append_of_le_length (by omega),List.take_of_length_le (by omega)]
   ·exact ⟨g2,cap2,cur2,hv,hH,(setRow_other W g g2 _ e).trans hg2,h1,h2,h3,h4⟩
theorem GrK.more {H n:Nat} {v:Value} (h:W.ownsRow H T 1 v n (pre ++ [u])) (hk:GrK T r pre u W W'):W'.ownsRow H T 1 v n (pre ++ [u]):=by
 rcases hk with hb | ⟨g,cur,rfl,hg,hz,ht,rfl⟩
 ·exact st_keep h hb
 ·refine ⟨h.1,?_⟩
  rcases h.2 with h' | ⟨g2,cap2,cur2,hv,hH,hg2,h1,h2,h3,h4⟩
  ·exact .inl h'
  ·right
   by_cases e:g2 = g
   ·subst e
    rw [hg] at hg2
    simp only [Option.some.injEq,Obj.cells.injEq,and_true] at hg2
    obtain rfl:=hg2
    refine ⟨g2,cap2,_,hv,hH,setRow_heap W g2 _ _ T _ hg,h1,h2,?_,?_⟩
    ·rw [← h3]
     simp only [List.size_toArray,List.length_append,List.length_drop,Array.length_toList,List.length_singleton]
     omega
    ·rw [List.toList_toArray]
     have hl:(pre ++ [u]).length = n * 1:=h.1
     rw [List.take_append_of_le_length (by omega),List.take_of_length_le (by omega)]
   ·exact ⟨g2,cap2,cur2,hv,hH,(setRow_other W g g2 _ e).trans hg2,h1,h2,h3,h4⟩
theorem grown_none (h:W.grownBy W' none):Below W.heap.size W W':=⟨h.os,h.tape,h.output,h.size,fun k hk=>h.block k hk (by simp)⟩
theorem run_grow1 {P:Program} {H bytes o:Nat} {t ty:TypeId} {i:TypeInfo} {z v:Value} (ht:P.underlying t = some (.slice T)) (hi:P.info? T = some i) (hz:i.zero = some z) (hsize:i.size = 1) (hby:i.bytes = bytes) (hzs:z.cells.size = 1)
  (hown:W.ownsRow H T 1 v pre.length pre) (hr:r = v.ownBlock) (ho:W.heap[o]? = some (.cells #[u] T (0,0))) (h1:u.oneCell' = true)
  (h63:pre.length + 1 ≤ maxLen) (hbytes:(pre.length + 1) * bytes ≤ 140737488355328) (hbase:H ≤ W.heap.size) :
  ∃ v' W',(Builtin.append_ #[t,t] ty #[v,.slice (some ⟨o,0,none⟩) 1 1]).run P W = .ok v' W' ∧ W'.ownsRow H T 1 v' (pre.length + 1) (pre ++ [u]) ∧ GrK T r pre u W W' ∧ (v'.ownBlock = r ∨ v'.ownBlock = some W.heap.size):=by
 subst hr
 obtain ⟨v',w',hrun,h2,h3,_,h5⟩:=run_append_own_at (P:=P) W H t ty T i z 1 bytes ht hi hz hsize hby hzs (by decide) v pre.length pre hown ⟨o,0,none⟩ 1 1 [u] rfl (str_one ho) (fun q hq=>by simp at hq;subst hq;exact h1) h63 hbytes hbase
 refine ⟨v',w',hrun,h2,?_,h5⟩
 rcases hown.2 with ⟨h',h''⟩ | ⟨g,cap,cur,hv,hbg,hg,hnc,hcm,hcs,htake⟩
 ·subst h'
  exact .inl (grown_none h3)
 ·subst hv
  by_cases hroom:pre.length + 1 ≤ cap
  ·have hr2:=run_append_room (P:=P) W t ty T i ht hi g pre.length cap cur hg ⟨o,0,none⟩ 1 1 [u] (by rw [hsize];rfl) (str_one ho) (fun q hq=>by simp at hq;subst hq;exact h1) hroom (by rw [hsize];simp;omega)
   rw [hrun] at hr2
   simp only [Result.ok.injEq] at hr2
   refine .inr ⟨g,cur,rfl,hg,by omega,by rw [Nat.mul_one] at htake;exact htake,?_⟩
   rw [hr2.2,hsize,Nat.mul_one]
   rw [Nat.mul_one] at htake
   rw [htake];rfl
  ·have hr2:=run_append_grow (P:=P) W t ty T i z ht hi hz ⟨g,0,none⟩ pre.length cap pre (by rw [hsize,Nat.mul_one]) (hown.cells (g:=g) rfl) ⟨o,0,none⟩ 1 1 [u] (by rw [hsize];rfl) (str_one ho) (by omega) (by unfold maxLen at h63;omega) (growslice_fits (by unfold maxLen at h63;omega) (by rw [hby];exact hbytes))
   rw [hrun] at hr2
   simp only [Result.ok.injEq] at hr2
   left
   rw [hr2.2]
   exact (Below.refl _ W).drew.alloc (by simp) _
theorem satK_of {K:World → World → Prop} {L:List (Value → World → Prop)} (h:∀ S ∈ L,∀ v W W',S v W → K W W' → S v W'):∀ i v W W',satK L i v W → K W W' → satK L i v W':=fun i v W W' hs hk=>by
 unfold satK at hs ⊢
 rw [List.getD_eq_getElem?_getD] at hs ⊢
 cases e:L[i]? with
 | none=>trivial
 | some S =>
  rw [e] at hs
  exact h S (List.mem_of_getElem? e) v W W' hs hk
end
end Bk
end Go.Proofs.YtmidncclndongaaGreat
namespace Go.Proofs.YtmidncclndongaaGreat
namespace Sc
open Go.RowKit Bk
attribute [local go_sem ↓] Go.wp_at_zero Go.wp_at_succ
attribute [local go_sem] floatUpon pick
structure MkEnv (w W:World) (X g:Nat) (v1 v2:Value) (l1 l2:List ByteArray):Prop where
 cel:Cel W g 56 [v1,v2,.int .i64 0,.bool false]
 r0:W.ownsRow X 9 1 v1 l1.length (strV l1)
 r1:W.ownsRow X 9 1 v2 l2.length (strV l2)
 d:Unlike v1 v2
 n0:v1.ownBlock ≠ some g
 n1:v2.ownBlock ≠ some g
 gx:X ≤ g
 bel:Below X w W
theorem MkEnv.lt {w W:World} {X g:Nat} {v1 v2:Value} {l1 l2:List ByteArray} (h:MkEnv w W X g v1 v2 l1 l2):X ≤ W.heap.size:=Nat.le_of_lt (Nat.lt_of_le_of_lt h.gx h.cel.lt)
theorem MkEnv.step {w W W':World} {X g:Nat} {v1 v2:Value} {l1 l2:List ByteArray} (h:MkEnv w W X g v1 v2 l1 l2) (hb:Below W.heap.size W W'):MkEnv w W' X g v1 v2 l1 l2 :=
 ⟨h.cel.below hb,st_keep h.r0 hb,st_keep h.r1 hb,h.d,h.n0,h.n1,h.gx,h.bel.trans (hb.mono h.lt)⟩
theorem own_ne {W:World} {v v':Value} {g:Nat} (hn:v.ownBlock ≠ some g) (hg:g < W.heap.size) (hat:v'.ownBlock = v.ownBlock ∨ v'.ownBlock = some W.heap.size):v'.ownBlock ≠ some g:=by
 rcases hat with h | h
 ·rw [h];exact hn
 ·rw [h];intro e;simp only [Option.some.injEq] at e;omega
theorem MkEnv.grow2 {w W W1:World} {X g n':Nat} {v1 v2 v':Value} {l1 l2 l2':List ByteArray} (h:MkEnv w W X g v1 v2 l1 l2) (ho:W1.ownsRow X 9 1 v' n' (strV l2')) (hl:n' = l2'.length) (hg:W.grownBy W1 v2.ownBlock) (hat:v'.ownBlock = v2.ownBlock ∨ v'.ownBlock = some W.heap.size) :
  Cel W1 g 56 [v1,v2,.int .i64 0,.bool false] ∧ MkEnv w (W1.setCell ⟨g,1,none⟩ v') X g v1 v' l1 l2':=by
 subst hl
 have hc:Cel W1 g 56 [v1,v2,.int .i64 0,.bool false]:=(hg.block g h.cel.lt (fun e=>h.n1 e.symm)).trans h.cel
 have h2:=h.r0.kept hg h.d.ne
 have hn:=own_ne h.n1 h.cel.lt hat
 exact ⟨hc,hc.set,ownsRow_setCell_other h2 h.n0 _,ownsRow_setCell_other ho hn _,h.d.next (fun j hj=>(h.r0.lt j hj).2) hat (Nat.le_refl _),h.n0,hn,h.gx,(h.bel.grown hg h.lt (fun k hk=>(h.r1.lt k hk).1)).setCell h.gx _⟩
theorem own_cel {w:World} {H n:Nat} {e:TypeId} {v:Value} {l:List ByteArray} (h:w.ownsRow H e 1 v n (strV l)) (hn:n = l.length) (h0:0 < n):∃ b cap sp,v = .slice (some ⟨b,0,none⟩) n cap ∧ Cel w b e (strV l ++ sp) ∧ H ≤ b:=by
 rcases h.2 with ⟨h1,h2⟩ | ⟨g,cap,cur,h1,hH,hg,_,_,hcs,htake⟩
 ·omega
 ·refine ⟨g,cap,cur.toList.drop (n * 1),h1,?_,hH⟩
  have:cur = (strV l ++ cur.toList.drop (n * 1)).toArray:=by
   rw [← htake,List.take_append_drop]
  unfold Cel
  rw [← this];exact hg
theorem MkEnv.done {w W:World} {g n:Nat} {v1 v2:Value} (h:MkEnv w W g g v1 v2 (List.replicate n zero64) (List.replicate n nil0)) (hn:0 < n) :
  ∃ (ao an:Addr) (co cn:Nat) (so sn:List Value),RAt W g ao an co cn so sn (new0 n) ∧ (∀ k,RFoot g ao an k → g ≤ k):=by
 obtain ⟨b,c1,s1,e1,hc1,hb1⟩:=own_cel h.r0 rfl (by simpa using hn)
 obtain ⟨b2,c2,s2,e2,hc2,hb2⟩:=own_cel h.r1 rfl (by simpa using hn)
 have hc:=h.cel
 have d1:=h.n0
 have d2:=h.n1
 have d3:=h.d
 rw [e1] at hc d1 d3
 rw [e2] at hc d2 d3
 refine ⟨⟨b,0,none⟩,⟨b2,0,none⟩,c1,c2,s1,s2,⟨hc,rfl,rfl,hc1,hc2,fun e=>d1 (by rw [e];rfl),fun e=>d2 (by rw [e];rfl),fun e=>d3 b rfl (by
  have e':b = b2:=e
  rw [e'];rfl)⟩,fun k hk=>?_⟩
 rcases hk with rfl | rfl | rfl
 ·exact Nat.le_refl _
 ·exact hb1
 ·exact hb2
theorem MkEnv.grK {w W W':World} {X g:Nat} {v1 v2:Value} {l1 l2:List ByteArray} {u:Value} (h:MkEnv w W X g v1 v2 l1 l2) (hk:GrK 9 v1.ownBlock (strV l1) u W W'):MkEnv w W' X g v1 v2 l1 l2 :=
 ⟨GrK.cel h.cel h.n0 hk,GrK.first h.r0 hk,h.r1.kept hk.grown h.d.symm.ne,h.d,h.n0,h.n1,h.gx,GrK.below h.bel h.lt (fun k hk=>(h.r0.lt k hk).1) hk⟩
def TIs (u v:Value) (_:World):Prop:=v = u
def TArr (t:TypeId) (r:Option Nat) (u v:Value) (W:World):Prop:=∃ o,v = .slice (some ⟨o,0,none⟩) 1 1 ∧ W.heap[o]? = some (.cells #[u] t (0,0)) ∧ r ≠ some o
def TRow (t:TypeId) (X b:Nat) (r:Option Nat) (n:Nat) (xs:List Value) (v:Value) (W:World):Prop:=W.ownsRow X t 1 v n xs ∧ (v.ownBlock = r ∨ ∃ p,v.ownBlock = some p ∧ b ≤ p)
def MakeAns (n:Int) (w:World):Ending → World → Prop:=fun e w' =>
 (1 ≤ n ∧ n ≤ 2048 ∧ ∃ (g:Nat) (ao an:Addr) (co cn:Nat) (so sn:List Value),e = .returned (.tuple #[.pointer (some ⟨g,0,none⟩),.int .i64 0]) ∧ RAt w' g ao an co cn so sn (new0 n.toNat) ∧ (∀ k,RFoot g ao an k → w.heap.size ≤ k) ∧ Below w.heap.size w w') ∨
 (¬ (1 ≤ n ∧ n ≤ 2048) ∧ e = .returned (.tuple #[.pointer none,.int .i64 1]) ∧ w' = w)
theorem rmake_any (n:Int) (w:World):Calls Tryz.prog 10 #[.int .i64 n] w (MakeAns n w):=by
 by_cases h0:n < 1
 ·have HMk:Hid (MakeAns n w (.returned (.tuple #[.pointer none,.int .i64 1])) w):=Lib.hid (.inr ⟨by omega,rfl,rfl⟩)
  go_enter Tryz.func10,Tryz.ntmps10
  go_wp2_with fail
  go_ret2
  exact HMk.out
 by_cases h1:2048 < n
 ·have HMk:Hid (MakeAns n w (.returned (.tuple #[.pointer none,.int .i64 1])) w):=Lib.hid (.inr ⟨by omega,rfl,rfl⟩)
  go_enter Tryz.func10,Tryz.ntmps10
  go_wp2_with fail
  go_ret2
  exact HMk.out
 obtain ⟨m,rfl⟩:∃ m:Nat,n = (m:Int):=⟨n.toNat,by omega⟩
 obtain ⟨i0,hi,hz0,hz1,hz2⟩:=info_parts Tryz.infoStr
 have HNo:=Lib.hid (fun W=>none_any W)
 have HMk:Hid (∀ w' v1 v2,MkEnv w w' w.heap.size w.heap.size v1 v2 (List.replicate m zero64) (List.replicate m nil0) → MakeAns (m:Int) w (.returned (.tuple #[.pointer (some ⟨w.heap.size,0,none⟩),.int .i64 0])) w'):=Lib.hid (fun w' v1 v2 h=>by
  obtain ⟨ao,an,co,cn,so,sn,hr,hf⟩:=h.done (by omega)
  exact .inl ⟨by omega,by omega,w.heap.size,ao,an,co,cn,so,sn,rfl,by rw [Int.toNat_natCast];exact hr,hf,h.bel⟩)
 have pm:(m:Int) ≤ 2048:=by omega
 have hE0:MkEnv w (w.alloc (.cells #[.slice none 0 0,.slice none 0 0,.int .i64 0,.bool false] 56)) w.heap.size w.heap.size (.slice none 0 0) (.slice none 0 0) (List.replicate 0 zero64) (List.replicate 0 nil0) :=
  ⟨(blk1 w _).2,World.ownsRow_nil _ _ _ _,World.ownsRow_nil _ _ _ _,fun j h=>by simp [Value.ownBlock] at h,by simp [Value.ownBlock],by simp [Value.ownBlock],Nat.le_refl _,(Below.refl _ w).alloc (Nat.le_refl _) _⟩
 have HE0:=Lib.hid hE0
 clear hE0
 go_enter Tryz.func10,Tryz.ntmps10
 go_upto_region 4 with fail
 generalize w.alloc (.cells #[.slice none 0 0,.slice none 0 0,.int .i64 0,.bool false] 56) = W1 at HE0 ⊢
 generalize w.heap.size = g at HE0 HMk ⊢
 go_wp2_with fail
 go_loopw [5] (fun i wr=>∃ (j:Nat) (v1 v2:Value),j ≤ m ∧ i = .int .i64 (j:Int) ∧ Hid (MkEnv w wr g g v1 v2 (List.replicate j zero64) (List.replicate j nil0))) (fun i _=>m - (intOf i).toNat)
 case atStart=>exact ⟨0,_,_,by omega,rfl,HE0.out⟩
 case round =>
  obtain ⟨j,v1,v2,hj,rfl,hr⟩:=hrel
  clear HE0
  by_cases hlt:j < m
  ·have pj:(j:Int) < (m:Int):=by omega
   go_upto_region 7 with fail
   have hl1:(List.replicate j zero64).length = j:=List.length_replicate ..
   have hl2:(List.replicate j nil0).length = j:=List.length_replicate ..
   have hs1:strV (List.replicate (j + 1) zero64) = strV (List.replicate j zero64) ++ [.string zero64]:=by
    rw [List.replicate_succ'];unfold strV;rw [List.map_append];rfl
   have hs2:strV (List.replicate (j + 1) nil0) = strV (List.replicate j nil0) ++ [.string nil0]:=by
    rw [List.replicate_succ'];unfold strV;rw [List.map_append];rfl
   have hpre:(strV (List.replicate j zero64)).length = j:=by rw [strV_len,hl1]
   have HS:=Lib.hid (And.intro hs1 hs2)
   have HL:=Lib.hid (And.intro hl1 (And.intro hl2 hpre))
   clear hs1 hs2 hl1 hl2 hpre
   generalize hbs:wr.heap.size = bs
   have HBs:=Lib.hid hbs
   clear hbs
   refine wp_region_saidK 8 [19,20,21,22,23,24,25,26]
    [TIs (.pointer (some ⟨g,0,none⟩)),TIs (.pointer (some ⟨g,0,none⟩)),TIs (.pointer (some ⟨g,0,none⟩)),TIs (.pointer (some ⟨g,0,none⟩)),TIs v1,TIs (.string zero64),TArr 9 v1.ownBlock (.string zero64),TRow 9 g bs v1.ownBlock (j + 1) (strV (List.replicate j zero64) ++ [.string zero64])]
    (fun W=>MkEnv w W g g v1 v2 (List.replicate j zero64) (List.replicate j nil0) ∧ bs ≤ W.heap.size) (GrK 9 v1.ownBlock (strV (List.replicate j zero64)) (.string zero64)) (by kernel_rfl) (by kernel_rfl) (by kernel_rfl) (by kernel_rfl) (by kernel_rfl)
    (satK_of fun S hS v W W' h hk=>by
     simp only [List.mem_cons,List.not_mem_nil,or_false] at hS
     rcases hS with rfl | rfl | rfl | rfl | rfl | rfl | rfl | rfl
     ·exact h
     ·exact h
     ·exact h
     ·exact h
     ·exact h
     ·exact h
     ·obtain ⟨o,h1,h2,h3⟩:=h
      exact ⟨o,h1,GrK.blk h2 h3 hk,h3⟩
     ·exact ⟨GrK.more h.1 hk,h.2⟩)
    (fun W W' h hk=>⟨h.1.grK hk,Nat.le_trans h.2 hk.size⟩) (fun W=>.inl (Below.refl _ W).drew) ⟨hr.out,Nat.le_of_eq HBs.out.symm⟩ ?steps7 ?last7
   case steps7 =>
    simp only [List.take_succ_cons,List.take_zero]
    refine ⟨?_,?_,?_,?_,?_,?_,?_,?_,trivial⟩
    all_goals
     intro vs W ρ hρ hc hf hg hI hd R' hR
     have z0:=hI.1.cel.cell (i:=0) rfl
     have HR:=Lib.hid hR
     have HI:=Lib.hid hI
     simp [depsOf,Region.binds,satK,TIs] at hd
     clear hR hI
    case refine_7 =>
     go_simp
     refine HR.out _ _ ⟨W.heap.size,rfl,heap_alloc_new W _,fun e=>?_⟩ (.inl ((Below.refl _ _).alloc (Nat.le_refl _) _))
     have:=(HI.out.1.r0.lt _ e).2
     omega
    case refine_8 =>
     obtain ⟨hd1,⟨o,hd2,hd3,hd4⟩,hd5⟩:=hd
     have hr0:=HI.out.1.r0
     have hpre:=HL.out.2.2
     rw [show (List.replicate j zero64).length = (strV (List.replicate j zero64)).length from by rw [HL.out.1,hpre]] at hr0
     obtain ⟨v',w',hrun,h2,h3,h4⟩:=run_grow1 (P:=Tryz.prog) (bytes:=16) (t:=36) (ty:=36) Tryz.underlying36 hi hz0 hz1 hz2 rfl hr0 rfl hd3 rfl (by rw [hpre];unfold maxLen;omega) (by rw [hpre];omega) HI.out.1.lt
     have e0:ρ (.tmp 23) = v1:=by rw [hρ];simp [pick,hd1]
     have e2:ρ (.tmp 25) = .slice (some ⟨o,0,none⟩) 1 1:=by rw [hρ];simp [pick,hd2]
     rw [if_pos (by simp [Region.wanted])]
     unfold execOp
     simp only [resolve,invoke,builtin,Sem.run_bind,Sem.run_pure,Result.andThen_ok,List.map_toArray,List.map_cons,List.map_nil,e0,e2,hrun,floatUpon]
     refine HR.out _ _ ⟨by rw [hpre] at h2;exact h2,?_⟩ h3
     rcases h4 with h | h
     ·exact .inl h
     ·exact .inr ⟨_,h,HI.out.2⟩
    all_goals
     go_simp
     first
      | exact HR.out _ _ (by simp [satK,TIs]) (.inl (Below.refl _ _))
      | (refine (HNo.out _).mono ?_;rintro e w' ⟨rfl,hb⟩;exact ⟨_,rfl,HR.out _ _ (by simp [satK,TIs]) (.inl hb)⟩)
      | trace_state
   case last7 =>
    intro vs W hI hg
    have e0:=hg 0 (by omega)
    have e7:=hg 7 (by omega)
    simp only [satK,TIs,List.getD_cons_succ,List.getD_cons_zero] at e0 e7
    simp only [List.take_succ_cons,List.take_zero,List.drop_succ_cons,List.drop_zero,putAll,Act.put,List.setIfInBounds_toArray,List.set_cons_succ,List.set_cons_zero,Nat.zero_add,Nat.reduceAdd]
    obtain ⟨hown',hat⟩:=e7
    rw [e0]
    rw [← HS.out.1] at hown'
    obtain ⟨gw,cw,hvv,_,_⟩:=World.ownsRow.form hown' (by omega)
    have hf1:=hI.1.cel.cell (i:=0) rfl
    have hf2:=hI.1.cel.free (i:=0)
    have hgl:g < bs:=by have h1:=hr.out.cel.lt;have h2:=HBs.out;omega
    have HE:Hid (MkEnv w (W.setCell ⟨g,0,none⟩ (vs 7)) g g (vs 7) v2 (List.replicate (j + 1) zero64) (List.replicate j nil0)):=Lib.hid (by
     have hn:(vs 7).ownBlock ≠ some g:=by
      rcases hat with h | ⟨p,h,hp⟩
      ·rw [h];exact hI.1.n0
      ·rw [h];intro e;simp only [Option.some.injEq] at e;omega
     refine ⟨hI.1.cel.set,?_,ownsRow_setCell_other hI.1.r1 hI.1.n1 _,?_,hn,hI.1.n1,hI.1.gx,hI.1.bel.setCell hI.1.gx _⟩
     ·rw [List.length_replicate];exact ownsRow_setCell_other hown' hn _
     ·intro k hk1 hk2
      rcases hat with h | ⟨p,h,hp⟩
      ·rw [h] at hk1;exact hI.1.d k hk1 hk2
      ·rw [h] at hk1
       simp only [Option.some.injEq] at hk1
       have h1:=(hr.out.r1.lt k hk2).2
       have h2:=HBs.out
       omega)
    clear hown' hat hI hg e0 hr hgl
    rw [hvv] at HE ⊢
    clear hvv
    go_upto_region 8 with fail
    obtain ⟨u1,hu1⟩:∃ u,u = Value.slice (some ⟨gw,0,none⟩) (j + 1) cw:=⟨_,rfl⟩
    rw [← hu1] at HE ⊢
    generalize W.setCell ⟨g,0,none⟩ u1 = W2 at HE ⊢
    clear hf1 hf2 hu1
    have k1:=HE.out.cel.cell (i:=1) rfl
    have hr2:=HE.out.r1
    rw [HL.out.2.1] at hr2
    have HR2:=Lib.hid hr2
    clear hr2
    go_wp2_with (at_builtin;refine wpList_append_own_at _ rfl _ _ 36 rfl g 9 i0 (.string ⟨#[]⟩) 1 16 Tryz.underlying36 hi hz0 hz1 hz2 rfl (by decide) _ _ _ rfl (st_keep HR2.out ((Below.refl _ W2).alloc (Nat.le_refl _) _)) ⟨W2.heap.size,0,none⟩ 1 1 [.string ⟨#[]⟩] rfl rfl ?b1 ?b2 ?b3 ?b4 (Nat.le_trans HE.out.lt (by simp)) ?_)
    case b1=>exact str_one (heap_alloc_new _ _)
    case b2=>intro q hq;simp at hq;subst hq;rfl
    case b3=>unfold maxLen;omega
    case b4=>omega
    intro v2' w6 hown' hgrow _ hat
    have hS2:=HS.out.2
    unfold nil0 at hS2
    unfold nil0 at hown'
    rw [← hS2] at hown'
    obtain ⟨gw2,cw2,hvv,_,_⟩:=World.ownsRow.form hown' (by omega)
    have hst:=HE.out.step ((Below.refl _ W2).alloc (Nat.le_refl _) (.cells #[.string ⟨#[]⟩] 9))
    obtain ⟨hce,hme⟩:=MkEnv.grow2 (l2':=List.replicate (j + 1) nil0) hst hown' (by simp) hgrow (by rcases hat with h | h;exact .inl h;exact .inr (by rw [h];simp))
    have hf1:=hce.cell (i:=1) rfl
    have hf2:=hce.free (i:=1)
    have HE2:=Lib.hid hme
    subst hvv
    clear hown' hgrow hat hst hce hme HE HR2 k1 hS2
    go_upto_region 6 with fail
    obtain ⟨u2,hu2⟩:∃ u,u = Value.slice (some ⟨gw2,0,none⟩) (j + 1) cw2:=⟨_,rfl⟩
    rw [← hu2] at HE2 ⊢
    generalize w6.setCell ⟨g,1,none⟩ u2 = W3 at HE2 ⊢
    clear hf1 hf2 hu2
    go_wp2_with fail
    go_roundw
    case rel=>exact ⟨j + 1,u1,u2,by omega,by go_num,HE2.out⟩
    case measure=>simp [intOf];omega
  ·obtain rfl:j = m:=by omega
   have HE:=hr
   clear hr
   go_wp2_with fail
   go_ret2
   exact HMk.out _ _ _ HE.out
end Sc
end Go.Proofs.YtmidncclndongaaGreat
