/- Parts of the proof, joined: ScLand6, ScLand7, ScDoneB, RlDone, VtIdle; their conditions stand with each. -/
import Derived.Test.YtbkanoblcojdfaaGreatV7
import Derived.Test.YtbkanoblcojdfaaGreatV8
import Derived.Test.YtbkanoblcojdfaaGreatV9
import Derived.Test.YtbkanoblcojdfaaGreatV21
import Derived.Test.YtbkanoblcojdfaaGreatV27
import Derived.Test.YtbkanoblcojdfaaGreatV29

set_option maxRecDepth 20000
set_option maxHeartbeats 8000000
namespace Go.Proofs.YtbkanoblcojdfaaGreat
namespace Sc
open Go.RowKit Bk
attribute [local go_sem ↓] Go.wp_at_zero Go.wp_at_succ
attribute [local go_sem] floatUpon pick
theorem cnt_mono {new:List ByteArray} {i:Nat}:∀ {k:Nat},i ≤ k → k ≤ new.length → cnt new i ≤ cnt new k
 | 0,h,_=>by rw [show i = 0 by omega];exact Nat.le_refl _
 | k + 1,h,hk=>by
  rcases Nat.eq_or_lt_of_le h with e | e
  ·rw [e];exact Nat.le_refl _
  ·have h1:=cnt_mono (new:=new) (i:=i) (k:=k) (by omega) (by omega)
   rw [cnt_succ (show k < new.length by omega)]
   omega
theorem cnt_lt {new:List ByteArray} {i k:Nat} (h:i < k) (hk:k ≤ new.length) (hw:new.getD i nil0 ≠ nil0):cnt new i < cnt new k:=by
 have hi:i < new.length:=by omega
 have h1:=cnt_mono (new:=new) (i:=i + 1) (k:=k) (by omega) hk
 rw [cnt_succ hi,if_neg (by rw [← getD_at hi];exact hw)] at h1
 omega
def crF (D:Dev) (ps:List Int) (j i:Nat):ByteArray:=if cnt D.new i < j then tearF D ps i else D.on.getD i nil0
def crL (D:Dev) (ps:List Int) (j:Nat):List ByteArray:=(List.range D.on.length).map (crF D ps j)
theorem crL_len (D:Dev) (ps:List Int) (j:Nat):(crL D ps j).length = D.on.length:=by simp [crL]
theorem crL_64 {D:Dev} (hok:DevOk D) (ps:List Int) (j:Nat):∀ s ∈ crL D ps j,s.size = 64:=fun s hs=>by
 unfold crL at hs
 obtain ⟨i,hi,rfl⟩:=List.mem_map.1 hs
 rw [List.mem_range] at hi
 unfold crF
 split
 ·exact tear64 hok ps hi
 ·exact hok.on64 _ (getD_mem hi)
theorem crL_start (D:Dev) (ps:List Int):crL D ps 0 = D.on:=by
 refine List.ext_getElem (crL_len D ps 0) fun i h1 h2=>?_
 simp only [crL,List.getElem_map,List.getElem_range]
 unfold crF
 rw [if_neg (by omega),getD_at h2]
theorem tear_calm {D:Dev} {ps:List Int} {i:Nat} (h:D.new.getD i nil0 = nil0):tearF D ps i = D.on.getD i nil0:=by unfold tearF;rw [if_pos h]
theorem crL_end {D:Dev} (hok:DevOk D) (ps:List Int):crL D ps (cnt D.new D.new.length) = upd D.on D.on.length (tearF D ps):=by
 unfold crL upd
 refine List.map_congr_left fun i hi=>?_
 rw [List.mem_range] at hi
 rw [if_pos hi]
 unfold crF
 split
 ·rfl
 next h =>
  have hw:D.new.getD i nil0 = nil0:=Classical.byContradiction fun hw=>h (cnt_lt (by rw [hok.len];exact hi) (Nat.le_refl _) hw)
  rw [tear_calm hw]
theorem crL_at {D:Dev} {ps:List Int} {j i:Nat} (hi:i < D.on.length) (hc:cnt D.new i = j) (h:i < (crL D ps j).length):(crL D ps j)[i] = D.on[i]:=by
 simp only [crL,List.getElem_map,List.getElem_range]
 unfold crF
 rw [if_neg (by omega),getD_at hi]
theorem crL_step {D:Dev} (hok:DevOk D) {ps:List Int} {j i:Nat} (hi:i < D.on.length) (hw:D.new.getD i nil0 ≠ nil0) (hc:cnt D.new i = j) :
  (crL D ps j).set i (torn D.on[i] (D.new.getD i nil0) (ps.getD j 0)) = crL D ps (j + 1):=by
 have hl:=hok.len
 refine List.ext_getElem (by rw [List.length_set,crL_len,crL_len]) fun k h1 h2=>?_
 rw [crL_len] at h2
 rw [List.getElem_set]
 simp only [crL,List.getElem_map,List.getElem_range]
 unfold crF
 by_cases e:i = k
 ·subst e
  rw [if_pos rfl,if_pos (by omega)]
  unfold tearF
  rw [if_neg hw,getD_at hi,hc]
 ·rw [if_neg e]
  by_cases hk:cnt D.new k = j
  ·have hk2:D.new.getD k nil0 = nil0:=Classical.byContradiction fun hk2=>by
    rcases Nat.lt_or_gt_of_ne e with h3 | h3
    ·have:=cnt_lt (new:=D.new) h3 (by omega) hw;omega
    ·have:=cnt_lt (new:=D.new) h3 (by omega) hk2;omega
   rw [if_neg (by omega),if_pos (by omega),tear_calm hk2]
  ·by_cases h3:cnt D.new k < j
   ·rw [if_pos h3,if_pos (by omega)]
   ·rw [if_neg h3,if_neg (by omega)]
theorem copy_part {w:World} {a vb i m:Nat} {l:List ByteArray} {n:ByteArray} (ty:TypeId) (h:Cel w a 141 (onC l)) (h64:∀ s ∈ l,s.size = 64) (hi:i < l.length) (hv:Cel w vb 141 (secC n)) (hn:n.size = 64) (hm:m ≤ 64)
  (t:ByteArray) (ht:secC t = (secC n).take m ++ (secC l[i]).drop m) :
  (Builtin.copy_ #[142,142] ty #[.slice (some ⟨a,i * 64,none⟩) 64 64,.slice (some ⟨vb,0,none⟩) m 64]).run Tryz.prog w = .ok (goInt m) (w.setRow a (onC (l.set i t)).toArray):=by
 obtain ⟨i0,hi0,hz0,hz1,hz2⟩:=info_parts Bk.Tryz.infoU8
 have hinfo:(Tryz.prog.info? 5).map (·.size) = some 1:=by rw [hi0];simp [hz1]
 have hnl:(secC n).length = 64:=by rw [secC_len,hn]
 have hcl:((secC n).take m).length = m:=by rw [List.length_take,hnl];omega
 have hl:=onC_len h64
 have hrun:=run_copy_row Tryz.prog w 142 142 ty 5 a (i * 64) 64 64 ⟨vb,0,none⟩ m 64 (onC l).toArray 141 ((secC n).take m) Tryz.underlying142 hinfo h (by rw [hcl];exact (Nat.min_eq_left hm).symm)
  (fun j v hj=>by
   rw [addr_head]
   refine hv.cell ?_
   have:j < m:=by have:=(List.getElem?_eq_some_iff.1 hj).1;rw [hcl] at this;exact this
   rw [List.getElem?_take_of_lt this] at hj
   exact hj)
  (by rw [hcl,List.size_toArray,hl];omega) (fun v hv=>secC_one n v (List.mem_of_mem_take hv))
 rw [hrun,hcl,List.toList_toArray]
 rw [onC_over h64 hi hcl hm,← ht,← onC_set hi]
section
variable {w w':World} {g a b:Nat} {D:Dev}
theorem ints_row {W:World} {A:Option Addr} {l:List Int} (h:IntsAt W A l) {k:Nat} (hk:∀ ad,A = some ad → ad.block ≠ k) (c:Array Value):IntsAt (W.setRow k c) A l:=fun hp=>by
 obtain ⟨ad,h1,h2,h3⟩:=h hp
 refine ⟨ad,h1,by simpa using h2,fun i hi=>?_⟩
 have e:(W.setRow k c).heap[(ad.add i).block]? = W.heap[(ad.add i).block]?:=by rw [st_block];exact row_far c (hk ad h1)
 rw [show (W.setRow k c).cell? (ad.add i) = W.cell? (ad.add i) from by unfold World.cell?;rw [e]]
 exact h3 i hi
structure CrEnv (w W:World) (g a b:Nat) (A:Option Addr) (D:Dev) (ps:List Int) (j:Nat):Prop where
 d:LAt W g a b ⟨crL D ps j,D.new,D.left,D.down⟩
 f:Fr (LFoot g a b) (LFoot g a b) w W
 ks:IntsAt W A (dirtyK D.new D.new.length)
 an:∀ ad,A = some ad → w.heap.size ≤ ad.block
theorem CrEnv.step {W W':World} {A:Option Addr} {ps:List Int} {j:Nat} (h:CrEnv w W g a b A D ps j) (hb:Below W.heap.size W W'):CrEnv w W' g a b A D ps j :=
 ⟨h.d.step hb,h.f.below hb,h.ks.below hb,h.an⟩
theorem CrEnv.put {W:World} {A:Option Addr} {ps:List Int} {j i:Nat} (hok:DevOk D) (hw0:a < w.heap.size) (hi:i < D.on.length) (hw:D.new.getD i nil0 ≠ nil0) (hc:cnt D.new i = j) (h:CrEnv w W g a b A D ps j) {n:ByteArray} {p:Int} (hn:n = D.new.getD i nil0) (hp:p = ps.getD j 0) :
  CrEnv w (W.setRow a (onC ((crL D ps j).set i (torn D.on[i] n p))).toArray) g a b A D ps (j + 1):=by
 subst hn
 subst hp
 have hd:=h.d.setRow (l:=(crL D ps j).set i (torn D.on[i] (D.new.getD i nil0) (ps.getD j 0))) (by simp)
 refine ⟨?_,h.f.row (.inl lfoot_a) _,ints_row h.ks (fun ad had e=>by have:=h.an ad had;omega) _,h.an⟩
 rw [crL_step hok hi hw hc] at hd ⊢
 exact hd
structure CrMid (w W:World) (g a b vb:Nat) (A:Option Addr) (D:Dev) (ps:List Int) (j:Nat) (n:ByteArray):Prop where
 e:CrEnv w W g a b A D ps j
 c:Cel W vb 141 (secC n)
end
section
variable {w w':World} {g a b:Nat} {D:Dev}
theorem CrMid.step {W W':World} {vb:Nat} {A:Option Addr} {ps:List Int} {j:Nat} {n:ByteArray} (h:CrMid w W g a b vb A D ps j n) (hb:Below W.heap.size W W'):CrMid w W' g a b vb A D ps j n:=⟨h.e.step hb,h.c.below hb⟩
theorem lcrash_any (h:LAt w g a b D) (hok:DevOk D) (A:Option Addr) (c:Nat) (ps:List Int) (hp:IntsAt w A ps) (hpd:0 < ps.length → ∀ x,A = some x → ¬ LFoot g a b x.block) (hpl:ps.length ≤ 140737488351232) :
  Calls Tryz.prog 28 #[.pointer (some ⟨g,0,none⟩),.slice A ps.length c] w fun e w'=>e = .returned (.tuple #[]) ∧ LAt w' g a b (crD D ps) ∧ Fr (LFoot g a b) (LFoot g a b) w w':=by
 have k1:=h.cel.cell (i:=1) rfl
 have hmx:=hok.max
 have HSk:=Lib.hid (sorted_keys h.mp (by rw [hok.len];exact hmx))
 have hlt0:=Lib.hid (And.intro h.ro.lt h.mp.lt)
 have HPs:=Lib.hid (fun wr (hf:Fr (LFoot g a b) (LFoot g a b) w wr) (k:Nat) (hk:k < ps.length)=>show ∃ ad,A = some ad ∧ wr.cell? (ad.add k) = some (.int .i64 ps[k]) from by
  obtain ⟨ad,e,hb,hc⟩:=hp (by omega)
  refine ⟨ad,e,?_⟩
  have hkp:wr.heap[(ad.add k).block]? = w.heap[(ad.add k).block]?:=by rw [st_block];exact hf.block _ hb (hpd (by omega) ad e)
  rw [show wr.cell? (ad.add k) = w.cell? (ad.add k) from by unfold World.cell?;rw [hkp]]
  exact hc k hk)
 have H:=Lib.hid h
 have HOk:=Lib.hid hok
 have hzs:=zero_sec
 obtain ⟨Z,hZ⟩:∃ Z,Z = secC zero64:=⟨_,rfl⟩
 have hZl:Z.length = 64:=by rw [hZ,secC_len];rfl
 unfold secV at hzs
 rw [← hZ] at hzs
 have HZ:=Lib.hid hZl
 have hle:cnt D.new D.new.length ≤ 2048:=by have:=cnt_le D.new D.new.length;rw [hok.len] at this ⊢;omega
 clear h hok hp hpd hZ hZl
 go_enter Tryz.func28,Tryz.ntmps28
 go_wp2_with fail
 refine (keys_call _ _).mono ?_
 rintro e w1 ⟨rfl,rfl⟩
 go_wp2_with fail
 refine HSk.out.mono ?_
 rintro e w2 ⟨B,cB,rfl,hB,hBn,hb2⟩
 have HE0:Hid (CrEnv w w2 g a b B D ps 0):=Lib.hid (by
  refine ⟨?_,(Fr.refl _ w).below hb2,hB,hBn⟩
  rw [crL_start]
  exact H.out.step hb2)
 obtain ⟨N,hN⟩:∃ N,N = cnt D.new D.new.length:=⟨_,rfl⟩
 rw [← hN] at hle ⊢
 have HN:=Lib.hid hN
 clear hB hBn hb2 HSk k1 hN
 have pN:(N:Int) ≤ 2048:=by omega
 go_wp2_with fail
 go_loopw [4,5,6,7,15] (fun _ _ _ _ i wr=>∃ j:Nat,j ≤ N ∧ i = .int .i64 (j:Int) ∧ Hid (CrEnv w wr g a b B D ps j)) (fun _ _ _ _ i _=>N - (intOf i).toNat)
 case atStart=>exact ⟨0,by omega,rfl,HE0.out⟩
 case round =>
  obtain ⟨j,hj,rfl,hr⟩:=hrel
  clear HE0
  by_cases hlt:j < N
  ·have hlk:j < (dirtyK D.new D.new.length).length:=by rw [dirtyK_cnt (Nat.le_refl _),← HN.out];exact hlt
   obtain ⟨i,hx,hi,hw,hc⟩:=dirtyK_at (Nat.le_refl _) (List.getElem?_eq_getElem hlk)
   obtain ⟨bd,hBe,hbl,hcell⟩:=hr.out.ks (by omega)
   have xk:=hcell j hlk
   rw [hx] at xk
   subst hBe
   have hn:i < D.on.length:=by rw [← HOk.out.len];exact hi
   have hn64:=(HOk.out.new64 _ (getD_mem hi)).resolve_left hw
   have hsl:=slot_nat hi
   rw [if_neg hw] at hsl
   have k1:=hr.out.d.cel.cell (i:=1) rfl
   have hgl:=hr.out.d.cel.lt
   have pn:(i:Int) < (D.on.length:Int):=by omega
   have pj:(j:Int) < (N:Int):=by omega
   have hn48:(i:Int) ≤ 2048:=by omega
   have hlk1:=hr.out.d.mp.look1 (x:=(i:Int)) (by omega) (by omega) hsl
   obtain ⟨n,hnv⟩:∃ n,n = D.new.getD i nil0:=⟨_,rfl⟩
   rw [← hnv] at hn64 hlk1
   obtain ⟨p,hpv⟩:∃ p,p = ps.getD j 0:=⟨_,rfl⟩
   obtain ⟨m,hm⟩:∃ m,cutN p = m:=⟨_,rfl⟩
   have hm64:m ≤ 64:=by rw [← hm];exact cut_le p
   have pm:(m:Int) ≤ 64:=by omega
   have HRe:=Lib.hid (fun W=>by have:=reached_any p W;rw [hm] at this;exact this)
   have htc:=torn_cells (HOk.out.on64 _ (List.getElem_mem hn)) hn64 p
   rw [hm] at htc
   have hs1:=put_cells wr Z HZ.out hn64
   have hcl:(secC n).length = 64:=by rw [secC_len,hn64]
   unfold secV at hlk1
   have HM:Hid (CrMid w (wr.alloc (.cells (secC n).toArray 141)) g a b wr.heap.size (some bd) D ps j n):=Lib.hid
    ⟨hr.out.step ((Below.refl _ wr).alloc (Nat.le_refl _) _),heap_alloc_new wr _⟩
   have HI:=Lib.hid (And.intro hi (And.intro hw (And.intro hc (And.intro hn (And.intro hn64 (And.intro hnv (And.intro hpv (And.intro htc hm64))))))))
   have hP:=HPs.out wr hr.out.f
   clear hlk hx hi hw hc hn64 hnv htc hm64 hsl hcell hle
   obtain ⟨C1,hC⟩:∃ C1,secC n = C1:=⟨_,rfl⟩
   have HC:=Lib.hid hC
   rw [hC] at hs1 hlk1 hcl HM
   clear hC
   by_cases hk:j < ps.length
   case neg =>
    have hp0:p = 0:=by rw [hpv,List.getD_eq_getElem?_getD,List.getElem?_eq_none (by omega)];rfl
    have pk:(ps.length:Int) ≤ (j:Int):=by omega
    have hmv:m = 0:=by rw [← hm,hp0];rfl
    subst hp0
    clear hm hpv hk hP hmv
    go_upto_region 7 with fail
    generalize wr.alloc (.cells C1.toArray 141) = W1 at HM ⊢
    generalize wr.heap.size = vb at HM ⊢
    clear hs1 hlk1 hcl k1 hgl xk
    refine wp_region_said 10 [34,35,36,37,38,39,40,41,42,43]
     [.is (.pointer (some ⟨g,0,none⟩)),.is (.pointer (some ⟨g,0,none⟩)),.is (.pointer (some ⟨g,0,none⟩)),.is (.slice (some ⟨a,0,none⟩) D.on.length D.on.length),.is (.int .i64 (i:Int)),.is (.pointer (some ⟨a,i * 64,none⟩)),.is (.slice (some ⟨a,i * 64,none⟩) 64 64),.is (.int .i64 0),.is (.int .i64 (m:Int)),.is (.slice (some ⟨vb,0,none⟩) m 64)]
     (fun W=>CrMid w W g a b vb (some bd) D ps j n) (by kernel_rfl) (by kernel_rfl) (by kernel_rfl) (by kernel_rfl) (by kernel_rfl) (fun W W' h hb=>h.step hb) HM.out ?stepsa ?lasta
    case stepsa =>
     simp only [List.take_succ_cons,List.take_zero]
     refine ⟨?_,?_,?_,?_,?_,?_,?_,?_,?_,?_,trivial⟩
     all_goals
      intro vs W ρ hρ hc hf hg hI hH hd R' hR
      have z0:=hI.e.d.cel.cell (i:=0) rfl
      simp only [crL_len] at z0
      have HR:=Lib.hid hR
      simp [depsOf,Region.binds,sayAt,Say.holds] at hd
      clear hR hI
      go_simp
      first
       | exact HR.out _ _ (by simp [sayAt,Say.holds]) (Below.refl _ _) (by simp [sayAt,Say.isBlk])
       | (refine (HRe.out _).mono ?_;rintro e w' ⟨rfl,rfl⟩;exact ⟨_,rfl,HR.out _ _ (by simp [sayAt,Say.holds]) (Below.refl _ _) (by simp [sayAt,Say.isBlk])⟩)
       | trace_state
    case lasta =>
     intro vs W hI hb hg hd
     have e6:=hg 6 (by omega)
     have e9:=hg 9 (by omega)
     simp only [sayAt,Say.holds,List.getD_cons_succ,List.getD_cons_zero] at e6 e9
     simp only [List.take_succ_cons,List.take_zero,List.drop_succ_cons,List.drop_zero,putAll,Act.put,List.setIfInBounds_toArray,List.set_cons_succ,List.set_cons_zero,Nat.zero_add,Nat.reduceAdd]
     rw [e6,e9]
     have hcp:=fun ty=>copy_part ty hI.e.d.ro (crL_64 HOk.out ps j) (i:=i) (by rw [crL_len];exact HI.out.2.2.2.1) hI.c HI.out.2.2.2.2.1 HI.out.2.2.2.2.2.2.2.2 (torn D.on[i] n 0) (by
      rw [crL_at HI.out.2.2.2.1 HI.out.2.2.1];exact HI.out.2.2.2.2.2.2.2.1)
     have hA:=CrEnv.put HOk.out hlt0.out.1 HI.out.2.2.2.1 HI.out.2.1 HI.out.2.2.1 hI.e HI.out.2.2.2.2.2.1 HI.out.2.2.2.2.2.2.1
     have HA:=Lib.hid hA
     clear hA
     generalize W.setRow a (onC ((crL D ps j).set i (torn D.on[i] n 0))).toArray = W6 at HA hcp ⊢
     have wj:IntKind.i64.wrap ((j:Int) + 1) = (j:Int) + 1:=i64_wrap (by omega) (by omega)
     clear e6 e9 hg hd hb hI HM HC HI HRe
     go_wp2_with fail
     go_roundw
     case rel=>exact ⟨j + 1,by omega,by go_num,HA.out⟩
     case measure=>simp [intOf];omega
   case pos =>
    obtain ⟨ad,hAe,xp⟩:=hP j hk
    have hp1:ps[j] = p:=by rw [hpv,List.getD_eq_getElem?_getD,List.getElem?_eq_getElem hk];rfl
    rw [hp1] at xp
    have pk:(j:Int) < (ps.length:Int):=by omega
    subst hAe
    clear hm hpv hk hP hp1
    go_upto_region 7 with fail
    generalize wr.alloc (.cells C1.toArray 141) = W1 at HM ⊢
    generalize wr.heap.size = vb at HM ⊢
    clear hs1 hlk1 hcl k1 hgl xk
    refine wp_region_said 10 [34,35,36,37,38,39,40,41,42,43]
     [.is (.pointer (some ⟨g,0,none⟩)),.is (.pointer (some ⟨g,0,none⟩)),.is (.pointer (some ⟨g,0,none⟩)),.is (.slice (some ⟨a,0,none⟩) D.on.length D.on.length),.is (.int .i64 (i:Int)),.is (.pointer (some ⟨a,i * 64,none⟩)),.is (.slice (some ⟨a,i * 64,none⟩) 64 64),.is (.int .i64 p),.is (.int .i64 (m:Int)),.is (.slice (some ⟨vb,0,none⟩) m 64)]
     (fun W=>CrMid w W g a b vb (some bd) D ps j n) (by kernel_rfl) (by kernel_rfl) (by kernel_rfl) (by kernel_rfl) (by kernel_rfl) (fun W W' h hb=>h.step hb) HM.out ?stepsb ?lastb
    case stepsb =>
     simp only [List.take_succ_cons,List.take_zero]
     refine ⟨?_,?_,?_,?_,?_,?_,?_,?_,?_,?_,trivial⟩
     all_goals
      intro vs W ρ hρ hc hf hg hI hH hd R' hR
      have z0:=hI.e.d.cel.cell (i:=0) rfl
      simp only [crL_len] at z0
      have HR:=Lib.hid hR
      simp [depsOf,Region.binds,sayAt,Say.holds] at hd
      clear hR hI
      go_simp
      first
       | exact HR.out _ _ (by simp [sayAt,Say.holds]) (Below.refl _ _) (by simp [sayAt,Say.isBlk])
       | (refine (HRe.out _).mono ?_;rintro e w' ⟨rfl,rfl⟩;exact ⟨_,rfl,HR.out _ _ (by simp [sayAt,Say.holds]) (Below.refl _ _) (by simp [sayAt,Say.isBlk])⟩)
       | trace_state
    case lastb =>
     intro vs W hI hb hg hd
     have e6:=hg 6 (by omega)
     have e9:=hg 9 (by omega)
     simp only [sayAt,Say.holds,List.getD_cons_succ,List.getD_cons_zero] at e6 e9
     simp only [List.take_succ_cons,List.take_zero,List.drop_succ_cons,List.drop_zero,putAll,Act.put,List.setIfInBounds_toArray,List.set_cons_succ,List.set_cons_zero,Nat.zero_add,Nat.reduceAdd]
     rw [e6,e9]
     have hcp:=fun ty=>copy_part ty hI.e.d.ro (crL_64 HOk.out ps j) (i:=i) (by rw [crL_len];exact HI.out.2.2.2.1) hI.c HI.out.2.2.2.2.1 HI.out.2.2.2.2.2.2.2.2 (torn D.on[i] n p) (by
      rw [crL_at HI.out.2.2.2.1 HI.out.2.2.1];exact HI.out.2.2.2.2.2.2.2.1)
     have hA:=CrEnv.put HOk.out hlt0.out.1 HI.out.2.2.2.1 HI.out.2.1 HI.out.2.2.1 hI.e HI.out.2.2.2.2.2.1 HI.out.2.2.2.2.2.2.1
     have HA:=Lib.hid hA
     clear hA
     generalize W.setRow a (onC ((crL D ps j).set i (torn D.on[i] n p))).toArray = W6 at HA hcp ⊢
     have wj:IntKind.i64.wrap ((j:Int) + 1) = (j:Int) + 1:=i64_wrap (by omega) (by omega)
     clear e6 e9 hg hd hb hI HM HC HI HRe
     go_wp2_with fail
     go_roundw
     case rel=>exact ⟨j + 1,by omega,by go_num,HA.out⟩
     case measure=>simp [intOf];omega
  ·obtain rfl:j = N:=by omega
   have HR:=Lib.hid (lrestart_any hr.out.d D.on.length)
   have HF:=Lib.hid hr.out.f
   clear hr
   go_wp2_with fail
   refine HR.out.mono ?_
   rintro e w5 ⟨rfl,hb⟩
   have HB:=Lib.hid hb
   clear hb
   go_wp2_with fail
   refine bodyPost_end (results_none rfl _ _ _) rfl ?_
   refine ⟨rfl,?_,HF.out.trans HB.out.2⟩
   have e1:calm ⟨crL D ps j,D.new,D.left,D.down⟩ D.on.length = crD D ps:=by
    unfold calm crD
    rw [HN.out,crL_end HOk.out,← HOk.out.len,upd_all]
   rw [← e1]
   exact HB.out.1
end
end Sc
end Go.Proofs.YtbkanoblcojdfaaGreat
namespace Go.Proofs.YtbkanoblcojdfaaGreat
namespace Sc
open Go.RowKit Bk
theorem devBase:DevBase Rep where
 lt:=fun {W F g D} h=>by obtain ⟨a,b,rfl,h1,_⟩:=h;exact h1.lt
 ok:=fun {W F g D} h=>by obtain ⟨a,b,_,_,h2⟩:=h;exact h2
 kept:=fun {W W' F g D} h hk=>by obtain ⟨a,b,rfl,h1,h2⟩:=h;exact ⟨a,b,rfl,h1.kept hk,h2⟩
 new:=fun n w _=>lnew_any n w
 size:=fun {F g D} w h=>by
  obtain ⟨a,b,rfl,h1,h2⟩:=h
  refine (lsize_any h1).mono ?_
  rintro e w' ⟨rfl,rfl⟩
  exact ⟨rfl,_,⟨a,b,rfl,h1,h2⟩,Fr.refl _ _⟩
 read:=fun {F g D} i w h hi=>by
  obtain ⟨a,b,rfl,h1,h2⟩:=h
  refine (lread_any h1 h2 i hi).mono ?_
  rintro e w' ⟨rfl,hb⟩
  exact ⟨rfl,_,⟨a,b,rfl,h1.step hb,h2⟩,(Fr.refl _ _).below hb⟩
 write:=fun {F g D} i t w h hi _=>by
  obtain ⟨a,b,rfl,h1,h2⟩:=h
  refine (lwrite_any h1 h2 i hi t).mono ?_
  rintro e w' ⟨rfl,h3,h4⟩
  exact ⟨rfl,_,⟨a,b,rfl,h3,wrD_ok h2 i t⟩,h4⟩
 flush:=fun {F g D} w h=>by
  obtain ⟨a,b,rfl,h1,h2⟩:=h
  refine (lflush_any h1 h2).mono ?_
  rintro e w' ⟨rfl,h3,h4⟩
  exact ⟨rfl,_,⟨a,b,rfl,h3,flD_ok h2⟩,h4⟩
 fuse:=fun {F g D} n w h _=>by
  obtain ⟨a,b,rfl,h1,h2⟩:=h
  refine (lfuse_any h1 n).mono ?_
  rintro e w' ⟨rfl,h3,h4⟩
  exact ⟨rfl,_,⟨a,b,rfl,h3,fuD_ok h2 n⟩,h4⟩
 crash:=fun {F g D} A c ps w h hp hd hl _=>by
  obtain ⟨a,b,rfl,h1,h2⟩:=h
  refine (lcrash_any h1 h2 A c ps hp hd (by unfold reachBytes at hl;omega)).mono ?_
  rintro e w' ⟨rfl,h3,h4⟩
  exact ⟨rfl,_,⟨a,b,rfl,h3,crD_ok h2 ps⟩,h4⟩
end Sc
end Go.Proofs.YtbkanoblcojdfaaGreat
namespace Go.Proofs.YtbkanoblcojdfaaGreat
namespace Rd
open Go.RowKit Sc Bk
theorem devQ:DevQ Sc.Rep where
 lt:=fun h=>devBase.lt h
 ok:=fun h=>devBase.ok h
 kept:=fun h hk=>devBase.kept h hk
 size:=fun {F g D} w h=>by
  obtain ⟨a,b,rfl,h1,h2⟩:=h
  exact lsize_any h1
 read:=fun {F g D} i w h hi=>by
  obtain ⟨a,b,rfl,h1,h2⟩:=h
  exact lread_any h1 h2 i hi
theorem logF:LogF 73 123 125 186 138 Sc.Rep LRep where
 lt:=fun {W F p g n l} h=>by
  obtain ⟨A,B,rfl,h1⟩:=h
  exact h1.lt
 kept:=fun {W W' F p g n l} h hk=>by
  obtain ⟨A,B,rfl,h1⟩:=h
  exact ⟨A,B,rfl,h1.kept hk⟩
 opn:=fun {F g D} w h=>by
  refine (open_any repTxt devBase devQ h).mono ?_
  intro e w' hp
  exact hp
 app:=fun {F L g p D l} t w h hl hd hi _ ht=>by
  obtain ⟨A,B,rfl,h1⟩:=hl
  refine (append_any devQ h h1 hd hi t ht).mono ?_
  rintro e w' ⟨rfl,F',A',B',q1,q2,q3,q4⟩
  exact ⟨rfl,F',_,q1,⟨A',B',rfl,q2⟩,q3,q4⟩
 syn:=fun {F L g p D l} w h hl hd hi hu=>by
  obtain ⟨A,B,rfl,h1⟩:=hl
  refine (sync_any repTxt devBase devQ h h1 hd hi hu).mono ?_
  rintro e w' ⟨rfl,F',A',B',q1,q2,q3,q4⟩
  exact ⟨rfl,F',_,q1,⟨A',B',rfl,q2⟩,q3,q4⟩
 room:=fun {F L g p D l} w h hl hd hi _=>by
  obtain ⟨A,B,rfl,h1⟩:=hl
  refine (room_any devQ h h1 hi.ok).mono ?_
  rintro e w' ⟨rfl,hb⟩
  exact ⟨rfl,F,LFt p A B,devQ.step h hb,⟨A,B,rfl,h1.step hb⟩,hd,fr_refl_below hb⟩
 rst:=fun {F L g p D l} E cE ts w h hl hd hi hu hE hEn hEo hn hs hq=>by
  obtain ⟨A,B,rfl,h1⟩:=hl
  refine (restart_any repTxt devBase devQ h h1 hd hi hu E cE ts hE hEn hEo hn hs hq).mono ?_
  rintro e w' ⟨rfl,F',A',B',q1,q2,q3,q4⟩
  exact ⟨rfl,F',_,q1,⟨A',B',rfl,q2⟩,q3,q4⟩
end Rd
end Go.Proofs.YtbkanoblcojdfaaGreat
namespace Go.Proofs.YtbkanoblcojdfaaGreat
namespace Vt
open Rd Sc Rc
structure Wi (n : Nat) (D : Dev) (l : Lg) (N : Nat) : Prop where
  id : Idle D
  cl : Sc.Clean D
  ok : DevOk D
  len : D.on.length = n
  lg : LgIn D l
  cnt : l.cnt ≤ N
structure Vi (n : Nat) (D : Dev) (l : Lg) (s : Sh.Shf) (N : Nat) : Prop where
  w : Wi n D l N
  mn : l.mn = l.ts.length
  sh : shelfOf l.ts = some s
section
variable {n N M : Nat} {D : Dev} {l : Lg} {s : Sh.Shf}
theorem Wi.more (h : Wi n D l N) (hN : N ≤ M) : Wi n D l M := ⟨h.id, h.cl, h.ok, h.len, h.lg, Nat.le_trans h.cnt hN⟩
theorem Vi.more (h : Vi n D l s N) (hN : N ≤ M) : Vi n D l s M := ⟨h.w.more hN, h.mn, h.sh⟩
theorem shelf_nil : shelfOf [] = some Sh.empty := by
  unfold shelfOf
  exact if_pos ⟨(by intro t ht; cases ht), rfl⟩
theorem shelf_snoc {ts : List ByteArray} {r : Rec} (h : shelfOf ts = some s) (hr : (Sh.applyP s r).2 = 0) : shelfOf (ts ++ [recB r]) = some (Sh.applyP s r).1 := by
  have hd : Rc.decX (recB r) = (r, 0) := decX_bytes (apply_rec hr)
  unfold shelfOf at h ⊢
  split at h
  case isFalse => cases h
  next hc =>
    have hs := Option.some.inj h
    have hm : (ts ++ [recB r]).map (fun t => (Rc.decX t).1) = ts.map (fun t => (Rc.decX t).1) ++ [r] := by rw [List.map_append, List.map_cons, List.map_nil, hd]
    have hg : goE ((ts ++ [recB r]).map fun t => (Rc.decX t).1) Sh.empty = ((Sh.applyP s r).1, 0) := by
      rw [hm, goE_app, if_pos hc.2, hs]
      show (if (Sh.applyP s r).2 = 0 then _ else _) = _
      rw [if_pos hr]
      rfl
    rw [hg]
    refine if_pos ⟨fun t ht => ?_, rfl⟩
    rcases List.mem_append.1 ht with ht | ht
    · exact hc.1 t ht
    · rw [List.mem_singleton.1 ht, hd]
theorem shelf_of {rs : List Rec} (h : (goE rs Sh.empty).2 = 0) : shelfOf (rs.map recB) = some (goE rs Sh.empty).1 := by
  have hr := goE_recs rs h
  have hm : ∀ l : List Rec, (∀ r ∈ l, RecOk r) → (l.map recB).map (fun t => (Rc.decX t).1) = l := fun l => by
    induction l with
    | nil => intro _; rfl
    | cons r t ih =>
      intro hl
      rw [List.map_cons, List.map_cons, ih fun x hx => hl x (List.mem_cons_of_mem _ hx), show Rc.decX (recB r) = (r, 0) from decX_bytes (hl r (List.mem_cons_self ..))]
  unfold shelfOf
  rw [hm rs hr]
  refine if_pos ⟨fun t ht => ?_, h⟩
  obtain ⟨r, hr1, rfl⟩ := List.mem_map.1 ht
  rw [show Rc.decX (recB r) = (r, 0) from decX_bytes (hr r hr1)]
theorem app_vi (h : Wi n D l N) (t : ByteArray) :
    appendP D l t = (l, 2) ∨ appendP D l t = (l, 100) ∨ ∃ l1, appendP D l t = (l1, 0) ∧ Wi n D l1 N ∧ l1.ts = l.ts ++ [t] := by
  have hi := app_in h.ok h.lg t
  have hc := app_cnt D l t
  unfold appendP at hi hc ⊢
  split
  · exact .inl rfl
  next h1 =>
    rw [if_neg h1] at hi hc
    split
    · exact .inr (.inl rfl)
    next h2 =>
      rw [if_neg h2] at hi hc
      exact .inr (.inr ⟨_, rfl, ⟨h.id, h.cl, h.ok, h.len, hi, h.cnt⟩, rfl⟩)
theorem sync_vi (h : Wi n D l N) (hN : N < 4611686018427388000) :
    ∃ D2 l2, syncP D l = (D2, l2, 0) ∧ Wi n D2 l2 (N + 1) ∧ l2.ts = l.ts ∧ l2.mn = l2.ts.length := by
  by_cases hm : l.mn = l.ts.length
  · refine ⟨D, l, ?_, h.more (by omega), rfl, hm⟩
    unfold syncP
    rw [if_pos hm]
  · obtain ⟨D2, h1, h2, h3, h4, h5, h6⟩ := sync_idle h.id h.ok h.lg (by have := h.cnt; omega) hm
    exact ⟨D2, _, h1, ⟨h2, h3, h4, h5.trans h.len, h6, by show l.cnt + 1 ≤ _; have := h.cnt; omega⟩, rfl, rfl⟩
theorem rst_vi (h : Wi n D l N) (hN : N < 4611686018427388000) (ts : List ByteArray) :
    restartP D l ts = (D, l, 2) ∨ restartP D l ts = (D, l, 100) ∨ ∃ D2 l2, restartP D l ts = (D2, l2, 0) ∧ Wi n D2 l2 (N + 1) ∧ l2.ts = ts ∧ l2.mn = l2.ts.length := by
  by_cases h1 : ∃ t ∈ ts, 4096 < t.size
  · refine .inl ?_
    unfold restartP
    rw [if_pos h1]
  by_cases h2 : areaN D < (allF ts).length
  · refine .inr (.inl ?_)
    unfold restartP
    rw [if_neg h1, if_pos h2]
  obtain ⟨D2, q1, q2, q3, q4, q5, q6⟩ := rst_idle h.id h.ok h.lg (by have := h.cnt; omega) ts (fun t ht => by
    by_cases q : 4096 < t.size
    · exact absurd ⟨t, ht, q⟩ h1
    · omega) (by omega)
  exact .inr (.inr ⟨D2, _, q1, ⟨q2, q3, q4, q5.trans h.len, q6, by show l.cnt + 1 ≤ _; have := h.cnt; omega⟩, rfl, rfl⟩)
theorem addV_a {t : ByteArray} {l1 : Lg} {e : Int} (h : appendP D l t = (l1, e)) (he : e ≠ 100) : addV D l s t = (D, l1, e) := by
  unfold addV; rw [h]; exact if_neg he
theorem addV_b {t : ByteArray} {l1 l2 : Lg} {D2 : Dev} {e : Int} (h : appendP D l t = (l1, 100)) (h2 : rstV D l1 s = (D2, l2, e)) (he : e ≠ 0) : addV D l s t = (D2, l2, e) := by
  unfold addV; rw [h]; simp only; rw [h2]; exact (if_pos trivial).trans (if_neg he)
theorem addV_c {t : ByteArray} {l1 l2 : Lg} {D2 : Dev} (h : appendP D l t = (l1, 100)) (h2 : rstV D l1 s = (D2, l2, 0)) : addV D l s t = (D2, appendP D2 l2 t) := by
  unfold addV; rw [h]; simp only; rw [h2]; exact (if_pos trivial).trans (if_pos rfl)
theorem writeV_a {t : ByteArray} {l1 : Lg} {D1 : Dev} {e : Int} (h : addV D l s t = (D1, l1, e)) (he : e ≠ 0) : writeV D l s t = (D1, l1, e) := by
  unfold writeV; rw [h]; exact if_neg he
theorem writeV_b {t : ByteArray} {l1 : Lg} {D1 : Dev} (h : addV D l s t = (D1, l1, 0)) : writeV D l s t = syncP D1 l1 := by
  unfold writeV; rw [h]; exact if_pos rfl
theorem write_vi (h : Vi n D l s N) (ho : Sh.ShOk s) (hN : N + 2 < 4611686018427388000) (r : Rec) (hr : (Sh.applyP s r).2 = 0) :
    ∃ D2 l2 e, writeV D l s (recB r) = (D2, l2, e) ∧ Vi n D2 l2 (if e = 0 then (Sh.applyP s r).1 else s) (N + 2) := by
  have key : ∀ {D' l' M}, Vi n D' l' s M → M < 4611686018427388000 → ∀ l1, Wi n D' l1 M → l1.ts = l'.ts ++ [recB r] →
      ∃ D2 l2, syncP D' l1 = (D2, l2, 0) ∧ Vi n D2 l2 (Sh.applyP s r).1 (M + 1) := fun hv hM l1 hw ht => by
    obtain ⟨D2, l2, q1, q2, q3, q4⟩ := sync_vi hw hM
    exact ⟨D2, l2, q1, q2, q4, by rw [q3, ht]; exact shelf_snoc hv.sh hr⟩
  have bad : ∀ {D' l' e M}, Vi n D' l' s M → M ≤ N + 2 → e ≠ 0 → addV D l s (recB r) = (D', l', e) → ∃ D2 l2 e, writeV D l s (recB r) = (D2, l2, e) ∧ Vi n D2 l2 (if e = 0 then (Sh.applyP s r).1 else s) (N + 2) := fun hv hM he ha =>
    ⟨_, _, _, writeV_a ha he, by rw [if_neg he]; exact hv.more hM⟩
  rcases app_vi h.w (recB r) with q | q | ⟨l1, q, hw, ht⟩
  · exact bad h (by omega) (by decide) (addV_a q (by decide))
  · have hre : shelfOf ((Sh.recordsP s).map recB) = some s := by
      have := shelf_of (rs := Sh.recordsP s) (by rw [goE_records ho])
      rw [goE_records ho] at this
      exact this
    rcases rst_vi h.w (by omega) ((Sh.recordsP s).map recB) with p | p | ⟨D2, l2, p, pw, pt, pm⟩
    · exact bad h (by omega) (by decide) (addV_b q p (by decide))
    · exact bad h (by omega) (by decide) (addV_b q p (by decide))
    · have hv2 : Vi n D2 l2 s (N + 1) := ⟨pw, pm, by rw [pt]; exact hre⟩
      have hc := addV_c (s := s) q p
      rcases app_vi pw (recB r) with q2 | q2 | ⟨l3, q2, hw3, ht3⟩
      · rw [q2] at hc
        exact bad hv2 (by omega) (by decide) hc
      · rw [q2] at hc
        exact bad hv2 (by omega) (by decide) hc
      · rw [q2] at hc
        obtain ⟨D4, l4, q4, q5⟩ := key hv2 (by omega) l3 hw3 ht3
        exact ⟨D4, l4, 0, (writeV_b hc).trans q4, q5⟩
  · obtain ⟨D4, l4, q4, q5⟩ := key h (by omega) l1 hw ht
    exact ⟨D4, l4, 0, (writeV_b (addV_a q (by decide))).trans q4, q5.more (by omega)⟩
theorem do_vi (h : Vi n D l s N) (ho : Sh.ShOk s) (hN : N + 2 < 4611686018427388000) (r : Rec) :
    Vi n (doV D l s r).1 (doV D l s r).2.1 (doV D l s r).2.2.1 (N + 2) := by
  unfold doV
  split
  next h0 =>
    obtain ⟨D2, l2, e, q1, q2⟩ := write_vi h ho hN r h0
    rw [q1]
    exact q2
  · exact h.more (by omega)
theorem fill_vi (h : Vi n D l s N) (hN : N + 2 < 4611686018427388000) (rs : List Rec) :
    Vi n (fillV D l s rs).1 (fillV D l s rs).2.1 (fillV D l s rs).2.2.1 (N + 2) ∧
    (((goE rs Sh.empty).2 = 0 ∧ (((fillV D l s rs).2.2.2 = 0 ∧ (fillV D l s rs).2.2.1 = (goE rs Sh.empty).1) ∨ (((fillV D l s rs).2.2.2 = 2 ∨ (fillV D l s rs).2.2.2 = 100) ∧ (fillV D l s rs).2.2.1 = s))) ∨
     ((goE rs Sh.empty).2 ≠ 0 ∧ (fillV D l s rs).2.2.2 = (goE rs Sh.empty).2 ∧ (fillV D l s rs).2.2.1 = s)) := by
  unfold fillV
  by_cases h0 : (goE rs Sh.empty).2 = 0
  · rw [if_pos h0]
    rcases rst_vi h.w (by omega) (rs.map recB) with p | p | ⟨D2, l2, p, pw, pt, pm⟩
    · rw [p]
      exact ⟨h.more (by omega), .inl ⟨h0, .inr ⟨.inl rfl, rfl⟩⟩⟩
    · rw [p]
      exact ⟨h.more (by omega), .inl ⟨h0, .inr ⟨.inr rfl, rfl⟩⟩⟩
    · rw [p]
      exact ⟨⟨pw.more (by omega), pm, by rw [pt]; exact shelf_of h0⟩, .inl ⟨h0, .inl ⟨rfl, rfl⟩⟩⟩
  · rw [if_neg h0]
    exact ⟨h.more (by omega), .inr ⟨h0, rfl, rfl⟩⟩
theorem open_some {D1 : Dev} {e : Int} (h : openP D = (D1, some l, e)) (hs : shelfOf l.ts = some s) : openV D = (D1, some (l, s), 0) := by
  unfold openV
  rw [h]
  simp only [hs]
theorem fresh_vi (h4 : 4 ≤ n) (hm : n ≤ 2048) : ∃ D1, openV (new0 n) = (D1, some (⟨1, 0, [], [], 0⟩, Sh.empty), 0) ∧ Vi n D1 ⟨1, 0, [], [], 0⟩ Sh.empty 1 := by
  obtain ⟨D1, h1, h2, h3, h5, h6, h7⟩ := fresh_open h4 hm
  exact ⟨D1, open_some h1 shelf_nil, ⟨h2, h3, h5, h6, h7, Nat.le_refl _⟩, rfl, shelf_nil⟩
theorem crash_vi (h : Vi n D l s N) (hN : N ≤ 4611686018427387904) (ps : List Int) : ∃ l', openV (crD D ps) = (crD D ps, some (l', s), 0) := by
  have h1 := reopen_crash h.w.ok h.w.lg h.w.cl (Nat.le_trans h.w.cnt hN) ps
  refine ⟨_, open_some h1 ?_⟩
  show shelfOf (l.ts.take l.mn) = some s
  rw [h.mn, List.take_length]
  exact h.sh
end
def e5 : Rec := ⟨1, 5, 0, 0, ⟨#[]⟩, ⟨#[]⟩, false, [], []⟩
def s5 : Sh.Shf := ⟨[], [e5], [], 0⟩
theorem e5_ok : RecOk e5 := by
  refine ⟨⟨.inr ?_, ?_, ?_, ?_⟩, (Rc.kind_1 rfl).2 ?_⟩
  · exact (by decide : Lt.txnOk 5)
  · exact (by decide : Lt.stampOk 0)
  · decide
  · decide
  · exact ⟨⟨rfl, rfl, rfl⟩, by decide, by decide, Lt.Rises.nil, by decide, fun x hx => (List.not_mem_nil hx).elim, Lt.Rises.nil⟩
theorem e5_prep : Sh.applyP Sh.empty e5 = (s5, 0) := by
  rw [Sh.apply_prep e5_ok rfl]
  rfl
theorem s5_st : Sh.stateP s5 5 = (1, 0) := by rfl
theorem e5_do {D : Dev} (h : Vi 40 D ⟨1, 0, [], [], 0⟩ Sh.empty 1) : ∃ D2 l2, doV D ⟨1, 0, [], [], 0⟩ Sh.empty e5 = (D2, l2, s5, 0) ∧ Vi 40 D2 l2 s5 3 := by
  have hv := do_vi h Sh.ok_empty (by decide) e5
  have hz : (recB e5).size ≤ 64 := by
    show (recL e5).toArray.size ≤ 64
    rw [List.size_toArray]
    have z : (⟨#[]⟩ : ByteArray).size = 0 := rfl
    simp [recL, Pk.bytesL, numsOf, textsOf, e5, flag, Pk.numsL, Pk.textsL, Pk.signed, Pk.textL, Pk.zig, Pk.plain_small, z]
  have ha := app_fits (D := D) (l := ⟨1, 0, [], [], 0⟩) (t := recB e5) (by omega) (by
    have h1 : roomN D ⟨1, 0, [], [], 0⟩ = 1216 := by
      unfold roomN areaN
      rw [h.w.len]
      rfl
    omega)
  have hi := app_in h.w.ok h.w.lg (recB e5)
  rw [ha] at hi
  obtain ⟨D2, l2, q, -⟩ := sync_vi (n := 40) (N := 1) (D := D) ⟨h.w.id, h.w.cl, h.w.ok, h.w.len, hi, Nat.le_refl _⟩ (by decide)
  have hw := (writeV_b (s := Sh.empty) (addV_a ha (by decide))).trans q
  have hd : doV D ⟨1, 0, [], [], 0⟩ Sh.empty e5 = (D2, l2, s5, 0) := by
    unfold doV
    rw [e5_prep, hw]
    rfl
  rw [hd] at hv
  exact ⟨D2, l2, hd, hv⟩
end Vt
end Go.Proofs.YtbkanoblcojdfaaGreat
