/- Parts of the proof, joined: ChL3, ChL4, ChL5, ChL6, ShMath5; their conditions stand with each. -/
import Derived.Lib.AppendZerosOnto
import Derived.Test.YtlfkhlfkckfbpaaGreatC4

set_option maxRecDepth 20000
set_option maxHeartbeats 8000000
namespace Go.Proofs.YtlfkhlfkckfbpaaGreat
namespace Ch
open Go.RowKit Bk
attribute [local go_sem ↓] Go.wp_at_zero Go.wp_at_succ
attribute [local go_sem] floatUpon pick
theorem grow_any (n:Nat) (w:World) (h:n * 32 ≤ 140737488355328) :
  Calls Tryz.prog 90 #[.slice none 0 0,.int .i64 (n:Int)] w fun e w'=>∃ v,e = .returned v ∧ w'.ownsRow w.heap.size 43 3 v 0 [] ∧ Below w.heap.size w w':=by
 obtain ⟨i1,hi',hz0',hz1',hz2'⟩:=info_parts Tryz.infoVer
 have hn1:(n:Int) ≤ 4398046511104:=by omega
 by_cases h0:n = 0
 ·subst h0
  go_enter Tryz.func90,Tryz.ntmps90
  go_wp2_with fail
  go_ret
  exact ⟨_,rfl,World.ownsRow_nil _ _ _ _,Below.refl _ _⟩
 ·have hp:(0:Int) < (n:Int):=by omega
  have hrz:∀ ty,(Builtin.append_ #[35,3] ty #[.slice none 0 0,.int .i64 (n:Int)]).run Tryz.prog w = .ok (.slice (some ⟨w.heap.size,0,none⟩) n (grownCap w n 0 43)) (w.drew.alloc (.cells (Builtin.zeroCells (Value.agg #[.int .i64 0,.string ⟨#[]⟩,.bool false]).cells n ++ Builtin.zeroCells (Value.agg #[.int .i64 0,.string ⟨#[]⟩,.bool false]).cells (grownCap w n 0 43 - n)) 43)):=fun ty =>
   Lib.run_append_nil_zeros (P:=Tryz.prog) w 35 3 ty 43 i1 _ .i64 .i64 Tryz.underlying35 Tryz.underlying3 hi' hz0' n (by omega) (by omega) (by omega) (by rw [hz2'];omega)
  have hGn:n ≤ grownCap w n 0 43:=grownCap_ge w _ _ _
  have hG63:=grownCap_le_maxLen w n 0 43 (by unfold maxLen;omega)
  generalize grownCap w n 0 43 = G at hrz hGn hG63
  have hzs:(Value.agg #[.int .i64 0,.string ⟨#[]⟩,.bool false]).cells.size = 3:=rfl
  obtain ⟨M,hM⟩:∃ M,Builtin.zeroCells (Value.agg #[.int .i64 0,.string ⟨#[]⟩,.bool false]).cells n ++ Builtin.zeroCells (Value.agg #[.int .i64 0,.string ⟨#[]⟩,.bool false]).cells (G - n) = M:=⟨_,rfl⟩
  have hMs:M.size = G * 3:=by rw [← hM,Array.size_append,size_zeroCells,size_zeroCells,hzs];omega
  rw [hM] at hrz
  clear hM hzs
  have HO:=Lib.hid (show (w.drew.alloc (.cells M 43)).ownsRow w.heap.size 43 3 (.slice (some ⟨w.heap.size,0,none⟩) 0 G) 0 [] from ⟨rfl,.inr ⟨w.heap.size,G,M,rfl,Nat.le_refl _,heap_alloc_new w.drew _,Nat.zero_le _,hG63,hMs,by simp⟩⟩)
  have HB:=Lib.hid (show Below w.heap.size w (w.drew.alloc (.cells M 43)) from (Below.refl _ w).drew.alloc (by simp) _)
  have hG1:(G:Int) ≤ 9223372036854775807:=by unfold maxLen at hG63;omega
  have hG0:(0:Int) ≤ (G:Int):=by omega
  clear hMs hG63
  go_enter Tryz.func90,Tryz.ntmps90
  go_wp2_with (at_builtin;refine Lib.wpList_append_run _ rfl _ _ _ _ rfl _ _ rfl rfl _ _ (hrz _) ?_)
  all_goals (go_ret;exact ⟨_,rfl,HO.out,HB.out⟩)
def PartOf (W:World) (v:Value) (L:List Vr):Prop :=
 ∃ (A:Option Addr) (c:Nat),v = .slice A L.length c ∧ VrsAt W A L ∧ (A = none → L.length = 0 ∧ c = 0)
theorem PartOf.below {W W':World} {v:Value} {L:List Vr} (h:PartOf W v L) (hb:Below W.heap.size W W'):PartOf W' v L:=by
 obtain ⟨A,c,e,h1,h2⟩:=h
 exact ⟨A,c,e,h1.below hb,h2⟩
def joinL (ps:List (Value × List Vr)) (j:Nat):List Vr:=(ps.take j).flatMap (·.2)
theorem joinL_succ {ps:List (Value × List Vr)} {j:Nat} (h:j < ps.length):joinL ps (j + 1) = joinL ps j ++ ps[j].2:=by
 unfold joinL
 rw [List.take_succ_eq_append_getElem h,List.flatMap_append]
 simp
theorem joinL_le (ps:List (Value × List Vr)):∀ (i j:Nat),i ≤ j → j ≤ ps.length → (joinL ps i).length ≤ (joinL ps j).length:=by
 intro i j hij
 induction hij with
 | refl=>intro _;exact Nat.le_refl _
 | step h ih =>
  intro hj
  rw [joinL_succ (by omega),List.length_append]
  have:=ih (by omega)
  omega
theorem concat_any (ad:Addr) (c:Nat) (ps:List (Value × List Vr)) (w:World) (hb:ad.block < w.heap.size) (hcell:∀ i (h:i < ps.length),w.cell? (ad.add i) = some ps[i].1) (hP:∀ i (h:i < ps.length),PartOf w ps[i].1 ps[i].2) (hsum:(joinL ps ps.length).length * 32 ≤ 140737488355328) (hps:ps.length ≤ 1024) :
  Calls Tryz.prog 55 #[.slice (some ad) ps.length c] w fun e w'=>∃ v,e = .returned v ∧ w'.ownsRow w.heap.size 43 3 v (joinL ps ps.length).length (vrV (joinL ps ps.length)) ∧ Below w.heap.size w w':=by
 obtain ⟨i1,hi',hz0',hz1',hz2'⟩:=info_parts Tryz.infoVer
 have HCe:=Lib.hid (fun i (h:i < ps.length) W (hbl:Below w.heap.size w W)=>(cell_kept hbl (ad.add i) (by rw [st_block];exact hb)).trans (hcell i h))
 have HP:=Lib.hid (fun i (h:i < ps.length) W (hbl:Below w.heap.size w W)=>(hP i h).below hbl)
 have HLe:=Lib.hid (joinL_le ps)
 have HS:=Lib.hid hsum
 have hpl:(ps.length:Int) ≤ 1024:=by omega
 clear hb hcell hP hsum hps
 go_enter Tryz.func55,Tryz.ntmps55
 go_wp2_with fail
 go_loopw [3,11] (fun sv iv wr=>∃ j:Nat,j ≤ ps.length ∧ iv = .int .i64 (j:Int) ∧ sv = .int .i64 ((joinL ps j).length:Int) ∧ Hid (Below w.heap.size w wr)) (fun _ iv _=>ps.length - (intOf iv).toNat)
 case atStart=>exact ⟨0,Nat.zero_le _,rfl,rfl,Lib.hid (Below.refl _ _)⟩
 case round =>
  obtain ⟨j,hj,rfl,rfl,hbl⟩:=hrel
  by_cases hlt:j < ps.length
  ·have pj:(j:Int) < (ps.length:Int):=by omega
   have hce:=HCe.out j hlt _ hbl.out
   obtain ⟨A,cA,hv,-,-⟩:=HP.out j hlt _ hbl.out
   rw [hv] at hce
   have hs:=joinL_succ hlt
   have hle:=HLe.out (j + 1) ps.length (by omega) (Nat.le_refl _)
   have hS:=HS.out
   have hsl:(joinL ps (j + 1)).length = (joinL ps j).length + ps[j].2.length:=by rw [hs,List.length_append]
   obtain ⟨s1,hs1⟩:∃ s1,(joinL ps (j + 1)).length = s1:=⟨_,rfl⟩
   rw [hs1] at hsl hle
   have HS1:=Lib.hid hs1
   generalize (joinL ps j).length = s0 at hsl ⊢
   generalize ps[j].2.length = m at hsl hce
   have hsum:(s0:Int) + (m:Int) = (s1:Int):=by omega
   have hb1:(s1:Int) ≤ 4398046511104:=by omega
   have hn0:¬ (s1:Int) < 0:=by omega
   have hm0:(m:Int) ≤ 4398046511104:=by omega
   have HSl:=Lib.hid hsl
   clear hv hs hle hS hsl hs1
   go_wp2_with fail
   go_roundw
   case rel=>exact ⟨j + 1,by omega,by go_num,by rw [HS1.out],hbl⟩
   case measure=>simp [intOf];omega
  ·obtain rfl:j = ps.length:=by omega
   have HG:=Lib.hid (fun W=>grow_any (joinL ps ps.length).length W HS.out)
   obtain ⟨S,hS⟩:∃ S,(joinL ps ps.length).length = S:=⟨_,rfl⟩
   have HSe:=Lib.hid hS
   rw [hS] at HG ⊢
   clear hS
   go_wp2_with fail
   refine (HG.out _).mono ?_
   rintro e2 w2 ⟨v2,rfl,ho2,hb2⟩
   have HO2:=Lib.hid (own_base ho2 hbl.out.size)
   have HB2:=Lib.hid (hbl.out.trans (hb2.mono hbl.out.size))
   clear ho2 hb2 hbl HG
   go_wp2_with fail
   go_loopw [6,27] (fun vv iv wr=>∃ (j:Nat) (v:Value),j ≤ ps.length ∧ iv = .int .i64 (j:Int) ∧ vv = v ∧ Hid (wr.ownsRow w.heap.size 43 3 v (joinL ps j).length (vrV (joinL ps j))) ∧ Hid (Below w.heap.size w wr)) (fun _ iv _=>ps.length - (intOf iv).toNat)
   case atStart=>exact ⟨0,v2,Nat.zero_le _,rfl,rfl,HO2,HB2⟩
   case round =>
    obtain ⟨j,v,hj,rfl,rfl,hown,hbl⟩:=hrel
    clear HO2 HB2
    by_cases hlt:j < ps.length
    ·have pj:(j:Int) < (ps.length:Int):=by omega
     have hce:=HCe.out j hlt _ hbl.out
     obtain ⟨A,cA,hv,hA,hnil⟩:=HP.out j hlt _ hbl.out
     rw [hv] at hce
     have hs:=joinL_succ hlt
     have hle:=HLe.out (j + 1) ps.length (by omega) (Nat.le_refl _)
     have hS:=HS.out
     have hsl:(joinL ps (j + 1)).length = (joinL ps j).length + ps[j].2.length:=by rw [hs,List.length_append]
     have hvr:vrV (joinL ps (j + 1)) = vrV (joinL ps j) ++ vrV ps[j].2:=by rw [hs,vrV_app]
     have Hsl:=Lib.hid hsl
     have Hvr:=Lib.hid hvr
     have HVl:=Lib.hid (vrV_len ps[j].2)
     have HA:=Lib.hid hA
     have HNil:=Lib.hid hnil
     have HLs:=Lib.hid (show ((joinL ps j).length + ps[j].2.length) * 32 ≤ 140737488355328 by omega)
     generalize ps[j].2 = L at hce Hsl Hvr HVl HA HNil HLs
     clear hv hs hle hS hsl hvr hA hnil
     go_wp2_with (at_builtin;refine wpList_append_opt3 rfl _ _ 35 rfl w.heap.size 43 i1 (.agg #[.int .i64 0,.string ⟨#[]⟩,.bool false]) 32 Tryz.underlying35 hi' hz0' hz1' hz2' rfl _ (joinL ps j).length _ rfl hown.out A L.length cA (vrV L) rfl HVl.out HNil.out ?c1 ?c2 ?c3 ?c4 hbl.out.size ?_)
     case c1=>exact fun ad e=>by subst e;exact HA.out.news
     case c2=>exact vrV_one _
     case c3=>have:=HLs.out;unfold maxLen;omega
     case c4=>exact HLs.out
     intro v' w3 ho hg hat
     have HB3:=Lib.hid (hbl.out.grown hg hbl.out.size (fun k hk=>(hown.out.lt k hk).1))
     rw [← Hsl.out,← Hvr.out] at ho
     have HO3:=Lib.hid ho
     clear ho hg hat hce
     go_wp2_with fail
     go_roundw
     case rel=>exact ⟨j + 1,v',by omega,by go_num,rfl,HO3,HB3⟩
     case measure=>simp [intOf];omega
    ·obtain rfl:j = ps.length:=by omega
     go_wp2_with fail
     go_ret
     exact ⟨_,rfl,hown.out,hbl.out⟩
theorem Cel.put_same {w:World} {g i:Nat} {t:TypeId} {xs:List Value} {v:Value} (h:Cel w g t xs) (hv:xs[i]? = some v):Cel (w.setCell ⟨g,i,none⟩ v) g t xs:=by
 have:=h.set (i:=i) (v:=v)
 rwa [show xs.set i v = xs by
  apply List.ext_getElem?
  intro j
  rw [List.getElem?_set]
  by_cases e:i = j
  ·subst e
   rw [if_pos rfl,hv,if_pos (List.getElem?_eq_some_iff.1 hv).1]
  ·rw [if_neg e]] at this
theorem copied_any (x:Vr) (w:World) (hx:x.shard.size ≤ 281474976710656) :
  Calls Tryz.prog 36 #[.agg (vcs x).toArray] w fun e w'=>e = .returned (.agg (vcs x).toArray) ∧ Below w.heap.size w w':=by
 obtain ⟨xt,xs,xd⟩:=x
 simp only at hx
 have HCl:=Lib.hid (fun W=>clone_any xs W hx)
 show Calls _ _ #[.agg #[.int .i64 xt,.string xs,.bool xd]] _ _
 clear hx
 go_enter Tryz.func36,Tryz.ntmps36
 go_upto_region 1 with fail
 have hb1:Below w.heap.size w (w.alloc (.cells #[.int .i64 xt,.string xs,.bool xd] 43)):=(Below.refl _ w).alloc (Nat.le_refl _) _
 have hc1:Cel (w.alloc (.cells #[.int .i64 xt,.string xs,.bool xd] 43)) w.heap.size 43 [.int .i64 xt,.string xs,.bool xd]:=(blk1 w _).2
 have hs1:(w.alloc (.cells #[.int .i64 xt,.string xs,.bool xd] 43)).heap.size = w.heap.size + 1:=by simp
 generalize w.alloc (.cells #[.int .i64 xt,.string xs,.bool xd] 43) = W1 at hb1 hc1 hs1 ⊢
 have hb2:Below W1.heap.size W1 (W1.alloc (.cells #[.int .i64 0,.string ⟨#[]⟩,.bool false] 43)):=(Below.refl _ W1).alloc (Nat.le_refl _) _
 have hc2:Cel (W1.alloc (.cells #[.int .i64 0,.string ⟨#[]⟩,.bool false] 43)) (w.heap.size + 1) 43 [.int .i64 0,.string ⟨#[]⟩,.bool false]:=by rw [← hs1];exact (blk1 W1 _).2
 have hb3:=hb1.trans (hb2.mono hb1.size)
 have hc3:=hc1.below hb2
 generalize W1.alloc (.cells #[.int .i64 0,.string ⟨#[]⟩,.bool false] 43) = W2 at hb3 hc2 hc3 ⊢
 clear hb1 hc1 hb2
 have HB:=Lib.hid hb3
 have H2:=Lib.hid hc2
 have H3:=Lib.hid hc3
 have q1:=hc3.cell (i:=1) rfl
 clear hb3 hc2 hc3 hs1
 go_wp2_with fail
 refine (HCl.out _).mono ?_
 rintro e w3 ⟨rfl,hb⟩
 have HB4:=Lib.hid (HB.out.trans (hb.mono HB.out.size))
 have hc3:=H3.out.below hb
 have hc2:=H2.out.below hb
 have f1:=fun i=>hc3.free (i:=i)
 have q0:=hc3.cell (i:=0) rfl
 have q1:=hc3.cell (i:=1) rfl
 have q2:=hc3.cell (i:=2) rfl
 have hc3':=Cel.put_same hc3 (i:=1) (v:=.string xs) rfl
 have hc2':=hc2.far (g':=w.heap.size) (i:=1) (v:=.string xs) (by omega)
 have hb5:=HB4.out.setCell (p:=⟨w.heap.size,1,none⟩) (Nat.le_refl _) (.string xs)
 have H2:=Lib.hid hc2'
 have H3:=Lib.hid hc3'
 have HB5:=Lib.hid hb5
 clear hb hc2 hc3 hc2' hc3' hb5 HB HB4
 go_upto_region 2 with fail
 have p0:=H3.out.cell (i:=0) rfl
 have p1:=H3.out.cell (i:=1) rfl
 have p2:=H3.out.cell (i:=2) rfl
 have g0:=H2.out.cell (i:=0) rfl
 have g1:=H2.out.cell (i:=1) rfl
 have g2:=H2.out.cell (i:=2) rfl
 have gf:=fun i=>H2.out.free (i:=i)
 generalize w3.setCell ⟨w.heap.size,1,none⟩ (.string xs) = W4 at p0 p1 p2 g0 g1 g2 gf H2 H3 HB5 ⊢
 clear q0 q1 q2 f1
 have HF:=Lib.hid (set3_cel (v0:=.int .i64 xt) (v1:=.string xs) (v2:=.bool xd) H2.out)
 have HBF:=Lib.hid (set3_below (R:=w.heap.size + 1) (v0:=.int .i64 xt) (v1:=.string xs) (v2:=.bool xd) HB5.out (Nat.le_succ _))
 go_wp2_with fail
 have z0:=HF.out.cell (i:=0) rfl
 have z1:=HF.out.cell (i:=1) rfl
 have z2:=HF.out.cell (i:=2) rfl
 unfold set3 at z0 z1 z2
 exact bodyPost_ret (v:=.agg #[.int .i64 xt,.string xs,.bool xd]) (by simp [results,Tryz.results36,go_sem,z0,z1,z2]) rfl ⟨rfl,HBF.out⟩
theorem own_cel {W:World} {H n g cap:Nat} {t:TypeId} {xs:List Value} (h:W.ownsRow H t 3 (.slice (some ⟨g,0,none⟩) n cap) n xs) (hx:xs.length = n * 3) (hn:0 < n):∃ ys:List Value,Cel W g t ys ∧ H ≤ g ∧ (∀ (j:Nat) (u:Value),xs[j]? = some u → ys[j]? = some u) ∧ (∀ W',Cel W' g t ys → W'.ownsRow H t 3 (.slice (some ⟨g,0,none⟩) n cap) n xs):=by
 obtain ⟨h1,h2⟩:=h
 rcases h2 with ⟨h2,h3⟩ | ⟨g',cap',cur,h2,h3,h4,h5,h6,h7,h8⟩
 ·omega
 ·simp only [Value.slice.injEq,Option.some.injEq,Addr.mk.injEq,and_true,true_and] at h2
  obtain ⟨rfl,rfl⟩:=h2
  refine ⟨cur.toList,by unfold Cel;rw [h4],h3,fun j u hu=>?_,fun W' hW=>⟨h1,.inr ⟨g,cap,cur,rfl,h3,?_,h5,h6,h7,h8⟩⟩⟩
  ·have hj:=(List.getElem?_eq_some_iff.1 hu).1
   rw [← h8,List.getElem?_take_of_lt (by omega)] at hu
   exact hu
  ·unfold Cel at hW
   rw [hW]
theorem copies_any (ad:Addr) (c:Nat) (ps:List (Value × List Vr)) (w:World) (hb:ad.block < w.heap.size) (hcell:∀ i (h:i < ps.length),w.cell? (ad.add i) = some ps[i].1) (hP:∀ i (h:i < ps.length),PartOf w ps[i].1 ps[i].2) (hsum:(joinL ps ps.length).length * 32 ≤ 140737488355328) (hps:ps.length ≤ 1024) (hok:∀ x ∈ joinL ps ps.length,x.shard.size ≤ 281474976710656) :
  Calls Tryz.prog 29 #[.slice (some ad) ps.length c] w fun e w'=>∃ v,e = .returned v ∧ w'.ownsRow w.heap.size 43 3 v (joinL ps ps.length).length (vrV (joinL ps ps.length)) ∧ Below w.heap.size w w':=by
 have HC:=Lib.hid (concat_any ad c ps w hb hcell hP hsum hps)
 have HOk:=Lib.hid hok
 have hS:=hsum
 generalize joinL ps ps.length = L at HC HOk hS ⊢
 have hlen:(L.length:Int) ≤ 4398046511104:=by omega
 clear hb hcell hP hsum hps hok
 go_enter Tryz.func29,Tryz.ntmps29
 go_wp2_with fail
 refine HC.out.mono ?_
 rintro e1 w1 ⟨v,rfl,ho,hb⟩
 have HB:=Lib.hid hb
 clear hb HC
 by_cases h0:L.length = 0
 ·have HO:=Lib.hid ho
  obtain ⟨A,cv,rfl,-⟩:=vrs_own ho rfl
  have pl:¬ (0:Int) < (L.length:Int):=by omega
  have HL0:=Lib.hid h0
  clear ho h0
  go_wp2_with fail
  go_loopw [10] (fun iv wr=>iv = .int .i64 0 ∧ wr = w1) (fun iv _=>0)
  case atStart=>exact ⟨rfl,rfl⟩
  case round =>
   obtain ⟨rfl,rfl⟩:=hrel
   go_wp2_with fail
   go_ret
   exact ⟨_,rfl,HO.out,HB.out⟩
 ·obtain ⟨g,cap,rfl,-,-⟩:=World.ownsRow.form ho (by omega)
  obtain ⟨ys,hcel,hg,hyx,hback⟩:=own_cel ho (vrV_len L) (by omega)
  have HCe:=Lib.hid hcel
  have HY:=Lib.hid hyx
  have HBk:=Lib.hid hback
  clear ho hcel hyx hback
  go_wp2_with fail
  go_loopw [10] (fun iv wr=>∃ j:Nat,j ≤ L.length ∧ iv = .int .i64 (j:Int) ∧ Hid (Cel wr g 43 ys) ∧ Hid (Below w.heap.size w wr)) (fun iv _=>L.length - (intOf iv).toNat)
  case atStart=>exact ⟨0,Nat.zero_le _,rfl,HCe,HB⟩
  case round =>
   obtain ⟨j,hj,rfl,hcel,hbl⟩:=hrel
   clear HCe HB
   by_cases hlt:j < L.length
   ·have pj:(j:Int) < (L.length:Int):=by omega
    obtain ⟨y0,y1,y2⟩:=vrV_at L j hlt
    have z0:=HY.out _ _ y0
    have z1:=HY.out _ _ y1
    have z2:=HY.out _ _ y2
    have x0:=hcel.out.cell z0
    have x1:=hcel.out.cell z1
    have x2:=hcel.out.cell z2
    have hx:=HOk.out _ (List.getElem_mem hlt)
    generalize L[j] = X at z0 z1 z2 x0 x1 x2 hx
    obtain ⟨xt,xs,xd⟩:=X
    simp only at z0 z1 z2 x0 x1 x2 hx
    have HCp:Hid (∀ W:World,Calls Tryz.prog 36 #[.agg #[.int .i64 xt,.string xs,.bool xd]] W fun e w'=>e = .returned (.agg #[.int .i64 xt,.string xs,.bool xd]) ∧ Below W.heap.size W w'):=Lib.hid (fun W=>copied_any ⟨xt,xs,xd⟩ W hx)
    have hB0:Below wr.heap.size wr (wr.alloc (.cells #[.int .i64 xt,.string xs,.bool xd] 43)):=(Below.refl _ wr).alloc (Nat.le_refl _) _
    have hR0:Cel (wr.alloc (.cells #[.int .i64 xt,.string xs,.bool xd] 43)) wr.heap.size 43 [.int .i64 xt,.string xs,.bool xd]:=(blk1 wr _).2
    have HZ:=Lib.hid (And.intro z0 (And.intro z1 z2))
    clear y0 y1 y2 hx z0 z1 z2
    go_upto_region 5 with fail
    have q0:=hR0.cell (i:=0) rfl
    have q1:=hR0.cell (i:=1) rfl
    have q2:=hR0.cell (i:=2) rfl
    have HB1:=Lib.hid (hbl.out.trans (hB0.mono hbl.out.size))
    have HC1:=Lib.hid (hcel.out.below hB0)
    generalize hG:wr.heap.size = G at *
    generalize wr.alloc (.cells #[.int .i64 xt,.string xs,.bool xd] 43) = W1 at *
    clear hR0 hB0 x0 x1 x2 hbl hcel hG
    go_wp2_with fail
    refine (HCp.out _).mono ?_
    rintro e2 w2 ⟨rfl,hb⟩
    have HB2:=Lib.hid (HB1.out.trans (hb.mono HB1.out.size))
    have HC2:=Lib.hid (HC1.out.below hb)
    have x0:=HC2.out.cell HZ.out.1
    have x1:=HC2.out.cell HZ.out.2.1
    have x2:=HC2.out.cell HZ.out.2.2
    have f0:=fun i=>HC2.out.free (i:=i)
    have HF:=Lib.hid (Cel.put_same (Cel.put_same (Cel.put_same HC2.out HZ.out.1) HZ.out.2.1) HZ.out.2.2)
    have HBF:=Lib.hid (((HB2.out.setCell (p:=⟨g,j * 3,none⟩) hg (.int .i64 xt)).setCell (p:=⟨g,j * 3 + 1,none⟩) hg (.string xs)).setCell (p:=⟨g,j * 3 + 2,none⟩) hg (.bool xd))
    clear hb HB1 HC1 q0 q1 q2
    go_wp2_with fail
    go_roundw
    case rel=>exact ⟨j + 1,by omega,by go_num,HF,HBF⟩
    case measure=>simp [intOf];omega
   ·obtain rfl:j = L.length:=by omega
    have HO:=Lib.hid (HBk.out _ hcel.out)
    go_wp2_with fail
    go_ret
    exact ⟨_,rfl,HO.out,hbl.out⟩
theorem lat_any (A:Option Addr) (c:Nat) (l:List Vr) (t:Int) (w:World) (h:VrsAt w A l) (hn:l.length * 32 ≤ 140737488351232) (hr:∀ x ∈ l,VrRng x) (hc:l.length ≤ c) :
  Calls Tryz.prog 13 #[.slice A l.length c,.int .i64 t] w fun e w'=>e = .returned (.tuple #[.agg (vcs (atP l t).1).toArray,.bool (atP l t).2.1,.int .i64 (atP l t).2.2]) ∧ Below w.heap.size w w':=by
 have HC:=Lib.hid (fun W (hb:Below w.heap.size w W)=>lcheck_any A c l W (h.below hb) hn hr hc)
 have HP0:=Lib.hid (fun (hok:ChOk l) W (hb:Below w.heap.size w W)=>notAbove_any A c l t W (h.below hb) hok.rise hok.len)
 have HOk:=Lib.hid (fun (h0:(chkP l).2 = 0)=>chk_ok.1 h0)
 have HA:=Lib.hid h
 have HRg:=Lib.hid hr
 have hlen:(l.length:Int) ≤ 9223372036854775807:=by omega
 have E:=Lib.hid (show atP l t = if (chkP l).2 ≠ 0 then (noVr,false,(chkP l).2) else ((atV l t).1,(atV l t).2,0) from rfl)
 obtain ⟨a,e,hae⟩:∃ a e,chkP l = (a,e):=⟨_,_,rfl⟩
 rw [hae] at HC E HOk
 simp only at HC E HOk
 clear h hr hae hc
 go_enter Tryz.func13,Tryz.ntmps13
 go_wp2_with fail
 have hR0:Cel (w.alloc (.cells #[.int .i64 0,.string ⟨#[]⟩,.bool false] 43)) w.heap.size 43 [.int .i64 0,.string ⟨#[]⟩,.bool false]:=(blk1 w _).2
 have hB0:Below w.heap.size w (w.alloc (.cells #[.int .i64 0,.string ⟨#[]⟩,.bool false] 43)):=(Below.refl _ w).alloc (Nat.le_refl _) _
 refine (HC.out _ hB0).mono ?_
 rintro e1 w1 ⟨rfl,hb⟩
 have HR:=Lib.hid (hR0.below hb)
 have HB:=Lib.hid (hB0.trans (hb.mono hB0.size))
 clear HC hb hR0 hB0
 by_cases he:e = 0
 ·subst he
  have HP:=Lib.hid (HP0.out (HOk.out rfl))
  have hpl:=place_le l t
  clear HP0
  cases hpn:placeN l t with
  | zero =>
   have E2:=Lib.hid (show atP l t = (noVr,false,0) by rw [E.out];unfold atV;rw [low_none hpn];rfl)
   rw [hpn] at HP
   clear E hpn hpl
   go_wp2_with fail
   refine (HP.out _ HB.out).mono ?_
   rintro e2 w2 ⟨rfl,hb⟩
   have HB2:=Lib.hid (HB.out.trans (hb.mono HB.out.size))
   have HR2:=Lib.hid (HR.out.below hb)
   clear hb
   have zq:=fun i=>HR2.out.free (i:=i)
   have q0:=HR2.out.cell (i:=0) rfl
   have q1:=HR2.out.cell (i:=1) rfl
   have q2:=HR2.out.cell (i:=2) rfl
   go_wp2_with fail
   have HF:=Lib.hid (set3_cel (v0:=.int .i64 0) (v1:=.string ⟨#[]⟩) (v2:=.bool false) HR2.out)
   have z0:=HF.out.cell (i:=0) rfl
   have z1:=HF.out.cell (i:=1) rfl
   have z2:=HF.out.cell (i:=2) rfl
   unfold set3 at z0 z1 z2
   exact bodyPost_ret (v:=.tuple #[.agg #[.int .i64 0,.string ⟨#[]⟩,.bool false],.bool false,.int .i64 0]) (by simp [results,Tryz.results13,go_sem,z0,z1,z2]) rfl ⟨by rw [E2.out];rfl,set3_below HB2.out (Nat.le_refl _)⟩
  | succ k =>
   obtain ⟨hk,hlast⟩:=low_last hpn
   obtain ⟨X,hX⟩:∃ X,l[k] = X:=⟨_,rfl⟩
   have E2:=Lib.hid (show atP l t = (X,true,0) by rw [E.out];unfold atV;rw [hlast,hX];rfl)
   have HX:=Lib.hid hX
   have hsz:=(HRg.out _ (List.getElem_mem hk)).shard
   rw [hX] at hsz
   rw [hpn] at HP
   have hc1:((k + 1:Nat):Int) - 1 = (k:Int):=by omega
   have hc2:(k:Int) < (l.length:Int):=by omega
   have hz:¬ ((k + 1:Nat):Int) = 0:=by omega
   have hz2:(((k + 1:Nat):Int) == 0) = false:=by simpa using hz
   have hc3:((k + 1:Nat):Int) ≤ 9223372036854775807:=by omega
   have HK:=Lib.hid hk
   clear E hpn hpl hlast hX
   generalize k + 1 = n at HP hc1 hz hz2 hc3
   go_wp2_with fail
   refine (HP.out _ HB.out).mono ?_
   rintro e2 w2 ⟨rfl,hb⟩
   have HB2:=Lib.hid (HB.out.trans (hb.mono HB.out.size))
   have HR2:=Lib.hid (HR.out.below hb)
   clear hb
   obtain ⟨ad,rfl,hab,hcl⟩:=(HA.out.below HB2.out) (by have:=HK.out;omega)
   obtain ⟨x0,x1,x2⟩:=hcl k HK.out
   rw [HX.out] at x0 x1 x2
   rw [← add_field _ _ _ (by omega)] at x1 x2
   obtain ⟨xt,xs,xd⟩:=X
   simp only at x0 x1 x2 hsz
   have HCp:Hid (∀ W:World,Calls Tryz.prog 36 #[.agg #[.int .i64 xt,.string xs,.bool xd]] W fun e w'=>e = .returned (.agg #[.int .i64 xt,.string xs,.bool xd]) ∧ Below W.heap.size W w'):=Lib.hid (fun W=>copied_any ⟨xt,xs,xd⟩ W (by have rb:reachBytes = 140737488351232:=rfl;simp only;omega))
   clear hab hcl HX hsz
   go_wp2_with fail
   refine (HCp.out _).mono ?_
   rintro e3 w3 ⟨rfl,hb⟩
   have HB3:=Lib.hid (HB2.out.trans (hb.mono HB2.out.size))
   have HR3:=Lib.hid (HR2.out.below hb)
   clear hb HB2 HR2 x0 x1 x2
   have zq:=fun i=>HR3.out.free (i:=i)
   have q0:=HR3.out.cell (i:=0) rfl
   have q1:=HR3.out.cell (i:=1) rfl
   have q2:=HR3.out.cell (i:=2) rfl
   go_wp2_with fail
   have HF:=Lib.hid (set3_cel (v0:=.int .i64 xt) (v1:=.string xs) (v2:=.bool xd) HR3.out)
   have z0:=HF.out.cell (i:=0) rfl
   have z1:=HF.out.cell (i:=1) rfl
   have z2:=HF.out.cell (i:=2) rfl
   unfold set3 at z0 z1 z2
   exact bodyPost_ret (v:=.tuple #[.agg #[.int .i64 xt,.string xs,.bool xd],.bool true,.int .i64 0]) (by simp [results,Tryz.results13,go_sem,z0,z1,z2]) rfl ⟨by rw [E2.out];rfl,set3_below HB3.out (Nat.le_refl _)⟩
 ·have E2:=Lib.hid (show atP l t = (noVr,false,e) by rw [E.out,if_pos he])
  have hz:(e == 0) = false:=by simpa using he
  clear E
  have zq:=fun i=>HR.out.free (i:=i)
  have q0:=HR.out.cell (i:=0) rfl
  have q1:=HR.out.cell (i:=1) rfl
  have q2:=HR.out.cell (i:=2) rfl
  go_wp2_with fail
  have HF:=Lib.hid (set3_cel (v0:=.int .i64 0) (v1:=.string ⟨#[]⟩) (v2:=.bool false) HR.out)
  have z0:=HF.out.cell (i:=0) rfl
  have z1:=HF.out.cell (i:=1) rfl
  have z2:=HF.out.cell (i:=2) rfl
  unfold set3 at z0 z1 z2
  exact bodyPost_ret (v:=.tuple #[.agg #[.int .i64 0,.string ⟨#[]⟩,.bool false],.bool false,.int .i64 e]) (by simp [results,Tryz.results13,go_sem,z0,z1,z2]) rfl ⟨by rw [E2.out];rfl,set3_below HB.out (Nat.le_refl _)⟩
theorem copies_row (ps:List (Value × List Vr)) (c:Nat) (w:World) (L:List Vr) (hL:joinL ps ps.length = L) (hP:∀ i (h:i < ps.length),PartOf w ps[i].1 ps[i].2) (hsum:L.length * 32 ≤ 140737488355328) (hps:ps.length ≤ 1024) (hok:∀ x ∈ L,x.shard.size ≤ 281474976710656) :
  Calls Tryz.prog 29 #[.slice (some ⟨w.heap.size,0,none⟩) ps.length c] (w.alloc (.cells (ps.map (·.1)).toArray 35)) fun e w'=>∃ v,e = .returned v ∧ w'.ownsRow w.heap.size 43 3 v L.length (vrV L) ∧ Below w.heap.size w w':=by
 subst hL
 have hb:Below w.heap.size w (w.alloc (.cells (ps.map (·.1)).toArray 35)):=(Below.refl _ w).alloc (Nat.le_refl _) _
 refine (copies_any ⟨w.heap.size,0,none⟩ c ps _ (by simp) (fun i h=>?_) (fun i h=>(hP i h).below hb) hsum hps hok).mono ?_
 ·rw [addr_head]
  exact blk_cell (blk1 w _).2 (by rw [List.getElem?_toArray,List.getElem?_map,List.getElem?_eq_getElem h];rfl)
 ·rintro e w' ⟨v,rfl,h1,h2⟩
  exact ⟨v,rfl,own_base h1 hb.size,hb.trans (h2.mono hb.size)⟩
theorem reach_ok {l:List Vr} (hr:∀ x ∈ l,VrRng x):∀ x ∈ l,x.shard.size ≤ 281474976710656:=fun x hx=>by
 have h1:=(hr x hx).shard
 have rb:reachBytes = 140737488351232:=rfl
 omega
theorem lsweep_any (A:Option Addr) (c:Nat) (l:List Vr) (t:Int) (w:World) (h:VrsAt w A l) (hn:l.length * 32 ≤ 140737488351232) (hr:∀ x ∈ l,VrRng x) (hnil:A = none → l.length = 0 ∧ c = 0) (hc:l.length ≤ c) :
  Calls Tryz.prog 15 #[.slice A l.length c,.int .i64 t] w (RowAns w (sweepP l t)):=by
 have HC:=Lib.hid (lcheck_any A c l w h hn hr hc)
 have HP0:=Lib.hid (fun (hok:ChOk l) W (hb:Below w.heap.size w W)=>notAbove_any A c l t W (h.below hb) hok.rise hok.len)
 have HOk:=Lib.hid (fun (h0:(chkP l).2 = 0)=>chk_ok.1 h0)
 have HA:=Lib.hid h
 have HSl:=Lib.hid (fun n (hn:n ≤ l.length)=>slice_from A l.length c n hn hc hnil)
 have HRg:=Lib.hid hr
 have hlen:(l.length:Int) ≤ 4398046511104:=by omega
 have E:=Lib.hid (show sweepP l t = if (chkP l).2 ≠ 0 then ([],(chkP l).2) else (sweepL l t,0) from rfl)
 obtain ⟨a,e,hae⟩:∃ a e,chkP l = (a,e):=⟨_,_,rfl⟩
 rw [hae] at HC E HOk
 simp only at HC E HOk
 clear h hr hae hnil hc
 go_enter Tryz.func15,Tryz.ntmps15
 go_wp2_with fail
 refine HC.out.mono ?_
 rintro e1 w1 ⟨rfl,hb⟩
 have HB:=Lib.hid hb
 clear HC hb
 by_cases he:e = 0
 ·subst he
  have HP:=Lib.hid (HP0.out (HOk.out rfl))
  have HLast:Hid (∀ k,goN l t = k → k ≤ l.length → ∀ w2,Below w.heap.size w w2 → ∀ v w',w'.ownsRow w2.heap.size 43 3 v (l.drop k).length (vrV (l.drop k)) → Below w2.heap.size w2 w' → RowAns w (sweepP l t) (.returned (.tuple #[v,.int .i64 0])) w'):=Lib.hid (fun k hk hkl w2 hb2 v w' ho hb=>by
   have hp:sweepP l t = (l.drop k,0):=by rw [E.out,← hk];rfl
   rw [hp]
   exact ⟨v,rfl,own_base ho hb2.size,hb2.trans (hb.mono hb2.size)⟩)
  clear HP0
  go_wp2_with fail
  refine (HP.out _ HB.out).mono ?_
  rintro e2 w2 ⟨rfl,hb⟩
  have HB2:=Lib.hid (HB.out.trans (hb.mono HB.out.size))
  clear hb HB E
  have hpl:=place_le l t
  obtain ⟨k,hgo,hkl,hway⟩:∃ k,goN l t = k ∧ k ≤ l.length ∧ (placeN l t = k ∧ (k = 0 ∨ ∃ (h0:0 < k) (h1:k - 1 < l.length),(l[k - 1]'h1).dead = true) ∨ ∃ h1:k < l.length,placeN l t = k + 1 ∧ l[k].dead = false):=by
   cases hp:placeN l t with
   | zero=>exact ⟨0,go_zero hp,Nat.zero_le _,.inl ⟨rfl,.inl rfl⟩⟩
   | succ j =>
    have hj:j < l.length:=by omega
    have hg:=go_succ hp hj
    by_cases hd:l[j].dead = true
    ·rw [if_pos hd] at hg
     exact ⟨j + 1,hg,by omega,.inl ⟨rfl,.inr ⟨by omega,by simpa using hj,by simpa using hd⟩⟩⟩
    ·rw [if_neg hd] at hg
     exact ⟨j,hg,by omega,.inr ⟨hj,rfl,by simpa using hd⟩⟩
  obtain ⟨A',c',hsl,hdr,hnil',hcl,hcc⟩:=HSl.out k hkl
  have hdl:(l.drop k).length = l.length - k:=List.length_drop
  have HPt:PartOf w2 (.slice A' (l.length - k) c') (l.drop k):=⟨A',c',(by rw [hdl]),hdr w2 l rfl (HA.out.below HB2.out),fun e=>(by rw [hdl];exact hnil' e)⟩
  have hPs:∀ i (h:i < [((.slice A' (l.length - k) c':Value),l.drop k)].length),PartOf w2 [((.slice A' (l.length - k) c':Value),l.drop k)][i].1 [((.slice A' (l.length - k) c':Value),l.drop k)][i].2:=fun i h=>by
   have hi:i = 0:=by simpa using h
   subst hi
   exact HPt
  have HCp:=Lib.hid (copies_row [(.slice A' (l.length - k) c',l.drop k)] 1 w2 (l.drop k) (by simp [joinL]) hPs (by rw [hdl];omega) (by simp) (fun x hx=>reach_ok HRg.out x (List.mem_of_mem_drop hx)))
  have HSl2:=Lib.hid hsl
  have HEnd:=Lib.hid (HLast.out k hgo hkl w2 HB2.out)
  have hk0:(k:Int) ≤ (l.length:Int):=by omega
  simp only [List.map_cons,List.map_nil,List.length_singleton] at HCp
  clear HSl HLast hdr hnil' hsl HPt hdl hPs
  rcases hway with ⟨hp,hz | ⟨h0,h1,hd⟩⟩ | ⟨h1,hp,hd⟩
  ·have hz':¬ (k:Int) > 0:=by omega
   rw [hp]
   clear hz hp
   have sl:=HSl2.out
   go_wp2_with fail
   refine HCp.out.mono ?_
   rintro e3 w3 ⟨v3,rfl,ho,hb⟩
   have HF:=Lib.hid (HEnd.out _ _ ho hb)
   clear ho hb sl
   go_wp2_with fail
   go_ret2
   exact HF.out
  ·obtain ⟨j,rfl⟩:∃ j,k = j + 1:=⟨k - 1,by omega⟩
   have h1':j < l.length:=by omega
   have hd':l[j].dead = true:=by simpa using hd
   clear hd h1
   obtain ⟨ad,rfl,hab,hcl⟩:=(HA.out.below HB2.out) (by omega)
   obtain ⟨-,-,x2⟩:=hcl j h1'
   rw [hd'] at x2
   rw [← add_field _ _ _ (by omega)] at x2
   have hc1:((j + 1:Nat):Int) - 1 = (j:Int):=by omega
   have hc2:(j:Int) < (l.length:Int):=by omega
   have hc3:((j + 1:Nat):Int) > 0:=by omega
   rw [hp]
   generalize hK:j + 1 = K at *
   clear hab hcl hp h0 hd' h1' hK
   have sl:=HSl2.out
   go_wp2_with fail
   refine HCp.out.mono ?_
   rintro e3 w3 ⟨v3,rfl,ho,hb⟩
   have HF:=Lib.hid (HEnd.out _ _ ho hb)
   clear ho hb sl
   go_wp2_with fail
   go_ret2
   exact HF.out
  ·obtain ⟨ad,rfl,hab,hcl⟩:=(HA.out.below HB2.out) (by omega)
   obtain ⟨-,-,x2⟩:=hcl k h1
   rw [hd] at x2
   rw [← add_field _ _ _ (by omega)] at x2
   have hc1:((k + 1:Nat):Int) - 1 = (k:Int):=by omega
   have hc2:(k:Int) < (l.length:Int):=by omega
   have hc3:((k + 1:Nat):Int) > 0:=by omega
   rw [hp]
   generalize hK:k + 1 = K at *
   clear hab hcl hp hd h1 hK
   have sl:=HSl2.out
   go_wp2_with fail
   refine HCp.out.mono ?_
   rintro e3 w3 ⟨v3,rfl,ho,hb⟩
   have HF:=Lib.hid (HEnd.out _ _ ho hb)
   clear ho hb sl
   go_wp2_with fail
   go_ret2
   exact HF.out
 ·have E2:=Lib.hid (show sweepP l t = ([],e) by rw [E.out,if_pos he])
  have hz:(e == 0) = false:=by simpa using he
  clear E
  go_wp2_with fail
  go_ret2
  exact ⟨_,by rw [E2.out];rfl,by rw [E2.out];exact World.ownsRow_nil _ _ _ _,HB.out⟩
theorem joinL_two (v1 v2:Value) (L1 L2:List Vr):joinL [(v1,L1),(v2,L2)] 2 = L1 ++ L2:=by simp [joinL]
theorem copies_two (v1 v2:Value) (L1 L2:List Vr) (c:Nat) (w:World) (h1:PartOf w v1 L1) (h2:PartOf w v2 L2) (hsum:(L1 ++ L2).length * 32 ≤ 140737488355328) (hok:∀ x ∈ L1 ++ L2,x.shard.size ≤ 281474976710656) :
  Calls Tryz.prog 29 #[.slice (some ⟨w.heap.size,0,none⟩) 2 c] (w.alloc (.cells #[v1,v2] 35)) fun e w'=>∃ v,e = .returned v ∧ w'.ownsRow w.heap.size 43 3 v (L1 ++ L2).length (vrV (L1 ++ L2)) ∧ Below w.heap.size w w':=by
 have hPs:∀ i (h:i < [(v1,L1),(v2,L2)].length),PartOf w [(v1,L1),(v2,L2)][i].1 [(v1,L1),(v2,L2)][i].2:=fun i h=>by
  have hi:i = 0 ∨ i = 1:=by simp at h;omega
  rcases hi with rfl | rfl
  ·exact h1
  ·exact h2
 exact copies_row [(v1,L1),(v2,L2)] c w (L1 ++ L2) (joinL_two v1 v2 L1 L2) hPs hsum (by simp) hok
theorem chk_one (x:Vr):(chkP [x]).2 = bad none x:=by
 unfold chkP
 rw [if_neg (by simp)]
 unfold chkL
 by_cases h:bad none x = 0
 ·rw [if_pos h,h];rfl
 ·rw [if_neg h]
theorem ladd_any (A:Option Addr) (c:Nat) (l:List Vr) (x:Vr) (w:World) (h:VrsAt w A l) (hn:l.length * 32 ≤ 140737488351232) (hr:∀ x ∈ l,VrRng x) (hx:VrRng x) (hnil:A = none → l.length = 0 ∧ c = 0) (hc:l.length ≤ c) :
  Calls Tryz.prog 10 #[.slice A l.length c,.agg (vcs x).toArray] w (RowAns w (addP l x)):=by
 have HC:=Lib.hid (fun W (hb:Below w.heap.size w W)=>lcheck_any A c l W (h.below hb) hn hr hc)
 have HFa:=Lib.hid (fun W=>fault_any x W hx.shard)
 have HOk:=Lib.hid (fun (h0:(chkP l).2 = 0)=>chk_ok.1 h0)
 have HL:=Lib.hid (fun W (hb:Below w.heap.size w W)=>last_in A c l l.length W (h.below hb) rfl (by omega))
 have HA:=Lib.hid h
 have HNil:=Lib.hid hnil
 have HSh:=Lib.hid (show ∀ y ∈ l ++ [x],y.shard.size ≤ 281474976710656 from fun y hy=>by
  rcases List.mem_append.1 hy with hy | hy
  ·exact reach_ok hr y hy
  ·obtain rfl:=List.mem_singleton.1 hy
   exact reach_ok (l:=[y]) (fun z hz=>by rw [List.mem_singleton.1 hz];exact hx) y (List.mem_singleton.2 rfl))
 have hlen:(l.length:Int) ≤ 4398046511104:=by omega
 have E:=Lib.hid (show addP l x = if (chkP l).2 ≠ 0 then ([],(chkP l).2) else if (chkP [x]).2 ≠ 0 then ([],(chkP [x]).2) else if 0 < l.length ∧ x.ts ≤ lastT l then ([],110) else if 1024 ≤ l.length then ([],2) else (l ++ [x],0) from rfl)
 obtain ⟨a,e,hae⟩:∃ a e,chkP l = (a,e):=⟨_,_,rfl⟩
 obtain ⟨f,haf⟩:∃ f,bad none x = f:=⟨_,rfl⟩
 have HBn:=Lib.hid (fun (h0:bad none x = 0)=>bad_none_pos h0)
 rw [chk_one] at E
 rw [hae] at HC E HOk
 rw [haf] at HFa E HBn
 simp only at HC E HOk
 obtain ⟨xt,xs,xd⟩:=x
 clear h hr hae haf hnil hx hc
 show Calls _ _ #[_,.agg #[.int .i64 xt,.string xs,.bool xd]] _ _
 go_enter Tryz.func10,Tryz.ntmps10
 go_upto_region 1 with fail
 have hR0:Cel (w.alloc (.cells #[.int .i64 xt,.string xs,.bool xd] 43)) w.heap.size 43 [.int .i64 xt,.string xs,.bool xd]:=(blk1 w _).2
 have hB0:Below w.heap.size w (w.alloc (.cells #[.int .i64 xt,.string xs,.bool xd] 43)):=(Below.refl _ w).alloc (Nat.le_refl _) _
 generalize w.alloc (.cells #[.int .i64 xt,.string xs,.bool xd] 43) = W0 at hR0 hB0 ⊢
 go_wp2_with fail
 refine (HC.out _ hB0).mono ?_
 rintro e1 w1 ⟨rfl,hb⟩
 have hcel1:=hR0.below hb
 have HB:=Lib.hid (hB0.trans (hb.mono hB0.size))
 have HR:=Lib.hid hcel1
 clear HC hb hR0 hB0
 by_cases he:e = 0
 case neg =>
  have HF:=Lib.hid (row_ans_none (w:=w) (W:=w1) (show addP l ⟨xt,xs,xd⟩ = ([],e) by rw [E.out,if_pos he]) HB.out)
  have hz:(e == 0) = false:=by simpa using he
  clear E hcel1
  go_wp2_with fail
  go_ret2
  exact HF.out
 subst he
 have hok:=HOk.out rfl
 have hl1:l.length ≤ 1024:=hok.len
 have q0:=hcel1.cell (i:=0) rfl
 have q1:=hcel1.cell (i:=1) rfl
 have q2:=hcel1.cell (i:=2) rfl
 clear hcel1 hok
 go_wp2_with fail
 refine (HFa.out _).mono ?_
 rintro e2 w2 ⟨rfl,hb⟩
 have HR2:=Lib.hid (HR.out.below hb)
 have HB2:=Lib.hid (HB.out.trans (hb.mono HB.out.size))
 clear hb HR HB q0 q1 q2 HFa
 by_cases hf:f = 0
 case neg =>
  have HF:=Lib.hid (row_ans_none (w:=w) (W:=w2) (show addP l ⟨xt,xs,xd⟩ = ([],f) by rw [E.out,if_neg (by simp),if_pos hf]) HB2.out)
  have hz:(f == 0) = false:=by simpa using hf
  clear E
  go_wp2_with fail
  go_ret2
  exact HF.out
 subst hf
 have hxp:=HBn.out rfl
 try simp only at hxp
 have q0:=HR2.out.cell (i:=0) rfl
 have HLi:=Lib.hid (fun n=>HL.out (w2.drewN n) (HB2.out.trans ((below_drew w2.heap.size w2 n).mono HB2.out.size)))
 by_cases h4:xt ≤ lastT l
 ·have h0:0 < l.length:=by
   refine Nat.pos_of_ne_zero fun h0=>?_
   obtain rfl:l = []:=List.eq_nil_of_length_eq_zero h0
   have:lastT [] = 0:=rfl
   omega
  have HF:Hid (∀ W,Below w.heap.size w W → RowAns w (addP l ⟨xt,xs,xd⟩) (.returned (.tuple #[.slice none 0 0,.int .i64 110])) W):=Lib.hid (fun W hb=>row_ans_none (by rw [E.out,if_neg (by simp),if_neg (by simp),if_pos ⟨h0,h4⟩]) hb)
  clear h0 E HL
  generalize lastT l = lt at HLi h4
  go_upto_region 7 with fail
  go_quiet ((go_at_call 28;exact Calls.quiet_of_same (HLi.out _)))
  rename_i nq
  have HB3:=Lib.hid (HB2.out.trans ((below_drew w2.heap.size w2 nq).mono HB2.out.size))
  generalize w2.drewN nq = W3 at HB3 ⊢
  go_wp2_with fail
  go_ret2
  exact HF.out _ HB3.out
 have HNo:=Lib.hid (show ¬ (0 < l.length ∧ xt ≤ lastT l) from fun h=>h4 h.2)
 have HEn:=Lib.hid (show ∀ r,(if 1024 ≤ l.length then (([],2):List Vr × Int) else (l ++ [⟨xt,xs,xd⟩],0)) = r → addP l ⟨xt,xs,xd⟩ = r from fun r hr=>by rw [E.out,if_neg (by simp),if_neg (by simp),if_neg HNo.out];exact hr)
 clear E HL HNo
 generalize lastT l = lt at HLi h4
 go_upto_region 7 with fail
 go_quiet ((go_at_call 28;exact Calls.quiet_of_same (HLi.out _)))
 rename_i nq
 have HB23:=below_drew w2.heap.size w2 nq
 have HB3:=Lib.hid (HB2.out.trans (HB23.mono HB2.out.size))
 have HR3:=Lib.hid (HR2.out.below HB23)
 generalize w2.drewN nq = W3 at HB3 HR3 ⊢
 clear q0 HB23 HLi HB2 HR2
 by_cases hfull:l.length = 1024
 ·have HF:=Lib.hid (row_ans_none (w:=w) (W:=W3) (HEn.out ([],2) (by rw [if_pos (by omega)])) HB3.out)
  have pf:(l.length:Int) = 1024:=by omega
  have pf2:((l.length:Int) == 1024) = true:=by simp [pf]
  rw [hfull] at *
  clear HEn hfull
  go_wp2_with fail
  go_ret2
  exact HF.out
 have pf:¬ (l.length:Int) = 1024:=by omega
 have pf2:((l.length:Int) == 1024) = false:=by simpa using pf
 have q0:=HR3.out.cell (i:=0) rfl
 have q1:=HR3.out.cell (i:=1) rfl
 have q2:=HR3.out.cell (i:=2) rfl
 have hb4:Below W3.heap.size W3 (W3.alloc (.cells (vcs ⟨xt,xs,xd⟩).toArray 43)):=(Below.refl _ W3).alloc (Nat.le_refl _) _
 have HP1:PartOf (W3.alloc (.cells (vcs ⟨xt,xs,xd⟩).toArray 43)) (.slice A l.length c) l:=⟨A,c,rfl,(HA.out.below HB3.out).below hb4,HNil.out⟩
 have HP2:PartOf (W3.alloc (.cells (vcs ⟨xt,xs,xd⟩).toArray 43)) (.slice (some ⟨W3.heap.size,0,none⟩) 1 1) [⟨xt,xs,xd⟩]:=⟨_,1,rfl,one_at W3 _,fun e=>by cases e⟩
 have hsm:(l ++ [⟨xt,xs,xd⟩]:List Vr).length * 32 ≤ 140737488355328:=by rw [List.length_append,List.length_singleton];omega
 have HCp:=copies_two (.slice A l.length c) (.slice (some ⟨W3.heap.size,0,none⟩) 1 1) l [⟨xt,xs,xd⟩] 2 (W3.alloc (.cells (vcs ⟨xt,xs,xd⟩).toArray 43)) HP1 HP2 hsm HSh.out
 have HB4:=Lib.hid (HB3.out.trans (hb4.mono HB3.out.size))
 have hz4:(W3.alloc (.cells (vcs ⟨xt,xs,xd⟩).toArray 43)).heap.size = W3.heap.size + 1:=by simp
 have HB4s:=Lib.hid (show w.heap.size ≤ W3.heap.size + 1 by have:=HB3.out.size;omega)
 rw [hz4] at HCp
 have HCp:Hid (Calls Tryz.prog 29 #[.slice (some ⟨W3.heap.size + 1,0,none⟩) 2 2] ((W3.alloc (.cells #[.int .i64 xt,.string xs,.bool xd] 43)).alloc (.cells #[.slice A l.length c,.slice (some ⟨W3.heap.size,0,none⟩) 1 1] 35)) _):=Lib.hid HCp
 clear hz4
 have hrr:=HEn.out (l ++ [⟨xt,xs,xd⟩],0) (by rw [if_neg (by omega)])
 have HRr:=Lib.hid hrr
 clear HEn hfull HP1 HP2 hb4 hsm hrr
 go_wp2_with fail
 refine HCp.out.mono ?_
 rintro e5 w5 ⟨v5,rfl,ho,hb⟩
 have HF:Hid (RowAns w (addP l ⟨xt,xs,xd⟩) (.returned (.tuple #[v5,.int .i64 0])) w5):=Lib.hid (by
  rw [HRr.out]
  exact ⟨v5,rfl,own_base ho HB4s.out,HB4.out.trans (hb.mono HB4s.out)⟩)
 clear ho hb HCp
 go_wp2_with fail
 go_ret2
 exact HF.out
end Ch
end Go.Proofs.YtlfkhlfkckfbpaaGreat
namespace Go.Proofs.YtlfkhlfkckfbpaaGreat
namespace Sh
open Ch Rc Lt
def vrW (ts:Int) (x:Wr):Vr:=⟨ts,x.shard,x.dead⟩
structure MayW (ts:Int) (ws:List Wr):Prop where
 ts:1 ≤ ts ∧ ts ≤ 1125899906842624
 each:∀ x ∈ ws,keyOk x.key ∧ wrOk x
 apart:ws.Pairwise (fun x y=>x.key ≠ y.key)
theorem MayW.vr {ts:Int} {ws:List Wr} (h:MayW ts ws) {x:Wr} (hx:x ∈ ws):vrOk (vrW ts x):=by
 have:=(h.each x hx).2
 unfold wrOk at this
 exact ⟨h.ts.1,h.ts.2,this.1,this.2⟩
theorem add_is {l:List Vr} (h:ChOk l) {v:Vr} (hv:vrOk v):addP l v = if v.ts ≤ lastT l then ([],110) else if 1024 ≤ l.length then ([],2) else (l ++ [v],0):=by
 have h2:(chkP [v]).2 = 0:=chk_ok.2 ⟨by simp,fun x hx=>by rw [List.mem_singleton.1 hx];exact hv,by simp⟩
 unfold addP
 rw [if_neg (by rw [chk_zero h];simp),if_neg (by rw [h2];simp)]
 by_cases h0:v.ts ≤ lastT l
 ·have hl:0 < l.length:=by
   cases l with
   | nil=>have:=hv.1;simp [lastT] at h0;omega
   | cons _ _=>simp
  rw [if_pos ⟨hl,h0⟩,if_pos h0]
 ·rw [if_neg (fun hc=>h0 hc.2),if_neg h0]
def writeP (s:Shf) (ts:Int) (ws:List Wr):Shf × Int :=
 if ws.any (fun x=>decide (ts ≤ lastT (chainK s.k x.key))) then (s,110)
 else if longW s.k ws s.k.length then (s,2)
 else (⟨addW ts ws s.k,s.p,s.e,s.over⟩,0)
def newN (k:List Kc) (ws:List Wr):Nat:=(ws.filter (fun x=>!hasK k x.key)).length
theorem longW_is {k:List Kc}:∀ {ws:List Wr} {n:Nat},n ≤ 1024 → longW k ws n = (ws.any (fun x=>decide (1024 ≤ (chainK k x.key).length)) || decide (1024 < n + newN k ws))
 | [],n,h=>by
  show false = (false || decide (1024 < n + 0))
  rw [decide_eq_false (by omega)];rfl
 | x :: r,n,h=>by
  have hn:newN k (x :: r) = (if hasK k x.key then 0 else 1) + newN k r:=by
   unfold newN
   cases hh:hasK k x.key with
   | true=>rw [List.filter_cons_of_neg (by simp [hh])];simp
   | false=>rw [List.filter_cons_of_pos (by simp [hh]),List.length_cons];simp;omega
  unfold longW
  rw [List.any_cons,hn]
  by_cases h1:(if hasK k x.key then n else n + 1) ≤ 1024
  ·rw [longW_is h1]
   have h2:¬ 1024 < (if hasK k x.key then n else n + 1):=by omega
   rw [decide_eq_false h2]
   cases hasK k x.key
   ·simp only [Bool.false_eq_true,if_false]
    rw [show n + 1 + newN k r = n + (1 + newN k r) by omega,Bool.or_false,Bool.or_assoc]
   ·simp only [if_true]
    rw [Nat.zero_add,Bool.or_false,Bool.or_assoc]
  ·have h2:1024 < (if hasK k x.key then n else n + 1):=by omega
   have h3:1024 < n + ((if hasK k x.key then 0 else 1) + newN k r):=by
    cases hh:hasK k x.key
    ·rw [hh] at h2;simp at h2 ⊢;omega
    ·rw [hh] at h2;simp at h2;omega
   rw [decide_eq_true h2,decide_eq_true h3]
   simp
theorem chain_none {k:List Kc} (hz:∀ x ∈ k,x.l ≠ []) {key:ByteArray}:chainK k key = [] ↔ hasK k key = false:=by
 unfold chainK hasK
 cases hf:findK k key with
 | none=>simp
 | some x=>simp [hz x (find_mem hf).1]
theorem ver_write {s:Shf} (hs:ShOk s) {key:ByteArray} {v:Vr} (hv:vrOk v):verP s key v = writeP s v.ts [⟨key,v.shard,v.dead⟩]:=by
 have hc:=hs.kok.chain key
 have ha:=add_is hc hv
 have hl:=hs.kl
 have e1:([⟨key,v.shard,v.dead⟩]:List Wr).any (fun x=>decide (v.ts ≤ lastT (chainK s.k x.key))) = decide (v.ts ≤ lastT (chainK s.k key)):=by simp
 have e2:([⟨key,v.shard,v.dead⟩]:List Wr).any (fun x=>decide (1024 ≤ (chainK s.k x.key).length)) = decide (1024 ≤ (chainK s.k key).length):=by simp
 unfold verP writeP
 rw [longW_is hs.kl,e1,e2]
 by_cases h1:v.ts ≤ lastT (chainK s.k key)
 ·rw [if_pos h1] at ha
  rw [ha,if_pos (by simp),decide_eq_true h1,if_pos rfl]
 ·rw [if_neg h1] at ha
  rw [decide_eq_false h1]
  by_cases h2:1024 ≤ (chainK s.k key).length
  ·rw [if_pos h2] at ha
   rw [ha,if_pos (by simp),if_neg (by simp),decide_eq_true h2,if_pos (by simp)]
  ·rw [if_neg h2] at ha
   rw [ha,if_neg (by simp),decide_eq_false h2,Bool.false_or,if_neg (c:=false = true) (by simp)]
   cases hh:hasK s.k key with
   | true =>
    have e:newN s.k [⟨key,v.shard,v.dead⟩] = 0:=by unfold newN;simp [hh]
    rw [e,if_neg (by simp),if_neg (by simp;omega)]
    rfl
   | false =>
    have e:newN s.k [⟨key,v.shard,v.dead⟩] = 1:=by unfold newN;simp [hh]
    rw [e]
    by_cases h3:1024 ≤ s.k.length
    ·rw [if_pos ⟨rfl,h3⟩,if_pos (by simp;omega)]
    ·rw [if_neg (fun hx=>h3 hx.2),if_neg (by simp;omega)]
     rfl
theorem addW_app {ts:Int} (x:Wr):∀ (a:List Wr) (k:List Kc),addW ts (a ++ [x]) k = addK (addW ts a k) x.key ⟨ts,x.shard,x.dead⟩
 | [],_=>rfl
 | y :: r,k=>by
  show addW ts (r ++ [x]) _ = _
  rw [addW_app x r]
  rfl
theorem addW_next {k:List Kc} (hk:KOk k) {ts:Int} {ws:List Wr} (hm:MayW ts ws) (hl:∀ x ∈ ws,lastT (chainK k x.key) < ts) (hn:∀ x ∈ ws,(chainK k x.key).length < 1024) {j:Nat} (hj:j < ws.length) :
  addW ts (ws.take (j + 1)) k = putK (addW ts (ws.take j) k) ws[j].key (chainK k ws[j].key ++ [vrW ts ws[j]]) ∧ KOk (addW ts (ws.take j) k):=by
 have hsub:∀ x ∈ ws.take j,x ∈ ws:=fun x hx=>List.mem_of_mem_take hx
 obtain ⟨i1,i2,_⟩:=addW_ok hm.ts (ws.take j) k hk (fun x hx=>hm.each x (hsub x hx)) (hm.apart.sublist (List.take_sublist ..)) (fun x hx=>hl x (hsub x hx)) (fun x hx=>hn x (hsub x hx))
 refine ⟨?_,i1⟩
 rw [List.take_succ_eq_append_getElem hj,addW_app]
 unfold addK
 have hch:chainK (addW ts (ws.take j) k) ws[j].key = chainK k ws[j].key:=i2 _ (fun x hx e=>by
  obtain ⟨i,hi,rfl⟩:=List.getElem_of_mem hx
  rw [List.length_take] at hi
  rw [List.getElem_take] at e
  exact List.pairwise_iff_getElem.1 hm.apart i j (by omega) hj (by omega) e)
 rw [hch,add_is (hk.chain _) (v:=⟨ts,ws[j].shard,ws[j].dead⟩) (hm.vr (List.getElem_mem hj))]
 have h1:=hl _ (List.getElem_mem hj)
 have h2:=hn _ (List.getElem_mem hj)
 rw [if_neg (by show ¬ ts ≤ _;omega),if_neg (by omega)]
 rfl
end Sh
end Go.Proofs.YtlfkhlfkckfbpaaGreat
