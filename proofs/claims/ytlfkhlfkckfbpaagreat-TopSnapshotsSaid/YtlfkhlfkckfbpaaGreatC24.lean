/- Parts of the proof, joined: LlC4, LlC5, LlC6, TpWorld, ScInts; their conditions stand with each. -/
import Derived.Deep.SlicePairs
import Derived.Test.YtlfkhlfkckfbpaaGreatC1
import Derived.Test.YtlfkhlfkckfbpaaGreatC5
import Derived.Test.YtlfkhlfkckfbpaaGreatC22
import Derived.Test.YtlfkhlfkckfbpaaGreatC23

set_option maxRecDepth 20000
set_option maxHeartbeats 8000000
namespace Go.Proofs.YtlfkhlfkckfbpaaGreat
namespace Ll
open Go.RowKit Bk Ls
attribute [local go_sem ↓] Go.wp_at_zero Go.wp_at_succ
attribute [local go_sem] floatUpon pick
theorem Tryz.zeroLl:∀ W:World,(zeroValue 91).run Tryz.prog W = .ok (.agg #[.int .i64 0,.int .i64 0,.int .i64 0]) W:=fun W=>by kernel_rfl
theorem zero_mem (m:Nat):∀ v ∈ (Builtin.zeroCells (Value.agg #[.int .i64 0,.int .i64 0,.int .i64 0]).cells m).toList,v = .int .i64 0:=fun v hv=>by
 simp only [Builtin.zeroCells,Value.cells,Array.toList_map,List.mem_map] at hv
 obtain ⟨i,_,rfl⟩:=hv
 have h3:i % 3 = 0 ∨ i % 3 = 1 ∨ i % 3 = 2:=by omega
 rcases h3 with h | h | h <;> simp [h]
theorem zero_len (m:Nat):(Builtin.zeroCells (Value.agg #[.int .i64 0,.int .i64 0,.int .i64 0]).cells m).toList.length = m * 3:=by
 rw [Array.length_toList,size_zeroCells];rfl
def zerosL (m:Nat):List Value:=List.replicate (m * 3) (.int .i64 0)
theorem zero_is (m:Nat):(Builtin.zeroCells (Value.agg #[.int .i64 0,.int .i64 0,.int .i64 0]).cells m).toList = zerosL m:=by
 unfold zerosL
 rw [List.eq_replicate_iff]
 exact ⟨zero_len m,zero_mem m⟩
theorem run_clear_l (W:World) (ty:TypeId) (b o m c:Nat) (cur:Array Value) (hg:W.heap[b]? = some (.cells cur 91 (0,0))) (ho:o + m * 3 ≤ cur.size) (hm:m ≠ 0) :
  (Builtin.clear_ #[77] ty #[.slice (some ⟨b,o,none⟩) m c]).run Tryz.prog W = .ok (.tuple #[]) (W.setRow b (cur.toList.take o ++ zerosL m ++ cur.toList.drop (o + m * 3)).toArray):=by
 have hz:=Tryz.zeroLl
 have hl:(zerosL m).length = m * 3:=by simp [zerosL]
 have hst:=run_storeCells_at Tryz.prog b o 91 (zerosL m) 0 cur W hg (by rw [hl];omega) (by intro u hu;rw [(List.mem_replicate.1 hu).2];rfl)
 simp only [Nat.add_zero,hl] at hst
 obtain ⟨k,rfl⟩:∃ k,m = k + 1:=⟨m - 1,by omega⟩
 simp [Builtin.clear_,run_underlying Tryz.underlying77,hz,zero_is,hst]
theorem fl_set3:∀ (l:List Le) (rest:List Value) (k:Nat) (x:Le),k < l.length →
  (((l.flatMap leC ++ rest).set (k * 3) (.int .i64 x.n)).set (k * 3 + 1) (.int .i64 x.t)).set (k * 3 + 2) (.int .i64 x.u) = (l.set k x).flatMap leC ++ rest
 | [],_,k,_,h=>by simp at h
 | y :: r,rest,0,x,_=>by simp [leC]
 | y :: r,rest,k + 1,x,h=>by
  have ih:=fl_set3 r rest k x (by simpa using h)
  rw [List.set_cons_succ,List.flatMap_cons,List.flatMap_cons,List.append_assoc,List.append_assoc,← ih]
  rw [show (k + 1) * 3 = k * 3 + 3 by omega,show k * 3 + 3 + 1 = k * 3 + 1 + 3 by omega,show k * 3 + 3 + 2 = k * 3 + 2 + 3 by omega]
  simp [leC,List.set_cons_succ]
theorem gb_trans {A B C:World} {p:Option Nat} (h:A.grownBy B p) (k:B.grownBy C p):A.grownBy C p :=
 ⟨k.os.trans h.os,k.tape.trans h.tape,k.output.trans h.output,Nat.le_trans h.size k.size,fun i hi hn=>(k.block i (Nat.lt_of_lt_of_le hi h.size) hn).trans (h.block i hi hn)⟩
theorem gb_below {A B:World} {p:Option Nat} (h:Below A.heap.size A B):A.grownBy B p:=⟨h.os,h.tape,h.output,h.size,fun i hi _=>h.block i hi⟩
theorem gb_row (W:World) (b:Nat) (cs:Array Value):W.grownBy (W.setRow b cs) (some b):=by
 exact ⟨by rfl,by rfl,by rfl,by simp,fun k _ hn=>setRow_other W b k _ (fun e=>hn (by rw [e]))⟩
structure Dl (L:List Le) (now:Int) (j:Nat) (C:List Le):Prop where
 len:C.length = L.length
 pre:C.take (lv (L.take j) now).length = lv (L.take j) now
 post:∀ k,j ≤ k → C[k]? = L[k]?
theorem Dl.start {L:List Le} {now:Int} {j:Nat} (hj:j < L.length) (hu:(g L j).u < now) (hno:∀ k,k < j → ¬ (g L k).u < now):Dl L now (j + 1) L ∧ (lv (L.take (j + 1)) now).length = j:=by
 have e:lv (L.take (j + 1)) now = L.take j:=by rw [lv_snoc hj,if_neg (by omega),lv_take (by omega) hno]
 have e2:(L.take j).length = j:=by rw [List.length_take];omega
 exact ⟨⟨rfl,by rw [e,e2],fun _ _=>rfl⟩,by rw [e,e2]⟩
theorem lv_le (L:List Le) (now:Int) (j:Nat):(lv (L.take j) now).length ≤ j:=by
 have:=lv_len (L.take j) now
 rw [List.length_take] at this
 omega
theorem Dl.at_j {L C:List Le} {now:Int} {j:Nat} (h:Dl L now j C) (hj:j < L.length):g C j = g L j:=by
 have e:=h.post j (Nat.le_refl _)
 rw [at_g hj] at e
 exact g_at e
theorem Dl.over {L C:List Le} {now:Int} {j:Nat} (h:Dl L now j C) (hj:j < L.length) (hu:(g L j).u < now):Dl L now (j + 1) C ∧ (lv (L.take (j + 1)) now).length = (lv (L.take j) now).length:=by
 have e:lv (L.take (j + 1)) now = lv (L.take j) now:=by rw [lv_snoc hj,if_neg (by omega)]
 exact ⟨⟨h.len,by rw [e];exact h.pre,fun k hk=>h.post k (by omega)⟩,by rw [e]⟩
theorem Dl.live {L C:List Le} {now:Int} {j:Nat} (h:Dl L now j C) (hj:j < L.length) (hu:¬ (g L j).u < now):Dl L now (j + 1) (C.set (lv (L.take j) now).length (g L j)) ∧ (lv (L.take (j + 1)) now).length = (lv (L.take j) now).length + 1:=by
 have e:lv (L.take (j + 1)) now = lv (L.take j) now ++ [g L j]:=by rw [lv_snoc hj,if_pos (by omega)]
 have hi:=lv_le L now j
 have e2:(lv (L.take (j + 1)) now).length = (lv (L.take j) now).length + 1:=by rw [e,List.length_append];rfl
 refine ⟨⟨by rw [List.length_set];exact h.len,?_,fun k hk=>?_⟩,e2⟩
 ·rw [e2,e,List.take_set]
  rw [List.take_succ_eq_append_getElem (by rw [h.len];omega),h.pre]
  rw [List.set_append_right _ _ (Nat.le_refl _),Nat.sub_self]
  rfl
 ·rw [List.getElem?_set_ne (by omega)]
  exact h.post k (by omega)
section
variable {W W':World} {base:Nat} {v:Value} {l:List Le}
def DfP (W:World) (base:Nat) (v:Value) (L:List Le) (now:Int) (e:Ending) (W':World):Prop:=∃ v',e = .returned v' ∧ DRow W' base v' (lv L now) ∧ v'.ownBlock = v.ownBlock ∧ W.grownBy W' v.ownBlock
theorem deleteF_any {L:List Le} {pc:Nat} (h:DRow W base v L) (h10:L.length ≤ 1024) {now:Int} (hc:Cel W pc 3 [.int .i64 now]):Calls Tryz.prog 34 #[v,overF pc] W fun e W'=>DfP W base v L now e W':=by
 have hlen:(L.length:Int) ≤ 1024:=by omega
 have HC3:=Lib.hid hc
 have HR:=Lib.hid h
 obtain ⟨A,c,rfl⟩:=h.form
 have HF:=Lib.hid (indexF_any h h10 hc)
 clear h hc
 unfold overF at *
 go_enter Tryz.func34,Tryz.ntmps34
 go_wp2_with fail
 refine HF.out.mono ?_
 rintro e w2 ⟨hF,hb⟩
 have HB:=Lib.hid hb
 clear HF
 rcases hF with ⟨j0,rfl,hj0,hu0,hno0⟩ | ⟨rfl,hall⟩
 ·obtain ⟨p,cap,rest,hv,hbp,hcel,h1,h2,h3⟩:=HR.out.blk (by omega)
  simp only [Value.slice.injEq,true_and] at hv
  obtain ⟨rfl,rfl⟩:=hv
  have HBl:=Lib.hid (And.intro hbp (And.intro h1 (And.intro h2 h3)))
  have HS:=Lib.hid (Dl.start hj0 hu0 hno0)
  have HCel:=Lib.hid (hcel.below hb)
  have HC4:=Lib.hid (HC3.out.below hb)
  have hne:¬ p = pc:=fun e=>by
   have k1:W.heap[p]? = _:=hcel
   have k2:W.heap[pc]? = _:=HC3.out
   rw [← e,k1] at k2
   simp only [Option.some.injEq,Obj.cells.injEq] at k2
   exact absurd k2.2.1 (by decide)
  have HNe:=Lib.hid hne
  have pj:(j0:Int) < (L.length:Int):=by omega
  have pj0:((j0:Int) == -1) = false:=by rw [beq_eq_false_iff_ne];omega
  have pc1:(L.length:Int) ≤ (c:Int):=by omega
  have pc2:(c:Int) ≤ 9223372036854775807:=by unfold maxLen at h2;omega
  clear hb hcel hbp h1 h2 h3 hu0 hno0 hne
  go_wp2_with fail
  go_loopw [5,6] (fun iv jv wr=>∃ (j:Nat) (C:List Le),j ≤ L.length ∧ jv = .int .i64 (j:Int) ∧ iv = .int .i64 ((lv (L.take j) now).length:Int) ∧ (lv (L.take j) now).length < j ∧ Hid (Dl L now j C) ∧ Hid (Cel wr p 91 (C.flatMap leC ++ rest)) ∧ Hid (W.grownBy wr (some p)) ∧ Hid (Cel wr pc 3 [.int .i64 now])) (fun _ jv _=>L.length - (intOf jv).toNat)
  case atStart=>exact ⟨j0 + 1,L,by omega,by go_num,by rw [HS.out.2],by rw [HS.out.2];omega,Lib.hid HS.out.1,HCel,Lib.hid (gb_below HB.out),HC4⟩
  case round =>
   obtain ⟨j,C,hj,rfl,rfl,hij,hd,hcel,hgr,hpc⟩:=hrel
   clear HS HCel HC4 HC3 HR HB
   by_cases hlt:j < L.length
   ·have hdj:=hd.out.at_j hlt
    have hCl:=hd.out.len
    have x0:=dcell_of hcel.out (k:=j) (by omega) (j:=0) (by omega) rfl
    have x1:=dcell_of hcel.out (k:=j) (by omega) (j:=1) (by omega) rfl
    have x2:=dcell_of hcel.out (k:=j) (by omega) (j:=2) (by omega) rfl
    rw [hdj] at x0 x1 x2
    simp only [Nat.add_zero] at x0
    have p1:(j:Int) < (L.length:Int):=by omega
    have hov:=Lib.hid (fun (q:(g L j).u < now)=>hd.out.over hlt q)
    have hli:=Lib.hid (fun (q:¬ (g L j).u < now)=>hd.out.live hlt q)
    generalize hX:g L j = x at x0 x1 x2 hov hli
    generalize hI:(lv (L.take j) now).length = i at hov hli hij ⊢
    have p2:(i:Int) < (j:Int):=by omega
    have HD:=Lib.hid (And.intro hCl hij)
    have hB0:Below wr.heap.size wr (wr.alloc (.cells #[.int .i64 x.n,.int .i64 x.t,.int .i64 x.u] 91)):=(Below.refl _ wr).alloc (Nat.le_refl _) _
    have hR0:Cel (wr.alloc (.cells #[.int .i64 x.n,.int .i64 x.t,.int .i64 x.u] 91)) wr.heap.size 91 [.int .i64 x.n,.int .i64 x.t,.int .i64 x.u]:=(blk1 wr _).2
    have HI:=Lib.hid (over_in (hpc.out.below hB0) x)
    have HCel:=Lib.hid (hcel.out.below hB0)
    have HPc:=Lib.hid (hpc.out.below hB0)
    have HG:=Lib.hid (gb_trans hgr.out (gb_below (p:=some p) hB0))
    go_upto_region 8 with fail
    have q0:=hR0.cell (i:=0) rfl
    have q1:=hR0.cell (i:=1) rfl
    have q2:=hR0.cell (i:=2) rfl
    have HR0:=Lib.hid hR0
    generalize hG:wr.heap.size = G at *
    generalize wr.alloc (.cells #[.int .i64 x.n,.int .i64 x.t,.int .i64 x.u] 91) = W1 at *
    clear hR0 hB0 x0 x1 x2 hG hX hI hd hcel hgr hpc hdj hCl hij
    by_cases hu:x.u < now
    ·rw [decide_eq_true hu] at HI
     have HE:=Lib.hid (hov.out hu)
     clear hov hli hu
     go_wp2_with fail
     refine HI.out.mono ?_
     rintro e w5 ⟨rfl,hb5⟩
     have HCel5:=Lib.hid (HCel.out.below hb5)
     have HPc5:=Lib.hid (HPc.out.below hb5)
     have HG5:=Lib.hid (gb_trans HG.out (gb_below (p:=some p) hb5))
     clear hb5 HI q0 q1 q2 HCel HPc HG HR0
     go_wp2_with fail
     go_roundw
     case rel=>exact ⟨j + 1,C,by omega,by go_num,by rw [HE.out.2],by rw [HE.out.2];have:=HD.out.2;omega,Lib.hid HE.out.1,HCel5,HG5,HPc5⟩
     case measure=>simp [intOf];omega
    ·rw [decide_eq_false hu] at HI
     have HE:=Lib.hid (hli.out hu)
     clear hov hli hu
     go_wp2_with fail
     refine HI.out.mono ?_
     rintro e w5 ⟨rfl,hb5⟩
     have HCel5:=Lib.hid (HCel.out.below hb5)
     have HPc5:=HPc.out.below hb5
     have HG5:=Lib.hid (gb_trans HG.out (gb_below (p:=some p) hb5))
     have q0:=(HR0.out.below hb5).cell (i:=0) rfl
     have q1:=(HR0.out.below hb5).cell (i:=1) rfl
     have q2:=(HR0.out.below hb5).cell (i:=2) rfl
     have hC':=((HCel5.out.set (i:=i * 3) (v:=.int .i64 x.n)).set (i:=i * 3 + 1) (v:=.int .i64 x.t)).set (i:=i * 3 + 2) (v:=.int .i64 x.u)
     rw [fl_set3 C rest i x (by rw [HD.out.1];have:=HD.out.2;omega)] at hC'
     have HC':=Lib.hid hC'
     have HPc':=Lib.hid (((HPc5.far (g':=p) (i:=i * 3) (v:=.int .i64 x.n) (Ne.symm HNe.out)).far (g':=p) (i:=i * 3 + 1) (v:=.int .i64 x.t) (Ne.symm HNe.out)).far (g':=p) (i:=i * 3 + 2) (v:=.int .i64 x.u) (Ne.symm HNe.out))
     have HG':=Lib.hid (gb_trans (gb_trans (gb_trans HG5.out (grow_put _ p (i * 3) (.int .i64 x.n))) (grow_put _ p (i * 3 + 1) (.int .i64 x.t))) (grow_put _ p (i * 3 + 2) (.int .i64 x.u)))
     have c0:=fun k z (hz:(C.flatMap leC ++ rest)[k]? = some z)=>HCel5.out.cell hz
     have y0:=dcell_of HCel5.out (k:=i) (by rw [HD.out.1];have:=HD.out.2;omega) (j:=0) (by omega) rfl
     have y1:=dcell_of HCel5.out (k:=i) (by rw [HD.out.1];have:=HD.out.2;omega) (j:=1) (by omega) rfl
     have y2:=dcell_of HCel5.out (k:=i) (by rw [HD.out.1];have:=HD.out.2;omega) (j:=2) (by omega) rfl
     simp only [Nat.add_zero] at y0
     have f0:=fun k=>HCel5.out.free (i:=k)
     clear hb5 HI HCel HPc HG HR0 HPc5 hC' c0
     go_wp2_with fail
     go_roundw
     case rel=>exact ⟨j + 1,C.set i x,by omega,by go_num,by rw [HE.out.2];go_num,by rw [HE.out.2];have:=HD.out.2;omega,Lib.hid HE.out.1,HC',HG',HPc'⟩
     case measure=>simp [intOf];omega
   ·obtain rfl:j = L.length:=by omega
    rw [List.take_length] at *
    have hd':=hd.out
    have hpre:=hd'.pre
    rw [List.take_length] at hpre
    have hCl:=hd'.len
    generalize hI:(lv L now).length = i at *
    have hsize:∀ V:World,(sizeOf (Tryz.prog.elem 77)).run Tryz.prog V = .ok 3 V:=fun V=>by kernel_rfl
    have hbl:=HBl.out
    have f1:∀ V:World,(Instr.slice 77 (.slice (some ⟨p,0,none⟩) L.length c) (some (.int .i64 (i:Int))) none none).run Tryz.prog V = .ok (.slice (some ⟨p,i * 3,none⟩) (L.length - i) (c - i)) V:=fun V=>by
     rw [run_slice_l (P:=Tryz.prog) V 77 (some ⟨p,0,none⟩) L.length c Tryz.underlying77 .i64 (i:Int) (by omega) (by omega),hsize]
     have h1:¬ c = i:=by omega
     have ea:(⟨p,0,none⟩:Addr).add (i * 3) = ⟨p,i * 3,none⟩:=by unfold Addr.add;split <;> simp_all
     simp [sliced,h1,ea]
    have f2:∀ V:World,(Instr.slice 77 (.slice (some ⟨p,0,none⟩) L.length c) none (some (.int .i64 (i:Int))) none).run Tryz.prog V = .ok (.slice (some ⟨p,0,none⟩) i c) V:=fun V=>by
     rw [run_slice_h (P:=Tryz.prog) V 77 (some ⟨p,0,none⟩) L.length c Tryz.underlying77 .i64 (i:Int) (by omega) (by omega),hsize]
     simp [sliced,show (⟨p,0,none⟩:Addr).add 0 = ⟨p,0,none⟩ from rfl]
    have f3:∀ ty,(Builtin.clear_ #[77] ty #[.slice (some ⟨p,i * 3,none⟩) (L.length - i) (c - i)]).run Tryz.prog wr = .ok (.tuple #[]) (wr.setRow p ((lv L now).flatMap leC ++ (zerosL (L.length - i) ++ rest)).toArray):=fun ty=>by
     rw [run_clear_l wr ty p (i * 3) (L.length - i) (c - i) _ hcel.out (by rw [List.size_toArray,List.length_append,fl_len,hCl];omega) (by omega)]
     congr 3
     have e1:((C.flatMap leC ++ rest)).take (i * 3) = (lv L now).flatMap leC:=by
      rw [← hpre,List.take_append_of_le_length (by rw [fl_len];omega)]
      have e:C.flatMap leC = (C.take i).flatMap leC ++ (C.drop i).flatMap leC:=by rw [← List.flatMap_append,List.take_append_drop]
      have hn:((C.take i).flatMap leC).length = i * 3:=by rw [fl_len,List.length_take,Nat.min_eq_left (by omega)]
      rw [e,← hn,List.take_left]
     have e2:(C.flatMap leC ++ rest).drop (i * 3 + (L.length - i) * 3) = rest:=by
      rw [List.drop_append,List.drop_of_length_le (by rw [fl_len,hCl];omega),List.nil_append,fl_len,hCl,show i * 3 + (L.length - i) * 3 - L.length * 3 = 0 by omega,List.drop_zero]
     rw [List.toList_toArray,e1,e2,List.append_assoc]
    have HD:=Lib.hid (show DfP W base (.slice (some ⟨p,0,none⟩) L.length c) L now (.returned (.slice (some ⟨p,0,none⟩) i c)) (wr.setRow p ((lv L now).flatMap leC ++ (zerosL (L.length - i) ++ rest)).toArray) from by
     refine ⟨_,rfl,?_,rfl,gb_trans hgr.out (gb_row _ _ _)⟩
     have:=DRow.of (W:=wr.setRow p ((lv L now).flatMap leC ++ (zerosL (L.length - i) ++ rest)).toArray) (l:=lv L now) (rest:=zerosL (L.length - i) ++ rest) (cap:=c) hbl.1 (setRow_heap wr p _ _ _ _ hcel.out) (by omega) hbl.2.2.1 (by rw [List.length_append];simp only [zerosL,List.length_replicate];omega)
     rw [hI] at this
     exact this)
    have p2:(i:Int) < (L.length:Int):=by omega
    clear hd hd' hpre hCl hI hbl hsize hcel hgr hpc HBl hij
    go_upto_region 12 with fail
    go_wp2_with fail
    go_ret
    exact HD.out
 ·have HF:Hid (DfP W base (.slice A L.length c) L now (.returned (.slice A L.length c)) w2):=Lib.hid ⟨_,rfl,by rw [hall];exact st_keep HR.out hb,rfl,gb_below hb⟩
  clear hb hall HB HC3 HR
  go_wp2_with fail
  go_ret
  exact HF.out
end
section
variable {W W' W1:World} {base:Nat} {v:Value} {l:List Le}
theorem LM.trans {A B C:World} {r:Nat} {u v x:Value} (h:LM A B r u v) (k:LM B C r v x):LM A C r u x :=
 ⟨k.os.trans h.os,k.tape.trans h.tape,k.output.trans h.output,Nat.le_trans h.size k.size,
  fun i hi hb hn=>(k.block i (Nat.lt_of_lt_of_le hi h.size) hb (fun e=>(h.own i e).elim hn (fun q=>by omega))).trans (h.block i hi hb hn),
  fun q hq=>(k.own q hq).elim (fun e=>h.own q e) (fun s=>.inr (Nat.le_trans h.size s))⟩
theorem LQ.put2 {r:Nat} {D:Tb} {v':Value} {L':List Le} (h:LQ W base r v D) (hg:W.grownBy W1 v.ownBlock) (hr:DRow W1 base v' L') (he:v'.ownBlock = v.ownBlock):LQ (W1.setCell ⟨r,2,none⟩ v') base r v' ⟨D.long,D.many,L'⟩ ∧ LM W (W1.setCell ⟨r,2,none⟩ v') r v v':=by
 have hf:v'.ownBlock ≠ some r:=by rw [he];exact h.far
 have g:=grow_put W1 r 2 v'
 have hc1:Cel W1 r 79 [.int .i64 D.long,.int .i64 D.many,v]:=(hg.block r h.cel.lt (fun e=>h.far e.symm)).trans h.cel
 refine ⟨⟨hc1.set (i:=2) (v:=v'),hr.same (fun p hp=>g.block p (hr.lt hp).1 (fun e=>hf (by rw [hp,e]))),hf,h.rb,Nat.le_trans h.bs (Nat.le_trans hg.size g.size)⟩,
  g.os.trans hg.os,g.tape.trans hg.tape,g.output.trans hg.output,Nat.le_trans hg.size g.size,fun k hk hn hm=>(g.block k (Nat.lt_of_lt_of_le hk hg.size) (fun e=>hn (Option.some.inj e))).trans (hg.block k hk (fun e=>hm e.symm)),fun q hq=>.inl (by rw [← he];exact hq)⟩
theorem LQ.count {r:Nat} {D:Tb} (h:LQ W base r v D) (m:Int):LQ (W.setCell ⟨r,1,none⟩ (.int .i64 m)) base r v ⟨D.long,m,D.L⟩ ∧ LM W (W.setCell ⟨r,1,none⟩ (.int .i64 m)) r v v:=by
 have g:=grow_put W r 1 (.int .i64 m)
 exact ⟨⟨h.cel.set (i:=1) (v:=.int .i64 m),h.row.same (fun p hp=>g.block p (h.row.lt hp).1 (fun e=>h.far (by rw [hp,e]))),h.far,h.rb,Nat.le_trans h.bs g.size⟩,
  g.os,g.tape,g.output,g.size,fun k hk hn _=>g.block k hk (fun e=>hn (Option.some.inj e)),fun q hq=>.inl hq⟩
end
section
variable {W W' W1:World} {base:Nat} {v:Value} {l:List Le}
def GrO (o:Option Nat) (T:TypeId) (pre us:List Value) (W W':World):Prop :=
 Below W.heap.size W W' ∨ ∃ (g:Nat) (cur:Array Value),o = some g ∧ W.heap[g]? = some (.cells cur T (0,0)) ∧ pre.length + us.length ≤ cur.size ∧ cur.toList.take pre.length = pre ∧ W' = W.setRow g (pre ++ us ++ cur.toList.drop (pre.length + us.length)).toArray
theorem GrO.n {o:Option Nat} {T:TypeId} {pre us:List Value} (h:GrO o T pre us W W'):GrN 0 T pre us W W':=by
 rcases h with h | ⟨g,cur,_,h2⟩
 ·exact .inl h
 ·exact .inr ⟨g,cur,Nat.zero_le _,h2⟩
theorem GrO.grown {o:Option Nat} {T:TypeId} {pre us:List Value} (h:GrO o T pre us W W'):W.grownBy W' o:=by
 rcases h with h | ⟨g,cur,rfl,_,_,_,rfl⟩
 ·exact gb_below h
 ·exact gb_row _ _ _
theorem run_growO {P:Program} {T:TypeId} {H bytes sz n m c:Nat} {pre us:List Value} {A:Option Addr} {t ty:TypeId} {i:TypeInfo} {z v:Value} (ht:P.underlying t = some (.slice T)) (hi:P.info? T = some i) (hz:i.zero = some z) (hsize:i.size = sz) (hby:i.bytes = bytes) (hzs:z.cells.size = sz) (h0:0 < sz)
  (hown:W.ownsRow H T sz v n pre) (hl:us.length = m * sz) (hA:A = none → m = 0 ∧ c = 0) (hnews:∀ ad,A = some ad → ∀ j u,us[j]? = some u → W.cell? (ad.add j) = some u) (h1:∀ u ∈ us,u.oneCell' = true)
  (h63:n + m ≤ maxLen) (hbytes:(n + m) * bytes ≤ 140737488355328) (hbase:H ≤ W.heap.size) :
  ∃ v' W',(Builtin.append_ #[t,t] ty #[v,.slice A m c]).run P W = .ok v' W' ∧ W'.ownsRow H T sz v' (n + m) (pre ++ us) ∧ GrO v.ownBlock T pre us W W' ∧ (v'.ownBlock = v.ownBlock ∨ ∃ q,v'.ownBlock = some q ∧ W.heap.size ≤ q):=by
 obtain ⟨v',w',hrun,h2,h3,h5⟩:=run_append_optN (P:=P) W H t ty T i z sz bytes ht hi hz hsize hby hzs h0 v n pre hown A m c us hl hA hnews h1 h63 hbytes hbase
 obtain ⟨v2,w2,hrun2,_,hg⟩:=run_growN (P:=P) ht hi hz hsize hby hzs h0 hown hl hA hnews h1 h63 hbytes hbase (ty:=ty)
 rw [hrun] at hrun2
 simp only [Result.ok.injEq] at hrun2
 obtain ⟨rfl,rfl⟩:=hrun2
 refine ⟨v',w',hrun,h2,?_,h5.imp id (fun e=>⟨_,e,Nat.le_refl _⟩)⟩
 rcases hg with hg | ⟨g,cur,_,hgc,hz1,hz2,hw⟩
 ·exact .inl hg
 ·by_cases e:v.ownBlock = some g
  ·exact .inr ⟨g,cur,e,hgc,hz1,hz2,hw⟩
  ·left
   exact ⟨h3.os,h3.tape,h3.output,h3.size,fun k hk=>by
    by_cases ek:k = g
    ·subst ek
     exact h3.block k hk (fun e2=>e e2.symm)
    ·rw [hw];exact setRow_other W g k _ ek⟩
def TkP (W:World) (base r:Nat) (v:Value) (D:Tb) (now ts:Int) (e:Ending) (W':World):Prop:=e = .returned (.tuple #[.int .i64 (takeB D now ts).2.1,.int .i64 (takeB D now ts).2.2]) ∧ LP W base r v (takeB D now ts).1 W'
theorem ltake_any {r:Nat} {D:Tb} (h:LQ W base r v D) (ho:Ok D) (hm:D.many ≤ 4611686018427387904) (now ts:Int):Calls Tryz.prog 11 #[.pointer (some ⟨r,0,none⟩),.int .i64 now,.int .i64 ts] W fun e W'=>TkP W base r v D now ts e W':=by
 have HT:=Lib.hid (ltick_any now W)
 have HS:=Lib.hid (lstamp_any ts W)
 have HQ:=Lib.hid h
 have HOk:=Lib.hid ho
 by_cases h1:okT now
 ·rw [decide_eq_true h1] at HT
  by_cases h2:okS ts
  ·rw [decide_eq_true h2] at HS
   have HO:=Lib.hid (over_any now W)
   have HF:Hid (takeB D now ts = if 1024 ≤ (lv D.L now).length then (D,0,2) else (⟨D.long,D.many + 1,lv D.L now ++ [⟨D.many + 1,ts,now + D.long⟩]⟩,D.many + 1,0)):=Lib.hid (if_neg (fun q=>q ⟨h1,h2⟩))
   obtain ⟨t1,t2⟩:=h1
   have hlo:=ho.lo
   have hhi:=ho.hi
   have hmn:=ho.many
   have hl10:(lv D.L now).length ≤ 1024:=Nat.le_trans (lv_len _ _) ho.len
   have HRw:=Lib.hid h.row
   clear h ho h2
   go_enter Tryz.func11,Tryz.ntmps11
   go_wp2_with fail
   refine HT.out.mono ?_
   rintro e w2 ⟨rfl,e2⟩
   subst e2
   go_wp2_with fail
   refine HS.out.mono ?_
   rintro e w2 ⟨rfl,e2⟩
   subst e2
   go_wp2_with fail
   refine HO.out.mono ?_
   rintro e w3 ⟨rfl,hc3,hb3⟩
   generalize w2.heap.size = pc at hc3 ⊢
   have HC3:=Lib.hid hc3
   have HB3:=Lib.hid hb3
   have HU:=Lib.hid (running_any (HQ.out.below hb3) HOk.out hc3)
   clear hc3 hb3 HO HS HT
   go_wp2_with fail
   refine HU.out.mono ?_
   rintro e w4 ⟨rfl,hb4⟩
   have HC4:=Lib.hid (HC3.out.below hb4)
   have HB4:=Lib.hid (HB3.out.trans (hb4.mono HB3.out.size))
   clear hb4 HU HC3 HB3
   by_cases hfull:1024 ≤ (lv D.L now).length
   ·have hz:=HF.out
    rw [if_pos hfull] at hz
    have HZ:=Lib.hid (show TkP w2 base r v D now ts (.returned (.tuple #[.int .i64 0,.int .i64 2])) w4 from by
     unfold TkP
     rw [hz]
     exact ⟨rfl,v,HQ.out.below HB4.out,LM.of HB4.out⟩)
    have p1:(1024:Int) ≤ ((lv D.L now).length:Int):=by omega
    generalize (lv D.L now).length = n at p1 ⊢
    clear hz hfull hl10
    go_wp2_with fail
    go_ret2
    exact HZ.out
   ·have hz:=HF.out
    rw [if_neg hfull] at hz
    have HZ:=Lib.hid hz
    have p1:((lv D.L now).length:Int) < 1024:=by omega
    have hq4:=HQ.out.below HB4.out
    have HDf:=Lib.hid (deleteF_any hq4.row HOk.out.len HC4.out)
    have HQ4:=Lib.hid hq4
    have k0:=hq4.cel.cell (i:=2) rfl
    obtain ⟨A4,c4,hv4⟩:=hq4.row.form
    rw [hv4] at k0 HDf
    have HV:=Lib.hid hv4
    clear hz hq4 hv4
    obtain ⟨nl,hnl⟩:∃ nl,(lv D.L now).length = nl:=⟨_,rfl⟩
    rw [hnl] at p1 hl10 hfull ⊢
    have HNl:=Lib.hid hnl
    clear hnl hfull
    go_wp2_with fail
    refine HDf.out.mono ?_
    rintro e w5 ⟨v5,rfl,hr5,he5,hg5⟩
    rw [← HV.out] at he5 hg5
    obtain ⟨hq6,hm6⟩:=HQ4.out.put2 hg5 hr5 he5
    have hc5:Cel w5 r 79 [.int .i64 D.long,.int .i64 D.many,v]:=(hg5.block r HQ4.out.cel.lt (fun e=>HQ4.out.far e.symm)).trans HQ4.out.cel
    have s2:=hc5.cell (i:=2) rfl
    have s1:=hc5.cell (i:=1) rfl
    have sf2:=hc5.free (i:=2)
    have sf1:=hc5.free (i:=1)
    rw [HV.out] at s2
    obtain ⟨A5,c5,hv5⟩:=hr5.form
    rw [HNl.out] at hv5
    subst hv5
    obtain ⟨hq7,hm7⟩:=hq6.count (D.many + 1)
    have HM7:=Lib.hid (((LM.of HB4.out).trans hm6).trans hm7)
    have HR7:=Lib.hid hq7
    clear hr5 he5 hg5 hq6 hm6 hc5 hm7 HDf
    go_upto_region 8 with fail
    generalize ((w5.setCell ⟨r,2,none⟩ (.slice A5 nl c5)).setCell ⟨r,1,none⟩ (.int .i64 (D.many + 1))) = w1 at hq7 HM7 HR7 ⊢
    have HRw7:=Lib.hid hq7.row
    obtain ⟨i0,z0,hi,hz0,hz1,hz2,hz3⟩:=info_le
    clear s1 s2 sf1 sf2 k0 hq7
    obtain ⟨o,ho⟩:∃ o,o = (Value.slice A5 nl c5).ownBlock:=⟨_,rfl⟩
    have HOo:=Lib.hid ho
    have hw:IntKind.i64.wrap (now + D.long) = now + D.long:=i64_wrap (by omega) (by omega)
    obtain ⟨x,hx⟩:∃ x:Le,x = ⟨D.many + 1,ts,now + D.long⟩:=⟨_,rfl⟩
    have HX:=Lib.hid hx
    obtain ⟨pre,hpre⟩:∃ pre,pre = (lv D.L now).flatMap leC:=⟨_,rfl⟩
    have HPre:=Lib.hid hpre
    have HRo:Hid (w1.ownsRow base 91 3 (.slice A5 nl c5) nl pre):=Lib.hid (by
     have:=HRw7.out
     unfold DRow at this
     rw [hpre]
     simpa [HNl.out] using this)
    have HFar:Hid (o ≠ some r):=Lib.hid (by rw [ho];exact HR7.out.far)
    clear ho hx hpre
    refine wp_region_saidK 21 [39,40,41,42,43,44,45,46,47,48,49,50,51,52,53,54,55,56,57,58,59]
     [TIs (.pointer (some ⟨r,0,none⟩)),TIs (.pointer (some ⟨r,0,none⟩)),TIs (.pointer (some ⟨r,0,none⟩)),TIs (.pointer (some ⟨r,2,none⟩)),TIs (.slice A5 nl c5),TIs (.pointer (some ⟨r,0,none⟩)),TIs (.pointer (some ⟨r,0,none⟩)),TIs (.pointer (some ⟨r,1,none⟩)),TIs (.int .i64 (D.many + 1)),TIs (.int .i64 ts),TIs (.int .i64 now),TIs (.pointer (some ⟨r,0,none⟩)),TIs (.pointer (some ⟨r,0,none⟩)),TIs (.pointer (some ⟨r,0,none⟩)),TIs (.int .i64 D.long),TIs (.int .i64 (now + D.long)),TIs (.agg #[.int .i64 (D.many + 1),.int .i64 ts,.int .i64 (now + D.long)]),(fun v V=>∃ p,v = .slice (some ⟨p,0,none⟩) 1 1 ∧ V.heap[p]? = some (.cells #[.int .i64 (D.many + 1),.int .i64 ts,.int .i64 (now + D.long)] 91 (0,0))),(fun v V=>V.ownsRow base 91 3 v (nl + 1) (pre ++ [.int .i64 (D.many + 1),.int .i64 ts,.int .i64 (now + D.long)]) ∧ (v.ownBlock = o ∨ ∃ q,v.ownBlock = some q ∧ w1.heap.size ≤ q)),TIs (.pointer (some ⟨r,0,none⟩)),TIs (.pointer (some ⟨r,2,none⟩))]
     (fun V=>Cel V r 79 [.int .i64 D.long,.int .i64 (D.many + 1),.slice A5 nl c5] ∧ V.ownsRow base 91 3 (.slice A5 nl c5) nl pre ∧ w1.grownBy V o) (GrO o 91 pre [.int .i64 (D.many + 1),.int .i64 ts,.int .i64 (now + D.long)]) (by kernel_rfl) (by kernel_rfl) (by kernel_rfl) (by kernel_rfl) (by kernel_rfl)
     (satK_of fun S hS v V V' h hk=>by
      simp only [List.mem_cons,List.not_mem_nil,or_false] at hS
      rcases hS with rfl | rfl | rfl | rfl | rfl | rfl | rfl | rfl | rfl | rfl | rfl | rfl | rfl | rfl | rfl | rfl | rfl | rfl | rfl | rfl | rfl
      all_goals first | exact h | (obtain ⟨p,p1,p3⟩:=h;exact ⟨p,p1,GrN.one (us:=[.int .i64 (D.many + 1),.int .i64 ts,.int .i64 (now + D.long)]) p3 hk.n⟩) | exact ⟨hk.n.row h.1 (.inr rfl),h.2⟩)
     (fun V V' h hk=>⟨(hk.grown.block r h.1.lt (fun e=>HFar.out e.symm)).trans h.1,hk.n.row h.2.1 (.inl rfl),gb_trans h.2.2 hk.grown⟩) (fun V=>.inl (Below.refl _ V).drew) ⟨HR7.out.cel,HRo.out,gb_below (Below.refl _ _)⟩ ?steps ?last
    case steps =>
     simp only [List.take_succ_cons,List.take_zero]
     refine ⟨?_,?_,?_,?_,?_,?_,?_,?_,?_,?_,?_,?_,?_,?_,?_,?_,?_,?_,?_,?_,?_,trivial⟩
     all_goals
      intro vs V ρ hρ hc hf hg hI hd R' hR
      have q0:=hI.1.cell (i:=0) rfl
      have q1:=hI.1.cell (i:=1) rfl
      have q2:=hI.1.cell (i:=2) rfl
      have HR:=Lib.hid hR
      have HI:=Lib.hid hI
      simp [depsOf,Region.binds,satK,TIs] at hd
      clear hR hI
     case refine_18 =>
      go_simp
      exact HR.out _ _ ⟨V.heap.size,rfl,heap_alloc_new V _⟩ (.inl ((Below.refl _ _).alloc (Nat.le_refl _) _))
     case refine_19 =>
      have hd1:vs 4 = .slice A5 nl c5:=by first | exact hd.1 | exact hd.2 | exact hd.2.1 | exact hd.1.1
      have hd2:∃ p,vs 17 = .slice (some ⟨p,0,none⟩) 1 1 ∧ V.heap[p]? = some (.cells #[.int .i64 (D.many + 1),.int .i64 ts,.int .i64 (now + D.long)] 91 (0,0)):=by first | exact hd.2.1 | exact hd.2 | exact hd.1 | exact hd.2.2
      obtain ⟨p,p1,p3⟩:=hd2
      obtain ⟨v',w',hr,h2,h3,h4⟩:=run_growO (P:=Tryz.prog) (W:=V) (H:=base) (sz:=3) (bytes:=24) (n:=nl) (m:=1) (c:=1) (us:=[.int .i64 (D.many + 1),.int .i64 ts,.int .i64 (now + D.long)]) (A:=some ⟨p,0,none⟩) (t:=77) (ty:=77) Tryz.underlying77 hi hz0 hz2 hz3 hz1 (by decide) HI.out.2.1 rfl (fun e=>by cases e) (fun ad e j y hy=>by cases e;rw [addr_head];exact (show Cel V p 91 [.int .i64 (D.many + 1),.int .i64 ts,.int .i64 (now + D.long)] from p3).cell hy) (fun y hy=>by simp at hy;rcases hy with rfl | rfl | rfl <;> rfl) (by unfold maxLen;omega) (by omega) (Nat.le_trans HR7.out.bs HI.out.2.2.size)
      have e0:ρ (.tmp 43) = .slice A5 nl c5:=by rw [hρ];simp [pick,hd1]
      have e2:ρ (.tmp 56) = .slice (some ⟨p,0,none⟩) 1 1:=by rw [hρ];simp [pick,p1]
      rw [if_pos (by simp [Region.wanted])]
      unfold execOp
      simp only [resolve,invoke,builtin,Sem.run_bind,Sem.run_pure,Result.andThen_ok,List.map_toArray,List.map_cons,List.map_nil,e0,e2,hr,floatUpon]
      rw [← HOo.out] at h3 h4
      exact HR.out _ _ ⟨h2,h4.imp id (fun ⟨q,q1,q2⟩=>⟨q,q1,Nat.le_trans HI.out.2.2.size q2⟩)⟩ h3
     all_goals
      go_simp
      first
       | exact HR.out _ _ (by simp [satK,TIs]) (.inl (Below.refl _ _))
       | trace_state
    case last =>
     intro vs V hI hg
     have g18:=hg 18 (by omega)
     have g20:=hg 20 (by omega)
     simp only [satK,List.getD_cons_succ,List.getD_cons_zero,TIs] at g18 g20
     simp only [List.take_succ_cons,List.take_zero,List.drop_succ_cons,List.drop_zero,putAll,Act.put,List.setIfInBounds_toArray,List.set_cons_succ,List.set_cons_zero,Nat.zero_add,Nat.reduceAdd]
     rw [g20]
     generalize vs 18 = v18 at g18 ⊢
     obtain ⟨hr18,hb18⟩:=g18
     have hr:DRow V base v18 (lv D.L now ++ [x]):=by
      unfold DRow
      rw [List.length_append,List.flatMap_append,HNl.out,← HPre.out,HX.out]
      simpa [leC] using hr18
     obtain ⟨A18,c18,hv18⟩:=hr.form
     have hlen:(lv D.L now ++ [x]).length = nl + 1:=by rw [List.length_append,HNl.out];rfl
     rw [hlen] at hv18
     subst hv18
     have hf18:(Value.slice A18 (nl + 1) c18).ownBlock ≠ some r:=fun e=>hb18.elim (fun q=>HFar.out (by rw [← q];exact e)) (fun ⟨q,q1,q2⟩=>by rw [q1] at e;have:=Option.some.inj e;have:=HR7.out.cel.lt;omega)
     have gp:=grow_put V r 2 (.slice A18 (nl + 1) c18)
     have hq9:LQ (V.setCell ⟨r,2,none⟩ (.slice A18 (nl + 1) c18)) base r (.slice A18 (nl + 1) c18) ⟨D.long,D.many + 1,lv D.L now ++ [x]⟩ :=
      ⟨hI.1.set (i:=2) (v:=.slice A18 (nl + 1) c18),hr.same (fun p hp=>gp.block p (hr.lt hp).1 (fun e=>hf18 (by rw [hp,e]))),hf18,HR7.out.rb,Nat.le_trans HR7.out.bs (Nat.le_trans hI.2.2.size gp.size)⟩
     have hm9:LM w1 (V.setCell ⟨r,2,none⟩ (.slice A18 (nl + 1) c18)) r (.slice A5 nl c5) (.slice A18 (nl + 1) c18) :=
      ⟨gp.os.trans hI.2.2.os,gp.tape.trans hI.2.2.tape,gp.output.trans hI.2.2.output,Nat.le_trans hI.2.2.size gp.size,fun k hk hn hm=>(gp.block k (Nat.lt_of_lt_of_le hk hI.2.2.size) (fun e=>hn (Option.some.inj e))).trans (hI.2.2.block k hk (fun e=>hm (by rw [← HOo.out,e]))),fun q hq=>hb18.elim (fun e=>.inl (by rw [← HOo.out,← e];exact hq)) (fun ⟨q',q1,q2⟩=>.inr (by rw [q1] at hq;have:=Option.some.inj hq;omega))⟩
     have HZ9:=Lib.hid (show TkP w2 base r v D now ts (.returned (.tuple #[.int .i64 (D.many + 1),.int .i64 0])) (V.setCell ⟨r,2,none⟩ (.slice A18 (nl + 1) c18)) from by
      unfold TkP
      rw [HZ.out,← HX.out]
      exact ⟨rfl,_,hq9,HM7.out.trans hm9⟩)
     have s0:=hI.1.cell (i:=2) rfl
     have s1:=hI.1.cell (i:=1) rfl
     have sf:=hI.1.free (i:=2)
     clear g20 hg hI hr hr18 hb18 hf18 gp hq9 hm9 hlen
     go_wp2_with fail
     go_ret2
     exact HZ9.out
  ·rw [decide_eq_false h2] at HS
   have HZ:=Lib.hid (show TkP W base r v D now ts (.returned (.tuple #[.int .i64 0,.int .i64 1])) W from by
    unfold TkP
    rw [show takeB D now ts = (D,0,1) from if_pos (fun q=>h2 q.2)]
    exact ⟨rfl,v,h,LM.of (Below.refl _ _)⟩)
   clear h1 h2 h ho
   go_enter Tryz.func11,Tryz.ntmps11
   go_wp2_with fail
   refine HT.out.mono ?_
   rintro e w2 ⟨rfl,e2⟩
   subst e2
   go_wp2_with fail
   refine HS.out.mono ?_
   rintro e w2 ⟨rfl,e2⟩
   subst e2
   go_wp2_with fail
   go_ret2
   exact HZ.out
 ·rw [decide_eq_false h1] at HT
  have HZ:=Lib.hid (show TkP W base r v D now ts (.returned (.tuple #[.int .i64 0,.int .i64 1])) W from by
   unfold TkP
   rw [show takeB D now ts = (D,0,1) from if_pos (fun q=>h1 q.1)]
   exact ⟨rfl,v,h,LM.of (Below.refl _ _)⟩)
  clear h1 h ho
  go_enter Tryz.func11,Tryz.ntmps11
  go_wp2_with fail
  refine HT.out.mono ?_
  rintro e w2 ⟨rfl,e2⟩
  subst e2
  go_wp2_with fail
  go_ret2
  exact HZ.out
end
end Ll
end Go.Proofs.YtlfkhlfkckfbpaaGreat
namespace Go.Proofs.YtlfkhlfkckfbpaaGreat
namespace Tp
open Go.RowKit Bk Ls Ll Ch Sc Rd Ck
def snC (s:Sn):List Value:=[.int .i64 s.n,.int .i64 s.t,.int .i64 s.v.ts,.string s.v.shard,.bool s.v.dead,.bool s.o]
theorem sn_at:∀ {l:List Sn} {k:Nat} {x:Sn} (_:l[k]? = some x) {j:Nat} (_:j < 6),(l.flatMap snC)[k * 6 + j]? = (snC x)[j]?
 | [],k,x,h,j,_=>by simp at h
 | y :: r,0,x,h,j,hj=>by
  obtain rfl:y = x:=by simpa using h
  rw [List.flatMap_cons,Nat.zero_mul,Nat.zero_add,List.getElem?_append_left (by show j < 6;exact hj)]
 | y :: r,k + 1,x,h,j,hj=>by
  rw [List.flatMap_cons,List.getElem?_append_right (by show 6 ≤ _;omega)]
  rw [show (k + 1) * 6 + j - (snC y).length = k * 6 + j by show _ - 6 = _;omega]
  exact sn_at (by simpa using h) hj
theorem Tryz.infoSn:(Tryz.prog.info? 49).map (fun i=>(i.zero.map (·.cells.size),i.size,i.bytes)) = some (some 6,6,56):=by kernel_rfl
theorem info_sn:∃ i z,Tryz.prog.info? 49 = some i ∧ i.zero = some z ∧ z.cells.size = 6 ∧ i.size = 6 ∧ i.bytes = 56:=by
 have h:=Tryz.infoSn
 cases hi:Tryz.prog.info? 49 with
 | none=>rw [hi] at h;cases h
 | some i =>
  rw [hi] at h
  simp only [Option.map_some,Option.some.injEq,Prod.mk.injEq] at h
  obtain ⟨h1,h2,h3⟩:=h
  cases hz:i.zero with
  | none=>rw [hz] at h1;cases h1
  | some z =>
   rw [hz] at h1
   simp only [Option.map_some,Option.some.injEq] at h1
   exact ⟨i,z,rfl,hz,h1,h2,h3⟩
section
variable {W W':World} {H sz n:Nat} {e:TypeId} {v:Value} {xs:List Value}
theorem own_ty (h:W.ownsRow H e sz v n xs) {p:Nat} (hp:v.ownBlock = some p):(∃ c,W.heap[p]? = some (.cells c e (0,0))) ∧ H ≤ p:=by
 rcases h.2 with ⟨e',_⟩ | ⟨q,cap,cur,e',h2,e3,_⟩
 ·rw [e'] at hp;cases hp
 ·rw [e'] at hp
  obtain rfl:q = p:=Option.some.inj hp
  exact ⟨⟨_,e3⟩,h2⟩
theorem own_same (h:W.ownsRow H e sz v n xs) (hk:∀ p,v.ownBlock = some p → W'.heap[p]? = W.heap[p]?):W'.ownsRow H e sz v n xs:=by
 refine ⟨h.1,?_⟩
 rcases h.2 with h' | ⟨p,cap,cur,e,h2,h3,h4⟩
 ·exact .inl h'
 ·exact .inr ⟨p,cap,cur,e,h2,(hk p (by rw [e];rfl)).trans h3,h4⟩
theorem own_mono {H':Nat} (h:W.ownsRow H e sz v n xs) (hh:H' ≤ H):W.ownsRow H' e sz v n xs:=by
 refine ⟨h.1,?_⟩
 rcases h.2 with h' | ⟨p,cap,cur,e,h2,h3⟩
 ·exact .inl h'
 ·exact .inr ⟨p,cap,cur,e,Nat.le_trans hh h2,h3⟩
theorem ty_apart {k k':Nat} {c c':Array Value} {T T':TypeId} {f f':Nat × Nat} (h:W.heap[k]? = some (.cells c T f)) (h':W.heap[k']? = some (.cells c' T' f')) (hne:T ≠ T'):k ≠ k':=fun e=>by
 subst e
 rw [h] at h'
 simp only [Option.some.injEq,Obj.cells.injEq] at h'
 exact hne h'.2.1
theorem lt_of {k:Nat} {o:Obj} (h:W.heap[k]? = some o):k < W.heap.size:=(Array.getElem?_eq_some_iff.1 h).1
end
structure TW (w wr:World) (F:Nat → Prop) (b gd p bt:Nat) (D:Dev) (k:Cl) (v:Value) (T:Tb) (lv:Value) (L:List Vr) (sv:Value) (S:List Sn):Prop where
 clk:LC wr F b gd p D 4 k
 tab:LQ wr w.heap.size bt v T
 row:wr.ownsRow w.heap.size 43 3 lv L.length (vrV L)
 sns:wr.ownsRow w.heap.size 49 6 sv S.length (S.flatMap snC)
 far:∀ j,Tc F b j → j ≠ bt ∧ v.ownBlock ≠ some j ∧ lv.ownBlock ≠ some j ∧ sv.ownBlock ≠ some j
 bF:∀ j,Tc F b j → w.heap.size ≤ j
 bel:Below w.heap.size w wr
section
variable {w wr wx:World} {F F':Nat → Prop} {b gd p bt:Nat} {D D':Dev} {k k':Cl} {v v' lv lv' sv sv':Value} {T T':Tb} {L L':List Vr} {S S':List Sn}
theorem TW.tlt (h:TW w wr F b gd p bt D k v T lv L sv S) {q:Nat} (hq:v.ownBlock = some q):∃ c,wr.heap[q]? = some (.cells c 91 (0,0)):=(own_ty h.tab.row hq).1
theorem TW.below (h:TW w wr F b gd p bt D k v T lv L sv S) (hb:Below wr.heap.size wr wx):TW w wx F b gd p bt D k v T lv L sv S :=
 ⟨h.clk.below (devF_of devBase) logF hb,h.tab.below hb,st_keep h.row hb,st_keep h.sns hb,h.far,h.bF,h.bel.trans (hb.mono h.bel.size)⟩
theorem TW.chain (h:TW w wr F b gd p bt D k v T lv L sv S) (hb:Below wr.heap.size wr wx) (hr:wx.ownsRow wr.heap.size 43 3 lv' L'.length (vrV L')):TW w wx F b gd p bt D k v T lv' L' sv S :=
 have h2:=h.below hb
 ⟨h2.clk,h2.tab,own_mono hr h.bel.size,h2.sns,fun j hj=>⟨(h.far j hj).1,(h.far j hj).2.1,fun e=>by
  have h3:=(own_ty hr e).2
  have h4:=h.clk.lt (devF_of devBase) logF j hj
  omega,(h.far j hj).2.2.2⟩,h2.bF,h2.bel⟩
theorem TW.table (h:TW w wr F b gd p bt D k v T lv L sv S) (hp:LP wr w.heap.size bt v T' wx):∃ v',TW w wx F b gd p bt D k v' T' lv L sv S:=by
 obtain ⟨v',h5,h6⟩:=hp
 have hlt:=h.clk.lt (devF_of devBase) logF
 refine ⟨v',h.clk.kept (devF_of devBase) logF (fun j hj=>h6.block j (hlt j hj) (h.far j hj).1 (h.far j hj).2.1),h5,?_,?_,fun j hj=>⟨(h.far j hj).1,fun e=>(h6.own j e).elim (h.far j hj).2.1 (fun s=>by have:=hlt j hj;omega),(h.far j hj).2.2⟩,h.bF,h.bel.trans ⟨h6.os,h6.tape,h6.output,h6.size,fun j hj=>h6.block j (Nat.lt_of_lt_of_le hj h.bel.size) (fun e=>by have:=h.tab.rb;omega) (fun e=>by have:=(own_ty h.tab.row e).2;omega)⟩⟩
 ·refine own_same h.row fun q hq=>?_
  obtain ⟨c,hc⟩:=(own_ty h.row hq).1
  exact h6.block q (lt_of hc) (ty_apart hc h.tab.cel (by decide)) (fun e=>by obtain ⟨c',hc'⟩:=h.tlt e;exact ty_apart hc hc' (by decide) rfl)
 ·refine own_same h.sns fun q hq=>?_
  obtain ⟨c,hc⟩:=(own_ty h.sns hq).1
  exact h6.block q (lt_of hc) (ty_apart hc h.tab.cel (by decide)) (fun e=>by obtain ⟨c',hc'⟩:=h.tlt e;exact ty_apart hc hc' (by decide) rfl)
theorem TW.clock {b' p':Nat} {P:Nat → Prop} (h:TW w wr F b gd p bt D k v T lv L sv S) (hc:LC wx F' b' gd p' D' 4 k') (hf:Fr P (Tc F' b') wr wx) (hP:∀ j,P j → Tc F b j):TW w wx F' b' gd p' bt D' k' v T lv L sv S:=by
 have hn:∀ j,j = bt ∨ v.ownBlock = some j ∨ lv.ownBlock = some j ∨ sv.ownBlock = some j → ¬ P j:=fun j hj hpj=>by
  have:=h.far j (hP j hpj)
  rcases hj with q | q | q | q
  ·exact this.1 q
  ·exact this.2.1 q
  ·exact this.2.2.1 q
  ·exact this.2.2.2 q
 have l0:bt < wr.heap.size:=h.tab.cel.lt
 have l1:∀ j,v.ownBlock = some j → j < wr.heap.size:=fun j hj=>by obtain ⟨c,hc⟩:=h.tlt hj;exact lt_of hc
 have l2:∀ j,lv.ownBlock = some j → j < wr.heap.size:=fun j hj=>by obtain ⟨c,hc⟩:=(own_ty h.row hj).1;exact lt_of hc
 have l3:∀ j,sv.ownBlock = some j → j < wr.heap.size:=fun j hj=>by obtain ⟨c,hc⟩:=(own_ty h.sns hj).1;exact lt_of hc
 have same:∀ j,j = bt ∨ v.ownBlock = some j ∨ lv.ownBlock = some j ∨ sv.ownBlock = some j → wx.heap[j]? = wr.heap[j]?:=fun j hj=>hf.block j (by
  rcases hj with q | q | q | q
  ·rw [q];exact l0
  ·exact l1 j q
  ·exact l2 j q
  ·exact l3 j q) (hn j hj)
 refine ⟨hc,⟨(same bt (.inl rfl)).trans h.tab.cel,own_same h.tab.row (fun q hq=>same q (.inr (.inl hq))),h.tab.far,h.tab.rb,Nat.le_trans h.tab.bs hf.size⟩,own_same h.row (fun q hq=>same q (.inr (.inr (.inl hq)))),own_same h.sns (fun q hq=>same q (.inr (.inr (.inr hq)))),fun j hj=>?_,fun j hj=>?_,h.bel.trans ⟨hf.os,hf.tape,hf.output,hf.size,fun j hj=>hf.block j (Nat.lt_of_lt_of_le hj h.bel.size) (fun hpj=>by have:=h.bF j (hP j hpj);omega)⟩⟩
 ·rcases hf.foot j hj with q | q
  ·exact h.far j (hP j q)
  ·exact ⟨fun e=>by omega,fun e=>by have:=l1 j e;omega,fun e=>by have:=l2 j e;omega,fun e=>by have:=l3 j e;omega⟩
 ·rcases hf.foot j hj with q | q
  ·exact h.bF j (hP j q)
  ·exact Nat.le_trans h.bel.size q
theorem TW.more (h:TW w wr F b gd p bt D k v T lv L sv S) (hg:wr.grownBy wx sv.ownBlock) (hr:wx.ownsRow w.heap.size 49 6 sv' S'.length (S'.flatMap snC)) (hs:sv'.ownBlock = sv.ownBlock ∨ ∃ q,sv'.ownBlock = some q ∧ wr.heap.size ≤ q):TW w wx F b gd p bt D k v T lv L sv' S':=by
 have hlt:=h.clk.lt (devF_of devBase) logF
 have hne:∀ {j:Nat} {c:Array Value} {t:TypeId},wr.heap[j]? = some (.cells c t (0,0)) → t ≠ 49 → wx.heap[j]? = wr.heap[j]?:=fun {j c t} hj ht=>hg.block j (lt_of hj) (fun e=>by
  obtain ⟨c',hc'⟩:=(own_ty h.sns e.symm).1
  exact ty_apart hj hc' ht rfl)
 refine ⟨h.clk.kept (devF_of devBase) logF (fun j hj=>hg.block j (hlt j hj) (fun e=>(h.far j hj).2.2.2 e.symm)),⟨(hne h.tab.cel (by decide)).trans h.tab.cel,own_same h.tab.row (fun q hq=>by obtain ⟨c,hc⟩:=h.tlt hq;exact hne hc (by decide)),h.tab.far,h.tab.rb,Nat.le_trans h.tab.bs hg.size⟩,own_same h.row (fun q hq=>by obtain ⟨c,hc⟩:=(own_ty h.row hq).1;exact hne hc (by decide)),hr,fun j hj=>⟨(h.far j hj).1,(h.far j hj).2.1,(h.far j hj).2.2.1,fun e=>?_⟩,h.bF,h.bel.trans ⟨hg.os,hg.tape,hg.output,hg.size,fun j hj=>hg.block j (Nat.lt_of_lt_of_le hj h.bel.size) (fun e=>by have:=(own_ty h.sns e.symm).2;omega)⟩⟩
 rcases hs with q | ⟨q,q1,q2⟩
 ·exact (h.far j hj).2.2.2 (by rw [← q];exact e)
 ·rw [q1] at e
  have:=Option.some.inj e
  have:=hlt j hj
  omega
end
end Tp
end Go.Proofs.YtlfkhlfkckfbpaaGreat
namespace Go.Proofs.YtlfkhlfkckfbpaaGreat
namespace Sc
open Go.ChangeShapes Go.WideShapes Go.ChangeAt Go.RowKit Go.Joins Go.Deep Bk
def IntsOf (w:World) (v:Value) (l:List Int):Prop :=
 ∃ (A:Option Addr) (c:Nat),v = .slice A l.length c ∧ IntsAt w A l ∧ l.length * 8 ≤ reachBytes ∧ ∀ n ∈ l,-9223372036854775808 ≤ n ∧ n ≤ 9223372036854775807
section
variable {H:Type} {enc:TypeId × Value → H} {W:World}
theorem open_intsOf {base:Nat} {v:Value} {d:DataW H} {p:List MemPlace} {ts:List TypeId} {ds:List (DataW H)} {j:Nat}
  (hsz:(DataW.weightsEach Tryz.prog ts ds).all (· ≤ reachBytes) = true) (hj:ts[j]? = some 22) (hd:ds[j]? = some d)
  (hv:Value.okWide Tryz.prog W .any base 22 v) (h:DataW.Trod enc Tryz.prog W 0 (fun _=>true) true 22 v d p) (hl:∀ x ∈ p,x.block < W.heap.size):∃ l,IntsOf W v l:=by
 obtain ⟨a0,len,cap,rfl⟩:=okWide_slice Tryz.underlying22 hv
 obtain ⟨fuel,hf⟩:=h
 obtain ⟨A,c,L,e,q1,q2,_,_,q5,_⟩:=field_ints Tryz.underlying22 Tryz.underlying3 (by kernel_rfl) (by kernel_rfl) hf (arg_weights hsz hj hd) hl
 exact ⟨L,A,c,e,q1,q2,q5⟩
end
end Sc
end Go.Proofs.YtlfkhlfkckfbpaaGreat
