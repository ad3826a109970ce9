/- Parts of the proof, joined: VtDecd, ShSortI, ShL9, ShSortS, ShL21, ShL22; their conditions stand with each. -/
import Derived.Shelf.SlIterI.Nil
import Derived.Shelf.SortM.Plain
import Derived.Shelf.SortM.SortNone
import Derived.Shelf.SlIter.Nil
import Derived.Test.YtbkanoblcojdfaaGreatV3
import Derived.Test.YtbkanoblcojdfaaGreatV20
import Derived.Test.YtbkanoblcojdfaaGreatV31
import Derived.Test.YtbkanoblcojdfaaGreatV34
import Derived.Test.YtbkanoblcojdfaaGreatV38

set_option maxRecDepth 20000
set_option maxHeartbeats 8000000
namespace Go.Proofs.YtbkanoblcojdfaaGreat
namespace Vt
open Go.RowKit Bk Ch Lt Rc Tr
attribute [local go_sem ↓] Go.wp_at_zero Go.wp_at_succ
attribute [local go_sem] floatUpon pick
structure DecRow (W w:World) (v:Value) (X:List RI):Prop where
 row:w.ownsRow W.heap.size 37 9 v X.length (X.flatMap rcs)
 pv:∀ x ∈ X,Sh.PVal w (fun k=>v.ownBlock = some k) x
section
variable {W w w1 w2:World} {v v':Value} {X:List RI} {y:RI}
theorem DecRow.below (h:DecRow W w v X) (hb:Below w.heap.size w w1):DecRow W w1 v X :=
 ⟨st_keep h.row hb,fun x hx=>(h.pv x hx).both (Sh.Away.of hb) (fun _ hk=>.inl hk)⟩
theorem DecRow.none (w:World):DecRow w w (.slice none 0 0) []:=⟨World.ownsRow_nil _ _ _ _,by simp⟩
theorem DecRow.grow (h:DecRow W w v X) (hb:Below w.heap.size w w1) (hv:RecVal w1 y.A y.B y.c y.d y.l) (hn:Sh.NewR w.heap.size y)
  (ho:w2.ownsRow W.heap.size 37 9 v' (X.length + 1) (X.flatMap rcs ++ rcs y)) {o o2:Obj} (hg:((w1.alloc o).alloc o2).grownBy w2 v.ownBlock)
  (hat:v'.ownBlock = v.ownBlock ∨ v'.ownBlock = some (w1.heap.size + 1 + 1)):DecRow W w2 v' (X ++ [y]):=by
 have hb1:=((Below.refl _ w1).alloc (Nat.le_refl _) o).trans (((Below.refl _ (w1.alloc o)).alloc (Nat.le_refl _) o2).mono (by simp))
 have hsz:((w1.alloc o).alloc o2).heap.size = w1.heap.size + 1 + 1:=(Array.size_push ..).trans (by rw [show (w1.alloc o).heap.size = w1.heap.size + 1 from Array.size_push ..])
 rw [← hsz] at hat
 have hlt:∀ k,v.ownBlock = some k → k < w.heap.size:=fun k hk=>(h.row.lt k hk).2
 have aw:Sh.Away (fun k=>v.ownBlock = some k) ((w1.alloc o).alloc o2) w2:=⟨hg.size,fun k hk hn=>hg.block k hk (fun e=>hn e.symm)⟩
 have tn:∀ k,v'.ownBlock = some k → v.ownBlock = some k ∨ ((w1.alloc o).alloc o2).heap.size ≤ k:=fun k hk=>by
  rcases hat with e | e
  ·exact .inl (by rw [← e];exact hk)
  ·rw [e] at hk
   exact .inr (by rw [Option.some.inj hk];exact Nat.le_refl _)
 have hy1:Sh.PVal w1 (fun k=>v.ownBlock = some k) y:=Sh.pval_new hv hn hlt
 have h1:∀ x ∈ X ++ [y],Sh.PVal w1 (fun k=>v.ownBlock = some k) x:=fun x hx=>by
  rcases List.mem_append.1 hx with hx | hx
  ·exact (h.below hb).pv x hx
  ·rw [List.mem_singleton.1 hx]
   exact hy1
 refine ⟨?_,fun x hx=>((h1 x hx).both (Sh.Away.of hb1) (fun _ hk=>.inl hk)).both aw tn⟩
 rw [List.length_append,List.flatMap_append]
 simpa using ho
theorem DecRow.rows (h:DecRow W w v X):∃ (A:Option Addr) (c:Nat),v = .slice A X.length c ∧ Row w A X:=by
 obtain ⟨A,c,rfl,hr,-,-,-⟩:=Sh.own_rowF (F:=fun _=>False) h.row (Tr.flat_len X) (fun _ hf=>hf.elim)
 refine ⟨A,c,rfl,fun hp=>?_,fun x hx=>(h.pv x hx).val⟩
 obtain ⟨ad,e,hl,-,hc⟩:=hr (by rw [Tr.flat_len];omega)
 exact ⟨ad,e,hl,fun i hi j u hu=>hc _ _ (by rw [Tr.flat_at hi (by have:=(List.getElem?_eq_some_iff.1 hu).1;simpa [rcs] using this)];exact hu)⟩
end
def DcdPost (ts:List ByteArray) (w:World) (e:Ending) (w':World):Prop :=
 ((∀ t ∈ ts,(Rc.decX t).2 = 0) ∧ ∃ (A:Option Addr) (c:Nat) (X:List RI),e = .returned (.tuple #[.slice A X.length c,.int .i64 0]) ∧ X.map (·.l) = ts.map (fun t=>(Rc.decX t).1) ∧ Row w' A X ∧ Below w.heap.size w w') ∨
 ((∃ t ∈ ts,(Rc.decX t).2 ≠ 0) ∧ ∃ code:Int,e = .returned (.tuple #[.slice none 0 0,.int .i64 code]) ∧ code ≠ 0 ∧ Below w.heap.size w w')
theorem decoded_any (A:Option Addr) (c:Nat) (ts:List ByteArray) (w:World) (hA:StrsAt w A ts) (hs:∀ t ∈ ts,t.size ≤ 4096) (hn:ts.length ≤ 1000000) :
  Calls Tryz.prog 74 #[.slice A ts.length c] w (DcdPost ts w):=by
 obtain ⟨i9,z9,hi9,hz9,hzs9,hs9,hb9⟩:=Tr.info_rec
 have HA:=Lib.hid (fun V (hb:Below w.heap.size w V)=>hA.below hb)
 have HSm:=Lib.hid hs
 have hln:(ts.length:Int) ≤ 1000000:=by omega
 clear hA hs
 go_enter Tryz.func74,Tryz.ntmps74
 go_wp2_with fail
 go_loopw [4,11] (fun vv iv wr=>∃ (j:Nat) (v:Value) (X:List RI),j ≤ ts.length ∧ iv = .int .i64 (j:Int) ∧ vv = v ∧ Hid (X.map (·.l) = (ts.take j).map (fun t=>(Rc.decX t).1)) ∧ Hid (X.length = j) ∧ Hid (∀ t ∈ ts.take j,(Rc.decX t).2 = 0) ∧ Hid (DecRow w wr v X) ∧ Hid (Below w.heap.size w wr)) (fun _ iv _=>ts.length - (RowKit.intOf iv).toNat)
 case atStart=>exact ⟨0,.slice none 0 0,[],Nat.zero_le _,rfl,rfl,Lib.hid rfl,Lib.hid rfl,Lib.hid (by simp),Lib.hid (DecRow.none w),Lib.hid (Below.refl _ _)⟩
 case round =>
  obtain ⟨j,v,X,hj,rfl,rfl,hX,hXl,hok,hrow,hbl⟩:=hrel
  by_cases hlt:j < ts.length
  ·have pj:(j:Int) < (ts.length:Int):=by omega
   obtain ⟨ad,rfl,-,hcl⟩:=HA.out _ hbl.out (by omega)
   have x0:=hcl j hlt
   have hmem:=List.getElem_mem hlt
   have hsz:=HSm.out _ hmem
   have HTk:=Lib.hid (show ts.take (j + 1) = ts.take j ++ [ts[j]] from List.take_succ_eq_append_getElem hlt)
   have HMem:=Lib.hid hmem
   generalize ts[j] = t at x0 hsz HTk HMem
   have HDc:=Lib.hid (Rc.vdecode_any t wr (by omega))
   clear hcl hmem hsz
   go_wp2_with fail
   refine HDc.out.mono ?_
   rintro e2 w2 ⟨A2,B2,c2,d2,rfl,hval,hnA,hnB,hb⟩
   have HV:=Lib.hid hval
   have HN:Hid (Sh.NewR wr.heap.size ⟨(Rc.decX t).1,A2,B2,c2,d2⟩):=Lib.hid ⟨fun _ a e=>hnA a e,fun _ a e=>hnB a e⟩
   have HB:=Lib.hid hb
   obtain ⟨r,code,hrc⟩:∃ r code,Rc.decX t = (r,code):=⟨_,_,rfl⟩
   have HE:=Lib.hid hrc
   rw [hrc] at HV HN ⊢
   simp only at HV HN ⊢
   clear hval hnA hnB hb HDc x0 hrc
   unfold recV
   by_cases h0:code = 0
   ·subst h0
    have z:(((0:Nat):Int) != 0) = false:=by simp
    have HX2:=Lib.hid (show (X ++ [(⟨r,A2,B2,c2,d2⟩:RI)]).map (·.l) = (ts.take (j + 1)).map (fun t=>(Rc.decX t).1) by rw [HTk.out,List.map_append,List.map_append,hX.out];simp [HE.out])
    have HOk2:=Lib.hid (show ∀ q ∈ ts.take (j + 1),(Rc.decX q).2 = 0 from fun q hq=>by
     rw [HTk.out] at hq
     rcases List.mem_append.1 hq with hq | hq
     ·exact hok.out q hq
     ·rw [List.mem_singleton.1 hq,HE.out])
    have hal:Below w2.heap.size w2 (w2.alloc (.cells #[.int .i64 r.kind,.int .i64 r.txn,.int .i64 r.ts,.int .i64 r.coord,.string r.key,.string r.text,.bool r.dead,.slice A2 r.keys.length c2,.slice B2 r.ws.length d2] 37)):=(Below.refl _ w2).alloc (Nat.le_refl _) _
    have hr3:Cel (w2.alloc (.cells #[.int .i64 r.kind,.int .i64 r.txn,.int .i64 r.ts,.int .i64 r.coord,.string r.key,.string r.text,.bool r.dead,.slice A2 r.keys.length c2,.slice B2 r.ws.length d2] 37)) w2.heap.size 37 [.int .i64 r.kind,.int .i64 r.txn,.int .i64 r.ts,.int .i64 r.coord,.string r.key,.string r.text,.bool r.dead,.slice A2 r.keys.length c2,.slice B2 r.ws.length d2]:=(blk1 w2 _).2
    have HGw:=Lib.hid (fun w4 v' ho hg hat=>DecRow.grow (y:=⟨r,A2,B2,c2,d2⟩) (w2:=w4) (v':=v') (o:=.cells #[.int .i64 r.kind,.int .i64 r.txn,.int .i64 r.ts,.int .i64 r.coord,.string r.key,.string r.text,.bool r.dead,.slice A2 r.keys.length c2,.slice B2 r.ws.length d2] 37) (o2:=.cells #[.int .i64 r.kind,.int .i64 r.txn,.int .i64 r.ts,.int .i64 r.coord,.string r.key,.string r.text,.bool r.dead,.slice A2 r.keys.length c2,.slice B2 r.ws.length d2] 37) hrow.out HB.out HV.out HN.out ho hg hat)
    have HRow3:=Lib.hid ((hrow.out.below HB.out).below hal)
    have HB3:=Lib.hid ((hbl.out.trans (HB.out.mono hbl.out.size)).trans (hal.mono (Nat.le_trans hbl.out.size HB.out.size)))
    have HXl:=Lib.hid hXl.out
    go_upto_region 6 with fail
    have hs3:(w2.alloc (.cells #[.int .i64 r.kind,.int .i64 r.txn,.int .i64 r.ts,.int .i64 r.coord,.string r.key,.string r.text,.bool r.dead,.slice A2 r.keys.length c2,.slice B2 r.ws.length d2] 37)).heap.size = w2.heap.size + 1:=by simp
    have q0:=hr3.cell (i:=0) rfl
    have q1:=hr3.cell (i:=1) rfl
    have q2:=hr3.cell (i:=2) rfl
    have q3:=hr3.cell (i:=3) rfl
    have q4:=hr3.cell (i:=4) rfl
    have q5:=hr3.cell (i:=5) rfl
    have q6:=hr3.cell (i:=6) rfl
    have q7:=hr3.cell (i:=7) rfl
    have q8:=hr3.cell (i:=8) rfl
    generalize w2.alloc (.cells #[.int .i64 r.kind,.int .i64 r.txn,.int .i64 r.ts,.int .i64 r.coord,.string r.key,.string r.text,.bool r.dead,.slice A2 r.keys.length c2,.slice B2 r.ws.length d2] 37) = W3 at q0 q1 q2 q3 q4 q5 q6 q7 q8 HRow3 HB3 HGw hs3 ⊢
    have HS3:=Lib.hid hs3
    clear hal hr3 hrow hbl HV HN HB hX hok hs3 hXl
    go_wp2_with (at_builtin;refine wpList_append_own_at _ rfl _ _ 22 rfl w.heap.size 37 i9 z9 9 120 Tryz.underlying22 hi9 hz9 hs9 hb9 hzs9 (by decide) _ X.length (X.flatMap rcs) rfl (st_keep HRow3.out.row ((Below.refl _ W3).alloc (Nat.le_refl _) _)) ⟨W3.heap.size,0,none⟩ 1 1 (rcs ⟨r,A2,B2,c2,d2⟩) rfl rfl ?f1 ?f2 ?f3 ?f4 ?f5 ?_)
    case f1=>first | exact fun j u hu=>hu | exact fun j u hu=>by rw [addr_head];exact blk_cell (blk1 W3 _).2 (by rw [List.getElem?_toArray];exact hu)
    case f2=>exact Tr.one_cells _
    case f3=>have:=HXl.out;unfold maxLen;omega
    case f4=>have:=HXl.out;omega
    case f5=>have:=HB3.out.size;simp;omega
    intro v6 w6 ho6 hg6 _ hat6
    have HRow6:=Lib.hid (HGw.out w6 v6 ho6 hg6 (by rw [← HS3.out];exact hat6))
    have HB6:=Lib.hid ((HB3.out.trans (((Below.refl _ W3).alloc (Nat.le_refl _) (.cells (rcs ⟨r,A2,B2,c2,d2⟩).toArray 37)).mono HB3.out.size)).grown hg6 (by have:=HB3.out.size;have h2:(W3.alloc (.cells (rcs ⟨r,A2,B2,c2,d2⟩).toArray 37)).heap.size = W3.heap.size + 1:=Array.size_push ..;omega) (fun k hk=>(HRow3.out.row.lt k hk).1))
    have HXl6:=Lib.hid (show (X ++ [(⟨r,A2,B2,c2,d2⟩:RI)]).length = j + 1 by rw [List.length_append,HXl.out];rfl)
    clear ho6 hg6 hat6 HGw HRow3 HB3
    go_wp2_with fail
    go_roundw
    case rel=>exact ⟨j + 1,v6,_,by omega,by go_num,rfl,HX2,HXl6,HOk2,HRow6,HB6⟩
    case measure=>simp [RowKit.intOf];omega
   ·have z:((code:Int) != 0) = true:=by simpa using h0
    have HB3:=Lib.hid ((hbl.out.trans (HB.out.mono hbl.out.size)).trans (((Below.refl _ w2).alloc (Nat.le_refl _) (.cells #[.int .i64 r.kind,.int .i64 r.txn,.int .i64 r.ts,.int .i64 r.coord,.string r.key,.string r.text,.bool r.dead,.slice A2 r.keys.length c2,.slice B2 r.ws.length d2] 37)).mono (Nat.le_trans hbl.out.size HB.out.size)))
    have HF:=Lib.hid (show ∃ q ∈ ts,(Rc.decX q).2 ≠ 0 from ⟨t,HMem.out,by rw [HE.out];exact h0⟩)
    have HC0:=Lib.hid (show (code:Int) ≠ 0 by omega)
    clear hrow hbl HV HN HB hX hok h0
    go_wp2_with fail
    go_ret2
    exact .inr ⟨HF.out,_,rfl,HC0.out,HB3.out⟩
  ·obtain rfl:j = ts.length:=by omega
   obtain ⟨A3,c3,rfl,hr⟩:=hrow.out.rows
   have HR:=Lib.hid hr
   have hx:=hX.out
   have ho:=hok.out
   rw [List.take_length] at hx ho
   have HX3:=Lib.hid hx
   have HO3:=Lib.hid ho
   clear hr hx ho hX hok hrow
   go_wp2_with fail
   go_ret2
   exact .inl ⟨HO3.out,A3,c3,X,rfl,HX3.out,HR.out,hbl.out⟩
end Vt
end Go.Proofs.YtbkanoblcojdfaaGreat
namespace Go.Proofs.YtbkanoblcojdfaaGreat
namespace Sh
open Go.RowKit Go.Maps Go.Sort Go.Shelf Bk
def keysA_ren:Go.Shelf.Ren:=⟨fun | 7=>111 | 10=>170 | n=>n,fun | 23=>86 | 26=>3 | 3=>37 | 28=>138 | 0=>0 | 27=>137 | 33=>160 | 4=>4 | n=>n,fun | n=>n⟩
theorem keysA:Go.Proofs.SlLaysZI.n7 Tryz.prog keysA_ren:={
 mixed:=by kernel_rfl
 f7:=⟨Tryz.f111.name,by decide,Tryz.func111.trans (congrArg some (by kernel_rfl))⟩
 f10:=⟨Tryz.f170.name,by decide,Tryz.func170.trans (congrArg some (by kernel_rfl))⟩
 t0:=Tryz.underlying0
 a0:=Tryz.isAgg0
 z0:=Tryz.sizeOf0
 v0:=Tryz.zeroValue0
 t4:=Tryz.underlying4
 a4:=Tryz.isAgg4
 z4:=Tryz.sizeOf4
 v4:=Tryz.zeroValue4
 t23:=Tryz.underlying86
 a23:=Tryz.isAgg86
 z23:=Tryz.sizeOf86
 v23:=Tryz.zeroValue86
 t26:=Tryz.underlying3
 a26:=Tryz.isAgg3
 z26:=Tryz.sizeOf3
 v26:=Tryz.zeroValue3
 t27:=Tryz.underlying137
 a27:=Tryz.isAgg137
 z27:=Tryz.sizeOf137
 v27:=Tryz.zeroValue137
 t28:=Tryz.underlying138
 a28:=Tryz.isAgg138
 z28:=Tryz.sizeOf138
 v28:=Tryz.zeroValue138
 t33:=Tryz.underlying160
 a33:=Tryz.isAgg160
 z33:=Tryz.sizeOf160
 v33:=Tryz.zeroValue160
}
def sortedA_ren:Go.Shelf.Ren:=⟨fun | 6=>79 | 8=>139 | 9=>140 | 11=>204 | 13=>206 | 12=>205 | 23=>280 | 24=>281 | 14=>271 | 15=>272 | 16=>273 | 17=>274 | 18=>275 | 19=>276 | 20=>277 | 21=>278 | 22=>279 | 25=>321 | 26=>322 | 27=>323 | 28=>324 | 29=>325 | 30=>326 | 31=>346 | n=>n,fun | 26=>3 | 28=>138 | 24=>24 | 0=>0 | 3=>3 | 37=>261 | 48=>326 | 50=>315 | 4=>4 | 40=>320 | 39=>319 | 45=>164 | 5=>5 | 9=>9 | 51=>353 | 55=>357 | 57=>375 | 58=>90 | 33=>160 | n=>n,fun | n=>n⟩
theorem sortedA:Go.Proofs.SlLaysZI.n6 Tryz.prog sortedA_ren:={
 mixed:=by kernel_rfl
 f6:=⟨Tryz.f79.name,by decide,Tryz.func79.trans (congrArg some (by kernel_rfl))⟩
 f8:=⟨Tryz.f139.name,by decide,Tryz.func139.trans (congrArg some (by kernel_rfl))⟩
 f11:=⟨Tryz.f204.name,by decide,Tryz.func204.trans (congrArg some (by kernel_rfl))⟩
 t0:=Tryz.underlying0
 a0:=Tryz.isAgg0
 z0:=Tryz.sizeOf0
 v0:=Tryz.zeroValue0
 t24:=Tryz.underlying24
 a24:=Tryz.isAgg24
 z24:=Tryz.sizeOf24
 v24:=Tryz.zeroValue24
 t26:=Tryz.underlying3
 a26:=Tryz.isAgg3
 z26:=Tryz.sizeOf3
 v26:=Tryz.zeroValue3
 t28:=Tryz.underlying138
 a28:=Tryz.isAgg138
 z28:=Tryz.sizeOf138
 v28:=Tryz.zeroValue138
 i26:=by kernel_rfl
}
def sortA_ren:Go.Shelf.Ren:=⟨fun | 5=>140 | 8=>206 | 7=>205 | 19=>280 | 20=>281 | 10=>271 | 11=>272 | 12=>273 | 13=>274 | 14=>275 | 15=>276 | 16=>277 | 17=>278 | 18=>279 | 30=>321 | 31=>322 | 32=>323 | 33=>324 | 34=>325 | 35=>326 | 40=>346 | n=>n,fun | 23=>24 | 25=>3 | 3=>3 | 32=>261 | 22=>24 | 0=>0 | 44=>326 | 46=>315 | 4=>4 | 36=>320 | 35=>319 | 41=>164 | 5=>5 | 9=>9 | 53=>353 | 57=>357 | 63=>375 | 64=>90 | n=>n,fun | n=>n⟩
theorem sortA:Go.Proofs.SlLaysM.n5 Tryz.prog sortA_ren:={
 mixed:=by kernel_rfl
 f5:=⟨Tryz.f140.name,by decide,Tryz.func140.trans (congrArg some (by kernel_rfl))⟩
 f7:=⟨Tryz.f205.name,by decide,Tryz.func205.trans (congrArg some (by kernel_rfl))⟩
 f8:=Tryz.func206.trans (congrArg some (by kernel_rfl))
 f10:=⟨Tryz.f271.name,by decide,Tryz.func271.trans (congrArg some (by kernel_rfl))⟩
 f11:=⟨Tryz.f272.name,by decide,Tryz.func272.trans (congrArg some (by kernel_rfl))⟩
 f12:=⟨Tryz.f273.name,by decide,Tryz.func273.trans (congrArg some (by kernel_rfl))⟩
 f13:=⟨Tryz.f274.name,by decide,Tryz.func274.trans (congrArg some (by kernel_rfl))⟩
 f14:=⟨Tryz.f275.name,by decide,Tryz.func275.trans (congrArg some (by kernel_rfl))⟩
 f15:=⟨Tryz.f276.name,by decide,Tryz.func276.trans (congrArg some (by kernel_rfl))⟩
 f16:=⟨Tryz.f277.name,by decide,Tryz.func277.trans (congrArg some (by kernel_rfl))⟩
 f17:=⟨Tryz.f278.name,by decide,Tryz.func278.trans (congrArg some (by kernel_rfl))⟩
 f18:=⟨Tryz.f279.name,by decide,Tryz.func279.trans (congrArg some (by kernel_rfl))⟩
 f19:=Tryz.func280.trans (congrArg some (by kernel_rfl))
 f20:=Tryz.func281.trans (congrArg some (by kernel_rfl))
 f30:=⟨Tryz.f321.name,by decide,Tryz.func321.trans (congrArg some (by kernel_rfl))⟩
 f31:=Tryz.func322.trans (congrArg some (by kernel_rfl))
 f32:=Tryz.func323.trans (congrArg some (by kernel_rfl))
 f33:=⟨Tryz.f324.name,by decide,Tryz.func324.trans (congrArg some (by kernel_rfl))⟩
 f34:=⟨Tryz.f325.name,by decide,Tryz.func325.trans (congrArg some (by kernel_rfl))⟩
 f35:=⟨Tryz.f326.name,by decide,Tryz.func326.trans (congrArg some (by kernel_rfl))⟩
 f40:=⟨Tryz.f346.name,by decide,Tryz.func346.trans (congrArg some (by kernel_rfl))⟩
 t0:=Tryz.underlying0
 a0:=Tryz.isAgg0
 z0:=Tryz.sizeOf0
 v0:=Tryz.zeroValue0
 t3:=Tryz.underlying3
 a3:=Tryz.isAgg3
 z3:=Tryz.sizeOf3
 v3:=Tryz.zeroValue3
 t4:=Tryz.underlying4
 a4:=Tryz.isAgg4
 z4:=Tryz.sizeOf4
 v4:=Tryz.zeroValue4
 t5:=Tryz.underlying5
 a5:=Tryz.isAgg5
 z5:=Tryz.sizeOf5
 v5:=Tryz.zeroValue5
 t9:=Tryz.underlying9
 a9:=Tryz.isAgg9
 z9:=Tryz.sizeOf9
 v9:=Tryz.zeroValue9
 t22:=Tryz.underlying24
 a22:=Tryz.isAgg24
 z22:=Tryz.sizeOf24
 v22:=Tryz.zeroValue24
 t23:=Tryz.underlying24
 a23:=Tryz.isAgg24
 z23:=Tryz.sizeOf24
 v23:=Tryz.zeroValue24
 t25:=Tryz.underlying3
 a25:=Tryz.isAgg3
 z25:=Tryz.sizeOf3
 v25:=Tryz.zeroValue3
 t32:=Tryz.underlying261
 a32:=Tryz.isAgg261
 z32:=Tryz.sizeOf261
 v32:=Tryz.zeroValue261
 t35:=Tryz.underlying319
 a35:=Tryz.isAgg319
 z35:=Tryz.sizeOf319
 v35:=Tryz.zeroValue319
 t36:=Tryz.underlying320
 a36:=Tryz.isAgg320
 z36:=Tryz.sizeOf320
 v36:=Tryz.zeroValue320
 t41:=Tryz.underlying164
 a41:=Tryz.isAgg164
 z41:=Tryz.sizeOf164
 v41:=Tryz.zeroValue164
 t44:=Tryz.underlying326
 a44:=Tryz.isAgg326
 z44:=Tryz.sizeOf326
 v44:=Tryz.zeroValue326
 t46:=Tryz.underlying315
 a46:=Tryz.isAgg315
 z46:=Tryz.sizeOf315
 v46:=Tryz.zeroValue315
 t53:=Tryz.underlying353
 a53:=Tryz.isAgg353
 z53:=Tryz.sizeOf353
 v53:=Tryz.zeroValue353
 t57:=Tryz.underlying357
 a57:=Tryz.isAgg357
 z57:=Tryz.sizeOf357
 v57:=Tryz.zeroValue357
 t63:=Tryz.underlying375
 a63:=Tryz.isAgg375
 z63:=Tryz.sizeOf375
 v63:=Tryz.zeroValue375
 t64:=Tryz.underlying90
 a64:=Tryz.isAgg90
 z64:=Tryz.sizeOf90
 v64:=Tryz.zeroValue90
}
theorem sortsA (m:Nat):AnyZI.SortsIn Tryz.prog sortedA_ren Fence.wide m :=
 ⟨fun blk off cap ss W hH hblk hsz=>callsIn_wide.2 (AnyM.slices_Sort_int sortA blk off cap ss W hH hblk hsz),
  fun p cap W=>callsIn_wide.2 (AnyM.slices_Sort_int_none sortA p cap W)⟩
theorem keys_call (mb:Option Nat) (W:World):Calls Tryz.prog 111 #[.map mb] W fun e w' =>
  e = .returned (.func (.func 170) #[] #[.pointer (some ⟨W.heap.size,0,none⟩)]) ∧ w' = W.alloc (.cells #[.map mb] 86) :=
 (callsIn_wide (n:=5)).1 (AnyZI.keys_in keysA Fence.wide 5 trivial rfl mb W)
theorem sorted_call {H:Type} (b nn:Nat) (D0:DataW H) (R:Value → Option (DataW H × List MemPlace)) (w:World) (hown:w.ownsMap Tryz.prog 3 R b nn D0) (hmax:Maps.size D0 ≤ maxLen) (hbytes:Maps.size D0 * 8 ≤ 140737488355328) :
  Calls Tryz.prog 79 #[.func (.func 170) #[] #[.pointer (some ⟨w.heap.size,0,none⟩)]] (w.alloc (.cells #[.map (some b)] 86)) fun e w' =>
   ∃ (v:Value) (ss:List Int),e = .returned v ∧ ss.Perm (intKeys D0) ∧
   w'.ownsRow (w.alloc (.cells #[.map (some b)] 86)).heap.size 3 1 v ss.length ((ss.mergeSort (fun x y=>decide (x ≤ y))).map encZ) ∧ (v = .slice none 0 0 ↔ ss = []) ∧ Below (w.alloc (.cells #[.map (some b)] 86)).heap.size (w.alloc (.cells #[.map (some b)] 86)) w':=by
 have hbl:=hown.lt
 have hseq:SeqGives Fence.wide 2 Tryz.prog 170 #[.pointer (some ⟨w.heap.size,0,none⟩)] encZ (fun ss=>ss.Perm (intKeys D0)) (Maps.size D0) (w.alloc (.cells #[.map (some b)] 86)) :=
  AnyZI.keys_gives (ρ:=keysA_ren) { keysA with } Fence.wide _ trivial rfl (by omega) w.heap.size b nn D0 _ (by simp) (by simp) (by
   obtain ⟨es,clock,hb,Ft,hs,hD⟩:=hown
   exact ⟨es,clock,(Below.heap_alloc _ _ b hbl).trans hb,Ft,hs,hD⟩)
 have cS:=AnyZI.sorted_in sortedA Fence.wide 5 trivial trivial trivial trivial rfl (by omega) (sortsA _) (enters_of Tryz.func140 (by kernel_rfl) rfl) 170 #[.pointer (some ⟨w.heap.size,0,none⟩)] trivial (enters_of Tryz.func170 (by kernel_rfl) rfl) _ _ hmax hbytes _ hseq
 exact (callsIn_wide (n:=5)).1 cS
end Sh
end Go.Proofs.YtbkanoblcojdfaaGreat
namespace Go.Proofs.YtbkanoblcojdfaaGreat
namespace Sh
open Go.RowKit Bk Ch Lt Rc Tr
attribute [local go_sem ↓] Go.wp_at_zero Go.wp_at_succ
attribute [local go_sem] floatUpon pick
theorem int_keys {w:World} {b n:Nat} {D:DataW Value} {m:List (Int × Value)} (h:w.ownsMap Tryz.prog 3 rdV b n D) (hs:MSays intQ D m):(m.map (·.1)).Perm (intKeys D):=by
 obtain ⟨es,hD,hpw,_⟩:=h.entries intQ.keyed
 obtain ⟨es',hD',hko⟩:=h.keysOf
 obtain rfl:es = es':=by rw [hD] at hD';simpa using hD'
 subst hD
 exact perm_intKeys hpw (fun p hp=>by obtain ⟨v,hv⟩:=hko p hp;obtain ⟨x,_,hx,_⟩:=Maps.keyOf_i64 Tryz.underlying3 hv;exact ⟨x,hx⟩) hs.nodup (fun x=>(hs.has x).symm)
theorem sorted_ints {w:World} {b:Nat} {m:List (Int × Value)} (h:MapIs intQ w b m) {l:List Int} (hl:l.Pairwise (fun x y=>x < y)) (hp:(m.map (·.1)).Perm l) (hn:m.length ≤ 2048) :
  Calls Tryz.prog 79 #[.func (.func 170) #[] #[.pointer (some ⟨w.heap.size,0,none⟩)]] (w.alloc (.cells #[.map (some b)] 86)) fun e w' =>
   ∃ v:Value,e = .returned v ∧ w'.ownsRow w.heap.size 3 1 v l.length (intV l) ∧ Below w.heap.size w w':=by
 obtain ⟨D,hown,hsays⟩:=h
 have hsz:=says_size hown hsays
 have hml:m.length = l.length:=by have:=hp.length_eq;rwa [List.length_map] at this
 refine (sorted_call b m.length D rdV w hown (by unfold maxLen;omega) (by omega)).mono ?_
 rintro e w' ⟨v,ss,rfl,hpp,hrow,_,hb⟩
 have hperm:ss.Perm l:=hpp.trans ((int_keys hown hsays).symm.trans hp)
 have hsort:ss.mergeSort (fun x y=>decide (x ≤ y)) = l:=by
  have h1:=mergeSort_of_perm_i hperm
  have h2:l.mergeSort leI = l:=List.mergeSort_of_pairwise (hl.imp fun {a b} hab=>by simp only [leI,decide_eq_true_eq];omega)
  exact h1.trans h2
 rw [hsort,hperm.length_eq] at hrow
 exact ⟨v,rfl,own_base hrow (by simp),((Below.refl _ w).alloc (Nat.le_refl _) _).trans (hb.mono (by simp))⟩
section
variable {W:World} {F:Nat → Prop} {g bc bp:Nat} {v:Value} {K:List KI} {P:List RI} {s:Shf}
theorem lopen_any (h:LAt W F g bc bp v K P s) (hs:ShOk s) :
  Calls Tryz.prog 56 #[.pointer (some ⟨g,0,none⟩)] W fun e w'=>∃ u,e = .returned u ∧ w'.ownsRow W.heap.size 3 1 u s.p.length (intV (s.p.map (·.txn))) ∧ Below W.heap.size W w':=by
 have s1:=h.cel.cell (i:=1) rfl
 have hpl:(P.map pp).length ≤ 2048:=by rw [List.length_map,h.plen];have:=hs.pl;omega
 have hrise:(s.p.map (·.txn)).Pairwise (fun x y=>x < y):=List.pairwise_map.2 hs.pr
 have hperm:((P.map pp).map (·.1)).Perm (s.p.map (·.txn)):=by rw [← h.ep,List.map_map,List.map_map];exact List.Perm.refl _
 have HS:=Lib.hid (sorted_ints h.mp hrise hperm hpl)
 have HK:=Lib.hid (keys_call (some bp) W)
 have HL:=Lib.hid (show (s.p.map (·.txn)).length = s.p.length from List.length_map ..)
 clear h hs hpl hrise hperm
 go_enter Tryz.func56,Tryz.ntmps56
 go_wp2_with fail
 refine HK.out.mono ?_
 rintro e1 w1 ⟨rfl,rfl⟩
 go_wp2_with fail
 refine HS.out.mono ?_
 rintro e2 w2 ⟨u,rfl,hrow,hb⟩
 rw [HL.out] at hrow
 have HR:=Lib.hid hrow
 clear hrow
 go_wp2_with fail
 go_ret
 exact ⟨u,rfl,HR.out,hb⟩
end
end Sh
end Go.Proofs.YtbkanoblcojdfaaGreat
namespace Go.Proofs.YtbkanoblcojdfaaGreat
namespace Sh
open Go.RowKit Go.Maps Go.Sort Go.Shelf Bk
def keysS_ren:Go.Shelf.Ren:=⟨fun | 7=>110 | 10=>169 | n=>n,fun | 23=>85 | 26=>9 | 3=>92 | 28=>173 | 0=>0 | 27=>172 | 33=>163 | 4=>4 | n=>n,fun | n=>n⟩
theorem keysS:Go.Proofs.SlLaysZ.n7 Tryz.prog keysS_ren:={
 mixed:=by kernel_rfl
 f7:=⟨Tryz.f110.name,by decide,Tryz.func110.trans (congrArg some (by kernel_rfl))⟩
 f10:=⟨Tryz.f169.name,by decide,Tryz.func169.trans (congrArg some (by kernel_rfl))⟩
 t0:=Tryz.underlying0
 a0:=Tryz.isAgg0
 z0:=Tryz.sizeOf0
 v0:=Tryz.zeroValue0
 t4:=Tryz.underlying4
 a4:=Tryz.isAgg4
 z4:=Tryz.sizeOf4
 v4:=Tryz.zeroValue4
 t23:=Tryz.underlying85
 a23:=Tryz.isAgg85
 z23:=Tryz.sizeOf85
 v23:=Tryz.zeroValue85
 t26:=Tryz.underlying9
 a26:=Tryz.isAgg9
 z26:=Tryz.sizeOf9
 v26:=Tryz.zeroValue9
 t27:=Tryz.underlying172
 a27:=Tryz.isAgg172
 z27:=Tryz.sizeOf172
 v27:=Tryz.zeroValue172
 t28:=Tryz.underlying173
 a28:=Tryz.isAgg173
 z28:=Tryz.sizeOf173
 v28:=Tryz.zeroValue173
 t33:=Tryz.underlying163
 a33:=Tryz.isAgg163
 z33:=Tryz.sizeOf163
 v33:=Tryz.zeroValue163
}
def sortedS_ren:Go.Shelf.Ren:=⟨fun | 6=>109 | 8=>167 | 9=>168 | 11=>232 | 13=>206 | 12=>233 | 23=>280 | 24=>281 | 14=>296 | 15=>297 | 16=>298 | 17=>299 | 18=>300 | 19=>301 | 20=>235 | 21=>302 | 22=>303 | 25=>337 | 26=>322 | 27=>323 | 28=>338 | 29=>339 | 30=>305 | 31=>352 | n=>n,fun | 26=>9 | 28=>173 | 24=>23 | 0=>0 | 3=>3 | 37=>261 | 48=>326 | 50=>315 | 4=>4 | 40=>320 | 39=>319 | 45=>164 | 5=>5 | 9=>9 | 51=>353 | 55=>357 | 57=>375 | 58=>90 | 33=>163 | n=>n,fun | n=>n⟩
theorem sortedS:Go.Proofs.SlLaysZ.n6 Tryz.prog sortedS_ren:={
 mixed:=by kernel_rfl
 f6:=⟨Tryz.f109.name,by decide,Tryz.func109.trans (congrArg some (by kernel_rfl))⟩
 f8:=⟨Tryz.f167.name,by decide,Tryz.func167.trans (congrArg some (by kernel_rfl))⟩
 f11:=⟨Tryz.f232.name,by decide,Tryz.func232.trans (congrArg some (by kernel_rfl))⟩
 t0:=Tryz.underlying0
 a0:=Tryz.isAgg0
 z0:=Tryz.sizeOf0
 v0:=Tryz.zeroValue0
 t24:=Tryz.underlying23
 a24:=Tryz.isAgg23
 z24:=Tryz.sizeOf23
 v24:=Tryz.zeroValue23
 t26:=Tryz.underlying9
 a26:=Tryz.isAgg9
 z26:=Tryz.sizeOf9
 v26:=Tryz.zeroValue9
 t28:=Tryz.underlying173
 a28:=Tryz.isAgg173
 z28:=Tryz.sizeOf173
 v28:=Tryz.zeroValue173
 i26:=by kernel_rfl
}
def sortS_ren:Go.Shelf.Ren:=⟨fun | 6=>168 | 8=>206 | 9=>233 | 19=>280 | 20=>281 | 21=>296 | 22=>297 | 23=>298 | 24=>299 | 25=>300 | 26=>301 | 27=>235 | 28=>302 | 29=>303 | 36=>337 | 31=>322 | 32=>323 | 37=>338 | 38=>339 | 39=>305 | 41=>352 | n=>n,fun | 27=>23 | 29=>9 | 3=>3 | 32=>261 | 26=>23 | 0=>0 | 44=>326 | 46=>315 | 4=>4 | 36=>320 | 35=>319 | 41=>164 | 5=>5 | 9=>9 | 53=>353 | 57=>357 | 63=>375 | 64=>90 | n=>n,fun | n=>n⟩
theorem sortS:Go.Proofs.SlLaysM.n6 Tryz.prog sortS_ren:={
 mixed:=by kernel_rfl
 f6:=⟨Tryz.f168.name,by decide,Tryz.func168.trans (congrArg some (by kernel_rfl))⟩
 f9:=⟨Tryz.f233.name,by decide,Tryz.func233.trans (congrArg some (by kernel_rfl))⟩
 f8:=Tryz.func206.trans (congrArg some (by kernel_rfl))
 f21:=⟨Tryz.f296.name,by decide,Tryz.func296.trans (congrArg some (by kernel_rfl))⟩
 f22:=⟨Tryz.f297.name,by decide,Tryz.func297.trans (congrArg some (by kernel_rfl))⟩
 f23:=⟨Tryz.f298.name,by decide,Tryz.func298.trans (congrArg some (by kernel_rfl))⟩
 f24:=⟨Tryz.f299.name,by decide,Tryz.func299.trans (congrArg some (by kernel_rfl))⟩
 f25:=⟨Tryz.f300.name,by decide,Tryz.func300.trans (congrArg some (by kernel_rfl))⟩
 f26:=⟨Tryz.f301.name,by decide,Tryz.func301.trans (congrArg some (by kernel_rfl))⟩
 f27:=⟨Tryz.f235.name,by decide,Tryz.func235.trans (congrArg some (by kernel_rfl))⟩
 f28:=⟨Tryz.f302.name,by decide,Tryz.func302.trans (congrArg some (by kernel_rfl))⟩
 f29:=⟨Tryz.f303.name,by decide,Tryz.func303.trans (congrArg some (by kernel_rfl))⟩
 f19:=Tryz.func280.trans (congrArg some (by kernel_rfl))
 f20:=Tryz.func281.trans (congrArg some (by kernel_rfl))
 f36:=⟨Tryz.f337.name,by decide,Tryz.func337.trans (congrArg some (by kernel_rfl))⟩
 f31:=Tryz.func322.trans (congrArg some (by kernel_rfl))
 f32:=Tryz.func323.trans (congrArg some (by kernel_rfl))
 f37:=⟨Tryz.f338.name,by decide,Tryz.func338.trans (congrArg some (by kernel_rfl))⟩
 f38:=⟨Tryz.f339.name,by decide,Tryz.func339.trans (congrArg some (by kernel_rfl))⟩
 f39:=⟨Tryz.f305.name,by decide,Tryz.func305.trans (congrArg some (by kernel_rfl))⟩
 f41:=⟨Tryz.f352.name,by decide,Tryz.func352.trans (congrArg some (by kernel_rfl))⟩
 t0:=Tryz.underlying0
 a0:=Tryz.isAgg0
 z0:=Tryz.sizeOf0
 v0:=Tryz.zeroValue0
 t3:=Tryz.underlying3
 a3:=Tryz.isAgg3
 z3:=Tryz.sizeOf3
 v3:=Tryz.zeroValue3
 t4:=Tryz.underlying4
 a4:=Tryz.isAgg4
 z4:=Tryz.sizeOf4
 v4:=Tryz.zeroValue4
 t5:=Tryz.underlying5
 a5:=Tryz.isAgg5
 z5:=Tryz.sizeOf5
 v5:=Tryz.zeroValue5
 t9:=Tryz.underlying9
 a9:=Tryz.isAgg9
 z9:=Tryz.sizeOf9
 v9:=Tryz.zeroValue9
 t26:=Tryz.underlying23
 a26:=Tryz.isAgg23
 z26:=Tryz.sizeOf23
 v26:=Tryz.zeroValue23
 t27:=Tryz.underlying23
 a27:=Tryz.isAgg23
 z27:=Tryz.sizeOf23
 v27:=Tryz.zeroValue23
 t29:=Tryz.underlying9
 a29:=Tryz.isAgg9
 z29:=Tryz.sizeOf9
 v29:=Tryz.zeroValue9
 t32:=Tryz.underlying261
 a32:=Tryz.isAgg261
 z32:=Tryz.sizeOf261
 v32:=Tryz.zeroValue261
 t35:=Tryz.underlying319
 a35:=Tryz.isAgg319
 z35:=Tryz.sizeOf319
 v35:=Tryz.zeroValue319
 t36:=Tryz.underlying320
 a36:=Tryz.isAgg320
 z36:=Tryz.sizeOf320
 v36:=Tryz.zeroValue320
 t41:=Tryz.underlying164
 a41:=Tryz.isAgg164
 z41:=Tryz.sizeOf164
 v41:=Tryz.zeroValue164
 t44:=Tryz.underlying326
 a44:=Tryz.isAgg326
 z44:=Tryz.sizeOf326
 v44:=Tryz.zeroValue326
 t46:=Tryz.underlying315
 a46:=Tryz.isAgg315
 z46:=Tryz.sizeOf315
 v46:=Tryz.zeroValue315
 t53:=Tryz.underlying353
 a53:=Tryz.isAgg353
 z53:=Tryz.sizeOf353
 v53:=Tryz.zeroValue353
 t57:=Tryz.underlying357
 a57:=Tryz.isAgg357
 z57:=Tryz.sizeOf357
 v57:=Tryz.zeroValue357
 t63:=Tryz.underlying375
 a63:=Tryz.isAgg375
 z63:=Tryz.sizeOf375
 v63:=Tryz.zeroValue375
 t64:=Tryz.underlying90
 a64:=Tryz.isAgg90
 z64:=Tryz.sizeOf90
 v64:=Tryz.zeroValue90
}
theorem sortsS (m:Nat):AnyZ.SortsIn Tryz.prog sortedS_ren Fence.wide m :=
 ⟨fun blk off cap ss W hH hblk hsz=>callsIn_wide.2 (AnyM.slices_Sort_string sortS blk off cap ss W hH hblk hsz),
  fun p cap W=>callsIn_wide.2 (AnyM.slices_Sort_string_none sortS p cap W)⟩
theorem skeys_call (mb:Option Nat) (W:World):Calls Tryz.prog 110 #[.map mb] W fun e w' =>
  e = .returned (.func (.func 169) #[] #[.pointer (some ⟨W.heap.size,0,none⟩)]) ∧ w' = W.alloc (.cells #[.map mb] 85) :=
 (callsIn_wide (n:=5)).1 (AnyZ.keys_in keysS Fence.wide 5 trivial rfl mb W)
theorem ssorted_call {H:Type} (b nn:Nat) (D0:DataW H) (R:Value → Option (DataW H × List MemPlace)) (w:World) (hown:w.ownsMap Tryz.prog 9 R b nn D0) (hmax:Maps.size D0 ≤ maxLen) (hbytes:Maps.size D0 * 16 ≤ 140737488355328) :
  Calls Tryz.prog 109 #[.func (.func 169) #[] #[.pointer (some ⟨w.heap.size,0,none⟩)]] (w.alloc (.cells #[.map (some b)] 85)) fun e w' =>
   ∃ (v:Value) (ss:List (List UInt8)),e = .returned v ∧ ss.Perm (strKeys D0) ∧
   w'.ownsRow (w.alloc (.cells #[.map (some b)] 85)).heap.size 9 1 v ss.length ((ss.mergeSort (fun x y=>decide (x ≤ y))).map encStr) ∧ (v = .slice none 0 0 ↔ ss = []) ∧ Below (w.alloc (.cells #[.map (some b)] 85)).heap.size (w.alloc (.cells #[.map (some b)] 85)) w':=by
 have hbl:=hown.lt
 have hseq:SeqGives Fence.wide 2 Tryz.prog 169 #[.pointer (some ⟨w.heap.size,0,none⟩)] encStr (fun ss=>ss.Perm (strKeys D0)) (Maps.size D0) (w.alloc (.cells #[.map (some b)] 85)) :=
  AnyZ.keys_gives (ρ:=keysS_ren) { keysS with } Fence.wide _ trivial rfl (by omega) w.heap.size b nn D0 _ (by simp) (by simp) (by
   obtain ⟨es,clock,hb,Ft,hs,hD⟩:=hown
   exact ⟨es,clock,(Below.heap_alloc _ _ b hbl).trans hb,Ft,hs,hD⟩)
 have cS:=AnyZ.sorted_in sortedS Fence.wide 5 trivial trivial trivial trivial rfl (by omega) (sortsS _) (enters_of Tryz.func168 (by kernel_rfl) rfl) 169 #[.pointer (some ⟨w.heap.size,0,none⟩)] trivial (enters_of Tryz.func169 (by kernel_rfl) rfl) _ _ hmax hbytes _ hseq
 exact (callsIn_wide (n:=5)).1 cS
end Sh
end Go.Proofs.YtbkanoblcojdfaaGreat
namespace Go.Proofs.YtbkanoblcojdfaaGreat
namespace Sh
open Go.RowKit Go.Maps Go.Sort Bk Ch Lt Rc Tr
theorem less_le:∀ x y:List UInt8,Op.bytesLess x y = true → x ≤ y
 | [],_,_=>List.nil_le _
 | _ :: _,[],h=>by rw [bytesLess_nil2] at h;cases h
 | a :: x,b :: y,h=>by
  unfold Op.bytesLess at h
  simp only [Bool.or_eq_true,Bool.and_eq_true,decide_eq_true_eq,beq_iff_eq] at h
  rw [List.cons_le_cons_iff]
  rcases h with h | ⟨h1,h2⟩
  ·exact .inl h
  ·exact .inr ⟨h1,less_le x y h2⟩
theorem lt_le {a b:ByteArray} (h:ltK a b = true):a.data.toList ≤ b.data.toList:=by
 have h1:=less_le _ _ h
 rwa [ByteArray.toList_eq,ByteArray.toList_eq] at h1
theorem str_keys {w:World} {b n:Nat} {D:DataW Value} {m:List (ByteArray × Value)} (h:w.ownsMap Tryz.prog 9 rdV b n D) (hs:MSays strQ D m):(m.map (fun p=>p.1.data.toList)).Perm (strKeys D):=by
 obtain ⟨es,hD,hpw,_⟩:=h.entries strQ.keyed
 obtain ⟨es',hD',hko⟩:=h.keysOf
 obtain rfl:es = es':=by rw [hD] at hD';simpa using hD'
 subst hD
 have inj:∀ x y:ByteArray,x.data.toList = y.data.toList → x = y:=fun x y e=>by
  obtain ⟨a⟩:=x
  obtain ⟨b⟩:=y
  congr 1
  exact Array.toList_inj.1 e
 refine perm_strKeys hpw (fun p hp=>by
  obtain ⟨v,hv⟩:=hko p hp
  obtain ⟨s,_,e,_⟩:=WideMaps.string_of_keyOf Tryz.underlying9 hv
  exact ⟨_,e⟩) ?_ (fun x=>?_)
 ·have h1:=hs.nodup
  rw [show (m.map fun p=>p.1.data.toList) = (m.map (·.1)).map (fun k=>k.data.toList) by rw [List.map_map];rfl]
  exact List.pairwise_map.2 (h1.imp fun hne e=>hne (inj _ _ e))
 ·have h1:=hs.has ⟨x.toArray⟩
  have e:strQ.kl ⟨x.toArray⟩ = .string x:=rfl
  rw [e] at h1
  rw [h1]
  constructor
  ·intro hm
   obtain ⟨p,hp,rfl⟩:=List.mem_map.1 hm
   exact List.mem_map.2 ⟨p,hp,rfl⟩
  ·intro hm
   obtain ⟨p,hp,e2⟩:=List.mem_map.1 hm
   exact List.mem_map.2 ⟨p,hp,by rw [e2]⟩
theorem enc_str (l:List ByteArray):(l.map (fun k=>k.data.toList)).map encStr = strV l:=by
 unfold strV
 rw [List.map_map]
 exact List.map_congr_left fun k _=>rfl
theorem sorted_strs {w:World} {b:Nat} {m:List (ByteArray × Value)} (h:MapIs strQ w b m) {l:List ByteArray} (hl:l.Pairwise (fun x y=>ltK x y = true)) (hp:(m.map (·.1)).Perm l) (hn:m.length ≤ 2048) :
  Calls Tryz.prog 109 #[.func (.func 169) #[] #[.pointer (some ⟨w.heap.size,0,none⟩)]] (w.alloc (.cells #[.map (some b)] 85)) fun e w' =>
   ∃ v:Value,e = .returned v ∧ w'.ownsRow w.heap.size 9 1 v l.length (strV l) ∧ Below w.heap.size w w':=by
 obtain ⟨D,hown,hsays⟩:=h
 have hsz:=says_size hown hsays
 have hml:m.length = l.length:=by have:=hp.length_eq;rwa [List.length_map] at this
 refine (ssorted_call b m.length D rdV w hown (by unfold maxLen;omega) (by omega)).mono ?_
 rintro e w' ⟨v,ss,rfl,hpp,hrow,_,hb⟩
 have hp2:(m.map (fun p=>p.1.data.toList)).Perm (l.map (fun k=>k.data.toList)):=by
  rw [show (m.map fun p=>p.1.data.toList) = (m.map (·.1)).map (fun k=>k.data.toList) by rw [List.map_map];rfl]
  exact hp.map _
 have hperm:ss.Perm (l.map (fun k=>k.data.toList)):=hpp.trans ((str_keys hown hsays).symm.trans hp2)
 have hsort:ss.mergeSort (fun x y=>decide (x ≤ y)) = l.map (fun k=>k.data.toList):=by
  have h1:=mergeSort_of_perm hperm
  have h2:(l.map (fun k=>k.data.toList)).mergeSort leB = l.map (fun k=>k.data.toList):=List.mergeSort_of_pairwise (List.pairwise_map.2 (hl.imp fun {a b} hab=>by simp only [leB,decide_eq_true_eq];exact lt_le hab))
  exact h1.trans h2
 have hlen:ss.length = l.length:=by have:=hperm.length_eq;rwa [List.length_map] at this
 rw [hsort,enc_str,hlen] at hrow
 exact ⟨v,rfl,own_base hrow (by simp),((Below.refl _ w).alloc (Nat.le_refl _) _).trans (hb.mono (by simp))⟩
end Sh
end Go.Proofs.YtbkanoblcojdfaaGreat
namespace Go.Proofs.YtbkanoblcojdfaaGreat
namespace Sh
open Go.RowKit Bk Ch Lt Rc Tr
def Rb (x:RI) (a:Nat):Prop:=(0 < x.l.keys.length ∧ ∃ ad,x.A = some ad ∧ ad.block = a) ∨ (0 < x.l.ws.length ∧ ∃ ad,x.B = some ad ∧ ad.block = a)
structure OutL (W w:World) (v:Value) (X:List RI):Prop where
 row:w.ownsRow W.heap.size 37 9 v X.length (X.flatMap rcs)
 pv:∀ x ∈ X,PVal w (fun k=>v.ownBlock = some k) x
 new:∀ x ∈ X,NewR W.heap.size x
 ord:X.Pairwise (fun x y=>∀ a b,Rb x a → Rb y b → a < b)
 fr:∀ x ∈ X,FrK w x
theorem rb_lt {w:World} {M:Nat → Prop} {x:RI} (h:PVal w M x) {a:Nat} (hb:Rb x a):a < w.heap.size:=by
 rcases hb with ⟨hp,ad,e,rfl⟩ | ⟨hp,ad,e,rfl⟩
 ·obtain ⟨ad',e',hl,_⟩:=h.val.ks hp
  rw [e] at e'
  obtain rfl:=Option.some.inj e'
  exact hl
 ·obtain ⟨ad',e',hl,_⟩:=h.val.ws hp
  rw [e] at e'
  obtain rfl:=Option.some.inj e'
  exact hl
theorem rb_ge {X:Nat} {x:RI} (h:NewR X x) {a:Nat} (hb:Rb x a):X ≤ a:=by
 rcases hb with ⟨hp,ad,e,rfl⟩ | ⟨hp,ad,e,rfl⟩
 ·exact h.ks hp ad e
 ·exact h.ws hp ad e
section
variable {W w w1 w2:World} {v v':Value} {X:List RI} {y:RI}
theorem OutL.below (h:OutL W w v X) (hb:Below w.heap.size w w1):OutL W w1 v X :=
 ⟨st_keep h.row hb,fun x hx=>(h.pv x hx).both (Away.of hb) (fun _ hk=>.inl hk),h.new,h.ord,fun x hx=>(h.fr x hx).below hb⟩
theorem OutL.none (w:World):OutL w w (.slice none 0 0) [] :=
 ⟨World.ownsRow_nil _ _ _ _,by simp,by simp,List.Pairwise.nil,by simp⟩
theorem OutL.grow (h:OutL W w v X) (hW:W.heap.size ≤ w.heap.size) (hb:Below w.heap.size w w1) (hv:RecVal w1 y.A y.B y.c y.d y.l) (hn:NewR w.heap.size y) (hfr:FrK w1 y)
  (ho:w2.ownsRow W.heap.size 37 9 v' (X.length + 1) (X.flatMap rcs ++ rcs y)) (hg:(w1.alloc (.cells (rcs y).toArray 37)).grownBy w2 v.ownBlock)
  (hat:v'.ownBlock = v.ownBlock ∨ v'.ownBlock = some (w1.heap.size + 1)):OutL W w2 v' (X ++ [y]):=by
 have hb1:=(Below.refl _ w1).alloc (Nat.le_refl _) (.cells (rcs y).toArray 37)
 have hsz:(w1.alloc (.cells (rcs y).toArray 37)).heap.size = w1.heap.size + 1:=Array.size_push ..
 rw [← hsz] at hat
 have hlt:∀ k,v.ownBlock = some k → k < w.heap.size:=fun k hk=>(h.row.lt k hk).2
 have aw:Away (fun k=>v.ownBlock = some k) (w1.alloc (.cells (rcs y).toArray 37)) w2:=⟨hg.size,fun k hk hn=>hg.block k hk (fun e=>hn e.symm)⟩
 have tn:∀ k,v'.ownBlock = some k → v.ownBlock = some k ∨ (w1.alloc (.cells (rcs y).toArray 37)).heap.size ≤ k:=fun k hk=>by
  rcases hat with e | e
  ·exact .inl (by rw [← e];exact hk)
  ·rw [e] at hk
   exact .inr (by rw [Option.some.inj hk];exact Nat.le_refl _)
 have hy1:PVal w1 (fun k=>v.ownBlock = some k) y:=pval_new hv hn hlt
 have h1:∀ x ∈ X ++ [y],PVal w1 (fun k=>v.ownBlock = some k) x:=fun x hx=>by
  rcases List.mem_append.1 hx with hx | hx
  ·exact (h.below hb).pv x hx
  ·rw [List.mem_singleton.1 hx]
   exact hy1
 have hfr2:∀ x ∈ X ++ [y],FrK w2 x:=fun x hx hp=>by
  have hf:FrK w1 x:=by
   rcases List.mem_append.1 hx with hx | hx
   ·exact (h.fr x hx).below hb
   ·rw [List.mem_singleton.1 hx];exact hfr
  exact ((hf.below hb1).keep (fun ad e hl=>hg.block _ hl (fun e2=>(h1 x hx).ka hp ad e e2.symm))) hp
 refine ⟨?_,fun x hx=>((h1 x hx).both (Away.of hb1) (fun _ hk=>.inl hk)).both aw tn,fun x hx=>?_,?_,hfr2⟩
 ·rw [List.length_append,List.flatMap_append]
  simpa using ho
 ·rcases List.mem_append.1 hx with hx | hx
  ·exact h.new x hx
  ·rw [List.mem_singleton.1 hx]
   exact ⟨fun hp ad e=>Nat.le_trans hW (hn.ks hp ad e),fun hp ad e=>Nat.le_trans hW (hn.ws hp ad e)⟩
 ·refine List.pairwise_append.2 ⟨h.ord,List.pairwise_singleton ..,fun x hx z hz a b ha hb'=>?_⟩
  rw [List.mem_singleton.1 hz] at hb'
  exact Nat.lt_of_lt_of_le (rb_lt (h.pv x hx) ha) (rb_ge hn hb')
end
end Sh
end Go.Proofs.YtbkanoblcojdfaaGreat
