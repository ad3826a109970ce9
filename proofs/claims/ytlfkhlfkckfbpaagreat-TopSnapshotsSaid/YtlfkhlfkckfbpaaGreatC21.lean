/- Parts of the proof, joined: RcFrom, RcDecL; their conditions stand with each. -/
import Derived.Test.YtlfkhlfkckfbpaaGreatC8
import Derived.Test.YtlfkhlfkckfbpaaGreatC20

set_option maxRecDepth 20000
set_option maxHeartbeats 8000000
namespace Go.Proofs.YtlfkhlfkckfbpaaGreat
namespace Rc
open Go.RowKit Bk Lt
attribute [local go_sem ↓] Go.wp_at_zero Go.wp_at_succ
attribute [local go_sem] floatUpon pick
theorem i64_wrap2 {x:Int} (h0:-9223372036854775808 ≤ x) (h1:x < 9223372036854775808):IntKind.i64.wrap x = x:=by
 simp only [IntKind.wrap,IntKind.bits,IntKind.signed];simp;omega
def FpAns (ns:List Int) (ts:List ByteArray) (w:World):Ending → World → Prop:=fun e w' =>
 (Shape ns ts ∧ ∃ (A B:Option Addr) (c d:Nat),e = .returned (.tuple #[recV (cand ns ts) A B c d,.bool true]) ∧ RecVal w' A B c d (cand ns ts) ∧ Below w.heap.size w w' ∧ (∀ a,A = some a → w.heap.size ≤ a.block) ∧ ∀ a,B = some a → w.heap.size ≤ a.block) ∨
 (¬ Shape ns ts ∧ e = .returned (.tuple #[recV noRec none none 0 0,.bool false]) ∧ Below w.heap.size w w')
theorem fromPack_any (A B:Option Addr) (c d:Nat) (ns:List Int) (ts:List ByteArray) (w:World) (ha:IntsAt w A ns) (hb:StrsAt w B ts) (hm:Pk.MayBe ns ts) (h1:ns.length ≤ c) (h2:ts.length ≤ d) (h3:c ≤ maxLen) (h4:d ≤ maxLen) :
  Calls Tryz.prog 83 #[Pk.packV A B c d ns ts] w (FpAns ns ts w):=by
 have HMk:Hid (∀ (v:Value) (w':World),¬ Shape ns ts → Below w.heap.size w w' → v = recV noRec none none 0 0 → FpAns ns ts w (.returned (.tuple #[v,.bool false])) w'):=Lib.hid (fun v w' h1 h2 h3=>.inr ⟨h1,by rw [h3],h2⟩)
 have hrg:=cand_range hm
 have pn:(ns.length:Int) ≤ 1024:=by have:=hm.1;omega
 have pt:(ts.length:Int) ≤ 1024:=by have:=hm.2.1;omega
 have HM:=Lib.hid hm
 have HRg:=Lib.hid hrg
 have HA:=Lib.hid ha
 have HB:=Lib.hid hb
 clear ha hb hm hrg
 unfold Pk.packV
 go_enter Tryz.func83,Tryz.ntmps83
 go_upto_region 1 with fail
 have hB1:Below w.heap.size w ((w.alloc (.cells #[.slice A ns.length c,.slice B ts.length d] 148)).alloc (.cells #[.int .i64 0,.int .i64 0,.int .i64 0,.int .i64 0,.string ⟨#[]⟩,.string ⟨#[]⟩,.bool false,.slice none 0 0,.slice none 0 0] 60)):=((Below.refl _ w).alloc (Nat.le_refl _) _).alloc (by simp) _
 have hP1:Cel ((w.alloc (.cells #[.slice A ns.length c,.slice B ts.length d] 148)).alloc (.cells #[.int .i64 0,.int .i64 0,.int .i64 0,.int .i64 0,.string ⟨#[]⟩,.string ⟨#[]⟩,.bool false,.slice none 0 0,.slice none 0 0] 60)) w.heap.size 148 [.slice A ns.length c,.slice B ts.length d]:=(blk2 w _ _).2.1
 have hR1:Cel ((w.alloc (.cells #[.slice A ns.length c,.slice B ts.length d] 148)).alloc (.cells #[.int .i64 0,.int .i64 0,.int .i64 0,.int .i64 0,.string ⟨#[]⟩,.string ⟨#[]⟩,.bool false,.slice none 0 0,.slice none 0 0] 60)) (w.heap.size + 1) 60 [.int .i64 0,.int .i64 0,.int .i64 0,.int .i64 0,.string ⟨#[]⟩,.string ⟨#[]⟩,.bool false,.slice none 0 0,.slice none 0 0]:=(blk2 w _ _).2.2
 generalize (w.alloc (.cells #[.slice A ns.length c,.slice B ts.length d] 148)).alloc (.cells #[.int .i64 0,.int .i64 0,.int .i64 0,.int .i64 0,.string ⟨#[]⟩,.string ⟨#[]⟩,.bool false,.slice none 0 0,.slice none 0 0] 60) = W1 at hB1 hP1 hR1 ⊢
 have HB1:=Lib.hid hB1
 have HP1:=Lib.hid hP1
 have HR1:=Lib.hid hR1
 have k0:=hP1.cell (i:=0) rfl
 have k1:=hP1.cell (i:=1) rfl
 clear hB1 hP1 hR1
 by_cases h7:6 ≤ ns.length
 case neg =>
  have p7:(ns.length:Int) < 6:=by omega
  have HN:=Lib.hid (show ¬ Shape ns ts from fun h=>h7 h.1)
  clear h7
  have zq:=fun i=>HR1.out.free (i:=i)
  have y0:=HR1.out.cell (i:=0) rfl
  have y1:=HR1.out.cell (i:=1) rfl
  have y2:=HR1.out.cell (i:=2) rfl
  have y3:=HR1.out.cell (i:=3) rfl
  have y4:=HR1.out.cell (i:=4) rfl
  have y5:=HR1.out.cell (i:=5) rfl
  have y6:=HR1.out.cell (i:=6) rfl
  have y7:=HR1.out.cell (i:=7) rfl
  have y8:=HR1.out.cell (i:=8) rfl
  go_wp2_with fail
  have HF:=Lib.hid (set9_cel (v0:=.int .i64 0) (v1:=.int .i64 0) (v2:=.int .i64 0) (v3:=.int .i64 0) (v4:=.string ⟨#[]⟩) (v5:=.string ⟨#[]⟩) (v6:=.bool false) (v7:=.slice none 0 0) (v8:=.slice none 0 0) HR1.out)
  have z0:=HF.out.cell (i:=0) rfl
  have z1:=HF.out.cell (i:=1) rfl
  have z2:=HF.out.cell (i:=2) rfl
  have z3:=HF.out.cell (i:=3) rfl
  have z4:=HF.out.cell (i:=4) rfl
  have z5:=HF.out.cell (i:=5) rfl
  have z6:=HF.out.cell (i:=6) rfl
  have z7:=HF.out.cell (i:=7) rfl
  have z8:=HF.out.cell (i:=8) rfl
  unfold set9 at z0 z1 z2 z3 z4 z5 z6 z7 z8
  exact bodyPost_ret (v:=.tuple #[recV noRec none none 0 0,.bool false]) (by simp [results,Tryz.results83,go_sem,recV,noRec,z0,z1,z2,z3,z4,z5,z6,z7,z8]) rfl (HMk.out _ _ HN.out (set9_below HB1.out (Nat.le_succ _)) rfl)
 have p7:(6:Int) ≤ (ns.length:Int):=by omega
 obtain ⟨ad,rfl,hab,hcl⟩:=HA.out (by omega)
 have hgi:∀ W,Below w.heap.size w W → ∀ i,0 < i → i < 6 → W.cell? ⟨ad.block,ad.off + i,none⟩ = some (.int .i64 (ns.getD i 0)):=fun W hW i h0 hi=>by
  rw [add_lit _ _ h0,cell_kept hW _ (by rw [st_block];exact hab),hcl i (by omega),List.getD_eq_getElem?_getD,List.getElem?_eq_getElem (by omega)];rfl
 have hg0:∀ W,Below w.heap.size w W → W.cell? ad = some (.int .i64 (ns.getD 0 0)):=fun W hW=>by
  have h:=hcl 0 (by omega)
  rw [add_zero'] at h
  rw [cell_kept hW _ hab,h,List.getD_eq_getElem?_getD,List.getElem?_eq_getElem (by omega)];rfl
 have HGi:=Lib.hid hgi
 have HG0:=Lib.hid hg0
 obtain ⟨m,hm⟩:∃ m,m = ns.getD 5 0:=⟨_,rfl⟩
 have hmr:-4611686018427387904 ≤ m ∧ m ≤ 4611686018427387903:=by
  rw [hm,List.getD_eq_getElem?_getD,List.getElem?_eq_getElem (by omega)]
  have hz:=HM.out.2.2.1 ns[5] (List.getElem_mem (by omega))
  unfold Pk.numOk at hz
  simpa using hz
 have HM5:=Lib.hid hm
 have HC5:=Lib.hid (fun W hW=>(hgi W hW 5 (by omega) (by omega)).trans (by rw [← hm]))
 obtain ⟨K6,hK6⟩:∃ K6:Option Addr,(if c = 6 then some ad else some ⟨ad.block,ad.off + 6,none⟩) = K6:=⟨_,rfl⟩
 have HI6:=Lib.hid (fun W (hW:Below w.heap.size w W)=>show IntsAt W K6 (ns.drop 6) from by
  rw [← hK6,add_lit _ _ (by omega)]
  exact ints_sub (HA.out.below hW) h1)
 have pc2:c ≤ 9223372036854775807:=h3
 have pd2:d ≤ 9223372036854775807:=h4
 have p6:(5:Int) < (ns.length:Int):=by omega
 have g6:5 < ns.length:=by omega
 clear hcl hgi hg0 hm h3 h4
 go_upto_region 4 with fail
 refine wp_region_said 7 [15,16,17,18,19,5,6]
  [.is (.slice (some ad) ns.length c),.is (.pointer (some ⟨ad.block,ad.off + 5,none⟩)),.is (.int .i64 m),.is (.slice (some ad) ns.length c),.is (.slice K6 (ns.length - 6) (c - 6)),.is (.int .i64 m),.is (.slice K6 (ns.length - 6) (c - 6))]
  (fun W=>Below W1.heap.size W1 W) (by kernel_rfl) (by kernel_rfl) (by kernel_rfl) (by kernel_rfl) (by kernel_rfl) (fun W W' h hb=>h.trans (hb.mono h.size)) (Below.refl _ _) ?steps4 ?last4
 case steps4 =>
  simp only [List.take_succ_cons,List.take_zero]
  refine ⟨?_,?_,?_,?_,?_,?_,?_,trivial⟩
  all_goals
   intro vs W ρ hρ hc hf hg hI hH hd R' hR
   have c6:=HC5.out W (HB1.out.trans (hI.mono HB1.out.size))
   have HR:=Lib.hid hR
   simp [depsOf,Region.binds,sayAt,Say.holds] at hd
   clear hR hI
   go_simp
   first
    | exact HR.out _ _ (by simp [sayAt,Say.holds]) (Below.refl _ _) (by simp [sayAt,Say.isBlk])
    | trace_state
 case last4 =>
  intro vs W hI hb hg hd
  have e5:=hg 5 (by omega)
  have e6:=hg 6 (by omega)
  simp only [sayAt,Say.holds,List.getD_cons_succ,List.getD_cons_zero] at e5 e6
  simp only [List.take_succ_cons,List.take_zero,List.drop_succ_cons,List.drop_zero,putAll,Act.put,List.setIfInBounds_toArray,List.set_cons_succ,List.set_cons_zero,Nat.zero_add,Nat.reduceAdd]
  rw [e5,e6]
  have HB2:=Lib.hid (HB1.out.trans (hI.mono HB1.out.size))
  have HP2:=Lib.hid (HP1.out.below hI)
  have HR2:=Lib.hid (HR1.out.below hI)
  have HS2:=Lib.hid hI.size
  have hlt1:w.heap.size + 1 < W.heap.size:=HR2.out.lt
  clear e5 e6 hg hd hb hI HB1 HP1 HR1 k0 k1 hK6
  go_upto_region 5 with fail
  have HK6s:Hid (ns.length - 6 = (ns.drop 6).length):=Lib.hid List.length_drop.symm
  obtain ⟨nf,hnf⟩:∃ nf,nf = ns.length - 6:=⟨_,rfl⟩
  have hnf2:nf ≤ 1024:=by omega
  rw [← hnf] at HK6s ⊢
  have HNf:=Lib.hid hnf
  have hw1:IntKind.i64.wrap (2 + m) = 2 + m:=i64_wrap2 (by omega) (by omega)
  have hw2:IntKind.i64.wrap (2 * (nf:Int)) = 2 * (nf:Int):=i64_wrap (by omega) (by omega)
  have hw3:IntKind.i64.wrap (2 + m + 2 * (nf:Int)) = 2 + m + 2 * (nf:Int):=i64_wrap2 (by omega) (by omega)
  have k0:=HP2.out.cell (i:=0) rfl
  have k1:=HP2.out.cell (i:=1) rfl
  clear hnf
  by_cases hm0:m < 0
  ·have HN:=Lib.hid (show ¬ Shape ns ts from fun h=>by have:=h.2.1;rw [← HM5.out] at this;omega)
   have zq:=fun i=>HR2.out.free (i:=i)
   have y0:=HR2.out.cell (i:=0) rfl
   have y1:=HR2.out.cell (i:=1) rfl
   have y2:=HR2.out.cell (i:=2) rfl
   have y3:=HR2.out.cell (i:=3) rfl
   have y4:=HR2.out.cell (i:=4) rfl
   have y5:=HR2.out.cell (i:=5) rfl
   have y6:=HR2.out.cell (i:=6) rfl
   have y7:=HR2.out.cell (i:=7) rfl
   have y8:=HR2.out.cell (i:=8) rfl
   go_wp2_with fail
   have HF:=Lib.hid (set9_cel (v0:=.int .i64 0) (v1:=.int .i64 0) (v2:=.int .i64 0) (v3:=.int .i64 0) (v4:=.string ⟨#[]⟩) (v5:=.string ⟨#[]⟩) (v6:=.bool false) (v7:=.slice none 0 0) (v8:=.slice none 0 0) HR2.out)
   have z0:=HF.out.cell (i:=0) rfl
   have z1:=HF.out.cell (i:=1) rfl
   have z2:=HF.out.cell (i:=2) rfl
   have z3:=HF.out.cell (i:=3) rfl
   have z4:=HF.out.cell (i:=4) rfl
   have z5:=HF.out.cell (i:=5) rfl
   have z6:=HF.out.cell (i:=6) rfl
   have z7:=HF.out.cell (i:=7) rfl
   have z8:=HF.out.cell (i:=8) rfl
   unfold set9 at z0 z1 z2 z3 z4 z5 z6 z7 z8
   exact bodyPost_ret (v:=.tuple #[recV noRec none none 0 0,.bool false]) (by simp [results,Tryz.results83,go_sem,recV,noRec,z0,z1,z2,z3,z4,z5,z6,z7,z8]) rfl (HMk.out _ _ HN.out (set9_below HB2.out (Nat.le_succ _)) rfl)
  have q0:¬ m < 0:=hm0
  have q1:0 ≤ m:=by omega
  by_cases hcnt:(ts.length:Int) = 2 + m + 2 * (nf:Int)
  case neg =>
   have pne:((ts.length:Int) != 2 + m + 2 * (nf:Int)) = true:=by simpa using hcnt
   have HN:=Lib.hid (show ¬ Shape ns ts from fun h=>hcnt (by rw [HM5.out,HNf.out];exact h.2.2.1))
   clear hcnt
   have zq:=fun i=>HR2.out.free (i:=i)
   have y0:=HR2.out.cell (i:=0) rfl
   have y1:=HR2.out.cell (i:=1) rfl
   have y2:=HR2.out.cell (i:=2) rfl
   have y3:=HR2.out.cell (i:=3) rfl
   have y4:=HR2.out.cell (i:=4) rfl
   have y5:=HR2.out.cell (i:=5) rfl
   have y6:=HR2.out.cell (i:=6) rfl
   have y7:=HR2.out.cell (i:=7) rfl
   have y8:=HR2.out.cell (i:=8) rfl
   go_wp2_with fail
   have HF:=Lib.hid (set9_cel (v0:=.int .i64 0) (v1:=.int .i64 0) (v2:=.int .i64 0) (v3:=.int .i64 0) (v4:=.string ⟨#[]⟩) (v5:=.string ⟨#[]⟩) (v6:=.bool false) (v7:=.slice none 0 0) (v8:=.slice none 0 0) HR2.out)
   have z0:=HF.out.cell (i:=0) rfl
   have z1:=HF.out.cell (i:=1) rfl
   have z2:=HF.out.cell (i:=2) rfl
   have z3:=HF.out.cell (i:=3) rfl
   have z4:=HF.out.cell (i:=4) rfl
   have z5:=HF.out.cell (i:=5) rfl
   have z6:=HF.out.cell (i:=6) rfl
   have z7:=HF.out.cell (i:=7) rfl
   have z8:=HF.out.cell (i:=8) rfl
   unfold set9 at z0 z1 z2 z3 z4 z5 z6 z7 z8
   exact bodyPost_ret (v:=.tuple #[recV noRec none none 0 0,.bool false]) (by simp [results,Tryz.results83,go_sem,recV,noRec,z0,z1,z2,z3,z4,z5,z6,z7,z8]) rfl (HMk.out _ _ HN.out (set9_below HB2.out (Nat.le_succ _)) rfl)
  have pne:((ts.length:Int) != 2 + m + 2 * (nf:Int)) = false:=by simpa using hcnt
  have HCnt:=Lib.hid hcnt
  obtain ⟨q,rfl⟩:∃ q:Nat,m = (q:Int):=⟨m.toNat,by omega⟩
  have ptl:2 + q + 2 * nf = ts.length:=by omega
  have HPtl:=Lib.hid ptl
  have c4:=HGi.out W HB2.out 4 (by omega) (by omega)
  obtain ⟨n4,hn4⟩:∃ n,n = ns.getD 4 0:=⟨_,rfl⟩
  have HN4:=Lib.hid hn4
  have hT:=fun W=>toBool_any n4 W
  rw [← hn4] at c4
  clear hn4 hcnt
  by_cases hb4:n4 = 0 ∨ n4 = 1
  case neg =>
   rw [decide_eq_false hb4] at hT
   have HT:=Lib.hid hT
   have HN:=Lib.hid (show ¬ Shape ns ts from fun h=>hb4 (by rw [HN4.out];exact h.2.2.2.1))
   have n5:(4:Int) < (ns.length:Int):=by omega
   generalize (n4 == 1) = dd at HT
   clear hT hb4
   go_wp2_with fail
   refine (HT.out _).mono ?_
   rintro e w3 ⟨rfl,rfl⟩
   have zq:=fun i=>HR2.out.free (i:=i)
   have y0:=HR2.out.cell (i:=0) rfl
   have y1:=HR2.out.cell (i:=1) rfl
   have y2:=HR2.out.cell (i:=2) rfl
   have y3:=HR2.out.cell (i:=3) rfl
   have y4:=HR2.out.cell (i:=4) rfl
   have y5:=HR2.out.cell (i:=5) rfl
   have y6:=HR2.out.cell (i:=6) rfl
   have y7:=HR2.out.cell (i:=7) rfl
   have y8:=HR2.out.cell (i:=8) rfl
   go_wp2_with fail
   have HF:=Lib.hid (set9_cel (v0:=.int .i64 0) (v1:=.int .i64 0) (v2:=.int .i64 0) (v3:=.int .i64 0) (v4:=.string ⟨#[]⟩) (v5:=.string ⟨#[]⟩) (v6:=.bool false) (v7:=.slice none 0 0) (v8:=.slice none 0 0) HR2.out)
   have z0:=HF.out.cell (i:=0) rfl
   have z1:=HF.out.cell (i:=1) rfl
   have z2:=HF.out.cell (i:=2) rfl
   have z3:=HF.out.cell (i:=3) rfl
   have z4:=HF.out.cell (i:=4) rfl
   have z5:=HF.out.cell (i:=5) rfl
   have z6:=HF.out.cell (i:=6) rfl
   have z7:=HF.out.cell (i:=7) rfl
   have z8:=HF.out.cell (i:=8) rfl
   unfold set9 at z0 z1 z2 z3 z4 z5 z6 z7 z8
   exact bodyPost_ret (v:=.tuple #[recV noRec none none 0 0,.bool false]) (by simp [results,Tryz.results83,go_sem,recV,noRec,z0,z1,z2,z3,z4,z5,z6,z7,z8]) rfl (HMk.out _ _ HN.out (set9_below HB2.out (Nat.le_succ _)) rfl)
  rw [decide_eq_true hb4] at hT
  have HT:=Lib.hid hT
  have HSh4:=Lib.hid hb4
  have n5:(4:Int) < (ns.length:Int):=by omega
  obtain ⟨dd,hdd⟩:∃ dd,dd = (n4 == 1):=⟨_,rfl⟩
  rw [← hdd] at HT
  clear hT hb4
  go_wp2_with fail
  refine (HT.out _).mono ?_
  rintro e w3 ⟨rfl,rfl⟩
  clear c4 HT
  obtain ⟨bd,rfl,hbb,hcs⟩:=HB.out (by omega)
  have HT0:=Lib.hid (fun W (hW:Below w.heap.size w W)=>show W.cell? bd = some (.string (ts.getD 0 ⟨#[]⟩)) ∧ W.cell? ⟨bd.block,bd.off + 1,none⟩ = some (.string (ts.getD 1 ⟨#[]⟩)) from by
   have h:=hcs 0 (by omega)
   have h':=hcs 1 (by omega)
   rw [add_zero'] at h
   refine ⟨?_,?_⟩
   ·rw [cell_kept hW _ hbb,h,List.getD_eq_getElem?_getD,List.getElem?_eq_getElem (by omega)];rfl
   ·rw [add_lit _ _ (by omega),cell_kept hW _ (by rw [st_block];exact hbb),h',List.getD_eq_getElem?_getD,List.getElem?_eq_getElem (by omega)];rfl)
  have m0:0 < ts.length:=by omega
  have m1:(1:Int) < (ts.length:Int):=by omega
  have n0:0 < ns.length:=by omega
  have i1:(1:Int) < (ns.length:Int):=by omega
  have i2:(2:Int) < (ns.length:Int):=by omega
  have i3:(3:Int) < (ns.length:Int):=by omega
  obtain ⟨L,hLd⟩:∃ L,L = cand ns ts:=⟨_,rfl⟩
  have f0:ns.getD 0 0 = L.kind:=by rw [hLd];rfl
  have f1:ns.getD 1 0 = L.txn:=by rw [hLd];rfl
  have f2:ns.getD 2 0 = L.ts:=by rw [hLd];rfl
  have f3:ns.getD 3 0 = L.coord:=by rw [hLd];rfl
  have f4:dd = L.dead:=by rw [hLd,hdd,HN4.out];rfl
  have f5:ts.getD 0 ⟨#[]⟩ = L.key:=by rw [hLd];rfl
  have f6:ts.getD 1 ⟨#[]⟩ = L.text:=by rw [hLd];rfl
  have HCe:Hid (∀ W,Below w.heap.size w W → W.cell? ad = some (.int .i64 L.kind) ∧ W.cell? ⟨ad.block,ad.off + 1,none⟩ = some (.int .i64 L.txn) ∧ W.cell? ⟨ad.block,ad.off + 2,none⟩ = some (.int .i64 L.ts) ∧ W.cell? ⟨ad.block,ad.off + 3,none⟩ = some (.int .i64 L.coord) ∧ W.cell? bd = some (.string L.key) ∧ W.cell? ⟨bd.block,bd.off + 1,none⟩ = some (.string L.text)):=Lib.hid (fun W hW=>by
   rw [← f0,← f1,← f2,← f3,← f5,← f6]
   exact ⟨HG0.out W hW,HGi.out W hW 1 (by omega) (by omega),HGi.out W hW 2 (by omega) (by omega),HGi.out W hW 3 (by omega) (by omega),(HT0.out W hW).1,(HT0.out W hW).2⟩)
  subst f4
  have HLd:=Lib.hid hLd
  clear f0 f1 f2 f3 f5 f6 hLd hdd HGi HG0 HT0 HC5 ptl
  go_upto_region 10 with fail
  refine wp_region_said 22 [45,46,47,48,49,50,51,52,53,54,55,56,57,58,59,60,61,62,63,64,65,66]
   [.is (.slice (some ad) ns.length c),.is (.pointer (some ad)),.is (.int .i64 L.kind),.is (.slice (some ad) ns.length c),.is (.pointer (some ⟨ad.block,ad.off + 1,none⟩)),.is (.int .i64 L.txn),.is (.slice (some ad) ns.length c),.is (.pointer (some ⟨ad.block,ad.off + 2,none⟩)),.is (.int .i64 L.ts),.is (.slice (some ad) ns.length c),.is (.pointer (some ⟨ad.block,ad.off + 3,none⟩)),.is (.int .i64 L.coord),.is (.bool L.dead),.is (.pointer (some ⟨w.heap.size,1,none⟩)),.is (.slice (some bd) ts.length d),.is (.pointer (some bd)),.is (.string L.key),.is (.pointer (some ⟨w.heap.size,1,none⟩)),.is (.slice (some bd) ts.length d),.is (.pointer (some ⟨bd.block,bd.off + 1,none⟩)),.is (.string L.text),.is (.agg #[.int .i64 L.kind,.int .i64 L.txn,.int .i64 L.ts,.int .i64 L.coord,.string L.key,.string L.text,.bool L.dead,.slice none 0 0,.slice none 0 0])]
   (fun W2=>Below w3.heap.size w3 W2) (by kernel_rfl) (by kernel_rfl) (by kernel_rfl) (by kernel_rfl) (by kernel_rfl) (fun W W' h hb=>h.trans (hb.mono h.size)) (Below.refl _ _) ?steps10 ?last10
  case steps10 =>
   simp only [List.take_succ_cons,List.take_zero]
   refine ⟨?_,?_,?_,?_,?_,?_,?_,?_,?_,?_,?_,?_,?_,?_,?_,?_,?_,?_,?_,?_,?_,?_,trivial⟩
   all_goals
    intro vs W2 ρ hρ hc hf hg hI hH hd R' hR
    obtain ⟨c0,c1,c2,c3,c4,c5⟩:=HCe.out W2 (HB2.out.trans (hI.mono HB2.out.size))
    have kk1:=(HP2.out.below hI).cell (i:=1) rfl
    have HR:=Lib.hid hR
    simp [depsOf,Region.binds,sayAt,Say.holds] at hd
    clear hR hI k0 k1
    go_simp
    first
     | exact HR.out _ _ (by simp [sayAt,Say.holds]) (Below.refl _ _) (by simp [sayAt,Say.isBlk])
     | trace_state
  case last10 =>
   intro vs W2 hI hb hg hd
   have g21:=hg 21 (by omega)
   simp only [sayAt,Say.holds,List.getD_cons_succ,List.getD_cons_zero] at g21
   simp only [List.take_succ_cons,List.take_zero,List.drop_succ_cons,List.drop_zero,putAll,Act.put,List.setIfInBounds_toArray,List.set_cons_succ,List.set_cons_zero,Nat.zero_add,Nat.reduceAdd]
   rw [g21]
   have hR2:=HR2.out.below hI
   have hP2:=HP2.out.below hI
   have hB2:=HB2.out.trans (hI.mono HB2.out.size)
   clear g21 hg hd hb hI k0 k1 HR2 HP2 HS2 hlt1
   refine wpList_plain rfl fun K2 hK2=>?_
   refine wp_store_row 60 (.tmp 2) (.tmp 66) rfl (w.heap.size + 1) _ rfl rfl _ _ hR2 (by kernel_rfl) rfl (by simp [Value.oneCell']) ?_
   refine hK2 _ _ ?_
   clear hK2 K2
   have hO:Cel (W2.setRow (w.heap.size + 1) #[.int .i64 L.kind,.int .i64 L.txn,.int .i64 L.ts,.int .i64 L.coord,.string L.key,.string L.text,.bool L.dead,.slice none 0 0,.slice none 0 0]) (w.heap.size + 1) 60 [.int .i64 L.kind,.int .i64 L.txn,.int .i64 L.ts,.int .i64 L.coord,.string L.key,.string L.text,.bool L.dead,.slice none 0 0,.slice none 0 0]:=setRow_heap _ _ _ _ 60 (0,0) hR2
   have hBe:Below (w.heap.size + 1) W2 (W2.setRow (w.heap.size + 1) #[.int .i64 L.kind,.int .i64 L.txn,.int .i64 L.ts,.int .i64 L.coord,.string L.key,.string L.text,.bool L.dead,.slice none 0 0,.slice none 0 0]):=below_row (Below.refl _ _) (Nat.le_refl _) _
   generalize W2.setRow (w.heap.size + 1) #[.int .i64 L.kind,.int .i64 L.txn,.int .i64 L.ts,.int .i64 L.coord,.string L.key,.string L.text,.bool L.dead,.slice none 0 0,.slice none 0 0] = W3 at hO hBe ⊢
   have hP3:Cel W3 w.heap.size 148 [.slice (some ad) ns.length c,.slice (some bd) ts.length d]:=(hBe.block w.heap.size (Nat.lt_succ_self _)).trans hP2
   have hB3:=hB2.trans (hBe.mono (Nat.le_succ _))
   have HP3:=Lib.hid hP3
   have HB3:=Lib.hid hB3
   have HO3:=Lib.hid hO
   clear hR2 hP2 hB2 hO hBe hP3 hB3 HB2 i1 i2 i3 n0 HCe m0 m1
   have hkl:L.keys.length = q ∧ L.ws = pairL (ns.drop 6) (ts.drop (2 + q)) ∧ L.keys = (ts.drop 2).take q:=by
    have hmq:manyOf ns = q:=by unfold manyOf;rw [← HM5.out];exact Int.toNat_natCast q
    have e:L.keys = (ts.drop 2).take q:=by rw [HLd.out];show (ts.drop 2).take (manyOf ns) = _;rw [hmq]
    refine ⟨by rw [e,List.length_take,List.length_drop];have:=HPtl.out;omega,?_,e⟩
    rw [HLd.out];show pairL _ (ts.drop (2 + manyOf ns)) = _;rw [hmq]
   obtain ⟨hq,hws,hks⟩:=hkl
   subst hq
   obtain ⟨ka,hka⟩:∃ ka,(if d = 2 then some bd else some (⟨bd.block,bd.off + 2,none⟩:Addr)) = some ka:=by
    by_cases e:d = 2
    ·exact ⟨_,by rw [if_pos e]⟩
    ·exact ⟨_,by rw [if_neg e]⟩
   obtain ⟨us,hus⟩:∃ us,us = ts.drop 2:=⟨_,rfl⟩
   have hul:ts.length - 2 = us.length:=by rw [hus,List.length_drop]
   have hS2:=fun W (hW:Below w.heap.size w W)=>show StrsAt W (some ka) us from by
    rw [← hka,add_lit _ _ (by omega),hus]
    exact strs_sub (HB.out.below hW) h2
   have hus2:us.length = L.keys.length + 2 * nf:=by have:=HPtl.out;omega
   obtain ⟨d2,hd2⟩:∃ d2,d2 = d - 2:=⟨_,rfl⟩
   have hud:us.length ≤ d2:=by omega
   rw [← hus] at hks
   rw [← List.drop_drop,← hus] at hws
   have HCl:=Lib.hid (fun W (hW:Below w.heap.size w W)=>clone_any ka d2 L.keys W (by
    rw [hks]
    exact strs_take (hS2 W hW) _) (by omega))
   have HS2:=Lib.hid hS2
   have HWs:=Lib.hid hws
   have HUs2:=Lib.hid hus2
   have k1:=HP3.out.cell (i:=1) rfl
   have pk0:(L.keys.length:Int) ≤ (us.length:Int):=by omega
   have pk1:(L.keys.length:Int) ≤ (d2:Int):=by omega
   have pk2:d2 ≤ 9223372036854775807:=by omega
   have pt2:(2:Int) ≤ (ts.length:Int):=by have:=HPtl.out;omega
   have pd3:(2:Int) ≤ (d:Int):=by omega
   have pu:(us.length:Int) ≤ (d2:Int):=by omega
   clear hks hws hS2 hus hus2
   have hX:w.heap.size + 1 < W3.heap.size:=HO3.out.lt
   go_upto_region 12 with fail
   rw [← hd2]
   clear hka hul hd2
   have k1':=k1
   go_wp2_with fail
   refine (HCl.out _ HB3.out).mono ?_
   rintro e w4 ⟨A1,c1,rfl,hown,hb⟩
   have hO4:=HO3.out.below hb
   have hB4:=HB3.out.trans (hb.mono HB3.out.size)
   have oq:=fun i=>hO4.free (i:=i)
   have o7:=hO4.cell (i:=7) rfl
   have hN:(Value.slice A1 L.keys.length c1).ownBlock ≠ some (w.heap.size + 1):=fun e=>by have:=(hown.lt _ e).1;omega
   have hO5:Cel (w4.setCell ⟨w.heap.size + 1,7,none⟩ (.slice A1 L.keys.length c1)) (w.heap.size + 1) 60 [.int .i64 L.kind,.int .i64 L.txn,.int .i64 L.ts,.int .i64 L.coord,.string L.key,.string L.text,.bool L.dead,.slice A1 L.keys.length c1,.slice none 0 0]:=hO4.set
   have hR5:=ownsRow_setCell_other (a:=⟨w.heap.size + 1,7,none⟩) hown hN (.slice A1 L.keys.length c1)
   have hB5:=hB4.setCell (p:=⟨w.heap.size + 1,7,none⟩) (Nat.le_succ _) (.slice A1 L.keys.length c1)
   have hX5:w.heap.size + 1 < (w4.setCell ⟨w.heap.size + 1,7,none⟩ (.slice A1 L.keys.length c1)).heap.size:=hO5.lt
   have HO5:=Lib.hid hO5
   have HR5:=Lib.hid hR5
   have HB5:=Lib.hid hB5
   clear hO4 hB4 hN hO5 hR5 hB5 hown hb HCl HP3 HB3 HO3 k1 k1'
   go_upto_region 13 with fail
   generalize w4.setCell ⟨w.heap.size + 1,7,none⟩ (.slice A1 L.keys.length c1) = W5 at HO5 HR5 HB5 hX5 ⊢
   generalize W3.heap.size = X at HR5 hX
   clear oq o7
   obtain ⟨K8,hK8⟩:∃ K8:Option Addr,(if d2 = L.keys.length then some ka else some (ka.add L.keys.length)) = K8:=⟨_,rfl⟩
   have hS8:=fun W (hW:Below w.heap.size w W)=>show StrsAt W K8 (us.drop L.keys.length) from by
    rw [← hK8]
    exact strs_sub (HS2.out W hW) hud
   have hlt8:(us.drop L.keys.length).length = 2 * nf:=by rw [List.length_drop];have:=HUs2.out;omega
   have hl8:us.length - L.keys.length = 2 * nf:=by have:=HUs2.out;omega
   have hTw:=fun W (hW:Below w.heap.size w W)=>toWrites_any K6 K8 (c - 6) (d2 - L.keys.length) (ns.drop 6) (us.drop L.keys.length) W (HI6.out W hW) (hS8 W hW) (by rw [hlt8,← HK6s.out]) (by rw [← HK6s.out];omega)
   rw [← HK6s.out,hlt8] at hTw
   have HTw:=Lib.hid hTw
   have HFs:=Lib.hid (rfl:ns.drop 6 = ns.drop 6)
   clear hS8 hlt8 hTw
   go_wp2_with fail
   refine (HTw.out _ HB5.out).mono ?_
   rintro e w6 hA
   rcases hA with ⟨hall,v,rfl,hrow,hb⟩ | ⟨hno,rfl,hb⟩
   ·have hrow2:=hrow
    rw [← HWs.out] at hrow2
    have hlw:(ns.drop 6).length = L.ws.length:=by rw [HWs.out,pairL_len _ _ (by rw [List.length_drop,← HK6s.out];have:=HUs2.out;omega)]
    rw [hlw] at hrow2
    obtain ⟨B1,d1,rfl,-⟩:=wrs_own hrow2 rfl
    have hO6:=HO5.out.below hb
    have hB6:=HB5.out.trans (hb.mono HB5.out.size)
    have hR6:=st_keep HR5.out hb
    have oq:=fun i=>hO6.free (i:=i)
    have o8:=hO6.cell (i:=8) rfl
    have hN0:(Value.slice A1 L.keys.length c1).ownBlock ≠ some (w.heap.size + 1):=fun e=>by have:=(hR6.lt _ e).1;omega
    have hN1:(Value.slice B1 L.ws.length d1).ownBlock ≠ some (w.heap.size + 1):=fun e=>by have:=(hrow2.lt _ e).1;omega
    have hA1:∀ a,A1 = some a → w.heap.size ≤ a.block:=fun a e=>by have:=(hR6.lt a.block (by rw [e];rfl)).1;omega
    have hB1:∀ a,B1 = some a → w.heap.size ≤ a.block:=fun a e=>by have:=(hrow2.lt a.block (by rw [e];rfl)).1;omega
    have HAB:=Lib.hid (And.intro hA1 hB1)
    have HSh:=Lib.hid (show Shape ns ts from ⟨by omega,by rw [← HM5.out];omega,by rw [← HM5.out,← HNf.out];exact HCnt.out,by rw [← HN4.out];exact HSh4.out,hall⟩)
    have HO7:=Lib.hid (show Cel (w6.setCell ⟨w.heap.size + 1,8,none⟩ (.slice B1 L.ws.length d1)) (w.heap.size + 1) 60 [.int .i64 L.kind,.int .i64 L.txn,.int .i64 L.ts,.int .i64 L.coord,.string L.key,.string L.text,.bool L.dead,.slice A1 L.keys.length c1,.slice B1 L.ws.length d1] from hO6.set)
    have HR7:=Lib.hid (ownsRow_setCell_other (a:=⟨w.heap.size + 1,8,none⟩) hR6 hN0 (.slice B1 L.ws.length d1))
    have HW7:=Lib.hid (ownsRow_setCell_other (a:=⟨w.heap.size + 1,8,none⟩) hrow2 hN1 (.slice B1 L.ws.length d1))
    have HB7:=Lib.hid (hB6.setCell (p:=⟨w.heap.size + 1,8,none⟩) (Nat.le_succ _) (.slice B1 L.ws.length d1))
    have HN:=Lib.hid (And.intro hN0 hN1)
    clear hO6 hB6 hR6 hrow hrow2 hlw hall hA1 hB1 hN0 hN1 hb HTw HO5 HR5 HB5
    go_upto_region 14 with fail
    generalize w6.setCell ⟨w.heap.size + 1,8,none⟩ (.slice B1 L.ws.length d1) = W7 at HO7 HR7 HW7 HB7 ⊢
    clear oq o8
    have HR0:=Lib.hid (set9_own (v0:=.int .i64 L.kind) (v1:=.int .i64 L.txn) (v2:=.int .i64 L.ts) (v3:=.int .i64 L.coord) (v4:=.string L.key) (v5:=.string L.text) (v6:=.bool L.dead) (v7:=.slice A1 L.keys.length c1) (v8:=.slice B1 L.ws.length d1) HR7.out HN.out.1)
    have HR1:=Lib.hid (set9_own (v0:=.int .i64 L.kind) (v1:=.int .i64 L.txn) (v2:=.int .i64 L.ts) (v3:=.int .i64 L.coord) (v4:=.string L.key) (v5:=.string L.text) (v6:=.bool L.dead) (v7:=.slice A1 L.keys.length c1) (v8:=.slice B1 L.ws.length d1) HW7.out HN.out.2)
    have zq:=fun i=>HO7.out.free (i:=i)
    have y0:=HO7.out.cell (i:=0) rfl
    have y1:=HO7.out.cell (i:=1) rfl
    have y2:=HO7.out.cell (i:=2) rfl
    have y3:=HO7.out.cell (i:=3) rfl
    have y4:=HO7.out.cell (i:=4) rfl
    have y5:=HO7.out.cell (i:=5) rfl
    have y6:=HO7.out.cell (i:=6) rfl
    have y7:=HO7.out.cell (i:=7) rfl
    have y8:=HO7.out.cell (i:=8) rfl
    go_wp2_with fail
    have HF:=Lib.hid (set9_cel (v0:=.int .i64 L.kind) (v1:=.int .i64 L.txn) (v2:=.int .i64 L.ts) (v3:=.int .i64 L.coord) (v4:=.string L.key) (v5:=.string L.text) (v6:=.bool L.dead) (v7:=.slice A1 L.keys.length c1) (v8:=.slice B1 L.ws.length d1) HO7.out)
    have z0:=HF.out.cell (i:=0) rfl
    have z1:=HF.out.cell (i:=1) rfl
    have z2:=HF.out.cell (i:=2) rfl
    have z3:=HF.out.cell (i:=3) rfl
    have z4:=HF.out.cell (i:=4) rfl
    have z5:=HF.out.cell (i:=5) rfl
    have z6:=HF.out.cell (i:=6) rfl
    have z7:=HF.out.cell (i:=7) rfl
    have z8:=HF.out.cell (i:=8) rfl
    unfold set9 at z0 z1 z2 z3 z4 z5 z6 z7 z8
    have hk:=own_strs HR0.out
    have hw:=own_wrs HR1.out
    have hrg:=HRg.out
    rw [← HLd.out] at hrg
    refine bodyPost_ret (v:=.tuple #[recV L A1 B1 c1 d1,.bool true]) (by simp [results,Tryz.results83,go_sem,recV,z0,z1,z2,z3,z4,z5,z6,z7,z8]) rfl (.inl ⟨HSh.out,A1,B1,c1,d1,by rw [HLd.out],?_,set9_below HB7.out (Nat.le_succ _),HAB.out.1,HAB.out.2⟩)
    rw [← HLd.out]
    exact ⟨hk.1,hw.1,⟨hrg,hk.2.1,hw.2.1,hk.2.2.1,hw.2.2.1⟩,hk.2.2.2,hw.2.2.2⟩
   ·have HN:=Lib.hid (show ¬ Shape ns ts from fun h=>hno h.2.2.2.2)
    have hO6:=HO5.out.below hb
    have hB6:=HB5.out.trans (hb.mono HB5.out.size)
    have oq:=fun i=>hO6.free (i:=i)
    have o8:=hO6.cell (i:=8) rfl
    have HO7:=Lib.hid (show Cel (w6.setCell ⟨w.heap.size + 1,8,none⟩ (.slice none 0 0)) (w.heap.size + 1) 60 [.int .i64 L.kind,.int .i64 L.txn,.int .i64 L.ts,.int .i64 L.coord,.string L.key,.string L.text,.bool L.dead,.slice A1 L.keys.length c1,.slice none 0 0] from hO6.set)
    have HB7:=Lib.hid (hB6.setCell (p:=⟨w.heap.size + 1,8,none⟩) (Nat.le_succ _) (.slice none 0 0))
    clear hO6 hB6 hno hb HTw HO5 HR5 HB5
    go_upto_region 14 with fail
    generalize w6.setCell ⟨w.heap.size + 1,8,none⟩ (.slice none 0 0) = W7 at HO7 HB7 ⊢
    clear oq o8
    have zq:=fun i=>HO7.out.free (i:=i)
    have y0:=HO7.out.cell (i:=0) rfl
    have y1:=HO7.out.cell (i:=1) rfl
    have y2:=HO7.out.cell (i:=2) rfl
    have y3:=HO7.out.cell (i:=3) rfl
    have y4:=HO7.out.cell (i:=4) rfl
    have y5:=HO7.out.cell (i:=5) rfl
    have y6:=HO7.out.cell (i:=6) rfl
    have y7:=HO7.out.cell (i:=7) rfl
    have y8:=HO7.out.cell (i:=8) rfl
    go_wp2_with fail
    have HF:=Lib.hid (set9_cel (v0:=.int .i64 0) (v1:=.int .i64 0) (v2:=.int .i64 0) (v3:=.int .i64 0) (v4:=.string ⟨#[]⟩) (v5:=.string ⟨#[]⟩) (v6:=.bool false) (v7:=.slice none 0 0) (v8:=.slice none 0 0) HO7.out)
    have z0:=HF.out.cell (i:=0) rfl
    have z1:=HF.out.cell (i:=1) rfl
    have z2:=HF.out.cell (i:=2) rfl
    have z3:=HF.out.cell (i:=3) rfl
    have z4:=HF.out.cell (i:=4) rfl
    have z5:=HF.out.cell (i:=5) rfl
    have z6:=HF.out.cell (i:=6) rfl
    have z7:=HF.out.cell (i:=7) rfl
    have z8:=HF.out.cell (i:=8) rfl
    unfold set9 at z0 z1 z2 z3 z4 z5 z6 z7 z8
    exact bodyPost_ret (v:=.tuple #[recV noRec none none 0 0,.bool false]) (by simp [results,Tryz.results83,go_sem,recV,noRec,z0,z1,z2,z3,z4,z5,z6,z7,z8]) rfl (HMk.out _ _ HN.out (set9_below HB7.out (Nat.le_succ _)) rfl)
def DecPost (s:ByteArray) (w:World):Ending → World → Prop:=fun e w'=>∃ (A B:Option Addr) (c d:Nat),
  e = .returned (.tuple #[recV (decX s).1 A B c d,.int .i64 ((decX s).2:Int)]) ∧ RecVal w' A B c d (decX s).1 ∧ Below w.heap.size w w'
theorem ldecode_any (s:ByteArray) (w:World) (hs:s.size ≤ 1000000000000000):Calls Tryz.prog 51 #[.string s] w (DecPost s w):=by
 have HD:=Lib.hid (fun W=>Pk.decodeAll s W hs)
 unfold Pk.DecAns2 at HD
 have HMk:Hid (∀ (v:Value) (w':World),NoRec s → Below w.heap.size w w' → v = recV noRec none none 0 0 → DecPost s w (.returned (.tuple #[v,.int .i64 80])) w'):=Lib.hid (fun v w' h1 h2 h3=>by
  unfold DecPost
  rw [decX_no h1]
  exact ⟨none,none,0,0,by rw [h3];rfl,no_val _,h2⟩)
 have HMo:Hid (∀ (l:Rec) (A B:Option Addr) (c d:Nat) (w':World),RecOk l → s.data.toList = recL l → Below w.heap.size w w' → RecVal w' A B c d l → DecPost s w (.returned (.tuple #[recV l A B c d,.int .i64 0])) w'):=Lib.hid (fun l A B c d w' h1 h2 h3 h4=>by
  unfold DecPost
  rw [decX_ok h1 h2]
  exact ⟨A,B,c,d,rfl,h4,h3⟩)
 go_enter Tryz.func51,Tryz.ntmps51
 go_upto_region 1 with fail
 have hR0:Cel (w.alloc (.cells #[.int .i64 0,.int .i64 0,.int .i64 0,.int .i64 0,.string ⟨#[]⟩,.string ⟨#[]⟩,.bool false,.slice none 0 0,.slice none 0 0] 60)) w.heap.size 60 [.int .i64 0,.int .i64 0,.int .i64 0,.int .i64 0,.string ⟨#[]⟩,.string ⟨#[]⟩,.bool false,.slice none 0 0,.slice none 0 0]:=(blk1 w _).2
 have hBW:Below w.heap.size w (w.alloc (.cells #[.int .i64 0,.int .i64 0,.int .i64 0,.int .i64 0,.string ⟨#[]⟩,.string ⟨#[]⟩,.bool false,.slice none 0 0,.slice none 0 0] 60)):=(Below.refl _ w).alloc (Nat.le_refl _) _
 generalize w.alloc (.cells #[.int .i64 0,.int .i64 0,.int .i64 0,.int .i64 0,.string ⟨#[]⟩,.string ⟨#[]⟩,.bool false,.slice none 0 0,.slice none 0 0] 60) = W1 at hR0 hBW ⊢
 have HR0:=Lib.hid hR0
 have HBW:=Lib.hid hBW
 clear hR0 hBW
 cases hdec:Pk.decL s.data.toList with
 | error er =>
  have hd1:Pk.decR s = ([],[],er.place s.size,er.code):=by unfold Pk.decR;rw [hdec]
  rw [hd1] at HD
  have hne:=Pk.decL_code hdec
  have HN:=Lib.hid (NoRec.err hdec)
  have pne:((er.code:Int) != 0) = true:=by simp;exact hne
  simp only [Pk.packV] at HD
  generalize er.place s.size = pl at HD
  generalize er.code = cd at HD pne
  clear hdec hd1 hne
  go_wp2_with fail
  refine (HD.out _).mono ?_
  rintro e w2 ⟨A,B,c,d,rfl,-,-,hb,-,-,-,-⟩
  have hal:Below w2.heap.size w2 (w2.alloc (.cells #[.slice A 0 c,.slice B 0 d] 148)):=(Below.refl _ w2).alloc (Nat.le_refl _) _
  have HR3:=Lib.hid ((HR0.out.below hb).below hal)
  have HB3:=Lib.hid ((HBW.out.trans (hb.mono HBW.out.size)).trans (hal.mono (HBW.out.trans (hb.mono HBW.out.size)).size))
  clear hb hal HD HR0 HBW
  go_upto_region 2 with fail
  generalize w2.alloc (.cells #[.slice A 0 c,.slice B 0 d] 148) = w3 at HR3 HB3 ⊢
  have zq:=fun i=>HR3.out.free (i:=i)
  have y0:=HR3.out.cell (i:=0) rfl
  have y1:=HR3.out.cell (i:=1) rfl
  have y2:=HR3.out.cell (i:=2) rfl
  have y3:=HR3.out.cell (i:=3) rfl
  have y4:=HR3.out.cell (i:=4) rfl
  have y5:=HR3.out.cell (i:=5) rfl
  have y6:=HR3.out.cell (i:=6) rfl
  have y7:=HR3.out.cell (i:=7) rfl
  have y8:=HR3.out.cell (i:=8) rfl
  go_wp2_with fail
  have HF:=Lib.hid (set9_cel (v0:=.int .i64 0) (v1:=.int .i64 0) (v2:=.int .i64 0) (v3:=.int .i64 0) (v4:=.string ⟨#[]⟩) (v5:=.string ⟨#[]⟩) (v6:=.bool false) (v7:=.slice none 0 0) (v8:=.slice none 0 0) HR3.out)
  have z0:=HF.out.cell (i:=0) rfl
  have z1:=HF.out.cell (i:=1) rfl
  have z2:=HF.out.cell (i:=2) rfl
  have z3:=HF.out.cell (i:=3) rfl
  have z4:=HF.out.cell (i:=4) rfl
  have z5:=HF.out.cell (i:=5) rfl
  have z6:=HF.out.cell (i:=6) rfl
  have z7:=HF.out.cell (i:=7) rfl
  have z8:=HF.out.cell (i:=8) rfl
  unfold set9 at z0 z1 z2 z3 z4 z5 z6 z7 z8
  exact bodyPost_ret (v:=.tuple #[recV noRec none none 0 0,.int .i64 80]) (by simp [results,Tryz.results51,go_sem,recV,noRec,z0,z1,z2,z3,z4,z5,z6,z7,z8]) rfl (HMk.out _ _ HN.out (set9_below HB3.out (Nat.le_refl _)) rfl)
 | ok x =>
  obtain ⟨ns,ts⟩:=x
  have hd1:Pk.decR s = (ns,ts,0,0):=by unfold Pk.decR;rw [hdec]
  rw [hd1] at HD
  have HMb:=Lib.hid (Pk.decL_ok hdec).1
  have HDec:=Lib.hid hdec
  simp only [Pk.packV] at HD
  clear hdec hd1
  go_wp2_with fail
  refine (HD.out _).mono ?_
  rintro e w2 ⟨A,B,c,d,rfl,hI2,hS2,hb,g1,g2,g3,g4⟩
  have hal:Below w2.heap.size w2 (w2.alloc (.cells #[.slice A ns.length c,.slice B ts.length d] 148)):=(Below.refl _ w2).alloc (Nat.le_refl _) _
  have HP3:Hid (Cel (w2.alloc (.cells #[.slice A ns.length c,.slice B ts.length d] 148)) w2.heap.size 148 [.slice A ns.length c,.slice B ts.length d]):=Lib.hid (blk1 w2 _).2
  have HR3:=Lib.hid ((HR0.out.below hb).below hal)
  have HB3:=Lib.hid ((HBW.out.trans (hb.mono HBW.out.size)).trans (hal.mono (HBW.out.trans (hb.mono HBW.out.size)).size))
  have hFp:=fromPack_any A B c d ns ts _ (hI2.below hal) (hS2.below hal) HMb.out g1 g2 g3 g4
  unfold Pk.packV at hFp
  have HFp:=Lib.hid hFp
  clear hb hal HD HR0 HBW hI2 hS2 g1 g2 g3 g4 hFp
  go_upto_region 2 with fail
  generalize w2.alloc (.cells #[.slice A ns.length c,.slice B ts.length d] 148) = w3 at HR3 HB3 HFp HP3 ⊢
  generalize w2.heap.size = g at HP3 ⊢
  have k0:=HP3.out.cell (i:=0) rfl
  have k1:=HP3.out.cell (i:=1) rfl
  clear HP3
  by_cases hsh:Shape ns ts
  case neg =>
   have HN:=Lib.hid (NoRec.shape HDec.out hsh)
   have HFn:=Lib.hid (HFp.out.mono (fun e W' hA=>show e = .returned (.tuple #[recV noRec none none 0 0,.bool false]) ∧ Below w3.heap.size w3 W' from by
    rcases hA with ⟨h1,_⟩ | ⟨_,h2,h3⟩
    ·exact absurd h1 hsh
    ·exact ⟨h2,h3⟩))
   unfold recV noRec at HFn
   simp only [List.length_nil] at HFn
   clear hsh HFp
   go_wp2_with fail
   refine HFn.out.mono ?_
   rintro e w4 ⟨rfl,hb⟩
   have hal:Below w4.heap.size w4 (w4.alloc (.cells #[.int .i64 0,.int .i64 0,.int .i64 0,.int .i64 0,.string ⟨#[]⟩,.string ⟨#[]⟩,.bool false,.slice none 0 0,.slice none 0 0] 60)):=(Below.refl _ w4).alloc (Nat.le_refl _) _
   have HR5:=Lib.hid ((HR3.out.below hb).below hal)
   have HB5:=Lib.hid ((HB3.out.trans (hb.mono HB3.out.size)).trans (hal.mono (HB3.out.trans (hb.mono HB3.out.size)).size))
   clear hb hal HR3 HB3 k0 k1 HFn
   go_upto_region 5 with fail
   generalize w4.alloc (.cells #[.int .i64 0,.int .i64 0,.int .i64 0,.int .i64 0,.string ⟨#[]⟩,.string ⟨#[]⟩,.bool false,.slice none 0 0,.slice none 0 0] 60) = w5 at HR5 HB5 ⊢
   have zq:=fun i=>HR5.out.free (i:=i)
   have y0:=HR5.out.cell (i:=0) rfl
   have y1:=HR5.out.cell (i:=1) rfl
   have y2:=HR5.out.cell (i:=2) rfl
   have y3:=HR5.out.cell (i:=3) rfl
   have y4:=HR5.out.cell (i:=4) rfl
   have y5:=HR5.out.cell (i:=5) rfl
   have y6:=HR5.out.cell (i:=6) rfl
   have y7:=HR5.out.cell (i:=7) rfl
   have y8:=HR5.out.cell (i:=8) rfl
   go_wp2_with fail
   have HF:=Lib.hid (set9_cel (v0:=.int .i64 0) (v1:=.int .i64 0) (v2:=.int .i64 0) (v3:=.int .i64 0) (v4:=.string ⟨#[]⟩) (v5:=.string ⟨#[]⟩) (v6:=.bool false) (v7:=.slice none 0 0) (v8:=.slice none 0 0) HR5.out)
   have z0:=HF.out.cell (i:=0) rfl
   have z1:=HF.out.cell (i:=1) rfl
   have z2:=HF.out.cell (i:=2) rfl
   have z3:=HF.out.cell (i:=3) rfl
   have z4:=HF.out.cell (i:=4) rfl
   have z5:=HF.out.cell (i:=5) rfl
   have z6:=HF.out.cell (i:=6) rfl
   have z7:=HF.out.cell (i:=7) rfl
   have z8:=HF.out.cell (i:=8) rfl
   unfold set9 at z0 z1 z2 z3 z4 z5 z6 z7 z8
   exact bodyPost_ret (v:=.tuple #[recV noRec none none 0 0,.int .i64 80]) (by simp [results,Tryz.results51,go_sem,recV,noRec,z0,z1,z2,z3,z4,z5,z6,z7,z8]) rfl (HMk.out _ _ HN.out (set9_below HB5.out (Nat.le_refl _)) rfl)
  have HFy:=Lib.hid (HFp.out.mono (fun e W' hA=>show ∃ (A1 B1:Option Addr) (c1 d1:Nat),e = .returned (.tuple #[recV (cand ns ts) A1 B1 c1 d1,.bool true]) ∧ RecVal W' A1 B1 c1 d1 (cand ns ts) ∧ Below w3.heap.size w3 W' ∧ (∀ a,A1 = some a → w3.heap.size ≤ a.block) ∧ (∀ a,B1 = some a → w3.heap.size ≤ a.block) from by
   rcases hA with ⟨_,A1,B1,c1,d1,h2,h3,h4⟩ | ⟨h1,_⟩
   ·exact ⟨A1,B1,c1,d1,h2,h3,h4⟩
   ·exact absurd hsh h1))
  have HCb:=Lib.hid (cand_bytes HDec.out hsh)
  have HNb:=Lib.hid (fun hm=>NoRec.bad (s:=s) HDec.out hm)
  generalize cand ns ts = L at HFy HCb HNb
  unfold recV at HFy
  clear hsh HFp
  go_wp2_with fail
  refine HFy.out.mono ?_
  rintro e w4 ⟨A1,B1,c1,d1,rfl,hval,hb,hA1,hB1⟩
  have hlt3:w.heap.size < w3.heap.size:=HR3.out.lt
  have hal:Below w4.heap.size w4 (w4.alloc (.cells #[.int .i64 L.kind,.int .i64 L.txn,.int .i64 L.ts,.int .i64 L.coord,.string L.key,.string L.text,.bool L.dead,.slice A1 L.keys.length c1,.slice B1 L.ws.length d1] 60)):=(Below.refl _ w4).alloc (Nat.le_refl _) _
  have HC5:Hid (Cel (w4.alloc (.cells #[.int .i64 L.kind,.int .i64 L.txn,.int .i64 L.ts,.int .i64 L.coord,.string L.key,.string L.text,.bool L.dead,.slice A1 L.keys.length c1,.slice B1 L.ws.length d1] 60)) w4.heap.size 60 [.int .i64 L.kind,.int .i64 L.txn,.int .i64 L.ts,.int .i64 L.coord,.string L.key,.string L.text,.bool L.dead,.slice A1 L.keys.length c1,.slice B1 L.ws.length d1]):=Lib.hid (blk1 w4 _).2
  have HR5:=Lib.hid ((HR3.out.below hb).below hal)
  have HB5:=Lib.hid ((HB3.out.trans (hb.mono HB3.out.size)).trans (hal.mono (HB3.out.trans (hb.mono HB3.out.size)).size))
  have HV5:=Lib.hid (hval.below hal)
  have HAn:Hid (∀ a,A1 = some a → a.block ≠ w.heap.size):=Lib.hid (fun a e=>by have:=hA1 a e;omega)
  have HBn:Hid (∀ a,B1 = some a → a.block ≠ w.heap.size):=Lib.hid (fun a e=>by have:=hB1 a e;omega)
  clear hb hal HR3 HB3 k0 k1 HFy hval hA1 hB1 hlt3
  go_upto_region 5 with fail
  generalize w4.alloc (.cells #[.int .i64 L.kind,.int .i64 L.txn,.int .i64 L.ts,.int .i64 L.coord,.string L.key,.string L.text,.bool L.dead,.slice A1 L.keys.length c1,.slice B1 L.ws.length d1] 60) = w5 at HR5 HB5 HV5 HC5 ⊢
  generalize w4.heap.size = g2 at HC5 ⊢
  have hMy:=mayBe_any A1 B1 c1 d1 L w5 HV5.out.ks HV5.out.ws HV5.out.rng.toRecRng
  unfold recV at hMy
  have HMy:=Lib.hid hMy
  clear hMy
  have k0:=HC5.out.cell (i:=0) rfl
  have k1:=HC5.out.cell (i:=1) rfl
  have k2:=HC5.out.cell (i:=2) rfl
  have k3:=HC5.out.cell (i:=3) rfl
  have k4:=HC5.out.cell (i:=4) rfl
  have k5:=HC5.out.cell (i:=5) rfl
  have k6:=HC5.out.cell (i:=6) rfl
  have k7:=HC5.out.cell (i:=7) rfl
  have k8:=HC5.out.cell (i:=8) rfl
  by_cases hm:RecOk L
  ·rw [recB_true hm] at HMy
   have HOk:=Lib.hid hm
   clear hm
   go_wp2_with fail
   refine HMy.out.mono ?_
   rintro e w6 ⟨rfl,hb⟩
   have HC6:=Lib.hid (HC5.out.below hb)
   have HR6:=Lib.hid (HR5.out.below hb)
   have HV6:=Lib.hid (HV5.out.below hb)
   have HB6:=Lib.hid (HB5.out.trans (hb.mono HB5.out.size))
   clear hb k0 k1 k2 k3 k4 k5 k6 k7 k8 HC5 HR5 HV5 HB5 HMy
   have k0:=HC6.out.cell (i:=0) rfl
   have k1:=HC6.out.cell (i:=1) rfl
   have k2:=HC6.out.cell (i:=2) rfl
   have k3:=HC6.out.cell (i:=3) rfl
   have k4:=HC6.out.cell (i:=4) rfl
   have k5:=HC6.out.cell (i:=5) rfl
   have k6:=HC6.out.cell (i:=6) rfl
   have k7:=HC6.out.cell (i:=7) rfl
   have k8:=HC6.out.cell (i:=8) rfl
   have zq:=fun i=>HR6.out.free (i:=i)
   have y0:=HR6.out.cell (i:=0) rfl
   have y1:=HR6.out.cell (i:=1) rfl
   have y2:=HR6.out.cell (i:=2) rfl
   have y3:=HR6.out.cell (i:=3) rfl
   have y4:=HR6.out.cell (i:=4) rfl
   have y5:=HR6.out.cell (i:=5) rfl
   have y6:=HR6.out.cell (i:=6) rfl
   have y7:=HR6.out.cell (i:=7) rfl
   have y8:=HR6.out.cell (i:=8) rfl
   go_wp2_with fail
   have HF:=Lib.hid (set9_cel (v0:=.int .i64 L.kind) (v1:=.int .i64 L.txn) (v2:=.int .i64 L.ts) (v3:=.int .i64 L.coord) (v4:=.string L.key) (v5:=.string L.text) (v6:=.bool L.dead) (v7:=.slice A1 L.keys.length c1) (v8:=.slice B1 L.ws.length d1) HR6.out)
   have z0:=HF.out.cell (i:=0) rfl
   have z1:=HF.out.cell (i:=1) rfl
   have z2:=HF.out.cell (i:=2) rfl
   have z3:=HF.out.cell (i:=3) rfl
   have z4:=HF.out.cell (i:=4) rfl
   have z5:=HF.out.cell (i:=5) rfl
   have z6:=HF.out.cell (i:=6) rfl
   have z7:=HF.out.cell (i:=7) rfl
   have z8:=HF.out.cell (i:=8) rfl
   unfold set9 at z0 z1 z2 z3 z4 z5 z6 z7 z8
   refine bodyPost_ret (v:=.tuple #[recV L A1 B1 c1 d1,.int .i64 0]) (by simp [results,Tryz.results51,go_sem,recV,z0,z1,z2,z3,z4,z5,z6,z7,z8]) rfl (HMo.out L A1 B1 c1 d1 _ HOk.out HCb.out (set9_below HB6.out (Nat.le_refl _)) ?_)
   exact ⟨strs_far HV6.out.ks (R:=w.heap.size) HAn.out (Nat.le_of_eq set9_size.symm) (fun a ha=>set9_other ha),wrs_far HV6.out.ws (R:=w.heap.size) HBn.out (Nat.le_of_eq set9_size.symm) (fun a ha=>set9_other ha),HV6.out.rng,HV6.out.kn,HV6.out.wn⟩
  ·rw [recB_false hm] at HMy
   have HN:=Lib.hid (HNb.out hm)
   clear hm
   go_wp2_with fail
   refine HMy.out.mono ?_
   rintro e w6 ⟨rfl,hb⟩
   have HR6:=Lib.hid (HR5.out.below hb)
   have HB6:=Lib.hid (HB5.out.trans (hb.mono HB5.out.size))
   clear hb k0 k1 k2 k3 k4 k5 k6 k7 k8 HC5 HR5 HV5 HB5 HMy
   have zq:=fun i=>HR6.out.free (i:=i)
   have y0:=HR6.out.cell (i:=0) rfl
   have y1:=HR6.out.cell (i:=1) rfl
   have y2:=HR6.out.cell (i:=2) rfl
   have y3:=HR6.out.cell (i:=3) rfl
   have y4:=HR6.out.cell (i:=4) rfl
   have y5:=HR6.out.cell (i:=5) rfl
   have y6:=HR6.out.cell (i:=6) rfl
   have y7:=HR6.out.cell (i:=7) rfl
   have y8:=HR6.out.cell (i:=8) rfl
   go_wp2_with fail
   have HF:=Lib.hid (set9_cel (v0:=.int .i64 0) (v1:=.int .i64 0) (v2:=.int .i64 0) (v3:=.int .i64 0) (v4:=.string ⟨#[]⟩) (v5:=.string ⟨#[]⟩) (v6:=.bool false) (v7:=.slice none 0 0) (v8:=.slice none 0 0) HR6.out)
   have z0:=HF.out.cell (i:=0) rfl
   have z1:=HF.out.cell (i:=1) rfl
   have z2:=HF.out.cell (i:=2) rfl
   have z3:=HF.out.cell (i:=3) rfl
   have z4:=HF.out.cell (i:=4) rfl
   have z5:=HF.out.cell (i:=5) rfl
   have z6:=HF.out.cell (i:=6) rfl
   have z7:=HF.out.cell (i:=7) rfl
   have z8:=HF.out.cell (i:=8) rfl
   unfold set9 at z0 z1 z2 z3 z4 z5 z6 z7 z8
   exact bodyPost_ret (v:=.tuple #[recV noRec none none 0 0,.int .i64 80]) (by simp [results,Tryz.results51,go_sem,recV,noRec,z0,z1,z2,z3,z4,z5,z6,z7,z8]) rfl (HMk.out _ _ HN.out (set9_below HB6.out (Nat.le_refl _)) rfl)
end Rc
end Go.Proofs.YtlfkhlfkckfbpaaGreat
