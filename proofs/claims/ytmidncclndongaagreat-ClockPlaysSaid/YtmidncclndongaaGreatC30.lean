/- Parts of the proof, joined: RcDec; their conditions stand with each. -/
import Derived.Test.YtmidncclndongaaGreatC29

set_option maxRecDepth 20000
set_option maxHeartbeats 8000000
namespace Go.Proofs.YtmidncclndongaaGreat
namespace Rc
open Go.RowKit Bk Lt
attribute [local go_sem ↓] Go.wp_at_zero Go.wp_at_succ
attribute [local go_sem] floatUpon pick
def RDec (s:ByteArray) (w:World):Ending → World → Prop:=fun e w'=>∃ (A B:Option Addr) (c d:Nat),
  e = .returned (.tuple #[recV (decX s).1 A B c d,.int .i64 ((decX s).2:Int)]) ∧ StrsAt w' A (decX s).1.keys ∧ WrsAt w' B (decX s).1.ws ∧ Below w.heap.size w w'
theorem decode_any (s:ByteArray) (w:World) (hs:s.size ≤ 1000000000000000) :
  Calls Tryz.prog 74 #[.string s] w (RDec s w):=by
 have HD:=Lib.hid (fun W=>Pk.decode_any s W hs)
 unfold Pk.DecAns at HD
 have HMk:Hid (∀ (v:Value) (w':World),NoRec s → Below w.heap.size w w' → v = recV noRec none none 0 0 → RDec s w (.returned (.tuple #[v,.int .i64 80])) w'):=Lib.hid (fun v w' h1 h2 h3=>by
  unfold RDec
  rw [decX_no h1]
  exact ⟨none,none,0,0,by rw [h3];rfl,nil_strs _ _,nil_wrs _ _,h2⟩)
 have HMo:Hid (∀ (r:Rec) (A B:Option Addr) (c d:Nat) (w':World),RecOk r → s.data.toList = recL r → Below w.heap.size w w' → StrsAt w' A r.keys → WrsAt w' B r.ws → RDec s w (.returned (.tuple #[recV r A B c d,.int .i64 0])) w'):=Lib.hid (fun r A B c d w' h1 h2 h3 h4 h5=>by
  unfold RDec
  rw [decX_ok h1 h2]
  exact ⟨A,B,c,d,rfl,h4,h5,h3⟩)
 go_enter Tryz.func74,Tryz.ntmps74
 go_upto_region 1 with fail
 have hR0:Cel (w.alloc (.cells #[.int .i64 0,.int .i64 0,.int .i64 0,.int .i64 0,.string ⟨#[]⟩,.string ⟨#[]⟩,.bool false,.slice none 0 0,.slice none 0 0] 39)) w.heap.size 39 _:=(blk1 w _).2
 have hBW:Below w.heap.size w (w.alloc (.cells #[.int .i64 0,.int .i64 0,.int .i64 0,.int .i64 0,.string ⟨#[]⟩,.string ⟨#[]⟩,.bool false,.slice none 0 0,.slice none 0 0] 39)):=(Below.refl _ w).alloc (Nat.le_refl _) _
 have hR0':Cel (w.alloc (.cells #[.int .i64 0,.int .i64 0,.int .i64 0,.int .i64 0,.string ⟨#[]⟩,.string ⟨#[]⟩,.bool false,.slice none 0 0,.slice none 0 0] 39)) w.heap.size 39 [.int .i64 0,.int .i64 0,.int .i64 0,.int .i64 0,.string ⟨#[]⟩,.string ⟨#[]⟩,.bool false,.slice none 0 0,.slice none 0 0]:=hR0
 clear hR0
 generalize w.alloc (.cells #[.int .i64 0,.int .i64 0,.int .i64 0,.int .i64 0,.string ⟨#[]⟩,.string ⟨#[]⟩,.bool false,.slice none 0 0,.slice none 0 0] 39) = W1 at hR0' hBW ⊢
 have HR0:=Lib.hid hR0'
 have HBW:=Lib.hid hBW
 clear hR0' hBW
 cases hdec:Pk.decL s.data.toList with
 | error er =>
  have hd1:Pk.decR s = ([],[],er.place s.size,er.code):=by unfold Pk.decR;rw [hdec]
  rw [hd1] at HD
  have hne:=Pk.decL_code hdec
  have HN:=Lib.hid (NoRec.err hdec)
  have pne:((er.code:Int) != 0) = true:=by simp;exact hne
  simp only [Pk.packV] at HD
  generalize er.place s.size = pl at HD
  generalize er.code = cd at HD pne
  clear hdec hd1 hne
  go_wp2_with fail
  refine (HD.out _).mono ?_
  rintro e w2 ⟨A,B,c,d,rfl,-,-,hb,-,-,-⟩
  have hal:Below w2.heap.size w2 (w2.alloc (.cells #[.slice A 0 c,.slice B 0 d] 222)):=(Below.refl _ w2).alloc (Nat.le_refl _) _
  have HR3:=Lib.hid ((HR0.out.below hb).below hal)
  have HB3:=Lib.hid ((HBW.out.trans (hb.mono HBW.out.size)).trans (hal.mono (HBW.out.trans (hb.mono HBW.out.size)).size))
  clear hb hal HD HR0 HBW
  go_upto_region 2 with fail
  generalize w2.alloc (.cells #[.slice A 0 c,.slice B 0 d] 222) = w3 at HR3 HB3 ⊢
  have zq:=fun i=>HR3.out.free (i:=i)
  have y0:=HR3.out.cell (i:=0) rfl
  have y1:=HR3.out.cell (i:=1) rfl
  have y2:=HR3.out.cell (i:=2) rfl
  have y3:=HR3.out.cell (i:=3) rfl
  have y4:=HR3.out.cell (i:=4) rfl
  have y5:=HR3.out.cell (i:=5) rfl
  have y6:=HR3.out.cell (i:=6) rfl
  have y7:=HR3.out.cell (i:=7) rfl
  have y8:=HR3.out.cell (i:=8) rfl
  go_wp2_with fail
  have HF:=Lib.hid (set9_cel (v0:=.int .i64 0) (v1:=.int .i64 0) (v2:=.int .i64 0) (v3:=.int .i64 0) (v4:=.string ⟨#[]⟩) (v5:=.string ⟨#[]⟩) (v6:=.bool false) (v7:=.slice none 0 0) (v8:=.slice none 0 0) HR3.out)
  have z0:=HF.out.cell (i:=0) rfl
  have z1:=HF.out.cell (i:=1) rfl
  have z2:=HF.out.cell (i:=2) rfl
  have z3:=HF.out.cell (i:=3) rfl
  have z4:=HF.out.cell (i:=4) rfl
  have z5:=HF.out.cell (i:=5) rfl
  have z6:=HF.out.cell (i:=6) rfl
  have z7:=HF.out.cell (i:=7) rfl
  have z8:=HF.out.cell (i:=8) rfl
  unfold set9 at z0 z1 z2 z3 z4 z5 z6 z7 z8
  exact bodyPost_ret (v:=.tuple #[recV noRec none none 0 0,.int .i64 80]) (by simp [results,Tryz.results74,go_sem,recV,noRec,z0,z1,z2,z3,z4,z5,z6,z7,z8]) rfl (HMk.out _ _ HN.out (set9_below HB3.out (Nat.le_refl _)) rfl)
 | ok x =>
  obtain ⟨ns,ts⟩:=x
  have hd1:Pk.decR s = (ns,ts,0,0):=by unfold Pk.decR;rw [hdec]
  rw [hd1] at HD
  have hmb:=(Pk.decL_ok hdec).1
  have HMb:=Lib.hid hmb
  have HDec:=Lib.hid hdec
  have pn:(ns.length:Int) ≤ 1024:=by have:=hmb.1;omega
  have pt:(ts.length:Int) ≤ 1024:=by have:=hmb.2.1;omega
  simp only [Pk.packV] at HD
  clear hdec hd1 hmb
  go_wp2_with fail
  refine (HD.out _).mono ?_
  rintro e w2 ⟨A,B,c,d,rfl,hI2,hS2,hb,hcap,hnA,hnB⟩
  have hal:Below w2.heap.size w2 (w2.alloc (.cells #[.slice A ns.length c,.slice B ts.length d] 222)):=(Below.refl _ w2).alloc (Nat.le_refl _) _
  have HP3:Hid (Cel (w2.alloc (.cells #[.slice A ns.length c,.slice B ts.length d] 222)) w2.heap.size 222 [.slice A ns.length c,.slice B ts.length d]):=Lib.hid (blk1 w2 _).2
  have HR3:=Lib.hid ((HR0.out.below hb).below hal)
  have HB3:=Lib.hid ((HBW.out.trans (hb.mono HBW.out.size)).trans (hal.mono (HBW.out.trans (hb.mono HBW.out.size)).size))
  have HI3:=Lib.hid (hI2.below hal)
  have HS3:=Lib.hid (hS2.below hal)
  have HCp:=Lib.hid hcap
  have hlt:w.heap.size < W1.heap.size:=HR0.out.lt
  have HnB:Hid (∀ ad,B = some ad → ad.block ≠ w.heap.size):=Lib.hid (fun ad e=>by have:=hnB ad e;omega)
  clear hb HD HR0 HBW hI2 hS2 hal hcap hnA hnB hlt
  go_upto_region 2 with fail
  generalize w2.alloc (.cells #[.slice A ns.length c,.slice B ts.length d] 222) = w3 at HR3 HB3 HI3 HS3 HP3 ⊢
  generalize w2.heap.size = g at HP3 ⊢
  have k0:=HP3.out.cell (i:=0) rfl
  have k1:=HP3.out.cell (i:=1) rfl
  by_cases h6:6 ≤ ns.length
  case neg =>
   have p6:(ns.length:Int) < 6:=by omega
   have HN:=Lib.hid (NoRec.of HDec.out (fun l hl e1 e2 _=>h6 (by rw [e1,nums_len];omega)))
   clear h6
   have zq:=fun i=>HR3.out.free (i:=i)
   have y0:=HR3.out.cell (i:=0) rfl
   have y1:=HR3.out.cell (i:=1) rfl
   have y2:=HR3.out.cell (i:=2) rfl
   have y3:=HR3.out.cell (i:=3) rfl
   have y4:=HR3.out.cell (i:=4) rfl
   have y5:=HR3.out.cell (i:=5) rfl
   have y6:=HR3.out.cell (i:=6) rfl
   have y7:=HR3.out.cell (i:=7) rfl
   have y8:=HR3.out.cell (i:=8) rfl
   go_wp2_with fail
   have HF:=Lib.hid (set9_cel (v0:=.int .i64 0) (v1:=.int .i64 0) (v2:=.int .i64 0) (v3:=.int .i64 0) (v4:=.string ⟨#[]⟩) (v5:=.string ⟨#[]⟩) (v6:=.bool false) (v7:=.slice none 0 0) (v8:=.slice none 0 0) HR3.out)
   have z0:=HF.out.cell (i:=0) rfl
   have z1:=HF.out.cell (i:=1) rfl
   have z2:=HF.out.cell (i:=2) rfl
   have z3:=HF.out.cell (i:=3) rfl
   have z4:=HF.out.cell (i:=4) rfl
   have z5:=HF.out.cell (i:=5) rfl
   have z6:=HF.out.cell (i:=6) rfl
   have z7:=HF.out.cell (i:=7) rfl
   have z8:=HF.out.cell (i:=8) rfl
   unfold set9 at z0 z1 z2 z3 z4 z5 z6 z7 z8
   exact bodyPost_ret (v:=.tuple #[recV noRec none none 0 0,.int .i64 80]) (by simp [results,Tryz.results74,go_sem,recV,noRec,z0,z1,z2,z3,z4,z5,z6,z7,z8]) rfl (HMk.out _ _ HN.out (set9_below HB3.out (Nat.le_refl _)) rfl)
  have p6:(6:Int) ≤ (ns.length:Int):=by omega
  by_cases h2:2 ≤ ts.length
  case neg =>
   have p2:(ts.length:Int) < 2:=by omega
   have HN:=Lib.hid (NoRec.of HDec.out (fun l hl e1 e2 _=>h2 (by rw [e2,texts_len];omega)))
   clear h2
   have zq:=fun i=>HR3.out.free (i:=i)
   have y0:=HR3.out.cell (i:=0) rfl
   have y1:=HR3.out.cell (i:=1) rfl
   have y2:=HR3.out.cell (i:=2) rfl
   have y3:=HR3.out.cell (i:=3) rfl
   have y4:=HR3.out.cell (i:=4) rfl
   have y5:=HR3.out.cell (i:=5) rfl
   have y6:=HR3.out.cell (i:=6) rfl
   have y7:=HR3.out.cell (i:=7) rfl
   have y8:=HR3.out.cell (i:=8) rfl
   go_wp2_with fail
   have HF:=Lib.hid (set9_cel (v0:=.int .i64 0) (v1:=.int .i64 0) (v2:=.int .i64 0) (v3:=.int .i64 0) (v4:=.string ⟨#[]⟩) (v5:=.string ⟨#[]⟩) (v6:=.bool false) (v7:=.slice none 0 0) (v8:=.slice none 0 0) HR3.out)
   have z0:=HF.out.cell (i:=0) rfl
   have z1:=HF.out.cell (i:=1) rfl
   have z2:=HF.out.cell (i:=2) rfl
   have z3:=HF.out.cell (i:=3) rfl
   have z4:=HF.out.cell (i:=4) rfl
   have z5:=HF.out.cell (i:=5) rfl
   have z6:=HF.out.cell (i:=6) rfl
   have z7:=HF.out.cell (i:=7) rfl
   have z8:=HF.out.cell (i:=8) rfl
   unfold set9 at z0 z1 z2 z3 z4 z5 z6 z7 z8
   exact bodyPost_ret (v:=.tuple #[recV noRec none none 0 0,.int .i64 80]) (by simp [results,Tryz.results74,go_sem,recV,noRec,z0,z1,z2,z3,z4,z5,z6,z7,z8]) rfl (HMk.out _ _ HN.out (set9_below HB3.out (Nat.le_refl _)) rfl)
  have p2:(2:Int) ≤ (ts.length:Int):=by omega
  obtain ⟨ad,rfl,hab,hcl⟩:=HI3.out (by omega)
  obtain ⟨bd,rfl,hbb,hcs⟩:=HS3.out (by omega)
  obtain ⟨L,hLd⟩:∃ L,L = cand ns ts:=⟨_,rfl⟩
  obtain ⟨x4,hx4⟩:∃ x,x = ns.getD 4 0:=⟨_,rfl⟩
  have f0:ns.getD 0 0 = L.kind:=by rw [hLd];rfl
  have f1:ns.getD 1 0 = L.txn:=by rw [hLd];rfl
  have f2:ns.getD 2 0 = L.ts:=by rw [hLd];rfl
  have f3:ns.getD 3 0 = L.coord:=by rw [hLd];rfl
  have f4:(x4 == 1) = L.dead:=by rw [hLd,hx4];rfl
  have f5:ts.getD 0 ⟨#[]⟩ = L.key:=by rw [hLd];rfl
  have f6:ts.getD 1 ⟨#[]⟩ = L.text:=by rw [hLd];rfl
  obtain ⟨m,hm⟩:∃ m,m = ns.getD 5 0:=⟨_,rfl⟩
  have hmr:-4611686018427387904 ≤ m ∧ m ≤ 4611686018427387903:=by
   rw [hm,List.getD_eq_getElem?_getD,List.getElem?_eq_getElem (by omega)]
   have hz:=HMb.out.2.2.1 ns[5] (List.getElem_mem (by omega))
   unfold Pk.numOk at hz
   simpa using hz
  have hat:∀ W,Below w3.heap.size w3 W → ∀ i,i < 6 → W.cell? (ad.add i) = some (.int .i64 (ns.getD i 0)):=fun W hW i hi=>by
   rw [cell_kept hW _ (by rw [st_block];exact hab),hcl i (by omega),List.getD_eq_getElem?_getD,List.getElem?_eq_getElem (by omega)];rfl
  have hbt:∀ W,Below w3.heap.size w3 W → ∀ i,i < 2 → W.cell? (bd.add i) = some (.string (ts.getD i ⟨#[]⟩)):=fun W hW i hi=>by
   rw [cell_kept hW _ (by rw [st_block];exact hbb),hcs i (by omega),List.getD_eq_getElem?_getD,List.getElem?_eq_getElem (by omega)];rfl
  have HCe:Hid (∀ W,Below w3.heap.size w3 W → W.cell? ⟨g,1,none⟩ = some (.slice (some bd) ts.length d) ∧ W.cell? ad = some (.int .i64 L.kind) ∧ W.cell? ⟨ad.block,ad.off + 1,none⟩ = some (.int .i64 L.txn) ∧ W.cell? ⟨ad.block,ad.off + 2,none⟩ = some (.int .i64 L.ts) ∧ W.cell? ⟨ad.block,ad.off + 3,none⟩ = some (.int .i64 L.coord) ∧ W.cell? ⟨ad.block,ad.off + 4,none⟩ = some (.int .i64 x4) ∧ W.cell? bd = some (.string L.key) ∧ W.cell? ⟨bd.block,bd.off + 1,none⟩ = some (.string L.text)):=Lib.hid (fun W hW=>by
   have a0:=hat W hW 0 (by omega)
   have b0:=hbt W hW 0 (by omega)
   rw [add_zero'] at a0 b0
   refine ⟨(HP3.out.below hW).cell (i:=1) rfl,by rw [a0,f0],?_,?_,?_,?_,by rw [b0,f5],?_⟩
   ·rw [add_lit _ _ (by omega),hat W hW 1 (by omega),f1]
   ·rw [add_lit _ _ (by omega),hat W hW 2 (by omega),f2]
   ·rw [add_lit _ _ (by omega),hat W hW 3 (by omega),f3]
   ·rw [add_lit _ _ (by omega),hat W hW 4 (by omega),hx4]
   ·rw [add_lit _ _ (by omega),hbt W hW 1 (by omega),f6])
  have c5:w3.cell? ⟨ad.block,ad.off + 5,none⟩ = some (.int .i64 m):=by rw [add_lit _ _ (by omega),hat w3 (Below.refl _ _) 5 (by omega),hm]
  have HLd:=Lib.hid hLd
  have HM:=Lib.hid hm
  have g5:5 < ns.length:=by omega
  have p5:(5:Int) < (ns.length:Int):=by omega
  clear hat hbt hcl hcs hLd hm hx4 f0 f1 f2 f3 f5 f6
  by_cases hm0:m < 0
  ·have HN:=Lib.hid (NoRec.of HDec.out (fun l hl e1 e2 _=>by have:=HM.out;rw [e1,five_of] at this;omega))
   clear f4
   have zq:=fun i=>HR3.out.free (i:=i)
   have y0:=HR3.out.cell (i:=0) rfl
   have y1:=HR3.out.cell (i:=1) rfl
   have y2:=HR3.out.cell (i:=2) rfl
   have y3:=HR3.out.cell (i:=3) rfl
   have y4:=HR3.out.cell (i:=4) rfl
   have y5:=HR3.out.cell (i:=5) rfl
   have y6:=HR3.out.cell (i:=6) rfl
   have y7:=HR3.out.cell (i:=7) rfl
   have y8:=HR3.out.cell (i:=8) rfl
   go_wp2_with fail
   have HF:=Lib.hid (set9_cel (v0:=.int .i64 0) (v1:=.int .i64 0) (v2:=.int .i64 0) (v3:=.int .i64 0) (v4:=.string ⟨#[]⟩) (v5:=.string ⟨#[]⟩) (v6:=.bool false) (v7:=.slice none 0 0) (v8:=.slice none 0 0) HR3.out)
   have z0:=HF.out.cell (i:=0) rfl
   have z1:=HF.out.cell (i:=1) rfl
   have z2:=HF.out.cell (i:=2) rfl
   have z3:=HF.out.cell (i:=3) rfl
   have z4:=HF.out.cell (i:=4) rfl
   have z5:=HF.out.cell (i:=5) rfl
   have z6:=HF.out.cell (i:=6) rfl
   have z7:=HF.out.cell (i:=7) rfl
   have z8:=HF.out.cell (i:=8) rfl
   unfold set9 at z0 z1 z2 z3 z4 z5 z6 z7 z8
   exact bodyPost_ret (v:=.tuple #[recV noRec none none 0 0,.int .i64 80]) (by simp [results,Tryz.results74,go_sem,recV,noRec,z0,z1,z2,z3,z4,z5,z6,z7,z8]) rfl (HMk.out _ _ HN.out (set9_below HB3.out (Nat.le_refl _)) rfl)
  have pm0:¬ m < 0:=hm0
  have pm0':0 ≤ m:=by omega
  by_cases hm1:(ts.length:Int) - 2 < m
  ·have HN:=Lib.hid (NoRec.of HDec.out (fun l hl e1 e2 _=>by have:=HM.out;rw [e1,five_of] at this;rw [e2,texts_len] at hm1;omega))
   clear f4
   have zq:=fun i=>HR3.out.free (i:=i)
   have y0:=HR3.out.cell (i:=0) rfl
   have y1:=HR3.out.cell (i:=1) rfl
   have y2:=HR3.out.cell (i:=2) rfl
   have y3:=HR3.out.cell (i:=3) rfl
   have y4:=HR3.out.cell (i:=4) rfl
   have y5:=HR3.out.cell (i:=5) rfl
   have y6:=HR3.out.cell (i:=6) rfl
   have y7:=HR3.out.cell (i:=7) rfl
   have y8:=HR3.out.cell (i:=8) rfl
   go_wp2_with fail
   have HF:=Lib.hid (set9_cel (v0:=.int .i64 0) (v1:=.int .i64 0) (v2:=.int .i64 0) (v3:=.int .i64 0) (v4:=.string ⟨#[]⟩) (v5:=.string ⟨#[]⟩) (v6:=.bool false) (v7:=.slice none 0 0) (v8:=.slice none 0 0) HR3.out)
   have z0:=HF.out.cell (i:=0) rfl
   have z1:=HF.out.cell (i:=1) rfl
   have z2:=HF.out.cell (i:=2) rfl
   have z3:=HF.out.cell (i:=3) rfl
   have z4:=HF.out.cell (i:=4) rfl
   have z5:=HF.out.cell (i:=5) rfl
   have z6:=HF.out.cell (i:=6) rfl
   have z7:=HF.out.cell (i:=7) rfl
   have z8:=HF.out.cell (i:=8) rfl
   unfold set9 at z0 z1 z2 z3 z4 z5 z6 z7 z8
   exact bodyPost_ret (v:=.tuple #[recV noRec none none 0 0,.int .i64 80]) (by simp [results,Tryz.results74,go_sem,recV,noRec,z0,z1,z2,z3,z4,z5,z6,z7,z8]) rfl (HMk.out _ _ HN.out (set9_below HB3.out (Nat.le_refl _)) rfl)
  have pm1:m ≤ (ts.length:Int) - 2:=by omega
  obtain ⟨q,rfl⟩:∃ q:Nat,m = (q:Int):=⟨m.toNat,by omega⟩
  obtain ⟨K,hK⟩:∃ K:Option Addr,(if d = 2 then some bd else some ⟨bd.block,bd.off + 2,none⟩) = K:=⟨_,rfl⟩
  have u1:(2 + (q:Int)).toNat - 2 = q:=by omega
  have u2:2 ≤ max (2 + (q:Int)) 0:=by omega
  have u3:0 ≤ 2 + (q:Int):=by omega
  have u4:2 + (q:Int) ≤ (d:Int):=by have:=HCp.out.2.1;omega
  have hwq:IntKind.i64.wrap (2 + (q:Int)) = 2 + (q:Int):=i64_wrap (by omega) (by omega)
  have n0:0 < ns.length:=by omega
  have m0:0 < ts.length:=by omega
  have m1':(1:Int) < (ts.length:Int):=by omega
  have i1:(1:Int) < (ns.length:Int):=by omega
  have i2:(2:Int) < (ns.length:Int):=by omega
  have i3:(3:Int) < (ns.length:Int):=by omega
  have i4:(4:Int) < (ns.length:Int):=by omega
  have pd1:ts.length ≤ d:=HCp.out.2.1
  have pd2:d ≤ 9223372036854775807:=HCp.out.2.2.2
  have HF4:=Lib.hid f4
  clear hm0 hm1 h6 h2
  go_upto_region 8 with fail
  refine wp_region_said 31 [49,50,51,52,53,54,55,56,57,58,59,60,61,62,63,64,65,66,67,68,69,70,71,72,73,74,75,76,77,78,9]
   [.is (.slice (some ad) ns.length c),.is (.pointer (some ad)),.is (.int .i64 L.kind),.is (.slice (some ad) ns.length c),.is (.pointer (some ⟨ad.block,ad.off + 1,none⟩)),.is (.int .i64 L.txn),.is (.slice (some ad) ns.length c),.is (.pointer (some ⟨ad.block,ad.off + 2,none⟩)),.is (.int .i64 L.ts),.is (.slice (some ad) ns.length c),.is (.pointer (some ⟨ad.block,ad.off + 3,none⟩)),.is (.int .i64 L.coord),.is (.slice (some ad) ns.length c),.is (.pointer (some ⟨ad.block,ad.off + 4,none⟩)),.is (.int .i64 x4),.is (.bool L.dead),.is (.pointer (some ⟨g,1,none⟩)),.is (.slice (some bd) ts.length d),.is (.pointer (some bd)),.is (.string L.key),.is (.pointer (some ⟨g,1,none⟩)),.is (.slice (some bd) ts.length d),.is (.pointer (some ⟨bd.block,bd.off + 1,none⟩)),.is (.string L.text),.is (.pointer (some ⟨g,1,none⟩)),.is (.slice (some bd) ts.length d),.is (.int .i64 (q:Int)),.is (.int .i64 (2 + (q:Int))),.is (.slice K q (d - 2)),.is (.agg #[.int .i64 L.kind,.int .i64 L.txn,.int .i64 L.ts,.int .i64 L.coord,.string L.key,.string L.text,.bool L.dead,.slice K q (d - 2),.slice none 0 0]),.blk 39 #[.int .i64 0,.int .i64 0,.int .i64 0,.int .i64 0,.string ⟨#[]⟩,.string ⟨#[]⟩,.bool false,.slice none 0 0,.slice none 0 0]]
   (fun W=>Below w3.heap.size w3 W) (by kernel_rfl) (by kernel_rfl) (by kernel_rfl) (by kernel_rfl) (by kernel_rfl) (fun W W' h hb=>h.trans (hb.mono h.size)) (Below.refl _ _) ?steps ?last
  case steps =>
   simp only [List.take_succ_cons,List.take_zero]
   refine ⟨?_,?_,?_,?_,?_,?_,?_,?_,?_,?_,?_,?_,?_,?_,?_,?_,?_,?_,?_,?_,?_,?_,?_,?_,?_,?_,?_,?_,?_,?_,?_,trivial⟩
   all_goals
    intro vs W ρ hρ hc hf hg hI hH hd R' hR
    obtain ⟨z1,y0,y1,y2,y3,y4,zt,zu⟩:=HCe.out W hI
    have HR:=Lib.hid hR
    simp [depsOf,Region.binds,sayAt,Say.holds] at hd
    clear hR hI k0 k1 c5
    go_simp
    first
     | exact HR.out _ _ (by simp [sayAt,Say.holds]) (Below.refl _ _) (by simp [sayAt,Say.isBlk])
     | exact HR.out _ _ ⟨_,hH,by simp,rfl,heap_alloc_new _ _⟩ ((Below.refl _ _).alloc (Nat.le_refl _) _) (fun _=>rfl)
     | trace_state
  case last =>
   intro vs W hI hb hg hd
   have g29:=hg 29 (by omega)
   obtain ⟨o,ho1,ho2,g30,ho⟩:=hg 30 (by omega)
   simp only [sayAt,Say.holds,List.getD_cons_succ,List.getD_cons_zero] at g29
   simp only [List.take_succ_cons,List.take_zero,List.drop_succ_cons,List.drop_zero,putAll,Act.put,List.setIfInBounds_toArray,List.set_cons_succ,List.set_cons_zero,Nat.zero_add,Nat.reduceAdd]
   rw [g29,g30]
   clear g29 g30 hg hd
   refine wpList_plain rfl fun K2 hK2=>?_
   refine wp_store_row 39 (.tmp 9) (.tmp 78) rfl o _ rfl rfl _ _ ho (by kernel_rfl) rfl (by simp [Value.oneCell']) ?_
   refine hK2 _ _ ?_
   clear hK2 K2
   have HB4:=Lib.hid (below_row (o:=o) hI ho1 #[.int .i64 L.kind,.int .i64 L.txn,.int .i64 L.ts,.int .i64 L.coord,.string L.key,.string L.text,.bool L.dead,.slice K q (d - 2),.slice none 0 0])
   have HO4:Hid (Cel (W.setRow o #[.int .i64 L.kind,.int .i64 L.txn,.int .i64 L.ts,.int .i64 L.coord,.string L.key,.string L.text,.bool L.dead,.slice K q (d - 2),.slice none 0 0]) o 39 [.int .i64 L.kind,.int .i64 L.txn,.int .i64 L.ts,.int .i64 L.coord,.string L.key,.string L.text,.bool L.dead,.slice K q (d - 2),.slice none 0 0]):=Lib.hid (setRow_heap _ _ _ _ 39 (0,0) ho)
   generalize W.setRow o #[.int .i64 L.kind,.int .i64 L.txn,.int .i64 L.ts,.int .i64 L.coord,.string L.key,.string L.text,.bool L.dead,.slice K q (d - 2),.slice none 0 0] = w4 at HB4 HO4 ⊢
   clear ho ho2 hb hI
   go_upto_region 9 with fail
   have HK:=Lib.hid hK
   clear HCe u1 u2 i1 i2 i3 i4 m1' c5 hK k0 k1 f4
   have hBw:=HB4.out
   have hBel:Hid (Below w.heap.size w w4):=Lib.hid (HB3.out.trans (hBw.mono HB3.out.size))
   have HR4:=Lib.hid (HR3.out.below hBw)
   have hOw:w.heap.size < o:=Nat.lt_of_lt_of_le HR3.out.lt ho1
   have hI4:=HI3.out.below hBw
   have hS4:=HS3.out.below hBw
   have HC1:=Lib.hid (fun W (hb:Below w4.heap.size w4 W)=>((HP3.out.below hBw).below hb).cell (i:=1) rfl)
   have HS4:=Lib.hid hS4
   obtain ⟨K7,hK7⟩:∃ K7:Option Addr,(if c = 6 then some ad else some ⟨ad.block,ad.off + 6,none⟩) = K7:=⟨_,rfl⟩
   obtain ⟨m1,hm1⟩:∃ m1,m1 = 2 + q:=⟨_,rfl⟩
   obtain ⟨K8,hK8⟩:∃ K8:Option Addr,(if d = m1 then some bd else some (bd.add m1)) = K8:=⟨_,rfl⟩
   have t4:(2 + (q:Int)).toNat = m1:=by omega
   have u5:2 + (q:Int) ≤ (ts.length:Int):=by omega
   have pc1:ns.length ≤ c:=HCp.out.1
   have pc2:c ≤ 9223372036854775807:=HCp.out.2.2.1
   have n6:6 ≤ ns.length:=by omega
   have pm2:m1 ≤ ts.length:=by omega
   have ln:(ns.drop 6).length = ns.length - 6:=List.length_drop
   have lt:(ts.drop m1).length = ts.length - m1:=List.length_drop
   have nb:ns.length ≤ 1024:=by omega
   have tb:ts.length ≤ 1024:=by omega
   have hPr:∀ W,Below w4.heap.size w4 W → Calls Tryz.prog 136 #[.slice K7 (ns.length - 6) (c - 6),.slice K8 (ts.length - m1) (d - m1)] W (PairsAns (ns.drop 6) (ts.drop m1) W):=fun W hW=>by
    have h:=pairs_any K7 K8 (c - 6) (d - m1) (ns.drop 6) (ts.drop m1) W
     (by rw [← hK7,add_lit _ _ (by omega)];exact ints_sub (hI4.below hW) pc1)
     (by rw [← hK8];exact strs_sub (hS4.below hW) pd1) (by omega) (by omega)
    rw [ln,lt] at h
    exact h
   have HPr:=Lib.hid hPr
   have hq6:∀ l:Rec,ns = numsOf l → q = l.keys.length:=fun l e1=>by have:=HM.out;rw [e1,five_of] at this;omega
   clear hBw HR3 HB3 HI3 HS3 HP3 hPr hI4 hS4
   by_cases hl:(ts.drop m1).length = 2 * (ns.drop 6).length
   case neg =>
    have HN:=Lib.hid (NoRec.of HDec.out (fun l hl2 e1 e2 _=>hl (by
     have hq:=hq6 l e1
     rw [lt,ln,hm1,e1,e2,texts_len,nums_len,hq];omega)))
    have HPb:=Lib.hid (fun W hW=>(HPr.out W hW).mono (fun e W' hA=>show e = .returned (.tuple #[.slice none 0 0,.bool false]) ∧ W' = W from by
     rcases hA with ⟨h1,_⟩ | ⟨_,h2,h3⟩
     ·exact absurd h1 hl
     ·exact ⟨h2,h3⟩))
    clear HPr ln lt n6 hl hm1 hq6
    refine wp_region_said 13 [80,81,82,83,84,85,86,87,79,88,89,10,11]
     [.is (.slice (some ad) ns.length c),.is (.slice K7 (ns.length - 6) (c - 6)),.is (.pointer (some ⟨g,1,none⟩)),.is (.slice (some bd) ts.length d),.is (.int .i64 (q:Int)),.is (.int .i64 (2 + (q:Int))),.is (.slice K8 (ts.length - m1) (d - m1)),.is (.tuple #[.slice none 0 0,.bool false]),.is (.tuple #[.slice none 0 0,.bool false]),.is (.slice none 0 0),.is (.bool false),.is (.slice none 0 0),.is (.bool false)]
     (fun W=>Below w4.heap.size w4 W) (by kernel_rfl) (by kernel_rfl) (by kernel_rfl) (by kernel_rfl) (by kernel_rfl) (fun W W' h hb=>h.trans (hb.mono h.size)) (Below.refl _ _) ?steps9 ?last9
    case steps9 =>
     simp only [List.take_succ_cons,List.take_zero]
     refine ⟨?_,?_,?_,?_,?_,?_,?_,?_,?_,?_,?_,?_,?_,trivial⟩
     all_goals
      intro vs W ρ hρ hc hf hg hI hH hd R' hR
      have z1:=HC1.out W hI
      have HPb2:=Lib.hid (HPb.out W hI)
      have HR:=Lib.hid hR
      simp [depsOf,Region.binds,sayAt,Say.holds] at hd
      clear hR hI
      go_simp
      first
       | exact HR.out _ _ (by simp [sayAt,Say.holds]) (Below.refl _ _) (by simp [sayAt,Say.isBlk])
       | (refine HPb2.out.mono ?_;rintro e w' ⟨rfl,rfl⟩;exact ⟨_,rfl,HR.out _ _ (by simp [sayAt,Say.holds]) (Below.refl _ _) (by simp [sayAt,Say.isBlk])⟩)
       | trace_state
    case last9 =>
     intro vs W hI hb hg hd
     have g11:=hg 11 (by omega)
     have g12:=hg 12 (by omega)
     simp only [sayAt,Say.holds,List.getD_cons_succ,List.getD_cons_zero] at g11 g12
     simp only [List.take_succ_cons,List.take_zero,List.drop_succ_cons,List.drop_zero,putAll,Act.put,List.setIfInBounds_toArray,List.set_cons_succ,List.set_cons_zero,Nat.zero_add,Nat.reduceAdd]
     rw [g11,g12]
     have HO5:=Lib.hid (HO4.out.below hI)
     have HR5:=Lib.hid (HR4.out.below hI)
     have HB5:=Lib.hid (hBel.out.trans (hI.mono hBel.out.size))
     clear g11 g12 hg hd hb hI HO4 HR4 hBel
     have oq:=fun i=>HO5.out.free (i:=i)
     have o8:=HO5.out.cell (i:=8) rfl
     go_upto_region 11 with fail
     have HR6:Hid (Cel (W.setCell ⟨o,8,none⟩ (.slice none 0 0)) w.heap.size 39 _):=Lib.hid (HR5.out.far (by omega))
     have HB6:=Lib.hid (HB5.out.setCell (p:=⟨o,8,none⟩) (Nat.le_of_lt hOw) (.slice none 0 0))
     clear HO5 HR5 HB5 oq o8
     generalize W.setCell ⟨o,8,none⟩ (.slice none 0 0) = W6 at HR6 HB6 ⊢
     have zq:=fun i=>HR6.out.free (i:=i)
     have y0:=HR6.out.cell (i:=0) rfl
     have y1:=HR6.out.cell (i:=1) rfl
     have y2:=HR6.out.cell (i:=2) rfl
     have y3:=HR6.out.cell (i:=3) rfl
     have y4:=HR6.out.cell (i:=4) rfl
     have y5:=HR6.out.cell (i:=5) rfl
     have y6:=HR6.out.cell (i:=6) rfl
     have y7:=HR6.out.cell (i:=7) rfl
     have y8:=HR6.out.cell (i:=8) rfl
     go_wp2_with fail
     have HF:=Lib.hid (set9_cel (v0:=.int .i64 0) (v1:=.int .i64 0) (v2:=.int .i64 0) (v3:=.int .i64 0) (v4:=.string ⟨#[]⟩) (v5:=.string ⟨#[]⟩) (v6:=.bool false) (v7:=.slice none 0 0) (v8:=.slice none 0 0) HR6.out)
     have z0:=HF.out.cell (i:=0) rfl
     have z1:=HF.out.cell (i:=1) rfl
     have z2:=HF.out.cell (i:=2) rfl
     have z3:=HF.out.cell (i:=3) rfl
     have z4:=HF.out.cell (i:=4) rfl
     have z5:=HF.out.cell (i:=5) rfl
     have z6:=HF.out.cell (i:=6) rfl
     have z7:=HF.out.cell (i:=7) rfl
     have z8:=HF.out.cell (i:=8) rfl
     unfold set9 at z0 z1 z2 z3 z4 z5 z6 z7 z8
     exact bodyPost_ret (v:=.tuple #[recV noRec none none 0 0,.int .i64 80]) (by simp [results,Tryz.results74,go_sem,recV,noRec,z0,z1,z2,z3,z4,z5,z6,z7,z8]) rfl (HMk.out _ _ HN.out (set9_below HB6.out (Nat.le_refl _)) rfl)
   have hmq:manyOf ns = q:=by unfold manyOf;rw [← HM.out];exact Int.toNat_natCast q
   have hLk:L.keys = (ts.drop 2).take q:=by rw [HLd.out];show (ts.drop 2).take (manyOf ns) = _;rw [hmq]
   have hLw:L.ws = pairL (ns.drop 6) (ts.drop m1):=by rw [HLd.out];show pairL _ (ts.drop (2 + manyOf ns)) = _;rw [hmq,hm1]
   have HFk:Hid (q = L.keys.length):=Lib.hid (by rw [hLk,List.length_take,List.length_drop];omega)
   have fw:(ns.drop 6).length = L.ws.length:=by rw [hLw,pairL_len _ _ hl]
   have hrg:=cand_range HMb.out
   rw [← HLd.out] at hrg
   have HRgL:=Lib.hid hrg
   have HPg:=Lib.hid (fun W (hW:Below w4.heap.size w4 W)=>(HPr.out W hW).mono (fun e W' hA=>show ∃ A c',e = .returned (.tuple #[.slice A L.ws.length c',.bool true]) ∧ SW w4.heap.size L.ws.length L.ws A c' W' ∧ Below W.heap.size W W' from by
    rcases hA with ⟨_,v,h2,h3,h4⟩ | ⟨h1,_⟩
    ·rw [fw,← hLw] at h3
     obtain ⟨A,c',rfl,h5⟩:=wrs_own2 h3 rfl hW.size
     exact ⟨A,c',h2,h5,h4⟩
    ·exact absurd hl h1))
   have HSk:=Lib.hid (fun W (hW:Below w4.heap.size w4 W)=>show StrsAt W K L.keys from by
    rw [hLk,← HK.out,add_lit _ _ (by omega)]
    exact strs_take (strs_sub (HS4.out.below hW) pd1) q)
   have HKs:Hid (K ≠ none ∧ ∀ a,K = some a → a.block = bd.block):=Lib.hid (by
    rw [← HK.out]
    split
    ·exact ⟨by simp,fun a e=>by rw [Option.some.inj e]⟩
    ·exact ⟨by simp,fun a e=>by rw [← Option.some.inj e]⟩)
   have HOb:Hid (bd.block < o):=Lib.hid (Nat.lt_of_lt_of_le hbb ho1)
   have HOl:Hid (o < w4.heap.size):=Lib.hid HO4.out.lt
   have HKb:Hid (bd.block ≠ w.heap.size):=Lib.hid (HnB.out bd rfl)
   clear HPr ln lt n6 hl hm1 hmq hLk hLw fw hrg hq6
   refine wp_region_said 13 [80,81,82,83,84,85,86,87,79,88,89,10,11]
    [.is (.slice (some ad) ns.length c),.is (.slice K7 (ns.length - 6) (c - 6)),.is (.pointer (some ⟨g,1,none⟩)),.is (.slice (some bd) ts.length d),.is (.int .i64 (q:Int)),.is (.int .i64 (2 + (q:Int))),.is (.slice K8 (ts.length - m1) (d - m1)),.own (S85 w4.heap.size L.ws.length L.ws) (fun _ _ _ h hb=>h.keep hb),.own (S85 w4.heap.size L.ws.length L.ws) (fun _ _ _ h hb=>h.keep hb),.own (S86 w4.heap.size L.ws.length L.ws) (fun _ _ _ h hb=>h.keep hb),.is (.bool true),.own (S86 w4.heap.size L.ws.length L.ws) (fun _ _ _ h hb=>h.keep hb),.is (.bool true)]
    (fun W=>Below w4.heap.size w4 W) (by kernel_rfl) (by kernel_rfl) (by kernel_rfl) (by kernel_rfl) (by kernel_rfl) (fun W W' h hb=>h.trans (hb.mono h.size)) (Below.refl _ _) ?steps9g ?last9g
   case steps9g =>
    simp only [List.take_succ_cons,List.take_zero]
    refine ⟨?_,?_,?_,?_,?_,?_,?_,?_,?_,?_,?_,?_,?_,trivial⟩
    case refine_8 =>
     intro vs W ρ hρ hc hf hg hI hH hd R' hR
     have HPb2:=Lib.hid (HPg.out W hI)
     have HR:=Lib.hid hR
     simp [depsOf,Region.binds,sayAt,Say.holds] at hd
     clear hR hI
     go_simp
     refine HPb2.out.mono ?_
     rintro e w' ⟨A,c',rfl,h1,h2⟩
     exact ⟨_,rfl,HR.out _ _ ⟨A,c',rfl,h1⟩ h2 (fun h=>by cases h)⟩
    case refine_9 =>
     intro vs W ρ hρ hc hf hg hI hH hd R' hR
     have HR:=Lib.hid hR
     simp [depsOf,Region.binds,sayAt,Say.holds] at hd
     clear hR hI
     go_simp
     exact HR.out _ _ hd (Below.refl _ _) (fun h=>by cases h)
    case refine_10 =>
     intro vs W ρ hρ hc hf hg hI hH hd R' hR
     have HR:=Lib.hid hR
     simp [depsOf,Region.binds,sayAt,Say.holds] at hd
     clear hR hI
     obtain ⟨A,c',e,h1⟩:=hd
     go_simp
     exact HR.out _ _ ⟨A,c',rfl,h1⟩ (Below.refl _ _) (fun h=>by cases h)
    case refine_11 =>
     intro vs W ρ hρ hc hf hg hI hH hd R' hR
     have HR:=Lib.hid hR
     simp [depsOf,Region.binds,sayAt,Say.holds] at hd
     clear hR hI
     obtain ⟨A,c',e,h1⟩:=hd
     go_simp
     exact HR.out _ _ rfl (Below.refl _ _) (fun h=>by cases h)
    case refine_12 =>
     intro vs W ρ hρ hc hf hg hI hH hd R' hR
     have HR:=Lib.hid hR
     simp [depsOf,Region.binds,sayAt,Say.holds] at hd
     clear hR hI
     go_simp
     exact HR.out _ _ (by first | exact hd.1 | exact hd.2 | exact hd | (obtain ⟨_,_,_,_,_,_,_,_,h,_⟩:=hd;exact h) | trace_state) (Below.refl _ _) (fun h=>by cases h)
    all_goals
     intro vs W ρ hρ hc hf hg hI hH hd R' hR
     have z1:=HC1.out W hI
     have HR:=Lib.hid hR
     simp [depsOf,Region.binds,sayAt,Say.holds] at hd
     clear hR hI
     go_simp
     first
      | exact HR.out _ _ (by simp [sayAt,Say.holds]) (Below.refl _ _) (by simp [sayAt,Say.isBlk])
      | trace_state
   case last9g =>
    intro vs W hI hb hg hd
    have g11:=hg 11 (by omega)
    have g12:=hg 12 (by omega)
    simp only [sayAt,Say.holds,List.getD_cons_succ,List.getD_cons_zero] at g11 g12
    obtain ⟨A,c',g11,hsw⟩:=g11
    simp only [List.take_succ_cons,List.take_zero,List.drop_succ_cons,List.drop_zero,putAll,Act.put,List.setIfInBounds_toArray,List.set_cons_succ,List.set_cons_zero,Nat.zero_add,Nat.reduceAdd]
    rw [g11,g12]
    have HO5:=Lib.hid (HO4.out.below hI)
    have HR5:=Lib.hid (HR4.out.below hI)
    have HB5:=Lib.hid (hBel.out.trans (hI.mono hBel.out.size))
    have HK5:=Lib.hid (HSk.out W hI)
    have HSw:=Lib.hid hsw
    clear g11 g12 hg hd hb hI HO4 HR4 hBel hsw HPg HSk HC1 HS4
    have oq:=fun i=>HO5.out.free (i:=i)
    have o8:=HO5.out.cell (i:=8) rfl
    go_upto_region 11 with fail
    have fk:=HFk.out
    have hO6:Cel (W.setCell ⟨o,8,none⟩ (.slice A L.ws.length c')) o 39 [.int .i64 L.kind,.int .i64 L.txn,.int .i64 L.ts,.int .i64 L.coord,.string L.key,.string L.text,.bool L.dead,.slice K q (d - 2),.slice A L.ws.length c']:=HO5.out.set
    have hR6:Cel (W.setCell ⟨o,8,none⟩ (.slice A L.ws.length c')) w.heap.size 39 _:=HR5.out.far (by omega)
    have hB6:=HB5.out.setCell (p:=⟨o,8,none⟩) (Nat.le_of_lt hOw) (.slice A L.ws.length c')
    have hsz6:W.heap.size ≤ (W.setCell ⟨o,8,none⟩ (.slice A L.ws.length c')).heap.size:=by simp
    have hoth:∀ a:Addr,a.block ≠ o → (W.setCell ⟨o,8,none⟩ (.slice A L.ws.length c')).cell? a = W.cell? a:=fun a ha=>World.cell?_of_block (Below.heap_setCell W ⟨o,8,none⟩ _ a.block ha)
    have hK6:=strs_far HK5.out (R:=o) (fun a e=>by have:=HKs.out.2 a e;have:=HOb.out;omega) hsz6 hoth
    have hW6:=wrs_far HSw.out.1 (R:=o) (fun a e=>by have:=HSw.out.2.2.2.2 a e;have:=HOl.out;omega) hsz6 hoth
    have HAb:Hid (∀ a,A = some a → a.block ≠ w.heap.size):=Lib.hid (fun a e=>by have:=HSw.out.2.2.2.2 a e;have:=HOl.out;omega)
    generalize (W.setCell ⟨o,8,none⟩ (.slice A L.ws.length c')) = W6 at hO6 hR6 hB6 hK6 hW6 ⊢
    have HO6:=Lib.hid hO6
    have HR6:=Lib.hid hR6
    have HB6:=Lib.hid hB6
    have HK6:=Lib.hid hK6
    have HW6:=Lib.hid hW6
    clear HO5 HR5 HB5 HK5 HSw HFk oq o8 hR6 hB6 hK6 hW6 hsz6 hoth hO6
    have HCk:=Lib.hid (check_any K A (d - 2) c' L W6 HK6.out HW6.out HRgL.out)
    have HBy:=Lib.hid (fun W (hb:Below W6.heap.size W6 W) hm=>bytes_any K A (d - 2) c' L W (HK6.out.below hb) (HW6.out.below hb) (fun e=>absurd e HKs.out.1) hm)
    unfold recV at HCk HBy
    rw [← fk] at HCk HBy
    have Hfk:=Lib.hid fk
    clear fk
    have o0:=HO6.out.cell (i:=0) rfl
    have o1:=HO6.out.cell (i:=1) rfl
    have o2:=HO6.out.cell (i:=2) rfl
    have o3:=HO6.out.cell (i:=3) rfl
    have o4:=HO6.out.cell (i:=4) rfl
    have o5:=HO6.out.cell (i:=5) rfl
    have o6:=HO6.out.cell (i:=6) rfl
    have o7:=HO6.out.cell (i:=7) rfl
    have o8:=HO6.out.cell (i:=8) rfl
    by_cases hm:RecOk L
    ·rw [ckN_of hm] at HCk
     by_cases hsL:s.data.toList = recL L
     ·have t0:((⟨(recL L).toArray⟩:ByteArray).toList == s.toList) = true:=by
       rw [show (⟨(recL L).toArray⟩:ByteArray) = s by rw [← hsL]]
       exact text_eq s
      have HBs:=Lib.hid (fun W hb=>HBy.out W hb hm)
      have HM2:=Lib.hid (And.intro hm hsL)
      generalize (⟨(recL L).toArray⟩:ByteArray) = sL at *
      clear HBy hm hsL
      go_wp2_with fail
      refine HCk.out.mono ?_
      rintro e w7 ⟨rfl,hb7⟩
      have HO7:=Lib.hid (HO6.out.below hb7)
      have HR7:=Lib.hid (HR6.out.below hb7)
      have HB7:=Lib.hid (HB6.out.trans (hb7.mono HB6.out.size))
      have HK7:=Lib.hid (HK6.out.below hb7)
      have HW7:=Lib.hid (HW6.out.below hb7)
      have HBs7:=Lib.hid (HBs.out w7 hb7)
      clear hb7 o0 o1 o2 o3 o4 o5 o6 o7 o8 HBs HCk HO6 HR6 HB6 HK6 HW6
      have o0:=HO7.out.cell (i:=0) rfl
      have o1:=HO7.out.cell (i:=1) rfl
      have o2:=HO7.out.cell (i:=2) rfl
      have o3:=HO7.out.cell (i:=3) rfl
      have o4:=HO7.out.cell (i:=4) rfl
      have o5:=HO7.out.cell (i:=5) rfl
      have o6:=HO7.out.cell (i:=6) rfl
      have o7:=HO7.out.cell (i:=7) rfl
      have o8:=HO7.out.cell (i:=8) rfl
      go_wp2_with fail
      refine HBs7.out.mono ?_
      rintro e w8 ⟨rfl,hb8⟩
      have HO8:=Lib.hid (HO7.out.below hb8)
      have HR8:=Lib.hid (HR7.out.below hb8)
      have HB8:=Lib.hid (HB7.out.trans (hb8.mono HB7.out.size))
      have HK8:=Lib.hid (HK7.out.below hb8)
      have HW8:=Lib.hid (HW7.out.below hb8)
      clear hb8 o0 o1 o2 o3 o4 o5 o6 o7 o8 HBs7 HO7 HR7 HB7 HK7 HW7
      have o0:=HO8.out.cell (i:=0) rfl
      have o1:=HO8.out.cell (i:=1) rfl
      have o2:=HO8.out.cell (i:=2) rfl
      have o3:=HO8.out.cell (i:=3) rfl
      have o4:=HO8.out.cell (i:=4) rfl
      have o5:=HO8.out.cell (i:=5) rfl
      have o6:=HO8.out.cell (i:=6) rfl
      have o7:=HO8.out.cell (i:=7) rfl
      have o8:=HO8.out.cell (i:=8) rfl
      have y0:=HR8.out.cell (i:=0) rfl
      have y1:=HR8.out.cell (i:=1) rfl
      have y2:=HR8.out.cell (i:=2) rfl
      have y3:=HR8.out.cell (i:=3) rfl
      have y4:=HR8.out.cell (i:=4) rfl
      have y5:=HR8.out.cell (i:=5) rfl
      have y6:=HR8.out.cell (i:=6) rfl
      have y7:=HR8.out.cell (i:=7) rfl
      have y8:=HR8.out.cell (i:=8) rfl
      have zq:=fun i=>HR8.out.free (i:=i)
      go_wp2_with fail
      have HF:=Lib.hid (set9_cel (v0:=.int .i64 L.kind) (v1:=.int .i64 L.txn) (v2:=.int .i64 L.ts) (v3:=.int .i64 L.coord) (v4:=.string L.key) (v5:=.string L.text) (v6:=.bool L.dead) (v7:=.slice K q (d - 2)) (v8:=.slice A L.ws.length c') HR8.out)
      have z0:=HF.out.cell (i:=0) rfl
      have z1:=HF.out.cell (i:=1) rfl
      have z2:=HF.out.cell (i:=2) rfl
      have z3:=HF.out.cell (i:=3) rfl
      have z4:=HF.out.cell (i:=4) rfl
      have z5:=HF.out.cell (i:=5) rfl
      have z6:=HF.out.cell (i:=6) rfl
      have z7:=HF.out.cell (i:=7) rfl
      have z8:=HF.out.cell (i:=8) rfl
      unfold set9 at z0 z1 z2 z3 z4 z5 z6 z7 z8
      refine bodyPost_ret (v:=.tuple #[recV L K A (d - 2) c',.int .i64 0]) (by simp [results,Tryz.results74,go_sem,recV,← Hfk.out,z0,z1,z2,z3,z4,z5,z6,z7,z8]) rfl (HMo.out L K A (d - 2) c' _ HM2.out.1 HM2.out.2 (set9_below HB8.out (Nat.le_refl _)) ?_ ?_)
      ·exact strs_far HK8.out (R:=w.heap.size) (fun a e=>by rw [HKs.out.2 a e];exact HKb.out) (Nat.le_of_eq set9_size.symm) (fun a ha=>set9_other ha)
      ·exact wrs_far HW8.out (R:=w.heap.size) (fun a e=>HAb.out a e) (Nat.le_of_eq set9_size.symm) (fun a ha=>set9_other ha)
     ·have t0:((⟨(recL L).toArray⟩:ByteArray).toList == s.toList) = false:=text_ne (fun e=>hsL (by rw [← e]))
      have HN:=Lib.hid (NoRec.of HDec.out (fun l hl2 e1 e2 e3=>hsL (by
       have:L = l:=by rw [HLd.out,e1,e2,cand_of]
       rw [this];exact e3)))
      have HBs:=Lib.hid (fun W hb=>HBy.out W hb hm)
      generalize (⟨(recL L).toArray⟩:ByteArray) = sL at *
      clear HBy hm hsL
      go_wp2_with fail
      refine HCk.out.mono ?_
      rintro e w7 ⟨rfl,hb7⟩
      have HO7:=Lib.hid (HO6.out.below hb7)
      have HR7:=Lib.hid (HR6.out.below hb7)
      have HB7:=Lib.hid (HB6.out.trans (hb7.mono HB6.out.size))
      have HBs7:=Lib.hid (HBs.out w7 hb7)
      clear hb7 o0 o1 o2 o3 o4 o5 o6 o7 o8 HBs HCk HO6 HR6 HB6 HK6 HW6
      have o0:=HO7.out.cell (i:=0) rfl
      have o1:=HO7.out.cell (i:=1) rfl
      have o2:=HO7.out.cell (i:=2) rfl
      have o3:=HO7.out.cell (i:=3) rfl
      have o4:=HO7.out.cell (i:=4) rfl
      have o5:=HO7.out.cell (i:=5) rfl
      have o6:=HO7.out.cell (i:=6) rfl
      have o7:=HO7.out.cell (i:=7) rfl
      have o8:=HO7.out.cell (i:=8) rfl
      go_wp2_with fail
      refine HBs7.out.mono ?_
      rintro e w8 ⟨rfl,hb8⟩
      have HR8:=Lib.hid (HR7.out.below hb8)
      have HB8:=Lib.hid (HB7.out.trans (hb8.mono HB7.out.size))
      clear hb8 o0 o1 o2 o3 o4 o5 o6 o7 o8 HBs7 HO7 HR7 HB7
      have zq:=fun i=>HR8.out.free (i:=i)
      have y0:=HR8.out.cell (i:=0) rfl
      have y1:=HR8.out.cell (i:=1) rfl
      have y2:=HR8.out.cell (i:=2) rfl
      have y3:=HR8.out.cell (i:=3) rfl
      have y4:=HR8.out.cell (i:=4) rfl
      have y5:=HR8.out.cell (i:=5) rfl
      have y6:=HR8.out.cell (i:=6) rfl
      have y7:=HR8.out.cell (i:=7) rfl
      have y8:=HR8.out.cell (i:=8) rfl
      go_wp2_with fail
      have HF:=Lib.hid (set9_cel (v0:=.int .i64 0) (v1:=.int .i64 0) (v2:=.int .i64 0) (v3:=.int .i64 0) (v4:=.string ⟨#[]⟩) (v5:=.string ⟨#[]⟩) (v6:=.bool false) (v7:=.slice none 0 0) (v8:=.slice none 0 0) HR8.out)
      have z0:=HF.out.cell (i:=0) rfl
      have z1:=HF.out.cell (i:=1) rfl
      have z2:=HF.out.cell (i:=2) rfl
      have z3:=HF.out.cell (i:=3) rfl
      have z4:=HF.out.cell (i:=4) rfl
      have z5:=HF.out.cell (i:=5) rfl
      have z6:=HF.out.cell (i:=6) rfl
      have z7:=HF.out.cell (i:=7) rfl
      have z8:=HF.out.cell (i:=8) rfl
      unfold set9 at z0 z1 z2 z3 z4 z5 z6 z7 z8
      exact bodyPost_ret (v:=.tuple #[recV noRec none none 0 0,.int .i64 80]) (by simp [results,Tryz.results74,go_sem,recV,noRec,z0,z1,z2,z3,z4,z5,z6,z7,z8]) rfl (HMk.out _ _ HN.out (set9_below HB8.out (Nat.le_refl _)) rfl)
    ·rw [ckN_not hm] at HCk
     have HN:=Lib.hid (NoRec.of HDec.out (fun l hl2 e1 e2 e3=>hm (by
      have:L = l:=by rw [HLd.out,e1,e2,cand_of]
      rw [this];exact hl2)))
     clear HBy hm
     go_wp2_with fail
     refine HCk.out.mono ?_
     rintro e w7 ⟨rfl,hb7⟩
     have HR7:=Lib.hid (HR6.out.below hb7)
     have HB7:=Lib.hid (HB6.out.trans (hb7.mono HB6.out.size))
     clear hb7 o0 o1 o2 o3 o4 o5 o6 o7 o8 HCk HO6 HR6 HB6 HK6 HW6
     have zq:=fun i=>HR7.out.free (i:=i)
     have y0:=HR7.out.cell (i:=0) rfl
     have y1:=HR7.out.cell (i:=1) rfl
     have y2:=HR7.out.cell (i:=2) rfl
     have y3:=HR7.out.cell (i:=3) rfl
     have y4:=HR7.out.cell (i:=4) rfl
     have y5:=HR7.out.cell (i:=5) rfl
     have y6:=HR7.out.cell (i:=6) rfl
     have y7:=HR7.out.cell (i:=7) rfl
     have y8:=HR7.out.cell (i:=8) rfl
     go_wp2_with fail
     have HF:=Lib.hid (set9_cel (v0:=.int .i64 0) (v1:=.int .i64 0) (v2:=.int .i64 0) (v3:=.int .i64 0) (v4:=.string ⟨#[]⟩) (v5:=.string ⟨#[]⟩) (v6:=.bool false) (v7:=.slice none 0 0) (v8:=.slice none 0 0) HR7.out)
     have z0:=HF.out.cell (i:=0) rfl
     have z1:=HF.out.cell (i:=1) rfl
     have z2:=HF.out.cell (i:=2) rfl
     have z3:=HF.out.cell (i:=3) rfl
     have z4:=HF.out.cell (i:=4) rfl
     have z5:=HF.out.cell (i:=5) rfl
     have z6:=HF.out.cell (i:=6) rfl
     have z7:=HF.out.cell (i:=7) rfl
     have z8:=HF.out.cell (i:=8) rfl
     unfold set9 at z0 z1 z2 z3 z4 z5 z6 z7 z8
     exact bodyPost_ret (v:=.tuple #[recV noRec none none 0 0,.int .i64 80]) (by simp [results,Tryz.results74,go_sem,recV,noRec,z0,z1,z2,z3,z4,z5,z6,z7,z8]) rfl (HMk.out _ _ HN.out (set9_below HB7.out (Nat.le_refl _)) rfl)
end Rc
end Go.Proofs.YtmidncclndongaaGreat
