/- Parts of the proof, joined: LtMay, RcDone2, RcDone3; their conditions stand with each. -/
import Derived.Test.YtlfkhlfkckfbpaaGreatC3
import Derived.Test.YtlfkhlfkckfbpaaGreatC6
import Derived.Test.YtlfkhlfkckfbpaaGreatC7

set_option maxRecDepth 20000
set_option maxHeartbeats 8000000
namespace Go.Proofs.YtlfkhlfkckfbpaaGreat
namespace Lt
open Go.RowKit Bk
attribute [local go_sem ↓] Go.wp_at_zero Go.wp_at_succ
attribute [local go_sem] floatUpon pick
theorem mayBe_any (A B:Option Addr) (c d:Nat) (l:Let) (w:World) (ha:StrsAt w A l.keys) (hb:WrsAt w B l.ws) (hr:LetRng l) :
  Calls Tryz.prog 212 #[letV l A B c d] w fun e w'=>e = .returned (.bool (okB l)) ∧ Below w.heap.size w w':=by
 have HRm:=Lib.hid (fun W=>roomOf_any l.kind W)
 have HA1:=Lib.hid (fun W=>isAddress_any l.src W)
 have HA2:=Lib.hid (fun W=>isAddress_any l.dst W)
 have HT:=Lib.hid (fun W=>within_any l.txn 1 1125899906842623 W)
 have HS:=Lib.hid (fun W=>within_any l.ts 0 1125899906842624 W)
 have HH:=Lib.hid (fun W (hbl:Below w.heap.size w W)=>holds_any (roomR l.kind).1 A B c d l W (ha.below hbl) (hb.below hbl) hr)
 have henv:=LtEnv.start (c:=c) (d:=d) ha hb
 have e0:=okB_parts l
 unfold letV at HH ⊢
 clear ha hb hr
 go_enter Tryz.func212,Tryz.ntmps212
 go_upto_region 1 with fail
 generalize w.alloc (.cells #[.int .i64 l.kind,.int .i64 l.src,.int .i64 l.dst,.int .i64 l.txn,.int .i64 l.ts,.int .i64 l.code,.string l.text,.slice A l.keys.length c,.slice B l.ws.length d] 270) = W1 at henv ⊢
 have k0:=henv.cel.cell (i:=0) rfl
 have HE:=Lib.hid henv
 clear henv
 generalize roomR l.kind = R at *
 obtain ⟨r,x0⟩:=R
 unfold rmV at HRm HH
 simp only at HRm HH e0
 go_wp2_with fail
 refine (HRm.out _).mono ?_
 rintro e w2 ⟨rfl,hb⟩
 have HE2:=Lib.hid (HE.out.step hb)
 clear hb HE HRm
 go_upto_region 2 with fail
 have hC:Cel (w2.alloc (.cells #[.int .i64 r.code,.int .i64 r.text,.int .i64 r.fewest,.int .i64 r.most,.int .i64 r.writes] 289)) w2.heap.size 289 [.int .i64 r.code,.int .i64 r.text,.int .i64 r.fewest,.int .i64 r.most,.int .i64 r.writes]:=(blk1 w2 _).2
 have henv:=HE2.out.step ((Below.refl _ w2).alloc (Nat.le_refl _) (.cells #[.int .i64 r.code,.int .i64 r.text,.int .i64 r.fewest,.int .i64 r.most,.int .i64 r.writes] 289))
 generalize w2.alloc (.cells #[.int .i64 r.code,.int .i64 r.text,.int .i64 r.fewest,.int .i64 r.most,.int .i64 r.writes] 289) = W3 at hC henv ⊢
 generalize w2.heap.size = g at hC ⊢
 have r0:=hC.cell (i:=0) rfl
 have r1:=hC.cell (i:=1) rfl
 have r2:=hC.cell (i:=2) rfl
 have r3:=hC.cell (i:=3) rfl
 have r4:=hC.cell (i:=4) rfl
 have k0:=henv.cel.cell (i:=0) rfl
 have k1:=henv.cel.cell (i:=1) rfl
 have k2:=henv.cel.cell (i:=2) rfl
 have k3:=henv.cel.cell (i:=3) rfl
 have k4:=henv.cel.cell (i:=4) rfl
 have k5:=henv.cel.cell (i:=5) rfl
 have k6:=henv.cel.cell (i:=6) rfl
 have k7:=henv.cel.cell (i:=7) rfl
 have k8:=henv.cel.cell (i:=8) rfl
 have HBl:=Lib.hid henv.bel
 clear hC henv HE2
 obtain ⟨x1,hx1⟩:∃ x,x = decide (addr l.src):=⟨_,rfl⟩
 obtain ⟨x2,hx2⟩:∃ x,x = decide (addr l.dst):=⟨_,rfl⟩
 obtain ⟨x3,hx3⟩:∃ x,x = (decide (1 ≤ l.txn) && decide (l.txn ≤ 1125899906842623)):=⟨_,rfl⟩
 obtain ⟨x4,hx4⟩:∃ x,x = (decide (0 ≤ l.ts) && decide (l.ts ≤ 1125899906842624)):=⟨_,rfl⟩
 rw [← hx1,← hx2,← hx3,← hx4] at e0
 rw [← hx1] at HA1
 rw [← hx2] at HA2
 rw [← hx3] at HT
 rw [← hx4] at HS
 clear hx1 hx2 hx3 hx4
 cases x0 with
 | false =>
  have E:=Lib.hid e0
  clear e0
  go_wp2_with fail
  go_ret
  exact ⟨by rw [E.out];rfl,HBl.out⟩
 | true =>
 cases x1 with
 | false =>
  have E:=Lib.hid e0
  clear e0
  go_wp2_with fail
  refine (HA1.out _).mono ?_
  rintro e w3 ⟨rfl,rfl⟩
  go_wp2_with fail
  go_ret
  exact ⟨by rw [E.out];rfl,HBl.out⟩
 | true =>
 cases x2 with
 | false =>
  have E:=Lib.hid e0
  clear e0
  go_wp2_with fail
  refine (HA1.out _).mono ?_
  rintro e w3 ⟨rfl,rfl⟩
  go_wp2_with fail
  refine (HA2.out _).mono ?_
  rintro e w3 ⟨rfl,rfl⟩
  go_wp2_with fail
  go_ret
  exact ⟨by rw [E.out];rfl,HBl.out⟩
 | true =>
 cases x3 with
 | false =>
  have E:=Lib.hid e0
  clear e0
  go_wp2_with fail
  refine (HA1.out _).mono ?_
  rintro e w3 ⟨rfl,rfl⟩
  go_wp2_with fail
  refine (HA2.out _).mono ?_
  rintro e w3 ⟨rfl,rfl⟩
  go_wp2_with fail
  refine (HT.out _).mono ?_
  rintro e w3 ⟨rfl,rfl⟩
  go_wp2_with fail
  go_ret
  exact ⟨by rw [E.out];rfl,HBl.out⟩
 | true =>
 cases x4 with
 | false =>
  have E:=Lib.hid e0
  clear e0
  go_wp2_with fail
  refine (HA1.out _).mono ?_
  rintro e w3 ⟨rfl,rfl⟩
  go_wp2_with fail
  refine (HA2.out _).mono ?_
  rintro e w3 ⟨rfl,rfl⟩
  go_wp2_with fail
  refine (HT.out _).mono ?_
  rintro e w3 ⟨rfl,rfl⟩
  go_wp2_with fail
  refine (HS.out _).mono ?_
  rintro e w3 ⟨rfl,rfl⟩
  go_wp2_with fail
  go_ret
  exact ⟨by rw [E.out];rfl,HBl.out⟩
 | true =>
  have E:=Lib.hid (show okB l = holdsB r l by rw [e0];simp)
  clear e0
  go_wp2_with fail
  refine (HA1.out _).mono ?_
  rintro e w3 ⟨rfl,rfl⟩
  go_wp2_with fail
  refine (HA2.out _).mono ?_
  rintro e w3 ⟨rfl,rfl⟩
  go_wp2_with fail
  refine (HT.out _).mono ?_
  rintro e w3 ⟨rfl,rfl⟩
  go_wp2_with fail
  refine (HS.out _).mono ?_
  rintro e w3 ⟨rfl,rfl⟩
  go_wp2_with fail
  refine (HH.out _ HBl.out).mono ?_
  rintro e w3 ⟨rfl,hb⟩
  have HB3:=Lib.hid (HBl.out.trans (hb.mono HBl.out.size))
  clear hb
  go_wp2_with fail
  go_ret
  exact ⟨by rw [E.out];rfl,HB3.out⟩
theorem lcheck_any (A B:Option Addr) (c d:Nat) (l:Let) (w:World) (ha:StrsAt w A l.keys) (hb:WrsAt w B l.ws) (hr:LetRng l) :
  Calls Tryz.prog 202 #[letV l A B c d] w fun e w'=>e = .returned (.int .i64 (ckN l:Int)) ∧ Below w.heap.size w w':=by
 have HM:=Lib.hid (fun W (hbl:Below w.heap.size w W)=>mayBe_any A B c d l W (ha.below hbl) (hb.below hbl) hr)
 have henv:=LtEnv.start (c:=c) (d:=d) ha hb
 have e0:ckN l = if okB l then 0 else 70:=by
  unfold ckN
  by_cases h:LetOk l
  ·rw [if_pos h,okB_true h];rfl
  ·rw [if_neg h,okB_false h];rfl
 unfold letV at HM ⊢
 clear ha hb hr
 go_enter Tryz.func202,Tryz.ntmps202
 go_upto_region 1 with fail
 generalize w.alloc (.cells #[.int .i64 l.kind,.int .i64 l.src,.int .i64 l.dst,.int .i64 l.txn,.int .i64 l.ts,.int .i64 l.code,.string l.text,.slice A l.keys.length c,.slice B l.ws.length d] 270) = W1 at henv ⊢
 have k0:=henv.cel.cell (i:=0) rfl
 have k1:=henv.cel.cell (i:=1) rfl
 have k2:=henv.cel.cell (i:=2) rfl
 have k3:=henv.cel.cell (i:=3) rfl
 have k4:=henv.cel.cell (i:=4) rfl
 have k5:=henv.cel.cell (i:=5) rfl
 have k6:=henv.cel.cell (i:=6) rfl
 have k7:=henv.cel.cell (i:=7) rfl
 have k8:=henv.cel.cell (i:=8) rfl
 have HBl:=Lib.hid henv.bel
 clear henv
 generalize okB l = bb at *
 cases bb with
 | false =>
  have E:=Lib.hid e0
  clear e0
  go_wp2_with fail
  refine (HM.out _ HBl.out).mono ?_
  rintro e w3 ⟨rfl,hb⟩
  have HB3:=Lib.hid (HBl.out.trans (hb.mono HBl.out.size))
  clear hb
  go_wp2_with fail
  go_ret
  exact ⟨by rw [E.out];rfl,HB3.out⟩
 | true =>
  have E:=Lib.hid e0
  clear e0
  go_wp2_with fail
  refine (HM.out _ HBl.out).mono ?_
  rintro e w3 ⟨rfl,hb⟩
  have HB3:=Lib.hid (HBl.out.trans (hb.mono HBl.out.size))
  clear hb
  go_wp2_with fail
  go_ret
  exact ⟨by rw [E.out];rfl,HB3.out⟩
end Lt
end Go.Proofs.YtlfkhlfkckfbpaaGreat
namespace Go.Proofs.YtlfkhlfkckfbpaaGreat
namespace Rc
open Go.RowKit Bk Lt
attribute [local go_sem ↓] Go.wp_at_zero Go.wp_at_succ
attribute [local go_sem] floatUpon pick
def prepL (ks:List ByteArray) (ws:List Wr):Let:=⟨3,0,0,1125899906842623,0,0,⟨#[]⟩,ks,ws⟩
noncomputable def prepB (ks:List ByteArray) (ws:List Wr):Bool:=Lt.okB (prepL ks ws)
theorem prep_iff (ks:List ByteArray) (ws:List Wr):prepB ks ws = true ↔ ks.length ≤ 16 ∧ Rises ks ∧ WritesOk ws:=by
 unfold prepB
 constructor
 ·intro h
  have h2:LetOk (prepL ks ws):=Classical.byContradiction fun hn=>by rw [Lt.okB_false hn] at h;cases h
  obtain ⟨_,hk⟩:=h2
  obtain ⟨k1,k2,k3,_,_⟩:=(Lt.kind_3 (l:=prepL ks ws) rfl).1 hk
  exact ⟨k1,k2,k3⟩
 ·rintro ⟨h1,h2,h3⟩
  refine Lt.okB_true ⟨⟨?_,?_,?_,?_,?_,?_⟩,(Lt.kind_3 (l:=prepL ks ws) rfl).2 ⟨h1,h2,h3,rfl,rfl⟩⟩
  ·show addr 0;decide
  ·show addr 0;decide
  ·show txnOk 1125899906842623;decide
  ·show stampOk 0;decide
  ·show (0:Int) ≤ 0;decide
  ·show (0:Int) ≤ 4;decide
theorem prep_one (k t:ByteArray) (d:Bool):prepB [] [⟨k,t,d⟩] = true ↔ keyOk k ∧ t.size ≤ 2052 ∧ (d = false ∨ t = ⟨#[]⟩):=by
 rw [prep_iff]
 unfold WritesOk wrOk
 constructor
 ·rintro ⟨_,_,_,h2,h3⟩
  obtain ⟨h4,h5⟩:=h2 _ (List.mem_singleton.2 rfl)
  refine ⟨Lt.rises_one.1 h3,h4,?_⟩
  cases d with
  | false=>exact .inl rfl
  | true=>exact .inr (Classical.byContradiction fun h=>h5 ⟨rfl,h⟩)
 ·rintro ⟨h1,h2,h3⟩
  refine ⟨by simp,Rises.nil,by simp,fun x hx=>?_,Lt.rises_one.2 h1⟩
  rw [List.mem_singleton] at hx
  subst hx
  refine ⟨h2,fun h=>?_⟩
  rcases h3 with h3 | h3
  ·have:=h.1;rw [h3] at this;cases this
  ·exact h.2 h3
theorem prep_rng {ks:List ByteArray} {ws:List Wr} (h1:ks.length * 16 ≤ reachBytes) (h2:ws.length * 16 ≤ reachBytes) (h3:∀ s ∈ ks,s.size ≤ reachBytes) (h4:∀ x ∈ ws,x.key.size ≤ reachBytes ∧ x.shard.size ≤ reachBytes):LetRng (prepL ks ws):=by
 refine ⟨?_,?_,?_,?_,?_,?_,Nat.zero_le _,h1,h2,h3,h4⟩ <;> (simp only [prepL];omega)
theorem asPrepared_any (A B:Option Addr) (c d:Nat) (ks:List ByteArray) (ws:List Wr) (w:World) (ha:StrsAt w A ks) (hb:WrsAt w B ws) (h1:ks.length * 16 ≤ reachBytes) (h2:ws.length * 16 ≤ reachBytes) (h3:∀ s ∈ ks,s.size ≤ reachBytes) (h4:∀ x ∈ ws,x.key.size ≤ reachBytes ∧ x.shard.size ≤ reachBytes) :
  Calls Tryz.prog 178 #[.slice A ks.length c,.slice B ws.length d] w fun e w'=>e = .returned (.bool (prepB ks ws)) ∧ Below w.heap.size w w':=by
 have hC:=fun W (hbl:Below w.heap.size w W)=>lcheck_any A B c d (prepL ks ws) W (ha.below hbl) (hb.below hbl) (prep_rng h1 h2 h3 h4)
 have hE:(((Lt.ckN (prepL ks ws):Nat):Int) == 0) = prepB ks ws:=by
  unfold prepB
  by_cases h:LetOk (prepL ks ws)
  ·rw [Lt.ckN_of h,Lt.okB_true h];rfl
  ·rw [Lt.ckN_not h,Lt.okB_false h];rfl
 generalize ((Lt.ckN (prepL ks ws):Nat):Int) = n at hC hE
 generalize prepB ks ws = b at hE ⊢
 unfold letV prepL at hC
 simp only at hC
 have HC:=Lib.hid hC
 clear hC ha hb h1 h2 h3 h4
 go_enter Tryz.func178,Tryz.ntmps178
 go_upto_region 2 with fail
 have hB1:Below w.heap.size w (w.alloc (.cells #[.int .i64 3,.int .i64 0,.int .i64 0,.int .i64 1125899906842623,.int .i64 0,.int .i64 0,.string ⟨#[]⟩,.slice A ks.length c,.slice B ws.length d] 270)):=(Below.refl _ w).alloc (Nat.le_refl _) _
 have hP1:Cel (w.alloc (.cells #[.int .i64 3,.int .i64 0,.int .i64 0,.int .i64 1125899906842623,.int .i64 0,.int .i64 0,.string ⟨#[]⟩,.slice A ks.length c,.slice B ws.length d] 270)) w.heap.size 270 [.int .i64 3,.int .i64 0,.int .i64 0,.int .i64 1125899906842623,.int .i64 0,.int .i64 0,.string ⟨#[]⟩,.slice A ks.length c,.slice B ws.length d]:=(blk1 w _).2
 generalize w.alloc (.cells #[.int .i64 3,.int .i64 0,.int .i64 0,.int .i64 1125899906842623,.int .i64 0,.int .i64 0,.string ⟨#[]⟩,.slice A ks.length c,.slice B ws.length d] 270) = W1 at hB1 hP1 ⊢
 have k0:=hP1.cell (i:=0) rfl
 have k1:=hP1.cell (i:=1) rfl
 have k2:=hP1.cell (i:=2) rfl
 have k3:=hP1.cell (i:=3) rfl
 have k4:=hP1.cell (i:=4) rfl
 have k5:=hP1.cell (i:=5) rfl
 have k6:=hP1.cell (i:=6) rfl
 have k7:=hP1.cell (i:=7) rfl
 have k8:=hP1.cell (i:=8) rfl
 have HB1:=Lib.hid hB1
 clear hB1 hP1
 go_wp2_with fail
 refine (HC.out _ HB1.out).mono ?_
 rintro e w2 ⟨rfl,hb⟩
 have HB2:=Lib.hid (HB1.out.trans (hb.mono HB1.out.size))
 clear hb HC
 go_wp2_with fail
 go_ret
 exact ⟨by rw [← hE];rfl,HB2.out⟩
noncomputable def must (r:Rec):Bool :=
 if r.kind = 1 then (r.txn != 0) && prepB r.keys r.ws else
 if r.kind = 2 ∨ r.kind = 6 then r.txn != 0 else
 if r.kind = 3 then (r.ts != 0) && prepB [] [⟨r.key,r.text,r.dead⟩] else
 if r.kind = 5 then (r.txn != 0) && (r.ts != 0) else
 if r.kind = 7 then r.ts != 0 else true
theorem one_wr {W:World} {g:Nat} {k t:ByteArray} {d:Bool} (h:Cel W g 139 [.string k,.string t,.bool d]):WrsAt W (some ⟨g,0,none⟩) [⟨k,t,d⟩]:=fun _=>by
 refine ⟨_,rfl,h.lt,fun i hi=>?_⟩
 have hi2:i < 1:=hi
 obtain rfl:i = 0:=by omega
 rw [add_zero',show (⟨g,0,none⟩:Addr).add (0 * 3 + 1) = ⟨g,1,none⟩ from rfl,show (⟨g,0,none⟩:Addr).add (0 * 3 + 2) = ⟨g,2,none⟩ from rfl]
 exact ⟨h.cell (i:=0) rfl,h.cell (i:=1) rfl,h.cell (i:=2) rfl⟩
theorem must_1 (A B:Option Addr) (c d:Nat) (r:Rec) (hk:r.kind = 1) (w:World) (ha:StrsAt w A r.keys) (hb:WrsAt w B r.ws) (hr:RecRng r) :
  Calls Tryz.prog 129 #[recV r A B c d] w fun e w'=>e = .returned (.bool (must r)) ∧ Below w.heap.size w w':=by
 have E:=Lib.hid (show must r = ((r.txn != 0) && prepB r.keys r.ws) from by unfold must;simp [hk])
 rw [E.out]
 have HP:=Lib.hid (fun W (hbl:Below w.heap.size w W)=>asPrepared_any A B c d r.keys r.ws W (ha.below hbl) (hb.below hbl) hr.k16 (by have:=hr.w40;omega) hr.kr hr.wr)
 unfold recV
 rw [hk]
 clear ha hb hr hk E
 go_enter Tryz.func129,Tryz.ntmps129
 go_upto_region 1 with fail
 have hB1:Below w.heap.size w (w.alloc (.cells #[.int .i64 1,.int .i64 r.txn,.int .i64 r.ts,.int .i64 r.coord,.string r.key,.string r.text,.bool r.dead,.slice A r.keys.length c,.slice B r.ws.length d] 60)):=(Below.refl _ w).alloc (Nat.le_refl _) _
 have hP1:Cel (w.alloc (.cells #[.int .i64 1,.int .i64 r.txn,.int .i64 r.ts,.int .i64 r.coord,.string r.key,.string r.text,.bool r.dead,.slice A r.keys.length c,.slice B r.ws.length d] 60)) w.heap.size 60 [.int .i64 1,.int .i64 r.txn,.int .i64 r.ts,.int .i64 r.coord,.string r.key,.string r.text,.bool r.dead,.slice A r.keys.length c,.slice B r.ws.length d]:=(blk1 w _).2
 generalize w.alloc (.cells #[.int .i64 1,.int .i64 r.txn,.int .i64 r.ts,.int .i64 r.coord,.string r.key,.string r.text,.bool r.dead,.slice A r.keys.length c,.slice B r.ws.length d] 60) = W1 at hB1 hP1 ⊢
 have k0:=hP1.cell (i:=0) rfl
 have k1:=hP1.cell (i:=1) rfl
 have k2:=hP1.cell (i:=2) rfl
 have k3:=hP1.cell (i:=3) rfl
 have k4:=hP1.cell (i:=4) rfl
 have k5:=hP1.cell (i:=5) rfl
 have k6:=hP1.cell (i:=6) rfl
 have k7:=hP1.cell (i:=7) rfl
 have k8:=hP1.cell (i:=8) rfl
 have HB1:=Lib.hid hB1
 have HP1:=Lib.hid hP1
 clear hB1 hP1
 by_cases h0:r.txn = 0
 ·have q0:(r.txn != 0) = false:=by simp [h0]
  have E:=Lib.hid q0
  clear h0
  go_wp2_with fail
  go_ret
  exact ⟨by rw [E.out];rfl,HB1.out⟩
 ·have q0:(r.txn != 0) = true:=by simp [h0]
  have E:=Lib.hid q0
  clear h0
  go_wp2_with fail
  refine (HP.out _ HB1.out).mono ?_
  rintro e w2 ⟨rfl,hb⟩
  have HB2:=Lib.hid (HB1.out.trans (hb.mono HB1.out.size))
  clear hb HP
  go_wp2_with fail
  go_ret
  exact ⟨by rw [E.out,Bool.true_and];rfl,HB2.out⟩
theorem must_2 (A B:Option Addr) (c d:Nat) (r:Rec) (hk:r.kind = 2) (w:World) :
  Calls Tryz.prog 129 #[recV r A B c d] w fun e w'=>e = .returned (.bool (must r)) ∧ Below w.heap.size w w':=by
 have E:=Lib.hid (show must r = (r.txn != 0) from by unfold must;simp [hk])
 rw [E.out]
 unfold recV
 rw [hk]
 clear hk E
 go_enter Tryz.func129,Tryz.ntmps129
 go_upto_region 1 with fail
 have hB1:Below w.heap.size w (w.alloc (.cells #[.int .i64 2,.int .i64 r.txn,.int .i64 r.ts,.int .i64 r.coord,.string r.key,.string r.text,.bool r.dead,.slice A r.keys.length c,.slice B r.ws.length d] 60)):=(Below.refl _ w).alloc (Nat.le_refl _) _
 have hP1:Cel (w.alloc (.cells #[.int .i64 2,.int .i64 r.txn,.int .i64 r.ts,.int .i64 r.coord,.string r.key,.string r.text,.bool r.dead,.slice A r.keys.length c,.slice B r.ws.length d] 60)) w.heap.size 60 [.int .i64 2,.int .i64 r.txn,.int .i64 r.ts,.int .i64 r.coord,.string r.key,.string r.text,.bool r.dead,.slice A r.keys.length c,.slice B r.ws.length d]:=(blk1 w _).2
 generalize w.alloc (.cells #[.int .i64 2,.int .i64 r.txn,.int .i64 r.ts,.int .i64 r.coord,.string r.key,.string r.text,.bool r.dead,.slice A r.keys.length c,.slice B r.ws.length d] 60) = W1 at hB1 hP1 ⊢
 have k0:=hP1.cell (i:=0) rfl
 have k1:=hP1.cell (i:=1) rfl
 have k2:=hP1.cell (i:=2) rfl
 have k3:=hP1.cell (i:=3) rfl
 have k4:=hP1.cell (i:=4) rfl
 have k5:=hP1.cell (i:=5) rfl
 have k6:=hP1.cell (i:=6) rfl
 have k7:=hP1.cell (i:=7) rfl
 have k8:=hP1.cell (i:=8) rfl
 have HB1:=Lib.hid hB1
 have HP1:=Lib.hid hP1
 clear hB1 hP1
 by_cases h0:r.txn = 0
 ·have q0:(r.txn != 0) = false:=by simp [h0]
  have E:=Lib.hid q0
  clear h0
  go_wp2_with fail
  go_ret
  exact ⟨by rw [E.out];rfl,HB1.out⟩
 ·have q0:(r.txn != 0) = true:=by simp [h0]
  have E:=Lib.hid q0
  clear h0
  go_wp2_with fail
  go_ret
  exact ⟨by rw [E.out];rfl,HB1.out⟩
theorem must_6 (A B:Option Addr) (c d:Nat) (r:Rec) (hk:r.kind = 6) (w:World) :
  Calls Tryz.prog 129 #[recV r A B c d] w fun e w'=>e = .returned (.bool (must r)) ∧ Below w.heap.size w w':=by
 have E:=Lib.hid (show must r = (r.txn != 0) from by unfold must;simp [hk])
 rw [E.out]
 unfold recV
 rw [hk]
 clear hk E
 go_enter Tryz.func129,Tryz.ntmps129
 go_upto_region 1 with fail
 have hB1:Below w.heap.size w (w.alloc (.cells #[.int .i64 6,.int .i64 r.txn,.int .i64 r.ts,.int .i64 r.coord,.string r.key,.string r.text,.bool r.dead,.slice A r.keys.length c,.slice B r.ws.length d] 60)):=(Below.refl _ w).alloc (Nat.le_refl _) _
 have hP1:Cel (w.alloc (.cells #[.int .i64 6,.int .i64 r.txn,.int .i64 r.ts,.int .i64 r.coord,.string r.key,.string r.text,.bool r.dead,.slice A r.keys.length c,.slice B r.ws.length d] 60)) w.heap.size 60 [.int .i64 6,.int .i64 r.txn,.int .i64 r.ts,.int .i64 r.coord,.string r.key,.string r.text,.bool r.dead,.slice A r.keys.length c,.slice B r.ws.length d]:=(blk1 w _).2
 generalize w.alloc (.cells #[.int .i64 6,.int .i64 r.txn,.int .i64 r.ts,.int .i64 r.coord,.string r.key,.string r.text,.bool r.dead,.slice A r.keys.length c,.slice B r.ws.length d] 60) = W1 at hB1 hP1 ⊢
 have k0:=hP1.cell (i:=0) rfl
 have k1:=hP1.cell (i:=1) rfl
 have k2:=hP1.cell (i:=2) rfl
 have k3:=hP1.cell (i:=3) rfl
 have k4:=hP1.cell (i:=4) rfl
 have k5:=hP1.cell (i:=5) rfl
 have k6:=hP1.cell (i:=6) rfl
 have k7:=hP1.cell (i:=7) rfl
 have k8:=hP1.cell (i:=8) rfl
 have HB1:=Lib.hid hB1
 have HP1:=Lib.hid hP1
 clear hB1 hP1
 by_cases h0:r.txn = 0
 ·have q0:(r.txn != 0) = false:=by simp [h0]
  have E:=Lib.hid q0
  clear h0
  go_wp2_with fail
  go_ret
  exact ⟨by rw [E.out];rfl,HB1.out⟩
 ·have q0:(r.txn != 0) = true:=by simp [h0]
  have E:=Lib.hid q0
  clear h0
  go_wp2_with fail
  go_ret
  exact ⟨by rw [E.out];rfl,HB1.out⟩
theorem must_3 (A B:Option Addr) (c d:Nat) (r:Rec) (hk:r.kind = 3) (w:World) (hr:RecRng r) :
  Calls Tryz.prog 129 #[recV r A B c d] w fun e w'=>e = .returned (.bool (must r)) ∧ Below w.heap.size w w':=by
 have E:=Lib.hid (show must r = ((r.ts != 0) && prepB [] [⟨r.key,r.text,r.dead⟩]) from by unfold must;simp [hk])
 rw [E.out]
 have hP:∀ W g,Cel W g 139 [.string r.key,.string r.text,.bool r.dead] → Calls Tryz.prog 178 #[.slice none 0 0,.slice (some ⟨g,0,none⟩) 1 1] W fun e w'=>e = .returned (.bool (prepB [] [⟨r.key,r.text,r.dead⟩])) ∧ Below W.heap.size W w':=fun W g hc =>
  asPrepared_any none (some ⟨g,0,none⟩) 0 1 [] [⟨r.key,r.text,r.dead⟩] W (fun h=>absurd h (by simp)) (one_wr hc) (Nat.zero_le _) (by show 1 * 16 ≤ _;unfold reachBytes;omega) (fun s h=>absurd h (by simp)) (fun x hx=>by rw [List.mem_singleton] at hx;subst hx;exact ⟨hr.key,hr.text⟩)
 have HP:=Lib.hid hP
 clear hP
 unfold recV
 rw [hk]
 clear hr hk E
 go_enter Tryz.func129,Tryz.ntmps129
 go_upto_region 1 with fail
 have hB1:Below w.heap.size w (w.alloc (.cells #[.int .i64 3,.int .i64 r.txn,.int .i64 r.ts,.int .i64 r.coord,.string r.key,.string r.text,.bool r.dead,.slice A r.keys.length c,.slice B r.ws.length d] 60)):=(Below.refl _ w).alloc (Nat.le_refl _) _
 have hP1:Cel (w.alloc (.cells #[.int .i64 3,.int .i64 r.txn,.int .i64 r.ts,.int .i64 r.coord,.string r.key,.string r.text,.bool r.dead,.slice A r.keys.length c,.slice B r.ws.length d] 60)) w.heap.size 60 [.int .i64 3,.int .i64 r.txn,.int .i64 r.ts,.int .i64 r.coord,.string r.key,.string r.text,.bool r.dead,.slice A r.keys.length c,.slice B r.ws.length d]:=(blk1 w _).2
 generalize w.alloc (.cells #[.int .i64 3,.int .i64 r.txn,.int .i64 r.ts,.int .i64 r.coord,.string r.key,.string r.text,.bool r.dead,.slice A r.keys.length c,.slice B r.ws.length d] 60) = W1 at hB1 hP1 ⊢
 have k0:=hP1.cell (i:=0) rfl
 have k1:=hP1.cell (i:=1) rfl
 have k2:=hP1.cell (i:=2) rfl
 have k3:=hP1.cell (i:=3) rfl
 have k4:=hP1.cell (i:=4) rfl
 have k5:=hP1.cell (i:=5) rfl
 have k6:=hP1.cell (i:=6) rfl
 have k7:=hP1.cell (i:=7) rfl
 have k8:=hP1.cell (i:=8) rfl
 have HB1:=Lib.hid hB1
 have HP1:=Lib.hid hP1
 clear hB1 hP1
 by_cases h0:r.ts = 0
 ·have q0:(r.ts != 0) = false:=by simp [h0]
  have E:=Lib.hid q0
  clear h0
  go_wp2_with fail
  go_ret
  exact ⟨by rw [E.out];rfl,HB1.out⟩
 ·have q0:(r.ts != 0) = true:=by simp [h0]
  have E:=Lib.hid q0
  clear h0
  go_wp2_with fail
  refine (HP.out _ _ (blk1 W1 _).2).mono ?_
  rintro e w2 ⟨rfl,hb⟩
  have HB2:=Lib.hid ((HB1.out.alloc HB1.out.size _).trans (hb.mono (HB1.out.alloc HB1.out.size _).size))
  clear hb HP
  go_wp2_with fail
  go_ret
  exact ⟨by rw [E.out,Bool.true_and];rfl,HB2.out⟩
theorem must_5 (A B:Option Addr) (c d:Nat) (r:Rec) (hk:r.kind = 5) (w:World) :
  Calls Tryz.prog 129 #[recV r A B c d] w fun e w'=>e = .returned (.bool (must r)) ∧ Below w.heap.size w w':=by
 have E:=Lib.hid (show must r = ((r.txn != 0) && (r.ts != 0)) from by unfold must;simp [hk])
 rw [E.out]
 unfold recV
 rw [hk]
 clear hk E
 go_enter Tryz.func129,Tryz.ntmps129
 go_upto_region 1 with fail
 have hB1:Below w.heap.size w (w.alloc (.cells #[.int .i64 5,.int .i64 r.txn,.int .i64 r.ts,.int .i64 r.coord,.string r.key,.string r.text,.bool r.dead,.slice A r.keys.length c,.slice B r.ws.length d] 60)):=(Below.refl _ w).alloc (Nat.le_refl _) _
 have hP1:Cel (w.alloc (.cells #[.int .i64 5,.int .i64 r.txn,.int .i64 r.ts,.int .i64 r.coord,.string r.key,.string r.text,.bool r.dead,.slice A r.keys.length c,.slice B r.ws.length d] 60)) w.heap.size 60 [.int .i64 5,.int .i64 r.txn,.int .i64 r.ts,.int .i64 r.coord,.string r.key,.string r.text,.bool r.dead,.slice A r.keys.length c,.slice B r.ws.length d]:=(blk1 w _).2
 generalize w.alloc (.cells #[.int .i64 5,.int .i64 r.txn,.int .i64 r.ts,.int .i64 r.coord,.string r.key,.string r.text,.bool r.dead,.slice A r.keys.length c,.slice B r.ws.length d] 60) = W1 at hB1 hP1 ⊢
 have k0:=hP1.cell (i:=0) rfl
 have k1:=hP1.cell (i:=1) rfl
 have k2:=hP1.cell (i:=2) rfl
 have k3:=hP1.cell (i:=3) rfl
 have k4:=hP1.cell (i:=4) rfl
 have k5:=hP1.cell (i:=5) rfl
 have k6:=hP1.cell (i:=6) rfl
 have k7:=hP1.cell (i:=7) rfl
 have k8:=hP1.cell (i:=8) rfl
 have HB1:=Lib.hid hB1
 have HP1:=Lib.hid hP1
 clear hB1 hP1
 by_cases h0:r.txn = 0
 ·have q0:(r.txn != 0) = false:=by simp [h0]
  have E:=Lib.hid q0
  clear h0
  go_wp2_with fail
  go_ret
  exact ⟨by rw [E.out];rfl,HB1.out⟩
 ·have q0:(r.txn != 0) = true:=by simp [h0]
  have E:=Lib.hid q0
  clear h0
  have E2:=E
  clear E
  by_cases h1:r.ts = 0
  ·have q1:(r.ts != 0) = false:=by simp [h1]
   have E:=Lib.hid q1
   clear h1
   go_wp2_with fail
   go_ret
   exact ⟨by rw [E.out,E2.out];rfl,HB1.out⟩
  ·have q1:(r.ts != 0) = true:=by simp [h1]
   have E:=Lib.hid q1
   clear h1
   go_wp2_with fail
   go_ret
   exact ⟨by rw [E.out,E2.out];rfl,HB1.out⟩
theorem must_7 (A B:Option Addr) (c d:Nat) (r:Rec) (hk:r.kind = 7) (w:World) :
  Calls Tryz.prog 129 #[recV r A B c d] w fun e w'=>e = .returned (.bool (must r)) ∧ Below w.heap.size w w':=by
 have E:=Lib.hid (show must r = (r.ts != 0) from by unfold must;simp [hk])
 rw [E.out]
 unfold recV
 rw [hk]
 clear hk E
 go_enter Tryz.func129,Tryz.ntmps129
 go_upto_region 1 with fail
 have hB1:Below w.heap.size w (w.alloc (.cells #[.int .i64 7,.int .i64 r.txn,.int .i64 r.ts,.int .i64 r.coord,.string r.key,.string r.text,.bool r.dead,.slice A r.keys.length c,.slice B r.ws.length d] 60)):=(Below.refl _ w).alloc (Nat.le_refl _) _
 have hP1:Cel (w.alloc (.cells #[.int .i64 7,.int .i64 r.txn,.int .i64 r.ts,.int .i64 r.coord,.string r.key,.string r.text,.bool r.dead,.slice A r.keys.length c,.slice B r.ws.length d] 60)) w.heap.size 60 [.int .i64 7,.int .i64 r.txn,.int .i64 r.ts,.int .i64 r.coord,.string r.key,.string r.text,.bool r.dead,.slice A r.keys.length c,.slice B r.ws.length d]:=(blk1 w _).2
 generalize w.alloc (.cells #[.int .i64 7,.int .i64 r.txn,.int .i64 r.ts,.int .i64 r.coord,.string r.key,.string r.text,.bool r.dead,.slice A r.keys.length c,.slice B r.ws.length d] 60) = W1 at hB1 hP1 ⊢
 have k0:=hP1.cell (i:=0) rfl
 have k1:=hP1.cell (i:=1) rfl
 have k2:=hP1.cell (i:=2) rfl
 have k3:=hP1.cell (i:=3) rfl
 have k4:=hP1.cell (i:=4) rfl
 have k5:=hP1.cell (i:=5) rfl
 have k6:=hP1.cell (i:=6) rfl
 have k7:=hP1.cell (i:=7) rfl
 have k8:=hP1.cell (i:=8) rfl
 have HB1:=Lib.hid hB1
 have HP1:=Lib.hid hP1
 clear hB1 hP1
 by_cases h0:r.ts = 0
 ·have q0:(r.ts != 0) = false:=by simp [h0]
  have E:=Lib.hid q0
  clear h0
  go_wp2_with fail
  go_ret
  exact ⟨by rw [E.out];rfl,HB1.out⟩
 ·have q0:(r.ts != 0) = true:=by simp [h0]
  have E:=Lib.hid q0
  clear h0
  go_wp2_with fail
  go_ret
  exact ⟨by rw [E.out];rfl,HB1.out⟩
theorem must_no (A B:Option Addr) (c d:Nat) (r:Rec) (hk:r.kind ≠ 1 ∧ r.kind ≠ 2 ∧ r.kind ≠ 3 ∧ r.kind ≠ 5 ∧ r.kind ≠ 6 ∧ r.kind ≠ 7) (w:World) :
  Calls Tryz.prog 129 #[recV r A B c d] w fun e w'=>e = .returned (.bool (must r)) ∧ Below w.heap.size w w':=by
 have E:=Lib.hid (show must r = true from by unfold must;simp [hk])
 rw [E.out]
 obtain ⟨h1,h2,h3,h5,h6,h7⟩:=hk
 have q1:(r.kind == 1) = false:=by simpa using h1
 have q2:(r.kind == 2) = false:=by simpa using h2
 have q3:(r.kind == 3) = false:=by simpa using h3
 have q5:(r.kind == 5) = false:=by simpa using h5
 have q6:(r.kind == 6) = false:=by simpa using h6
 have q7:(r.kind == 7) = false:=by simpa using h7
 clear h1 h2 h3 h5 h6 h7 E
 unfold recV
 go_enter Tryz.func129,Tryz.ntmps129
 go_upto_region 1 with fail
 have hB1:Below w.heap.size w (w.alloc (.cells #[.int .i64 r.kind,.int .i64 r.txn,.int .i64 r.ts,.int .i64 r.coord,.string r.key,.string r.text,.bool r.dead,.slice A r.keys.length c,.slice B r.ws.length d] 60)):=(Below.refl _ w).alloc (Nat.le_refl _) _
 have hP1:Cel (w.alloc (.cells #[.int .i64 r.kind,.int .i64 r.txn,.int .i64 r.ts,.int .i64 r.coord,.string r.key,.string r.text,.bool r.dead,.slice A r.keys.length c,.slice B r.ws.length d] 60)) w.heap.size 60 [.int .i64 r.kind,.int .i64 r.txn,.int .i64 r.ts,.int .i64 r.coord,.string r.key,.string r.text,.bool r.dead,.slice A r.keys.length c,.slice B r.ws.length d]:=(blk1 w _).2
 generalize w.alloc (.cells #[.int .i64 r.kind,.int .i64 r.txn,.int .i64 r.ts,.int .i64 r.coord,.string r.key,.string r.text,.bool r.dead,.slice A r.keys.length c,.slice B r.ws.length d] 60) = W1 at hB1 hP1 ⊢
 have k0:=hP1.cell (i:=0) rfl
 have k1:=hP1.cell (i:=1) rfl
 have k2:=hP1.cell (i:=2) rfl
 have k3:=hP1.cell (i:=3) rfl
 have k4:=hP1.cell (i:=4) rfl
 have k5:=hP1.cell (i:=5) rfl
 have k6:=hP1.cell (i:=6) rfl
 have k7:=hP1.cell (i:=7) rfl
 have k8:=hP1.cell (i:=8) rfl
 have HB1:=Lib.hid hB1
 have HP1:=Lib.hid hP1
 clear hB1 hP1
 go_wp2_with fail
 go_ret
 exact ⟨rfl,HB1.out⟩
theorem must_any (A B:Option Addr) (c d:Nat) (r:Rec) (w:World) (ha:StrsAt w A r.keys) (hb:WrsAt w B r.ws) (hr:RecRng r) :
  Calls Tryz.prog 129 #[recV r A B c d] w fun e w'=>e = .returned (.bool (must r)) ∧ Below w.heap.size w w':=by
 by_cases h1:r.kind = 1
 ·exact must_1 A B c d r h1 w ha hb hr
 by_cases h2:r.kind = 2
 ·exact must_2 A B c d r h2 w
 by_cases h3:r.kind = 3
 ·exact must_3 A B c d r h3 w hr
 by_cases h5:r.kind = 5
 ·exact must_5 A B c d r h5 w
 by_cases h6:r.kind = 6
 ·exact must_6 A B c d r h6 w
 by_cases h7:r.kind = 7
 ·exact must_7 A B c d r h7 w
 exact must_no A B c d r ⟨h1,h2,h3,h5,h6,h7⟩ w
def eqZ (u:Fl):Bool:=u.kind == 0 && (u.txn == 0 && (u.ts == 0 && (u.coord == 0 && (u.key.toList == (⟨#[]⟩:ByteArray).toList && (u.text.toList == (⟨#[]⟩:ByteArray).toList && (u.dead == false && (u.keys == 0 && u.writes == 0)))))))
theorem text_iff (s:ByteArray):(s.toList == (⟨#[]⟩:ByteArray).toList) = true ↔ s = ⟨#[]⟩:=by
 constructor
 ·intro h
  refine Classical.byContradiction fun hn=>?_
  rw [text_ne hn] at h;cases h
 ·intro h;rw [h];exact text_eq _
theorem eqZ_iff (u:Fl):eqZ u = true ↔ u.kind = 0 ∧ u.txn = 0 ∧ u.ts = 0 ∧ u.coord = 0 ∧ u.key = ⟨#[]⟩ ∧ u.text = ⟨#[]⟩ ∧ u.dead = false ∧ u.keys = 0 ∧ u.writes = 0:=by
 unfold eqZ
 simp only [Bool.and_eq_true,beq_iff_eq]
 simp only [← text_iff,beq_iff_eq]
theorem eql_flat (u:Fl) (W:World):(binOp .eql 199 (flV u) (flV flZ)).run Tryz.prog W = .ok (.bool (eqZ u)) W:=by
 have u3:=Tryz.underlying3
 have u9:=Tryz.underlying9
 have u4:=Tryz.underlying4
 have hS:Tryz.prog.underlying 199 = some (.struct (Tryz.prog.fieldsOf 199)):=by kernel_rfl
 have hp:Tryz.prog.stoodInHeld 199 = false:=by kernel_rfl
 have hE:=eqZ_iff u
 unfold flV flZ
 rw [run_eql_struct,show (10000:Nat) = 9999 + 1 from rfl,run_equalIn_agg W 9999 199 _ _ hS hp]
 simp only [Program.fieldsOf,Tryz.underlying199]
 have hno:(¬ (u.kind = 0 ∧ u.txn = 0 ∧ u.ts = 0 ∧ u.coord = 0 ∧ u.key = ⟨#[]⟩ ∧ u.text = ⟨#[]⟩ ∧ u.dead = false ∧ u.keys = 0 ∧ u.writes = 0)) → eqZ u = false:=fun h=>Bool.eq_false_iff.2 (fun h2=>h (hE.1 h2))
 have hyes:=hE.2
 generalize eqZ u = z at hno hyes ⊢
 clear hE
 obtain ⟨kd,tn,ts,co,ky,tt,dd,ks,ws⟩:=u
 simp only at hno hyes ⊢
 by_cases h0:kd = 0
 case neg=>rw [hno (fun h=>h0 h.1)];clear hno hyes;go_simp
 by_cases h1:tn = 0
 case neg=>rw [hno (fun h=>h1 h.2.1)];clear hno hyes;go_simp
 by_cases h2:ts = 0
 case neg=>rw [hno (fun h=>h2 h.2.2.1)];clear hno hyes;go_simp
 by_cases h3:co = 0
 case neg=>rw [hno (fun h=>h3 h.2.2.2.1)];clear hno hyes;go_simp
 by_cases h4:ky = ⟨#[]⟩
 case neg =>
  rw [hno (fun h=>h4 h.2.2.2.2.1)]
  have t0:=text_ne h4
  have t1:¬ ky.toList = []:=fun h=>h4 (by
   rw [ByteArray.toList_eq] at h
   obtain ⟨a⟩:=ky
   congr 1
   exact Array.toList_inj.1 h)
  have t2:ky.toList.isEmpty = false:=by rw [List.isEmpty_eq_false_iff];exact t1
  clear hno hyes h4
  go_simp
 by_cases h5:tt = ⟨#[]⟩
 case neg =>
  rw [hno (fun h=>h5 h.2.2.2.2.2.1)]
  have t0:=text_ne h5
  have t1:¬ tt.toList = []:=fun h=>h5 (by
   rw [ByteArray.toList_eq] at h
   obtain ⟨a⟩:=tt
   congr 1
   exact Array.toList_inj.1 h)
  have t2:tt.toList.isEmpty = false:=by rw [List.isEmpty_eq_false_iff];exact t1
  have e0:=text_eq ⟨#[]⟩
  subst h4
  clear hno hyes h5
  go_simp
 have e0:=text_eq ⟨#[]⟩
 subst h4
 subst h5
 cases dd
 case true=>rw [hno (fun h=>by simp at h)];clear hno hyes;go_simp
 by_cases h7:ks = 0
 case neg=>rw [hno (fun h=>h7 h.2.2.2.2.2.2.2.1)];clear hno hyes;go_simp
 by_cases h8:ws = 0
 case neg=>rw [hno (fun h=>h8 h.2.2.2.2.2.2.2.2)];clear hno hyes;go_simp
 rw [hyes ⟨h0,h1,h2,h3,rfl,rfl,rfl,h7,h8⟩]
 clear hno hyes
 go_simp
theorem inB_iff (r:Rec):inB r = true ↔ (0 ≤ r.txn ∧ r.txn ≤ 1125899906842623) ∧ stampOk r.ts ∧ 0 ≤ r.coord ∧ r.coord < 16:=by
 unfold inB stampOk
 simp only [Bool.and_eq_true,decide_eq_true_eq]
 constructor
 ·rintro ⟨h1,h2,h3,h4⟩;exact ⟨h1,h2,h3,by omega⟩
 ·rintro ⟨h1,h2,h3,h4⟩;exact ⟨h1,h2,h3,by omega⟩
theorem head_iff (r:Rec):headOk r ↔ inB r = true:=by
 rw [inB_iff]
 unfold headOk txnOk stampOk
 constructor
 ·rintro ⟨h1,h2,h3,h4⟩;exact ⟨by omega,h2,h3,h4⟩
 ·rintro ⟨h1,h2,h3,h4⟩;exact ⟨by omega,h2,h3,h4⟩
theorem len_zero {α:Type} (l:List α):(l.length:Int) = 0 ↔ l = []:=by
 constructor
 ·intro h;exact List.eq_nil_of_length_eq_zero (by omega)
 ·intro h;rw [h];rfl
theorem rec_parts (r:Rec):RecOk r ↔ (unF (flOf r)).2 = true ∧ eqZ (unF (flOf r)).1 = true ∧ inB r = true ∧ must r = true:=by
 have hn:∀ x:Int,(x != 0) = true ↔ x ≠ 0:=fun x=>by simp
 have hf:(flOf r).kind = r.kind:=rfl
 unfold RecOk
 rw [head_iff]
 by_cases h1:r.kind = 1
 ·rw [kind_1 h1,show unF (flOf r) = (⟨0,0,0,0,r.key,r.text,r.dead,0,0⟩,true) from by unfold unF;rw [if_pos (hf.trans h1)];rfl,show must r = ((r.txn != 0) && prepB r.keys r.ws) from by unfold must;rw [if_pos h1]]
  simp only [eqZ_iff,Bool.and_eq_true,hn,prep_iff]
  unfold TextOk
  constructor
  ·rintro ⟨a1,⟨a2,a3,a4⟩,a5,a6⟩;exact ⟨trivial,⟨trivial,trivial,trivial,trivial,a2,a3,a4,trivial,trivial⟩,a1,a5,a6⟩
  ·rintro ⟨_,⟨_,_,_,_,a2,a3,a4,_,_⟩,a1,a5,a6⟩;exact ⟨a1,⟨a2,a3,a4⟩,a5,a6⟩
 by_cases h2:r.kind = 2
 ·rw [kind_2 h2,show unF (flOf r) = (⟨0,0,0,r.coord,r.key,r.text,r.dead,(r.keys.length:Int),(r.ws.length:Int)⟩,true) from by unfold unF;simp [h2,flOf],show must r = (r.txn != 0) from by unfold must;simp [h2]]
  simp only [eqZ_iff,hn,len_zero]
  unfold BareOk ListsOk TextOk
  constructor
  ·rintro ⟨a1,⟨⟨b1,b2⟩,⟨a2,a3,a4⟩,b3⟩,a5⟩;exact ⟨trivial,⟨trivial,trivial,trivial,b3,a2,a3,a4,b1,b2⟩,a1,a5⟩
  ·rintro ⟨_,⟨_,_,_,b3,a2,a3,a4,b1,b2⟩,a1,a5⟩;exact ⟨a1,⟨⟨b1,b2⟩,⟨a2,a3,a4⟩,b3⟩,a5⟩
 by_cases h3:r.kind = 3
 ·rw [kind_3 h3,show unF (flOf r) = (⟨0,r.txn,0,r.coord,⟨#[]⟩,⟨#[]⟩,false,(r.keys.length:Int),(r.ws.length:Int)⟩,true) from by unfold unF;simp [h3,flOf],show must r = ((r.ts != 0) && prepB [] [⟨r.key,r.text,r.dead⟩]) from by unfold must;simp [h3]]
  simp only [eqZ_iff,Bool.and_eq_true,hn,len_zero,prep_one]
  unfold ListsOk
  constructor
  ·rintro ⟨a1,⟨b1,b2⟩,b3,b4,b5,b6⟩;exact ⟨trivial,⟨trivial,b4,trivial,b3,trivial,trivial,trivial,b1,b2⟩,a1,b5,b6⟩
  ·rintro ⟨_,⟨_,b4,_,b3,_,_,_,b1,b2⟩,a1,b5,b6⟩;exact ⟨a1,⟨b1,b2⟩,b3,b4,b5,b6⟩
 by_cases h4:r.kind = 4
 ·rw [kind_4 h4,show unF (flOf r) = (⟨0,r.txn,0,r.coord,r.key,r.text,r.dead,(r.keys.length:Int),(r.ws.length:Int)⟩,true) from by unfold unF;simp [h4,flOf],show must r = true from by unfold must;simp [h4]]
  simp only [eqZ_iff,len_zero]
  unfold BareOk ListsOk TextOk
  constructor
  ·rintro ⟨a1,⟨⟨b1,b2⟩,⟨a2,a3,a4⟩,b3⟩,a5⟩;exact ⟨trivial,⟨trivial,a5,trivial,b3,a2,a3,a4,b1,b2⟩,a1,trivial⟩
  ·rintro ⟨_,⟨_,a5,_,b3,a2,a3,a4,b1,b2⟩,a1,_⟩;exact ⟨a1,⟨⟨b1,b2⟩,⟨a2,a3,a4⟩,b3⟩,a5⟩
 by_cases h5:r.kind = 5
 ·rw [kind_5 h5,show unF (flOf r) = (⟨0,0,0,r.coord,r.key,r.text,r.dead,(r.keys.length:Int),(r.ws.length:Int)⟩,true) from by unfold unF;simp [h5,flOf],show must r = ((r.txn != 0) && (r.ts != 0)) from by unfold must;simp [h5]]
  simp only [eqZ_iff,Bool.and_eq_true,hn,len_zero]
  unfold BareOk ListsOk TextOk
  constructor
  ·rintro ⟨a1,⟨⟨b1,b2⟩,⟨a2,a3,a4⟩,b3⟩,a5,a6⟩;exact ⟨trivial,⟨trivial,trivial,trivial,b3,a2,a3,a4,b1,b2⟩,a1,a5,a6⟩
  ·rintro ⟨_,⟨_,_,_,b3,a2,a3,a4,b1,b2⟩,a1,a5,a6⟩;exact ⟨a1,⟨⟨b1,b2⟩,⟨a2,a3,a4⟩,b3⟩,a5,a6⟩
 by_cases h6:r.kind = 6
 ·rw [kind_6 h6,show unF (flOf r) = (⟨0,0,r.ts,r.coord,r.key,r.text,r.dead,(r.keys.length:Int),(r.ws.length:Int)⟩,true) from by unfold unF;simp [h6,flOf],show must r = (r.txn != 0) from by unfold must;simp [h6]]
  simp only [eqZ_iff,hn,len_zero]
  unfold BareOk ListsOk TextOk
  constructor
  ·rintro ⟨a1,⟨⟨b1,b2⟩,⟨a2,a3,a4⟩,b3⟩,a5,a6⟩;exact ⟨trivial,⟨trivial,trivial,a6,b3,a2,a3,a4,b1,b2⟩,a1,a5⟩
  ·rintro ⟨_,⟨_,_,a6,b3,a2,a3,a4,b1,b2⟩,a1,a5⟩;exact ⟨a1,⟨⟨b1,b2⟩,⟨a2,a3,a4⟩,b3⟩,a5,a6⟩
 by_cases h7:r.kind = 7
 ·rw [kind_7 h7,show unF (flOf r) = (⟨0,r.txn,0,r.coord,r.key,r.text,r.dead,(r.keys.length:Int),(r.ws.length:Int)⟩,true) from by unfold unF;simp [h7,flOf],show must r = (r.ts != 0) from by unfold must;simp [h7]]
  simp only [eqZ_iff,hn,len_zero]
  unfold BareOk ListsOk TextOk
  constructor
  ·rintro ⟨a1,⟨⟨b1,b2⟩,⟨a2,a3,a4⟩,b3⟩,a5,a6⟩;exact ⟨trivial,⟨trivial,a5,trivial,b3,a2,a3,a4,b1,b2⟩,a1,a6⟩
  ·rintro ⟨_,⟨_,a5,_,b3,a2,a3,a4,b1,b2⟩,a1,a6⟩;exact ⟨a1,⟨⟨b1,b2⟩,⟨a2,a3,a4⟩,b3⟩,a5,a6⟩
 ·rw [show unF (flOf r) = (flZ,false) from by unfold unF;simp [hf,h1,h2,h3,h4,h5,h6,h7]]
  constructor
  ·rintro ⟨_,h⟩;exact absurd h (kind_no (by omega))
  ·rintro ⟨h,_⟩;cases h
noncomputable def recB (r:Rec):Bool:=@decide (RecOk r) (Classical.propDecidable _)
theorem recB_true {r:Rec} (h:RecOk r):recB r = true:=by unfold recB;exact @decide_eq_true _ (Classical.propDecidable _) h
theorem recB_false {r:Rec} (h:¬ RecOk r):recB r = false:=by unfold recB;exact @decide_eq_false _ (Classical.propDecidable _) h
theorem recB_parts (r:Rec):recB r = ((unF (flOf r)).2 && (eqZ (unF (flOf r)).1 && (inB r && must r))):=by
 have h:=rec_parts r
 by_cases hl:RecOk r
 ·obtain ⟨h1,h2,h3,h4⟩:=h.1 hl
  rw [recB_true hl,h1,h2,h3,h4];rfl
 ·rw [recB_false hl]
  cases h1:(unF (flOf r)).2
  ·rfl
  cases h2:eqZ (unF (flOf r)).1
  ·rfl
  cases h3:inB r
  ·rfl
  cases h4:must r
  ·rfl
  exact absurd (h.2 ⟨h1,h2,h3,h4⟩) hl
theorem mayBe_any (A B:Option Addr) (c d:Nat) (r:Rec) (w:World) (ha:StrsAt w A r.keys) (hb:WrsAt w B r.ws) (hr:RecRng r) :
  Calls Tryz.prog 84 #[recV r A B c d] w fun e w'=>e = .returned (.bool (recB r)) ∧ Below w.heap.size w w':=by
 have HFl:=Lib.hid (fun W=>flatten_any A B c d r W)
 have HUn:=Lib.hid (fun W=>unnamed_any (flOf r) W)
 have HIn:=Lib.hid (fun W=>inBounds_any A B c d r W)
 have HMu:=Lib.hid (fun W (hbl:Below w.heap.size w W)=>must_any A B c d r W (ha.below hbl) (hb.below hbl) hr)
 have henv:=RcEnv.start (c:=c) (d:=d) ha hb
 have e0:=recB_parts r
 have hq:=eql_flat (unF (flOf r)).1
 generalize unF (flOf r) = U at *
 obtain ⟨u,x1⟩:=U
 simp only at HUn hq e0
 generalize eqZ u = x2 at *
 generalize inB r = x3 at *
 generalize must r = x4 at *
 generalize flOf r = fl at *
 unfold flV flZ at hq
 unfold flV at HFl HUn
 unfold recV at HFl HIn HMu ⊢
 simp only at hq
 clear ha hb hr
 go_enter Tryz.func84,Tryz.ntmps84
 go_upto_region 1 with fail
 generalize w.alloc (.cells #[.int .i64 r.kind,.int .i64 r.txn,.int .i64 r.ts,.int .i64 r.coord,.string r.key,.string r.text,.bool r.dead,.slice A r.keys.length c,.slice B r.ws.length d] 60) = W1 at henv ⊢
 have k0:=henv.cel.cell (i:=0) rfl
 have k1:=henv.cel.cell (i:=1) rfl
 have k2:=henv.cel.cell (i:=2) rfl
 have k3:=henv.cel.cell (i:=3) rfl
 have k4:=henv.cel.cell (i:=4) rfl
 have k5:=henv.cel.cell (i:=5) rfl
 have k6:=henv.cel.cell (i:=6) rfl
 have k7:=henv.cel.cell (i:=7) rfl
 have k8:=henv.cel.cell (i:=8) rfl
 have HE:=Lib.hid henv
 clear henv
 go_wp2_with fail
 refine (HFl.out _).mono ?_
 rintro e w2 ⟨rfl,hb⟩
 have HE2:=Lib.hid (HE.out.step hb)
 clear hb HE HFl
 go_wp2_with fail
 refine (HUn.out _).mono ?_
 rintro e w3 ⟨rfl,hb⟩
 have HE3:=Lib.hid (HE2.out.step hb)
 clear hb HE2 HUn k0 k1 k2 k3 k4 k5 k6 k7 k8
 go_upto_region 2 with fail
 have hC:Cel (w3.alloc (.cells #[.int .i64 u.kind,.int .i64 u.txn,.int .i64 u.ts,.int .i64 u.coord,.string u.key,.string u.text,.bool u.dead,.int .i64 u.keys,.int .i64 u.writes] 199)) w3.heap.size 199 [.int .i64 u.kind,.int .i64 u.txn,.int .i64 u.ts,.int .i64 u.coord,.string u.key,.string u.text,.bool u.dead,.int .i64 u.keys,.int .i64 u.writes]:=(blk1 w3 _).2
 have henv:=HE3.out.step ((Below.refl _ w3).alloc (Nat.le_refl _) (.cells #[.int .i64 u.kind,.int .i64 u.txn,.int .i64 u.ts,.int .i64 u.coord,.string u.key,.string u.text,.bool u.dead,.int .i64 u.keys,.int .i64 u.writes] 199))
 generalize w3.alloc (.cells #[.int .i64 u.kind,.int .i64 u.txn,.int .i64 u.ts,.int .i64 u.coord,.string u.key,.string u.text,.bool u.dead,.int .i64 u.keys,.int .i64 u.writes] 199) = W4 at hC henv ⊢
 generalize w3.heap.size = g at hC ⊢
 have r0:=hC.cell (i:=0) rfl
 have r1:=hC.cell (i:=1) rfl
 have r2:=hC.cell (i:=2) rfl
 have r3:=hC.cell (i:=3) rfl
 have r4:=hC.cell (i:=4) rfl
 have r5:=hC.cell (i:=5) rfl
 have r6:=hC.cell (i:=6) rfl
 have r7:=hC.cell (i:=7) rfl
 have r8:=hC.cell (i:=8) rfl
 have k0:=henv.cel.cell (i:=0) rfl
 have k1:=henv.cel.cell (i:=1) rfl
 have k2:=henv.cel.cell (i:=2) rfl
 have k3:=henv.cel.cell (i:=3) rfl
 have k4:=henv.cel.cell (i:=4) rfl
 have k5:=henv.cel.cell (i:=5) rfl
 have k6:=henv.cel.cell (i:=6) rfl
 have k7:=henv.cel.cell (i:=7) rfl
 have k8:=henv.cel.cell (i:=8) rfl
 have HBl:=Lib.hid henv.bel
 have HE4:=Lib.hid henv
 have HQ:=hq
 clear hC henv HE3 hq
 cases x1 with
 | false =>
  have E:=Lib.hid e0
  clear e0
  go_wp2_with fail
  go_ret
  exact ⟨by rw [E.out];rfl,HBl.out⟩
 | true =>
 cases x2 with
 | false =>
  have E:=Lib.hid e0
  clear e0
  go_wp2_with fail
  go_ret
  exact ⟨by rw [E.out];rfl,HBl.out⟩
 | true =>
 cases x3 with
 | false =>
  have E:=Lib.hid e0
  clear e0
  go_wp2_with fail
  refine (HIn.out _).mono ?_
  rintro e w5 ⟨rfl,hb⟩
  have HB5:=Lib.hid (HBl.out.trans (hb.mono HBl.out.size))
  clear hb
  go_wp2_with fail
  go_ret
  exact ⟨by rw [E.out];rfl,HB5.out⟩
 | true =>
  have E:=Lib.hid e0
  clear e0
  go_wp2_with fail
  refine (HIn.out _).mono ?_
  rintro e w5 ⟨rfl,hb⟩
  have HE5:=Lib.hid (HE4.out.step hb)
  have HB5:=Lib.hid HE5.out.bel
  clear hb k0 k1 k2 k3 k4 k5 k6 k7 k8
  have k0:=HE5.out.cel.cell (i:=0) rfl
  have k1:=HE5.out.cel.cell (i:=1) rfl
  have k2:=HE5.out.cel.cell (i:=2) rfl
  have k3:=HE5.out.cel.cell (i:=3) rfl
  have k4:=HE5.out.cel.cell (i:=4) rfl
  have k5:=HE5.out.cel.cell (i:=5) rfl
  have k6:=HE5.out.cel.cell (i:=6) rfl
  have k7:=HE5.out.cel.cell (i:=7) rfl
  have k8:=HE5.out.cel.cell (i:=8) rfl
  go_wp2_with fail
  refine (HMu.out _ HB5.out).mono ?_
  rintro e w6 ⟨rfl,hb⟩
  have HB6:=Lib.hid (HB5.out.trans (hb.mono HB5.out.size))
  clear hb
  go_wp2_with fail
  go_ret
  exact ⟨by rw [E.out];simp,HB6.out⟩
theorem rcheck_any (A B:Option Addr) (c d:Nat) (r:Rec) (w:World) (ha:StrsAt w A r.keys) (hb:WrsAt w B r.ws) (hr:RecRng r) :
  Calls Tryz.prog 69 #[recV r A B c d] w fun e w'=>e = .returned (.int .i64 (ckN r:Int)) ∧ Below w.heap.size w w':=by
 have HM:=Lib.hid (fun W (hbl:Below w.heap.size w W)=>mayBe_any A B c d r W (ha.below hbl) (hb.below hbl) hr)
 have henv:=RcEnv.start (c:=c) (d:=d) ha hb
 have e0:ckN r = if recB r then 0 else 80:=by
  by_cases h:RecOk r
  ·rw [ckN_of h,recB_true h];rfl
  ·rw [ckN_not h,recB_false h];rfl
 unfold recV at HM ⊢
 clear ha hb hr
 go_enter Tryz.func69,Tryz.ntmps69
 go_upto_region 1 with fail
 generalize w.alloc (.cells #[.int .i64 r.kind,.int .i64 r.txn,.int .i64 r.ts,.int .i64 r.coord,.string r.key,.string r.text,.bool r.dead,.slice A r.keys.length c,.slice B r.ws.length d] 60) = W1 at henv ⊢
 have k0:=henv.cel.cell (i:=0) rfl
 have k1:=henv.cel.cell (i:=1) rfl
 have k2:=henv.cel.cell (i:=2) rfl
 have k3:=henv.cel.cell (i:=3) rfl
 have k4:=henv.cel.cell (i:=4) rfl
 have k5:=henv.cel.cell (i:=5) rfl
 have k6:=henv.cel.cell (i:=6) rfl
 have k7:=henv.cel.cell (i:=7) rfl
 have k8:=henv.cel.cell (i:=8) rfl
 have HBl:=Lib.hid henv.bel
 clear henv
 generalize recB r = bb at *
 cases bb with
 | false =>
  have E:=Lib.hid e0
  clear e0
  go_wp2_with fail
  refine (HM.out _ HBl.out).mono ?_
  rintro e w3 ⟨rfl,hb⟩
  have HB3:=Lib.hid (HBl.out.trans (hb.mono HBl.out.size))
  clear hb
  go_wp2_with fail
  go_ret
  exact ⟨by rw [E.out];rfl,HB3.out⟩
 | true =>
  have E:=Lib.hid e0
  clear e0
  go_wp2_with fail
  refine (HM.out _ HBl.out).mono ?_
  rintro e w3 ⟨rfl,hb⟩
  have HB3:=Lib.hid (HBl.out.trans (hb.mono HBl.out.size))
  clear hb
  go_wp2_with fail
  go_ret
  exact ⟨by rw [E.out];rfl,HB3.out⟩
theorem lcheckAll:CheckAll:=fun A B c d r w h=>rcheck_any A B c d r w h.ks h.ws h.rng.toRecRng
end Rc
end Go.Proofs.YtlfkhlfkckfbpaaGreat
