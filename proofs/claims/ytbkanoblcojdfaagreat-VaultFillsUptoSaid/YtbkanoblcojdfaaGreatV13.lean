/- Parts of the proof, joined: RcDone2, LtLaw, LtCopy, RcBook, RcLaw; their conditions stand with each. -/
import Derived.Test.YtbkanoblcojdfaaGreatV3
import Derived.Test.YtbkanoblcojdfaaGreatV4
import Derived.Test.YtbkanoblcojdfaaGreatV5
import Derived.Test.YtbkanoblcojdfaaGreatV10
import Derived.Test.YtbkanoblcojdfaaGreatV11
import Derived.Test.YtbkanoblcojdfaaGreatV12

set_option maxRecDepth 20000
set_option maxHeartbeats 8000000
namespace Go.Proofs.YtbkanoblcojdfaaGreat
namespace Rc
open Go.RowKit Bk Lt
attribute [local go_sem ↓] Go.wp_at_zero Go.wp_at_succ
attribute [local go_sem] floatUpon pick
def prepL (ks:List ByteArray) (ws:List Wr):Let:=⟨3,0,0,1125899906842623,0,0,⟨#[]⟩,ks,ws⟩
noncomputable def prepB (ks:List ByteArray) (ws:List Wr):Bool:=Lt.okB (prepL ks ws)
theorem prep_iff (ks:List ByteArray) (ws:List Wr):prepB ks ws = true ↔ ks.length ≤ 16 ∧ Rises ks ∧ WritesOk ws:=by
 unfold prepB
 constructor
 ·intro h
  have h2:LetOk (prepL ks ws):=Classical.byContradiction fun hn=>by rw [Lt.okB_false hn] at h;cases h
  obtain ⟨_,hk⟩:=h2
  obtain ⟨k1,k2,k3,_,_⟩:=(Lt.kind_3 (l:=prepL ks ws) rfl).1 hk
  exact ⟨k1,k2,k3⟩
 ·rintro ⟨h1,h2,h3⟩
  refine Lt.okB_true ⟨⟨?_,?_,?_,?_,?_,?_⟩,(Lt.kind_3 (l:=prepL ks ws) rfl).2 ⟨h1,h2,h3,rfl,rfl⟩⟩
  ·show addr 0;decide
  ·show addr 0;decide
  ·show txnOk 1125899906842623;decide
  ·show stampOk 0;decide
  ·show (0:Int) ≤ 0;decide
  ·show (0:Int) ≤ 4;decide
theorem prep_one (k t:ByteArray) (d:Bool):prepB [] [⟨k,t,d⟩] = true ↔ keyOk k ∧ t.size ≤ 2052 ∧ (d = false ∨ t = ⟨#[]⟩):=by
 rw [prep_iff]
 unfold WritesOk wrOk
 constructor
 ·rintro ⟨_,_,_,h2,h3⟩
  obtain ⟨h4,h5⟩:=h2 _ (List.mem_singleton.2 rfl)
  refine ⟨Lt.rises_one.1 h3,h4,?_⟩
  cases d with
  | false=>exact .inl rfl
  | true=>exact .inr (Classical.byContradiction fun h=>h5 ⟨rfl,h⟩)
 ·rintro ⟨h1,h2,h3⟩
  refine ⟨by simp,Rises.nil,by simp,fun x hx=>?_,Lt.rises_one.2 h1⟩
  rw [List.mem_singleton] at hx
  subst hx
  refine ⟨h2,fun h=>?_⟩
  rcases h3 with h3 | h3
  ·have:=h.1;rw [h3] at this;cases this
  ·exact h.2 h3
theorem prep_rng {ks:List ByteArray} {ws:List Wr} (h1:ks.length * 16 ≤ reachBytes) (h2:ws.length * 16 ≤ reachBytes) (h3:∀ s ∈ ks,s.size ≤ reachBytes) (h4:∀ x ∈ ws,x.key.size ≤ reachBytes ∧ x.shard.size ≤ reachBytes):LetRng (prepL ks ws):=by
 refine ⟨?_,?_,?_,?_,?_,?_,Nat.zero_le _,h1,h2,h3,h4⟩ <;> (simp only [prepL];omega)
theorem asPrepared_any (A B:Option Addr) (c d:Nat) (ks:List ByteArray) (ws:List Wr) (w:World) (ha:StrsAt w A ks) (hb:WrsAt w B ws) (h1:ks.length * 16 ≤ reachBytes) (h2:ws.length * 16 ≤ reachBytes) (h3:∀ s ∈ ks,s.size ≤ reachBytes) (h4:∀ x ∈ ws,x.key.size ≤ reachBytes ∧ x.shard.size ≤ reachBytes) :
  Calls Tryz.prog 228 #[.slice A ks.length c,.slice B ws.length d] w fun e w'=>e = .returned (.bool (prepB ks ws)) ∧ Below w.heap.size w w':=by
 have hC:=fun W (hbl:Below w.heap.size w W)=>lcheck_any A B c d (prepL ks ws) W (ha.below hbl) (hb.below hbl) (prep_rng h1 h2 h3 h4)
 have hE:(((Lt.ckN (prepL ks ws):Nat):Int) == 0) = prepB ks ws:=by
  unfold prepB
  by_cases h:LetOk (prepL ks ws)
  ·rw [Lt.ckN_of h,Lt.okB_true h];rfl
  ·rw [Lt.ckN_not h,Lt.okB_false h];rfl
 generalize ((Lt.ckN (prepL ks ws):Nat):Int) = n at hC hE
 generalize prepB ks ws = b at hE ⊢
 unfold letV prepL at hC
 simp only at hC
 have HC:=Lib.hid hC
 clear hC ha hb h1 h2 h3 h4
 go_enter Tryz.func228,Tryz.ntmps228
 go_upto_region 2 with fail
 have hB1:Below w.heap.size w (w.alloc (.cells #[.int .i64 3,.int .i64 0,.int .i64 0,.int .i64 1125899906842623,.int .i64 0,.int .i64 0,.string ⟨#[]⟩,.slice A ks.length c,.slice B ws.length d] 337)):=(Below.refl _ w).alloc (Nat.le_refl _) _
 have hP1:Cel (w.alloc (.cells #[.int .i64 3,.int .i64 0,.int .i64 0,.int .i64 1125899906842623,.int .i64 0,.int .i64 0,.string ⟨#[]⟩,.slice A ks.length c,.slice B ws.length d] 337)) w.heap.size 337 [.int .i64 3,.int .i64 0,.int .i64 0,.int .i64 1125899906842623,.int .i64 0,.int .i64 0,.string ⟨#[]⟩,.slice A ks.length c,.slice B ws.length d]:=(blk1 w _).2
 generalize w.alloc (.cells #[.int .i64 3,.int .i64 0,.int .i64 0,.int .i64 1125899906842623,.int .i64 0,.int .i64 0,.string ⟨#[]⟩,.slice A ks.length c,.slice B ws.length d] 337) = W1 at hB1 hP1 ⊢
 have k0:=hP1.cell (i:=0) rfl
 have k1:=hP1.cell (i:=1) rfl
 have k2:=hP1.cell (i:=2) rfl
 have k3:=hP1.cell (i:=3) rfl
 have k4:=hP1.cell (i:=4) rfl
 have k5:=hP1.cell (i:=5) rfl
 have k6:=hP1.cell (i:=6) rfl
 have k7:=hP1.cell (i:=7) rfl
 have k8:=hP1.cell (i:=8) rfl
 have HB1:=Lib.hid hB1
 clear hB1 hP1
 go_wp2_with fail
 refine (HC.out _ HB1.out).mono ?_
 rintro e w2 ⟨rfl,hb⟩
 have HB2:=Lib.hid (HB1.out.trans (hb.mono HB1.out.size))
 clear hb HC
 go_wp2_with fail
 go_ret
 exact ⟨by rw [← hE];rfl,HB2.out⟩
noncomputable def must (r:Rec):Bool :=
 if r.kind = 1 then (r.txn != 0) && prepB r.keys r.ws else
 if r.kind = 2 ∨ r.kind = 6 then r.txn != 0 else
 if r.kind = 3 then (r.ts != 0) && prepB [] [⟨r.key,r.text,r.dead⟩] else
 if r.kind = 5 then (r.txn != 0) && (r.ts != 0) else
 if r.kind = 7 then r.ts != 0 else true
theorem one_wr {W:World} {g:Nat} {k t:ByteArray} {d:Bool} (h:Cel W g 45 [.string k,.string t,.bool d]):WrsAt W (some ⟨g,0,none⟩) [⟨k,t,d⟩]:=fun _=>by
 refine ⟨_,rfl,h.lt,fun i hi=>?_⟩
 have hi2:i < 1:=hi
 obtain rfl:i = 0:=by omega
 rw [add_zero',show (⟨g,0,none⟩:Addr).add (0 * 3 + 1) = ⟨g,1,none⟩ from rfl,show (⟨g,0,none⟩:Addr).add (0 * 3 + 2) = ⟨g,2,none⟩ from rfl]
 exact ⟨h.cell (i:=0) rfl,h.cell (i:=1) rfl,h.cell (i:=2) rfl⟩
theorem must_1 (A B:Option Addr) (c d:Nat) (r:Rec) (hk:r.kind = 1) (w:World) (ha:StrsAt w A r.keys) (hb:WrsAt w B r.ws) (hr:RecRng r) :
  Calls Tryz.prog 158 #[recV r A B c d] w fun e w'=>e = .returned (.bool (must r)) ∧ Below w.heap.size w w':=by
 have E:=Lib.hid (show must r = ((r.txn != 0) && prepB r.keys r.ws) from by unfold must;simp [hk])
 rw [E.out]
 have HP:=Lib.hid (fun W (hbl:Below w.heap.size w W)=>asPrepared_any A B c d r.keys r.ws W (ha.below hbl) (hb.below hbl) hr.k16 (by have:=hr.w40;omega) hr.kr hr.wr)
 unfold recV
 rw [hk]
 clear ha hb hr hk E
 go_enter Tryz.func158,Tryz.ntmps158
 go_upto_region 1 with fail
 have hB1:Below w.heap.size w (w.alloc (.cells #[.int .i64 1,.int .i64 r.txn,.int .i64 r.ts,.int .i64 r.coord,.string r.key,.string r.text,.bool r.dead,.slice A r.keys.length c,.slice B r.ws.length d] 37)):=(Below.refl _ w).alloc (Nat.le_refl _) _
 have hP1:Cel (w.alloc (.cells #[.int .i64 1,.int .i64 r.txn,.int .i64 r.ts,.int .i64 r.coord,.string r.key,.string r.text,.bool r.dead,.slice A r.keys.length c,.slice B r.ws.length d] 37)) w.heap.size 37 [.int .i64 1,.int .i64 r.txn,.int .i64 r.ts,.int .i64 r.coord,.string r.key,.string r.text,.bool r.dead,.slice A r.keys.length c,.slice B r.ws.length d]:=(blk1 w _).2
 generalize w.alloc (.cells #[.int .i64 1,.int .i64 r.txn,.int .i64 r.ts,.int .i64 r.coord,.string r.key,.string r.text,.bool r.dead,.slice A r.keys.length c,.slice B r.ws.length d] 37) = W1 at hB1 hP1 ⊢
 have k0:=hP1.cell (i:=0) rfl
 have k1:=hP1.cell (i:=1) rfl
 have k2:=hP1.cell (i:=2) rfl
 have k3:=hP1.cell (i:=3) rfl
 have k4:=hP1.cell (i:=4) rfl
 have k5:=hP1.cell (i:=5) rfl
 have k6:=hP1.cell (i:=6) rfl
 have k7:=hP1.cell (i:=7) rfl
 have k8:=hP1.cell (i:=8) rfl
 have HB1:=Lib.hid hB1
 have HP1:=Lib.hid hP1
 clear hB1 hP1
 by_cases h0:r.txn = 0
 ·have q0:(r.txn != 0) = false:=by simp [h0]
  have E:=Lib.hid q0
  clear h0
  go_wp2_with fail
  go_ret
  exact ⟨by rw [E.out];rfl,HB1.out⟩
 ·have q0:(r.txn != 0) = true:=by simp [h0]
  have E:=Lib.hid q0
  clear h0
  go_wp2_with fail
  refine (HP.out _ HB1.out).mono ?_
  rintro e w2 ⟨rfl,hb⟩
  have HB2:=Lib.hid (HB1.out.trans (hb.mono HB1.out.size))
  clear hb HP
  go_wp2_with fail
  go_ret
  exact ⟨by rw [E.out,Bool.true_and];rfl,HB2.out⟩
theorem must_2 (A B:Option Addr) (c d:Nat) (r:Rec) (hk:r.kind = 2) (w:World) :
  Calls Tryz.prog 158 #[recV r A B c d] w fun e w'=>e = .returned (.bool (must r)) ∧ Below w.heap.size w w':=by
 have E:=Lib.hid (show must r = (r.txn != 0) from by unfold must;simp [hk])
 rw [E.out]
 unfold recV
 rw [hk]
 clear hk E
 go_enter Tryz.func158,Tryz.ntmps158
 go_upto_region 1 with fail
 have hB1:Below w.heap.size w (w.alloc (.cells #[.int .i64 2,.int .i64 r.txn,.int .i64 r.ts,.int .i64 r.coord,.string r.key,.string r.text,.bool r.dead,.slice A r.keys.length c,.slice B r.ws.length d] 37)):=(Below.refl _ w).alloc (Nat.le_refl _) _
 have hP1:Cel (w.alloc (.cells #[.int .i64 2,.int .i64 r.txn,.int .i64 r.ts,.int .i64 r.coord,.string r.key,.string r.text,.bool r.dead,.slice A r.keys.length c,.slice B r.ws.length d] 37)) w.heap.size 37 [.int .i64 2,.int .i64 r.txn,.int .i64 r.ts,.int .i64 r.coord,.string r.key,.string r.text,.bool r.dead,.slice A r.keys.length c,.slice B r.ws.length d]:=(blk1 w _).2
 generalize w.alloc (.cells #[.int .i64 2,.int .i64 r.txn,.int .i64 r.ts,.int .i64 r.coord,.string r.key,.string r.text,.bool r.dead,.slice A r.keys.length c,.slice B r.ws.length d] 37) = W1 at hB1 hP1 ⊢
 have k0:=hP1.cell (i:=0) rfl
 have k1:=hP1.cell (i:=1) rfl
 have k2:=hP1.cell (i:=2) rfl
 have k3:=hP1.cell (i:=3) rfl
 have k4:=hP1.cell (i:=4) rfl
 have k5:=hP1.cell (i:=5) rfl
 have k6:=hP1.cell (i:=6) rfl
 have k7:=hP1.cell (i:=7) rfl
 have k8:=hP1.cell (i:=8) rfl
 have HB1:=Lib.hid hB1
 have HP1:=Lib.hid hP1
 clear hB1 hP1
 by_cases h0:r.txn = 0
 ·have q0:(r.txn != 0) = false:=by simp [h0]
  have E:=Lib.hid q0
  clear h0
  go_wp2_with fail
  go_ret
  exact ⟨by rw [E.out];rfl,HB1.out⟩
 ·have q0:(r.txn != 0) = true:=by simp [h0]
  have E:=Lib.hid q0
  clear h0
  go_wp2_with fail
  go_ret
  exact ⟨by rw [E.out];rfl,HB1.out⟩
theorem must_6 (A B:Option Addr) (c d:Nat) (r:Rec) (hk:r.kind = 6) (w:World) :
  Calls Tryz.prog 158 #[recV r A B c d] w fun e w'=>e = .returned (.bool (must r)) ∧ Below w.heap.size w w':=by
 have E:=Lib.hid (show must r = (r.txn != 0) from by unfold must;simp [hk])
 rw [E.out]
 unfold recV
 rw [hk]
 clear hk E
 go_enter Tryz.func158,Tryz.ntmps158
 go_upto_region 1 with fail
 have hB1:Below w.heap.size w (w.alloc (.cells #[.int .i64 6,.int .i64 r.txn,.int .i64 r.ts,.int .i64 r.coord,.string r.key,.string r.text,.bool r.dead,.slice A r.keys.length c,.slice B r.ws.length d] 37)):=(Below.refl _ w).alloc (Nat.le_refl _) _
 have hP1:Cel (w.alloc (.cells #[.int .i64 6,.int .i64 r.txn,.int .i64 r.ts,.int .i64 r.coord,.string r.key,.string r.text,.bool r.dead,.slice A r.keys.length c,.slice B r.ws.length d] 37)) w.heap.size 37 [.int .i64 6,.int .i64 r.txn,.int .i64 r.ts,.int .i64 r.coord,.string r.key,.string r.text,.bool r.dead,.slice A r.keys.length c,.slice B r.ws.length d]:=(blk1 w _).2
 generalize w.alloc (.cells #[.int .i64 6,.int .i64 r.txn,.int .i64 r.ts,.int .i64 r.coord,.string r.key,.string r.text,.bool r.dead,.slice A r.keys.length c,.slice B r.ws.length d] 37) = W1 at hB1 hP1 ⊢
 have k0:=hP1.cell (i:=0) rfl
 have k1:=hP1.cell (i:=1) rfl
 have k2:=hP1.cell (i:=2) rfl
 have k3:=hP1.cell (i:=3) rfl
 have k4:=hP1.cell (i:=4) rfl
 have k5:=hP1.cell (i:=5) rfl
 have k6:=hP1.cell (i:=6) rfl
 have k7:=hP1.cell (i:=7) rfl
 have k8:=hP1.cell (i:=8) rfl
 have HB1:=Lib.hid hB1
 have HP1:=Lib.hid hP1
 clear hB1 hP1
 by_cases h0:r.txn = 0
 ·have q0:(r.txn != 0) = false:=by simp [h0]
  have E:=Lib.hid q0
  clear h0
  go_wp2_with fail
  go_ret
  exact ⟨by rw [E.out];rfl,HB1.out⟩
 ·have q0:(r.txn != 0) = true:=by simp [h0]
  have E:=Lib.hid q0
  clear h0
  go_wp2_with fail
  go_ret
  exact ⟨by rw [E.out];rfl,HB1.out⟩
theorem must_3 (A B:Option Addr) (c d:Nat) (r:Rec) (hk:r.kind = 3) (w:World) (hr:RecRng r) :
  Calls Tryz.prog 158 #[recV r A B c d] w fun e w'=>e = .returned (.bool (must r)) ∧ Below w.heap.size w w':=by
 have E:=Lib.hid (show must r = ((r.ts != 0) && prepB [] [⟨r.key,r.text,r.dead⟩]) from by unfold must;simp [hk])
 rw [E.out]
 have hP:∀ W g,Cel W g 45 [.string r.key,.string r.text,.bool r.dead] → Calls Tryz.prog 228 #[.slice none 0 0,.slice (some ⟨g,0,none⟩) 1 1] W fun e w'=>e = .returned (.bool (prepB [] [⟨r.key,r.text,r.dead⟩])) ∧ Below W.heap.size W w':=fun W g hc =>
  asPrepared_any none (some ⟨g,0,none⟩) 0 1 [] [⟨r.key,r.text,r.dead⟩] W (fun h=>absurd h (by simp)) (one_wr hc) (Nat.zero_le _) (by show 1 * 16 ≤ _;unfold reachBytes;omega) (fun s h=>absurd h (by simp)) (fun x hx=>by rw [List.mem_singleton] at hx;subst hx;exact ⟨hr.key,hr.text⟩)
 have HP:=Lib.hid hP
 clear hP
 unfold recV
 rw [hk]
 clear hr hk E
 go_enter Tryz.func158,Tryz.ntmps158
 go_upto_region 1 with fail
 have hB1:Below w.heap.size w (w.alloc (.cells #[.int .i64 3,.int .i64 r.txn,.int .i64 r.ts,.int .i64 r.coord,.string r.key,.string r.text,.bool r.dead,.slice A r.keys.length c,.slice B r.ws.length d] 37)):=(Below.refl _ w).alloc (Nat.le_refl _) _
 have hP1:Cel (w.alloc (.cells #[.int .i64 3,.int .i64 r.txn,.int .i64 r.ts,.int .i64 r.coord,.string r.key,.string r.text,.bool r.dead,.slice A r.keys.length c,.slice B r.ws.length d] 37)) w.heap.size 37 [.int .i64 3,.int .i64 r.txn,.int .i64 r.ts,.int .i64 r.coord,.string r.key,.string r.text,.bool r.dead,.slice A r.keys.length c,.slice B r.ws.length d]:=(blk1 w _).2
 generalize w.alloc (.cells #[.int .i64 3,.int .i64 r.txn,.int .i64 r.ts,.int .i64 r.coord,.string r.key,.string r.text,.bool r.dead,.slice A r.keys.length c,.slice B r.ws.length d] 37) = W1 at hB1 hP1 ⊢
 have k0:=hP1.cell (i:=0) rfl
 have k1:=hP1.cell (i:=1) rfl
 have k2:=hP1.cell (i:=2) rfl
 have k3:=hP1.cell (i:=3) rfl
 have k4:=hP1.cell (i:=4) rfl
 have k5:=hP1.cell (i:=5) rfl
 have k6:=hP1.cell (i:=6) rfl
 have k7:=hP1.cell (i:=7) rfl
 have k8:=hP1.cell (i:=8) rfl
 have HB1:=Lib.hid hB1
 have HP1:=Lib.hid hP1
 clear hB1 hP1
 by_cases h0:r.ts = 0
 ·have q0:(r.ts != 0) = false:=by simp [h0]
  have E:=Lib.hid q0
  clear h0
  go_wp2_with fail
  go_ret
  exact ⟨by rw [E.out];rfl,HB1.out⟩
 ·have q0:(r.ts != 0) = true:=by simp [h0]
  have E:=Lib.hid q0
  clear h0
  go_wp2_with fail
  refine (HP.out _ _ (blk1 W1 _).2).mono ?_
  rintro e w2 ⟨rfl,hb⟩
  have HB2:=Lib.hid ((HB1.out.alloc HB1.out.size _).trans (hb.mono (HB1.out.alloc HB1.out.size _).size))
  clear hb HP
  go_wp2_with fail
  go_ret
  exact ⟨by rw [E.out,Bool.true_and];rfl,HB2.out⟩
theorem must_5 (A B:Option Addr) (c d:Nat) (r:Rec) (hk:r.kind = 5) (w:World) :
  Calls Tryz.prog 158 #[recV r A B c d] w fun e w'=>e = .returned (.bool (must r)) ∧ Below w.heap.size w w':=by
 have E:=Lib.hid (show must r = ((r.txn != 0) && (r.ts != 0)) from by unfold must;simp [hk])
 rw [E.out]
 unfold recV
 rw [hk]
 clear hk E
 go_enter Tryz.func158,Tryz.ntmps158
 go_upto_region 1 with fail
 have hB1:Below w.heap.size w (w.alloc (.cells #[.int .i64 5,.int .i64 r.txn,.int .i64 r.ts,.int .i64 r.coord,.string r.key,.string r.text,.bool r.dead,.slice A r.keys.length c,.slice B r.ws.length d] 37)):=(Below.refl _ w).alloc (Nat.le_refl _) _
 have hP1:Cel (w.alloc (.cells #[.int .i64 5,.int .i64 r.txn,.int .i64 r.ts,.int .i64 r.coord,.string r.key,.string r.text,.bool r.dead,.slice A r.keys.length c,.slice B r.ws.length d] 37)) w.heap.size 37 [.int .i64 5,.int .i64 r.txn,.int .i64 r.ts,.int .i64 r.coord,.string r.key,.string r.text,.bool r.dead,.slice A r.keys.length c,.slice B r.ws.length d]:=(blk1 w _).2
 generalize w.alloc (.cells #[.int .i64 5,.int .i64 r.txn,.int .i64 r.ts,.int .i64 r.coord,.string r.key,.string r.text,.bool r.dead,.slice A r.keys.length c,.slice B r.ws.length d] 37) = W1 at hB1 hP1 ⊢
 have k0:=hP1.cell (i:=0) rfl
 have k1:=hP1.cell (i:=1) rfl
 have k2:=hP1.cell (i:=2) rfl
 have k3:=hP1.cell (i:=3) rfl
 have k4:=hP1.cell (i:=4) rfl
 have k5:=hP1.cell (i:=5) rfl
 have k6:=hP1.cell (i:=6) rfl
 have k7:=hP1.cell (i:=7) rfl
 have k8:=hP1.cell (i:=8) rfl
 have HB1:=Lib.hid hB1
 have HP1:=Lib.hid hP1
 clear hB1 hP1
 by_cases h0:r.txn = 0
 ·have q0:(r.txn != 0) = false:=by simp [h0]
  have E:=Lib.hid q0
  clear h0
  go_wp2_with fail
  go_ret
  exact ⟨by rw [E.out];rfl,HB1.out⟩
 ·have q0:(r.txn != 0) = true:=by simp [h0]
  have E:=Lib.hid q0
  clear h0
  have E2:=E
  clear E
  by_cases h1:r.ts = 0
  ·have q1:(r.ts != 0) = false:=by simp [h1]
   have E:=Lib.hid q1
   clear h1
   go_wp2_with fail
   go_ret
   exact ⟨by rw [E.out,E2.out];rfl,HB1.out⟩
  ·have q1:(r.ts != 0) = true:=by simp [h1]
   have E:=Lib.hid q1
   clear h1
   go_wp2_with fail
   go_ret
   exact ⟨by rw [E.out,E2.out];rfl,HB1.out⟩
theorem must_7 (A B:Option Addr) (c d:Nat) (r:Rec) (hk:r.kind = 7) (w:World) :
  Calls Tryz.prog 158 #[recV r A B c d] w fun e w'=>e = .returned (.bool (must r)) ∧ Below w.heap.size w w':=by
 have E:=Lib.hid (show must r = (r.ts != 0) from by unfold must;simp [hk])
 rw [E.out]
 unfold recV
 rw [hk]
 clear hk E
 go_enter Tryz.func158,Tryz.ntmps158
 go_upto_region 1 with fail
 have hB1:Below w.heap.size w (w.alloc (.cells #[.int .i64 7,.int .i64 r.txn,.int .i64 r.ts,.int .i64 r.coord,.string r.key,.string r.text,.bool r.dead,.slice A r.keys.length c,.slice B r.ws.length d] 37)):=(Below.refl _ w).alloc (Nat.le_refl _) _
 have hP1:Cel (w.alloc (.cells #[.int .i64 7,.int .i64 r.txn,.int .i64 r.ts,.int .i64 r.coord,.string r.key,.string r.text,.bool r.dead,.slice A r.keys.length c,.slice B r.ws.length d] 37)) w.heap.size 37 [.int .i64 7,.int .i64 r.txn,.int .i64 r.ts,.int .i64 r.coord,.string r.key,.string r.text,.bool r.dead,.slice A r.keys.length c,.slice B r.ws.length d]:=(blk1 w _).2
 generalize w.alloc (.cells #[.int .i64 7,.int .i64 r.txn,.int .i64 r.ts,.int .i64 r.coord,.string r.key,.string r.text,.bool r.dead,.slice A r.keys.length c,.slice B r.ws.length d] 37) = W1 at hB1 hP1 ⊢
 have k0:=hP1.cell (i:=0) rfl
 have k1:=hP1.cell (i:=1) rfl
 have k2:=hP1.cell (i:=2) rfl
 have k3:=hP1.cell (i:=3) rfl
 have k4:=hP1.cell (i:=4) rfl
 have k5:=hP1.cell (i:=5) rfl
 have k6:=hP1.cell (i:=6) rfl
 have k7:=hP1.cell (i:=7) rfl
 have k8:=hP1.cell (i:=8) rfl
 have HB1:=Lib.hid hB1
 have HP1:=Lib.hid hP1
 clear hB1 hP1
 by_cases h0:r.ts = 0
 ·have q0:(r.ts != 0) = false:=by simp [h0]
  have E:=Lib.hid q0
  clear h0
  go_wp2_with fail
  go_ret
  exact ⟨by rw [E.out];rfl,HB1.out⟩
 ·have q0:(r.ts != 0) = true:=by simp [h0]
  have E:=Lib.hid q0
  clear h0
  go_wp2_with fail
  go_ret
  exact ⟨by rw [E.out];rfl,HB1.out⟩
theorem must_no (A B:Option Addr) (c d:Nat) (r:Rec) (hk:r.kind ≠ 1 ∧ r.kind ≠ 2 ∧ r.kind ≠ 3 ∧ r.kind ≠ 5 ∧ r.kind ≠ 6 ∧ r.kind ≠ 7) (w:World) :
  Calls Tryz.prog 158 #[recV r A B c d] w fun e w'=>e = .returned (.bool (must r)) ∧ Below w.heap.size w w':=by
 have E:=Lib.hid (show must r = true from by unfold must;simp [hk])
 rw [E.out]
 obtain ⟨h1,h2,h3,h5,h6,h7⟩:=hk
 have q1:(r.kind == 1) = false:=by simpa using h1
 have q2:(r.kind == 2) = false:=by simpa using h2
 have q3:(r.kind == 3) = false:=by simpa using h3
 have q5:(r.kind == 5) = false:=by simpa using h5
 have q6:(r.kind == 6) = false:=by simpa using h6
 have q7:(r.kind == 7) = false:=by simpa using h7
 clear h1 h2 h3 h5 h6 h7 E
 unfold recV
 go_enter Tryz.func158,Tryz.ntmps158
 go_upto_region 1 with fail
 have hB1:Below w.heap.size w (w.alloc (.cells #[.int .i64 r.kind,.int .i64 r.txn,.int .i64 r.ts,.int .i64 r.coord,.string r.key,.string r.text,.bool r.dead,.slice A r.keys.length c,.slice B r.ws.length d] 37)):=(Below.refl _ w).alloc (Nat.le_refl _) _
 have hP1:Cel (w.alloc (.cells #[.int .i64 r.kind,.int .i64 r.txn,.int .i64 r.ts,.int .i64 r.coord,.string r.key,.string r.text,.bool r.dead,.slice A r.keys.length c,.slice B r.ws.length d] 37)) w.heap.size 37 [.int .i64 r.kind,.int .i64 r.txn,.int .i64 r.ts,.int .i64 r.coord,.string r.key,.string r.text,.bool r.dead,.slice A r.keys.length c,.slice B r.ws.length d]:=(blk1 w _).2
 generalize w.alloc (.cells #[.int .i64 r.kind,.int .i64 r.txn,.int .i64 r.ts,.int .i64 r.coord,.string r.key,.string r.text,.bool r.dead,.slice A r.keys.length c,.slice B r.ws.length d] 37) = W1 at hB1 hP1 ⊢
 have k0:=hP1.cell (i:=0) rfl
 have k1:=hP1.cell (i:=1) rfl
 have k2:=hP1.cell (i:=2) rfl
 have k3:=hP1.cell (i:=3) rfl
 have k4:=hP1.cell (i:=4) rfl
 have k5:=hP1.cell (i:=5) rfl
 have k6:=hP1.cell (i:=6) rfl
 have k7:=hP1.cell (i:=7) rfl
 have k8:=hP1.cell (i:=8) rfl
 have HB1:=Lib.hid hB1
 have HP1:=Lib.hid hP1
 clear hB1 hP1
 go_wp2_with fail
 go_ret
 exact ⟨rfl,HB1.out⟩
theorem must_any (A B:Option Addr) (c d:Nat) (r:Rec) (w:World) (ha:StrsAt w A r.keys) (hb:WrsAt w B r.ws) (hr:RecRng r) :
  Calls Tryz.prog 158 #[recV r A B c d] w fun e w'=>e = .returned (.bool (must r)) ∧ Below w.heap.size w w':=by
 by_cases h1:r.kind = 1
 ·exact must_1 A B c d r h1 w ha hb hr
 by_cases h2:r.kind = 2
 ·exact must_2 A B c d r h2 w
 by_cases h3:r.kind = 3
 ·exact must_3 A B c d r h3 w hr
 by_cases h5:r.kind = 5
 ·exact must_5 A B c d r h5 w
 by_cases h6:r.kind = 6
 ·exact must_6 A B c d r h6 w
 by_cases h7:r.kind = 7
 ·exact must_7 A B c d r h7 w
 exact must_no A B c d r ⟨h1,h2,h3,h5,h6,h7⟩ w
end Rc
end Go.Proofs.YtbkanoblcojdfaaGreat
namespace Go.Proofs.YtbkanoblcojdfaaGreat
namespace Lt
open Go.RowKit Bk
attribute [local go_sem ↓] Go.wp_at_zero Go.wp_at_succ
attribute [local go_sem] floatUpon pick
theorem own_wrs {w:World} {H c:Nat} {A:Option Addr} {e:TypeId} {l:List Wr} (h:w.ownsRow H e 3 (.slice A l.length c) l.length (wrV l)):WrsAt w A l ∧ l.length ≤ c ∧ c ≤ maxLen ∧ (A = none → l = [] ∧ c = 0):=by
 obtain ⟨A',c',e1,h1,h2,h3,h4⟩:=wrs_own h rfl
 simp only [Value.slice.injEq] at e1
 obtain ⟨rfl,_,rfl⟩:=e1
 exact ⟨h1,h2,h3,fun e=>⟨List.eq_nil_of_length_eq_zero (by have:=h4 e;omega),h4 e⟩⟩
theorem own_strs {w:World} {H c:Nat} {A:Option Addr} {e:TypeId} {l:List ByteArray} (h:w.ownsRow H e 1 (.slice A l.length c) l.length (strV l)):StrsAt w A l ∧ l.length ≤ c ∧ c ≤ maxLen ∧ (A = none → l = [] ∧ c = 0):=by
 obtain ⟨A',c',hv,hs⟩:=strs_of_own2 h rfl
 simp only [Value.slice.injEq] at hv
 obtain ⟨rfl,_,rfl⟩:=hv
 rcases h.2 with ⟨h1,h2⟩ | ⟨g,cap,cur,h1,_,_,h3,h4,_⟩
 ·simp only [Value.slice.injEq] at h1
  obtain ⟨rfl,hl,rfl⟩:=h1
  exact ⟨hs,by omega,Nat.zero_le _,fun _=>⟨List.eq_nil_of_length_eq_zero hl,rfl⟩⟩
 ·simp only [Value.slice.injEq] at h1
  obtain ⟨rfl,_,rfl⟩:=h1
  exact ⟨hs,h3,h4,fun e=>by cases e⟩
theorem set9_own {W:World} {H R s n:Nat} {e:TypeId} {v v0 v1 v2 v3 v4 v5 v6 v7 v8:Value} {xs:List Value} (h:W.ownsRow H e s v n xs) (hn:v.ownBlock ≠ some R):(set9 W R v0 v1 v2 v3 v4 v5 v6 v7 v8).ownsRow H e s v n xs :=
 ownsRow_setCell_other (a:=⟨R,8,none⟩) (ownsRow_setCell_other (a:=⟨R,7,none⟩) (ownsRow_setCell_other (a:=⟨R,6,none⟩) (ownsRow_setCell_other (a:=⟨R,5,none⟩) (ownsRow_setCell_other (a:=⟨R,4,none⟩) (ownsRow_setCell_other (a:=⟨R,3,none⟩) (ownsRow_setCell_other (a:=⟨R,2,none⟩) (ownsRow_setCell_other (a:=⟨R,1,none⟩) (ownsRow_setCell_other (a:=⟨R,0,none⟩) h hn _) hn _) hn _) hn _) hn _) hn _) hn _) hn _) hn _
end Lt
end Go.Proofs.YtbkanoblcojdfaaGreat
namespace Go.Proofs.YtbkanoblcojdfaaGreat
namespace Rc
open Go.RowKit Bk Lt
attribute [local go_sem ↓] Go.wp_at_zero Go.wp_at_succ
attribute [local go_sem] floatUpon pick
theorem rec_ext {x y:Rec} (h0:x.kind = y.kind) (h1:x.txn = y.txn) (h2:x.ts = y.ts) (h3:x.coord = y.coord) (h4:x.key = y.key) (h5:x.text = y.text) (h6:x.dead = y.dead) (h7:x.keys = y.keys) (h8:x.ws = y.ws):x = y:=by
 obtain ⟨a0,a1,a2,a3,a4,a5,a6,a7,a8⟩:=x
 obtain ⟨b0,b1,b2,b3,b4,b5,b6,b7,b8⟩:=y
 simp only at h0 h1 h2 h3 h4 h5 h6 h7 h8
 subst h0 h1 h2 h3 h4 h5 h6 h7 h8;rfl
noncomputable def sameB (x y:Rec):Bool:=@decide (x = y) (Classical.propDecidable _)
theorem sameB_true {x y:Rec} (h:x = y):sameB x y = true:=by unfold sameB;exact @decide_eq_true _ (Classical.propDecidable _) h
theorem sameB_false {x y:Rec} (h:¬ x = y):sameB x y = false:=by unfold sameB;exact @decide_eq_false _ (Classical.propDecidable _) h
theorem sameB_self (x:Rec):sameB x x = true:=sameB_true rfl
theorem sameB_parts (x y:Rec):sameB x y = (decide (x.kind = y.kind) && (decide (x.txn = y.txn) && (decide (x.ts = y.ts) && (decide (x.coord = y.coord) && (decide (x.key = y.key) && (decide (x.text = y.text) && (decide (x.dead = y.dead) && (decide (x.keys = y.keys) && decide (x.ws = y.ws))))))))):=by
 by_cases h:x = y
 ·subst h;rw [sameB_self];simp
 ·rw [sameB_false h]
  symm
  rw [Bool.eq_false_iff]
  intro hh
  simp only [Bool.and_eq_true,decide_eq_true_eq] at hh
  obtain ⟨h0,h1,h2,h3,h4,h5,h6,h7,h8⟩:=hh
  exact h (rec_ext h0 h1 h2 h3 h4 h5 h6 h7 h8)
theorem sameRec_any (A B A' B':Option Addr) (c d c' d':Nat) (x y:Rec) (w:World) (ha:StrsAt w A x.keys) (hb:WrsAt w B x.ws) (ha':StrsAt w A' y.keys) (hb':WrsAt w B' y.ws) (hn:x.keys.length ≤ 9223372036854775807) (hn2:x.ws.length ≤ 9223372036854775807) :
  Calls Tryz.prog 14 #[recV x A B c d,recV y A' B' c' d'] w fun e w'=>e = .returned (.bool (sameB x y)) ∧ Below w.heap.size w w':=by
 have HK:=Lib.hid (fun W (hbl:Below w.heap.size w W)=>same_any A A' c c' x.keys y.keys W (ha.below hbl) (ha'.below hbl) hn)
 have HW:=Lib.hid (fun W (hbl:Below w.heap.size w W)=>sameWrs_any B B' d d' x.ws y.ws W (hb.below hbl) (hb'.below hbl) hn2)
 unfold recV
 obtain ⟨s2,b1,b2⟩:=blk2 w (.cells #[.int .i64 x.kind,.int .i64 x.txn,.int .i64 x.ts,.int .i64 x.coord,.string x.key,.string x.text,.bool x.dead,.slice A x.keys.length c,.slice B x.ws.length d] 37) (.cells #[.int .i64 y.kind,.int .i64 y.txn,.int .i64 y.ts,.int .i64 y.coord,.string y.key,.string y.text,.bool y.dead,.slice A' y.keys.length c',.slice B' y.ws.length d'] 37)
 have hB:Below w.heap.size w ((w.alloc (.cells #[.int .i64 x.kind,.int .i64 x.txn,.int .i64 x.ts,.int .i64 x.coord,.string x.key,.string x.text,.bool x.dead,.slice A x.keys.length c,.slice B x.ws.length d] 37)).alloc (.cells #[.int .i64 y.kind,.int .i64 y.txn,.int .i64 y.ts,.int .i64 y.coord,.string y.key,.string y.text,.bool y.dead,.slice A' y.keys.length c',.slice B' y.ws.length d'] 37)) :=
  ((Below.refl _ w).alloc (Nat.le_refl _) _).alloc (by simp) _
 have HB:=Lib.hid hB
 have E:=Lib.hid (sameB_parts x y)
 have C1:Cel _ _ _ [_,_,_,_,_,_,_,_,_]:=b1
 have C2:Cel _ _ _ [_,_,_,_,_,_,_,_,_]:=b2
 have HC1:=Lib.hid C1
 have HC2:=Lib.hid C2
 clear hB s2 b1 b2 C1 C2 ha hb ha' hb' hn hn2
 go_enter Tryz.func14,Tryz.ntmps14
 go_upto_region 1 with fail
 generalize ((w.alloc (.cells #[.int .i64 x.kind,.int .i64 x.txn,.int .i64 x.ts,.int .i64 x.coord,.string x.key,.string x.text,.bool x.dead,.slice A x.keys.length c,.slice B x.ws.length d] 37)).alloc (.cells #[.int .i64 y.kind,.int .i64 y.txn,.int .i64 y.ts,.int .i64 y.coord,.string y.key,.string y.text,.bool y.dead,.slice A' y.keys.length c',.slice B' y.ws.length d'] 37)) = W1 at HB HC1 HC2 ⊢
 have p0:=HC1.out.cell (i:=0) rfl
 have p1:=HC1.out.cell (i:=1) rfl
 have p2:=HC1.out.cell (i:=2) rfl
 have p3:=HC1.out.cell (i:=3) rfl
 have p4:=HC1.out.cell (i:=4) rfl
 have p5:=HC1.out.cell (i:=5) rfl
 have p6:=HC1.out.cell (i:=6) rfl
 have p7:=HC1.out.cell (i:=7) rfl
 have p8:=HC1.out.cell (i:=8) rfl
 have q0:=HC2.out.cell (i:=0) rfl
 have q1:=HC2.out.cell (i:=1) rfl
 have q2:=HC2.out.cell (i:=2) rfl
 have q3:=HC2.out.cell (i:=3) rfl
 have q4:=HC2.out.cell (i:=4) rfl
 have q5:=HC2.out.cell (i:=5) rfl
 have q6:=HC2.out.cell (i:=6) rfl
 have q7:=HC2.out.cell (i:=7) rfl
 have q8:=HC2.out.cell (i:=8) rfl
 have e0:((x.kind == y.kind):Bool) = decide (x.kind = y.kind):=by rfl
 have e1:((x.txn == y.txn):Bool) = decide (x.txn = y.txn):=by rfl
 have e2:((x.ts == y.ts):Bool) = decide (x.ts = y.ts):=by rfl
 have e3:((x.coord == y.coord):Bool) = decide (x.coord = y.coord):=by rfl
 have e4:=eql_dec x.key y.key
 have e5:=eql_dec x.text y.text
 have e6:(x.dead == y.dead) = decide (x.dead = y.dead):=by cases x.dead <;> cases y.dead <;> rfl
 generalize decide (x.kind = y.kind) = r0 at *
 generalize decide (x.txn = y.txn) = r1 at *
 generalize decide (x.ts = y.ts) = r2 at *
 generalize decide (x.coord = y.coord) = r3 at *
 generalize decide (x.key = y.key) = r4 at *
 generalize decide (x.text = y.text) = r5 at *
 generalize decide (x.dead = y.dead) = r6 at *
 generalize decide (x.keys = y.keys) = r7 at *
 generalize decide (x.ws = y.ws) = r8 at *
 clear HC1 HC2
 cases r0 with
 | false =>
  go_wp2_with fail
  go_ret
  exact ⟨by rw [E.out];rfl,HB.out⟩
 | true =>
 cases r1 with
 | false =>
  go_wp2_with fail
  go_ret
  exact ⟨by rw [E.out];rfl,HB.out⟩
 | true =>
 cases r2 with
 | false =>
  go_wp2_with fail
  go_ret
  exact ⟨by rw [E.out];rfl,HB.out⟩
 | true =>
 cases r3 with
 | false =>
  go_wp2_with fail
  go_ret
  exact ⟨by rw [E.out];rfl,HB.out⟩
 | true =>
 cases r4 with
 | false =>
  go_wp2_with fail
  go_ret
  exact ⟨by rw [E.out];rfl,HB.out⟩
 | true =>
 cases r5 with
 | false =>
  go_wp2_with fail
  go_ret
  exact ⟨by rw [E.out];rfl,HB.out⟩
 | true =>
 cases r6 with
 | false =>
  go_wp2_with fail
  go_ret
  exact ⟨by rw [E.out];rfl,HB.out⟩
 | true =>
 cases r7 with
 | false =>
  go_wp2_with fail
  refine (HK.out _ HB.out).mono ?_
  rintro e w2 ⟨rfl,n,rfl⟩
  have HB2:Hid (Below w.heap.size w (W1.drewN n)):=Lib.hid ⟨HB.out.1,HB.out.2,HB.out.3,HB.out.4,HB.out.5⟩
  go_wp2_with fail
  go_ret
  exact ⟨by rw [E.out];rfl,HB2.out⟩
 | true =>
  go_wp2_with fail
  refine (HK.out _ HB.out).mono ?_
  rintro e w2 ⟨rfl,n,rfl⟩
  have HB2:Hid (Below w.heap.size w (W1.drewN n)):=Lib.hid ⟨HB.out.1,HB.out.2,HB.out.3,HB.out.4,HB.out.5⟩
  have k8:(W1.drewN n).cell? ⟨w.heap.size,8,none⟩ = some (.slice B x.ws.length d):=p8
  have m8:(W1.drewN n).cell? ⟨w.heap.size + 1,8,none⟩ = some (.slice B' y.ws.length d'):=q8
  clear HB HK p0 p1 p2 p3 p4 p5 p6 p7 p8 q0 q1 q2 q3 q4 q5 q6 q7 q8
  generalize W1.drewN n = W2 at *
  go_wp2_with fail
  refine (HW.out _ HB2.out).mono ?_
  rintro e w3 ⟨rfl,hb⟩
  have HB3:=Lib.hid (HB2.out.trans (hb.mono HB2.out.size))
  clear hb HB2 HW
  go_wp2_with fail
  go_ret
  exact ⟨by rw [E.out];simp,HB3.out⟩
def CheckAll:Prop:=∀ (A B:Option Addr) (c d:Nat) (r:Rec) (w:World),RecVal w A B c d r →
 Calls Tryz.prog 39 #[recV r A B c d] w fun e w'=>e = .returned (.int .i64 (ckN r:Int)) ∧ Below w.heap.size w w'
def EncodeAll:Prop:=∀ (A B:Option Addr) (c d:Nat) (r:Rec) (w:World),RecVal w A B c d r →
 Calls Tryz.prog 135 #[recV r A B c d] w fun e w'=>e = .returned (encV r) ∧ Below w.heap.size w w'
theorem nil_strs (w:World) (A:Option Addr):StrsAt w A []:=fun h=>absurd h (by simp)
theorem nil_wrs (w:World) (A:Option Addr):WrsAt w A []:=fun h=>absurd h (by simp)
def bareR (k t s:Int):Rec:=⟨k,t,s,0,⟨#[]⟩,⟨#[]⟩,false,[],[]⟩
theorem bare_val (w:World) (k t s:Int) (h:RecOk (bareR k t s)):RecVal w none none 0 0 (bareR k t s) :=
 ⟨nil_strs _ _,nil_wrs _ _,⟨h.rng,Nat.le_refl _,Nat.le_refl _,Nat.zero_le _,Nat.zero_le _⟩,fun _=>⟨rfl,rfl⟩,fun _=>⟨rfl,rfl⟩⟩
theorem no_val (w:World):RecVal w none none 0 0 noRec:=by
 refine ⟨nil_strs _ _,nil_wrs _ _,⟨⟨?_,?_,?_,?_,Nat.zero_le _,Nat.zero_le _,Nat.zero_le _,Nat.zero_le _,fun s h=>absurd h (by simp [noRec]),fun x h=>absurd h (by simp [noRec])⟩,Nat.le_refl _,Nat.le_refl _,Nat.zero_le _,Nat.zero_le _⟩,fun _=>⟨rfl,rfl⟩,fun _=>⟨rfl,rfl⟩⟩ <;> (show (-9223372036854775808:Int) ≤ 0 ∧ (0:Int) ≤ 9223372036854775807;omega)
end Rc
end Go.Proofs.YtbkanoblcojdfaaGreat
