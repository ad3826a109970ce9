/- Parts of the proof, joined: RcDone1; their conditions stand with each. -/
import Derived.Laws.StructEq
import Derived.Test.YtlfkhlfkckfbpaaGreatC2

set_option maxRecDepth 20000
set_option maxHeartbeats 8000000
namespace Go.Proofs.YtlfkhlfkckfbpaaGreat
namespace Rc
open Go.RowKit Bk Lt
attribute [local go_sem ↓] Go.wp_at_zero Go.wp_at_succ
attribute [local go_sem] floatUpon pick
theorem rwithin_any (n a b:Int) (w:World) :
  Calls Tryz.prog 177 #[.int .i64 n,.int .i64 a,.int .i64 b] w fun e w'=>e = .returned (.bool (decide (a ≤ n) && decide (n ≤ b))) ∧ w' = w:=by
 by_cases h1:a ≤ n
 ·have E:=Lib.hid (show (decide (a ≤ n) && decide (n ≤ b)) = decide (n ≤ b) by rw [decide_eq_true h1,Bool.true_and])
  go_enter Tryz.func177,Tryz.ntmps177
  go_wp2_with fail
  go_ret
  exact ⟨by rw [E.out];rfl,rfl⟩
 ·have E:=Lib.hid (show (decide (a ≤ n) && decide (n ≤ b)) = false by rw [decide_eq_false h1,Bool.false_and])
  have h2:n < a:=by omega
  clear h1
  go_enter Tryz.func177,Tryz.ntmps177
  go_wp2_with fail
  go_ret
  exact ⟨by rw [E.out];rfl,rfl⟩
theorem fromBool_any (b:Bool) (w:World) :
  Calls Tryz.prog 134 #[.bool b] w fun e w'=>e = .returned (.int .i64 (flag b)) ∧ w' = w:=by
 cases b with
 | false =>
  go_enter Tryz.func134,Tryz.ntmps134
  go_wp2_with fail
  go_ret
  exact ⟨rfl,rfl⟩
 | true =>
  go_enter Tryz.func134,Tryz.ntmps134
  go_wp2_with fail
  go_ret
  exact ⟨rfl,rfl⟩
theorem toBool_any (n:Int) (w:World) :
  Calls Tryz.prog 124 #[.int .i64 n] w fun e w'=>e = .returned (.tuple #[.bool (n == 1),.bool (decide (n = 0 ∨ n = 1))]) ∧ w' = w:=by
 have H1:=Lib.hid (rwithin_any n 0 1 w)
 rw [show (decide (0 ≤ n) && decide (n ≤ 1)) = decide (n = 0 ∨ n = 1) by rw [← Bool.decide_and];congr 1;exact propext ⟨fun h=>by omega,fun h=>by omega⟩] at H1
 generalize decide (n = 0 ∨ n = 1) = b at *
 by_cases h1:n = 1
 ·subst h1
  go_enter Tryz.func124,Tryz.ntmps124
  go_wp2_with fail
  refine H1.out.mono ?_
  rintro e w1 ⟨rfl,rfl⟩
  go_wp2_with fail
  go_ret2
  exact ⟨rfl,rfl⟩
 ·have q1:(n == 1) = false:=by simpa using h1
  have E:=Lib.hid q1
  clear h1
  go_enter Tryz.func124,Tryz.ntmps124
  go_wp2_with fail
  refine H1.out.mono ?_
  rintro e w1 ⟨rfl,rfl⟩
  go_wp2_with fail
  go_ret2
  exact ⟨by rw [E.out];rfl,rfl⟩
structure Fl where
 kind:Int
 txn:Int
 ts:Int
 coord:Int
 key:ByteArray
 text:ByteArray
 dead:Bool
 keys:Int
 writes:Int
def flV (f:Fl):Value:=.agg #[.int .i64 f.kind,.int .i64 f.txn,.int .i64 f.ts,.int .i64 f.coord,.string f.key,.string f.text,.bool f.dead,.int .i64 f.keys,.int .i64 f.writes]
def flOf (r:Rec):Fl:=⟨r.kind,r.txn,r.ts,r.coord,r.key,r.text,r.dead,(r.keys.length:Int),(r.ws.length:Int)⟩
def flZ:Fl:=⟨0,0,0,0,⟨#[]⟩,⟨#[]⟩,false,0,0⟩
theorem flatten_any (A B:Option Addr) (c d:Nat) (r:Rec) (w:World) :
  Calls Tryz.prog 126 #[recV r A B c d] w fun e w'=>e = .returned (flV (flOf r)) ∧ Below w.heap.size w w':=by
 unfold recV
 go_enter Tryz.func126,Tryz.ntmps126
 go_upto_region 1 with fail
 have hB1:Below w.heap.size w ((w.alloc (.cells #[.int .i64 r.kind,.int .i64 r.txn,.int .i64 r.ts,.int .i64 r.coord,.string r.key,.string r.text,.bool r.dead,.slice A r.keys.length c,.slice B r.ws.length d] 60)).alloc (.cells #[.int .i64 0,.int .i64 0,.int .i64 0,.int .i64 0,.string ⟨#[]⟩,.string ⟨#[]⟩,.bool false,.int .i64 0,.int .i64 0] 199)):=((Below.refl _ w).alloc (Nat.le_refl _) _).alloc (by simp) _
 have hP1:Cel ((w.alloc (.cells #[.int .i64 r.kind,.int .i64 r.txn,.int .i64 r.ts,.int .i64 r.coord,.string r.key,.string r.text,.bool r.dead,.slice A r.keys.length c,.slice B r.ws.length d] 60)).alloc (.cells #[.int .i64 0,.int .i64 0,.int .i64 0,.int .i64 0,.string ⟨#[]⟩,.string ⟨#[]⟩,.bool false,.int .i64 0,.int .i64 0] 199)) w.heap.size 60 [.int .i64 r.kind,.int .i64 r.txn,.int .i64 r.ts,.int .i64 r.coord,.string r.key,.string r.text,.bool r.dead,.slice A r.keys.length c,.slice B r.ws.length d]:=(blk2 w _ _).2.1
 have hR1:Cel ((w.alloc (.cells #[.int .i64 r.kind,.int .i64 r.txn,.int .i64 r.ts,.int .i64 r.coord,.string r.key,.string r.text,.bool r.dead,.slice A r.keys.length c,.slice B r.ws.length d] 60)).alloc (.cells #[.int .i64 0,.int .i64 0,.int .i64 0,.int .i64 0,.string ⟨#[]⟩,.string ⟨#[]⟩,.bool false,.int .i64 0,.int .i64 0] 199)) (w.heap.size + 1) 199 [.int .i64 0,.int .i64 0,.int .i64 0,.int .i64 0,.string ⟨#[]⟩,.string ⟨#[]⟩,.bool false,.int .i64 0,.int .i64 0]:=(blk2 w _ _).2.2
 generalize (w.alloc (.cells #[.int .i64 r.kind,.int .i64 r.txn,.int .i64 r.ts,.int .i64 r.coord,.string r.key,.string r.text,.bool r.dead,.slice A r.keys.length c,.slice B r.ws.length d] 60)).alloc (.cells #[.int .i64 0,.int .i64 0,.int .i64 0,.int .i64 0,.string ⟨#[]⟩,.string ⟨#[]⟩,.bool false,.int .i64 0,.int .i64 0] 199) = W1 at hB1 hP1 hR1 ⊢
 have k0:=hP1.cell (i:=0) rfl
 have k1:=hP1.cell (i:=1) rfl
 have k2:=hP1.cell (i:=2) rfl
 have k3:=hP1.cell (i:=3) rfl
 have k4:=hP1.cell (i:=4) rfl
 have k5:=hP1.cell (i:=5) rfl
 have k6:=hP1.cell (i:=6) rfl
 have k7:=hP1.cell (i:=7) rfl
 have k8:=hP1.cell (i:=8) rfl
 have zq:=fun i=>hR1.free (i:=i)
 have y0:=hR1.cell (i:=0) rfl
 have y1:=hR1.cell (i:=1) rfl
 have y2:=hR1.cell (i:=2) rfl
 have y3:=hR1.cell (i:=3) rfl
 have y4:=hR1.cell (i:=4) rfl
 have y5:=hR1.cell (i:=5) rfl
 have y6:=hR1.cell (i:=6) rfl
 have y7:=hR1.cell (i:=7) rfl
 have y8:=hR1.cell (i:=8) rfl
 have HB1:=Lib.hid hB1
 have HR1:=Lib.hid hR1
 clear hB1 hR1 hP1
 go_wp2_with fail
 have HF:=Lib.hid (set9_cel (v0:=.int .i64 r.kind) (v1:=.int .i64 r.txn) (v2:=.int .i64 r.ts) (v3:=.int .i64 r.coord) (v4:=.string r.key) (v5:=.string r.text) (v6:=.bool r.dead) (v7:=.int .i64 (r.keys.length:Int)) (v8:=.int .i64 (r.ws.length:Int)) HR1.out)
 have z0:=HF.out.cell (i:=0) rfl
 have z1:=HF.out.cell (i:=1) rfl
 have z2:=HF.out.cell (i:=2) rfl
 have z3:=HF.out.cell (i:=3) rfl
 have z4:=HF.out.cell (i:=4) rfl
 have z5:=HF.out.cell (i:=5) rfl
 have z6:=HF.out.cell (i:=6) rfl
 have z7:=HF.out.cell (i:=7) rfl
 have z8:=HF.out.cell (i:=8) rfl
 unfold set9 at z0 z1 z2 z3 z4 z5 z6 z7 z8
 exact bodyPost_ret (v:=flV (flOf r)) (by simp [results,Tryz.results126,go_sem,flV,flOf,z0,z1,z2,z3,z4,z5,z6,z7,z8]) rfl ⟨rfl,set9_below HB1.out (Nat.le_succ _)⟩
def unF (f:Fl):Fl × Bool :=
 if f.kind = 1 then (⟨0,0,0,0,f.key,f.text,f.dead,0,0⟩,true) else
 if f.kind = 2 ∨ f.kind = 5 then (⟨0,0,0,f.coord,f.key,f.text,f.dead,f.keys,f.writes⟩,true) else
 if f.kind = 3 then (⟨0,f.txn,0,f.coord,⟨#[]⟩,⟨#[]⟩,false,f.keys,f.writes⟩,true) else
 if f.kind = 4 ∨ f.kind = 7 then (⟨0,f.txn,0,f.coord,f.key,f.text,f.dead,f.keys,f.writes⟩,true) else
 if f.kind = 6 then (⟨0,0,f.ts,f.coord,f.key,f.text,f.dead,f.keys,f.writes⟩,true) else (flZ,false)
theorem set_below {w W:World} {H g i:Nat} {v:Value} (h:Below H w W) (hg:H ≤ g):Below H w (W.setCell ⟨g,i,none⟩ v):=h.setCell hg v
theorem unnamed_1 (f:Fl) (hk:f.kind = 1) (w:World) :
  Calls Tryz.prog 127 #[flV f] w fun e w'=>e = .returned (.tuple #[flV (unF f).1,.bool (unF f).2]) ∧ Below w.heap.size w w':=by
 have E:=Lib.hid (show unF f = (⟨0,0,0,0,f.key,f.text,f.dead,0,0⟩,true) from by unfold unF;simp [hk])
 rw [E.out]
 unfold flV
 rw [hk]
 simp only
 go_enter Tryz.func127,Tryz.ntmps127
 go_upto_region 1 with fail
 have hB1:Below w.heap.size w ((w.alloc (.cells #[.int .i64 1,.int .i64 f.txn,.int .i64 f.ts,.int .i64 f.coord,.string f.key,.string f.text,.bool f.dead,.int .i64 f.keys,.int .i64 f.writes] 199)).alloc (.cells #[.int .i64 0,.int .i64 0,.int .i64 0,.int .i64 0,.string ⟨#[]⟩,.string ⟨#[]⟩,.bool false,.int .i64 0,.int .i64 0] 199)):=((Below.refl _ w).alloc (Nat.le_refl _) _).alloc (by simp) _
 have hP1:Cel ((w.alloc (.cells #[.int .i64 1,.int .i64 f.txn,.int .i64 f.ts,.int .i64 f.coord,.string f.key,.string f.text,.bool f.dead,.int .i64 f.keys,.int .i64 f.writes] 199)).alloc (.cells #[.int .i64 0,.int .i64 0,.int .i64 0,.int .i64 0,.string ⟨#[]⟩,.string ⟨#[]⟩,.bool false,.int .i64 0,.int .i64 0] 199)) w.heap.size 199 [.int .i64 1,.int .i64 f.txn,.int .i64 f.ts,.int .i64 f.coord,.string f.key,.string f.text,.bool f.dead,.int .i64 f.keys,.int .i64 f.writes]:=(blk2 w _ _).2.1
 have hR1:Cel ((w.alloc (.cells #[.int .i64 1,.int .i64 f.txn,.int .i64 f.ts,.int .i64 f.coord,.string f.key,.string f.text,.bool f.dead,.int .i64 f.keys,.int .i64 f.writes] 199)).alloc (.cells #[.int .i64 0,.int .i64 0,.int .i64 0,.int .i64 0,.string ⟨#[]⟩,.string ⟨#[]⟩,.bool false,.int .i64 0,.int .i64 0] 199)) (w.heap.size + 1) 199 [.int .i64 0,.int .i64 0,.int .i64 0,.int .i64 0,.string ⟨#[]⟩,.string ⟨#[]⟩,.bool false,.int .i64 0,.int .i64 0]:=(blk2 w _ _).2.2
 generalize (w.alloc (.cells #[.int .i64 1,.int .i64 f.txn,.int .i64 f.ts,.int .i64 f.coord,.string f.key,.string f.text,.bool f.dead,.int .i64 f.keys,.int .i64 f.writes] 199)).alloc (.cells #[.int .i64 0,.int .i64 0,.int .i64 0,.int .i64 0,.string ⟨#[]⟩,.string ⟨#[]⟩,.bool false,.int .i64 0,.int .i64 0] 199) = W1 at hB1 hP1 hR1 ⊢
 have hne:w.heap.size + 1 ≠ w.heap.size:=by omega
 have k0:=hP1.cell (i:=0) rfl
 have k1:=hP1.cell (i:=1) rfl
 have k2:=hP1.cell (i:=2) rfl
 have k3:=hP1.cell (i:=3) rfl
 have k4:=hP1.cell (i:=4) rfl
 have k5:=hP1.cell (i:=5) rfl
 have k6:=hP1.cell (i:=6) rfl
 have k7:=hP1.cell (i:=7) rfl
 have k8:=hP1.cell (i:=8) rfl
 have kq:=fun i=>hP1.free (i:=i)
 have HB1:=Lib.hid hB1
 have HR1:=Lib.hid hR1
 have HP1:=Lib.hid hP1
 clear hB1 hR1 hP1 hk
 go_upto_region 15 with fail
 have hP2:=(((((HP1.out.set (i:=1) (v:=.int .i64 0)).set (i:=2) (v:=.int .i64 0)).set (i:=3) (v:=.int .i64 0)).set (i:=7) (v:=.int .i64 0)).set (i:=8) (v:=.int .i64 0))
 have hR2:=(((((HR1.out.far (i:=1) (v:=.int .i64 0) hne).far (i:=2) (v:=.int .i64 0) hne).far (i:=3) (v:=.int .i64 0) hne).far (i:=7) (v:=.int .i64 0) hne).far (i:=8) (v:=.int .i64 0) hne)
 have hB2:=(set_below (set_below (set_below (set_below (set_below HB1.out (i:=1) (v:=.int .i64 0) (Nat.le_refl _)) (i:=2) (v:=.int .i64 0) (Nat.le_refl _)) (i:=3) (v:=.int .i64 0) (Nat.le_refl _)) (i:=7) (v:=.int .i64 0) (Nat.le_refl _)) (i:=8) (v:=.int .i64 0) (Nat.le_refl _))
 simp only [List.set_cons_succ,List.set_cons_zero] at hP2
 generalize (((((W1.setCell ⟨w.heap.size,1,none⟩ (.int .i64 0)).setCell ⟨w.heap.size,2,none⟩ (.int .i64 0)).setCell ⟨w.heap.size,3,none⟩ (.int .i64 0)).setCell ⟨w.heap.size,7,none⟩ (.int .i64 0)).setCell ⟨w.heap.size,8,none⟩ (.int .i64 0)) = W2 at hP2 hR2 hB2 ⊢
 clear HB1 HR1 HP1 k0 k1 k2 k3 k4 k5 k6 k7 k8 kq
 have k0:=hP2.cell (i:=0) rfl
 have k1:=hP2.cell (i:=1) rfl
 have k2:=hP2.cell (i:=2) rfl
 have k3:=hP2.cell (i:=3) rfl
 have k4:=hP2.cell (i:=4) rfl
 have k5:=hP2.cell (i:=5) rfl
 have k6:=hP2.cell (i:=6) rfl
 have k7:=hP2.cell (i:=7) rfl
 have k8:=hP2.cell (i:=8) rfl
 have kq:=fun i=>hP2.free (i:=i)
 have HB2:=Lib.hid hB2
 have HR2:=Lib.hid hR2
 have HP2:=Lib.hid hP2
 clear hB2 hR2 hP2
 go_upto_region 16 with fail
 have hP3:=HP2.out.set (i:=0) (v:=.int .i64 0)
 have hR3:=HR2.out.far (i:=0) (v:=.int .i64 0) hne
 have hB3:=set_below HB2.out (i:=0) (v:=.int .i64 0) (Nat.le_refl _)
 simp only [List.set_cons_zero] at hP3
 generalize W2.setCell ⟨w.heap.size,0,none⟩ (.int .i64 0) = W3 at hP3 hR3 hB3 ⊢
 clear HB2 HR2 HP2 k0 k1 k2 k3 k4 k5 k6 k7 k8 kq
 have k0:=hP3.cell (i:=0) rfl
 have k1:=hP3.cell (i:=1) rfl
 have k2:=hP3.cell (i:=2) rfl
 have k3:=hP3.cell (i:=3) rfl
 have k4:=hP3.cell (i:=4) rfl
 have k5:=hP3.cell (i:=5) rfl
 have k6:=hP3.cell (i:=6) rfl
 have k7:=hP3.cell (i:=7) rfl
 have k8:=hP3.cell (i:=8) rfl
 have y0:=hR3.cell (i:=0) rfl
 have y1:=hR3.cell (i:=1) rfl
 have y2:=hR3.cell (i:=2) rfl
 have y3:=hR3.cell (i:=3) rfl
 have y4:=hR3.cell (i:=4) rfl
 have y5:=hR3.cell (i:=5) rfl
 have y6:=hR3.cell (i:=6) rfl
 have y7:=hR3.cell (i:=7) rfl
 have y8:=hR3.cell (i:=8) rfl
 have kq:=fun i=>hR3.free (i:=i)
 have HB3:=Lib.hid hB3
 have HR3:=Lib.hid hR3
 clear hB3 hR3 hP3
 go_wp2_with fail
 have HF:=Lib.hid (set9_cel (v0:=.int .i64 0) (v1:=.int .i64 0) (v2:=.int .i64 0) (v3:=.int .i64 0) (v4:=.string f.key) (v5:=.string f.text) (v6:=.bool f.dead) (v7:=.int .i64 0) (v8:=.int .i64 0) HR3.out)
 have z0:=HF.out.cell (i:=0) rfl
 have z1:=HF.out.cell (i:=1) rfl
 have z2:=HF.out.cell (i:=2) rfl
 have z3:=HF.out.cell (i:=3) rfl
 have z4:=HF.out.cell (i:=4) rfl
 have z5:=HF.out.cell (i:=5) rfl
 have z6:=HF.out.cell (i:=6) rfl
 have z7:=HF.out.cell (i:=7) rfl
 have z8:=HF.out.cell (i:=8) rfl
 unfold set9 at z0 z1 z2 z3 z4 z5 z6 z7 z8
 exact bodyPost_ret (v:=.tuple #[flV (⟨0,0,0,0,f.key,f.text,f.dead,0,0⟩),.bool true]) (by simp [results,Tryz.results127,go_sem,flV,z0,z1,z2,z3,z4,z5,z6,z7,z8]) rfl ⟨rfl,set9_below HB3.out (Nat.le_succ _)⟩
theorem unnamed_2 (f:Fl) (hk:f.kind = 2) (w:World) :
  Calls Tryz.prog 127 #[flV f] w fun e w'=>e = .returned (.tuple #[flV (unF f).1,.bool (unF f).2]) ∧ Below w.heap.size w w':=by
 have E:=Lib.hid (show unF f = (⟨0,0,0,f.coord,f.key,f.text,f.dead,f.keys,f.writes⟩,true) from by unfold unF;simp [hk])
 rw [E.out]
 unfold flV
 rw [hk]
 simp only
 go_enter Tryz.func127,Tryz.ntmps127
 go_upto_region 1 with fail
 have hB1:Below w.heap.size w ((w.alloc (.cells #[.int .i64 2,.int .i64 f.txn,.int .i64 f.ts,.int .i64 f.coord,.string f.key,.string f.text,.bool f.dead,.int .i64 f.keys,.int .i64 f.writes] 199)).alloc (.cells #[.int .i64 0,.int .i64 0,.int .i64 0,.int .i64 0,.string ⟨#[]⟩,.string ⟨#[]⟩,.bool false,.int .i64 0,.int .i64 0] 199)):=((Below.refl _ w).alloc (Nat.le_refl _) _).alloc (by simp) _
 have hP1:Cel ((w.alloc (.cells #[.int .i64 2,.int .i64 f.txn,.int .i64 f.ts,.int .i64 f.coord,.string f.key,.string f.text,.bool f.dead,.int .i64 f.keys,.int .i64 f.writes] 199)).alloc (.cells #[.int .i64 0,.int .i64 0,.int .i64 0,.int .i64 0,.string ⟨#[]⟩,.string ⟨#[]⟩,.bool false,.int .i64 0,.int .i64 0] 199)) w.heap.size 199 [.int .i64 2,.int .i64 f.txn,.int .i64 f.ts,.int .i64 f.coord,.string f.key,.string f.text,.bool f.dead,.int .i64 f.keys,.int .i64 f.writes]:=(blk2 w _ _).2.1
 have hR1:Cel ((w.alloc (.cells #[.int .i64 2,.int .i64 f.txn,.int .i64 f.ts,.int .i64 f.coord,.string f.key,.string f.text,.bool f.dead,.int .i64 f.keys,.int .i64 f.writes] 199)).alloc (.cells #[.int .i64 0,.int .i64 0,.int .i64 0,.int .i64 0,.string ⟨#[]⟩,.string ⟨#[]⟩,.bool false,.int .i64 0,.int .i64 0] 199)) (w.heap.size + 1) 199 [.int .i64 0,.int .i64 0,.int .i64 0,.int .i64 0,.string ⟨#[]⟩,.string ⟨#[]⟩,.bool false,.int .i64 0,.int .i64 0]:=(blk2 w _ _).2.2
 generalize (w.alloc (.cells #[.int .i64 2,.int .i64 f.txn,.int .i64 f.ts,.int .i64 f.coord,.string f.key,.string f.text,.bool f.dead,.int .i64 f.keys,.int .i64 f.writes] 199)).alloc (.cells #[.int .i64 0,.int .i64 0,.int .i64 0,.int .i64 0,.string ⟨#[]⟩,.string ⟨#[]⟩,.bool false,.int .i64 0,.int .i64 0] 199) = W1 at hB1 hP1 hR1 ⊢
 have hne:w.heap.size + 1 ≠ w.heap.size:=by omega
 have k0:=hP1.cell (i:=0) rfl
 have k1:=hP1.cell (i:=1) rfl
 have k2:=hP1.cell (i:=2) rfl
 have k3:=hP1.cell (i:=3) rfl
 have k4:=hP1.cell (i:=4) rfl
 have k5:=hP1.cell (i:=5) rfl
 have k6:=hP1.cell (i:=6) rfl
 have k7:=hP1.cell (i:=7) rfl
 have k8:=hP1.cell (i:=8) rfl
 have kq:=fun i=>hP1.free (i:=i)
 have HB1:=Lib.hid hB1
 have HR1:=Lib.hid hR1
 have HP1:=Lib.hid hP1
 clear hB1 hR1 hP1 hk
 go_upto_region 15 with fail
 have hP2:=((HP1.out.set (i:=1) (v:=.int .i64 0)).set (i:=2) (v:=.int .i64 0))
 have hR2:=((HR1.out.far (i:=1) (v:=.int .i64 0) hne).far (i:=2) (v:=.int .i64 0) hne)
 have hB2:=(set_below (set_below HB1.out (i:=1) (v:=.int .i64 0) (Nat.le_refl _)) (i:=2) (v:=.int .i64 0) (Nat.le_refl _))
 simp only [List.set_cons_succ,List.set_cons_zero] at hP2
 generalize ((W1.setCell ⟨w.heap.size,1,none⟩ (.int .i64 0)).setCell ⟨w.heap.size,2,none⟩ (.int .i64 0)) = W2 at hP2 hR2 hB2 ⊢
 clear HB1 HR1 HP1 k0 k1 k2 k3 k4 k5 k6 k7 k8 kq
 have k0:=hP2.cell (i:=0) rfl
 have k1:=hP2.cell (i:=1) rfl
 have k2:=hP2.cell (i:=2) rfl
 have k3:=hP2.cell (i:=3) rfl
 have k4:=hP2.cell (i:=4) rfl
 have k5:=hP2.cell (i:=5) rfl
 have k6:=hP2.cell (i:=6) rfl
 have k7:=hP2.cell (i:=7) rfl
 have k8:=hP2.cell (i:=8) rfl
 have kq:=fun i=>hP2.free (i:=i)
 have HB2:=Lib.hid hB2
 have HR2:=Lib.hid hR2
 have HP2:=Lib.hid hP2
 clear hB2 hR2 hP2
 go_upto_region 16 with fail
 have hP3:=HP2.out.set (i:=0) (v:=.int .i64 0)
 have hR3:=HR2.out.far (i:=0) (v:=.int .i64 0) hne
 have hB3:=set_below HB2.out (i:=0) (v:=.int .i64 0) (Nat.le_refl _)
 simp only [List.set_cons_zero] at hP3
 generalize W2.setCell ⟨w.heap.size,0,none⟩ (.int .i64 0) = W3 at hP3 hR3 hB3 ⊢
 clear HB2 HR2 HP2 k0 k1 k2 k3 k4 k5 k6 k7 k8 kq
 have k0:=hP3.cell (i:=0) rfl
 have k1:=hP3.cell (i:=1) rfl
 have k2:=hP3.cell (i:=2) rfl
 have k3:=hP3.cell (i:=3) rfl
 have k4:=hP3.cell (i:=4) rfl
 have k5:=hP3.cell (i:=5) rfl
 have k6:=hP3.cell (i:=6) rfl
 have k7:=hP3.cell (i:=7) rfl
 have k8:=hP3.cell (i:=8) rfl
 have y0:=hR3.cell (i:=0) rfl
 have y1:=hR3.cell (i:=1) rfl
 have y2:=hR3.cell (i:=2) rfl
 have y3:=hR3.cell (i:=3) rfl
 have y4:=hR3.cell (i:=4) rfl
 have y5:=hR3.cell (i:=5) rfl
 have y6:=hR3.cell (i:=6) rfl
 have y7:=hR3.cell (i:=7) rfl
 have y8:=hR3.cell (i:=8) rfl
 have kq:=fun i=>hR3.free (i:=i)
 have HB3:=Lib.hid hB3
 have HR3:=Lib.hid hR3
 clear hB3 hR3 hP3
 go_wp2_with fail
 have HF:=Lib.hid (set9_cel (v0:=.int .i64 0) (v1:=.int .i64 0) (v2:=.int .i64 0) (v3:=.int .i64 f.coord) (v4:=.string f.key) (v5:=.string f.text) (v6:=.bool f.dead) (v7:=.int .i64 f.keys) (v8:=.int .i64 f.writes) HR3.out)
 have z0:=HF.out.cell (i:=0) rfl
 have z1:=HF.out.cell (i:=1) rfl
 have z2:=HF.out.cell (i:=2) rfl
 have z3:=HF.out.cell (i:=3) rfl
 have z4:=HF.out.cell (i:=4) rfl
 have z5:=HF.out.cell (i:=5) rfl
 have z6:=HF.out.cell (i:=6) rfl
 have z7:=HF.out.cell (i:=7) rfl
 have z8:=HF.out.cell (i:=8) rfl
 unfold set9 at z0 z1 z2 z3 z4 z5 z6 z7 z8
 exact bodyPost_ret (v:=.tuple #[flV (⟨0,0,0,f.coord,f.key,f.text,f.dead,f.keys,f.writes⟩),.bool true]) (by simp [results,Tryz.results127,go_sem,flV,z0,z1,z2,z3,z4,z5,z6,z7,z8]) rfl ⟨rfl,set9_below HB3.out (Nat.le_succ _)⟩
theorem unnamed_5 (f:Fl) (hk:f.kind = 5) (w:World) :
  Calls Tryz.prog 127 #[flV f] w fun e w'=>e = .returned (.tuple #[flV (unF f).1,.bool (unF f).2]) ∧ Below w.heap.size w w':=by
 have E:=Lib.hid (show unF f = (⟨0,0,0,f.coord,f.key,f.text,f.dead,f.keys,f.writes⟩,true) from by unfold unF;simp [hk])
 rw [E.out]
 unfold flV
 rw [hk]
 simp only
 go_enter Tryz.func127,Tryz.ntmps127
 go_upto_region 1 with fail
 have hB1:Below w.heap.size w ((w.alloc (.cells #[.int .i64 5,.int .i64 f.txn,.int .i64 f.ts,.int .i64 f.coord,.string f.key,.string f.text,.bool f.dead,.int .i64 f.keys,.int .i64 f.writes] 199)).alloc (.cells #[.int .i64 0,.int .i64 0,.int .i64 0,.int .i64 0,.string ⟨#[]⟩,.string ⟨#[]⟩,.bool false,.int .i64 0,.int .i64 0] 199)):=((Below.refl _ w).alloc (Nat.le_refl _) _).alloc (by simp) _
 have hP1:Cel ((w.alloc (.cells #[.int .i64 5,.int .i64 f.txn,.int .i64 f.ts,.int .i64 f.coord,.string f.key,.string f.text,.bool f.dead,.int .i64 f.keys,.int .i64 f.writes] 199)).alloc (.cells #[.int .i64 0,.int .i64 0,.int .i64 0,.int .i64 0,.string ⟨#[]⟩,.string ⟨#[]⟩,.bool false,.int .i64 0,.int .i64 0] 199)) w.heap.size 199 [.int .i64 5,.int .i64 f.txn,.int .i64 f.ts,.int .i64 f.coord,.string f.key,.string f.text,.bool f.dead,.int .i64 f.keys,.int .i64 f.writes]:=(blk2 w _ _).2.1
 have hR1:Cel ((w.alloc (.cells #[.int .i64 5,.int .i64 f.txn,.int .i64 f.ts,.int .i64 f.coord,.string f.key,.string f.text,.bool f.dead,.int .i64 f.keys,.int .i64 f.writes] 199)).alloc (.cells #[.int .i64 0,.int .i64 0,.int .i64 0,.int .i64 0,.string ⟨#[]⟩,.string ⟨#[]⟩,.bool false,.int .i64 0,.int .i64 0] 199)) (w.heap.size + 1) 199 [.int .i64 0,.int .i64 0,.int .i64 0,.int .i64 0,.string ⟨#[]⟩,.string ⟨#[]⟩,.bool false,.int .i64 0,.int .i64 0]:=(blk2 w _ _).2.2
 generalize (w.alloc (.cells #[.int .i64 5,.int .i64 f.txn,.int .i64 f.ts,.int .i64 f.coord,.string f.key,.string f.text,.bool f.dead,.int .i64 f.keys,.int .i64 f.writes] 199)).alloc (.cells #[.int .i64 0,.int .i64 0,.int .i64 0,.int .i64 0,.string ⟨#[]⟩,.string ⟨#[]⟩,.bool false,.int .i64 0,.int .i64 0] 199) = W1 at hB1 hP1 hR1 ⊢
 have hne:w.heap.size + 1 ≠ w.heap.size:=by omega
 have k0:=hP1.cell (i:=0) rfl
 have k1:=hP1.cell (i:=1) rfl
 have k2:=hP1.cell (i:=2) rfl
 have k3:=hP1.cell (i:=3) rfl
 have k4:=hP1.cell (i:=4) rfl
 have k5:=hP1.cell (i:=5) rfl
 have k6:=hP1.cell (i:=6) rfl
 have k7:=hP1.cell (i:=7) rfl
 have k8:=hP1.cell (i:=8) rfl
 have kq:=fun i=>hP1.free (i:=i)
 have HB1:=Lib.hid hB1
 have HR1:=Lib.hid hR1
 have HP1:=Lib.hid hP1
 clear hB1 hR1 hP1 hk
 go_upto_region 15 with fail
 have hP2:=((HP1.out.set (i:=1) (v:=.int .i64 0)).set (i:=2) (v:=.int .i64 0))
 have hR2:=((HR1.out.far (i:=1) (v:=.int .i64 0) hne).far (i:=2) (v:=.int .i64 0) hne)
 have hB2:=(set_below (set_below HB1.out (i:=1) (v:=.int .i64 0) (Nat.le_refl _)) (i:=2) (v:=.int .i64 0) (Nat.le_refl _))
 simp only [List.set_cons_succ,List.set_cons_zero] at hP2
 generalize ((W1.setCell ⟨w.heap.size,1,none⟩ (.int .i64 0)).setCell ⟨w.heap.size,2,none⟩ (.int .i64 0)) = W2 at hP2 hR2 hB2 ⊢
 clear HB1 HR1 HP1 k0 k1 k2 k3 k4 k5 k6 k7 k8 kq
 have k0:=hP2.cell (i:=0) rfl
 have k1:=hP2.cell (i:=1) rfl
 have k2:=hP2.cell (i:=2) rfl
 have k3:=hP2.cell (i:=3) rfl
 have k4:=hP2.cell (i:=4) rfl
 have k5:=hP2.cell (i:=5) rfl
 have k6:=hP2.cell (i:=6) rfl
 have k7:=hP2.cell (i:=7) rfl
 have k8:=hP2.cell (i:=8) rfl
 have kq:=fun i=>hP2.free (i:=i)
 have HB2:=Lib.hid hB2
 have HR2:=Lib.hid hR2
 have HP2:=Lib.hid hP2
 clear hB2 hR2 hP2
 go_upto_region 16 with fail
 have hP3:=HP2.out.set (i:=0) (v:=.int .i64 0)
 have hR3:=HR2.out.far (i:=0) (v:=.int .i64 0) hne
 have hB3:=set_below HB2.out (i:=0) (v:=.int .i64 0) (Nat.le_refl _)
 simp only [List.set_cons_zero] at hP3
 generalize W2.setCell ⟨w.heap.size,0,none⟩ (.int .i64 0) = W3 at hP3 hR3 hB3 ⊢
 clear HB2 HR2 HP2 k0 k1 k2 k3 k4 k5 k6 k7 k8 kq
 have k0:=hP3.cell (i:=0) rfl
 have k1:=hP3.cell (i:=1) rfl
 have k2:=hP3.cell (i:=2) rfl
 have k3:=hP3.cell (i:=3) rfl
 have k4:=hP3.cell (i:=4) rfl
 have k5:=hP3.cell (i:=5) rfl
 have k6:=hP3.cell (i:=6) rfl
 have k7:=hP3.cell (i:=7) rfl
 have k8:=hP3.cell (i:=8) rfl
 have y0:=hR3.cell (i:=0) rfl
 have y1:=hR3.cell (i:=1) rfl
 have y2:=hR3.cell (i:=2) rfl
 have y3:=hR3.cell (i:=3) rfl
 have y4:=hR3.cell (i:=4) rfl
 have y5:=hR3.cell (i:=5) rfl
 have y6:=hR3.cell (i:=6) rfl
 have y7:=hR3.cell (i:=7) rfl
 have y8:=hR3.cell (i:=8) rfl
 have kq:=fun i=>hR3.free (i:=i)
 have HB3:=Lib.hid hB3
 have HR3:=Lib.hid hR3
 clear hB3 hR3 hP3
 go_wp2_with fail
 have HF:=Lib.hid (set9_cel (v0:=.int .i64 0) (v1:=.int .i64 0) (v2:=.int .i64 0) (v3:=.int .i64 f.coord) (v4:=.string f.key) (v5:=.string f.text) (v6:=.bool f.dead) (v7:=.int .i64 f.keys) (v8:=.int .i64 f.writes) HR3.out)
 have z0:=HF.out.cell (i:=0) rfl
 have z1:=HF.out.cell (i:=1) rfl
 have z2:=HF.out.cell (i:=2) rfl
 have z3:=HF.out.cell (i:=3) rfl
 have z4:=HF.out.cell (i:=4) rfl
 have z5:=HF.out.cell (i:=5) rfl
 have z6:=HF.out.cell (i:=6) rfl
 have z7:=HF.out.cell (i:=7) rfl
 have z8:=HF.out.cell (i:=8) rfl
 unfold set9 at z0 z1 z2 z3 z4 z5 z6 z7 z8
 exact bodyPost_ret (v:=.tuple #[flV (⟨0,0,0,f.coord,f.key,f.text,f.dead,f.keys,f.writes⟩),.bool true]) (by simp [results,Tryz.results127,go_sem,flV,z0,z1,z2,z3,z4,z5,z6,z7,z8]) rfl ⟨rfl,set9_below HB3.out (Nat.le_succ _)⟩
theorem unnamed_3 (f:Fl) (hk:f.kind = 3) (w:World) :
  Calls Tryz.prog 127 #[flV f] w fun e w'=>e = .returned (.tuple #[flV (unF f).1,.bool (unF f).2]) ∧ Below w.heap.size w w':=by
 have E:=Lib.hid (show unF f = (⟨0,f.txn,0,f.coord,⟨#[]⟩,⟨#[]⟩,false,f.keys,f.writes⟩,true) from by unfold unF;simp [hk])
 rw [E.out]
 unfold flV
 rw [hk]
 simp only
 go_enter Tryz.func127,Tryz.ntmps127
 go_upto_region 1 with fail
 have hB1:Below w.heap.size w ((w.alloc (.cells #[.int .i64 3,.int .i64 f.txn,.int .i64 f.ts,.int .i64 f.coord,.string f.key,.string f.text,.bool f.dead,.int .i64 f.keys,.int .i64 f.writes] 199)).alloc (.cells #[.int .i64 0,.int .i64 0,.int .i64 0,.int .i64 0,.string ⟨#[]⟩,.string ⟨#[]⟩,.bool false,.int .i64 0,.int .i64 0] 199)):=((Below.refl _ w).alloc (Nat.le_refl _) _).alloc (by simp) _
 have hP1:Cel ((w.alloc (.cells #[.int .i64 3,.int .i64 f.txn,.int .i64 f.ts,.int .i64 f.coord,.string f.key,.string f.text,.bool f.dead,.int .i64 f.keys,.int .i64 f.writes] 199)).alloc (.cells #[.int .i64 0,.int .i64 0,.int .i64 0,.int .i64 0,.string ⟨#[]⟩,.string ⟨#[]⟩,.bool false,.int .i64 0,.int .i64 0] 199)) w.heap.size 199 [.int .i64 3,.int .i64 f.txn,.int .i64 f.ts,.int .i64 f.coord,.string f.key,.string f.text,.bool f.dead,.int .i64 f.keys,.int .i64 f.writes]:=(blk2 w _ _).2.1
 have hR1:Cel ((w.alloc (.cells #[.int .i64 3,.int .i64 f.txn,.int .i64 f.ts,.int .i64 f.coord,.string f.key,.string f.text,.bool f.dead,.int .i64 f.keys,.int .i64 f.writes] 199)).alloc (.cells #[.int .i64 0,.int .i64 0,.int .i64 0,.int .i64 0,.string ⟨#[]⟩,.string ⟨#[]⟩,.bool false,.int .i64 0,.int .i64 0] 199)) (w.heap.size + 1) 199 [.int .i64 0,.int .i64 0,.int .i64 0,.int .i64 0,.string ⟨#[]⟩,.string ⟨#[]⟩,.bool false,.int .i64 0,.int .i64 0]:=(blk2 w _ _).2.2
 generalize (w.alloc (.cells #[.int .i64 3,.int .i64 f.txn,.int .i64 f.ts,.int .i64 f.coord,.string f.key,.string f.text,.bool f.dead,.int .i64 f.keys,.int .i64 f.writes] 199)).alloc (.cells #[.int .i64 0,.int .i64 0,.int .i64 0,.int .i64 0,.string ⟨#[]⟩,.string ⟨#[]⟩,.bool false,.int .i64 0,.int .i64 0] 199) = W1 at hB1 hP1 hR1 ⊢
 have hne:w.heap.size + 1 ≠ w.heap.size:=by omega
 have k0:=hP1.cell (i:=0) rfl
 have k1:=hP1.cell (i:=1) rfl
 have k2:=hP1.cell (i:=2) rfl
 have k3:=hP1.cell (i:=3) rfl
 have k4:=hP1.cell (i:=4) rfl
 have k5:=hP1.cell (i:=5) rfl
 have k6:=hP1.cell (i:=6) rfl
 have k7:=hP1.cell (i:=7) rfl
 have k8:=hP1.cell (i:=8) rfl
 have kq:=fun i=>hP1.free (i:=i)
 have HB1:=Lib.hid hB1
 have HR1:=Lib.hid hR1
 have HP1:=Lib.hid hP1
 clear hB1 hR1 hP1 hk
 go_upto_region 15 with fail
 have hP2:=((((HP1.out.set (i:=2) (v:=.int .i64 0)).set (i:=4) (v:=.string ⟨#[]⟩)).set (i:=5) (v:=.string ⟨#[]⟩)).set (i:=6) (v:=.bool false))
 have hR2:=((((HR1.out.far (i:=2) (v:=.int .i64 0) hne).far (i:=4) (v:=.string ⟨#[]⟩) hne).far (i:=5) (v:=.string ⟨#[]⟩) hne).far (i:=6) (v:=.bool false) hne)
 have hB2:=(set_below (set_below (set_below (set_below HB1.out (i:=2) (v:=.int .i64 0) (Nat.le_refl _)) (i:=4) (v:=.string ⟨#[]⟩) (Nat.le_refl _)) (i:=5) (v:=.string ⟨#[]⟩) (Nat.le_refl _)) (i:=6) (v:=.bool false) (Nat.le_refl _))
 simp only [List.set_cons_succ,List.set_cons_zero] at hP2
 generalize ((((W1.setCell ⟨w.heap.size,2,none⟩ (.int .i64 0)).setCell ⟨w.heap.size,4,none⟩ (.string ⟨#[]⟩)).setCell ⟨w.heap.size,5,none⟩ (.string ⟨#[]⟩)).setCell ⟨w.heap.size,6,none⟩ (.bool false)) = W2 at hP2 hR2 hB2 ⊢
 clear HB1 HR1 HP1 k0 k1 k2 k3 k4 k5 k6 k7 k8 kq
 have k0:=hP2.cell (i:=0) rfl
 have k1:=hP2.cell (i:=1) rfl
 have k2:=hP2.cell (i:=2) rfl
 have k3:=hP2.cell (i:=3) rfl
 have k4:=hP2.cell (i:=4) rfl
 have k5:=hP2.cell (i:=5) rfl
 have k6:=hP2.cell (i:=6) rfl
 have k7:=hP2.cell (i:=7) rfl
 have k8:=hP2.cell (i:=8) rfl
 have kq:=fun i=>hP2.free (i:=i)
 have HB2:=Lib.hid hB2
 have HR2:=Lib.hid hR2
 have HP2:=Lib.hid hP2
 clear hB2 hR2 hP2
 go_upto_region 16 with fail
 have hP3:=HP2.out.set (i:=0) (v:=.int .i64 0)
 have hR3:=HR2.out.far (i:=0) (v:=.int .i64 0) hne
 have hB3:=set_below HB2.out (i:=0) (v:=.int .i64 0) (Nat.le_refl _)
 simp only [List.set_cons_zero] at hP3
 generalize W2.setCell ⟨w.heap.size,0,none⟩ (.int .i64 0) = W3 at hP3 hR3 hB3 ⊢
 clear HB2 HR2 HP2 k0 k1 k2 k3 k4 k5 k6 k7 k8 kq
 have k0:=hP3.cell (i:=0) rfl
 have k1:=hP3.cell (i:=1) rfl
 have k2:=hP3.cell (i:=2) rfl
 have k3:=hP3.cell (i:=3) rfl
 have k4:=hP3.cell (i:=4) rfl
 have k5:=hP3.cell (i:=5) rfl
 have k6:=hP3.cell (i:=6) rfl
 have k7:=hP3.cell (i:=7) rfl
 have k8:=hP3.cell (i:=8) rfl
 have y0:=hR3.cell (i:=0) rfl
 have y1:=hR3.cell (i:=1) rfl
 have y2:=hR3.cell (i:=2) rfl
 have y3:=hR3.cell (i:=3) rfl
 have y4:=hR3.cell (i:=4) rfl
 have y5:=hR3.cell (i:=5) rfl
 have y6:=hR3.cell (i:=6) rfl
 have y7:=hR3.cell (i:=7) rfl
 have y8:=hR3.cell (i:=8) rfl
 have kq:=fun i=>hR3.free (i:=i)
 have HB3:=Lib.hid hB3
 have HR3:=Lib.hid hR3
 clear hB3 hR3 hP3
 go_wp2_with fail
 have HF:=Lib.hid (set9_cel (v0:=.int .i64 0) (v1:=.int .i64 f.txn) (v2:=.int .i64 0) (v3:=.int .i64 f.coord) (v4:=.string ⟨#[]⟩) (v5:=.string ⟨#[]⟩) (v6:=.bool false) (v7:=.int .i64 f.keys) (v8:=.int .i64 f.writes) HR3.out)
 have z0:=HF.out.cell (i:=0) rfl
 have z1:=HF.out.cell (i:=1) rfl
 have z2:=HF.out.cell (i:=2) rfl
 have z3:=HF.out.cell (i:=3) rfl
 have z4:=HF.out.cell (i:=4) rfl
 have z5:=HF.out.cell (i:=5) rfl
 have z6:=HF.out.cell (i:=6) rfl
 have z7:=HF.out.cell (i:=7) rfl
 have z8:=HF.out.cell (i:=8) rfl
 unfold set9 at z0 z1 z2 z3 z4 z5 z6 z7 z8
 exact bodyPost_ret (v:=.tuple #[flV (⟨0,f.txn,0,f.coord,⟨#[]⟩,⟨#[]⟩,false,f.keys,f.writes⟩),.bool true]) (by simp [results,Tryz.results127,go_sem,flV,z0,z1,z2,z3,z4,z5,z6,z7,z8]) rfl ⟨rfl,set9_below HB3.out (Nat.le_succ _)⟩
theorem unnamed_4 (f:Fl) (hk:f.kind = 4) (w:World) :
  Calls Tryz.prog 127 #[flV f] w fun e w'=>e = .returned (.tuple #[flV (unF f).1,.bool (unF f).2]) ∧ Below w.heap.size w w':=by
 have E:=Lib.hid (show unF f = (⟨0,f.txn,0,f.coord,f.key,f.text,f.dead,f.keys,f.writes⟩,true) from by unfold unF;simp [hk])
 rw [E.out]
 unfold flV
 rw [hk]
 simp only
 go_enter Tryz.func127,Tryz.ntmps127
 go_upto_region 1 with fail
 have hB1:Below w.heap.size w ((w.alloc (.cells #[.int .i64 4,.int .i64 f.txn,.int .i64 f.ts,.int .i64 f.coord,.string f.key,.string f.text,.bool f.dead,.int .i64 f.keys,.int .i64 f.writes] 199)).alloc (.cells #[.int .i64 0,.int .i64 0,.int .i64 0,.int .i64 0,.string ⟨#[]⟩,.string ⟨#[]⟩,.bool false,.int .i64 0,.int .i64 0] 199)):=((Below.refl _ w).alloc (Nat.le_refl _) _).alloc (by simp) _
 have hP1:Cel ((w.alloc (.cells #[.int .i64 4,.int .i64 f.txn,.int .i64 f.ts,.int .i64 f.coord,.string f.key,.string f.text,.bool f.dead,.int .i64 f.keys,.int .i64 f.writes] 199)).alloc (.cells #[.int .i64 0,.int .i64 0,.int .i64 0,.int .i64 0,.string ⟨#[]⟩,.string ⟨#[]⟩,.bool false,.int .i64 0,.int .i64 0] 199)) w.heap.size 199 [.int .i64 4,.int .i64 f.txn,.int .i64 f.ts,.int .i64 f.coord,.string f.key,.string f.text,.bool f.dead,.int .i64 f.keys,.int .i64 f.writes]:=(blk2 w _ _).2.1
 have hR1:Cel ((w.alloc (.cells #[.int .i64 4,.int .i64 f.txn,.int .i64 f.ts,.int .i64 f.coord,.string f.key,.string f.text,.bool f.dead,.int .i64 f.keys,.int .i64 f.writes] 199)).alloc (.cells #[.int .i64 0,.int .i64 0,.int .i64 0,.int .i64 0,.string ⟨#[]⟩,.string ⟨#[]⟩,.bool false,.int .i64 0,.int .i64 0] 199)) (w.heap.size + 1) 199 [.int .i64 0,.int .i64 0,.int .i64 0,.int .i64 0,.string ⟨#[]⟩,.string ⟨#[]⟩,.bool false,.int .i64 0,.int .i64 0]:=(blk2 w _ _).2.2
 generalize (w.alloc (.cells #[.int .i64 4,.int .i64 f.txn,.int .i64 f.ts,.int .i64 f.coord,.string f.key,.string f.text,.bool f.dead,.int .i64 f.keys,.int .i64 f.writes] 199)).alloc (.cells #[.int .i64 0,.int .i64 0,.int .i64 0,.int .i64 0,.string ⟨#[]⟩,.string ⟨#[]⟩,.bool false,.int .i64 0,.int .i64 0] 199) = W1 at hB1 hP1 hR1 ⊢
 have hne:w.heap.size + 1 ≠ w.heap.size:=by omega
 have k0:=hP1.cell (i:=0) rfl
 have k1:=hP1.cell (i:=1) rfl
 have k2:=hP1.cell (i:=2) rfl
 have k3:=hP1.cell (i:=3) rfl
 have k4:=hP1.cell (i:=4) rfl
 have k5:=hP1.cell (i:=5) rfl
 have k6:=hP1.cell (i:=6) rfl
 have k7:=hP1.cell (i:=7) rfl
 have k8:=hP1.cell (i:=8) rfl
 have kq:=fun i=>hP1.free (i:=i)
 have HB1:=Lib.hid hB1
 have HR1:=Lib.hid hR1
 have HP1:=Lib.hid hP1
 clear hB1 hR1 hP1 hk
 go_upto_region 15 with fail
 have hP2:=(HP1.out.set (i:=2) (v:=.int .i64 0))
 have hR2:=(HR1.out.far (i:=2) (v:=.int .i64 0) hne)
 have hB2:=(set_below HB1.out (i:=2) (v:=.int .i64 0) (Nat.le_refl _))
 simp only [List.set_cons_succ,List.set_cons_zero] at hP2
 generalize (W1.setCell ⟨w.heap.size,2,none⟩ (.int .i64 0)) = W2 at hP2 hR2 hB2 ⊢
 clear HB1 HR1 HP1 k0 k1 k2 k3 k4 k5 k6 k7 k8 kq
 have k0:=hP2.cell (i:=0) rfl
 have k1:=hP2.cell (i:=1) rfl
 have k2:=hP2.cell (i:=2) rfl
 have k3:=hP2.cell (i:=3) rfl
 have k4:=hP2.cell (i:=4) rfl
 have k5:=hP2.cell (i:=5) rfl
 have k6:=hP2.cell (i:=6) rfl
 have k7:=hP2.cell (i:=7) rfl
 have k8:=hP2.cell (i:=8) rfl
 have kq:=fun i=>hP2.free (i:=i)
 have HB2:=Lib.hid hB2
 have HR2:=Lib.hid hR2
 have HP2:=Lib.hid hP2
 clear hB2 hR2 hP2
 go_upto_region 16 with fail
 have hP3:=HP2.out.set (i:=0) (v:=.int .i64 0)
 have hR3:=HR2.out.far (i:=0) (v:=.int .i64 0) hne
 have hB3:=set_below HB2.out (i:=0) (v:=.int .i64 0) (Nat.le_refl _)
 simp only [List.set_cons_zero] at hP3
 generalize W2.setCell ⟨w.heap.size,0,none⟩ (.int .i64 0) = W3 at hP3 hR3 hB3 ⊢
 clear HB2 HR2 HP2 k0 k1 k2 k3 k4 k5 k6 k7 k8 kq
 have k0:=hP3.cell (i:=0) rfl
 have k1:=hP3.cell (i:=1) rfl
 have k2:=hP3.cell (i:=2) rfl
 have k3:=hP3.cell (i:=3) rfl
 have k4:=hP3.cell (i:=4) rfl
 have k5:=hP3.cell (i:=5) rfl
 have k6:=hP3.cell (i:=6) rfl
 have k7:=hP3.cell (i:=7) rfl
 have k8:=hP3.cell (i:=8) rfl
 have y0:=hR3.cell (i:=0) rfl
 have y1:=hR3.cell (i:=1) rfl
 have y2:=hR3.cell (i:=2) rfl
 have y3:=hR3.cell (i:=3) rfl
 have y4:=hR3.cell (i:=4) rfl
 have y5:=hR3.cell (i:=5) rfl
 have y6:=hR3.cell (i:=6) rfl
 have y7:=hR3.cell (i:=7) rfl
 have y8:=hR3.cell (i:=8) rfl
 have kq:=fun i=>hR3.free (i:=i)
 have HB3:=Lib.hid hB3
 have HR3:=Lib.hid hR3
 clear hB3 hR3 hP3
 go_wp2_with fail
 have HF:=Lib.hid (set9_cel (v0:=.int .i64 0) (v1:=.int .i64 f.txn) (v2:=.int .i64 0) (v3:=.int .i64 f.coord) (v4:=.string f.key) (v5:=.string f.text) (v6:=.bool f.dead) (v7:=.int .i64 f.keys) (v8:=.int .i64 f.writes) HR3.out)
 have z0:=HF.out.cell (i:=0) rfl
 have z1:=HF.out.cell (i:=1) rfl
 have z2:=HF.out.cell (i:=2) rfl
 have z3:=HF.out.cell (i:=3) rfl
 have z4:=HF.out.cell (i:=4) rfl
 have z5:=HF.out.cell (i:=5) rfl
 have z6:=HF.out.cell (i:=6) rfl
 have z7:=HF.out.cell (i:=7) rfl
 have z8:=HF.out.cell (i:=8) rfl
 unfold set9 at z0 z1 z2 z3 z4 z5 z6 z7 z8
 exact bodyPost_ret (v:=.tuple #[flV (⟨0,f.txn,0,f.coord,f.key,f.text,f.dead,f.keys,f.writes⟩),.bool true]) (by simp [results,Tryz.results127,go_sem,flV,z0,z1,z2,z3,z4,z5,z6,z7,z8]) rfl ⟨rfl,set9_below HB3.out (Nat.le_succ _)⟩
theorem unnamed_7 (f:Fl) (hk:f.kind = 7) (w:World) :
  Calls Tryz.prog 127 #[flV f] w fun e w'=>e = .returned (.tuple #[flV (unF f).1,.bool (unF f).2]) ∧ Below w.heap.size w w':=by
 have E:=Lib.hid (show unF f = (⟨0,f.txn,0,f.coord,f.key,f.text,f.dead,f.keys,f.writes⟩,true) from by unfold unF;simp [hk])
 rw [E.out]
 unfold flV
 rw [hk]
 simp only
 go_enter Tryz.func127,Tryz.ntmps127
 go_upto_region 1 with fail
 have hB1:Below w.heap.size w ((w.alloc (.cells #[.int .i64 7,.int .i64 f.txn,.int .i64 f.ts,.int .i64 f.coord,.string f.key,.string f.text,.bool f.dead,.int .i64 f.keys,.int .i64 f.writes] 199)).alloc (.cells #[.int .i64 0,.int .i64 0,.int .i64 0,.int .i64 0,.string ⟨#[]⟩,.string ⟨#[]⟩,.bool false,.int .i64 0,.int .i64 0] 199)):=((Below.refl _ w).alloc (Nat.le_refl _) _).alloc (by simp) _
 have hP1:Cel ((w.alloc (.cells #[.int .i64 7,.int .i64 f.txn,.int .i64 f.ts,.int .i64 f.coord,.string f.key,.string f.text,.bool f.dead,.int .i64 f.keys,.int .i64 f.writes] 199)).alloc (.cells #[.int .i64 0,.int .i64 0,.int .i64 0,.int .i64 0,.string ⟨#[]⟩,.string ⟨#[]⟩,.bool false,.int .i64 0,.int .i64 0] 199)) w.heap.size 199 [.int .i64 7,.int .i64 f.txn,.int .i64 f.ts,.int .i64 f.coord,.string f.key,.string f.text,.bool f.dead,.int .i64 f.keys,.int .i64 f.writes]:=(blk2 w _ _).2.1
 have hR1:Cel ((w.alloc (.cells #[.int .i64 7,.int .i64 f.txn,.int .i64 f.ts,.int .i64 f.coord,.string f.key,.string f.text,.bool f.dead,.int .i64 f.keys,.int .i64 f.writes] 199)).alloc (.cells #[.int .i64 0,.int .i64 0,.int .i64 0,.int .i64 0,.string ⟨#[]⟩,.string ⟨#[]⟩,.bool false,.int .i64 0,.int .i64 0] 199)) (w.heap.size + 1) 199 [.int .i64 0,.int .i64 0,.int .i64 0,.int .i64 0,.string ⟨#[]⟩,.string ⟨#[]⟩,.bool false,.int .i64 0,.int .i64 0]:=(blk2 w _ _).2.2
 generalize (w.alloc (.cells #[.int .i64 7,.int .i64 f.txn,.int .i64 f.ts,.int .i64 f.coord,.string f.key,.string f.text,.bool f.dead,.int .i64 f.keys,.int .i64 f.writes] 199)).alloc (.cells #[.int .i64 0,.int .i64 0,.int .i64 0,.int .i64 0,.string ⟨#[]⟩,.string ⟨#[]⟩,.bool false,.int .i64 0,.int .i64 0] 199) = W1 at hB1 hP1 hR1 ⊢
 have hne:w.heap.size + 1 ≠ w.heap.size:=by omega
 have k0:=hP1.cell (i:=0) rfl
 have k1:=hP1.cell (i:=1) rfl
 have k2:=hP1.cell (i:=2) rfl
 have k3:=hP1.cell (i:=3) rfl
 have k4:=hP1.cell (i:=4) rfl
 have k5:=hP1.cell (i:=5) rfl
 have k6:=hP1.cell (i:=6) rfl
 have k7:=hP1.cell (i:=7) rfl
 have k8:=hP1.cell (i:=8) rfl
 have kq:=fun i=>hP1.free (i:=i)
 have HB1:=Lib.hid hB1
 have HR1:=Lib.hid hR1
 have HP1:=Lib.hid hP1
 clear hB1 hR1 hP1 hk
 go_upto_region 15 with fail
 have hP2:=(HP1.out.set (i:=2) (v:=.int .i64 0))
 have hR2:=(HR1.out.far (i:=2) (v:=.int .i64 0) hne)
 have hB2:=(set_below HB1.out (i:=2) (v:=.int .i64 0) (Nat.le_refl _))
 simp only [List.set_cons_succ,List.set_cons_zero] at hP2
 generalize (W1.setCell ⟨w.heap.size,2,none⟩ (.int .i64 0)) = W2 at hP2 hR2 hB2 ⊢
 clear HB1 HR1 HP1 k0 k1 k2 k3 k4 k5 k6 k7 k8 kq
 have k0:=hP2.cell (i:=0) rfl
 have k1:=hP2.cell (i:=1) rfl
 have k2:=hP2.cell (i:=2) rfl
 have k3:=hP2.cell (i:=3) rfl
 have k4:=hP2.cell (i:=4) rfl
 have k5:=hP2.cell (i:=5) rfl
 have k6:=hP2.cell (i:=6) rfl
 have k7:=hP2.cell (i:=7) rfl
 have k8:=hP2.cell (i:=8) rfl
 have kq:=fun i=>hP2.free (i:=i)
 have HB2:=Lib.hid hB2
 have HR2:=Lib.hid hR2
 have HP2:=Lib.hid hP2
 clear hB2 hR2 hP2
 go_upto_region 16 with fail
 have hP3:=HP2.out.set (i:=0) (v:=.int .i64 0)
 have hR3:=HR2.out.far (i:=0) (v:=.int .i64 0) hne
 have hB3:=set_below HB2.out (i:=0) (v:=.int .i64 0) (Nat.le_refl _)
 simp only [List.set_cons_zero] at hP3
 generalize W2.setCell ⟨w.heap.size,0,none⟩ (.int .i64 0) = W3 at hP3 hR3 hB3 ⊢
 clear HB2 HR2 HP2 k0 k1 k2 k3 k4 k5 k6 k7 k8 kq
 have k0:=hP3.cell (i:=0) rfl
 have k1:=hP3.cell (i:=1) rfl
 have k2:=hP3.cell (i:=2) rfl
 have k3:=hP3.cell (i:=3) rfl
 have k4:=hP3.cell (i:=4) rfl
 have k5:=hP3.cell (i:=5) rfl
 have k6:=hP3.cell (i:=6) rfl
 have k7:=hP3.cell (i:=7) rfl
 have k8:=hP3.cell (i:=8) rfl
 have y0:=hR3.cell (i:=0) rfl
 have y1:=hR3.cell (i:=1) rfl
 have y2:=hR3.cell (i:=2) rfl
 have y3:=hR3.cell (i:=3) rfl
 have y4:=hR3.cell (i:=4) rfl
 have y5:=hR3.cell (i:=5) rfl
 have y6:=hR3.cell (i:=6) rfl
 have y7:=hR3.cell (i:=7) rfl
 have y8:=hR3.cell (i:=8) rfl
 have kq:=fun i=>hR3.free (i:=i)
 have HB3:=Lib.hid hB3
 have HR3:=Lib.hid hR3
 clear hB3 hR3 hP3
 go_wp2_with fail
 have HF:=Lib.hid (set9_cel (v0:=.int .i64 0) (v1:=.int .i64 f.txn) (v2:=.int .i64 0) (v3:=.int .i64 f.coord) (v4:=.string f.key) (v5:=.string f.text) (v6:=.bool f.dead) (v7:=.int .i64 f.keys) (v8:=.int .i64 f.writes) HR3.out)
 have z0:=HF.out.cell (i:=0) rfl
 have z1:=HF.out.cell (i:=1) rfl
 have z2:=HF.out.cell (i:=2) rfl
 have z3:=HF.out.cell (i:=3) rfl
 have z4:=HF.out.cell (i:=4) rfl
 have z5:=HF.out.cell (i:=5) rfl
 have z6:=HF.out.cell (i:=6) rfl
 have z7:=HF.out.cell (i:=7) rfl
 have z8:=HF.out.cell (i:=8) rfl
 unfold set9 at z0 z1 z2 z3 z4 z5 z6 z7 z8
 exact bodyPost_ret (v:=.tuple #[flV (⟨0,f.txn,0,f.coord,f.key,f.text,f.dead,f.keys,f.writes⟩),.bool true]) (by simp [results,Tryz.results127,go_sem,flV,z0,z1,z2,z3,z4,z5,z6,z7,z8]) rfl ⟨rfl,set9_below HB3.out (Nat.le_succ _)⟩
theorem unnamed_6 (f:Fl) (hk:f.kind = 6) (w:World) :
  Calls Tryz.prog 127 #[flV f] w fun e w'=>e = .returned (.tuple #[flV (unF f).1,.bool (unF f).2]) ∧ Below w.heap.size w w':=by
 have E:=Lib.hid (show unF f = (⟨0,0,f.ts,f.coord,f.key,f.text,f.dead,f.keys,f.writes⟩,true) from by unfold unF;simp [hk])
 rw [E.out]
 unfold flV
 rw [hk]
 simp only
 go_enter Tryz.func127,Tryz.ntmps127
 go_upto_region 1 with fail
 have hB1:Below w.heap.size w ((w.alloc (.cells #[.int .i64 6,.int .i64 f.txn,.int .i64 f.ts,.int .i64 f.coord,.string f.key,.string f.text,.bool f.dead,.int .i64 f.keys,.int .i64 f.writes] 199)).alloc (.cells #[.int .i64 0,.int .i64 0,.int .i64 0,.int .i64 0,.string ⟨#[]⟩,.string ⟨#[]⟩,.bool false,.int .i64 0,.int .i64 0] 199)):=((Below.refl _ w).alloc (Nat.le_refl _) _).alloc (by simp) _
 have hP1:Cel ((w.alloc (.cells #[.int .i64 6,.int .i64 f.txn,.int .i64 f.ts,.int .i64 f.coord,.string f.key,.string f.text,.bool f.dead,.int .i64 f.keys,.int .i64 f.writes] 199)).alloc (.cells #[.int .i64 0,.int .i64 0,.int .i64 0,.int .i64 0,.string ⟨#[]⟩,.string ⟨#[]⟩,.bool false,.int .i64 0,.int .i64 0] 199)) w.heap.size 199 [.int .i64 6,.int .i64 f.txn,.int .i64 f.ts,.int .i64 f.coord,.string f.key,.string f.text,.bool f.dead,.int .i64 f.keys,.int .i64 f.writes]:=(blk2 w _ _).2.1
 have hR1:Cel ((w.alloc (.cells #[.int .i64 6,.int .i64 f.txn,.int .i64 f.ts,.int .i64 f.coord,.string f.key,.string f.text,.bool f.dead,.int .i64 f.keys,.int .i64 f.writes] 199)).alloc (.cells #[.int .i64 0,.int .i64 0,.int .i64 0,.int .i64 0,.string ⟨#[]⟩,.string ⟨#[]⟩,.bool false,.int .i64 0,.int .i64 0] 199)) (w.heap.size + 1) 199 [.int .i64 0,.int .i64 0,.int .i64 0,.int .i64 0,.string ⟨#[]⟩,.string ⟨#[]⟩,.bool false,.int .i64 0,.int .i64 0]:=(blk2 w _ _).2.2
 generalize (w.alloc (.cells #[.int .i64 6,.int .i64 f.txn,.int .i64 f.ts,.int .i64 f.coord,.string f.key,.string f.text,.bool f.dead,.int .i64 f.keys,.int .i64 f.writes] 199)).alloc (.cells #[.int .i64 0,.int .i64 0,.int .i64 0,.int .i64 0,.string ⟨#[]⟩,.string ⟨#[]⟩,.bool false,.int .i64 0,.int .i64 0] 199) = W1 at hB1 hP1 hR1 ⊢
 have hne:w.heap.size + 1 ≠ w.heap.size:=by omega
 have k0:=hP1.cell (i:=0) rfl
 have k1:=hP1.cell (i:=1) rfl
 have k2:=hP1.cell (i:=2) rfl
 have k3:=hP1.cell (i:=3) rfl
 have k4:=hP1.cell (i:=4) rfl
 have k5:=hP1.cell (i:=5) rfl
 have k6:=hP1.cell (i:=6) rfl
 have k7:=hP1.cell (i:=7) rfl
 have k8:=hP1.cell (i:=8) rfl
 have kq:=fun i=>hP1.free (i:=i)
 have HB1:=Lib.hid hB1
 have HR1:=Lib.hid hR1
 have HP1:=Lib.hid hP1
 clear hB1 hR1 hP1 hk
 go_upto_region 15 with fail
 have hP2:=(HP1.out.set (i:=1) (v:=.int .i64 0))
 have hR2:=(HR1.out.far (i:=1) (v:=.int .i64 0) hne)
 have hB2:=(set_below HB1.out (i:=1) (v:=.int .i64 0) (Nat.le_refl _))
 simp only [List.set_cons_succ,List.set_cons_zero] at hP2
 generalize (W1.setCell ⟨w.heap.size,1,none⟩ (.int .i64 0)) = W2 at hP2 hR2 hB2 ⊢
 clear HB1 HR1 HP1 k0 k1 k2 k3 k4 k5 k6 k7 k8 kq
 have k0:=hP2.cell (i:=0) rfl
 have k1:=hP2.cell (i:=1) rfl
 have k2:=hP2.cell (i:=2) rfl
 have k3:=hP2.cell (i:=3) rfl
 have k4:=hP2.cell (i:=4) rfl
 have k5:=hP2.cell (i:=5) rfl
 have k6:=hP2.cell (i:=6) rfl
 have k7:=hP2.cell (i:=7) rfl
 have k8:=hP2.cell (i:=8) rfl
 have kq:=fun i=>hP2.free (i:=i)
 have HB2:=Lib.hid hB2
 have HR2:=Lib.hid hR2
 have HP2:=Lib.hid hP2
 clear hB2 hR2 hP2
 go_upto_region 16 with fail
 have hP3:=HP2.out.set (i:=0) (v:=.int .i64 0)
 have hR3:=HR2.out.far (i:=0) (v:=.int .i64 0) hne
 have hB3:=set_below HB2.out (i:=0) (v:=.int .i64 0) (Nat.le_refl _)
 simp only [List.set_cons_zero] at hP3
 generalize W2.setCell ⟨w.heap.size,0,none⟩ (.int .i64 0) = W3 at hP3 hR3 hB3 ⊢
 clear HB2 HR2 HP2 k0 k1 k2 k3 k4 k5 k6 k7 k8 kq
 have k0:=hP3.cell (i:=0) rfl
 have k1:=hP3.cell (i:=1) rfl
 have k2:=hP3.cell (i:=2) rfl
 have k3:=hP3.cell (i:=3) rfl
 have k4:=hP3.cell (i:=4) rfl
 have k5:=hP3.cell (i:=5) rfl
 have k6:=hP3.cell (i:=6) rfl
 have k7:=hP3.cell (i:=7) rfl
 have k8:=hP3.cell (i:=8) rfl
 have y0:=hR3.cell (i:=0) rfl
 have y1:=hR3.cell (i:=1) rfl
 have y2:=hR3.cell (i:=2) rfl
 have y3:=hR3.cell (i:=3) rfl
 have y4:=hR3.cell (i:=4) rfl
 have y5:=hR3.cell (i:=5) rfl
 have y6:=hR3.cell (i:=6) rfl
 have y7:=hR3.cell (i:=7) rfl
 have y8:=hR3.cell (i:=8) rfl
 have kq:=fun i=>hR3.free (i:=i)
 have HB3:=Lib.hid hB3
 have HR3:=Lib.hid hR3
 clear hB3 hR3 hP3
 go_wp2_with fail
 have HF:=Lib.hid (set9_cel (v0:=.int .i64 0) (v1:=.int .i64 0) (v2:=.int .i64 f.ts) (v3:=.int .i64 f.coord) (v4:=.string f.key) (v5:=.string f.text) (v6:=.bool f.dead) (v7:=.int .i64 f.keys) (v8:=.int .i64 f.writes) HR3.out)
 have z0:=HF.out.cell (i:=0) rfl
 have z1:=HF.out.cell (i:=1) rfl
 have z2:=HF.out.cell (i:=2) rfl
 have z3:=HF.out.cell (i:=3) rfl
 have z4:=HF.out.cell (i:=4) rfl
 have z5:=HF.out.cell (i:=5) rfl
 have z6:=HF.out.cell (i:=6) rfl
 have z7:=HF.out.cell (i:=7) rfl
 have z8:=HF.out.cell (i:=8) rfl
 unfold set9 at z0 z1 z2 z3 z4 z5 z6 z7 z8
 exact bodyPost_ret (v:=.tuple #[flV (⟨0,0,f.ts,f.coord,f.key,f.text,f.dead,f.keys,f.writes⟩),.bool true]) (by simp [results,Tryz.results127,go_sem,flV,z0,z1,z2,z3,z4,z5,z6,z7,z8]) rfl ⟨rfl,set9_below HB3.out (Nat.le_succ _)⟩
theorem unnamed_no (f:Fl) (hk:f.kind ≠ 1 ∧ f.kind ≠ 2 ∧ f.kind ≠ 3 ∧ f.kind ≠ 4 ∧ f.kind ≠ 5 ∧ f.kind ≠ 6 ∧ f.kind ≠ 7) (w:World) :
  Calls Tryz.prog 127 #[flV f] w fun e w'=>e = .returned (.tuple #[flV (unF f).1,.bool (unF f).2]) ∧ Below w.heap.size w w':=by
 obtain ⟨h1,h2,h3,h4,h5,h6,h7⟩:=hk
 have E:=Lib.hid (show unF f = (flZ,false) from by unfold unF;simp [h1,h2,h3,h4,h5,h6,h7])
 rw [E.out]
 have q1:(f.kind == 1) = false:=by simpa using h1
 have q2:(f.kind == 2) = false:=by simpa using h2
 have q3:(f.kind == 3) = false:=by simpa using h3
 have q4:(f.kind == 4) = false:=by simpa using h4
 have q5:(f.kind == 5) = false:=by simpa using h5
 have q6:(f.kind == 6) = false:=by simpa using h6
 have q7:(f.kind == 7) = false:=by simpa using h7
 unfold flV
 go_enter Tryz.func127,Tryz.ntmps127
 go_upto_region 1 with fail
 have hB1:Below w.heap.size w ((w.alloc (.cells #[.int .i64 f.kind,.int .i64 f.txn,.int .i64 f.ts,.int .i64 f.coord,.string f.key,.string f.text,.bool f.dead,.int .i64 f.keys,.int .i64 f.writes] 199)).alloc (.cells #[.int .i64 0,.int .i64 0,.int .i64 0,.int .i64 0,.string ⟨#[]⟩,.string ⟨#[]⟩,.bool false,.int .i64 0,.int .i64 0] 199)):=((Below.refl _ w).alloc (Nat.le_refl _) _).alloc (by simp) _
 have hP1:Cel ((w.alloc (.cells #[.int .i64 f.kind,.int .i64 f.txn,.int .i64 f.ts,.int .i64 f.coord,.string f.key,.string f.text,.bool f.dead,.int .i64 f.keys,.int .i64 f.writes] 199)).alloc (.cells #[.int .i64 0,.int .i64 0,.int .i64 0,.int .i64 0,.string ⟨#[]⟩,.string ⟨#[]⟩,.bool false,.int .i64 0,.int .i64 0] 199)) w.heap.size 199 [.int .i64 f.kind,.int .i64 f.txn,.int .i64 f.ts,.int .i64 f.coord,.string f.key,.string f.text,.bool f.dead,.int .i64 f.keys,.int .i64 f.writes]:=(blk2 w _ _).2.1
 have hR1:Cel ((w.alloc (.cells #[.int .i64 f.kind,.int .i64 f.txn,.int .i64 f.ts,.int .i64 f.coord,.string f.key,.string f.text,.bool f.dead,.int .i64 f.keys,.int .i64 f.writes] 199)).alloc (.cells #[.int .i64 0,.int .i64 0,.int .i64 0,.int .i64 0,.string ⟨#[]⟩,.string ⟨#[]⟩,.bool false,.int .i64 0,.int .i64 0] 199)) (w.heap.size + 1) 199 [.int .i64 0,.int .i64 0,.int .i64 0,.int .i64 0,.string ⟨#[]⟩,.string ⟨#[]⟩,.bool false,.int .i64 0,.int .i64 0]:=(blk2 w _ _).2.2
 generalize (w.alloc (.cells #[.int .i64 f.kind,.int .i64 f.txn,.int .i64 f.ts,.int .i64 f.coord,.string f.key,.string f.text,.bool f.dead,.int .i64 f.keys,.int .i64 f.writes] 199)).alloc (.cells #[.int .i64 0,.int .i64 0,.int .i64 0,.int .i64 0,.string ⟨#[]⟩,.string ⟨#[]⟩,.bool false,.int .i64 0,.int .i64 0] 199) = W1 at hB1 hP1 hR1 ⊢
 have k0:=hP1.cell (i:=0) rfl
 have y0:=hR1.cell (i:=0) rfl
 have y1:=hR1.cell (i:=1) rfl
 have y2:=hR1.cell (i:=2) rfl
 have y3:=hR1.cell (i:=3) rfl
 have y4:=hR1.cell (i:=4) rfl
 have y5:=hR1.cell (i:=5) rfl
 have y6:=hR1.cell (i:=6) rfl
 have y7:=hR1.cell (i:=7) rfl
 have y8:=hR1.cell (i:=8) rfl
 have kq:=fun i=>hR1.free (i:=i)
 have HB1:=Lib.hid hB1
 have HR1:=Lib.hid hR1
 clear hB1 hR1 hP1 h1 h2 h3 h4 h5 h6 h7
 go_wp2_with fail
 have HF:=Lib.hid (set9_cel (v0:=.int .i64 0) (v1:=.int .i64 0) (v2:=.int .i64 0) (v3:=.int .i64 0) (v4:=.string ⟨#[]⟩) (v5:=.string ⟨#[]⟩) (v6:=.bool false) (v7:=.int .i64 0) (v8:=.int .i64 0) HR1.out)
 have z0:=HF.out.cell (i:=0) rfl
 have z1:=HF.out.cell (i:=1) rfl
 have z2:=HF.out.cell (i:=2) rfl
 have z3:=HF.out.cell (i:=3) rfl
 have z4:=HF.out.cell (i:=4) rfl
 have z5:=HF.out.cell (i:=5) rfl
 have z6:=HF.out.cell (i:=6) rfl
 have z7:=HF.out.cell (i:=7) rfl
 have z8:=HF.out.cell (i:=8) rfl
 unfold set9 at z0 z1 z2 z3 z4 z5 z6 z7 z8
 exact bodyPost_ret (v:=.tuple #[flV flZ,.bool false]) (by simp [results,Tryz.results127,go_sem,flV,flZ,z0,z1,z2,z3,z4,z5,z6,z7,z8]) rfl ⟨rfl,set9_below HB1.out (Nat.le_succ _)⟩
theorem unnamed_any (f:Fl) (w:World) :
  Calls Tryz.prog 127 #[flV f] w fun e w'=>e = .returned (.tuple #[flV (unF f).1,.bool (unF f).2]) ∧ Below w.heap.size w w':=by
 by_cases h1:f.kind = 1
 ·exact unnamed_1 f h1 w
 by_cases h2:f.kind = 2
 ·exact unnamed_2 f h2 w
 by_cases h3:f.kind = 3
 ·exact unnamed_3 f h3 w
 by_cases h4:f.kind = 4
 ·exact unnamed_4 f h4 w
 by_cases h5:f.kind = 5
 ·exact unnamed_5 f h5 w
 by_cases h6:f.kind = 6
 ·exact unnamed_6 f h6 w
 by_cases h7:f.kind = 7
 ·exact unnamed_7 f h7 w
 exact unnamed_no f ⟨h1,h2,h3,h4,h5,h6,h7⟩ w
def inB (r:Rec):Bool:=(decide (0 ≤ r.txn) && decide (r.txn ≤ 1125899906842623)) && ((decide (0 ≤ r.ts) && decide (r.ts ≤ 1125899906842624)) && (decide (0 ≤ r.coord) && decide (r.coord ≤ 15)))
theorem inBounds_any (A B:Option Addr) (c d:Nat) (r:Rec) (w:World) :
  Calls Tryz.prog 128 #[recV r A B c d] w fun e w'=>e = .returned (.bool (inB r)) ∧ Below w.heap.size w w':=by
 have HW1:=Lib.hid (fun W=>rwithin_any r.txn 0 1125899906842623 W)
 have HW2:=Lib.hid (fun W=>rwithin_any r.ts 0 1125899906842624 W)
 have HW3:=Lib.hid (fun W=>rwithin_any r.coord 0 15 W)
 unfold inB
 generalize (decide (0 ≤ r.txn) && decide (r.txn ≤ 1125899906842623)) = x1 at *
 generalize (decide (0 ≤ r.ts) && decide (r.ts ≤ 1125899906842624)) = x2 at *
 generalize (decide (0 ≤ r.coord) && decide (r.coord ≤ 15)) = x3 at *
 unfold recV
 go_enter Tryz.func128,Tryz.ntmps128
 go_upto_region 1 with fail
 have hB1:Below w.heap.size w (w.alloc (.cells #[.int .i64 r.kind,.int .i64 r.txn,.int .i64 r.ts,.int .i64 r.coord,.string r.key,.string r.text,.bool r.dead,.slice A r.keys.length c,.slice B r.ws.length d] 60)):=(Below.refl _ w).alloc (Nat.le_refl _) _
 have hP1:Cel (w.alloc (.cells #[.int .i64 r.kind,.int .i64 r.txn,.int .i64 r.ts,.int .i64 r.coord,.string r.key,.string r.text,.bool r.dead,.slice A r.keys.length c,.slice B r.ws.length d] 60)) w.heap.size 60 [.int .i64 r.kind,.int .i64 r.txn,.int .i64 r.ts,.int .i64 r.coord,.string r.key,.string r.text,.bool r.dead,.slice A r.keys.length c,.slice B r.ws.length d]:=(blk1 w _).2
 generalize w.alloc (.cells #[.int .i64 r.kind,.int .i64 r.txn,.int .i64 r.ts,.int .i64 r.coord,.string r.key,.string r.text,.bool r.dead,.slice A r.keys.length c,.slice B r.ws.length d] 60) = W1 at hB1 hP1 ⊢
 have k1:=hP1.cell (i:=1) rfl
 have k2:=hP1.cell (i:=2) rfl
 have k3:=hP1.cell (i:=3) rfl
 have HB1:=Lib.hid hB1
 clear hB1 hP1
 cases x1 with
 | false =>
  go_wp2_with fail
  refine (HW1.out _).mono ?_
  rintro e w3 ⟨rfl,rfl⟩
  go_wp2_with fail
  go_ret
  exact ⟨by simp,HB1.out⟩
 | true =>
 cases x2 with
 | false =>
  go_wp2_with fail
  refine (HW1.out _).mono ?_
  rintro e w3 ⟨rfl,rfl⟩
  go_wp2_with fail
  refine (HW2.out _).mono ?_
  rintro e w3 ⟨rfl,rfl⟩
  go_wp2_with fail
  go_ret
  exact ⟨by simp,HB1.out⟩
 | true =>
 cases x3 with
 | false =>
  go_wp2_with fail
  refine (HW1.out _).mono ?_
  rintro e w3 ⟨rfl,rfl⟩
  go_wp2_with fail
  refine (HW2.out _).mono ?_
  rintro e w3 ⟨rfl,rfl⟩
  go_wp2_with fail
  refine (HW3.out _).mono ?_
  rintro e w3 ⟨rfl,rfl⟩
  go_wp2_with fail
  go_ret
  exact ⟨by simp,HB1.out⟩
 | true =>
  go_wp2_with fail
  refine (HW1.out _).mono ?_
  rintro e w3 ⟨rfl,rfl⟩
  go_wp2_with fail
  refine (HW2.out _).mono ?_
  rintro e w3 ⟨rfl,rfl⟩
  go_wp2_with fail
  refine (HW3.out _).mono ?_
  rintro e w3 ⟨rfl,rfl⟩
  go_wp2_with fail
  go_ret
  exact ⟨rfl,HB1.out⟩
end Rc
end Go.Proofs.YtlfkhlfkckfbpaaGreat
