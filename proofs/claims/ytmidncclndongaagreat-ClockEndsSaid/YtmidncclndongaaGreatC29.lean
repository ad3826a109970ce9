/- Parts of the proof, joined: RcCheck2, RcCheck3, RcCheck4, RcCheck, RcEnc; their conditions stand with each. -/
import Derived.Test.YtmidncclndongaaGreatC4
import Derived.Test.YtmidncclndongaaGreatC5
import Derived.Test.YtmidncclndongaaGreatC23
import Derived.Test.YtmidncclndongaaGreatC28

set_option maxRecDepth 20000
set_option maxHeartbeats 8000000
namespace Go.Proofs.YtmidncclndongaaGreat
namespace Rc
open Go.RowKit Bk Lt
attribute [local go_sem ↓] Go.wp_at_zero Go.wp_at_succ
attribute [local go_sem] floatUpon pick
theorem check_g2 (A B:Option Addr) (c d:Nat) (r:Rec) (w:World) (ha:StrsAt w A r.keys) (hb:WrsAt w B r.ws) (hr:RecRng r) (hhead:headOk r) (HKd:Hid (r.kind = 3)) :
  Calls Tryz.prog 137 #[recV r A B c d] w fun e w'=>e = .returned (.int .i64 (ckN r:Int)) ∧ Below w.heap.size w w':=by
 have henv:=RcEnv.start (c:=c) (d:=d) ha hb
 have rb:reachBytes ≤ 140737488351232:=by unfold reachBytes;omega
 have HTa:=Lib.hid (fun W=>txn_any r.txn W hr.txn)
 have HPa:=Lib.hid (fun W=>stamp_any r.ts W hr.ts)
 have nk:r.keys.length ≤ 9223372036854775807:=by have:=hr.k16;omega
 have nw:r.ws.length * 16 + 16 ≤ 140737488355328:=by have:=hr.w40;omega
 have HRi:=Lib.hid (fun W (h:StrsAt W A r.keys)=>rising_any A c r.keys W h nk (fun s hs=>by have:=hr.kr s hs;omega))
 have HWr:=Lib.hid (fun W (h:WrsAt W B r.ws)=>writes_any B d r.ws W h nw (fun x hx=>by have:=hr.wr x hx;omega))
 have HKy:=Lib.hid (fun W=>key_any r.key W (by have:=hr.key;omega))
 have pk:(r.keys.length:Int) ≤ 9223372036854775807:=by omega
 have pw:(r.ws.length:Int) ≤ 9223372036854775807:=by omega
 have ptx:(r.text.size:Int) ≤ 140737488351232:=by have:=hr.text;omega
 clear ha hb hr rb nk nw
 unfold recV
 go_enter Tryz.func137,Tryz.ntmps137
 go_upto_region 1 with fail
 generalize w.alloc (.cells #[.int .i64 r.kind,.int .i64 r.txn,.int .i64 r.ts,.int .i64 r.coord,.string r.key,.string r.text,.bool r.dead,.slice A r.keys.length c,.slice B r.ws.length d] 39) = W1 at henv ⊢
 have HE:=Lib.hid henv
 have k0:=henv.cel.cell (i:=0) rfl
 have k1:=henv.cel.cell (i:=1) rfl
 have k2:=henv.cel.cell (i:=2) rfl
 have k3:=henv.cel.cell (i:=3) rfl
 have k4:=henv.cel.cell (i:=4) rfl
 have k5:=henv.cel.cell (i:=5) rfl
 have k6:=henv.cel.cell (i:=6) rfl
 have k7:=henv.cel.cell (i:=7) rfl
 have k8:=henv.cel.cell (i:=8) rfl
 clear henv
 have HHead:=Lib.hid hhead
 rw [show decide (stampOk r.ts) = true from decide_eq_true hhead.2.1] at HPa
 have p4:0 ≤ r.coord:=hhead.2.2.1
 have p5:r.coord < 16:=hhead.2.2.2
 go_cut [31] (fun s wx=>s = .bool false ∧ wx = W1)
 case first =>
  by_cases h0:r.txn = 0
  ·have HT0:r.txn = 0 ∨ txnOk r.txn:=.inl h0
   have q0:(r.txn != 0) = false:=by simp [h0]
   clear h0 HT0
   go_wp2_with fail
   refine (HPa.out _).mono ?_
   rintro e w' ⟨rfl,rfl⟩
   go_wp2_with fail
   go_meet
   exact ⟨by first | rfl | (simp;omega),rfl⟩
  ·have q0:(r.txn != 0) = true:=by simp [h0]
   have h1:txnOk r.txn:=by rcases hhead.1 with h | h;exact absurd h h0;exact h
   rw [show decide (txnOk r.txn) = true from decide_eq_true h1] at HTa
   clear h0 h1
   go_wp2_with fail
   refine (HTa.out _).mono ?_
   rintro e w' ⟨rfl,rfl⟩
   go_wp2_with fail
   refine (HPa.out _).mono ?_
   rintro e w' ⟨rfl,rfl⟩
   go_wp2_with fail
   go_meet
   exact ⟨by first | rfl | (simp;omega),rfl⟩
 case rest =>
  obtain ⟨rfl,rfl⟩:=hcut
  have HB1:=Lib.hid HE.out.bel
  go_upto_region 3 with fail
  obtain ⟨lb,hlb⟩:=bool_of (p:=ListsOk r)
  have HL:=Lib.hid hlb
  clear hlb
  go_cut [3] (fun s wx=>s = .bool lb ∧ wx = wc)
  case first =>
   by_cases g1:r.keys = []
   ·have q1:((r.keys.length:Int) == 0) = true:=by rw [g1];rfl
    by_cases g2:r.ws = []
    ·have q2:((r.ws.length:Int) == 0) = true:=by rw [g2];rfl
     have N:=Lib.hid (HL.out.2 ⟨g1,g2⟩)
     clear g1 g2
     go_wp2_with fail
     go_meet
     exact ⟨by first | (rw [N.out];done) | (rw [N.out];rfl) | (rw [N.out];simp;omega),rfl⟩
    ·have h3:¬ r.ws.length = 0:=fun h=>g2 (List.length_eq_zero_iff.1 h)
     have q2:((r.ws.length:Int) == 0) = false:=by simp;exact g2
     have N:=Lib.hid (show lb = false by
      cases lb
      ·rfl
      ·exact absurd (HL.out.1 rfl).2 g2)
     clear g1 g2 h3
     go_wp2_with fail
     go_meet
     exact ⟨by first | (rw [N.out];done) | (rw [N.out];rfl) | (rw [N.out];simp;omega),rfl⟩
   ·have q1:((r.keys.length:Int) == 0) = false:=by simp;exact g1
    have N:=Lib.hid (show lb = false by
     cases lb
     ·rfl
     ·exact absurd (HL.out.1 rfl).1 g1)
    clear g1
    go_wp2_with fail
    go_meet
    exact ⟨by first | (rw [N.out];done) | (rw [N.out];rfl) | (rw [N.out];simp;omega),rfl⟩
  case rest =>
   obtain ⟨rfl,rfl⟩:=hcut
   go_upto_region 4 with fail
   obtain ⟨tb,htb⟩:=bool_of (p:=TextOk r)
   have HTx:=Lib.hid htb
   clear htb
   obtain ⟨wo,rfl⟩:∃ wo:World,wo = wc:=⟨_,rfl⟩
   go_cut [4] (fun s wx=>s = .bool tb ∧ wx = wo)
   case first =>
    by_cases g1:r.key = ⟨#[]⟩
    ·have te:=text_eq ⟨#[]⟩
     rw [g1] at k4
     by_cases g2:r.text = ⟨#[]⟩
     ·rw [g2] at k5
      rcases Bool.eq_false_or_eq_true r.dead with g3 | g3
      ·have hd:=g3
       have N:=Lib.hid (show tb = false by
        cases tb
        ·rfl
        ·exact absurd (HTx.out.1 rfl).2.2 (by rw [hd];simp))
       rw [g3] at k6
       clear g1 g2 g3 hd
       go_wp2_with fail
       go_meet
       exact ⟨by first | (rw [N.out];done) | (rw [N.out];rfl) | (rw [N.out];simp;omega),rfl⟩
      ·have hd:=g3
       have N:=Lib.hid (HTx.out.2 ⟨g1,g2,hd⟩)
       rw [g3] at k6
       clear g1 g2 g3 hd
       go_wp2_with fail
       go_meet
       exact ⟨by first | (rw [N.out];done) | (rw [N.out];rfl) | (rw [N.out];simp;omega),rfl⟩
     ·have hz:=g2
      have t0:=text_ne g2
      have t1:=empty_list g2
      have t2:r.text.toList.isEmpty = false:=by rw [List.isEmpty_eq_false_iff];exact t1
      have N:=Lib.hid (show tb = false by
       cases tb
       ·rfl
       ·exact absurd (HTx.out.1 rfl).2.1 g2)
      clear g1 g2 hz
      go_wp2_with fail
      go_meet
      exact ⟨by first | (rw [N.out];done) | (rw [N.out];rfl) | (rw [N.out];simp;omega),rfl⟩
    ·have hz:=g1
     have t0:=text_ne g1
     have t1:=empty_list g1
     have t2:r.key.toList.isEmpty = false:=by rw [List.isEmpty_eq_false_iff];exact t1
     have N:=Lib.hid (show tb = false by
      cases tb
      ·rfl
      ·exact absurd (HTx.out.1 rfl).1 g1)
     clear g1 hz
     go_wp2_with fail
     go_meet
     exact ⟨by first | (rw [N.out];done) | (rw [N.out];rfl) | (rw [N.out];simp;omega),rfl⟩
   case rest =>
    obtain ⟨rfl,rfl⟩:=hcut
    go_upto_region 5 with fail
    obtain ⟨b,hb⟩:=bool_of (p:=BareOk r)
    have HBa:=Lib.hid hb
    clear hb
    obtain ⟨wo2,rfl⟩:∃ wo2:World,wo2 = wc:=⟨_,rfl⟩
    go_cut [5] (fun s wx=>s = .bool b ∧ wx = wo2)
    case first =>
     cases lb with
     | true =>
      cases tb with
      | true =>
       by_cases g1:r.coord = 0
       ·have q1:(r.coord == 0) = true:=by simp [g1]
        have N:=Lib.hid (HBa.out.2 ⟨HL.out.1 rfl,HTx.out.1 rfl,g1⟩)
        clear g1
        go_wp2_with fail
        go_meet
        exact ⟨by first | (rw [N.out];done) | (rw [N.out];rfl) | (rw [N.out];simp;omega),rfl⟩
       ·have q1:(r.coord == 0) = false:=by simp [g1]
        have N:=Lib.hid (show b = false by
         cases b
         ·rfl
         ·exact absurd (HBa.out.1 rfl).2.2 g1)
        clear g1
        go_wp2_with fail
        go_meet
        exact ⟨by first | (rw [N.out];done) | (rw [N.out];rfl) | (rw [N.out];simp;omega),rfl⟩
      | false =>
       have N:=Lib.hid (show b = false by
        cases b
        ·rfl
        ·exact absurd (HBa.out.1 rfl).2.1 (fun h=>by have:=HTx.out.2 h;cases this))
       go_wp2_with fail
       go_meet
       exact ⟨by first | (rw [N.out];done) | (rw [N.out];rfl) | (rw [N.out];simp;omega),rfl⟩
     | false =>
      have N:=Lib.hid (show b = false by
       cases b
       ·rfl
       ·exact absurd (HBa.out.1 rfl).1 (fun h=>by have:=HL.out.2 h;cases this))
      go_wp2_with fail
      go_meet
      exact ⟨by first | (rw [N.out];done) | (rw [N.out];rfl) | (rw [N.out];simp;omega),rfl⟩
    case rest =>
     obtain ⟨rfl,rfl⟩:=hcut
     have HBb:=Lib.hid HE.out.bel
     have hk:=HKd.out
     by_cases hkd:r.kind = 3
     ·have HK:=Lib.hid (kind_3 hkd)
      have e1:(r.kind == 1) = false:=by rw [beq_eq_false_iff_ne];omega
      have e2:(r.kind == 2) = false:=by rw [beq_eq_false_iff_ne];omega
      have e3:(r.kind == 3) = true:=by rw [beq_iff_eq];exact hkd
      have e4:(r.kind == 4) = false:=by rw [beq_eq_false_iff_ne];omega
      have e5:(r.kind == 5) = false:=by rw [beq_eq_false_iff_ne];omega
      have e6:(r.kind == 6) = false:=by rw [beq_eq_false_iff_ne];omega
      have e7:(r.kind == 7) = false:=by rw [beq_eq_false_iff_ne];omega
      clear hkd hk
      cases lb with
      | false =>
       have E:=Lib.hid (ckN_bad (fun h=>absurd (HL.out.2 (HK.out.1 h).1) (by simp)))
       go_wp2_with fail
       go_ret
       exact ⟨by rw [E.out];rfl,HB1.out⟩
      | true =>
       have hll:=HL.out.1 rfl
       by_cases g0:r.coord = 0
       ·have q0:(r.coord == 0) = true:=by simp [g0]
        by_cases g1:r.txn = 0
        ·have q1:(r.txn == 0) = true:=by simp [g1]
         have q1':(r.txn != 0) = false:=by simp [g1]
         by_cases g2:r.ts = 0
         ·have q2:(r.ts == 0) = true:=by simp [g2]
          have q2':(r.ts != 0) = false:=by simp [g2]
          have E:=Lib.hid (ckN_bad (fun h=>(HK.out.1 h).2.2.2.1 g2))
          clear g0 g1 g2 hll
          go_wp2_with fail
          go_ret
          exact ⟨by rw [E.out];rfl,HB1.out⟩
         ·have q2:(r.ts == 0) = false:=by simp [g2]
          have q2':(r.ts != 0) = true:=by simp [g2]
          by_cases g3:keyOk r.key
          ·rw [show decide (keyOk r.key) = true from decide_eq_true g3] at HKy
           by_cases g4:r.text.size ≤ 2052
           ·have q4:(r.text.size:Int) ≤ 2052:=by omega
            rcases (Bool.eq_false_or_eq_true r.dead).symm with g5 | g5
            ·have hd5:=g5
             have E:=Lib.hid (ckN_ok HHead.out (HK.out.2 ⟨hll,g0,g1,g2,g3,g4,.inl g5⟩))
             rw [g5] at k6
             clear g0 g1 g2 g3 g4 g5 hd5 hll
             go_wp2_with fail
             refine (HKy.out _).mono ?_
             rintro e w' ⟨rfl,rfl⟩
             go_wp2_with fail
             go_ret
             exact ⟨by rw [E.out];rfl,HB1.out⟩
            ·by_cases g6:r.text = ⟨#[]⟩
             ·have te:=text_eq ⟨#[]⟩
              have E:=Lib.hid (ckN_ok HHead.out (HK.out.2 ⟨hll,g0,g1,g2,g3,g4,.inr g6⟩))
              rw [g5] at k6
              rw [g6] at k5 q4
              clear g0 g1 g2 g3 g4 g5 g6 hll
              go_wp2_with fail
              refine (HKy.out _).mono ?_
              rintro e w' ⟨rfl,rfl⟩
              go_wp2_with fail
              go_ret
              exact ⟨by rw [E.out];rfl,HB1.out⟩
             ·have hz:=g6
              have t0:=text_ne g6
              have t1:=empty_list g6
              have t2:r.text.toList.isEmpty = false:=by rw [List.isEmpty_eq_false_iff];exact t1
              have E:=Lib.hid (ckN_bad (fun h=>by rcases (HK.out.1 h).2.2.2.2.2.2 with h | h;(rw [g5] at h;cases h);exact g6 h))
              rw [g5] at k6
              clear g0 g1 g2 g3 g4 g5 g6 hll hz
              go_wp2_with fail
              refine (HKy.out _).mono ?_
              rintro e w' ⟨rfl,rfl⟩
              go_wp2_with fail
              go_ret
              exact ⟨by rw [E.out];rfl,HB1.out⟩
           ·have q4:2052 < (r.text.size:Int):=by omega
            have E:=Lib.hid (ckN_bad (fun h=>g4 (HK.out.1 h).2.2.2.2.2.1))
            clear g0 g1 g2 g3 g4 hll
            go_wp2_with fail
            refine (HKy.out _).mono ?_
            rintro e w' ⟨rfl,rfl⟩
            go_wp2_with fail
            go_ret
            exact ⟨by rw [E.out];rfl,HB1.out⟩
          ·rw [show decide (keyOk r.key) = false from decide_eq_false g3] at HKy
           have E:=Lib.hid (ckN_bad (fun h=>g3 (HK.out.1 h).2.2.2.2.1))
           clear g0 g1 g2 g3 hll
           go_wp2_with fail
           refine (HKy.out _).mono ?_
           rintro e w' ⟨rfl,rfl⟩
           go_wp2_with fail
           go_ret
           exact ⟨by rw [E.out];rfl,HB1.out⟩
        ·have q1:(r.txn == 0) = false:=by simp [g1]
         have q1':(r.txn != 0) = true:=by simp [g1]
         have E:=Lib.hid (ckN_bad (fun h=>g1 (HK.out.1 h).2.2.1))
         clear g0 g1 hll
         go_wp2_with fail
         go_ret
         exact ⟨by rw [E.out];rfl,HB1.out⟩
       ·have q0:(r.coord == 0) = false:=by simp [g0]
        have E:=Lib.hid (ckN_bad (fun h=>g0 (HK.out.1 h).2.1))
        clear g0 hll
        go_wp2_with fail
        go_ret
        exact ⟨by rw [E.out];rfl,HB1.out⟩
     exfalso
     omega
theorem check_g3 (A B:Option Addr) (c d:Nat) (r:Rec) (w:World) (ha:StrsAt w A r.keys) (hb:WrsAt w B r.ws) (hr:RecRng r) (hhead:headOk r) (HKd:Hid (r.kind = 4 ∨ r.kind = 5)) :
  Calls Tryz.prog 137 #[recV r A B c d] w fun e w'=>e = .returned (.int .i64 (ckN r:Int)) ∧ Below w.heap.size w w':=by
 have henv:=RcEnv.start (c:=c) (d:=d) ha hb
 have rb:reachBytes ≤ 140737488351232:=by unfold reachBytes;omega
 have HTa:=Lib.hid (fun W=>txn_any r.txn W hr.txn)
 have HPa:=Lib.hid (fun W=>stamp_any r.ts W hr.ts)
 have nk:r.keys.length ≤ 9223372036854775807:=by have:=hr.k16;omega
 have nw:r.ws.length * 16 + 16 ≤ 140737488355328:=by have:=hr.w40;omega
 have HRi:=Lib.hid (fun W (h:StrsAt W A r.keys)=>rising_any A c r.keys W h nk (fun s hs=>by have:=hr.kr s hs;omega))
 have HWr:=Lib.hid (fun W (h:WrsAt W B r.ws)=>writes_any B d r.ws W h nw (fun x hx=>by have:=hr.wr x hx;omega))
 have HKy:=Lib.hid (fun W=>key_any r.key W (by have:=hr.key;omega))
 have pk:(r.keys.length:Int) ≤ 9223372036854775807:=by omega
 have pw:(r.ws.length:Int) ≤ 9223372036854775807:=by omega
 have ptx:(r.text.size:Int) ≤ 140737488351232:=by have:=hr.text;omega
 clear ha hb hr rb nk nw
 unfold recV
 go_enter Tryz.func137,Tryz.ntmps137
 go_upto_region 1 with fail
 generalize w.alloc (.cells #[.int .i64 r.kind,.int .i64 r.txn,.int .i64 r.ts,.int .i64 r.coord,.string r.key,.string r.text,.bool r.dead,.slice A r.keys.length c,.slice B r.ws.length d] 39) = W1 at henv ⊢
 have HE:=Lib.hid henv
 have k0:=henv.cel.cell (i:=0) rfl
 have k1:=henv.cel.cell (i:=1) rfl
 have k2:=henv.cel.cell (i:=2) rfl
 have k3:=henv.cel.cell (i:=3) rfl
 have k4:=henv.cel.cell (i:=4) rfl
 have k5:=henv.cel.cell (i:=5) rfl
 have k6:=henv.cel.cell (i:=6) rfl
 have k7:=henv.cel.cell (i:=7) rfl
 have k8:=henv.cel.cell (i:=8) rfl
 clear henv
 have HHead:=Lib.hid hhead
 rw [show decide (stampOk r.ts) = true from decide_eq_true hhead.2.1] at HPa
 have p4:0 ≤ r.coord:=hhead.2.2.1
 have p5:r.coord < 16:=hhead.2.2.2
 go_cut [31] (fun s wx=>s = .bool false ∧ wx = W1)
 case first =>
  by_cases h0:r.txn = 0
  ·have HT0:r.txn = 0 ∨ txnOk r.txn:=.inl h0
   have q0:(r.txn != 0) = false:=by simp [h0]
   clear h0 HT0
   go_wp2_with fail
   refine (HPa.out _).mono ?_
   rintro e w' ⟨rfl,rfl⟩
   go_wp2_with fail
   go_meet
   exact ⟨by first | rfl | (simp;omega),rfl⟩
  ·have q0:(r.txn != 0) = true:=by simp [h0]
   have h1:txnOk r.txn:=by rcases hhead.1 with h | h;exact absurd h h0;exact h
   rw [show decide (txnOk r.txn) = true from decide_eq_true h1] at HTa
   clear h0 h1
   go_wp2_with fail
   refine (HTa.out _).mono ?_
   rintro e w' ⟨rfl,rfl⟩
   go_wp2_with fail
   refine (HPa.out _).mono ?_
   rintro e w' ⟨rfl,rfl⟩
   go_wp2_with fail
   go_meet
   exact ⟨by first | rfl | (simp;omega),rfl⟩
 case rest =>
  obtain ⟨rfl,rfl⟩:=hcut
  have HB1:=Lib.hid HE.out.bel
  go_upto_region 3 with fail
  obtain ⟨lb,hlb⟩:=bool_of (p:=ListsOk r)
  have HL:=Lib.hid hlb
  clear hlb
  go_cut [3] (fun s wx=>s = .bool lb ∧ wx = wc)
  case first =>
   by_cases g1:r.keys = []
   ·have q1:((r.keys.length:Int) == 0) = true:=by rw [g1];rfl
    by_cases g2:r.ws = []
    ·have q2:((r.ws.length:Int) == 0) = true:=by rw [g2];rfl
     have N:=Lib.hid (HL.out.2 ⟨g1,g2⟩)
     clear g1 g2
     go_wp2_with fail
     go_meet
     exact ⟨by first | (rw [N.out];done) | (rw [N.out];rfl) | (rw [N.out];simp;omega),rfl⟩
    ·have h3:¬ r.ws.length = 0:=fun h=>g2 (List.length_eq_zero_iff.1 h)
     have q2:((r.ws.length:Int) == 0) = false:=by simp;exact g2
     have N:=Lib.hid (show lb = false by
      cases lb
      ·rfl
      ·exact absurd (HL.out.1 rfl).2 g2)
     clear g1 g2 h3
     go_wp2_with fail
     go_meet
     exact ⟨by first | (rw [N.out];done) | (rw [N.out];rfl) | (rw [N.out];simp;omega),rfl⟩
   ·have q1:((r.keys.length:Int) == 0) = false:=by simp;exact g1
    have N:=Lib.hid (show lb = false by
     cases lb
     ·rfl
     ·exact absurd (HL.out.1 rfl).1 g1)
    clear g1
    go_wp2_with fail
    go_meet
    exact ⟨by first | (rw [N.out];done) | (rw [N.out];rfl) | (rw [N.out];simp;omega),rfl⟩
  case rest =>
   obtain ⟨rfl,rfl⟩:=hcut
   go_upto_region 4 with fail
   obtain ⟨tb,htb⟩:=bool_of (p:=TextOk r)
   have HTx:=Lib.hid htb
   clear htb
   obtain ⟨wo,rfl⟩:∃ wo:World,wo = wc:=⟨_,rfl⟩
   go_cut [4] (fun s wx=>s = .bool tb ∧ wx = wo)
   case first =>
    by_cases g1:r.key = ⟨#[]⟩
    ·have te:=text_eq ⟨#[]⟩
     rw [g1] at k4
     by_cases g2:r.text = ⟨#[]⟩
     ·rw [g2] at k5
      rcases Bool.eq_false_or_eq_true r.dead with g3 | g3
      ·have hd:=g3
       have N:=Lib.hid (show tb = false by
        cases tb
        ·rfl
        ·exact absurd (HTx.out.1 rfl).2.2 (by rw [hd];simp))
       rw [g3] at k6
       clear g1 g2 g3 hd
       go_wp2_with fail
       go_meet
       exact ⟨by first | (rw [N.out];done) | (rw [N.out];rfl) | (rw [N.out];simp;omega),rfl⟩
      ·have hd:=g3
       have N:=Lib.hid (HTx.out.2 ⟨g1,g2,hd⟩)
       rw [g3] at k6
       clear g1 g2 g3 hd
       go_wp2_with fail
       go_meet
       exact ⟨by first | (rw [N.out];done) | (rw [N.out];rfl) | (rw [N.out];simp;omega),rfl⟩
     ·have hz:=g2
      have t0:=text_ne g2
      have t1:=empty_list g2
      have t2:r.text.toList.isEmpty = false:=by rw [List.isEmpty_eq_false_iff];exact t1
      have N:=Lib.hid (show tb = false by
       cases tb
       ·rfl
       ·exact absurd (HTx.out.1 rfl).2.1 g2)
      clear g1 g2 hz
      go_wp2_with fail
      go_meet
      exact ⟨by first | (rw [N.out];done) | (rw [N.out];rfl) | (rw [N.out];simp;omega),rfl⟩
    ·have hz:=g1
     have t0:=text_ne g1
     have t1:=empty_list g1
     have t2:r.key.toList.isEmpty = false:=by rw [List.isEmpty_eq_false_iff];exact t1
     have N:=Lib.hid (show tb = false by
      cases tb
      ·rfl
      ·exact absurd (HTx.out.1 rfl).1 g1)
     clear g1 hz
     go_wp2_with fail
     go_meet
     exact ⟨by first | (rw [N.out];done) | (rw [N.out];rfl) | (rw [N.out];simp;omega),rfl⟩
   case rest =>
    obtain ⟨rfl,rfl⟩:=hcut
    go_upto_region 5 with fail
    obtain ⟨b,hb⟩:=bool_of (p:=BareOk r)
    have HBa:=Lib.hid hb
    clear hb
    obtain ⟨wo2,rfl⟩:∃ wo2:World,wo2 = wc:=⟨_,rfl⟩
    go_cut [5] (fun s wx=>s = .bool b ∧ wx = wo2)
    case first =>
     cases lb with
     | true =>
      cases tb with
      | true =>
       by_cases g1:r.coord = 0
       ·have q1:(r.coord == 0) = true:=by simp [g1]
        have N:=Lib.hid (HBa.out.2 ⟨HL.out.1 rfl,HTx.out.1 rfl,g1⟩)
        clear g1
        go_wp2_with fail
        go_meet
        exact ⟨by first | (rw [N.out];done) | (rw [N.out];rfl) | (rw [N.out];simp;omega),rfl⟩
       ·have q1:(r.coord == 0) = false:=by simp [g1]
        have N:=Lib.hid (show b = false by
         cases b
         ·rfl
         ·exact absurd (HBa.out.1 rfl).2.2 g1)
        clear g1
        go_wp2_with fail
        go_meet
        exact ⟨by first | (rw [N.out];done) | (rw [N.out];rfl) | (rw [N.out];simp;omega),rfl⟩
      | false =>
       have N:=Lib.hid (show b = false by
        cases b
        ·rfl
        ·exact absurd (HBa.out.1 rfl).2.1 (fun h=>by have:=HTx.out.2 h;cases this))
       go_wp2_with fail
       go_meet
       exact ⟨by first | (rw [N.out];done) | (rw [N.out];rfl) | (rw [N.out];simp;omega),rfl⟩
     | false =>
      have N:=Lib.hid (show b = false by
       cases b
       ·rfl
       ·exact absurd (HBa.out.1 rfl).1 (fun h=>by have:=HL.out.2 h;cases this))
      go_wp2_with fail
      go_meet
      exact ⟨by first | (rw [N.out];done) | (rw [N.out];rfl) | (rw [N.out];simp;omega),rfl⟩
    case rest =>
     obtain ⟨rfl,rfl⟩:=hcut
     have HBb:=Lib.hid HE.out.bel
     have hk:=HKd.out
     by_cases hkd:r.kind = 4
     ·have HK:=Lib.hid (kind_4 hkd)
      have e1:(r.kind == 1) = false:=by rw [beq_eq_false_iff_ne];omega
      have e2:(r.kind == 2) = false:=by rw [beq_eq_false_iff_ne];omega
      have e3:(r.kind == 3) = false:=by rw [beq_eq_false_iff_ne];omega
      have e4:(r.kind == 4) = true:=by rw [beq_iff_eq];exact hkd
      have e5:(r.kind == 5) = false:=by rw [beq_eq_false_iff_ne];omega
      have e6:(r.kind == 6) = false:=by rw [beq_eq_false_iff_ne];omega
      have e7:(r.kind == 7) = false:=by rw [beq_eq_false_iff_ne];omega
      clear hkd hk
      cases b with
      | false =>
       have E:=Lib.hid (ckN_bad (fun h=>absurd (HBa.out.2 (HK.out.1 h).1) (by simp)))
       go_wp2_with fail
       go_ret
       exact ⟨by rw [E.out];rfl,HB1.out⟩
      | true =>
       have hba:=HBa.out.1 rfl
       by_cases g1:r.txn = 0
       ·have q1:(r.txn == 0) = true:=by simp [g1]
        have q1':(r.txn != 0) = false:=by simp [g1]
        have E:=Lib.hid (ckN_ok HHead.out (HK.out.2 ⟨hba,g1⟩))
        clear g1
        go_wp2_with fail
        go_ret
        exact ⟨by rw [E.out];rfl,HB1.out⟩
       ·have q1:(r.txn == 0) = false:=by simp [g1]
        have q1':(r.txn != 0) = true:=by simp [g1]
        have E:=Lib.hid (ckN_bad (fun h=>g1 (HK.out.1 h).2))
        clear g1
        go_wp2_with fail
        go_ret
        exact ⟨by rw [E.out];rfl,HB1.out⟩
     by_cases hkd:r.kind = 5
     ·have HK:=Lib.hid (kind_5 hkd)
      have e1:(r.kind == 1) = false:=by rw [beq_eq_false_iff_ne];omega
      have e2:(r.kind == 2) = false:=by rw [beq_eq_false_iff_ne];omega
      have e3:(r.kind == 3) = false:=by rw [beq_eq_false_iff_ne];omega
      have e4:(r.kind == 4) = false:=by rw [beq_eq_false_iff_ne];omega
      have e5:(r.kind == 5) = true:=by rw [beq_iff_eq];exact hkd
      have e6:(r.kind == 6) = false:=by rw [beq_eq_false_iff_ne];omega
      have e7:(r.kind == 7) = false:=by rw [beq_eq_false_iff_ne];omega
      clear hkd hk
      cases b with
      | false =>
       have E:=Lib.hid (ckN_bad (fun h=>absurd (HBa.out.2 (HK.out.1 h).1) (by simp)))
       go_wp2_with fail
       go_ret
       exact ⟨by rw [E.out];rfl,HB1.out⟩
      | true =>
       have hba:=HBa.out.1 rfl
       by_cases g1:r.txn = 0
       ·have q1:(r.txn == 0) = true:=by simp [g1]
        have q1':(r.txn != 0) = false:=by simp [g1]
        have E:=Lib.hid (ckN_bad (fun h=>(HK.out.1 h).2.1 g1))
        clear g1
        go_wp2_with fail
        go_ret
        exact ⟨by rw [E.out];rfl,HB1.out⟩
       ·have q1:(r.txn == 0) = false:=by simp [g1]
        have q1':(r.txn != 0) = true:=by simp [g1]
        by_cases g2:r.ts = 0
        ·have q2:(r.ts == 0) = true:=by simp [g2]
         have q2':(r.ts != 0) = false:=by simp [g2]
         have E:=Lib.hid (ckN_bad (fun h=>(HK.out.1 h).2.2 g2))
         clear g1 g2
         go_wp2_with fail
         go_ret
         exact ⟨by rw [E.out];rfl,HB1.out⟩
        ·have q2:(r.ts == 0) = false:=by simp [g2]
         have q2':(r.ts != 0) = true:=by simp [g2]
         have E:=Lib.hid (ckN_ok HHead.out (HK.out.2 ⟨hba,g1,g2⟩))
         clear g1 g2
         go_wp2_with fail
         go_ret
         exact ⟨by rw [E.out];rfl,HB1.out⟩
     exfalso
     omega
theorem check_g4 (A B:Option Addr) (c d:Nat) (r:Rec) (w:World) (ha:StrsAt w A r.keys) (hb:WrsAt w B r.ws) (hr:RecRng r) (hhead:headOk r) (HKd:Hid (r.kind < 1 ∨ 5 < r.kind)) :
  Calls Tryz.prog 137 #[recV r A B c d] w fun e w'=>e = .returned (.int .i64 (ckN r:Int)) ∧ Below w.heap.size w w':=by
 have henv:=RcEnv.start (c:=c) (d:=d) ha hb
 have rb:reachBytes ≤ 140737488351232:=by unfold reachBytes;omega
 have HTa:=Lib.hid (fun W=>txn_any r.txn W hr.txn)
 have HPa:=Lib.hid (fun W=>stamp_any r.ts W hr.ts)
 have nk:r.keys.length ≤ 9223372036854775807:=by have:=hr.k16;omega
 have nw:r.ws.length * 16 + 16 ≤ 140737488355328:=by have:=hr.w40;omega
 have HRi:=Lib.hid (fun W (h:StrsAt W A r.keys)=>rising_any A c r.keys W h nk (fun s hs=>by have:=hr.kr s hs;omega))
 have HWr:=Lib.hid (fun W (h:WrsAt W B r.ws)=>writes_any B d r.ws W h nw (fun x hx=>by have:=hr.wr x hx;omega))
 have HKy:=Lib.hid (fun W=>key_any r.key W (by have:=hr.key;omega))
 have pk:(r.keys.length:Int) ≤ 9223372036854775807:=by omega
 have pw:(r.ws.length:Int) ≤ 9223372036854775807:=by omega
 have ptx:(r.text.size:Int) ≤ 140737488351232:=by have:=hr.text;omega
 clear ha hb hr rb nk nw
 unfold recV
 go_enter Tryz.func137,Tryz.ntmps137
 go_upto_region 1 with fail
 generalize w.alloc (.cells #[.int .i64 r.kind,.int .i64 r.txn,.int .i64 r.ts,.int .i64 r.coord,.string r.key,.string r.text,.bool r.dead,.slice A r.keys.length c,.slice B r.ws.length d] 39) = W1 at henv ⊢
 have HE:=Lib.hid henv
 have k0:=henv.cel.cell (i:=0) rfl
 have k1:=henv.cel.cell (i:=1) rfl
 have k2:=henv.cel.cell (i:=2) rfl
 have k3:=henv.cel.cell (i:=3) rfl
 have k4:=henv.cel.cell (i:=4) rfl
 have k5:=henv.cel.cell (i:=5) rfl
 have k6:=henv.cel.cell (i:=6) rfl
 have k7:=henv.cel.cell (i:=7) rfl
 have k8:=henv.cel.cell (i:=8) rfl
 clear henv
 have HHead:=Lib.hid hhead
 rw [show decide (stampOk r.ts) = true from decide_eq_true hhead.2.1] at HPa
 have p4:0 ≤ r.coord:=hhead.2.2.1
 have p5:r.coord < 16:=hhead.2.2.2
 go_cut [31] (fun s wx=>s = .bool false ∧ wx = W1)
 case first =>
  by_cases h0:r.txn = 0
  ·have HT0:r.txn = 0 ∨ txnOk r.txn:=.inl h0
   have q0:(r.txn != 0) = false:=by simp [h0]
   clear h0 HT0
   go_wp2_with fail
   refine (HPa.out _).mono ?_
   rintro e w' ⟨rfl,rfl⟩
   go_wp2_with fail
   go_meet
   exact ⟨by first | rfl | (simp;omega),rfl⟩
  ·have q0:(r.txn != 0) = true:=by simp [h0]
   have h1:txnOk r.txn:=by rcases hhead.1 with h | h;exact absurd h h0;exact h
   rw [show decide (txnOk r.txn) = true from decide_eq_true h1] at HTa
   clear h0 h1
   go_wp2_with fail
   refine (HTa.out _).mono ?_
   rintro e w' ⟨rfl,rfl⟩
   go_wp2_with fail
   refine (HPa.out _).mono ?_
   rintro e w' ⟨rfl,rfl⟩
   go_wp2_with fail
   go_meet
   exact ⟨by first | rfl | (simp;omega),rfl⟩
 case rest =>
  obtain ⟨rfl,rfl⟩:=hcut
  have HB1:=Lib.hid HE.out.bel
  go_upto_region 3 with fail
  obtain ⟨lb,hlb⟩:=bool_of (p:=ListsOk r)
  have HL:=Lib.hid hlb
  clear hlb
  go_cut [3] (fun s wx=>s = .bool lb ∧ wx = wc)
  case first =>
   by_cases g1:r.keys = []
   ·have q1:((r.keys.length:Int) == 0) = true:=by rw [g1];rfl
    by_cases g2:r.ws = []
    ·have q2:((r.ws.length:Int) == 0) = true:=by rw [g2];rfl
     have N:=Lib.hid (HL.out.2 ⟨g1,g2⟩)
     clear g1 g2
     go_wp2_with fail
     go_meet
     exact ⟨by first | (rw [N.out];done) | (rw [N.out];rfl) | (rw [N.out];simp;omega),rfl⟩
    ·have h3:¬ r.ws.length = 0:=fun h=>g2 (List.length_eq_zero_iff.1 h)
     have q2:((r.ws.length:Int) == 0) = false:=by simp;exact g2
     have N:=Lib.hid (show lb = false by
      cases lb
      ·rfl
      ·exact absurd (HL.out.1 rfl).2 g2)
     clear g1 g2 h3
     go_wp2_with fail
     go_meet
     exact ⟨by first | (rw [N.out];done) | (rw [N.out];rfl) | (rw [N.out];simp;omega),rfl⟩
   ·have q1:((r.keys.length:Int) == 0) = false:=by simp;exact g1
    have N:=Lib.hid (show lb = false by
     cases lb
     ·rfl
     ·exact absurd (HL.out.1 rfl).1 g1)
    clear g1
    go_wp2_with fail
    go_meet
    exact ⟨by first | (rw [N.out];done) | (rw [N.out];rfl) | (rw [N.out];simp;omega),rfl⟩
  case rest =>
   obtain ⟨rfl,rfl⟩:=hcut
   go_upto_region 4 with fail
   obtain ⟨tb,htb⟩:=bool_of (p:=TextOk r)
   have HTx:=Lib.hid htb
   clear htb
   obtain ⟨wo,rfl⟩:∃ wo:World,wo = wc:=⟨_,rfl⟩
   go_cut [4] (fun s wx=>s = .bool tb ∧ wx = wo)
   case first =>
    by_cases g1:r.key = ⟨#[]⟩
    ·have te:=text_eq ⟨#[]⟩
     rw [g1] at k4
     by_cases g2:r.text = ⟨#[]⟩
     ·rw [g2] at k5
      rcases Bool.eq_false_or_eq_true r.dead with g3 | g3
      ·have hd:=g3
       have N:=Lib.hid (show tb = false by
        cases tb
        ·rfl
        ·exact absurd (HTx.out.1 rfl).2.2 (by rw [hd];simp))
       rw [g3] at k6
       clear g1 g2 g3 hd
       go_wp2_with fail
       go_meet
       exact ⟨by first | (rw [N.out];done) | (rw [N.out];rfl) | (rw [N.out];simp;omega),rfl⟩
      ·have hd:=g3
       have N:=Lib.hid (HTx.out.2 ⟨g1,g2,hd⟩)
       rw [g3] at k6
       clear g1 g2 g3 hd
       go_wp2_with fail
       go_meet
       exact ⟨by first | (rw [N.out];done) | (rw [N.out];rfl) | (rw [N.out];simp;omega),rfl⟩
     ·have hz:=g2
      have t0:=text_ne g2
      have t1:=empty_list g2
      have t2:r.text.toList.isEmpty = false:=by rw [List.isEmpty_eq_false_iff];exact t1
      have N:=Lib.hid (show tb = false by
       cases tb
       ·rfl
       ·exact absurd (HTx.out.1 rfl).2.1 g2)
      clear g1 g2 hz
      go_wp2_with fail
      go_meet
      exact ⟨by first | (rw [N.out];done) | (rw [N.out];rfl) | (rw [N.out];simp;omega),rfl⟩
    ·have hz:=g1
     have t0:=text_ne g1
     have t1:=empty_list g1
     have t2:r.key.toList.isEmpty = false:=by rw [List.isEmpty_eq_false_iff];exact t1
     have N:=Lib.hid (show tb = false by
      cases tb
      ·rfl
      ·exact absurd (HTx.out.1 rfl).1 g1)
     clear g1 hz
     go_wp2_with fail
     go_meet
     exact ⟨by first | (rw [N.out];done) | (rw [N.out];rfl) | (rw [N.out];simp;omega),rfl⟩
   case rest =>
    obtain ⟨rfl,rfl⟩:=hcut
    go_upto_region 5 with fail
    obtain ⟨b,hb⟩:=bool_of (p:=BareOk r)
    have HBa:=Lib.hid hb
    clear hb
    obtain ⟨wo2,rfl⟩:∃ wo2:World,wo2 = wc:=⟨_,rfl⟩
    go_cut [5] (fun s wx=>s = .bool b ∧ wx = wo2)
    case first =>
     cases lb with
     | true =>
      cases tb with
      | true =>
       by_cases g1:r.coord = 0
       ·have q1:(r.coord == 0) = true:=by simp [g1]
        have N:=Lib.hid (HBa.out.2 ⟨HL.out.1 rfl,HTx.out.1 rfl,g1⟩)
        clear g1
        go_wp2_with fail
        go_meet
        exact ⟨by first | (rw [N.out];done) | (rw [N.out];rfl) | (rw [N.out];simp;omega),rfl⟩
       ·have q1:(r.coord == 0) = false:=by simp [g1]
        have N:=Lib.hid (show b = false by
         cases b
         ·rfl
         ·exact absurd (HBa.out.1 rfl).2.2 g1)
        clear g1
        go_wp2_with fail
        go_meet
        exact ⟨by first | (rw [N.out];done) | (rw [N.out];rfl) | (rw [N.out];simp;omega),rfl⟩
      | false =>
       have N:=Lib.hid (show b = false by
        cases b
        ·rfl
        ·exact absurd (HBa.out.1 rfl).2.1 (fun h=>by have:=HTx.out.2 h;cases this))
       go_wp2_with fail
       go_meet
       exact ⟨by first | (rw [N.out];done) | (rw [N.out];rfl) | (rw [N.out];simp;omega),rfl⟩
     | false =>
      have N:=Lib.hid (show b = false by
       cases b
       ·rfl
       ·exact absurd (HBa.out.1 rfl).1 (fun h=>by have:=HL.out.2 h;cases this))
      go_wp2_with fail
      go_meet
      exact ⟨by first | (rw [N.out];done) | (rw [N.out];rfl) | (rw [N.out];simp;omega),rfl⟩
    case rest =>
     obtain ⟨rfl,rfl⟩:=hcut
     have HBb:=Lib.hid HE.out.bel
     have hk:=HKd.out
     by_cases hkd:r.kind = 6
     ·have HK:=Lib.hid (kind_6 hkd)
      have e1:(r.kind == 1) = false:=by rw [beq_eq_false_iff_ne];omega
      have e2:(r.kind == 2) = false:=by rw [beq_eq_false_iff_ne];omega
      have e3:(r.kind == 3) = false:=by rw [beq_eq_false_iff_ne];omega
      have e4:(r.kind == 4) = false:=by rw [beq_eq_false_iff_ne];omega
      have e5:(r.kind == 5) = false:=by rw [beq_eq_false_iff_ne];omega
      have e6:(r.kind == 6) = true:=by rw [beq_iff_eq];exact hkd
      have e7:(r.kind == 7) = false:=by rw [beq_eq_false_iff_ne];omega
      clear hkd hk
      cases b with
      | false =>
       have E:=Lib.hid (ckN_bad (fun h=>absurd (HBa.out.2 (HK.out.1 h).1) (by simp)))
       go_wp2_with fail
       go_ret
       exact ⟨by rw [E.out];rfl,HB1.out⟩
      | true =>
       have hba:=HBa.out.1 rfl
       by_cases g1:r.txn = 0
       ·have q1:(r.txn == 0) = true:=by simp [g1]
        have q1':(r.txn != 0) = false:=by simp [g1]
        have E:=Lib.hid (ckN_bad (fun h=>(HK.out.1 h).2.1 g1))
        clear g1
        go_wp2_with fail
        go_ret
        exact ⟨by rw [E.out];rfl,HB1.out⟩
       ·have q1:(r.txn == 0) = false:=by simp [g1]
        have q1':(r.txn != 0) = true:=by simp [g1]
        by_cases g2:r.ts = 0
        ·have q2:(r.ts == 0) = true:=by simp [g2]
         have q2':(r.ts != 0) = false:=by simp [g2]
         have E:=Lib.hid (ckN_ok HHead.out (HK.out.2 ⟨hba,g1,g2⟩))
         clear g1 g2
         go_wp2_with fail
         go_ret
         exact ⟨by rw [E.out];rfl,HB1.out⟩
        ·have q2:(r.ts == 0) = false:=by simp [g2]
         have q2':(r.ts != 0) = true:=by simp [g2]
         have E:=Lib.hid (ckN_bad (fun h=>g2 (HK.out.1 h).2.2))
         clear g1 g2
         go_wp2_with fail
         go_ret
         exact ⟨by rw [E.out];rfl,HB1.out⟩
     by_cases hkd:r.kind = 7
     ·have HK:=Lib.hid (kind_7 hkd)
      have e1:(r.kind == 1) = false:=by rw [beq_eq_false_iff_ne];omega
      have e2:(r.kind == 2) = false:=by rw [beq_eq_false_iff_ne];omega
      have e3:(r.kind == 3) = false:=by rw [beq_eq_false_iff_ne];omega
      have e4:(r.kind == 4) = false:=by rw [beq_eq_false_iff_ne];omega
      have e5:(r.kind == 5) = false:=by rw [beq_eq_false_iff_ne];omega
      have e6:(r.kind == 6) = false:=by rw [beq_eq_false_iff_ne];omega
      have e7:(r.kind == 7) = true:=by rw [beq_iff_eq];exact hkd
      clear hkd hk
      cases b with
      | false =>
       have E:=Lib.hid (ckN_bad (fun h=>absurd (HBa.out.2 (HK.out.1 h).1) (by simp)))
       go_wp2_with fail
       go_ret
       exact ⟨by rw [E.out];rfl,HB1.out⟩
      | true =>
       have hba:=HBa.out.1 rfl
       by_cases g1:r.txn = 0
       ·have q1:(r.txn == 0) = true:=by simp [g1]
        have q1':(r.txn != 0) = false:=by simp [g1]
        by_cases g2:r.ts = 0
        ·have q2:(r.ts == 0) = true:=by simp [g2]
         have q2':(r.ts != 0) = false:=by simp [g2]
         have E:=Lib.hid (ckN_bad (fun h=>(HK.out.1 h).2.2 g2))
         clear g1 g2
         go_wp2_with fail
         go_ret
         exact ⟨by rw [E.out];rfl,HB1.out⟩
        ·have q2:(r.ts == 0) = false:=by simp [g2]
         have q2':(r.ts != 0) = true:=by simp [g2]
         have E:=Lib.hid (ckN_ok HHead.out (HK.out.2 ⟨hba,g1,g2⟩))
         clear g1 g2
         go_wp2_with fail
         go_ret
         exact ⟨by rw [E.out];rfl,HB1.out⟩
       ·have q1:(r.txn == 0) = false:=by simp [g1]
        have q1':(r.txn != 0) = true:=by simp [g1]
        have E:=Lib.hid (ckN_bad (fun h=>g1 (HK.out.1 h).2.1))
        clear g1
        go_wp2_with fail
        go_ret
        exact ⟨by rw [E.out];rfl,HB1.out⟩
     have hno:r.kind < 1 ∨ 7 < r.kind:=by omega
     have E:=Lib.hid (ckN_bad (kind_no hno))
     have e1:(r.kind == 1) = false:=by rw [beq_eq_false_iff_ne];omega
     have e2:(r.kind == 2) = false:=by rw [beq_eq_false_iff_ne];omega
     have e3:(r.kind == 3) = false:=by rw [beq_eq_false_iff_ne];omega
     have e4:(r.kind == 4) = false:=by rw [beq_eq_false_iff_ne];omega
     have e5:(r.kind == 5) = false:=by rw [beq_eq_false_iff_ne];omega
     have e6:(r.kind == 6) = false:=by rw [beq_eq_false_iff_ne];omega
     have e7:(r.kind == 7) = false:=by rw [beq_eq_false_iff_ne];omega
     clear hno hk
     go_wp2_with fail
     go_ret
     exact ⟨by rw [E.out];rfl,HB1.out⟩
end Rc
end Go.Proofs.YtmidncclndongaaGreat
namespace Go.Proofs.YtmidncclndongaaGreat
namespace Rc
open Go.RowKit Bk Lt
theorem check_any (A B:Option Addr) (c d:Nat) (r:Rec) (w:World) (ha:StrsAt w A r.keys) (hb:WrsAt w B r.ws) (hr:RecRng r) :
  Calls Tryz.prog 137 #[recV r A B c d] w fun e w'=>e = .returned (.int .i64 (ckN r:Int)) ∧ Below w.heap.size w w':=by
 by_cases hh:headOk r
 ·by_cases h1:r.kind = 1 ∨ r.kind = 2
  ·exact check_g1 A B c d r w ha hb hr hh (Lib.hid h1)
  by_cases h2:r.kind = 3
  ·exact check_g2 A B c d r w ha hb hr hh (Lib.hid h2)
  by_cases h3:r.kind = 4 ∨ r.kind = 5
  ·exact check_g3 A B c d r w ha hb hr hh (Lib.hid h3)
  exact check_g4 A B c d r w ha hb hr hh (Lib.hid (by omega))
 ·exact check_bad A B c d r w ha hb hr hh
end Rc
end Go.Proofs.YtmidncclndongaaGreat
namespace Go.Proofs.YtmidncclndongaaGreat
namespace Rc
open Go.RowKit Bk Lt
attribute [local go_sem ↓] Go.wp_at_zero Go.wp_at_succ
attribute [local go_sem] floatUpon pick
end Rc
end Go.Proofs.YtmidncclndongaaGreat
