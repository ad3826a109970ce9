/- Parts of the proof, joined: RcDone3, LtClone; their conditions stand with each. -/
import Derived.Lib.SliceRun
import Derived.Test.YtbkanoblcojdfaaGreatV13

set_option maxRecDepth 20000
set_option maxHeartbeats 8000000
namespace Go.Proofs.YtbkanoblcojdfaaGreat
namespace Rc
open Go.RowKit Bk Lt
attribute [local go_sem ↓] Go.wp_at_zero Go.wp_at_succ
attribute [local go_sem] floatUpon pick
def eqZ (u:Fl):Bool:=u.kind == 0 && (u.txn == 0 && (u.ts == 0 && (u.coord == 0 && (u.key.toList == (⟨#[]⟩:ByteArray).toList && (u.text.toList == (⟨#[]⟩:ByteArray).toList && (u.dead == false && (u.keys == 0 && u.writes == 0)))))))
theorem text_iff (s:ByteArray):(s.toList == (⟨#[]⟩:ByteArray).toList) = true ↔ s = ⟨#[]⟩:=by
 constructor
 ·intro h
  refine Classical.byContradiction fun hn=>?_
  rw [text_ne hn] at h;cases h
 ·intro h;rw [h];exact text_eq _
theorem eqZ_iff (u:Fl):eqZ u = true ↔ u.kind = 0 ∧ u.txn = 0 ∧ u.ts = 0 ∧ u.coord = 0 ∧ u.key = ⟨#[]⟩ ∧ u.text = ⟨#[]⟩ ∧ u.dead = false ∧ u.keys = 0 ∧ u.writes = 0:=by
 unfold eqZ
 simp only [Bool.and_eq_true,beq_iff_eq]
 simp only [← text_iff,beq_iff_eq]
theorem eql_flat (u:Fl) (W:World):(binOp .eql 219 (flV u) (flV flZ)).run Tryz.prog W = .ok (.bool (eqZ u)) W:=by
 have u3:=Tryz.underlying3
 have u9:=Tryz.underlying9
 have u4:=Tryz.underlying4
 have hS:Tryz.prog.underlying 219 = some (.struct (Tryz.prog.fieldsOf 219)):=by kernel_rfl
 have hp:Tryz.prog.stoodInHeld 219 = false:=by kernel_rfl
 have hE:=eqZ_iff u
 unfold flV flZ
 rw [run_eql_struct,show (10000:Nat) = 9999 + 1 from rfl,run_equalIn_agg W 9999 219 _ _ hS hp]
 simp only [Program.fieldsOf,Tryz.underlying219]
 have hno:(¬ (u.kind = 0 ∧ u.txn = 0 ∧ u.ts = 0 ∧ u.coord = 0 ∧ u.key = ⟨#[]⟩ ∧ u.text = ⟨#[]⟩ ∧ u.dead = false ∧ u.keys = 0 ∧ u.writes = 0)) → eqZ u = false:=fun h=>Bool.eq_false_iff.2 (fun h2=>h (hE.1 h2))
 have hyes:=hE.2
 generalize eqZ u = z at hno hyes ⊢
 clear hE
 obtain ⟨kd,tn,ts,co,ky,tt,dd,ks,ws⟩:=u
 simp only at hno hyes ⊢
 by_cases h0:kd = 0
 case neg=>rw [hno (fun h=>h0 h.1)];clear hno hyes;go_simp
 by_cases h1:tn = 0
 case neg=>rw [hno (fun h=>h1 h.2.1)];clear hno hyes;go_simp
 by_cases h2:ts = 0
 case neg=>rw [hno (fun h=>h2 h.2.2.1)];clear hno hyes;go_simp
 by_cases h3:co = 0
 case neg=>rw [hno (fun h=>h3 h.2.2.2.1)];clear hno hyes;go_simp
 by_cases h4:ky = ⟨#[]⟩
 case neg =>
  rw [hno (fun h=>h4 h.2.2.2.2.1)]
  have t0:=text_ne h4
  have t1:¬ ky.toList = []:=fun h=>h4 (by
   rw [ByteArray.toList_eq] at h
   obtain ⟨a⟩:=ky
   congr 1
   exact Array.toList_inj.1 h)
  have t2:ky.toList.isEmpty = false:=by rw [List.isEmpty_eq_false_iff];exact t1
  clear hno hyes h4
  go_simp
 by_cases h5:tt = ⟨#[]⟩
 case neg =>
  rw [hno (fun h=>h5 h.2.2.2.2.2.1)]
  have t0:=text_ne h5
  have t1:¬ tt.toList = []:=fun h=>h5 (by
   rw [ByteArray.toList_eq] at h
   obtain ⟨a⟩:=tt
   congr 1
   exact Array.toList_inj.1 h)
  have t2:tt.toList.isEmpty = false:=by rw [List.isEmpty_eq_false_iff];exact t1
  have e0:=text_eq ⟨#[]⟩
  subst h4
  clear hno hyes h5
  go_simp
 have e0:=text_eq ⟨#[]⟩
 subst h4
 subst h5
 cases dd
 case true=>rw [hno (fun h=>by simp at h)];clear hno hyes;go_simp
 by_cases h7:ks = 0
 case neg=>rw [hno (fun h=>h7 h.2.2.2.2.2.2.2.1)];clear hno hyes;go_simp
 by_cases h8:ws = 0
 case neg=>rw [hno (fun h=>h8 h.2.2.2.2.2.2.2.2)];clear hno hyes;go_simp
 rw [hyes ⟨h0,h1,h2,h3,rfl,rfl,rfl,h7,h8⟩]
 clear hno hyes
 go_simp
theorem inB_iff (r:Rec):inB r = true ↔ (0 ≤ r.txn ∧ r.txn ≤ 1125899906842623) ∧ stampOk r.ts ∧ 0 ≤ r.coord ∧ r.coord < 16:=by
 unfold inB stampOk
 simp only [Bool.and_eq_true,decide_eq_true_eq]
 constructor
 ·rintro ⟨h1,h2,h3,h4⟩;exact ⟨h1,h2,h3,by omega⟩
 ·rintro ⟨h1,h2,h3,h4⟩;exact ⟨h1,h2,h3,by omega⟩
theorem head_iff (r:Rec):headOk r ↔ inB r = true:=by
 rw [inB_iff]
 unfold headOk txnOk stampOk
 constructor
 ·rintro ⟨h1,h2,h3,h4⟩;exact ⟨by omega,h2,h3,h4⟩
 ·rintro ⟨h1,h2,h3,h4⟩;exact ⟨by omega,h2,h3,h4⟩
theorem len_zero {α:Type} (l:List α):(l.length:Int) = 0 ↔ l = []:=by
 constructor
 ·intro h;exact List.eq_nil_of_length_eq_zero (by omega)
 ·intro h;rw [h];rfl
theorem rec_parts (r:Rec):RecOk r ↔ (unF (flOf r)).2 = true ∧ eqZ (unF (flOf r)).1 = true ∧ inB r = true ∧ must r = true:=by
 have hn:∀ x:Int,(x != 0) = true ↔ x ≠ 0:=fun x=>by simp
 have hf:(flOf r).kind = r.kind:=rfl
 unfold RecOk
 rw [head_iff]
 by_cases h1:r.kind = 1
 ·rw [kind_1 h1,show unF (flOf r) = (⟨0,0,0,0,r.key,r.text,r.dead,0,0⟩,true) from by unfold unF;rw [if_pos (hf.trans h1)];rfl,show must r = ((r.txn != 0) && prepB r.keys r.ws) from by unfold must;rw [if_pos h1]]
  simp only [eqZ_iff,Bool.and_eq_true,hn,prep_iff]
  unfold TextOk
  constructor
  ·rintro ⟨a1,⟨a2,a3,a4⟩,a5,a6⟩;exact ⟨trivial,⟨trivial,trivial,trivial,trivial,a2,a3,a4,trivial,trivial⟩,a1,a5,a6⟩
  ·rintro ⟨_,⟨_,_,_,_,a2,a3,a4,_,_⟩,a1,a5,a6⟩;exact ⟨a1,⟨a2,a3,a4⟩,a5,a6⟩
 by_cases h2:r.kind = 2
 ·rw [kind_2 h2,show unF (flOf r) = (⟨0,0,0,r.coord,r.key,r.text,r.dead,(r.keys.length:Int),(r.ws.length:Int)⟩,true) from by unfold unF;simp [h2,flOf],show must r = (r.txn != 0) from by unfold must;simp [h2]]
  simp only [eqZ_iff,hn,len_zero]
  unfold BareOk ListsOk TextOk
  constructor
  ·rintro ⟨a1,⟨⟨b1,b2⟩,⟨a2,a3,a4⟩,b3⟩,a5⟩;exact ⟨trivial,⟨trivial,trivial,trivial,b3,a2,a3,a4,b1,b2⟩,a1,a5⟩
  ·rintro ⟨_,⟨_,_,_,b3,a2,a3,a4,b1,b2⟩,a1,a5⟩;exact ⟨a1,⟨⟨b1,b2⟩,⟨a2,a3,a4⟩,b3⟩,a5⟩
 by_cases h3:r.kind = 3
 ·rw [kind_3 h3,show unF (flOf r) = (⟨0,r.txn,0,r.coord,⟨#[]⟩,⟨#[]⟩,false,(r.keys.length:Int),(r.ws.length:Int)⟩,true) from by unfold unF;simp [h3,flOf],show must r = ((r.ts != 0) && prepB [] [⟨r.key,r.text,r.dead⟩]) from by unfold must;simp [h3]]
  simp only [eqZ_iff,Bool.and_eq_true,hn,len_zero,prep_one]
  unfold ListsOk
  constructor
  ·rintro ⟨a1,⟨b1,b2⟩,b3,b4,b5,b6⟩;exact ⟨trivial,⟨trivial,b4,trivial,b3,trivial,trivial,trivial,b1,b2⟩,a1,b5,b6⟩
  ·rintro ⟨_,⟨_,b4,_,b3,_,_,_,b1,b2⟩,a1,b5,b6⟩;exact ⟨a1,⟨b1,b2⟩,b3,b4,b5,b6⟩
 by_cases h4:r.kind = 4
 ·rw [kind_4 h4,show unF (flOf r) = (⟨0,r.txn,0,r.coord,r.key,r.text,r.dead,(r.keys.length:Int),(r.ws.length:Int)⟩,true) from by unfold unF;simp [h4,flOf],show must r = true from by unfold must;simp [h4]]
  simp only [eqZ_iff,len_zero]
  unfold BareOk ListsOk TextOk
  constructor
  ·rintro ⟨a1,⟨⟨b1,b2⟩,⟨a2,a3,a4⟩,b3⟩,a5⟩;exact ⟨trivial,⟨trivial,a5,trivial,b3,a2,a3,a4,b1,b2⟩,a1,trivial⟩
  ·rintro ⟨_,⟨_,a5,_,b3,a2,a3,a4,b1,b2⟩,a1,_⟩;exact ⟨a1,⟨⟨b1,b2⟩,⟨a2,a3,a4⟩,b3⟩,a5⟩
 by_cases h5:r.kind = 5
 ·rw [kind_5 h5,show unF (flOf r) = (⟨0,0,0,r.coord,r.key,r.text,r.dead,(r.keys.length:Int),(r.ws.length:Int)⟩,true) from by unfold unF;simp [h5,flOf],show must r = ((r.txn != 0) && (r.ts != 0)) from by unfold must;simp [h5]]
  simp only [eqZ_iff,Bool.and_eq_true,hn,len_zero]
  unfold BareOk ListsOk TextOk
  constructor
  ·rintro ⟨a1,⟨⟨b1,b2⟩,⟨a2,a3,a4⟩,b3⟩,a5,a6⟩;exact ⟨trivial,⟨trivial,trivial,trivial,b3,a2,a3,a4,b1,b2⟩,a1,a5,a6⟩
  ·rintro ⟨_,⟨_,_,_,b3,a2,a3,a4,b1,b2⟩,a1,a5,a6⟩;exact ⟨a1,⟨⟨b1,b2⟩,⟨a2,a3,a4⟩,b3⟩,a5,a6⟩
 by_cases h6:r.kind = 6
 ·rw [kind_6 h6,show unF (flOf r) = (⟨0,0,r.ts,r.coord,r.key,r.text,r.dead,(r.keys.length:Int),(r.ws.length:Int)⟩,true) from by unfold unF;simp [h6,flOf],show must r = (r.txn != 0) from by unfold must;simp [h6]]
  simp only [eqZ_iff,hn,len_zero]
  unfold BareOk ListsOk TextOk
  constructor
  ·rintro ⟨a1,⟨⟨b1,b2⟩,⟨a2,a3,a4⟩,b3⟩,a5,a6⟩;exact ⟨trivial,⟨trivial,trivial,a6,b3,a2,a3,a4,b1,b2⟩,a1,a5⟩
  ·rintro ⟨_,⟨_,_,a6,b3,a2,a3,a4,b1,b2⟩,a1,a5⟩;exact ⟨a1,⟨⟨b1,b2⟩,⟨a2,a3,a4⟩,b3⟩,a5,a6⟩
 by_cases h7:r.kind = 7
 ·rw [kind_7 h7,show unF (flOf r) = (⟨0,r.txn,0,r.coord,r.key,r.text,r.dead,(r.keys.length:Int),(r.ws.length:Int)⟩,true) from by unfold unF;simp [h7,flOf],show must r = (r.ts != 0) from by unfold must;simp [h7]]
  simp only [eqZ_iff,hn,len_zero]
  unfold BareOk ListsOk TextOk
  constructor
  ·rintro ⟨a1,⟨⟨b1,b2⟩,⟨a2,a3,a4⟩,b3⟩,a5,a6⟩;exact ⟨trivial,⟨trivial,a5,trivial,b3,a2,a3,a4,b1,b2⟩,a1,a6⟩
  ·rintro ⟨_,⟨_,a5,_,b3,a2,a3,a4,b1,b2⟩,a1,a6⟩;exact ⟨a1,⟨⟨b1,b2⟩,⟨a2,a3,a4⟩,b3⟩,a5,a6⟩
 ·rw [show unF (flOf r) = (flZ,false) from by unfold unF;simp [hf,h1,h2,h3,h4,h5,h6,h7]]
  constructor
  ·rintro ⟨_,h⟩;exact absurd h (kind_no (by omega))
  ·rintro ⟨h,_⟩;cases h
noncomputable def recB (r:Rec):Bool:=@decide (RecOk r) (Classical.propDecidable _)
theorem recB_true {r:Rec} (h:RecOk r):recB r = true:=by unfold recB;exact @decide_eq_true _ (Classical.propDecidable _) h
theorem recB_false {r:Rec} (h:¬ RecOk r):recB r = false:=by unfold recB;exact @decide_eq_false _ (Classical.propDecidable _) h
theorem recB_parts (r:Rec):recB r = ((unF (flOf r)).2 && (eqZ (unF (flOf r)).1 && (inB r && must r))):=by
 have h:=rec_parts r
 by_cases hl:RecOk r
 ·obtain ⟨h1,h2,h3,h4⟩:=h.1 hl
  rw [recB_true hl,h1,h2,h3,h4];rfl
 ·rw [recB_false hl]
  cases h1:(unF (flOf r)).2
  ·rfl
  cases h2:eqZ (unF (flOf r)).1
  ·rfl
  cases h3:inB r
  ·rfl
  cases h4:must r
  ·rfl
  exact absurd (h.2 ⟨h1,h2,h3,h4⟩) hl
theorem mayBe_any (A B:Option Addr) (c d:Nat) (r:Rec) (w:World) (ha:StrsAt w A r.keys) (hb:WrsAt w B r.ws) (hr:RecRng r) :
  Calls Tryz.prog 93 #[recV r A B c d] w fun e w'=>e = .returned (.bool (recB r)) ∧ Below w.heap.size w w':=by
 have HFl:=Lib.hid (fun W=>flatten_any A B c d r W)
 have HUn:=Lib.hid (fun W=>unnamed_any (flOf r) W)
 have HIn:=Lib.hid (fun W=>inBounds_any A B c d r W)
 have HMu:=Lib.hid (fun W (hbl:Below w.heap.size w W)=>must_any A B c d r W (ha.below hbl) (hb.below hbl) hr)
 have henv:=RcEnv.start (c:=c) (d:=d) ha hb
 have e0:=recB_parts r
 have hq:=eql_flat (unF (flOf r)).1
 generalize unF (flOf r) = U at *
 obtain ⟨u,x1⟩:=U
 simp only at HUn hq e0
 generalize eqZ u = x2 at *
 generalize inB r = x3 at *
 generalize must r = x4 at *
 generalize flOf r = fl at *
 unfold flV flZ at hq
 unfold flV at HFl HUn
 unfold recV at HFl HIn HMu ⊢
 simp only at hq
 clear ha hb hr
 go_enter Tryz.func93,Tryz.ntmps93
 go_upto_region 1 with fail
 generalize w.alloc (.cells #[.int .i64 r.kind,.int .i64 r.txn,.int .i64 r.ts,.int .i64 r.coord,.string r.key,.string r.text,.bool r.dead,.slice A r.keys.length c,.slice B r.ws.length d] 37) = W1 at henv ⊢
 have k0:=henv.cel.cell (i:=0) rfl
 have k1:=henv.cel.cell (i:=1) rfl
 have k2:=henv.cel.cell (i:=2) rfl
 have k3:=henv.cel.cell (i:=3) rfl
 have k4:=henv.cel.cell (i:=4) rfl
 have k5:=henv.cel.cell (i:=5) rfl
 have k6:=henv.cel.cell (i:=6) rfl
 have k7:=henv.cel.cell (i:=7) rfl
 have k8:=henv.cel.cell (i:=8) rfl
 have HE:=Lib.hid henv
 clear henv
 go_wp2_with fail
 refine (HFl.out _).mono ?_
 rintro e w2 ⟨rfl,hb⟩
 have HE2:=Lib.hid (HE.out.step hb)
 clear hb HE HFl
 go_wp2_with fail
 refine (HUn.out _).mono ?_
 rintro e w3 ⟨rfl,hb⟩
 have HE3:=Lib.hid (HE2.out.step hb)
 clear hb HE2 HUn k0 k1 k2 k3 k4 k5 k6 k7 k8
 go_upto_region 2 with fail
 have hC:Cel (w3.alloc (.cells #[.int .i64 u.kind,.int .i64 u.txn,.int .i64 u.ts,.int .i64 u.coord,.string u.key,.string u.text,.bool u.dead,.int .i64 u.keys,.int .i64 u.writes] 219)) w3.heap.size 219 [.int .i64 u.kind,.int .i64 u.txn,.int .i64 u.ts,.int .i64 u.coord,.string u.key,.string u.text,.bool u.dead,.int .i64 u.keys,.int .i64 u.writes]:=(blk1 w3 _).2
 have henv:=HE3.out.step ((Below.refl _ w3).alloc (Nat.le_refl _) (.cells #[.int .i64 u.kind,.int .i64 u.txn,.int .i64 u.ts,.int .i64 u.coord,.string u.key,.string u.text,.bool u.dead,.int .i64 u.keys,.int .i64 u.writes] 219))
 generalize w3.alloc (.cells #[.int .i64 u.kind,.int .i64 u.txn,.int .i64 u.ts,.int .i64 u.coord,.string u.key,.string u.text,.bool u.dead,.int .i64 u.keys,.int .i64 u.writes] 219) = W4 at hC henv ⊢
 generalize w3.heap.size = g at hC ⊢
 have r0:=hC.cell (i:=0) rfl
 have r1:=hC.cell (i:=1) rfl
 have r2:=hC.cell (i:=2) rfl
 have r3:=hC.cell (i:=3) rfl
 have r4:=hC.cell (i:=4) rfl
 have r5:=hC.cell (i:=5) rfl
 have r6:=hC.cell (i:=6) rfl
 have r7:=hC.cell (i:=7) rfl
 have r8:=hC.cell (i:=8) rfl
 have k0:=henv.cel.cell (i:=0) rfl
 have k1:=henv.cel.cell (i:=1) rfl
 have k2:=henv.cel.cell (i:=2) rfl
 have k3:=henv.cel.cell (i:=3) rfl
 have k4:=henv.cel.cell (i:=4) rfl
 have k5:=henv.cel.cell (i:=5) rfl
 have k6:=henv.cel.cell (i:=6) rfl
 have k7:=henv.cel.cell (i:=7) rfl
 have k8:=henv.cel.cell (i:=8) rfl
 have HBl:=Lib.hid henv.bel
 have HE4:=Lib.hid henv
 have HQ:=hq
 clear hC henv HE3 hq
 cases x1 with
 | false =>
  have E:=Lib.hid e0
  clear e0
  go_wp2_with fail
  go_ret
  exact ⟨by rw [E.out];rfl,HBl.out⟩
 | true =>
 cases x2 with
 | false =>
  have E:=Lib.hid e0
  clear e0
  go_wp2_with fail
  go_ret
  exact ⟨by rw [E.out];rfl,HBl.out⟩
 | true =>
 cases x3 with
 | false =>
  have E:=Lib.hid e0
  clear e0
  go_wp2_with fail
  refine (HIn.out _).mono ?_
  rintro e w5 ⟨rfl,hb⟩
  have HB5:=Lib.hid (HBl.out.trans (hb.mono HBl.out.size))
  clear hb
  go_wp2_with fail
  go_ret
  exact ⟨by rw [E.out];rfl,HB5.out⟩
 | true =>
  have E:=Lib.hid e0
  clear e0
  go_wp2_with fail
  refine (HIn.out _).mono ?_
  rintro e w5 ⟨rfl,hb⟩
  have HE5:=Lib.hid (HE4.out.step hb)
  have HB5:=Lib.hid HE5.out.bel
  clear hb k0 k1 k2 k3 k4 k5 k6 k7 k8
  have k0:=HE5.out.cel.cell (i:=0) rfl
  have k1:=HE5.out.cel.cell (i:=1) rfl
  have k2:=HE5.out.cel.cell (i:=2) rfl
  have k3:=HE5.out.cel.cell (i:=3) rfl
  have k4:=HE5.out.cel.cell (i:=4) rfl
  have k5:=HE5.out.cel.cell (i:=5) rfl
  have k6:=HE5.out.cel.cell (i:=6) rfl
  have k7:=HE5.out.cel.cell (i:=7) rfl
  have k8:=HE5.out.cel.cell (i:=8) rfl
  go_wp2_with fail
  refine (HMu.out _ HB5.out).mono ?_
  rintro e w6 ⟨rfl,hb⟩
  have HB6:=Lib.hid (HB5.out.trans (hb.mono HB5.out.size))
  clear hb
  go_wp2_with fail
  go_ret
  exact ⟨by rw [E.out];simp,HB6.out⟩
theorem rcheck_any (A B:Option Addr) (c d:Nat) (r:Rec) (w:World) (ha:StrsAt w A r.keys) (hb:WrsAt w B r.ws) (hr:RecRng r) :
  Calls Tryz.prog 39 #[recV r A B c d] w fun e w'=>e = .returned (.int .i64 (ckN r:Int)) ∧ Below w.heap.size w w':=by
 have HM:=Lib.hid (fun W (hbl:Below w.heap.size w W)=>mayBe_any A B c d r W (ha.below hbl) (hb.below hbl) hr)
 have henv:=RcEnv.start (c:=c) (d:=d) ha hb
 have e0:ckN r = if recB r then 0 else 80:=by
  by_cases h:RecOk r
  ·rw [ckN_of h,recB_true h];rfl
  ·rw [ckN_not h,recB_false h];rfl
 unfold recV at HM ⊢
 clear ha hb hr
 go_enter Tryz.func39,Tryz.ntmps39
 go_upto_region 1 with fail
 generalize w.alloc (.cells #[.int .i64 r.kind,.int .i64 r.txn,.int .i64 r.ts,.int .i64 r.coord,.string r.key,.string r.text,.bool r.dead,.slice A r.keys.length c,.slice B r.ws.length d] 37) = W1 at henv ⊢
 have k0:=henv.cel.cell (i:=0) rfl
 have k1:=henv.cel.cell (i:=1) rfl
 have k2:=henv.cel.cell (i:=2) rfl
 have k3:=henv.cel.cell (i:=3) rfl
 have k4:=henv.cel.cell (i:=4) rfl
 have k5:=henv.cel.cell (i:=5) rfl
 have k6:=henv.cel.cell (i:=6) rfl
 have k7:=henv.cel.cell (i:=7) rfl
 have k8:=henv.cel.cell (i:=8) rfl
 have HBl:=Lib.hid henv.bel
 clear henv
 generalize recB r = bb at *
 cases bb with
 | false =>
  have E:=Lib.hid e0
  clear e0
  go_wp2_with fail
  refine (HM.out _ HBl.out).mono ?_
  rintro e w3 ⟨rfl,hb⟩
  have HB3:=Lib.hid (HBl.out.trans (hb.mono HBl.out.size))
  clear hb
  go_wp2_with fail
  go_ret
  exact ⟨by rw [E.out];rfl,HB3.out⟩
 | true =>
  have E:=Lib.hid e0
  clear e0
  go_wp2_with fail
  refine (HM.out _ HBl.out).mono ?_
  rintro e w3 ⟨rfl,hb⟩
  have HB3:=Lib.hid (HBl.out.trans (hb.mono HBl.out.size))
  clear hb
  go_wp2_with fail
  go_ret
  exact ⟨by rw [E.out];rfl,HB3.out⟩
theorem lcheckAll:CheckAll:=fun A B c d r w h=>rcheck_any A B c d r w h.ks h.ws h.rng.toRecRng
end Rc
end Go.Proofs.YtbkanoblcojdfaaGreat
namespace Go.Proofs.YtbkanoblcojdfaaGreat
namespace Lt
open Go.RowKit Bk
attribute [local go_sem ↓] Go.wp_at_zero Go.wp_at_succ
attribute [local go_sem] floatUpon pick
theorem clone_any (ad:Addr) (c:Nat) (l:List ByteArray) (w:World) (h:StrsAt w (some ad) l) (h16:l.length * 16 ≤ 140737488351232) :
  Calls Tryz.prog 199 #[.slice (some ad) l.length c] w fun e w'=>∃ (A1:Option Addr) (c1:Nat),e = .returned (.slice A1 l.length c1) ∧ w'.ownsRow w.heap.size 9 1 (.slice A1 l.length c1) l.length (strV l) ∧ Below w.heap.size w w':=by
 obtain ⟨i0,hi,hz0,hz1,hz2⟩:=info_parts Tryz.infoStr
 have HSt:=Lib.hid h
 have hO0:(w.alloc (.cells #[] 9)).ownsRow w.heap.size 9 1 (.slice (some ⟨w.heap.size,0,none⟩) 0 0) 0 []:=World.ownsRow_lit (base:=w.heap.size) (e:=9) (size:=1) w #[] 0 (Nat.le_refl _) (by unfold maxLen;omega) rfl
 have HO0:=Lib.hid hO0
 have q22:∀ W:World,(binOp .eql 23 (.slice (some ad) l.length c) (.slice none 0 0)).run Tryz.prog W = .ok (.bool false) W:=fun W=>Lib.run_eql_slice_nil W _ _ (some ad) l.length c 0 0 Tryz.underlying23
 clear h hO0
 go_enter Tryz.func199,Tryz.ntmps199
 go_wp2_with (at_builtin;refine wpList_append_opt rfl _ _ 23 rfl w.heap.size 9 i0 (.string ⟨#[]⟩) 16 Tryz.underlying23 hi hz0 hz1 hz2 rfl _ 0 _ rfl HO0.out (some ad) l.length c (strV l) rfl (strV_len _) (fun e=>by cases e) ?c1 ?c2 ?c3 ?c4 (by simp) ?_)
 case c1=>exact fun ad' e=>by obtain rfl:=Option.some.inj e;exact (HSt.out.alloc _).news
 case c2=>intro u hu;obtain ⟨s,_,rfl⟩:=List.mem_map.1 hu;rfl
 case c3=>unfold maxLen;omega
 case c4=>omega
 intro v' w3 ho hg hat
 have HB3:Hid (Below w.heap.size w w3):=Lib.hid (((Below.refl _ w).alloc (Nat.le_refl _) (.cells #[] 9)).grown hg (by simp) (fun k hk=>(HO0.out.lt k hk).1))
 obtain ⟨A1,c1,rfl,f1,f2⟩:=Pk.own_form ho
 have HO:=Lib.hid ho
 clear ho hg hat f1 f2
 go_wp2_with fail
 go_ret
 exact ⟨A1,c1,rfl,HO.out,HB3.out⟩
end Lt
end Go.Proofs.YtbkanoblcojdfaaGreat
