/- Parts of the proof, joined: ShL4, ShL5; their conditions stand with each. -/
import Derived.Test.YtbkanoblcojdfaaGreatV32

set_option maxRecDepth 20000
set_option maxHeartbeats 8000000
namespace Go.Proofs.YtbkanoblcojdfaaGreat
namespace Sh
open Go.RowKit Bk Ch Lt Rc Tr
attribute [local go_sem ↓] Go.wp_at_zero Go.wp_at_succ
attribute [local go_sem] floatUpon pick
theorem wpList_next_p {w:World} {ops:Array Oper} {rest:List Oper} {o:Oper} {a:Act} {K:Exit → Act → World → Prop} (hg:o.guard = none) (it:Operand) (hop:o.op = Op.next it false) (bp r:Nat) (P:List RI) (todo:List (Int × Value))
  (hit:a.eval it = .pointer (some ⟨r,0,none⟩)) (h:RangeIs intQ w bp r (P.map pp) todo)
  (hDone:todo = [] → wpList Tryz.prog ops K rest (a.put o.dst (.tuple #[.bool false])) w)
  (hMore:∀ (X:RI) (todo':List (Int × Value)) (w':World),X ∈ P → todo.Perm (pp X :: todo') → RangeIs intQ w' bp r (P.map pp) todo' → w'.rangeLeft bp r < w.rangeLeft bp r → w.grownBy w' (some r) → w'.heap.size = w.heap.size →
   (Instr.entry (.pointer (some ⟨r,0,none⟩))).run Tryz.prog w' = .ok (.tuple #[.int .i64 X.l.txn,.agg #[.int .i64 X.l.kind,.int .i64 X.l.txn,.int .i64 X.l.ts,.int .i64 X.l.coord,.string X.l.key,.string X.l.text,.bool X.l.dead,.slice X.A X.l.keys.length X.c,.slice X.B X.l.ws.length X.d]]) w' →
   wpList Tryz.prog ops K rest (a.put o.dst (.tuple #[.bool true,.int .i64 X.l.txn,.agg #[.int .i64 X.l.kind,.int .i64 X.l.txn,.int .i64 X.l.ts,.int .i64 X.l.coord,.string X.l.key,.string X.l.text,.bool X.l.dead,.slice X.A X.l.keys.length X.c,.slice X.B X.l.ws.length X.d]])) w') :
  wpList Tryz.prog ops K (o :: rest) a w:=by
 refine wpList_next_is intQ hg it hop bp r _ todo hit h hDone fun x v todo' w' hp _ hrg hlt hgr hsz hen=>?_
 have hm:(x,v) ∈ P.map pp:=h.sub _ (hp.mem_iff.2 (List.mem_cons_self ..))
 obtain ⟨X,hX,e⟩:=List.mem_map.1 hm
 unfold pp at e
 simp only [Prod.mk.injEq] at e
 obtain ⟨rfl,rfl⟩:=e
 exact hMore X todo' w' hX hp hrg hlt hgr hsz hen
theorem wpList_next_k {w:World} {ops:Array Oper} {rest:List Oper} {o:Oper} {a:Act} {Q:Exit → Act → World → Prop} (hg:o.guard = none) (it:Operand) (hop:o.op = Op.next it false) (bc r:Nat) (K:List KI) (todo:List (ByteArray × Value))
  (hit:a.eval it = .pointer (some ⟨r,0,none⟩)) (h:RangeIs strQ w bc r (K.map kp) todo)
  (hDone:todo = [] → wpList Tryz.prog ops Q rest (a.put o.dst (.tuple #[.bool false])) w)
  (hMore:∀ (X:KI) (todo':List (ByteArray × Value)) (w':World),X ∈ K → todo.Perm (kp X :: todo') → RangeIs strQ w' bc r (K.map kp) todo' → w'.rangeLeft bc r < w.rangeLeft bc r → w.grownBy w' (some r) → w'.heap.size = w.heap.size →
   (Instr.entry (.pointer (some ⟨r,0,none⟩))).run Tryz.prog w' = .ok (.tuple #[.string X.k.name,.slice X.A X.k.l.length X.c]) w' →
   wpList Tryz.prog ops Q rest (a.put o.dst (.tuple #[.bool true,.string X.k.name,.slice X.A X.k.l.length X.c])) w') :
  wpList Tryz.prog ops Q (o :: rest) a w:=by
 refine wpList_next_is strQ hg it hop bc r _ todo hit h hDone fun x v todo' w' hp _ hrg hlt hgr hsz hen=>?_
 have hm:(x,v) ∈ K.map kp:=h.sub _ (hp.mem_iff.2 (List.mem_cons_self ..))
 obtain ⟨X,hX,e⟩:=List.mem_map.1 hm
 unfold kp at e
 simp only [Prod.mk.injEq] at e
 obtain ⟨rfl,rfl⟩:=e
 exact hMore X todo' w' hX hp hrg hlt hgr hsz hen
theorem below_step {B r:Nat} {a w w':World} (h:Below B a w) (hB:B ≤ a.heap.size) (hg:w.grownBy w' (some r)) (hr:B ≤ r):Below B a w' :=
 h.grown hg (Nat.le_trans hB h.size) (fun k e=>by cases e;exact hr)
theorem heldR_eq (r:Rec) (key:ByteArray) (wb:Bool):heldR r key wb = ((r.ws.any fun y=>decide (y.key = key)) || (wb && r.keys.any fun y=>decide (y = key))):=rfl
theorem one_of {α β:Type} {f:α → β}:∀ {L:List α},(L.map f).Nodup → ∀ {x y:α},x ∈ L → y ∈ L → f x = f y → x = y
 | [],_,_,_,hx,_,_=>by cases hx
 | a :: r,h,x,y,hx,hy,e=>by
  rw [List.map_cons,List.nodup_cons] at h
  rcases List.mem_cons.1 hx with rfl | hx
  ·rcases List.mem_cons.1 hy with rfl | hy
   ·rfl
   ·exact absurd (List.mem_map.2 ⟨y,hy,e.symm⟩) h.1
  ·rcases List.mem_cons.1 hy with h0 | hy
   ·exact absurd (List.mem_map.2 ⟨x,hx,by rw [e,h0]⟩) h.1
   ·exact one_of h.2 hx hy e
theorem one_txn {P:List RI} (h:((P.map pp).map (·.1)).Nodup) {X Y:RI} (hX:X ∈ P) (hY:Y ∈ P) (e:X.l.txn = Y.l.txn):X = Y:=by
 rw [List.map_map] at h
 exact one_of h hX hY e
theorem one_key {K:List KI} (h:((K.map kp).map (·.1)).Nodup) {X Y:KI} (hX:X ∈ K) (hY:Y ∈ K) (e:X.k.name = Y.k.name):X = Y:=by
 rw [List.map_map] at h
 exact one_of h hX hY e
section
variable {W:World} {F:Nat → Prop} {g bc bp:Nat} {v:Value} {K:List KI} {P:List RI} {s:Shf}
theorem held_of (hep:P.map (·.l) = s.p) {X:RI} (hX:X ∈ P) {key:ByteArray} {wb:Bool} (h:heldR X.l key wb = true):heldB s key wb = true:=by
 unfold heldB
 exact List.any_eq_true.2 ⟨X.l,by rw [← hep];exact List.mem_map_of_mem hX,h⟩
theorem held_no (hep:P.map (·.l) = s.p) {key:ByteArray} {wb:Bool} (h:∀ X ∈ P,heldR X.l key wb = false):heldB s key wb = false:=by
 unfold heldB
 rw [List.any_eq_false]
 intro r hr
 rw [← hep] at hr
 obtain ⟨X,hX,rfl⟩:=List.mem_map.1 hr
 rw [h X hX]
 simp
theorem lheld_any (h:LAt W F g bc bp v K P s) (hs:ShOk s) (key:ByteArray) (wb:Bool) :
  Calls Tryz.prog 63 #[.pointer (some ⟨g,0,none⟩),.string key,.bool wb] W fun e w'=>e = .returned (.bool (heldB s key wb)) ∧ Below W.heap.size W w':=by
 have s1:=h.cel.cell (i:=1) rfl
 have hmp:=h.mp
 have HH:=Lib.hid (fun V (hb:Below W.heap.size W V)=>h.below hb)
 have HEp:=Lib.hid h.ep
 have HNd:=Lib.hid h.mp.nodup
 have HUp:=Lib.hid (show ∀ X ∈ P,Ups X.l from fun X hX=>by
  have:=hs.po X.l (by rw [← h.ep];exact List.mem_map_of_mem hX)
  exact ups_of this.1 this.2)
 clear h hs
 go_enter Tryz.func63,Tryz.ntmps63
 go_wp2_with (at_range;refine wpList_range_is intQ rfl _ 86 37 rfl Tryz.underlying86 bp _ rfl hmp ?_;intro w0 hrg0 hb0 hs0)
 go_frame
 have HR0:=Lib.hid hrg0
 have HB0:=Lib.hid hb0
 clear hrg0 hb0 hs0 s1 hmp
 obtain ⟨rr,hrr⟩:∃ rr,W.heap.size = rr:=⟨_,rfl⟩
 rw [hrr] at HR0 HB0 ⊢
 have HRR:=Lib.hid hrr
 go_loopw [14] (fun _ wr=>∃ todo,Hid (RangeIs intQ wr bp rr (P.map pp) todo) ∧ Hid (∀ X ∈ P,X.l.txn ∉ todo.map (·.1) → heldR X.l key wb = false) ∧ Hid (Below rr W wr)) (fun _ wr=>wr.rangeLeft bp rr)
 case atStart =>
  exact ⟨_,HR0,Lib.hid (fun X hX hn=>absurd (List.mem_map.2 ⟨pp X,List.mem_map_of_mem hX,rfl⟩) hn),HB0⟩
 case round =>
  obtain ⟨todo,hrg,hno,hb⟩:=hrel
  have hrg1:=hrg.out
  clear HR0 HB0
  go_wp2_with (at_next;refine wpList_next_p rfl _ rfl bp rr P todo rfl hrg1 ?_ ?_)
  ·intro h0
   subst h0
   have HF:=Lib.hid (held_no HEp.out (fun X hX=>hno.out X hX (by simp)))
   clear hrg1 hrg hno
   go_wp2_with fail
   go_ret
   exact ⟨by rw [HF.out];rfl,by rw [HRR.out];exact hb.out⟩
  ·intro X todo' w1 hX hp hrg2 hlt hgr hsz hen
   have hb1:Below rr W w1:=below_step hb.out (by rw [hrr];exact Nat.le_refl _) hgr (Nat.le_refl _)
   have HB1:=Lib.hid hb1
   have HRg:=Lib.hid hrg2
   have HLt:=Lib.hid hlt
   have hh:=heldR_eq X.l key wb
   have HNo:Hid (heldR X.l key wb = false → ∀ Y ∈ P,Y.l.txn ∉ todo'.map (·.1) → heldR Y.l key wb = false):=Lib.hid fun hf Y hY hn=>by
    by_cases e:Y.l.txn ∈ todo.map (·.1)
    ·have:=(hp.map (·.1)).mem_iff.1 e
     rw [List.map_cons,List.mem_cons] at this
     rcases this with e2 | e2
     ·rw [one_txn HNd.out hY hX e2];exact hf
     ·exact absurd e2 hn
    ·exact hno.out Y hY e
   have HY:Hid (heldR X.l key wb = true → heldB s key wb = true):=Lib.hid (held_of HEp.out hX)
   have HPv:=Lib.hid (fun V (hbv:Below rr W V)=>((HH.out V (by rw [hrr];exact hbv)).pv X hX).val)
   have HU:=Lib.hid (HUp.out X hX)
   obtain ⟨b1,hw1⟩:∃ b,(X.l.ws.any fun y=>decide (y.key = key)) = b:=⟨_,rfl⟩
   obtain ⟨b2,hw2⟩:∃ b,(X.l.keys.any fun y=>decide (y = key)) = b:=⟨_,rfl⟩
   rw [hw1,hw2] at hh
   have HWr:=Lib.hid (fun V (hbv:Below rr W V)=>writes_any X key V (HPv.out V hbv) HU.out)
   have HRd:=Lib.hid (fun V (hbv:Below rr W V)=>reads_any X key V (HPv.out V hbv) HU.out)
   rw [hw1] at HWr
   rw [hw2] at HRd
   obtain ⟨x,A,B,c,d⟩:=X
   simp only at hen HWr HRd hh HNo HY HPv HU ⊢
   have HWr2:Hid (∀ V,Below rr W V → Calls Tryz.prog 114 #[.agg #[.int .i64 x.kind,.int .i64 x.txn,.int .i64 x.ts,.int .i64 x.coord,.string x.key,.string x.text,.bool x.dead,.slice A x.keys.length c,.slice B x.ws.length d],.string key] V fun e w'=>e = .returned (.bool b1) ∧ Below V.heap.size V w'):=HWr
   have HRd2:Hid (∀ V,Below rr W V → Calls Tryz.prog 115 #[.agg #[.int .i64 x.kind,.int .i64 x.txn,.int .i64 x.ts,.int .i64 x.coord,.string x.key,.string x.text,.bool x.dead,.slice A x.keys.length c,.slice B x.ws.length d],.string key] V fun e w'=>e = .returned (.bool b2) ∧ Below V.heap.size V w'):=HRd
   have hC0:Cel (w1.alloc (.cells #[.int .i64 x.kind,.int .i64 x.txn,.int .i64 x.ts,.int .i64 x.coord,.string x.key,.string x.text,.bool x.dead,.slice A x.keys.length c,.slice B x.ws.length d] 37)) w1.heap.size 37 [.int .i64 x.kind,.int .i64 x.txn,.int .i64 x.ts,.int .i64 x.coord,.string x.key,.string x.text,.bool x.dead,.slice A x.keys.length c,.slice B x.ws.length d]:=(blk1 w1 _).2
   have hB0:Below w1.heap.size w1 (w1.alloc (.cells #[.int .i64 x.kind,.int .i64 x.txn,.int .i64 x.ts,.int .i64 x.coord,.string x.key,.string x.text,.bool x.dead,.slice A x.keys.length c,.slice B x.ws.length d] 37)):=(Below.refl _ w1).alloc (Nat.le_refl _) _
   have HB2:=Lib.hid (hb1.trans (hB0.mono (HRR.out ▸ hb1.size)))
   have HRg2:=Lib.hid (HRg.out.below hB0)
   have HLt2:Hid ((w1.alloc (.cells #[.int .i64 x.kind,.int .i64 x.txn,.int .i64 x.ts,.int .i64 x.coord,.string x.key,.string x.text,.bool x.dead,.slice A x.keys.length c,.slice B x.ws.length d] 37)).rangeLeft bp rr < wr.rangeLeft bp rr):=Lib.hid (by rw [rangeLeft_kept (hB0.block bp HRg.out.map.lt) (hB0.block rr HRg.out.lt)];exact hlt)
   have hC1:=hC0
   clear hw1 hw2 HWr HRd hb1 hrg2 hlt hgr hsz hp hX hrg hno hrg1 HPv HU hb hC0 hB0 HB1 HRg HLt
   go_upto_region 4 with fail
   generalize w1.alloc (.cells #[.int .i64 x.kind,.int .i64 x.txn,.int .i64 x.ts,.int .i64 x.coord,.string x.key,.string x.text,.bool x.dead,.slice A x.keys.length c,.slice B x.ws.length d] 37) = W1 at hC1 HB2 HRg2 HLt2 ⊢
   generalize w1.heap.size = vb at hC1 ⊢
   have q0:=hC1.cell (i:=0) rfl
   have q1:=hC1.cell (i:=1) rfl
   have q2:=hC1.cell (i:=2) rfl
   have q3:=hC1.cell (i:=3) rfl
   have q4:=hC1.cell (i:=4) rfl
   have q5:=hC1.cell (i:=5) rfl
   have q6:=hC1.cell (i:=6) rfl
   have q7:=hC1.cell (i:=7) rfl
   have q8:=hC1.cell (i:=8) rfl
   have HC1:=Lib.hid hC1
   clear hC1 hen
   go_wp2_with fail
   refine (HWr2.out _ HB2.out).mono ?_
   rintro e2 w2 ⟨rfl,hb2⟩
   have HB3:=Lib.hid (HB2.out.trans (hb2.mono (HRR.out ▸ HB2.out.size)))
   have HRg3:=Lib.hid (HRg2.out.below hb2)
   have HLt3:Hid (w2.rangeLeft bp rr < wr.rangeLeft bp rr):=Lib.hid (by rw [rangeLeft_kept (hb2.block bp HRg2.out.map.lt) (hb2.block rr HRg2.out.lt)];exact HLt2.out)
   have hC2:=HC1.out.below hb2
   clear hb2 HWr2 q0 q1 q2 q3 q4 q5 q6 q7 q8 HLt2 HRg2
   cases b1 with
   | true =>
    have HF:=Lib.hid (HY.out (by rw [hh];rfl))
    clear hh HY HNo hC2
    go_wp2_with fail
    go_ret
    exact ⟨by rw [HF.out];rfl,by rw [HRR.out];exact HB3.out⟩
   | false =>
    cases wb with
    | false =>
     have HN:=Lib.hid (HNo.out (by rw [hh];rfl))
     clear hh HY HNo hC2
     go_wp2_with fail
     go_roundw
     case rel=>exact ⟨todo',HRg3,HN,HB3⟩
     case measure=>exact HLt3.out
    | true =>
     have q0:=hC2.cell (i:=0) rfl
     have q1:=hC2.cell (i:=1) rfl
     have q2:=hC2.cell (i:=2) rfl
     have q3:=hC2.cell (i:=3) rfl
     have q4:=hC2.cell (i:=4) rfl
     have q5:=hC2.cell (i:=5) rfl
     have q6:=hC2.cell (i:=6) rfl
     have q7:=hC2.cell (i:=7) rfl
     have q8:=hC2.cell (i:=8) rfl
     have HH2:=Lib.hid hh
     clear hC2 hh
     go_wp2_with fail
     refine (HRd2.out _ HB3.out).mono ?_
     rintro e3 w3 ⟨rfl,hb3⟩
     have HB4:=Lib.hid (HB3.out.trans (hb3.mono (HRR.out ▸ HB3.out.size)))
     have HRg4:=Lib.hid (HRg3.out.below hb3)
     have HLt4:Hid (w3.rangeLeft bp rr < wr.rangeLeft bp rr):=Lib.hid (by rw [rangeLeft_kept (hb3.block bp HRg3.out.map.lt) (hb3.block rr HRg3.out.lt)];exact HLt3.out)
     clear hb3 HRd2 q0 q1 q2 q3 q4 q5 q6 q7 q8 HLt3 HRg3
     cases b2 with
     | true =>
      have HF:=Lib.hid (HY.out (by rw [HH2.out];rfl))
      clear HY HNo
      go_wp2_with fail
      go_ret
      exact ⟨by rw [HF.out];rfl,by rw [HRR.out];exact HB4.out⟩
     | false =>
      have HN:=Lib.hid (HNo.out (by rw [HH2.out];rfl))
      clear HY HNo
      go_wp2_with fail
      go_roundw
      case rel=>exact ⟨todo',HRg4,HN,HB4⟩
      case measure=>exact HLt4.out
end
theorem end_first {e:List (Int × Int)} {txn:Int} {j:Nat} (hj:j < e.length) (h:e[j].1 = txn) (hall:∀ i (h:i < e.length),i < j → e[i].1 ≠ txn):endOf e txn = some e[j]:=by
 unfold endOf
 rw [List.find?_eq_some_iff_append]
 refine ⟨by simpa using h,e.take j,e.drop (j + 1),?_,fun x hx=>?_⟩
 ·rw [← List.drop_eq_getElem_cons hj,List.take_append_drop]
 ·obtain ⟨i,hi,rfl⟩:=List.getElem_of_mem hx
  rw [List.length_take] at hi
  rw [List.getElem_take]
  simpa using hall i (by omega) (by omega)
def EndAt (e:List (Int × Int)) (txn:Int) (n:Int):Prop:=(n = -1 ∧ endOf e txn = none) ∨ ∃ j,∃ h:j < e.length,n = (j:Int) ∧ endOf e txn = some e[j]
theorem state1_any (x1 x2 txn:Int) (b:Nat) (w:World) (hb:b < w.heap.size) (h1:w.cell? ⟨b,0,none⟩ = some (.int .i64 txn)) :
  Calls Tryz.prog 90 #[.agg #[.int .i64 x1,.int .i64 x2],.pointer (some ⟨b,0,none⟩)] w fun e w'=>e = .returned (.bool (x1 == txn)) ∧ Below w.heap.size w w':=by
 have hne:(⟨b,0,none⟩:Addr).block ≠ w.heap.size:=by simp only;omega
 have h2:(w.alloc (.cells #[.int .i64 x1,.int .i64 x2] 97)).cell? ⟨b,0,none⟩ = some (.int .i64 txn):=(cell_kept ((Below.refl _ w).alloc (Nat.le_refl _) _) _ hb).trans h1
 have hB:=Lib.hid ((Below.refl w.heap.size w).alloc (Nat.le_refl _) (.cells #[.int .i64 x1,.int .i64 x2] 97))
 clear h1 hb
 go_enter Tryz.func90,Tryz.ntmps90
 go_wp2_with fail
 go_ret
 exact ⟨rfl,hB.out⟩
theorem indexEnd_any (A:Option Addr) (c:Nat) (e:List (Int × Int)) (txn:Int) (b:Nat) (w:World) (hr:RowF w (fun _=>False) A (e.flatMap ecs)) (hl:e.length ≤ 1024) (hb:b < w.heap.size) (h1:w.cell? ⟨b,0,none⟩ = some (.int .i64 txn)) :
  Calls Tryz.prog 89 #[.slice A e.length c,.func (.func 90) #[] #[.pointer (some ⟨b,0,none⟩)]] w fun e1 w'=>(∃ n:Int,e1 = .returned (.int .i64 n) ∧ EndAt e txn n) ∧ Below w.heap.size w w':=by
 have HC:=Lib.hid (fun x1 x2 V (hv:Below w.heap.size w V)=>state1_any x1 x2 txn b V (Nat.lt_of_lt_of_le hb hv.size) ((cell_kept hv _ hb).trans h1))
 have HR:=Lib.hid (fun V (hv:Below w.heap.size w V)=>hr.below hv)
 have hlen:(e.length:Int) ≤ 1024:=by omega
 clear hr hl hb h1
 go_enter Tryz.func89,Tryz.ntmps89
 go_wp2_with fail
 go_loopw [8] (fun iv wr=>∃ j:Nat,j ≤ e.length ∧ iv = .int .i64 (j:Int) ∧ Hid (∀ i (h:i < e.length),i < j → e[i].1 ≠ txn) ∧ Hid (Below w.heap.size w wr)) (fun iv _=>e.length - (RowKit.intOf iv).toNat)
 case atStart=>exact ⟨0,Nat.zero_le _,rfl,Lib.hid (fun i _ h=>absurd h (by omega)),Lib.hid (Below.refl _ _)⟩
 case round =>
  obtain ⟨j,hj,rfl,hall,hb⟩:=hrel
  by_cases hlt:j < e.length
  ·have pj:(j:Int) < (e.length:Int):=by omega
   obtain ⟨ad,rfl,_,_,h3⟩:=(HR.out _ hb.out).at ecs_len (by omega) hlt
   have x0:=h3 0 _ rfl
   have x1:=h3 1 _ rfl
   rw [← Ch.add_field _ _ _ (by omega)] at x1
   rw [Nat.add_zero] at x0
   have HCj:=Lib.hid (fun V hv=>HC.out e[j].1 e[j].2 V hv)
   by_cases he:e[j].1 = txn
   ·have HE:=Lib.hid (show EndAt e txn (j:Int) from .inr ⟨j,hlt,rfl,end_first hlt he hall.out⟩)
    have hq:(e[j].1 == txn) = true:=by rw [he];simp
    generalize e[j] = X at x0 x1 HCj hq
    obtain ⟨X1,X2⟩:=X
    simp only at x0 x1 HCj hq
    rw [hq] at HCj
    have HB:=hb
    clear hall he h3 HC hb hq
    go_wp2_with fail
    refine (HCj.out _ HB.out).mono ?_
    rintro e2 w2 ⟨rfl,hb2⟩
    have HB2:=Lib.hid (HB.out.trans (hb2.mono HB.out.size))
    clear hb2 HB HCj
    go_wp2_with fail
    go_ret
    exact ⟨⟨_,rfl,HE.out⟩,HB2.out⟩
   ·have HN:=Lib.hid (show ∀ i (h:i < e.length),i < j + 1 → e[i].1 ≠ txn from fun i h hi=>by
     by_cases e1:i = j
     ·subst e1;exact he
     ·exact hall.out i h (by omega))
    have hq:(e[j].1 == txn) = false:=by rw [beq_eq_false_iff_ne];exact he
    generalize e[j] = X at x0 x1 HCj hq
    obtain ⟨X1,X2⟩:=X
    simp only at x0 x1 HCj hq
    rw [hq] at HCj
    have HB:=hb
    clear hall he h3 HC hb hq
    go_wp2_with fail
    refine (HCj.out _ HB.out).mono ?_
    rintro e2 w2 ⟨rfl,hb2⟩
    have HB2:=Lib.hid (HB.out.trans (hb2.mono HB.out.size))
    clear hb2 HB HCj
    go_wp2_with fail
    go_roundw
    case rel=>exact ⟨j + 1,by omega,by go_num,HN,HB2⟩
    case measure=>simp [RowKit.intOf];omega
  ·obtain rfl:j = e.length:=by omega
   have HE:=Lib.hid (show EndAt e txn (-1) from .inl ⟨rfl,end_none.2 fun x hx=>by
    obtain ⟨i,hi,rfl⟩:=List.getElem_of_mem hx
    exact hall.out i hi hi⟩)
   have HB:=hb
   clear hall hb HC
   go_wp2_with fail
   go_ret
   exact ⟨⟨_,rfl,HE.out⟩,HB.out⟩
section
variable {W:World} {F:Nat → Prop} {g bc bp:Nat} {v:Value} {K:List KI} {P:List RI} {s:Shf}
theorem LAt.ends (h:LAt W F g bc bp v K P s):∃ (A:Option Addr) (c:Nat),v = .slice A s.e.length c ∧ RowF W (fun _=>False) A (s.e.flatMap ecs) ∧ s.e.length ≤ c ∧ c ≤ maxLen ∧ (A = none → s.e.length = 0 ∧ c = 0) :=
 own_rowF (F:=fun _=>False) h.re (flatN_len ecs_len _) (fun _ hf=>hf.elim)
theorem lstate_any (h:LAt W F g bc bp v K P s) (hs:ShOk s) (txn:Int) (ht1:-9223372036854775808 ≤ txn) (ht2:txn ≤ 9223372036854775807) :
  Calls Tryz.prog 34 #[.pointer (some ⟨g,0,none⟩),.int .i64 txn] W fun e w'=>e = .returned (.tuple #[.int .i64 (stateP s txn).1,.int .i64 (stateP s txn).2]) ∧ Below W.heap.size W w':=by
 obtain ⟨W0,hW0⟩:∃ W0,W.alloc (.cells #[.int .i64 txn] 3) = W0:=⟨_,rfl⟩
 have hb0:Below W.heap.size W W0:=by rw [← hW0];exact (Below.refl _ W).alloc (Nat.le_refl _) _
 have hc0:Cel W0 W.heap.size 3 [.int .i64 txn]:=by rw [← hW0];exact (blk1 W _).2
 have h0:=h.below hb0
 obtain ⟨A,c,rfl,hrow,hnc,hcm,hnil⟩:=h0.ends
 have hlok:∃ (x:RI) (bb:Bool),(bb = true → stateP s txn = (1,0)) ∧ (bb = false → prepOf s.p txn = none) ∧ ∀ V,Below W0.heap.size W0 V → (Instr.lookup 86 (.map (some bp)) (.int .i64 txn) true).run Tryz.prog V = .ok (.tuple #[.agg (rcs x).toArray,.bool bb]) V:=by
  cases hp:prepOf s.p txn with
  | none =>
   refine ⟨⟨noRec,none,none,0,0⟩,false,(fun h=>by cases h),fun _=>rfl,fun V hV=>?_⟩
   exact (h0.below hV).mp.look2_no Tryz.underlying86 (Tryz.zeroRec V) (x:=txn) (intQ_ok ht1 ht2) ((h0.below hV).prep_out hp)
  | some r =>
   obtain ⟨x,hx,rfl,hm⟩:=h0.prep_in hp
   refine ⟨x,true,(fun _=>by unfold stateP;rw [hp]),(fun h=>by cases h),fun V hV=>?_⟩
   exact (h0.below hV).mp.look2 Tryz.underlying86 (Tryz.zeroRec V) (x:=txn) hm
 obtain ⟨⟨r,A',B',c',d'⟩,bb,hst,hno,hlk⟩:=hlok
 have HLk:Hid (∀ V,Below W0.heap.size W0 V → (Instr.lookup 86 (.map (some bp)) (.int .i64 txn) true).run Tryz.prog V = .ok (.tuple #[.agg #[.int .i64 r.kind,.int .i64 r.txn,.int .i64 r.ts,.int .i64 r.coord,.string r.key,.string r.text,.bool r.dead,.slice A' r.keys.length c',.slice B' r.ws.length d'],.bool bb]) V):=Lib.hid hlk
 have HH:=Lib.hid (fun V (hv:Below W0.heap.size W0 V)=>h0.below hv)
 have HC:=Lib.hid (fun V (hv:Below W0.heap.size W0 V)=>hc0.below hv)
 have HRow:=Lib.hid (fun V (hv:Below W0.heap.size W0 V)=>hrow.below hv)
 have HB0:=Lib.hid hb0
 have HSt:=Lib.hid hst
 have HNo:=Lib.hid hno
 have hel:=hs.el
 have HIx:=Lib.hid (fun V (hv:Below W0.heap.size W0 V)=>indexEnd_any A c s.e txn W.heap.size V (hrow.below hv) hel (Nat.lt_of_lt_of_le hc0.lt hv.size) ((hc0.below hv).cell (i:=0) rfl))
 have HEo:=Lib.hid (show ∀ x ∈ s.e,0 ≤ x.2 from fun x hx=>by have:=(hs.eo x hx).2;unfold stampOk at this;omega)
 have pel:(s.e.length:Int) ≤ 1024:=by omega
 clear h hs ht1 ht2 hb0 hc0 h0 hrow hlk hst hno hnc hcm hnil hel
 go_enter Tryz.func34,Tryz.ntmps34
 go_upto_region 1 with fail
 clear hW0
 have bz:Below W0.heap.size W0 (W0.alloc (.cells #[.int .i64 0,.int .i64 0,.int .i64 0,.int .i64 0,.string ⟨#[]⟩,.string ⟨#[]⟩,.bool false,.slice none 0 0,.slice none 0 0] 37)):=(Below.refl _ W0).alloc (Nat.le_refl _) _
 go_cut [7] from 6 to 17 (fun s7 wx=>s7 = .bool bb ∧ Below W0.heap.size W0 wx)
 case first =>
  have s1:=(HH.out _ (Below.refl _ _)).cel.cell (i:=1) rfl
  have x0:=(HC.out _ (Below.refl _ _)).cell (i:=0) rfl
  have l0:=HLk.out _ (Below.refl W0.heap.size W0).drew
  have t1:=(HH.out _ bz).cel.cell (i:=1) rfl
  have y0:=(HC.out _ bz).cell (i:=0) rfl
  have l1:=HLk.out _ bz.drew
  have hbf:=(Below.refl W0.heap.size W0).alloc (Nat.le_refl _) (.cells #[.int .i64 r.kind,.int .i64 r.txn,.int .i64 r.ts,.int .i64 r.coord,.string r.key,.string r.text,.bool r.dead,.slice A' r.keys.length c',.slice B' r.ws.length d'] 37)
  have HBf:=Lib.hid hbf.drew
  clear bz hbf
  go_region
  all_goals
   go_wp2_with fail
   go_meet
   case rel=>exact ⟨rfl,HBf.out⟩
 case rest =>
  obtain ⟨rfl,hbw⟩:=hcut
  have HB1:=Lib.hid hbw
  clear hbw bz
  cases bb with
  | true =>
   have E:=Lib.hid (HSt.out rfl)
   clear HSt HNo HLk
   go_wp2_with fail
   go_ret2
   exact ⟨by rw [E.out];rfl,HB0.out.trans (HB1.out.mono HB0.out.size)⟩
  | false =>
   have hpn:=HNo.out rfl
   have s2:=(HH.out _ HB1.out).cel.cell (i:=2) rfl
   have HE0:=Lib.hid (show stateP s txn = match endOf s.e txn with | none=>(0,0) | some x=>if 0 < x.2 then (2,x.2) else (3,0) by unfold stateP;rw [hpn];rfl)
   clear HSt HNo hpn HLk
   go_wp2_with fail
   refine (HIx.out _ HB1.out).mono ?_
   rintro e1 w1 ⟨⟨n,rfl,hn⟩,hb⟩
   have HB2:=Lib.hid (HB1.out.trans (hb.mono HB1.out.size))
   clear hb s2 HIx
   rcases hn with ⟨rfl,he⟩ | ⟨j,hj,rfl,he⟩
   ·have E:=HE0
    rw [he] at E
    clear he
    go_wp2_with fail
    go_ret2
    exact ⟨by rw [E.out];rfl,HB0.out.trans (HB2.out.mono HB0.out.size)⟩
   ·have E:=HE0
    rw [he] at E
    have hpos:=HEo.out _ (List.getElem_mem hj)
    have s2:=(HH.out _ HB2.out).cel.cell (i:=2) rfl
    obtain ⟨ad,rfl,_,_,h3⟩:=(HRow.out _ HB2.out).at ecs_len (by omega) hj
    have x1:=h3 1 _ rfl
    rw [← Ch.add_field _ _ _ (by omega)] at x1
    have pj:(j:Int) < (s.e.length:Int):=by omega
    have p0:¬ (j:Int) < 0:=by omega
    generalize s.e[j] = X at x1 E hpos
    obtain ⟨X1,X2⟩:=X
    simp only at x1 E hpos
    clear he h3
    by_cases h0:X2 = 0
    ·subst h0
     clear hpos
     go_wp2_with fail
     go_ret2
     exact ⟨by rw [E.out];rfl,HB0.out.trans (HB2.out.mono HB0.out.size)⟩
    ·have hb0:(X2 == 0) = false:=by rw [beq_eq_false_iff_ne];exact h0
     have E2:=Lib.hid (show stateP s txn = (2,X2) by rw [E.out];exact if_pos (by omega))
     clear E hpos
     go_upto_region 9 with fail
     go_quiet (fail)
     rename_i nq
     go_wp2_with fail
     go_ret2
     exact ⟨by rw [E2.out];rfl,HB0.out.trans ((below_drewN HB2.out nq).mono HB0.out.size)⟩
end
end Sh
end Go.Proofs.YtbkanoblcojdfaaGreat
