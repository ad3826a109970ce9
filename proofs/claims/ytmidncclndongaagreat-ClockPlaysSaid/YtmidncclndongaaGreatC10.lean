/- Parts of the proof, joined: RdView, RdRef3; their conditions stand with each. -/
import Derived.Test.YtmidncclndongaaGreatC9

set_option maxRecDepth 20000
set_option maxHeartbeats 8000000
namespace Go.Proofs.YtmidncclndongaaGreat
namespace Rd
open Go.RowKit Sc Bk
theorem wr_view {D : Dev} (hok : DevOk D) (hu : D.down = false) {k : Nat} (hk : k < D.on.length) {t : ByteArray} (ht : t.size = 64) :
    ((wrD D (k : Int) t).2 = 0 ∧ (wrD D (k : Int) t).1.down = false ∧ ∀ i, flushF (wrD D (k : Int) t).1 i = if i = k then t else flushF D i) ∨ ((wrD D (k : Int) t).2 = 90 ∧ (wrD D (k : Int) t).1.down = true) := by
  rw [wr_up hu hk ht]
  unfold burn
  by_cases h0 : D.left = 0
  · left
    rw [if_pos h0]
    simp only [Bool.false_eq_true, if_false]
    exact ⟨trivial, hu, fun i => view_set (by rw [hok.len]; exact hk) ht _ _⟩
  · rw [if_neg h0]
    by_cases h1 : (D.left == 1) = true
    · right
      simp only [h1, if_true]
      exact ⟨trivial, trivial⟩
    · left
      have h1' : (D.left == 1) = false := by simpa using h1
      simp only [h1', Bool.false_eq_true, if_false]
      exact ⟨trivial, trivial, fun i => view_set (by rw [hok.len]; exact hk) ht _ _⟩
theorem fl_view {D : Dev} (hok : DevOk D) (hu : D.down = false) :
    ((flD D).2 = 0 ∧ (flD D).1.down = false ∧ Sc.Clean (flD D).1 ∧ ∀ i, i < D.on.length → flushF (flD D).1 i = flushF D i) ∨ ((flD D).2 = 90 ∧ (flD D).1.down = true) := by
  have hb := burn_parts D
  unfold flD
  rw [if_neg (by rw [hu]; simp)]
  by_cases h2 : (burn D).2 = true
  · right
    rw [if_pos h2]
    refine ⟨rfl, ?_⟩
    unfold burn at h2 ⊢
    split at h2
    · cases h2
    next h0 => rw [if_neg h0]; exact h2
  · left
    rw [if_neg h2]
    refine ⟨rfl, ?_, fl_clean hok.len _ _, fun i hi => view_clean hok.len hi _ _⟩
    unfold burn at h2 ⊢
    split
    · exact hu
    next h0 => rw [if_neg h0] at h2; simpa using h2
theorem wrs_view {base : Nat} {all : List UInt8} : ∀ {n i : Nat} {D : Dev}, DevOk D → D.down = false → base + i + n ≤ D.on.length →
    ((wrs base all i n D).2 = 0 ∧ (wrs base all i n D).1.down = false ∧ ∀ j, flushF (wrs base all i n D).1 j = if base + i ≤ j ∧ j < base + i + n then blkB all (j - base) else flushF D j) ∨ ((wrs base all i n D).2 = 90 ∧ (wrs base all i n D).1.down = true)
  | 0, i, D, hok, hu, _ => .inl ⟨rfl, hu, fun j => by rw [if_neg (by omega)]; rfl⟩
  | n + 1, i, D, hok, hu, hl => by
    have hw := wr_view hok hu (k := base + i) (by omega) (blkB_size all i)
    have e : wrs base all i (n + 1) D = if (wrD D ((base + i : Nat) : Int) (blkB all i)).2 = 0 then wrs base all (i + 1) n (wrD D ((base + i : Nat) : Int) (blkB all i)).1 else wrD D ((base + i : Nat) : Int) (blkB all i) := rfl
    rw [e]
    rcases hw with ⟨h1, h2, h3⟩ | ⟨h1, h2⟩
    · rw [if_pos h1]
      have hl2 : (wrD D ((base + i : Nat) : Int) (blkB all i)).1.on.length = D.on.length := by rw [wrD_on]
      rcases wrs_view (base := base) (all := all) (n := n) (i := i + 1) (wrD_ok hok _ _) h2 (by rw [hl2]; omega) with ⟨q1, q2, q3⟩ | q
      · left
        refine ⟨q1, q2, fun j => ?_⟩
        rw [q3 j, h3 j]
        by_cases hj : base + (i + 1) ≤ j ∧ j < base + (i + 1) + n
        · rw [if_pos hj, if_pos (by omega)]
        · rw [if_neg hj]
          by_cases hj2 : j = base + i
          · rw [if_pos hj2, if_pos (by omega), hj2, Nat.add_sub_cancel_left]
          · rw [if_neg hj2, if_neg (by omega)]
      · exact .inr q
    · right
      rw [if_neg (by rw [h1]; decide)]
      exact ⟨h1, h2⟩
theorem many_le {old more : List UInt8} {D : Dev} (h : (old ++ more).length ≤ areaN D) : old.length / 64 + manyW old more ≤ areaN D / 64 := by
  have hd : areaN D / 64 * 64 = areaN D := by unfold areaN; omega
  rw [List.length_append] at h
  unfold manyW
  split
  · omega
  · rw [List.length_append]
    omega
theorem settle_view {D : Dev} (hok : DevOk D) (hu : D.down = false) (h4 : 4 ≤ D.on.length) (cnt a : Nat) (old more : List UInt8) (ha : a ≤ 1) (hz : (old ++ more).length ≤ areaN D) :
    ((settleP D cnt a old more).2 = 0 ∧ (settleP D cnt a old more).1.down = false ∧ Sc.Clean (settleP D cnt a old more).1 ∧ ∀ j, j < D.on.length → flushF (settleP D cnt a old more).1 j =
      if j = (cnt + 1) % 2 then headB (cnt + 1) a (old ++ more).length else if areaAt D a + old.length / 64 ≤ j ∧ j < areaAt D a + old.length / 64 + manyW old more then blkB (old ++ more) (j - areaAt D a) else flushF D j) ∨
    ((settleP D cnt a old more).2 = 90 ∧ (settleP D cnt a old more).1.down = true) := by
  have hml := many_le hz
  have hfit : areaAt D a + areaN D / 64 ≤ D.on.length := by
    unfold areaAt areaN
    rw [Nat.mul_div_cancel _ (by omega)]
    have : a = 0 ∨ a = 1 := by omega
    rcases this with rfl | rfl <;> omega
  unfold settleP
  rcases wrs_view (base := areaAt D a) (all := old ++ more) (n := manyW old more) (i := old.length / 64) hok hu (by omega) with ⟨p1, p2, p3⟩ | ⟨p1, p2⟩
  case inr =>
    right
    have e : andD (wrs (areaAt D a) (old ++ more) (old.length / 64) (manyW old more) D) (fun D1 => andD (if more = [] then (D1, 0) else flD D1) fun D2 => andD (wrD D2 (((cnt + 1) % 2 : Nat) : Int) (headB (cnt + 1) a (old ++ more).length)) fun D3 => flD D3) = wrs (areaAt D a) (old ++ more) (old.length / 64) (manyW old more) D := by
      unfold andD; rw [if_neg (by rw [p1]; decide)]
    rw [e]
    exact ⟨p1, p2⟩
  have hl1 := wrs_len (areaAt D a) (old ++ more) (manyW old more) (old.length / 64) D
  have ho1 := wrs_ok (areaAt D a) (old ++ more) (manyW old more) (old.length / 64) D hok
  have e : ∀ f, andD (wrs (areaAt D a) (old ++ more) (old.length / 64) (manyW old more) D) f = f (wrs (areaAt D a) (old ++ more) (old.length / 64) (manyW old more) D).1 := fun f => by
    unfold andD; rw [if_pos p1]
  rw [e]
  generalize (wrs (areaAt D a) (old ++ more) (old.length / 64) (manyW old more) D).1 = D1 at p2 p3 hl1 ho1
  have hmid : ((if more = [] then (D1, 0) else flD D1).2 = 0 ∧ (if more = [] then (D1, 0) else flD D1).1.down = false ∧ DevOk (if more = [] then (D1, (0 : Int)) else flD D1).1 ∧ (if more = [] then (D1, (0 : Int)) else flD D1).1.on.length = D.on.length ∧ ∀ i, i < D.on.length → flushF (if more = [] then (D1, (0 : Int)) else flD D1).1 i = flushF D1 i) ∨ ((if more = [] then (D1, 0) else flD D1).2 = 90 ∧ (if more = [] then (D1, 0) else flD D1).1.down = true) := by
    split
    · exact .inl ⟨rfl, p2, ho1, hl1, fun _ _ => rfl⟩
    · rcases fl_view ho1 p2 with ⟨q1, q2, q3, q4⟩ | q
      · exact .inl ⟨q1, q2, flD_ok ho1, (flD_len D1).trans hl1, fun i hi => q4 i (by omega)⟩
      · exact .inr q
  generalize (if more = [] then (D1, (0 : Int)) else flD D1) = r at hmid ⊢
  obtain ⟨D2, e2⟩ := r
  simp only at hmid
  rcases hmid with ⟨rfl, q2, q3, q4, q5⟩ | ⟨rfl, q2⟩
  case inr => exact .inr ⟨rfl, q2⟩
  have e3 : ∀ f, andD (D2, (0 : Int)) f = f D2 := fun f => rfl
  rw [e3]
  have hq : (cnt + 1) % 2 < 2 := Nat.mod_lt _ (by omega)
  rcases wr_view q3 q2 (k := (cnt + 1) % 2) (by omega) (headB_size (cnt + 1) a (old ++ more).length) with ⟨r1, r2, r3⟩ | ⟨r1, r2⟩
  case inr =>
    right
    have e4 : ∀ f, andD (wrD D2 (((cnt + 1) % 2 : Nat) : Int) (headB (cnt + 1) a (old ++ more).length)) f = wrD D2 (((cnt + 1) % 2 : Nat) : Int) (headB (cnt + 1) a (old ++ more).length) := fun f => by
      unfold andD; rw [if_neg (by rw [r1]; decide)]
    rw [e4]
    exact ⟨r1, r2⟩
  have e4 : ∀ f, andD (wrD D2 (((cnt + 1) % 2 : Nat) : Int) (headB (cnt + 1) a (old ++ more).length)) f = f (wrD D2 (((cnt + 1) % 2 : Nat) : Int) (headB (cnt + 1) a (old ++ more).length)).1 := fun f => by
    unfold andD; rw [if_pos r1]
  rw [e4]
  have hl3 : (wrD D2 (((cnt + 1) % 2 : Nat) : Int) (headB (cnt + 1) a (old ++ more).length)).1.on.length = D.on.length := by rw [wrD_on, q4]
  have ho3 := wrD_ok q3 (((cnt + 1) % 2 : Nat) : Int) (headB (cnt + 1) a (old ++ more).length)
  generalize (wrD D2 (((cnt + 1) % 2 : Nat) : Int) (headB (cnt + 1) a (old ++ more).length)).1 = D3 at r2 r3 hl3 ho3
  rcases fl_view ho3 r2 with ⟨s1, s2, s3, s4⟩ | s
  · left
    refine ⟨s1, s2, s3, fun j hj => ?_⟩
    rw [s4 j (by omega), r3 j]
    by_cases h1 : j = (cnt + 1) % 2
    · rw [if_pos h1, if_pos h1]
    · rw [if_neg h1, if_neg h1, q5 j hj, p3 j]
  · exact .inr s
theorem and_len {r : Dev × Int} {f : Dev → Dev × Int} {n : Nat} (h : r.1.on.length = n) (hf : ∀ D, D.on.length = n → (f D).1.on.length = n) : (andD r f).1.on.length = n := by
  unfold andD
  split
  · exact hf _ h
  · exact h
theorem settle_len (D : Dev) (cnt a : Nat) (old more : List UInt8) : (settleP D cnt a old more).1.on.length = D.on.length := by
  unfold settleP
  refine and_len (wrs_len _ _ _ _ _) fun D1 h1 => and_len ?_ fun D2 h2 => and_len ?_ fun D3 h3 => ?_
  · split
    · exact h1
    · rw [flD_len]; exact h1
  · rw [wrD_on]; exact h2
  · rw [flD_len]; exact h3
end Rd
end Go.Proofs.YtmidncclndongaaGreat
namespace Go.Proofs.YtmidncclndongaaGreat
namespace Rd
open Go.RowKit Sc Bk
attribute [local go_sem ↓] Go.wp_at_zero Go.wp_at_succ
attribute [local go_sem] floatUpon pick
structure SeEnv (w0 W:World) (k g:Nat) (ao an:Addr) (co cn:Nat) (so sn:List Value) (A:Option Addr) (c:Nat) (l:Lg) (D:Dev):Prop where
 r:RAt W g ao an co cn so sn D
 l:LAt W k g A c l
 ok:DevOk D
 fr:Fr (RFoot g ao an) (RFoot g ao an) w0 W
structure Off (k g:Nat) (ao an:Addr) (A:Option Addr) (l:Lg):Prop where
 k:¬ RFoot g ao an k
 a:0 < l.ts.length → ∀ x,A = some x → ¬ RFoot g ao an x.block
section
variable {w0 W W':World} {k g:Nat} {ao an:Addr} {co cn:Nat} {so sn:List Value} {A:Option Addr} {c:Nat} {l:Lg} {D D':Dev}
theorem SeEnv.step (h:SeEnv w0 W k g ao an co cn so sn A c l D) (hb:Below W.heap.size W W'):SeEnv w0 W' k g ao an co cn so sn A c l D :=
 ⟨h.r.step hb,h.l.below hb,h.ok,h.fr.below hb⟩
theorem SeEnv.act (h:SeEnv w0 W k g ao an co cn so sn A c l D) (ho:Off k g ao an A l) (h1:RAt W' g ao an co cn so sn D') (h2:Fr (RFoot g ao an) (RFoot g ao an) W W') (hk:DevOk D'):SeEnv w0 W' k g ao an co cn so sn A c l D' :=
 ⟨h1,h.l.fr h2 ho.k ho.a,hk,h.fr.trans h2⟩
theorem SeEnv.own (h:SeEnv w0 W k g ao an co cn so sn A c l D) {b:Nat} (h0:w0.heap.size ≤ b) (hk:k < w0.heap.size) (hF:∀ j,RFoot g ao an j → j < w0.heap.size) (hA:0 < l.ts.length → ∀ x,A = some x → x.block < w0.heap.size) (i:Nat) (v:Value):SeEnv w0 (W.setCell ⟨b,i,none⟩ v) k g ao an co cn so sn A c l D:=by
 have hfr:Fr (fun j=>j = b) (fun j=>j = b) W (W.setCell ⟨b,i,none⟩ v):=(Fr.refl (fun j=>j = b) W).set (p:=⟨b,i,none⟩) rfl v
 refine ⟨h.r.kept fun j hj=>Below.heap_setCell W ⟨b,i,none⟩ v j (fun e=>?_),h.l.fr hfr (by omega) (fun hp x hx=>by have:=hA hp x hx;show ¬ x.block = b;omega),h.ok,?_⟩
 ·have:=hF j hj
  have e2:j = b:=e
  omega
 ·refine ⟨h.fr.os,h.fr.tape,h.fr.output,by simpa [World.setCell] using h.fr.size,fun j hj hn=>(Below.heap_setCell W ⟨b,i,none⟩ v j (fun e=>?_)).trans (h.fr.block j hj hn),h.fr.foot⟩
  have e2:j = b:=e
  omega
theorem byte_set {L:List UInt8} {i:Nat} (b:UInt8):(Lib.byteCells L).set i (.int .u8 (b.toNat:Int)) = Lib.byteCells (L.set i b):=by
 unfold Lib.byteCells;rw [List.map_set]
end
def lgAfter (l:Lg) (e:Int) (a:Nat) (bs:List UInt8):Lg:=if e = 0 then ⟨l.cnt + 1,a,bs,l.ts,l.mn⟩ else l
section
variable {w W:World} {k g:Nat} {ao an:Addr} {co cn:Nat} {so sn:List Value} {A:Option Addr} {c:Nat} {l:Lg} {D D':Dev}
theorem wrs_next {base:Nat} {all:List UInt8} {i N:Nat} {D1:Dev} (h:i < N) (h0:(wrD D1 ((base + i:Nat):Int) (blkB all i)).2 = 0):wrs base all i (N - i) D1 = wrs base all (i + 1) (N - (i + 1)) (wrD D1 ((base + i:Nat):Int) (blkB all i)).1:=by
 rw [show N - i = (N - (i + 1)) + 1 by omega]
 show (if (wrD D1 ((base + i:Nat):Int) (blkB all i)).2 = 0 then _ else _) = _
 rw [if_pos h0]
theorem wrs_stop {base:Nat} {all:List UInt8} {i N:Nat} {D1:Dev} (h:i < N) (h0:(wrD D1 ((base + i:Nat):Int) (blkB all i)).2 ≠ 0):wrs base all i (N - i) D1 = wrD D1 ((base + i:Nat):Int) (blkB all i):=by
 rw [show N - i = (N - (i + 1)) + 1 by omega]
 show (if (wrD D1 ((base + i:Nat):Int) (blkB all i)).2 = 0 then _ else _) = _
 rw [if_neg h0]
theorem and_stop {r:Dev × Int} {f:Dev → Dev × Int} (h:r.2 ≠ 0):andD r f = r:=by unfold andD;rw [if_neg h]
theorem and_go {r:Dev × Int} {f:Dev → Dev × Int} (h:r.2 = 0):andD r f = f r.1:=by unfold andD;rw [if_pos h]
theorem lim_say (all:List UInt8) {i:Nat} (h:64 * i < all.length):limB all i ≤ 64 ∧ 64 * i + limB all i ≤ all.length ∧ (limB all i = 64 ∨ 64 * i + limB all i = all.length):=by
 unfold limB;omega
def SetPost (w:World) (k g:Nat) (ao an:Addr) (co cn:Nat) (so sn:List Value) (A:Option Addr) (c:Nat) (l:Lg) (D:Dev) (a:Nat) (old more:List UInt8) (e:Ending) (w':World):Prop :=
 e = .returned (.int .i64 (settleP D l.cnt a old more).2) ∧ RAt w' g ao an co cn so sn (settleP D l.cnt a old more).1 ∧ DevOk (settleP D l.cnt a old more).1 ∧ LAt w' k g A c (lgAfter l (settleP D l.cnt a old more).2 a (old ++ more)) ∧ Fr (fun j=>RFoot g ao an j ∨ j = k) (fun j=>RFoot g ao an j ∨ j = k) w w'
theorem fr_more {F G:Nat → Prop} (h:Fr F F w W):Fr (fun j=>F j ∨ G j) (fun j=>F j ∨ G j) w W :=
 ⟨h.os,h.tape,h.output,h.size,fun j hj hn=>h.block j hj (fun hf=>hn (.inl hf)),fun _ hj=>.inl hj⟩
theorem set_done {a:Nat} {old more:List UInt8} (h:settleP D l.cnt a old more = (D',0)) (hE:SeEnv w W k g ao an co cn so sn A c l D') (ho:Off k g ao an A l) :
  SetPost w k g ao an co cn so sn A c l D a old more (.returned (.int .i64 0)) (((W.setCell ⟨k,1,none⟩ (.int .i64 ((l.cnt:Int) + 1))).setCell ⟨k,2,none⟩ (.int .i64 (a:Int))).setCell ⟨k,3,none⟩ (.string ⟨(old ++ more).toArray⟩)):=by
 unfold SetPost
 rw [h]
 have hfr:Fr (fun j=>j = k) (fun j=>j = k) W (((W.setCell ⟨k,1,none⟩ (.int .i64 ((l.cnt:Int) + 1))).setCell ⟨k,2,none⟩ (.int .i64 (a:Int))).setCell ⟨k,3,none⟩ (.string ⟨(old ++ more).toArray⟩)) :=
  (((Fr.refl (fun j=>j = k) W).set (p:=⟨k,1,none⟩) rfl _).set (p:=⟨k,2,none⟩) rfl _).set (p:=⟨k,3,none⟩) rfl _
 refine ⟨rfl,hE.r.kept (fun j hj=>hfr.block j (hE.r.lt j hj) (fun e=>ho.k (e ▸ hj))),hE.ok,?_,((((fr_more (G:=fun j=>j = k) hE.fr).set (p:=⟨k,1,none⟩) (.inr rfl) _).set (p:=⟨k,2,none⟩) (.inr rfl) _).set (p:=⟨k,3,none⟩) (.inr rfl) _)⟩
 unfold lgAfter
 rw [if_pos rfl]
 refine ⟨((hE.l.cel.set (i:=1) (v:=.int .i64 ((l.cnt:Int) + 1))).set (i:=2) (v:=.int .i64 (a:Int))).set (i:=3) (v:=.string ⟨(old ++ more).toArray⟩),fun hp=>?_,hE.l.nk⟩
 obtain ⟨ad,e,hl,hc⟩:=hE.l.strs hp
 refine ⟨ad,e,Nat.lt_of_lt_of_le hl hfr.size,fun i hi=>?_⟩
 have hkp:=hfr.block ad.block hl (hE.l.nk hp ad e)
 rw [← st_block ad i] at hkp
 refine Eq.trans ?_ (hc i hi)
 unfold World.cell?
 rw [hkp]
theorem set_fail {a:Nat} {old more:List UInt8} {e:Int} (h:settleP D l.cnt a old more = (D',e)) (he:e ≠ 0) (hE:SeEnv w W k g ao an co cn so sn A c l D'):SetPost w k g ao an co cn so sn A c l D a old more (.returned (.int .i64 e)) W:=by
 unfold SetPost
 rw [h]
 refine ⟨rfl,hE.r,hE.ok,?_,fr_more hE.fr⟩
 unfold lgAfter
 rw [if_neg he]
 exact hE.l
end
section
variable {w:World} {k g:Nat} {ao an:Addr} {co cn:Nat} {so sn:List Value} {A:Option Addr} {c:Nat} {l:Lg} {D:Dev}
theorem rsettle_any (hr:RAt w g ao an co cn so sn D) (hL:LAt w k g A c l) (hok:DevOk D) (ho:Off k g ao an A l) (h4:4 ≤ D.on.length) (a:Nat) (old more:List UInt8) (ha:a ≤ 1) (hc:l.cnt ≤ 4611686018427388000) (hz:(old ++ more).length ≤ areaN D) :
  Calls Tryz.prog 153 #[.pointer (some ⟨k,0,none⟩),.int .i64 (a:Int),.string ⟨old.toArray⟩,.string ⟨more.toArray⟩] w (SetPost w k g ao an co cn so sn A c l D a old more):=by
 have HE0:=Lib.hid (show SeEnv w w k g ao an co cn so sn A c l D from ⟨hr,hL,hok,Fr.refl _ _⟩)
 have HOld:=Lib.hid (And.intro hL.cel.lt (And.intro hr.lt (fun (hp:0 < l.ts.length) (x:Addr) (hx:A = some x)=>show x.block < w.heap.size from by
  obtain ⟨ad,e,hl,_⟩:=hL.strs hp
  rw [e] at hx;cases hx;exact hl)))
 have hab:areaN D ≤ 65536:=by have:=hok.max;unfold areaN;omega
 have hzz:=hz
 rw [List.length_append] at hzz
 have hadd:=fun W=>list_sum2 old more (by omega) W
 have zO:(⟨old.toArray⟩:ByteArray).size = old.length:=text_size old
 have zA:(⟨(old ++ more).toArray⟩:ByteArray).size = (old ++ more).length:=text_size _
 obtain ⟨x,hx0⟩:∃ x,x = a * (areaN D / 64):=⟨_,rfl⟩
 have hat:areaAt D a = 2 + x:=by rw [hx0];rfl
 have ha2:a = 0 ∨ a = 1:=by omega
 have hb0:0 ≤ (a:Int) * (areaN D:Int):=Int.mul_nonneg (by omega) (by omega)
 have hb1:(a:Int) * (areaN D:Int) ≤ 65536:=by
  rcases ha2 with rfl | rfl <;> omega
 have hq3:((a:Int) * (areaN D:Int)) / 64 = (x:Int):=by
  rw [hx0]
  rcases ha2 with rfl | rfl <;> omega
 have hq2:((a:Int) * (areaN D:Int)).tdiv 64 = (x:Int):=by rw [Int.tdiv_eq_ediv_of_nonneg hb0,hq3]
 have hx1:x ≤ 1024:=by
  rw [hx0]
  rcases ha2 with rfl | rfl <;> omega
 have HAt:=Lib.hid hat
 have HNum:=Lib.hid (And.intro hb0 (And.intro hb1 (And.intro hq3 (And.intro hq2 hx1))))
 clear hx0 hat ha2 hb0 hb1 hq3 hq2
 by_cases hm:more = []
 ·subst hm
  have HDone:=Lib.hid (fun (W:World) (D':Dev) (h:settleP D l.cnt a old [] = (D',0)) (hE:SeEnv w W k g ao an co cn so sn A c l D')=>set_done h hE ho)
  have HFail:=Lib.hid (fun (W:World) (D':Dev) (e:Int) (h:settleP D l.cnt a old [] = (D',e)) (he:e ≠ 0) (hE:SeEnv w W k g ao an co cn so sn A c l D')=>set_fail h he hE)
  have HR2:=Lib.hid (show settleP D l.cnt a old [] = andD (wrD D (((l.cnt + 1) % 2:Nat):Int) (headB (l.cnt + 1) a (old ++ []).length)) fun D3=>flD D3 from by
   unfold settleP manyW
   rw [if_pos rfl,and_go rfl]
   show andD (if ([]:List UInt8) = [] then _ else _) _ = _
   rw [if_pos rfl,and_go rfl]
   rfl)
  generalize settleP D l.cnt a old [] = R at *
  generalize hP:SetPost w k g ao an co cn so sn A c l D a old [] = Pst at *
  have HSM:Hid ((⟨([]:List UInt8).toArray⟩:ByteArray) = ⟨#[]⟩):=Lib.hid rfl
  rw [HSM.out] at hadd ⊢
  generalize hAll:old ++ [] = all at *
  generalize (⟨old.toArray⟩:ByteArray) = SO at zO hadd ⊢
  obtain ⟨SA,hSA⟩:∃ SA:ByteArray,SA = ⟨all.toArray⟩:=⟨_,rfl⟩
  rw [← hSA] at hadd zA
  have HSA:=Lib.hid hSA
  have hold:(old.length:Int) ≤ 65536:=by omega
  obtain ⟨f,hf⟩:∃ f,f = old.length / 64:=⟨_,rfl⟩
  have hq:(old.length:Int) / 64 = (f:Int):=by rw [hf];omega
  clear hSA hr hL hok hf hAll
  have q0:=text_eq ⟨#[]⟩
  go_enter Tryz.func153,Tryz.ntmps153
  go_wp2_with fail
  go_loopw [11] (fun i wr=>i = .int .i64 (f:Int) ∧ wr = w) (fun i _=>0)
  case atStart=>exact ⟨rfl,rfl⟩
  case round =>
   obtain ⟨rfl,hw⟩:=hrel
   have hw2:=hw.symm
   clear hw
   subst hw2
   obtain ⟨D2,hD2⟩:∃ D2,D2 = D:=⟨_,rfl⟩
   have HE3:=HE0
   rw [← hD2] at HE3 HR2
   clear hD2 HE0
   go_upto_region 18 with fail
   obtain ⟨r,hr⟩:∃ r,r = (l.cnt + 1) % 2:=⟨_,rfl⟩
   have HMd:=Lib.hid (show IntKind.i64.wrap ((l.cnt:Int) + 1) = (l.cnt:Int) + 1 ∧ ((l.cnt:Int) + 1).tmod 2 = (r:Int) ∧ ((l.cnt:Int) + 1) % 2 = (r:Int) from
    ⟨i64_wrap (by omega) (by omega),by rw [Int.tmod_eq_emod_of_nonneg (by omega),hr];omega,by rw [hr];omega⟩)
   rw [← hr] at HR2
   have hhd:=fun V=>rhead_any (l.cnt + 1) a all.length V (by omega) ha (by omega)
   rw [show ((l.cnt + 1:Nat):Int) = (l.cnt:Int) + 1 from rfl] at hhd
   have HHd:=Lib.hid hhd
   clear hr hhd
   generalize headB (l.cnt + 1) a all.length = hdB at HHd HR2
   refine wp_region_said 19 [90,91,92,93,94,95,96,97,98,99,100,101,102,103,104,105,106,107,108]
    [.is (.pointer (some ⟨k,0,none⟩)),.is (.pointer (some ⟨k,0,none⟩)),.is (.pointer (some ⟨k,0,none⟩)),.is (.pointer (some ⟨g,0,none⟩)),.is (.pointer (some ⟨k,0,none⟩)),.is (.pointer (some ⟨k,0,none⟩)),.is (.pointer (some ⟨k,1,none⟩)),.is (.int .i64 (l.cnt:Int)),.is (.int .i64 ((l.cnt:Int) + 1)),.is (.int .i64 (r:Int)),.is (.pointer (some ⟨k,0,none⟩)),.is (.pointer (some ⟨k,0,none⟩)),.is (.pointer (some ⟨k,1,none⟩)),.is (.int .i64 (l.cnt:Int)),.is (.int .i64 ((l.cnt:Int) + 1)),.is (.int .i64 (a:Int)),.is (.string SA),.is (.int .i64 (all.length:Int)),.is (.string hdB)]
    (fun W=>SeEnv w W k g ao an co cn so sn A c l D2) (by kernel_rfl) (by kernel_rfl) (by kernel_rfl) (by kernel_rfl) (by kernel_rfl) (fun W W' h hb=>h.step hb) HE3.out ?steps9 ?last9
   case steps9 =>
    simp only [List.take_succ_cons,List.take_zero]
    refine ⟨?_,?_,?_,?_,?_,?_,?_,?_,?_,?_,?_,?_,?_,?_,?_,?_,?_,?_,?_,trivial⟩
    all_goals
     intro vs W ρ hρ hc hf hg hI hH hd R' hR
     have z0:=hI.l.cel.cell (i:=0) rfl
     have z1:=hI.l.cel.cell (i:=1) rfl
     obtain ⟨v1,v2,v3⟩:=HMd.out
     have HR:=Lib.hid hR
     simp [depsOf,Region.binds,sayAt,Say.holds] at hd
     clear hR hI
     go_simp
     first
      | exact HR.out _ _ (by simp [sayAt,Say.holds]) (Below.refl _ _) (by simp [sayAt,Say.isBlk])
         | (refine (HHd.out _).mono ?_;rintro e w' ⟨rfl,hb⟩;exact ⟨_,rfl,HR.out _ _ (by simp [sayAt,Say.holds]) hb (by simp [sayAt,Say.isBlk])⟩)
      | trace_state
   case last9 =>
    intro vs W hI hb hg hd
    have e3:=hg 3 (by omega)
    have e9:=hg 9 (by omega)
    have e18:=hg 18 (by omega)
    simp only [sayAt,Say.holds,List.getD_cons_succ,List.getD_cons_zero] at e3 e9 e18
    simp only [List.take_succ_cons,List.take_zero,List.drop_succ_cons,List.drop_zero,putAll,Act.put,List.setIfInBounds_toArray,List.set_cons_succ,List.set_cons_zero,Nat.zero_add,Nat.reduceAdd]
    rw [e3,e9,e18]
    have hwr:=rwrite_any hI.r hI.ok (r:Int) hdB
    have hokw:=wrD_ok hI.ok (r:Int) hdB
    have HI:=Lib.hid hI
    generalize wrD D2 (r:Int) hdB = rr at hwr hokw HR2
    obtain ⟨D3,e3'⟩:=rr
    have HWr:=Lib.hid hwr
    have HOw:=Lib.hid hokw
    clear e3 e9 e18 hg hd hb hI hwr hokw HE3
    go_wp2_with fail
    refine HWr.out.mono ?_
    rintro e w7 ⟨rfl,h1,h2⟩
    have HE5:=Lib.hid (HI.out.act ho h1 h2 HOw.out)
    clear h1 h2 HWr HOw HI
    simp only at HE5 ⊢
    by_cases h0:e3' = 0
    rotate_left
    ·have hne:(e3' != 0) = true:=by simpa using h0
     have HFn:=Lib.hid (HFail.out _ D3 e3' (by rw [HR2.out];exact and_stop h0) h0 HE5.out)
     go_wp2_with fail
     exact HFn.out
    subst h0
    have HR3:=Lib.hid (show R = flD D3 from by rw [HR2.out];exact and_go rfl)
    clear HR2
    have hfl:=rflush_any HE5.out.r HE5.out.ok
    have hokf:=flD_ok HE5.out.ok
    have z0:=HE5.out.l.cel.cell (i:=0) rfl
    generalize flD D3 = rr at hfl hokf HR3
    obtain ⟨D4,e4⟩:=rr
    have HFl:=Lib.hid hfl
    have HOf:=Lib.hid hokf
    clear hfl hokf
    go_wp2_with fail
    refine HFl.out.mono ?_
    rintro e w8 ⟨rfl,h1,h2⟩
    have HE6:=Lib.hid (HE5.out.act ho h1 h2 HOf.out)
    clear h1 h2 HFl HOf HE5 z0
    simp only at HE6 ⊢
    by_cases h0:e4 = 0
    rotate_left
    ·have hne:(e4 != 0) = true:=by simpa using h0
     have HFn:=Lib.hid (HFail.out _ D4 e4 HR3.out h0 HE6.out)
     go_wp2_with fail
     exact HFn.out
    subst h0
    have HDn:=Lib.hid (HDone.out _ D4 HR3.out HE6.out)
    have z1:=HE6.out.l.cel.cell (i:=1) rfl
    have kq:=fun i=>HE6.out.l.cel.free (i:=i)
    have v1:=HMd.out.1
    rw [← HSA.out] at HDn
    have HC1:=Lib.hid (HE6.out.l.cel.set (i:=1) (v:=.int .i64 ((l.cnt:Int) + 1)))
    clear HR3
    go_upto_region 25 with fail
    generalize w8.setCell ⟨k,1,none⟩ (.int .i64 ((l.cnt:Int) + 1)) = W1 at HDn HC1 ⊢
    clear z1 kq v1
    have z2:=HC1.out.cell (i:=2) rfl
    have kq:=fun i=>HC1.out.free (i:=i)
    have HC2:=Lib.hid (HC1.out.set (i:=2) (v:=.int .i64 (a:Int)))
    go_upto_region 26 with fail
    generalize W1.setCell ⟨k,2,none⟩ (.int .i64 (a:Int)) = W2 at HDn HC2 ⊢
    clear z2 kq
    have z3:=HC2.out.cell (i:=3) rfl
    have kq:=fun i=>HC2.out.free (i:=i)
    clear HC1 HC2
    go_wp2_with fail
    exact HDn.out
 have hmn:(⟨more.toArray⟩:ByteArray) ≠ nil0:=by
  intro e
  have:=congrArg (fun t:ByteArray=>t.data.toList) e
  exact hm (by simpa [nil0] using this)
 obtain ⟨t1,t2,t0⟩:=text_no hmn
 have HTx:=Lib.hid (And.intro t1 (And.intro t2 t0))
 clear t1 t2 t0 hmn
 have HFail:=Lib.hid (fun (W:World) (D':Dev) (e:Int) (h:settleP D l.cnt a old more = (D',e)) (he:e ≠ 0) (hE:SeEnv w W k g ao an co cn so sn A c l D')=>set_fail h he hE)
 obtain ⟨N,hN⟩:∃ N,N = ((old ++ more).length + 63) / 64:=⟨_,rfl⟩
 obtain ⟨f,hf⟩:∃ f,f = old.length / 64:=⟨_,rfl⟩
 have hml:0 < more.length:=List.length_pos_iff.2 hm
 have hfN:f < N:=by rw [hf,hN,List.length_append];omega
 have HS:=Lib.hid (show settleP D l.cnt a old more = andD (wrs (areaAt D a) (old ++ more) f (N - f) D) fun D1=>andD (flD D1) fun D2=>andD (wrD D2 (((l.cnt + 1) % 2:Nat):Int) (headB (l.cnt + 1) a (old ++ more).length)) fun D3=>flD D3 from by
  unfold settleP manyW
  simp only [if_neg hm]
  rw [← hf,← hN])
 have HDone:=Lib.hid (fun (W:World) (D':Dev) (h:settleP D l.cnt a old more = (D',0)) (hE:SeEnv w W k g ao an co cn so sn A c l D')=>set_done h hE ho)
 generalize settleP D l.cnt a old more = R at *
 generalize hP:SetPost w k g ao an co cn so sn A c l D a old more = Pst at *
 have HAll:=Lib.hid (rfl:old ++ more = old ++ more)
 generalize hAll:old ++ more = all at *
 generalize (⟨more.toArray⟩:ByteArray) = SM at HTx hadd ⊢
 generalize (⟨old.toArray⟩:ByteArray) = SO at zO hadd ⊢
 obtain ⟨SA,hSA⟩:∃ SA:ByteArray,SA = ⟨all.toArray⟩:=⟨_,rfl⟩
 rw [← hSA] at hadd zA
 have HSA:=Lib.hid hSA
 have hold:(old.length:Int) ≤ 65536:=by omega
 have hq:(old.length:Int) / 64 = (f:Int):=by rw [hf];omega
 have HN:=Lib.hid hN
 clear hSA hr hL hok hN hf hAll
 obtain ⟨t1,t2,t0⟩:=HTx.out
 go_enter Tryz.func153,Tryz.ntmps153
 go_wp2_with fail
 go_loopw [11] (fun i wr=>∃ (i':Nat) (D1:Dev),f ≤ i' ∧ i' ≤ N ∧ i = .int .i64 (i':Int) ∧ Hid (SeEnv w wr k g ao an co cn so sn A c l D1 ∧ D1.on.length = D.on.length ∧ wrs (areaAt D a) all f (N - f) D = wrs (areaAt D a) all i' (N - i') D1)) (fun i _=>N - (intOf i).toNat)
 case atStart=>exact ⟨f,D,Nat.le_refl _,by omega,rfl,HE0.out,rfl,rfl⟩
 case round =>
  clear HE0
  obtain ⟨i,D1,hi1,hi2,rfl,HE⟩:=hrel
  have hi1024:i ≤ 1025:=by have:=HN.out;omega
  by_cases hlt:i < N
  ·have pi:(i:Int) * 64 < (all.length:Int):=by have:=HN.out;omega
   have hmk:=make_64
   have HM:Hid ((Lib.byteCells (List.replicate 64 (0:UInt8))).toArray = (Lib.byteCells (rowB all i 0)).toArray):=Lib.hid (by rw [rowB_zero])
   generalize (Lib.byteCells (List.replicate 64 (0:UInt8))).toArray = M at hmk HM
   go_upto_region 7 with fail
   have hE1:SeEnv w (wr.alloc (.cells M 5)) k g ao an co cn so sn A c l D1:=HE.out.1.step ((Below.refl _ wr).alloc (Nat.le_refl _) _)
   have hcel:Cel (wr.alloc (.cells M 5)) wr.heap.size 5 (Lib.byteCells (rowB all i 0)):=by unfold Cel;rw [← HM.out];exact heap_alloc_new wr _
   have HBB:=Lib.hid HE.out.1.fr.size
   have HE1:=Lib.hid (And.intro hE1 hcel)
   have HD1:=Lib.hid HE.out.2
   have HLim:=Lib.hid (lim_say all (i:=i) (by omega))
   clear hE1 hcel HE HM hmk
   generalize wr.alloc (.cells M 5) = W1 at HE1 ⊢
   generalize wr.heap.size = bb at HE1 HBB ⊢
   go_wp2_with fail
   go_loopw [13] (fun q W=>∃ q':Nat,q' ≤ limB all i ∧ q = .int .i64 (q':Int) ∧ Hid (SeEnv w W k g ao an co cn so sn A c l D1 ∧ Cel W bb 5 (Lib.byteCells (rowB all i q')))) (fun q _=>64 - (intOf q).toNat)
   case atStart=>exact ⟨0,Nat.zero_le _,rfl,HE1.out⟩
   case round =>
    clear HE1
    obtain ⟨q,hq1,rfl,HE2⟩:=hrel
    by_cases hql:q < limB all i
    ·have hq64:q < 64:=by have:=HLim.out;omega
     have pq:(q:Int) < 64:=by omega
     have hin:64 * i + q < all.length:=by have:=HLim.out;omega
     have pq2:(i:Int) * 64 + (q:Int) < (all.length:Int):=by omega
     obtain ⟨b,hb⟩:∃ b,all[64 * i + q]? = some b:=⟨_,List.getElem?_eq_getElem hin⟩
     have hix:=fun W=>str_at SA (64 * i + q) b (by rw [HSA.out];exact hb) ((i:Int) * 64 + (q:Int)) (by omega) W
     have f1:=HE2.out.2.free (i:=q)
     obtain ⟨y,f2⟩:∃ y,_ = some y:=⟨_,HE2.out.2.cell (i:=q) (List.getElem?_eq_getElem (by rw [Lib.byteCells_length,rowB_len hq1];exact hq64))⟩
     have HE3:=Lib.hid (And.intro (HE2.out.1.own HBB.out HOld.out.1 HOld.out.2.1 HOld.out.2.2 q (.int .u8 (b.toNat:Int))) (show Cel _ bb 5 (Lib.byteCells (rowB all i (q + 1))) from by
      have h:=HE2.out.2.set (i:=q) (v:=.int .u8 (b.toNat:Int))
      rwa [byte_set,rowB_set hql hb] at h))
     clear hb hin
     go_upto_region 9 with fail
     generalize wr.setCell ⟨bb,q,none⟩ (.int .u8 (b.toNat:Int)) = W3 at HE3 ⊢
     clear f1 f2 hix
     go_wp2_with fail
     go_roundw
     case rel=>exact ⟨q + 1,by omega,by go_num,HE3.out⟩
     case measure=>simp [intOf];omega
    ·obtain rfl:q = limB all i:=by omega
     have hx:limB all i = 64 ∨ (limB all i < 64 ∧ ¬ (i:Int) * 64 + ((limB all i:Nat):Int) < (all.length:Int)):=by have:=HLim.out;omega
     generalize hLm:limB all i = lim at *
     rcases hx with h64 | ⟨h64,h65⟩
     ·have pq:¬ (lim:Int) < 64:=by omega
      go_upto_region 11 with fail
      have hbl:blkB all i = ⟨(rowB all i lim).toArray⟩:=by unfold blkB;rw [hLm]
      have hrl:(rowB all i lim).length = 64:=rowB_len (Nat.le_of_eq hLm.symm)
      have hbk:=fun (W:World) (hW:Cel W bb 5 (Lib.byteCells (rowB all i lim)))=>back_of (l:=rowB all i lim) hW hrl
      rw [← hbl] at hbk
      have HBk:=Lib.hid hbk
      have HWp:=Lib.hid (And.intro (i64_wrap HNum.out.1 (by have:=HNum.out.2.1;omega)) (And.intro (i64_wrap (x:=(x:Int)) (by omega) (by omega)) (And.intro (i64_wrap (x:=2 + (x:Int)) (by omega) (by omega)) (i64_wrap (x:=2 + (x:Int) + (i:Int)) (by omega) (by omega)))))
      have HAr:=Lib.hid (fun W (hW:SeEnv w W k g ao an co cn so sn A c l D1)=>show Calls Tryz.prog 157 #[.pointer (some ⟨g,0,none⟩)] W fun e w'=>e = .returned (.int .i64 (areaN D:Int)) ∧ w' = W from by
       have:=rarea_any hW.r hW.ok (by rw [HD1.out.1];omega)
       rw [areaN_on HD1.out.1] at this
       exact this)
      clear hbl hrl hbk
      refine wp_region_said 17 [59,60,61,62,63,64,65,66,67,68,69,70,71,72,73,74,75]
       [.is (.pointer (some ⟨k,0,none⟩)),.is (.pointer (some ⟨k,0,none⟩)),.is (.pointer (some ⟨k,0,none⟩)),.is (.pointer (some ⟨g,0,none⟩)),.is (.int .i64 (a:Int)),.is (.pointer (some ⟨k,0,none⟩)),.is (.pointer (some ⟨k,0,none⟩)),.is (.pointer (some ⟨k,0,none⟩)),.is (.pointer (some ⟨g,0,none⟩)),.is (.int .i64 (areaN D:Int)),.is (.int .i64 ((a:Int) * (areaN D:Int))),.is (.int .i64 (x:Int)),.is (.int .i64 (2 + (x:Int))),.is (.int .i64 (i:Int)),.is (.int .i64 (2 + (x:Int) + (i:Int))),.is (.slice (some ⟨bb,0,none⟩) 64 64),.is (.string (blkB all i))]
       (fun W=>SeEnv w W k g ao an co cn so sn A c l D1 ∧ Cel W bb 5 (Lib.byteCells (rowB all i lim))) (by kernel_rfl) (by kernel_rfl) (by kernel_rfl) (by kernel_rfl) (by kernel_rfl) (fun W W' h hb=>⟨h.1.step hb,h.2.below hb⟩) HE2.out ?steps ?last
      case steps =>
       simp only [List.take_succ_cons,List.take_zero]
       refine ⟨?_,?_,?_,?_,?_,?_,?_,?_,?_,?_,?_,?_,?_,?_,?_,?_,?_,trivial⟩
       all_goals
        intro vs W ρ hρ hc hf hg hI hH hd R' hR
        have z0:=hI.1.l.cel.cell (i:=0) rfl
        have hbk:=HBk.out W hI.2
        obtain ⟨hb0,hb1,hq3,hq2,_⟩:=HNum.out
        obtain ⟨v1,v2,v3,v4⟩:=HWp.out
        have HR:=Lib.hid hR
        have HI:=Lib.hid hI
        simp [depsOf,Region.binds,sayAt,Say.holds] at hd
        clear hR hI
        go_simp
        first
         | exact HR.out _ _ (by simp [sayAt,Say.holds]) (Below.refl _ _) (by simp [sayAt,Say.isBlk])
         | (refine (HAr.out _ HI.out.1).mono ?_;rintro e w' ⟨rfl,rfl⟩;exact ⟨_,rfl,HR.out _ _ (by simp [sayAt,Say.holds]) (Below.refl _ _) (by simp [sayAt,Say.isBlk])⟩)
         | trace_state
      case last =>
       intro vs W hI hb hg hd
       have e3:=hg 3 (by omega)
       have e14:=hg 14 (by omega)
       have e16:=hg 16 (by omega)
       simp only [sayAt,Say.holds,List.getD_cons_succ,List.getD_cons_zero] at e3 e14 e16
       simp only [List.take_succ_cons,List.take_zero,List.drop_succ_cons,List.drop_zero,putAll,Act.put,List.setIfInBounds_toArray,List.set_cons_succ,List.set_cons_zero,Nat.zero_add,Nat.reduceAdd]
       rw [e3,e14,e16]
       have hwr:=rwrite_any hI.1.r hI.1.ok ((areaAt D a + i:Nat):Int) (blkB all i)
       rw [show ((areaAt D a + i:Nat):Int) = 2 + (x:Int) + (i:Int) by rw [HAt.out];omega] at hwr
       have HI:=Lib.hid hI.1
       have HWr:=Lib.hid hwr
       clear e3 e14 e16 hg hd hb hI hwr HBk HE2
       go_wp2_with fail
       refine HWr.out.mono ?_
       rintro e w7 ⟨rfl,h1,h2⟩
       have HE5:=Lib.hid (HI.out.act ho h1 h2 (wrD_ok HI.out.ok _ _))
       have hon:(wrD D1 (2 + (x:Int) + (i:Int)) (blkB all i)).1.on.length = D.on.length:=by rw [wrD_on];exact HD1.out.1
       have HNx:=Lib.hid (fun (h0:(wrD D1 (2 + (x:Int) + (i:Int)) (blkB all i)).2 = 0)=>show wrs (areaAt D a) all f (N - f) D = wrs (areaAt D a) all (i + 1) (N - (i + 1)) (wrD D1 (2 + (x:Int) + (i:Int)) (blkB all i)).1 from by
        rw [HD1.out.2]
        have e:((areaAt D a + i:Nat):Int) = 2 + (x:Int) + (i:Int):=by rw [HAt.out];omega
        rw [← e] at h0 ⊢
        exact wrs_next hlt h0)
       have HStop:=Lib.hid (fun (h0:(wrD D1 (2 + (x:Int) + (i:Int)) (blkB all i)).2 ≠ 0)=>show R = wrD D1 (2 + (x:Int) + (i:Int)) (blkB all i) from by
        have e:((areaAt D a + i:Nat):Int) = 2 + (x:Int) + (i:Int):=by rw [HAt.out];omega
        rw [← e] at h0 ⊢
        rw [HS.out,HD1.out.2,wrs_stop hlt h0,and_stop h0])
       have HOn:=Lib.hid hon
       clear h1 h2 hon HWr HI HD1
       generalize wrD D1 (2 + (x:Int) + (i:Int)) (blkB all i) = r at HE5 HNx HStop HOn ⊢
       obtain ⟨D2,e2⟩:=r
       simp only at HE5 HNx HStop HOn ⊢
       by_cases h0:e2 = 0
       ·subst h0
        have HE6:=Lib.hid (And.intro HE5.out (And.intro HOn.out (HNx.out rfl)))
        clear HE5 HNx HStop HOn
        go_wp2_with fail
        go_roundw
        case rel=>exact ⟨i + 1,D2,by omega,by omega,by go_num,HE6.out⟩
        case measure=>simp [intOf];omega
       ·have hne:(e2 != 0) = true:=by simpa using h0
        have HFn:=Lib.hid (HFail.out _ D2 e2 (HStop.out h0) h0 HE5.out)
        clear HE5 HNx HStop HOn
        go_wp2_with fail
        exact HFn.out
     ·have pq:(lim:Int) < 64:=by omega
      go_upto_region 11 with fail
      have hbl:blkB all i = ⟨(rowB all i lim).toArray⟩:=by unfold blkB;rw [hLm]
      have hrl:(rowB all i lim).length = 64:=rowB_len (Nat.le_of_eq hLm.symm)
      have hbk:=fun (W:World) (hW:Cel W bb 5 (Lib.byteCells (rowB all i lim)))=>back_of (l:=rowB all i lim) hW hrl
      rw [← hbl] at hbk
      have HBk:=Lib.hid hbk
      have HWp:=Lib.hid (And.intro (i64_wrap HNum.out.1 (by have:=HNum.out.2.1;omega)) (And.intro (i64_wrap (x:=(x:Int)) (by omega) (by omega)) (And.intro (i64_wrap (x:=2 + (x:Int)) (by omega) (by omega)) (i64_wrap (x:=2 + (x:Int) + (i:Int)) (by omega) (by omega)))))
      have HAr:=Lib.hid (fun W (hW:SeEnv w W k g ao an co cn so sn A c l D1)=>show Calls Tryz.prog 157 #[.pointer (some ⟨g,0,none⟩)] W fun e w'=>e = .returned (.int .i64 (areaN D:Int)) ∧ w' = W from by
       have:=rarea_any hW.r hW.ok (by rw [HD1.out.1];omega)
       rw [areaN_on HD1.out.1] at this
       exact this)
      clear hbl hrl hbk
      refine wp_region_said 17 [59,60,61,62,63,64,65,66,67,68,69,70,71,72,73,74,75]
       [.is (.pointer (some ⟨k,0,none⟩)),.is (.pointer (some ⟨k,0,none⟩)),.is (.pointer (some ⟨k,0,none⟩)),.is (.pointer (some ⟨g,0,none⟩)),.is (.int .i64 (a:Int)),.is (.pointer (some ⟨k,0,none⟩)),.is (.pointer (some ⟨k,0,none⟩)),.is (.pointer (some ⟨k,0,none⟩)),.is (.pointer (some ⟨g,0,none⟩)),.is (.int .i64 (areaN D:Int)),.is (.int .i64 ((a:Int) * (areaN D:Int))),.is (.int .i64 (x:Int)),.is (.int .i64 (2 + (x:Int))),.is (.int .i64 (i:Int)),.is (.int .i64 (2 + (x:Int) + (i:Int))),.is (.slice (some ⟨bb,0,none⟩) 64 64),.is (.string (blkB all i))]
       (fun W=>SeEnv w W k g ao an co cn so sn A c l D1 ∧ Cel W bb 5 (Lib.byteCells (rowB all i lim))) (by kernel_rfl) (by kernel_rfl) (by kernel_rfl) (by kernel_rfl) (by kernel_rfl) (fun W W' h hb=>⟨h.1.step hb,h.2.below hb⟩) HE2.out ?steps ?last
      case steps =>
       simp only [List.take_succ_cons,List.take_zero]
       refine ⟨?_,?_,?_,?_,?_,?_,?_,?_,?_,?_,?_,?_,?_,?_,?_,?_,?_,trivial⟩
       all_goals
        intro vs W ρ hρ hc hf hg hI hH hd R' hR
        have z0:=hI.1.l.cel.cell (i:=0) rfl
        have hbk:=HBk.out W hI.2
        obtain ⟨hb0,hb1,hq3,hq2,_⟩:=HNum.out
        obtain ⟨v1,v2,v3,v4⟩:=HWp.out
        have HR:=Lib.hid hR
        have HI:=Lib.hid hI
        simp [depsOf,Region.binds,sayAt,Say.holds] at hd
        clear hR hI
        go_simp
        first
         | exact HR.out _ _ (by simp [sayAt,Say.holds]) (Below.refl _ _) (by simp [sayAt,Say.isBlk])
         | (refine (HAr.out _ HI.out.1).mono ?_;rintro e w' ⟨rfl,rfl⟩;exact ⟨_,rfl,HR.out _ _ (by simp [sayAt,Say.holds]) (Below.refl _ _) (by simp [sayAt,Say.isBlk])⟩)
         | trace_state
      case last =>
       intro vs W hI hb hg hd
       have e3:=hg 3 (by omega)
       have e14:=hg 14 (by omega)
       have e16:=hg 16 (by omega)
       simp only [sayAt,Say.holds,List.getD_cons_succ,List.getD_cons_zero] at e3 e14 e16
       simp only [List.take_succ_cons,List.take_zero,List.drop_succ_cons,List.drop_zero,putAll,Act.put,List.setIfInBounds_toArray,List.set_cons_succ,List.set_cons_zero,Nat.zero_add,Nat.reduceAdd]
       rw [e3,e14,e16]
       have hwr:=rwrite_any hI.1.r hI.1.ok ((areaAt D a + i:Nat):Int) (blkB all i)
       rw [show ((areaAt D a + i:Nat):Int) = 2 + (x:Int) + (i:Int) by rw [HAt.out];omega] at hwr
       have HI:=Lib.hid hI.1
       have HWr:=Lib.hid hwr
       clear e3 e14 e16 hg hd hb hI hwr HBk HE2
       go_wp2_with fail
       refine HWr.out.mono ?_
       rintro e w7 ⟨rfl,h1,h2⟩
       have HE5:=Lib.hid (HI.out.act ho h1 h2 (wrD_ok HI.out.ok _ _))
       have hon:(wrD D1 (2 + (x:Int) + (i:Int)) (blkB all i)).1.on.length = D.on.length:=by rw [wrD_on];exact HD1.out.1
       have HNx:=Lib.hid (fun (h0:(wrD D1 (2 + (x:Int) + (i:Int)) (blkB all i)).2 = 0)=>show wrs (areaAt D a) all f (N - f) D = wrs (areaAt D a) all (i + 1) (N - (i + 1)) (wrD D1 (2 + (x:Int) + (i:Int)) (blkB all i)).1 from by
        rw [HD1.out.2]
        have e:((areaAt D a + i:Nat):Int) = 2 + (x:Int) + (i:Int):=by rw [HAt.out];omega
        rw [← e] at h0 ⊢
        exact wrs_next hlt h0)
       have HStop:=Lib.hid (fun (h0:(wrD D1 (2 + (x:Int) + (i:Int)) (blkB all i)).2 ≠ 0)=>show R = wrD D1 (2 + (x:Int) + (i:Int)) (blkB all i) from by
        have e:((areaAt D a + i:Nat):Int) = 2 + (x:Int) + (i:Int):=by rw [HAt.out];omega
        rw [← e] at h0 ⊢
        rw [HS.out,HD1.out.2,wrs_stop hlt h0,and_stop h0])
       have HOn:=Lib.hid hon
       clear h1 h2 hon HWr HI HD1
       generalize wrD D1 (2 + (x:Int) + (i:Int)) (blkB all i) = r at HE5 HNx HStop HOn ⊢
       obtain ⟨D2,e2⟩:=r
       simp only at HE5 HNx HStop HOn ⊢
       by_cases h0:e2 = 0
       ·subst h0
        have HE6:=Lib.hid (And.intro HE5.out (And.intro HOn.out (HNx.out rfl)))
        clear HE5 HNx HStop HOn
        go_wp2_with fail
        go_roundw
        case rel=>exact ⟨i + 1,D2,by omega,by omega,by go_num,HE6.out⟩
        case measure=>simp [intOf];omega
       ·have hne:(e2 != 0) = true:=by simpa using h0
        have HFn:=Lib.hid (HFail.out _ D2 e2 (HStop.out h0) h0 HE5.out)
        clear HE5 HNx HStop HOn
        go_wp2_with fail
        exact HFn.out
  ·obtain rfl:i = N:=by omega
   have pi:¬ (i:Int) * 64 < (all.length:Int):=by have:=HN.out;omega
   have HE2:=HE
   have HR1:=Lib.hid (show R = andD (flD D1) fun D2=>andD (wrD D2 (((l.cnt + 1) % 2:Nat):Int) (headB (l.cnt + 1) a all.length)) fun D3=>flD D3 from by
    rw [HS.out,HE.out.2.2,Nat.sub_self]
    exact and_go rfl)
   have hfl:=rflush_any HE.out.1.r HE.out.1.ok
   have hokf:=flD_ok HE.out.1.ok
   have hlf:=flD_len D1
   rw [HE.out.2.1] at hlf
   have HF:=Lib.hid (And.intro hokf hlf)
   have z0:=HE.out.1.l.cel.cell (i:=0) rfl
   clear hokf hlf
   generalize flD D1 = r at hfl HF HR1
   obtain ⟨D2,e2⟩:=r
   have HFl:=Lib.hid hfl
   clear hfl
   go_wp2_with fail
   refine HFl.out.mono ?_
   rintro e w3 ⟨rfl,h1,h2⟩
   have HE3:=Lib.hid (HE.out.1.act ho h1 h2 HF.out.1)
   have HL3:=Lib.hid HF.out.2
   clear h1 h2 HFl HE HE2 HF z0
   simp only at HE3 HL3 ⊢
   by_cases h0:e2 = 0
   rotate_left
   ·have hne:(e2 != 0) = true:=by simpa using h0
    have HFn:=Lib.hid (HFail.out _ D2 e2 (by rw [HR1.out];exact and_stop h0) h0 HE3.out)
    go_wp2_with fail
    exact HFn.out
   subst h0
   have HR2:=Lib.hid (show R = andD (wrD D2 (((l.cnt + 1) % 2:Nat):Int) (headB (l.cnt + 1) a all.length)) fun D3=>flD D3 from by rw [HR1.out];exact and_go rfl)
   clear HR1
   go_upto_region 18 with fail
   obtain ⟨r,hr⟩:∃ r,r = (l.cnt + 1) % 2:=⟨_,rfl⟩
   have HMd:=Lib.hid (show IntKind.i64.wrap ((l.cnt:Int) + 1) = (l.cnt:Int) + 1 ∧ ((l.cnt:Int) + 1).tmod 2 = (r:Int) ∧ ((l.cnt:Int) + 1) % 2 = (r:Int) from
    ⟨i64_wrap (by omega) (by omega),by rw [Int.tmod_eq_emod_of_nonneg (by omega),hr];omega,by rw [hr];omega⟩)
   rw [← hr] at HR2
   have hhd:=fun V=>rhead_any (l.cnt + 1) a all.length V (by omega) ha (by omega)
   rw [show ((l.cnt + 1:Nat):Int) = (l.cnt:Int) + 1 from rfl] at hhd
   have HHd:=Lib.hid hhd
   clear hr hhd
   generalize headB (l.cnt + 1) a all.length = hdB at HHd HR2
   refine wp_region_said 19 [90,91,92,93,94,95,96,97,98,99,100,101,102,103,104,105,106,107,108]
    [.is (.pointer (some ⟨k,0,none⟩)),.is (.pointer (some ⟨k,0,none⟩)),.is (.pointer (some ⟨k,0,none⟩)),.is (.pointer (some ⟨g,0,none⟩)),.is (.pointer (some ⟨k,0,none⟩)),.is (.pointer (some ⟨k,0,none⟩)),.is (.pointer (some ⟨k,1,none⟩)),.is (.int .i64 (l.cnt:Int)),.is (.int .i64 ((l.cnt:Int) + 1)),.is (.int .i64 (r:Int)),.is (.pointer (some ⟨k,0,none⟩)),.is (.pointer (some ⟨k,0,none⟩)),.is (.pointer (some ⟨k,1,none⟩)),.is (.int .i64 (l.cnt:Int)),.is (.int .i64 ((l.cnt:Int) + 1)),.is (.int .i64 (a:Int)),.is (.string SA),.is (.int .i64 (all.length:Int)),.is (.string hdB)]
    (fun W=>SeEnv w W k g ao an co cn so sn A c l D2) (by kernel_rfl) (by kernel_rfl) (by kernel_rfl) (by kernel_rfl) (by kernel_rfl) (fun W W' h hb=>h.step hb) HE3.out ?steps9 ?last9
   case steps9 =>
    simp only [List.take_succ_cons,List.take_zero]
    refine ⟨?_,?_,?_,?_,?_,?_,?_,?_,?_,?_,?_,?_,?_,?_,?_,?_,?_,?_,?_,trivial⟩
    all_goals
     intro vs W ρ hρ hc hf hg hI hH hd R' hR
     have z0:=hI.l.cel.cell (i:=0) rfl
     have z1:=hI.l.cel.cell (i:=1) rfl
     obtain ⟨v1,v2,v3⟩:=HMd.out
     have HR:=Lib.hid hR
     simp [depsOf,Region.binds,sayAt,Say.holds] at hd
     clear hR hI
     go_simp
     first
      | exact HR.out _ _ (by simp [sayAt,Say.holds]) (Below.refl _ _) (by simp [sayAt,Say.isBlk])
         | (refine (HHd.out _).mono ?_;rintro e w' ⟨rfl,hb⟩;exact ⟨_,rfl,HR.out _ _ (by simp [sayAt,Say.holds]) hb (by simp [sayAt,Say.isBlk])⟩)
      | trace_state
   case last9 =>
    intro vs W hI hb hg hd
    have e3:=hg 3 (by omega)
    have e9:=hg 9 (by omega)
    have e18:=hg 18 (by omega)
    simp only [sayAt,Say.holds,List.getD_cons_succ,List.getD_cons_zero] at e3 e9 e18
    simp only [List.take_succ_cons,List.take_zero,List.drop_succ_cons,List.drop_zero,putAll,Act.put,List.setIfInBounds_toArray,List.set_cons_succ,List.set_cons_zero,Nat.zero_add,Nat.reduceAdd]
    rw [e3,e9,e18]
    have hwr:=rwrite_any hI.r hI.ok (r:Int) hdB
    have hokw:=wrD_ok hI.ok (r:Int) hdB
    have HI:=Lib.hid hI
    generalize wrD D2 (r:Int) hdB = rr at hwr hokw HR2
    obtain ⟨D3,e3'⟩:=rr
    have HWr:=Lib.hid hwr
    have HOw:=Lib.hid hokw
    clear e3 e9 e18 hg hd hb hI hwr hokw HE3
    go_wp2_with fail
    refine HWr.out.mono ?_
    rintro e w7 ⟨rfl,h1,h2⟩
    have HE5:=Lib.hid (HI.out.act ho h1 h2 HOw.out)
    clear h1 h2 HWr HOw HI
    simp only at HE5 ⊢
    by_cases h0:e3' = 0
    rotate_left
    ·have hne:(e3' != 0) = true:=by simpa using h0
     have HFn:=Lib.hid (HFail.out _ D3 e3' (by rw [HR2.out];exact and_stop h0) h0 HE5.out)
     go_wp2_with fail
     exact HFn.out
    subst h0
    have HR3:=Lib.hid (show R = flD D3 from by rw [HR2.out];exact and_go rfl)
    clear HR2
    have hfl:=rflush_any HE5.out.r HE5.out.ok
    have hokf:=flD_ok HE5.out.ok
    have z0:=HE5.out.l.cel.cell (i:=0) rfl
    generalize flD D3 = rr at hfl hokf HR3
    obtain ⟨D4,e4⟩:=rr
    have HFl:=Lib.hid hfl
    have HOf:=Lib.hid hokf
    clear hfl hokf
    go_wp2_with fail
    refine HFl.out.mono ?_
    rintro e w8 ⟨rfl,h1,h2⟩
    have HE6:=Lib.hid (HE5.out.act ho h1 h2 HOf.out)
    clear h1 h2 HFl HOf HE5 z0
    simp only at HE6 ⊢
    by_cases h0:e4 = 0
    rotate_left
    ·have hne:(e4 != 0) = true:=by simpa using h0
     have HFn:=Lib.hid (HFail.out _ D4 e4 HR3.out h0 HE6.out)
     go_wp2_with fail
     exact HFn.out
    subst h0
    have HDn:=Lib.hid (HDone.out _ D4 HR3.out HE6.out)
    have z1:=HE6.out.l.cel.cell (i:=1) rfl
    have kq:=fun i=>HE6.out.l.cel.free (i:=i)
    have v1:=HMd.out.1
    rw [← HSA.out] at HDn
    have HC1:=Lib.hid (HE6.out.l.cel.set (i:=1) (v:=.int .i64 ((l.cnt:Int) + 1)))
    clear HR3
    go_upto_region 25 with fail
    generalize w8.setCell ⟨k,1,none⟩ (.int .i64 ((l.cnt:Int) + 1)) = W1 at HDn HC1 ⊢
    clear z1 kq v1
    have z2:=HC1.out.cell (i:=2) rfl
    have kq:=fun i=>HC1.out.free (i:=i)
    have HC2:=Lib.hid (HC1.out.set (i:=2) (v:=.int .i64 (a:Int)))
    go_upto_region 26 with fail
    generalize W1.setCell ⟨k,2,none⟩ (.int .i64 (a:Int)) = W2 at HDn HC2 ⊢
    clear z2 kq
    have z3:=HC2.out.cell (i:=3) rfl
    have kq:=fun i=>HC2.out.free (i:=i)
    clear HC1 HC2
    go_wp2_with fail
    exact HDn.out
end
end Rd
end Go.Proofs.YtmidncclndongaaGreat
