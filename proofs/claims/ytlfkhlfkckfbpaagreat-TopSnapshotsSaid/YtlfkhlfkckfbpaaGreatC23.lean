/- Parts of the proof, joined: LlRow, LlC1, LlC2, LlC3; their conditions stand with each. -/
import Derived.Test.YtlfkhlfkckfbpaaGreatC22

set_option maxRecDepth 20000
set_option maxHeartbeats 8000000
namespace Go.Proofs.YtlfkhlfkckfbpaaGreat
namespace Ll
open Go.RowKit Bk Ls
section
variable {W W':World} {base:Nat} {v:Value} {l:List Le}
def DRow (W:World) (base:Nat) (v:Value) (l:List Le):Prop:=W.ownsRow base 91 3 v l.length (l.flatMap leC)
theorem DRow.blk {W:World} {base:Nat} {v:Value} {l:List Le} (h:DRow W base v l) (hp:0 < l.length) :
  ∃ (p cap:Nat) (rest:List Value),v = .slice (some ⟨p,0,none⟩) l.length cap ∧ base ≤ p ∧ Cel W p 91 (l.flatMap leC ++ rest) ∧ l.length ≤ cap ∧ cap ≤ maxLen ∧ l.length * 3 + rest.length = cap * 3:=by
 obtain ⟨hl,h⟩:=h
 rcases h with ⟨_,h0⟩ | ⟨p,cap,cur,e1,h2,h3,h4,h5,h6,h7⟩
 ·omega
 ·refine ⟨p,cap,cur.toList.drop (l.length * 3),e1,h2,?_,h4,h5,?_⟩
  ·unfold Cel
   rw [← h7,List.take_append_drop]
   exact h3
  ·have e:cur.toList.length = cap * 3:=h6
   rw [List.length_drop,e];omega
theorem DRow.of {W:World} {base p cap:Nat} {l:List Le} {rest:List Value} (hb:base ≤ p) (h:Cel W p 91 (l.flatMap leC ++ rest)) (h1:l.length ≤ cap) (h2:cap ≤ maxLen) (h3:l.length * 3 + rest.length = cap * 3):DRow W base (.slice (some ⟨p,0,none⟩) l.length cap) l :=
 ⟨fl_len l,.inr ⟨p,cap,_,rfl,hb,h,h1,h2,by rw [List.size_toArray,List.length_append,fl_len];exact h3,by rw [List.toList_toArray,← fl_len l,List.take_left]⟩⟩
theorem dcell_of {W:World} {p:Nat} {l:List Le} {rest:List Value} (h:Cel W p 91 (l.flatMap leC ++ rest)) {k:Nat} (hk:k < l.length) {j:Nat} (hj:j < 3) {u:Value} (hu:(leC (g l k))[j]? = some u):W.cell? ⟨p,k * 3 + j,none⟩ = some u :=
 h.cell (by rw [List.getElem?_append_left (by rw [fl_len];omega),fl_at (at_g hk) hj];exact hu)
theorem Tryz.infoLl:(Tryz.prog.info? 91).map (fun i=>(i.zero.map (·.cells.size),i.size,i.bytes)) = some (some 3,3,24):=by kernel_rfl
theorem info_le:∃ i z,Tryz.prog.info? 91 = some i ∧ i.zero = some z ∧ z.cells.size = 3 ∧ i.size = 3 ∧ i.bytes = 24:=by
 have h:=Tryz.infoLl
 cases hi:Tryz.prog.info? 91 with
 | none=>rw [hi] at h;cases h
 | some i =>
  rw [hi] at h
  simp only [Option.map_some,Option.some.injEq,Prod.mk.injEq] at h
  obtain ⟨h1,h2,h3⟩:=h
  cases hz:i.zero with
  | none=>rw [hz] at h1;cases h1
  | some z =>
   rw [hz] at h1
   simp only [Option.map_some,Option.some.injEq] at h1
   exact ⟨i,z,rfl,hz,h1,h2,h3⟩
theorem DRow.mono {base':Nat} (h:DRow W base v l) (hb:base' ≤ base):DRow W base' v l:=by
 refine ⟨h.1,?_⟩
 rcases h.2 with h' | ⟨p,cap,cur,e,h2,h3⟩
 ·exact .inl h'
 ·exact .inr ⟨p,cap,cur,e,by omega,h3⟩
theorem DRow.lt (h:DRow W base v l) {p:Nat} (hp:v.ownBlock = some p):p < W.heap.size ∧ base ≤ p:=by
 rcases h.2 with ⟨e,_⟩ | ⟨q,cap,cur,e,e2,e3,_⟩
 ·rw [e] at hp;cases hp
 ·rw [e] at hp
  obtain rfl:q = p:=Option.some.inj hp
  exact ⟨(Array.getElem?_eq_some_iff.1 e3).1,e2⟩
theorem DRow.same (h:DRow W base v l) (hk:∀ p,v.ownBlock = some p → W'.heap[p]? = W.heap[p]?):DRow W' base v l:=by
 refine ⟨h.1,?_⟩
 rcases h.2 with h' | ⟨p,cap,cur,e,h2,h3,h4⟩
 ·exact .inl h'
 ·exact .inr ⟨p,cap,cur,e,h2,(hk p (by rw [e];rfl)).trans h3,h4⟩
theorem DRow.form (h:DRow W base v l):∃ A c,v = .slice A l.length c:=by
 rcases h.2 with ⟨e,e2⟩ | ⟨p,cap,cur,e,_⟩
 ·exact ⟨none,0,by rw [e,e2]⟩
 ·exact ⟨_,_,e⟩
theorem d_cells {A:Option Addr} {c:Nat} (h:DRow W base (.slice A l.length c) l) {k:Nat} (hk:k < l.length):∃ p,A = some ⟨p,0,none⟩ ∧ W.cell? ⟨p,k * 3,none⟩ = some (.int .i64 (g l k).n) ∧ W.cell? ⟨p,k * 3 + 1,none⟩ = some (.int .i64 (g l k).t) ∧ W.cell? ⟨p,k * 3 + 2,none⟩ = some (.int .i64 (g l k).u):=by
 obtain ⟨p,cap,rest,e,_,hc,_⟩:=h.blk (by omega)
 simp only [Value.slice.injEq] at e
 exact ⟨p,e.1,dcell_of hc hk (j:=0) (by omega) rfl,dcell_of hc hk (j:=1) (by omega) rfl,dcell_of hc hk (j:=2) (by omega) rfl⟩
structure LQ (W:World) (base r:Nat) (v:Value) (D:Tb):Prop where
 cel:Cel W r 79 [.int .i64 D.long,.int .i64 D.many,v]
 row:DRow W base v D.L
 far:v.ownBlock ≠ some r
 rb:base ≤ r
 bs:base ≤ W.heap.size
structure LM (W W':World) (r:Nat) (v v':Value):Prop where
 os:W'.os = W.os
 tape:W'.tape = W.tape
 output:W'.output = W.output
 size:W.heap.size ≤ W'.heap.size
 block:∀ k,k < W.heap.size → k ≠ r → v.ownBlock ≠ some k → W'.heap[k]? = W.heap[k]?
 own:∀ q,v'.ownBlock = some q → v.ownBlock = some q ∨ W.heap.size ≤ q
def LP (W:World) (base r:Nat) (v:Value) (D':Tb) (W':World):Prop:=∃ v',LQ W' base r v' D' ∧ LM W W' r v v'
theorem LM.of {r:Nat} (h:Below W.heap.size W W'):LM W W' r v v:=⟨h.os,h.tape,h.output,h.size,fun k hk _ _=>h.block k hk,fun _ h=>.inl h⟩
theorem LQ.below {r:Nat} {D:Tb} (h:LQ W base r v D) (hb:Below W.heap.size W W'):LQ W' base r v D:=⟨h.cel.below hb,st_keep h.row hb,h.far,h.rb,Nat.le_trans h.bs hb.size⟩
end
end Ll
end Go.Proofs.YtlfkhlfkckfbpaaGreat
namespace Go.Proofs.YtlfkhlfkckfbpaaGreat
namespace Ll
open Go.RowKit Bk Ls
attribute [local go_sem ↓] Go.wp_at_zero Go.wp_at_succ
attribute [local go_sem] floatUpon pick
section
variable {W W':World} {base:Nat} {v:Value} {l:List Le}
theorem ltick_any (n:Int) (w:World) :
  Calls Tryz.prog 30 #[.int .i64 n] w fun e w'=>e = .returned (.bool (decide (okT n))) ∧ w' = w:=by
 have E:=Lib.hid (show decide (okT n) = (decide (0 ≤ n) && decide (n ≤ 1099511627776)) by unfold okT;by_cases h1:0 ≤ n <;> by_cases h2:n ≤ 1099511627776 <;> simp [h1,h2])
 by_cases h1:0 ≤ n
 ·rw [show decide (0 ≤ n) = true by simpa using h1,Bool.true_and] at E
  go_enter Tryz.func30,Tryz.ntmps30
  go_wp2_with fail
  go_ret
  exact ⟨by rw [E.out];rfl,rfl⟩
 ·rw [show decide (0 ≤ n) = false by simpa using h1,Bool.false_and] at E
  have h2:n < 0:=by omega
  clear h1
  go_enter Tryz.func30,Tryz.ntmps30
  go_wp2_with fail
  go_ret
  exact ⟨by rw [E.out];rfl,rfl⟩
theorem lstamp_any (n:Int) (w:World) :
  Calls Tryz.prog 31 #[.int .i64 n] w fun e w'=>e = .returned (.bool (decide (okS n))) ∧ w' = w:=by
 have E:=Lib.hid (show decide (okS n) = (decide (0 ≤ n) && decide (n ≤ 1125899906842624)) by unfold okS;by_cases h1:0 ≤ n <;> by_cases h2:n ≤ 1125899906842624 <;> simp [h1,h2])
 by_cases h1:0 ≤ n
 ·rw [show decide (0 ≤ n) = true by simpa using h1,Bool.true_and] at E
  go_enter Tryz.func31,Tryz.ntmps31
  go_wp2_with fail
  go_ret
  exact ⟨by rw [E.out];rfl,rfl⟩
 ·rw [show decide (0 ≤ n) = false by simpa using h1,Bool.false_and] at E
  have h2:n < 0:=by omega
  clear h1
  go_enter Tryz.func31,Tryz.ntmps31
  go_wp2_with fail
  go_ret
  exact ⟨by rw [E.out];rfl,rfl⟩
def LNewP (W:World) (long:Int) (e:Ending) (W':World):Prop :=
 if 0 ≤ long ∧ long ≤ 1048576 then ∃ r,e = .returned (.tuple #[.pointer (some ⟨r,0,none⟩),.int .i64 0]) ∧ LQ W' W.heap.size r (.slice none 0 0) ⟨long,0,[]⟩ ∧ Below W.heap.size W W'
 else e = .returned (.tuple #[.pointer none,.int .i64 1]) ∧ Below W.heap.size W W'
theorem lnew_any (long:Int) (W:World):Calls Tryz.prog 7 #[.int .i64 long] W fun e W'=>LNewP W long e W':=by
 have ha:=(Below.refl W.heap.size W).alloc (Nat.le_refl _) (.cells #[.int .i64 long,.int .i64 0,.slice none 0 0] 79)
 have hb:=(blk1 W (.cells #[.int .i64 long,.int .i64 0,.slice none 0 0] 79)).2
 by_cases h:0 ≤ long ∧ long ≤ 1048576
 ·obtain ⟨h1,h2⟩:=h
  have H:Hid (LNewP W long (.returned (.tuple #[.pointer (some ⟨W.heap.size,0,none⟩),.int .i64 0])) (W.alloc (.cells #[.int .i64 long,.int .i64 0,.slice none 0 0] 79))):=Lib.hid (by
   unfold LNewP
   rw [if_pos ⟨h1,h2⟩]
   exact ⟨_,rfl,⟨hb,⟨rfl,.inl ⟨rfl,rfl⟩⟩,by simp [Value.ownBlock],Nat.le_refl _,ha.size⟩,ha⟩)
  clear ha hb
  go_enter Tryz.func7,Tryz.ntmps7
  go_wp2_with fail
  go_ret2
  exact H.out
 ·have H:Hid (∀ W',Below W.heap.size W W' → LNewP W long (.returned (.tuple #[.pointer none,.int .i64 1])) W'):=Lib.hid (fun W' hb=>by
   unfold LNewP
   rw [if_neg h]
   exact ⟨rfl,hb⟩)
  clear ha hb
  by_cases h1:long < 0
  ·clear h
   go_enter Tryz.func7,Tryz.ntmps7
   go_wp2_with fail
   go_ret2
   exact H.out _ (Below.refl _ _)
  ·have h2:1048576 < long:=by omega
   have h3:0 ≤ long:=by omega
   clear h h1
   go_enter Tryz.func7,Tryz.ntmps7
   go_wp2_with fail
   go_ret2
   exact H.out _ (Below.refl _ _)
def overF (p:Nat):Value:=.func (.func 56) #[] #[.pointer (some ⟨p,0,none⟩)]
theorem over_any (now:Int) (W:World):Calls Tryz.prog 32 #[.int .i64 now] W fun e W'=>e = .returned (overF W.heap.size) ∧ Cel W' W.heap.size 3 [.int .i64 now] ∧ Below W.heap.size W W':=by
 have H:=Lib.hid (And.intro (show Cel (w:=W.alloc (.cells #[.int .i64 now] 3)) W.heap.size 3 [.int .i64 now] from (blk1 W _).2) ((Below.refl W.heap.size W).alloc (Nat.le_refl _) (.cells #[.int .i64 now] 3)))
 go_enter Tryz.func32,Tryz.ntmps32
 go_wp2_with fail
 go_ret
 exact ⟨rfl,H.out⟩
theorem over_in {p:Nat} {now:Int} (h:Cel W p 3 [.int .i64 now]) (x:Le):Calls Tryz.prog 56 #[.agg #[.int .i64 x.n,.int .i64 x.t,.int .i64 x.u],.pointer (some ⟨p,0,none⟩)] W fun e W'=>e = .returned (.bool (decide (x.u < now))) ∧ Below W.heap.size W W':=by
 have hb:=(Below.refl W.heap.size W).alloc (Nat.le_refl _) (.cells #[.int .i64 x.n,.int .i64 x.t,.int .i64 x.u] 91)
 have hc:Cel (W.alloc (.cells #[.int .i64 x.n,.int .i64 x.t,.int .i64 x.u] 91)) W.heap.size 91 [.int .i64 x.n,.int .i64 x.t,.int .i64 x.u]:=(blk1 W _).2
 have k0:=(h.below hb).cell (i:=0) rfl
 have k1:=hc.cell (i:=2) rfl
 have HB:=Lib.hid hb
 clear hb hc h
 go_enter Tryz.func56,Tryz.ntmps56
 go_wp2_with fail
 go_ret
 exact ⟨rfl,HB.out⟩
def cmpV (a b:Int):Int:=if a < b then -1 else if b < a then 1 else 0
theorem nan_any (a:Int) (W:World):Calls Tryz.prog 150 #[.int .i64 a] W fun e W'=>e = .returned (.bool false) ∧ W' = W:=by
 go_enter Tryz.func150,Tryz.ntmps150
 go_wp2_with fail
 go_ret
 exact ⟨by simp,rfl⟩
theorem cmp_any (a b:Int) (W:World):Calls Tryz.prog 97 #[.int .i64 a,.int .i64 b] W fun e W'=>e = .returned (.int .i64 (cmpV a b)) ∧ W' = W:=by
 have HN:=Lib.hid (fun x=>nan_any x W)
 obtain ⟨z,hz⟩:∃ z,cmpV a b = z:=⟨_,rfl⟩
 rw [hz]
 unfold cmpV at hz
 by_cases h1:a < b
 ·rw [if_pos h1] at hz
  subst hz
  go_enter Tryz.func97,Tryz.ntmps97
  go_wp2_with fail
  refine (HN.out _).mono ?_
  rintro e w ⟨rfl,rfl⟩
  go_wp2_with fail
  refine (HN.out _).mono ?_
  rintro e w ⟨rfl,rfl⟩
  go_wp2_with fail
  go_ret
  exact ⟨rfl,rfl⟩
 ·rw [if_neg h1] at hz
  have h1':b ≤ a:=by omega
  by_cases h2:b < a
  ·rw [if_pos h2] at hz
   subst hz
   clear h1
   go_enter Tryz.func97,Tryz.ntmps97
   go_wp2_with fail
   refine (HN.out _).mono ?_
   rintro e w ⟨rfl,rfl⟩
   go_wp2_with fail
   refine (HN.out _).mono ?_
   rintro e w ⟨rfl,rfl⟩
   go_wp2_with fail
   go_ret
   exact ⟨rfl,rfl⟩
  ·rw [if_neg h2] at hz
   subst hz
   have h2':a ≤ b:=by omega
   clear h1 h2
   go_enter Tryz.func97,Tryz.ntmps97
   go_wp2_with fail
   refine (HN.out _).mono ?_
   rintro e w ⟨rfl,rfl⟩
   go_wp2_with fail
   refine (HN.out _).mono ?_
   rintro e w ⟨rfl,rfl⟩
   go_wp2_with fail
   go_ret
   exact ⟨rfl,rfl⟩
theorem cmp_in (x:Le) (n:Int) (W:World):Calls Tryz.prog 96 #[.agg #[.int .i64 x.n,.int .i64 x.t,.int .i64 x.u],.int .i64 n] W fun e W'=>e = .returned (.int .i64 (cmpV x.n n)) ∧ Below W.heap.size W W':=by
 have hb:=(Below.refl W.heap.size W).alloc (Nat.le_refl _) (.cells #[.int .i64 x.n,.int .i64 x.t,.int .i64 x.u] 91)
 have hc:Cel (W.alloc (.cells #[.int .i64 x.n,.int .i64 x.t,.int .i64 x.u] 91)) W.heap.size 91 [.int .i64 x.n,.int .i64 x.t,.int .i64 x.u]:=(blk1 W _).2
 have k1:=hc.cell (i:=0) rfl
 have HB:=Lib.hid hb
 have HC:=Lib.hid (fun V=>cmp_any x.n n V)
 clear hb hc
 go_enter Tryz.func96,Tryz.ntmps96
 go_wp2_with fail
 refine (HC.out _).mono ?_
 rintro e w ⟨rfl,e2⟩
 subst e2
 go_wp2_with fail
 go_ret
 exact ⟨rfl,HB.out⟩
end
section
variable {W W':World} {base:Nat} {v:Value} {l:List Le}
theorem cmp_lt (a b:Int):(cmpV a b < 0 ↔ a < b) ∧ (cmpV a b = 0 ↔ a = b):=by
 unfold cmpV
 split
 ·omega
 ·split <;> omega
def SrP (L:List Le) (n:Int) (W:World) (e:Ending) (W':World):Prop:=∃ i:Nat,i ≤ L.length ∧ e = .returned (.tuple #[.int .i64 (i:Int),.bool (decide (nu L n < L.length))]) ∧ (nu L n < L.length → nu L n = i) ∧ Below W.heap.size W W'
theorem search_any {L:List Le} {A:Option Addr} {c:Nat} (h:DRow W base (.slice A L.length c) L) (hr:(L.map Le.n).Pairwise (· < ·)) (h10:L.length ≤ 1024) (n:Int) :
  Calls Tryz.prog 95 #[.slice A L.length c,.int .i64 n,.func (.func 96) #[] #[]] W fun e W'=>SrP L n W e W':=by
 have HR:=Lib.hid hr
 have HRow:=Lib.hid h
 have hlen:(L.length:Int) ≤ 1024:=by omega
 clear h hr
 go_enter Tryz.func95,Tryz.ntmps95
 go_wp2_with fail
 go_loopw [9,10] (fun iv jv wr=>∃ i j:Nat,iv = .int .i64 (i:Int) ∧ jv = .int .i64 (j:Int) ∧ Hid (Mid L n i j) ∧ Hid (Below W.heap.size W wr)) (fun iv jv _=>(intOf jv).toNat - (intOf iv).toNat)
 case atStart=>exact ⟨0,L.length,rfl,rfl,Lib.hid (Mid.start L n),Lib.hid (Below.refl _ _)⟩
 case round =>
  obtain ⟨i,j,rfl,rfl,hm,hb⟩:=hrel
  have hij:=hm.out.le
  have hjl:=hm.out.ln
  have pj:(j:Int) ≤ 1024:=by omega
  by_cases hlt:i < j
  ·have pij:(i:Int) < (j:Int):=by omega
   obtain ⟨m,hmm⟩:∃ m:Nat,(i + j) / 2 = m:=⟨_,rfl⟩
   have him:i ≤ m:=by omega
   have hmj:m < j:=by omega
   have hml:m < L.length:=by omega
   obtain ⟨p,rfl,x0,x1,x2⟩:=d_cells (st_keep HRow.out hb.out) hml
   have HC:=Lib.hid (fun V=>cmp_in (g L m) n V)
   have hc:=(cmp_lt (g L m).n n).1
   have HM:Hid (((g L m).n < n → Mid L n (m + 1) j) ∧ (¬ (g L m).n < n → Mid L n i m)):=Lib.hid ⟨hm.out.left HR.out hmj,hm.out.right HR.out him hmj⟩
   generalize g L m = x at x0 x1 x2 HC hc HM
   go_upto_region 5 with fail
   rw [show ((i:Int) + (j:Int)) / 2 = (m:Int) by omega]
   have pm:(m:Int) < (L.length:Int):=by omega
   by_cases ht:x.n < n
   ·have hz:cmpV x.n n < 0:=hc.2 ht
    have HM2:=Lib.hid (HM.out.1 ht)
    generalize cmpV x.n n = z at HC hz
    have HB:=hb
    have pm2:(m:Int) ≤ 1024:=by omega
    have HMi:=Lib.hid him
    have HLt:=Lib.hid hlt
    clear hm hb HM hc ht hmm him hmj hij hjl pij hlt hml
    go_wp2_with fail
    refine (HC.out _).mono ?_
    rintro e2 w2 ⟨rfl,hb2⟩
    have HB2:=Lib.hid (HB.out.trans (hb2.mono HB.out.size))
    clear HC hb2
    go_wp2_with fail
    go_roundw
    case rel=>exact ⟨m + 1,j,by go_num,rfl,HM2,HB2⟩
    case measure=>simp [intOf];have:=HMi.out;have:=HLt.out;omega
   ·have hz:0 ≤ cmpV x.n n:=by
     have:¬ cmpV x.n n < 0:=fun q=>ht (hc.1 q)
     omega
    have HM2:=Lib.hid (HM.out.2 ht)
    generalize cmpV x.n n = z at HC hz
    have HB:=hb
    have HMj:=Lib.hid hmj
    clear hm hb HM hc ht hmm him hmj hij hjl pij hlt hml
    go_wp2_with fail
    refine (HC.out _).mono ?_
    rintro e2 w2 ⟨rfl,hb2⟩
    have HB2:=Lib.hid (HB.out.trans (hb2.mono HB.out.size))
    clear HC hb2
    go_wp2_with fail
    go_roundw
    case rel=>exact ⟨i,m,rfl,rfl,HM2,HB2⟩
    case measure=>simp [intOf];have:=HMj.out;have:=HM2.out.le;omega
  ·obtain rfl:i = j:=by omega
   obtain ⟨hd1,hd2⟩:=hm.out.done HR.out
   by_cases hil:i < L.length
   ·obtain ⟨p,rfl,x0,x1,x2⟩:=d_cells (st_keep HRow.out hb.out) hil
    have HC:=Lib.hid (fun V=>cmp_in (g L i) n V)
    have hc:=(cmp_lt (g L i).n n).2
    have HF:Hid (∀ V,Below W.heap.size W V → SrP L n W (.returned (.tuple #[.int .i64 (i:Int),.bool (decide (cmpV (g L i).n n = 0))])) V):=Lib.hid (fun V hV=>⟨i,by omega,by
     congr 5
     exact congrArg Value.bool <| decide_eq_decide.2 (hc.trans ⟨fun q=>hd1.2 ⟨hil,q⟩,fun q=>(hd1.1 q).2⟩),hd2,hV⟩)
    have pm:(i:Int) < (L.length:Int):=by omega
    generalize g L i = x at x0 x1 x2 HC HF
    generalize cmpV x.n n = z at HC HF
    have HB:=hb
    clear hm hb hd1 hd2 hc hil hij hjl hlt
    go_wp2_with fail
    refine (HC.out _).mono ?_
    rintro e2 w2 ⟨rfl,hb2⟩
    have HB2:=Lib.hid (HB.out.trans (hb2.mono HB.out.size))
    clear HC hb2
    go_wp2_with fail
    go_ret2
    exact HF.out _ HB2.out
   ·have HF:Hid (SrP L n W (.returned (.tuple #[.int .i64 (i:Int),.bool false])) wr):=Lib.hid ⟨i,by omega,by
     congr 5
     exact congrArg Value.bool (decide_eq_false (fun q=>hil (hd1.1 q).1)).symm,hd2,hb.out⟩
    have pm:(L.length:Int) ≤ (i:Int):=by omega
    clear hm hb hd1 hd2 hil hij hjl hlt
    go_wp2_with fail
    go_ret2
    exact HF.out
theorem place_any {r:Nat} {D:Tb} (h:LQ W base r v D) (ho:Ok D) (n:Int):Calls Tryz.prog 64 #[.pointer (some ⟨r,0,none⟩),.int .i64 n] W fun e W'=>SrP D.L n W e W':=by
 obtain ⟨A,c,rfl⟩:=h.row.form
 have k0:=h.cel.cell (i:=2) rfl
 have HS:=Lib.hid (search_any h.row ho.rise ho.len n)
 clear h ho
 go_enter Tryz.func64,Tryz.ntmps64
 go_wp2_with fail
 refine HS.out.mono ?_
 rintro e w2 ⟨i,h1,rfl,h2,h3⟩
 have HF:=Lib.hid (show SrP D.L n W (.returned (.tuple #[.int .i64 (i:Int),.bool (decide (nu D.L n < D.L.length))])) w2 from ⟨i,h1,rfl,h2,h3⟩)
 generalize decide (nu D.L n < D.L.length) = b at HF
 clear h1 h2 h3 HS
 go_wp2_with fail
 go_ret2
 exact HF.out
def PaP (D:Tb) (now n:Int) (W:World) (e:Ending) (W':World):Prop:=(∃ i:Int,e = .returned (.tuple #[.int .i64 i,.int .i64 (checkB D now n).2]) ∧ ((checkB D now n).2 = 0 → i = (nu D.L n:Int) ∧ nu D.L n < D.L.length)) ∧ Below W.heap.size W W'
theorem placeAt_any {r:Nat} {D:Tb} (h:LQ W base r v D) (ho:Ok D) (now n:Int):Calls Tryz.prog 41 #[.pointer (some ⟨r,0,none⟩),.int .i64 now,.int .i64 n] W fun e W'=>PaP D now n W e W':=by
 have HQ:=Lib.hid h
 have HT:=Lib.hid (ltick_any now W)
 have HP:=Lib.hid (place_any h ho n)
 have HL:=Lib.hid ho.len
 clear h ho
 by_cases h1:okT now
 ·rw [decide_eq_true h1] at HT
  by_cases h2:nu D.L n < D.L.length
  ·have hc:checkB D now n = if (g D.L (nu D.L n)).u < now then (0,170) else ((g D.L (nu D.L n)).t,0):=by
    unfold checkB;rw [if_neg (fun q=>q h1),if_neg (by omega)]
   clear h1
   go_enter Tryz.func41,Tryz.ntmps41
   go_wp2_with fail
   refine HT.out.mono ?_
   rintro e w2 ⟨rfl,e2⟩
   subst e2
   go_wp2_with fail
   refine HP.out.mono ?_
   rintro e w3 ⟨i,h3,rfl,h4,h5⟩
   obtain rfl:=h4 h2
   rw [decide_eq_true h2]
   have HB:=Lib.hid h5
   have HO:=Lib.hid (fun V=>over_any now V)
   have HQ3:=Lib.hid (HQ.out.below h5)
   have HD:=Lib.hid h2
   clear h3 h4 h5 HT HP
   go_wp2_with fail
   refine (HO.out _).mono ?_
   rintro e w4 ⟨rfl,hc4,hb4⟩
   have HB4:=Lib.hid (HB.out.trans (hb4.mono HB.out.size))
   have hq4:=HQ3.out.below hb4
   have HI:=Lib.hid (over_in hc4 (g D.L (nu D.L n)))
   obtain ⟨A,c,rfl⟩:=hq4.row.form
   obtain ⟨p,rfl,x0,x1,x2⟩:=d_cells hq4.row h2
   have k0:=hq4.cel.cell (i:=2) rfl
   generalize w3.heap.size = p3 at HI
   unfold overF
   have HF:Hid (∀ V,Below w4.heap.size w4 V → (((g D.L (nu D.L n)).u < now → PaP D now n w2 (.returned (.tuple #[.int .i64 0,.int .i64 170])) V) ∧ (¬ (g D.L (nu D.L n)).u < now → PaP D now n w2 (.returned (.tuple #[.int .i64 (nu D.L n:Int),.int .i64 0])) V))):=Lib.hid (fun V hV=>⟨fun q=>by
     rw [if_pos q] at hc
     exact ⟨⟨0,by rw [hc],fun e=>by rw [hc] at e;cases e⟩,HB4.out.trans (hV.mono HB4.out.size)⟩,fun q=>by
     rw [if_neg q] at hc
     exact ⟨⟨_,by rw [hc],fun _=>⟨rfl,HD.out⟩⟩,HB4.out.trans (hV.mono HB4.out.size)⟩⟩)
   have pm:((nu D.L n:Nat):Int) < (D.L.length:Int):=by omega
   generalize g D.L (nu D.L n) = x at x0 x1 x2 HI HF
   generalize nu D.L n = j at x0 x1 x2 HF pm
   clear hc hq4 hc4 hb4 h2 HO HD
   by_cases ht:x.u < now
   ·rw [decide_eq_true ht] at HI
    have HF2:=Lib.hid (fun V hV=>(HF.out V hV).1 ht)
    clear ht HF
    go_wp2_with fail
    refine HI.out.mono ?_
    rintro e w5 ⟨rfl,hb5⟩
    have HF3:=Lib.hid (HF2.out _ hb5)
    clear hb5 HI HF2
    go_wp2_with fail
    go_ret2
    exact HF3.out
   ·rw [decide_eq_false ht] at HI
    have HF2:=Lib.hid (fun V hV=>(HF.out V hV).2 ht)
    clear ht HF
    go_wp2_with fail
    refine HI.out.mono ?_
    rintro e w5 ⟨rfl,hb5⟩
    have HF3:=Lib.hid (HF2.out _ hb5)
    clear hb5 HI HF2
    go_wp2_with fail
    go_ret2
    exact HF3.out
  ·have hc:checkB D now n = (0,5):=by
    unfold checkB;rw [if_neg (fun q=>q h1),if_pos (by omega)]
   have HF:Hid (∀ V,Below W.heap.size W V → PaP D now n W (.returned (.tuple #[.int .i64 0,.int .i64 5])) V):=Lib.hid (fun V hV=>⟨⟨0,by rw [hc],fun e=>by rw [hc] at e;cases e⟩,hV⟩)
   clear h1 hc
   go_enter Tryz.func41,Tryz.ntmps41
   go_wp2_with fail
   refine HT.out.mono ?_
   rintro e w2 ⟨rfl,e2⟩
   subst e2
   go_wp2_with fail
   refine HP.out.mono ?_
   rintro e w3 ⟨i,h3,rfl,h4,h5⟩
   rw [decide_eq_false h2]
   have HF3:=Lib.hid (HF.out _ h5)
   clear h3 h4 h5 HT HP HF h2
   go_wp2_with fail
   go_ret2
   exact HF3.out
 ·rw [decide_eq_false h1] at HT
  have hc:checkB D now n = (0,1):=by unfold checkB;rw [if_pos h1]
  have HF:Hid (PaP D now n W (.returned (.tuple #[.int .i64 0,.int .i64 1])) W):=Lib.hid ⟨⟨0,by rw [hc],fun e=>by rw [hc] at e;cases e⟩,Below.refl _ _⟩
  clear h1 hc
  go_enter Tryz.func41,Tryz.ntmps41
  go_wp2_with fail
  refine HT.out.mono ?_
  rintro e w2 ⟨rfl,e2⟩
  subst e2
  go_wp2_with fail
  go_ret2
  exact HF.out
theorem lcheck_any {r:Nat} {D:Tb} (h:LQ W base r v D) (ho:Ok D) (now n:Int):Calls Tryz.prog 17 #[.pointer (some ⟨r,0,none⟩),.int .i64 now,.int .i64 n] W fun e W'=>e = .returned (.tuple #[.int .i64 (checkB D now n).1,.int .i64 (checkB D now n).2]) ∧ Below W.heap.size W W':=by
 have HQ:=Lib.hid h
 have HP:=Lib.hid (placeAt_any h ho now n)
 have HL:=Lib.hid ho.len
 by_cases hz:(checkB D now n).2 = 0
 ·have hcs:nu D.L n < D.L.length → (checkB D now n).1 = (g D.L (nu D.L n)).t:=fun hl=>by
   unfold checkB at hz ⊢
   by_cases h1:okT now
   ·rw [if_neg (fun q=>q h1),if_neg (by omega)] at hz ⊢
    by_cases h3:(g D.L (nu D.L n)).u < now
    ·rw [if_pos h3] at hz;cases hz
    ·rw [if_neg h3]
   ·rw [if_pos h1] at hz;cases hz
  clear h ho
  go_enter Tryz.func17,Tryz.ntmps17
  go_wp2_with fail
  refine HP.out.mono ?_
  rintro e w2 ⟨⟨i,rfl,hi⟩,hb⟩
  obtain ⟨rfl,hl⟩:=hi hz
  have hcs2:=hcs hl
  have hq:=HQ.out.below hb
  obtain ⟨A,c,rfl⟩:=hq.row.form
  obtain ⟨p,rfl,x0,x1,x2⟩:=d_cells hq.row hl
  have k0:=hq.cel.cell (i:=2) rfl
  have HB:=Lib.hid hb
  have pm:((nu D.L n:Nat):Int) < (D.L.length:Int):=by omega
  have HZ:=Lib.hid (And.intro hcs2 hz)
  rw [hz]
  clear hz hcs hi hl hq hb HP hcs2
  generalize g D.L (nu D.L n) = x at x0 x1 x2 HZ
  generalize nu D.L n = j at x0 x1 x2 pm
  go_wp2_with fail
  go_ret2
  exact ⟨by rw [HZ.out.1,HZ.out.2];rfl,HB.out⟩
 ·have hc1:(checkB D now n).1 = 0:=by
   unfold checkB at hz ⊢
   by_cases h1:okT now
   ·rw [if_neg (fun q=>q h1)] at hz ⊢
    by_cases h2:D.L.length ≤ nu D.L n
    ·rw [if_pos h2]
    ·rw [if_neg h2] at hz ⊢
     by_cases h3:(g D.L (nu D.L n)).u < now
     ·rw [if_pos h3]
     ·rw [if_neg h3] at hz;exact absurd rfl hz
   ·rw [if_pos h1]
  have q0:((checkB D now n).2 == 0) = false:=by rw [beq_eq_false_iff_ne];exact hz
  have HZ:=Lib.hid hc1
  clear h ho
  go_enter Tryz.func17,Tryz.ntmps17
  go_wp2_with fail
  refine HP.out.mono ?_
  rintro e w2 ⟨⟨i,rfl,hi⟩,hb⟩
  have HB:=Lib.hid hb
  obtain ⟨z2,hz2⟩:∃ z2,(checkB D now n).2 = z2:=⟨_,rfl⟩
  have HZ2:=Lib.hid hz2
  rw [hz2] at q0 ⊢
  clear hz hi hb HP hc1 hz2
  go_wp2_with fail
  go_ret2
  exact ⟨by rw [HZ.out,HZ2.out];rfl,HB.out⟩
end
section
variable {W W':World} {base:Nat} {v:Value} {l:List Le}
theorem llow_any {r:Nat} {D:Tb} (h:LQ W base r v D) (ho:Ok D) (now last:Int):Calls Tryz.prog 14 #[.pointer (some ⟨r,0,none⟩),.int .i64 now,.int .i64 last] W fun e W'=>e = .returned (.tuple #[.int .i64 (lowB D now last).1,.int .i64 (lowB D now last).2]) ∧ Below W.heap.size W W':=by
 have HT:=Lib.hid (ltick_any now W)
 have HS:=Lib.hid (lstamp_any last W)
 have HQ:=Lib.hid h
 have hlen:(D.L.length:Int) ≤ 1024:=by have:=ho.len;omega
 clear h ho
 by_cases h1:okT now
 ·rw [decide_eq_true h1] at HT
  by_cases h2:okS last
  ·rw [decide_eq_true h2] at HS
   have hc:lowB D now last = (minT (lv D.L now) last,0):=if_neg (fun q=>q ⟨h1,h2⟩)
   have HC:=Lib.hid hc
   have HO:=Lib.hid (over_any now W)
   clear hc h1 h2
   go_enter Tryz.func14,Tryz.ntmps14
   go_wp2_with fail
   refine HT.out.mono ?_
   rintro e w2 ⟨rfl,e2⟩
   subst e2
   go_wp2_with fail
   refine HS.out.mono ?_
   rintro e w2 ⟨rfl,e2⟩
   subst e2
   go_wp2_with fail
   refine HO.out.mono ?_
   rintro e w3 ⟨rfl,hc3,hb3⟩
   have hq3:=HQ.out.below hb3
   have HB3:=Lib.hid hb3
   have HC3:=Lib.hid hc3
   obtain ⟨A,c,rfl⟩:=hq3.row.form
   have HR3:=Lib.hid hq3.row
   have k0:=hq3.cel.cell (i:=2) rfl
   generalize w2.heap.size = pc at HC3 hc3
   unfold overF
   clear hq3 hc3 hb3 HT HS HO HQ
   go_wp2_with fail
   go_loopw [9,28] (fun m i wr=>∃ j:Nat,j ≤ D.L.length ∧ m = .int .i64 (minT (lv (D.L.take j) now) last) ∧ i = .int .i64 (j:Int) ∧ Hid (Below w3.heap.size w3 wr)) (fun _ i _=>D.L.length - (intOf i).toNat)
   case atStart=>exact ⟨0,by omega,rfl,rfl,Lib.hid (Below.refl _ _)⟩
   case round =>
    obtain ⟨j,hj,rfl,rfl,hb⟩:=hrel
    by_cases hlt:j < D.L.length
    ·obtain ⟨p,rfl,x0,x1,x2⟩:=d_cells (st_keep HR3.out hb.out) hlt
     have p1:(j:Int) < (D.L.length:Int):=by omega
     have hs:=lv_snoc hlt now
     generalize g D.L j = x at hs x0 x1 x2
     generalize hm0:minT (lv (D.L.take j) now) last = m0
     have hB0:Below wr.heap.size wr (wr.alloc (.cells #[.int .i64 x.n,.int .i64 x.t,.int .i64 x.u] 91)):=(Below.refl _ wr).alloc (Nat.le_refl _) _
     have hR0:Cel (wr.alloc (.cells #[.int .i64 x.n,.int .i64 x.t,.int .i64 x.u] 91)) wr.heap.size 91 [.int .i64 x.n,.int .i64 x.t,.int .i64 x.u]:=(blk1 wr _).2
     have HI:Hid (∀ V,Below w3.heap.size w3 V → Calls Tryz.prog 56 #[.agg #[.int .i64 x.n,.int .i64 x.t,.int .i64 x.u],.pointer (some ⟨pc,0,none⟩)] V fun e W'=>e = .returned (.bool (decide (x.u < now))) ∧ Below V.heap.size V W'):=Lib.hid (fun V hV=>over_in (HC3.out.below hV) x)
     have HB:=Lib.hid (hb.out.trans (hB0.mono hb.out.size))
     go_upto_region 8 with fail
     have q0:=hR0.cell (i:=0) rfl
     have q1:=hR0.cell (i:=1) rfl
     have q2:=hR0.cell (i:=2) rfl
     have HR0:=Lib.hid hR0
     generalize hG:wr.heap.size = G at *
     generalize wr.alloc (.cells #[.int .i64 x.n,.int .i64 x.t,.int .i64 x.u] 91) = W1 at *
     clear hR0 hB0 x0 x1 x2 hb hG
     by_cases hu:x.u < now
     ·have ht:minT (lv (D.L.take (j + 1)) now) last = m0:=by rw [hs,if_neg (by omega),hm0]
      have HTt:=Lib.hid ht
      rw [decide_eq_true hu] at HI
      clear ht hs hm0 hu
      go_wp2_with fail
      refine (HI.out _ HB.out).mono ?_
      rintro e w5 ⟨rfl,hb5⟩
      have HB5:=Lib.hid (HB.out.trans (hb5.mono HB.out.size))
      clear hb5 HI q0 q1 q2
      go_wp2_with fail
      go_roundw
      case rel=>exact ⟨j + 1,by omega,by rw [HTt.out],by go_num,HB5⟩
      case measure=>simp [intOf];omega
     ·have ht:minT (lv (D.L.take (j + 1)) now) last = min m0 x.t:=by rw [hs,if_pos (by omega),minT_snoc,hm0]
      have HTt:=Lib.hid ht
      rw [decide_eq_false hu] at HI
      clear ht hs hm0 hu
      go_wp2_with fail
      refine (HI.out _ HB.out).mono ?_
      rintro e w5 ⟨rfl,hb5⟩
      have HB5:=Lib.hid (HB.out.trans (hb5.mono HB.out.size))
      have q1:=(HR0.out.below hb5).cell (i:=1) rfl
      clear hb5 HI q0 q2
      go_wp2_with fail
      all_goals
       go_roundw
       case rel=>exact ⟨j + 1,by omega,by rw [HTt.out,Int.min_def];first | done | (congr 1;split <;> split <;> omega),by go_num,HB5⟩
       case measure=>simp [intOf];omega
    ·obtain rfl:j = D.L.length:=by omega
     rw [List.take_length]
     have HB:=hb
     clear hb
     go_wp2_with fail
     go_ret2
     exact ⟨by rw [HC.out];rfl,HB3.out.trans (HB.out.mono HB3.out.size)⟩
  ·rw [decide_eq_false h2] at HS
   have hc:lowB D now last = (0,1):=if_pos (fun q=>h2 q.2)
   have HC:=Lib.hid hc
   clear hc h1 h2
   go_enter Tryz.func14,Tryz.ntmps14
   go_wp2_with fail
   refine HT.out.mono ?_
   rintro e w2 ⟨rfl,e2⟩
   subst e2
   go_wp2_with fail
   refine HS.out.mono ?_
   rintro e w2 ⟨rfl,e2⟩
   subst e2
   go_wp2_with fail
   go_ret2
   exact ⟨by rw [HC.out];rfl,Below.refl _ _⟩
 ·rw [decide_eq_false h1] at HT
  have hc:lowB D now last = (0,1):=if_pos (fun q=>h1 q.1)
  have HC:=Lib.hid hc
  clear hc h1
  go_enter Tryz.func14,Tryz.ntmps14
  go_wp2_with fail
  refine HT.out.mono ?_
  rintro e w2 ⟨rfl,e2⟩
  subst e2
  go_wp2_with fail
  go_ret2
  exact ⟨by rw [HC.out];rfl,Below.refl _ _⟩
theorem running_any {r pc:Nat} {D:Tb} (h:LQ W base r v D) (ho:Ok D) {now:Int} (hc:Cel W pc 3 [.int .i64 now]):Calls Tryz.prog 33 #[.pointer (some ⟨r,0,none⟩),overF pc] W fun e W'=>e = .returned (.int .i64 ((lv D.L now).length:Int)) ∧ Below W.heap.size W W':=by
 have hlen:(D.L.length:Int) ≤ 1024:=by have:=ho.len;omega
 have HC3:=Lib.hid hc
 obtain ⟨A,c,rfl⟩:=h.row.form
 have HR3:=Lib.hid h.row
 have k0:=h.cel.cell (i:=2) rfl
 clear h ho hc
 unfold overF
 go_enter Tryz.func33,Tryz.ntmps33
 go_wp2_with fail
 go_loopw [5,13] (fun m i wr=>∃ j:Nat,j ≤ D.L.length ∧ m = .int .i64 ((lv (D.L.take j) now).length:Int) ∧ i = .int .i64 (j:Int) ∧ Hid (Below W.heap.size W wr)) (fun _ i _=>D.L.length - (intOf i).toNat)
 case atStart=>exact ⟨0,by omega,rfl,rfl,Lib.hid (Below.refl _ _)⟩
 case round =>
  obtain ⟨j,hj,rfl,rfl,hb⟩:=hrel
  by_cases hlt:j < D.L.length
  ·obtain ⟨p,rfl,x0,x1,x2⟩:=d_cells (st_keep HR3.out hb.out) hlt
   have p1:(j:Int) < (D.L.length:Int):=by omega
   have hs:=lv_snoc hlt now
   have hl0:(lv (D.L.take j) now).length ≤ 1024:=by have:=lv_len (D.L.take j) now;rw [List.length_take] at this;omega
   generalize g D.L j = x at hs x0 x1 x2
   generalize hm0:(lv (D.L.take j) now).length = m0 at hl0 ⊢
   have hB0:Below wr.heap.size wr (wr.alloc (.cells #[.int .i64 x.n,.int .i64 x.t,.int .i64 x.u] 91)):=(Below.refl _ wr).alloc (Nat.le_refl _) _
   have hR0:Cel (wr.alloc (.cells #[.int .i64 x.n,.int .i64 x.t,.int .i64 x.u] 91)) wr.heap.size 91 [.int .i64 x.n,.int .i64 x.t,.int .i64 x.u]:=(blk1 wr _).2
   have HI:Hid (∀ V,Below W.heap.size W V → Calls Tryz.prog 56 #[.agg #[.int .i64 x.n,.int .i64 x.t,.int .i64 x.u],.pointer (some ⟨pc,0,none⟩)] V fun e W'=>e = .returned (.bool (decide (x.u < now))) ∧ Below V.heap.size V W'):=Lib.hid (fun V hV=>over_in (HC3.out.below hV) x)
   have HB:=Lib.hid (hb.out.trans (hB0.mono hb.out.size))
   have pm:(m0:Int) ≤ 1024:=by omega
   go_upto_region 5 with fail
   have q0:=hR0.cell (i:=0) rfl
   have q1:=hR0.cell (i:=1) rfl
   have q2:=hR0.cell (i:=2) rfl
   generalize hG:wr.heap.size = G at *
   generalize wr.alloc (.cells #[.int .i64 x.n,.int .i64 x.t,.int .i64 x.u] 91) = W1 at *
   clear hR0 hB0 x0 x1 x2 hb hG hl0
   by_cases hu:x.u < now
   ·have ht:(lv (D.L.take (j + 1)) now).length = m0:=by rw [hs,if_neg (by omega),hm0]
    have HTt:=Lib.hid ht
    rw [decide_eq_true hu] at HI
    clear ht hs hm0 hu
    go_wp2_with fail
    refine (HI.out _ HB.out).mono ?_
    rintro e w5 ⟨rfl,hb5⟩
    have HB5:=Lib.hid (HB.out.trans (hb5.mono HB.out.size))
    clear hb5 HI q0 q1 q2
    go_wp2_with fail
    go_roundw
    case rel=>exact ⟨j + 1,by omega,by rw [HTt.out],by go_num,HB5⟩
    case measure=>simp [intOf];omega
   ·have ht:(lv (D.L.take (j + 1)) now).length = m0 + 1:=by rw [hs,if_pos (by omega),List.length_append,hm0];rfl
    have HTt:=Lib.hid ht
    rw [decide_eq_false hu] at HI
    clear ht hs hm0 hu
    go_wp2_with fail
    refine (HI.out _ HB.out).mono ?_
    rintro e w5 ⟨rfl,hb5⟩
    have HB5:=Lib.hid (HB.out.trans (hb5.mono HB.out.size))
    clear hb5 HI q0 q1 q2
    go_wp2_with fail
    go_roundw
    case rel=>exact ⟨j + 1,by omega,by rw [HTt.out];go_num,by go_num,HB5⟩
    case measure=>simp [intOf];omega
  ·obtain rfl:j = D.L.length:=by omega
   rw [List.take_length]
   have HB:=hb
   clear hb
   go_wp2_with fail
   go_ret
   exact ⟨rfl,HB.out⟩
theorem lv_all {L:List Le} {now:Int} (hno:∀ k,k < L.length → ¬ (g L k).u < now):lv L now = L:=by
 unfold lv
 rw [List.filter_eq_self]
 intro x hx
 obtain ⟨i,hi,rfl⟩:=List.mem_iff_getElem.1 hx
 have:=hno i hi
 rw [g_lt hi] at this
 simp;omega
theorem lv_take {L:List Le} {now:Int} {j:Nat} (hj:j ≤ L.length) (hno:∀ k,k < j → ¬ (g L k).u < now):lv (L.take j) now = L.take j:=by
 refine lv_all (fun k hk=>?_)
 rw [List.length_take] at hk
 have:=hno k (by omega)
 rw [g_lt (by rw [List.length_take];omega),List.getElem_take,← g_lt (by omega)]
 exact this
def FoP (L:List Le) (now:Int) (W:World) (e:Ending) (W':World):Prop:=((∃ j:Nat,e = .returned (.int .i64 (j:Int)) ∧ j < L.length ∧ (g L j).u < now ∧ ∀ k,k < j → ¬ (g L k).u < now) ∨ (e = .returned (.int .i64 (-1)) ∧ lv L now = L)) ∧ Below W.heap.size W W'
theorem indexF_any {L:List Le} {A:Option Addr} {c pc:Nat} (h:DRow W base (.slice A L.length c) L) (h10:L.length ≤ 1024) {now:Int} (hc:Cel W pc 3 [.int .i64 now]):Calls Tryz.prog 57 #[.slice A L.length c,overF pc] W fun e W'=>FoP L now W e W':=by
 have hlen:(L.length:Int) ≤ 1024:=by omega
 have HC3:=Lib.hid hc
 have HR3:=Lib.hid h
 clear h hc
 unfold overF
 go_enter Tryz.func57,Tryz.ntmps57
 go_wp2_with fail
 go_loopw [8] (fun i wr=>∃ j:Nat,j ≤ L.length ∧ i = .int .i64 (j:Int) ∧ Hid (∀ k,k < j → ¬ (g L k).u < now) ∧ Hid (Below W.heap.size W wr)) (fun i _=>L.length - (intOf i).toNat)
 case atStart=>exact ⟨0,by omega,rfl,Lib.hid (fun k hk=>absurd hk (by omega)),Lib.hid (Below.refl _ _)⟩
 case round =>
  obtain ⟨j,hj,rfl,hno,hb⟩:=hrel
  by_cases hlt:j < L.length
  ·obtain ⟨p,rfl,x0,x1,x2⟩:=d_cells (st_keep HR3.out hb.out) hlt
   have p1:(j:Int) < (L.length:Int):=by omega
   have HI:=Lib.hid (over_in (HC3.out.below hb.out) (g L j))
   have HB:=hb
   by_cases hu:(g L j).u < now
   ·have HF:Hid (∀ V,Below wr.heap.size wr V → FoP L now W (.returned (.int .i64 (j:Int))) V):=Lib.hid (fun V hV=>⟨.inl ⟨j,rfl,hlt,hu,hno.out⟩,HB.out.trans (hV.mono HB.out.size)⟩)
    rw [decide_eq_true hu] at HI
    generalize g L j = x at x0 x1 x2 HI hu
    clear hb hno hu
    go_wp2_with fail
    refine HI.out.mono ?_
    rintro e w5 ⟨rfl,hb5⟩
    have HF5:=Lib.hid (HF.out _ hb5)
    clear hb5 HI HF x0 x1 x2
    go_wp2_with fail
    go_ret
    exact HF5.out
   ·have HN:Hid (∀ k,k < j + 1 → ¬ (g L k).u < now):=Lib.hid (fun k hk=>by
     by_cases e:k = j
     ·subst e;exact hu
     ·exact hno.out k (by omega))
    rw [decide_eq_false hu] at HI
    generalize g L j = x at x0 x1 x2 HI hu
    clear hb hno hu
    go_wp2_with fail
    refine HI.out.mono ?_
    rintro e w5 ⟨rfl,hb5⟩
    have HB5:=Lib.hid (HB.out.trans (hb5.mono HB.out.size))
    clear hb5 HI x0 x1 x2
    go_wp2_with fail
    go_roundw
    case rel=>exact ⟨j + 1,by omega,by go_num,Lib.hid (fun k hk=>by have:=HN.out k hk;omega),HB5⟩
    case measure=>simp [intOf];omega
  ·obtain rfl:j = L.length:=by omega
   have HF:Hid (FoP L now W (.returned (.int .i64 (-1))) wr):=Lib.hid ⟨.inr ⟨rfl,lv_all hno.out⟩,hb.out⟩
   clear hb hno
   go_wp2_with fail
   go_ret
   exact HF.out
end
end Ll
end Go.Proofs.YtlfkhlfkckfbpaaGreat
