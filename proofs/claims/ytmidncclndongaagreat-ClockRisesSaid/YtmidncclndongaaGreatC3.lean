/- Parts of the proof, joined: PkRead, PkDecEnv, BkStr, PkDecMath; their conditions stand with each. -/
import Derived.Test.YtmidncclndongaaGreatC0
import Derived.Test.YtmidncclndongaaGreatC2

set_option maxRecDepth 20000
set_option maxHeartbeats 8000000
namespace Go.Proofs.YtmidncclndongaaGreat
namespace Pk
open Go.RowKit Bk
attribute [local go_sem ↓] Go.wp_at_zero Go.wp_at_succ
attribute [local go_sem] floatUpon pick
def liftR (i x:Nat):Rd → Rd
 | .ok n u=>.ok (x + 128 ^ i * n) (i + u)
 | .fin=>.fin
 | .form=>.form
theorem liftR_push (i x y:Nat) (r:Rd):liftR i x (r.push y) = liftR (i + 1) (x + 128 ^ i * y) r:=by
 cases r with
 | ok n u =>
  simp only [Rd.push,liftR,Rd.ok.injEq]
  refine ⟨?_,by omega⟩
  rw [Nat.mul_add,Nat.pow_succ,Nat.add_assoc,Nat.mul_assoc]
 | fin=>rfl
 | form=>rfl
theorem readK_hi {k i:Nat} {b:UInt8} {r:List UInt8} (h:128 ≤ b.toNat):readK (k + 1) i (b :: r) = (readK k (i + 1) r).push (b.toNat % 128):=by
 rw [readK,if_neg (by omega)]
theorem readK_zero {k i:Nat} {b:UInt8} {r:List UInt8} (h:b.toNat = 0) (hi:0 < i):readK (k + 1) i (b :: r) = .form:=by
 rw [readK,if_pos (by omega),if_pos ⟨h,hi⟩]
theorem readK_last {k i:Nat} {b:UInt8} {r:List UInt8} (h:b.toNat < 128) (hi:¬ (b.toNat = 0 ∧ 0 < i)):readK (k + 1) i (b :: r) = .ok b.toNat 1:=by
 rw [readK,if_pos h,if_neg hi]
def readV (s:ByteArray) (a:Nat):Value :=
 match readR (s.data.toList.drop a) with
 | .ok n u=>.tuple #[.int .i64 (n:Int),.int .i64 ((a + u:Nat):Int),.int .i64 0]
 | .fin=>.tuple #[.int .i64 0,.int .i64 (s.size:Int),.int .i64 50]
 | .form=>.tuple #[.int .i64 0,.int .i64 (a:Int),.int .i64 3]
theorem list_size (s:ByteArray):s.data.toList.length = s.size:=Array.length_toList
theorem drop_at (s:ByteArray) (p:Nat) (h:p < s.size):s.data.toList.drop p = s[p] :: s.data.toList.drop (p + 1):=by
 have h':p < s.data.toList.length:=by rw [list_size];exact h
 rw [List.drop_eq_getElem_cons h',Array.getElem_toList];rfl
theorem pow128 (n:Nat):128 ^ n = 2 ^ (7 * n):=by rw [Nat.pow_mul]
theorem read_any (s:ByteArray) (a:Nat) (w:World) (ha:a ≤ s.size) (hs:s.size ≤ 1000000000000000) :
  Calls Tryz.prog 207 #[.string s,.int .i64 (a:Int)] w fun e w'=>e = .returned (readV s a) ∧ w' = w:=by
 have hB:(s.size:Int) ≤ 1000000000000000:=by omega
 have pa:(a:Int) ≤ (s.size:Int):=by omega
 go_enter Tryz.func207,Tryz.ntmps207
 go_wp2_with fail
 go_loopw [7,8] (fun x i wr=>∃ (k m:Nat),k ≤ 9 ∧ a + k ≤ s.size ∧ Hid (m < 128 ^ k) ∧ i = .int .i64 (k:Int) ∧ x = .int .i64 (m:Int) ∧ Hid (readR (s.data.toList.drop a) = liftR k m (readK (9 - k) k (s.data.toList.drop (a + k)))) ∧ wr = w) (fun _ i _=>9 - (intOf i).toNat)
 case atStart =>
  refine ⟨0,0,by omega,by omega,by show 0 < 128 ^ 0;omega,rfl,rfl,?_,rfl⟩
  show readR _ = liftR 0 0 (readK 9 0 _)
  unfold readR
  rw [Nat.add_zero]
  cases readK 9 0 (s.data.toList.drop a) <;> simp [liftR]
 case round =>
  obtain ⟨k,m,hk,hak,hm,rfl,rfl,hrd,rfl⟩:=hrel
  by_cases hk9:k < 9
  ·have pk:(k:Int) < 9:=by omega
   have pak:(a:Int) + (k:Int) ≤ (s.size:Int):=by omega
   by_cases hin:a + k < s.size
   ·have pin:(a:Int) + (k:Int) < (s.size:Int):=by omega
    have hdr:=drop_at s (a + k) hin
    have hix:∀ W,(Instr.index 9 (.string s) (.int .i64 ((a:Int) + (k:Int)))).run Tryz.prog W = .ok (.int .u8 ((s[a + k]'hin).toNat:Int)) W:=fun W=>by
     rw [run_index_string W 9 s .i64 _ Tryz.underlying9,dif_pos (by omega)]
     congr 3
    have hb8:(s[a + k]'hin).toNat < 256:=(s[a + k]'hin).toNat_lt
    have hrd2:=hrd.out
    rw [hdr,show 9 - k = (8 - k) + 1 by omega] at hrd2
    generalize hbv:s[a + k]'hin = b at hix hb8 hrd2
    obtain ⟨y,hy⟩:∃ y,y = b.toNat:=⟨_,rfl⟩
    rw [← hy] at hix hb8
    have hyi:(y:Int) < 256:=by omega
    have hmod:(y:Int).tmod 128 = ((y % 128:Nat):Int):=by rw [Int.tmod_eq_emod_of_nonneg (by omega)];omega
    have hp:128 ^ k ≤ 128 ^ 8:=Nat.pow_le_pow_right (by omega) (by omega)
    have hmul:128 ^ k * (y % 128) ≤ 128 ^ k * 127:=Nat.mul_le_mul_left _ (by omega)
    have hm2:m + 128 ^ k * (y % 128) < 128 ^ (k + 1):=by have:=hm.out;rw [Nat.pow_succ];omega
    have hp9:128 ^ (k + 1) ≤ 128 ^ 9:=Nat.pow_le_pow_right (by omega) (by omega)
    have hbnd:(m:Int) + ((128 ^ k * (y % 128):Nat):Int) ≤ 9223372036854775807:=by
     have h9:m + 128 ^ k * (y % 128) < 9223372036854775808:=Nat.lt_of_lt_of_le hm2 hp9
     omega
    have hshl:((y % 128:Nat):Int) * 2 ^ (7 * (k:Int)).toNat = ((128 ^ k * (y % 128):Nat):Int):=by
     rw [show (7 * (k:Int)).toNat = 7 * k by omega,Nat.mul_comm (128 ^ k),Int.natCast_mul,pow128,Int.natCast_pow];rfl
    have hwr:IntKind.i64.wrap ((128 ^ k * (y % 128):Nat):Int) = ((128 ^ k * (y % 128):Nat):Int):=i64_wrap (by omega) (by omega)
    have HM2:=Lib.hid hm2
    by_cases hlo:y < 128
    ·have plo:(y:Int) < 128:=by omega
     have hy7:y % 128 = y:=by omega
     rw [hy7] at hmod hshl hwr hbnd
     by_cases hz:y = 0 ∧ 0 < k
     ·have E:=Lib.hid (show readR (s.data.toList.drop a) = .form by rw [hrd2,readK_zero (by omega) hz.2];rfl)
      obtain ⟨rfl,hz2⟩:=hz
      have pz:(0:Int) < (k:Int):=by omega
      clear hm hrd hrd2 hdr hbv hy hb8 hp hmul hm2 hp9 HM2 hy7
      generalize 128 ^ k * 0 = q at hshl hwr hbnd
      go_wp2_with fail
      go_ret3
      exact ⟨by unfold readV;rw [E.out];rfl,rfl⟩
     ·have E:=Lib.hid (show readR (s.data.toList.drop a) = .ok (m + 128 ^ k * y) (k + 1) by rw [hrd2,readK_last (by omega) (by omega),← hy];rfl)
      have hq:0 ≤ ((128 ^ k * y:Nat):Int):=by omega
      obtain ⟨q,hqe⟩:∃ q,q = 128 ^ k * y:=⟨_,rfl⟩
      rw [← hqe] at hshl hwr hbnd hq E
      clear hm hrd hrd2 hdr hbv hy hb8 hp hmul hm2 hp9 HM2 hy7 hqe
      by_cases hy0:y = 0
      ·have hk0:¬ 0 < k:=fun h=>hz ⟨hy0,h⟩
       have pe:((y:Int) == 0) = true:=by simp [hy0]
       have pk0:(k:Int) ≤ 0:=by omega
       clear hz hk0 hy0
       go_wp2_with fail
       go_ret3
       exact ⟨by unfold readV;rw [E.out];rfl,rfl⟩
      ·have py:(1:Int) ≤ (y:Int):=by omega
       have pne:((y:Int) == 0) = false:=by simp;omega
       clear hz hy0
       go_wp2_with fail
       go_ret3
       exact ⟨by unfold readV;rw [E.out];rfl,rfl⟩
    ·have plo:(128:Int) ≤ (y:Int):=by omega
     have E:=Lib.hid (show readR (s.data.toList.drop a) = liftR (k + 1) (m + 128 ^ k * (y % 128)) (readK (9 - (k + 1)) (k + 1) (s.data.toList.drop (a + (k + 1)))) by
      rw [hrd2,readK_hi (by omega),liftR_push,← hy,show 8 - k = 9 - (k + 1) by omega,show a + k + 1 = a + (k + 1) by omega])
     have hq:0 ≤ ((128 ^ k * (y % 128):Nat):Int):=by omega
     obtain ⟨q,hqe⟩:∃ q,q = 128 ^ k * (y % 128):=⟨_,rfl⟩
     rw [← hqe] at hshl hwr hbnd hq E HM2
     have hx:y % 128 < 128:=by omega
     generalize y % 128 = x at hmod hshl hx
     have hxi:(x:Int) < 128:=by omega
     clear hm hrd hrd2 hdr hbv hy hb8 hp hmul hm2 hp9 hqe
     go_wp2_with fail
     go_roundw
     case rel=>exact ⟨k + 1,m + q,by omega,by omega,HM2.out,by go_num,by go_num,E.out,trivial⟩
     case measure=>simp [intOf];omega
   ·have E:=Lib.hid (show readR (s.data.toList.drop a) = .fin by
     rw [hrd.out,List.drop_eq_nil_of_le (by rw [list_size];omega),show 9 - k = (8 - k) + 1 by omega];rfl)
    have pin:(s.size:Int) ≤ (a:Int) + (k:Int):=by omega
    clear hm hrd
    go_wp2_with fail
    go_ret3
    exact ⟨by unfold readV;rw [E.out];rfl,rfl⟩
  ·obtain rfl:k = 9:=by omega
   have E:=Lib.hid (show readR (s.data.toList.drop a) = .form by rw [hrd.out];rfl)
   clear hm hrd
   go_wp2_with fail
   go_ret3
   exact ⟨by unfold readV;rw [E.out];rfl,rfl⟩
def cntV (s:ByteArray) (a most:Nat):Value :=
 match readR (s.data.toList.drop a) with
 | .ok n u=>if most < n then .tuple #[.int .i64 0,.int .i64 (a:Int),.int .i64 2] else .tuple #[.int .i64 (n:Int),.int .i64 ((a + u:Nat):Int),.int .i64 0]
 | .fin=>.tuple #[.int .i64 0,.int .i64 (s.size:Int),.int .i64 50]
 | .form=>.tuple #[.int .i64 0,.int .i64 (a:Int),.int .i64 3]
theorem count_any (s:ByteArray) (a most:Nat) (w:World) (ha:a ≤ s.size) (hs:s.size ≤ 1000000000000000) (hmost:most ≤ 4096) :
  Calls Tryz.prog 206 #[.string s,.int .i64 (a:Int),.int .i64 (most:Int)] w fun e w'=>e = .returned (cntV s a most) ∧ w' = w:=by
 have hB:(s.size:Int) ≤ 1000000000000000:=by omega
 have pa:(a:Int) ≤ (s.size:Int):=by omega
 have pm:(most:Int) ≤ 4096:=by omega
 have HR:=Lib.hid (fun W=>read_any s a W ha hs)
 cases hr:readR (s.data.toList.drop a) with
 | ok n u =>
  have h1:readV s a = .tuple #[.int .i64 (n:Int),.int .i64 ((a + u:Nat):Int),.int .i64 0]:=by unfold readV;rw [hr]
  obtain ⟨_,hu,hn9⟩:=readR_ok hr
  have hn9':n < 9223372036854775808:=hn9
  rw [h1] at HR
  by_cases hlt:most < n
  ·have E:=Lib.hid (show cntV s a most = .tuple #[.int .i64 0,.int .i64 (a:Int),.int .i64 2] by unfold cntV;rw [hr];simp only;rw [if_pos hlt])
   have pl:(most:Int) < (n:Int):=by omega
   clear hr h1 hn9 hn9' hu
   generalize a + u = z at HR
   go_enter Tryz.func206,Tryz.ntmps206
   go_wp2_with fail
   refine (HR.out _).mono ?_
   rintro e w' ⟨rfl,rfl⟩
   go_wp2_with fail
   go_ret3
   exact ⟨by rw [E.out];rfl,rfl⟩
  ·have E:=Lib.hid (show cntV s a most = .tuple #[.int .i64 (n:Int),.int .i64 ((a + u:Nat):Int),.int .i64 0] by unfold cntV;rw [hr];simp only;rw [if_neg hlt])
   have pl:(n:Int) ≤ (most:Int):=by omega
   clear hr h1 hn9 hn9' hu
   generalize a + u = z at HR E
   go_enter Tryz.func206,Tryz.ntmps206
   go_wp2_with fail
   refine (HR.out _).mono ?_
   rintro e w' ⟨rfl,rfl⟩
   go_wp2_with fail
   go_ret3
   exact ⟨by rw [E.out];rfl,rfl⟩
 | fin =>
  have h1:readV s a = .tuple #[.int .i64 0,.int .i64 (s.size:Int),.int .i64 50]:=by unfold readV;rw [hr]
  have E:=Lib.hid (show cntV s a most = .tuple #[.int .i64 0,.int .i64 (s.size:Int),.int .i64 50] by unfold cntV;rw [hr])
  rw [h1] at HR
  clear hr h1
  go_enter Tryz.func206,Tryz.ntmps206
  go_wp2_with fail
  refine (HR.out _).mono ?_
  rintro e w' ⟨rfl,rfl⟩
  go_wp2_with fail
  go_ret3
  exact ⟨by rw [E.out];rfl,rfl⟩
 | form =>
  have h1:readV s a = .tuple #[.int .i64 0,.int .i64 (a:Int),.int .i64 3]:=by unfold readV;rw [hr]
  have E:=Lib.hid (show cntV s a most = .tuple #[.int .i64 0,.int .i64 (a:Int),.int .i64 3] by unfold cntV;rw [hr])
  rw [h1] at HR
  clear hr h1
  go_enter Tryz.func206,Tryz.ntmps206
  go_wp2_with fail
  refine (HR.out _).mono ?_
  rintro e w' ⟨rfl,rfl⟩
  go_wp2_with fail
  go_ret3
  exact ⟨by rw [E.out];rfl,rfl⟩
end Pk
end Go.Proofs.YtmidncclndongaaGreat
namespace Go.Proofs.YtmidncclndongaaGreat
namespace Pk
open Go.RowKit Bk
theorem Tryz.infoInt:(Tryz.prog.info? 3).map (fun i=>(i.zero,i.size,i.bytes)) = some (some (.int .i64 0),1,8):=by kernel_rfl
structure DcEnv (w W:World) (g:Nat) (v1 v2:Value) (ns:List Int) (ts:List ByteArray):Prop where
 cel:Cel W g 222 [v1,v2]
 r0:W.ownsRow (g + 1) 3 1 v1 ns.length (intV ns)
 r1:W.ownsRow (g + 1) 9 1 v2 ts.length (strV ts)
 d:Unlike v1 v2
 bel:Below g w W
theorem DcEnv.lt {w W:World} {g:Nat} {v1 v2:Value} {ns:List Int} {ts:List ByteArray} (h:DcEnv w W g v1 v2 ns ts):g + 1 ≤ W.heap.size:=h.cel.lt
theorem DcEnv.c0 {w W:World} {g:Nat} {v1 v2:Value} {ns:List Int} {ts:List ByteArray} (h:DcEnv w W g v1 v2 ns ts):W.cell? ⟨g,0,none⟩ = some v1:=h.cel.cell rfl
theorem DcEnv.c1 {w W:World} {g:Nat} {v1 v2:Value} {ns:List Int} {ts:List ByteArray} (h:DcEnv w W g v1 v2 ns ts):W.cell? ⟨g,1,none⟩ = some v2:=h.cel.cell rfl
theorem DcEnv.step {w W W':World} {g:Nat} {v1 v2:Value} {ns:List Int} {ts:List ByteArray} (h:DcEnv w W g v1 v2 ns ts) (hb:Below W.heap.size W W'):DcEnv w W' g v1 v2 ns ts :=
 ⟨h.cel.below hb,st_keep h.r0 hb,st_keep h.r1 hb,h.d,h.bel.trans (hb.mono (Nat.le_of_lt h.cel.lt))⟩
theorem DcEnv.grow1 {w W W1:World} {g n':Nat} {v1 v2 v':Value} {ns:List Int} {ts:List ByteArray} {xs':List Value} (h:DcEnv w W g v1 v2 ns ts) (ho:W1.ownsRow (g + 1) 3 1 v' n' xs') (hg:W.grownBy W1 v1.ownBlock) (hat:v'.ownBlock = v1.ownBlock ∨ v'.ownBlock = some W.heap.size) :
  Cel W1 g 222 [v1,v2] ∧ W1.ownsRow (g + 1) 3 1 v' n' xs' ∧ W1.ownsRow (g + 1) 9 1 v2 ts.length (strV ts) ∧ Unlike v' v2 ∧ Below g w W1 :=
 have hb:Below (g + 1) W W1:=(Below.refl _ W).grown hg h.lt (fun k hk=>(h.r0.lt k hk).1)
 ⟨(hb.block g (Nat.lt_succ_self g)).trans h.cel,ho,h.r1.kept hg h.d.symm.ne,(h.d.symm.next (fun j hj=>(h.r1.lt j hj).2) hat (Nat.le_refl _)).symm,h.bel.grown hg (Nat.le_of_lt h.cel.lt) (fun k hk=>Nat.le_of_succ_le (h.r0.lt k hk).1)⟩
theorem DcEnv.grow2 {w W W1:World} {g n':Nat} {v1 v2 v':Value} {ns:List Int} {ts:List ByteArray} {xs':List Value} (h:DcEnv w W g v1 v2 ns ts) (ho:W1.ownsRow (g + 1) 9 1 v' n' xs') (hg:W.grownBy W1 v2.ownBlock) (hat:v'.ownBlock = v2.ownBlock ∨ v'.ownBlock = some W.heap.size) :
  Cel W1 g 222 [v1,v2] ∧ W1.ownsRow (g + 1) 3 1 v1 ns.length (intV ns) ∧ W1.ownsRow (g + 1) 9 1 v' n' xs' ∧ Unlike v1 v' ∧ Below g w W1 :=
 have hb:Below (g + 1) W W1:=(Below.refl _ W).grown hg h.lt (fun k hk=>(h.r1.lt k hk).1)
 ⟨(hb.block g (Nat.lt_succ_self g)).trans h.cel,h.r0.kept hg h.d.ne,ho,(h.d.next (fun j hj=>(h.r0.lt j hj).2) hat (Nat.le_refl _)),h.bel.grown hg (Nat.le_of_lt h.cel.lt) (fun k hk=>Nat.le_of_succ_le (h.r1.lt k hk).1)⟩
theorem DcEnv.store1 {w W1:World} {g n:Nat} {v1 v2 v':Value} {ns:List Int} {ts:List ByteArray} (h:Cel W1 g 222 [v1,v2] ∧ W1.ownsRow (g + 1) 3 1 v' n (intV ns) ∧ W1.ownsRow (g + 1) 9 1 v2 ts.length (strV ts) ∧ Unlike v' v2 ∧ Below g w W1) (hn:n = ns.length) :
  DcEnv w (W1.setCell ⟨g,0,none⟩ v') g v' v2 ns ts:=by
 obtain ⟨h1,h2,h3,h4,h5⟩:=h
 subst hn
 exact ⟨h1.set,ownsRow_setCell_below h2 (Nat.lt_succ_self g) _,ownsRow_setCell_below h3 (Nat.lt_succ_self g) _,h4,h5.setCell (Nat.le_refl _) _⟩
theorem DcEnv.store2 {w W1:World} {g n:Nat} {v1 v2 v':Value} {ns:List Int} {ts:List ByteArray} (h:Cel W1 g 222 [v1,v2] ∧ W1.ownsRow (g + 1) 3 1 v1 ns.length (intV ns) ∧ W1.ownsRow (g + 1) 9 1 v' n (strV ts) ∧ Unlike v1 v' ∧ Below g w W1) (hn:n = ts.length) :
  DcEnv w (W1.setCell ⟨g,1,none⟩ v') g v1 v' ns ts:=by
 obtain ⟨h1,h2,h3,h4,h5⟩:=h
 subst hn
 exact ⟨h1.set,ownsRow_setCell_below h2 (Nat.lt_succ_self g) _,ownsRow_setCell_below h3 (Nat.lt_succ_self g) _,h4,h5.setCell (Nat.le_refl _) _⟩
theorem DcEnv.start (w:World):DcEnv w (w.alloc (.cells #[.slice none 0 0,.slice none 0 0] 222)) w.heap.size (.slice none 0 0) (.slice none 0 0) [] [] :=
 ⟨(blk1 w _).2,World.ownsRow_nil _ _ _ _,World.ownsRow_nil _ _ _ _,(fun j h=>by cases h),(Below.refl _ w).alloc (Nat.le_refl _) _⟩
def goN (O:List Int) (k:Nat) (L:List UInt8):Except Er (List Int × List UInt8) :=
 match numsF k L with
 | .error e=>.error e
 | .ok (ns,r)=>.ok (O ++ ns,r)
theorem goN_start (k:Nat) (L:List UInt8):goN [] k L = numsF k L:=by
 unfold goN
 cases numsF k L with
 | error e=>rfl
 | ok x=>rfl
theorem goN_done (O:List Int) (L:List UInt8):goN O 0 L = .ok (O,L):=by simp [goN,numsF]
theorem goN_more {O:List Int} {k n:Nat} {L r:List UInt8} (h:numF L = .ok (n,r)):goN O (k + 1) L = goN (O ++ [unzig n]) k r:=by
 unfold goN
 rw [numsF,h]
 simp only
 cases numsF k r with
 | error e=>rfl
 | ok x=>obtain ⟨ns,r2⟩:=x;simp
theorem goN_err {O:List Int} {k:Nat} {L:List UInt8} {e:Er} (h:numF L = .error e):goN O (k + 1) L = .error e:=by
 unfold goN
 rw [numsF,h]
def goT (O:List ByteArray) (k:Nat) (L:List UInt8):Except Er (List ByteArray × List UInt8) :=
 match textsF k L with
 | .error e=>.error e
 | .ok (ts,r)=>.ok (O ++ ts,r)
theorem goT_start (k:Nat) (L:List UInt8):goT [] k L = textsF k L:=by
 unfold goT
 cases textsF k L with
 | error e=>rfl
 | ok x=>rfl
theorem goT_done (O:List ByteArray) (L:List UInt8):goT O 0 L = .ok (O,L):=by simp [goT,textsF]
theorem goT_more {O:List ByteArray} {k:Nat} {t:ByteArray} {L r:List UInt8} (h:textF L = .ok (t,r)):goT O (k + 1) L = goT (O ++ [t]) k r:=by
 unfold goT
 rw [textsF,h]
 simp only
 cases textsF k r with
 | error e=>rfl
 | ok x=>obtain ⟨ns,r2⟩:=x;simp
theorem goT_err {O:List ByteArray} {k:Nat} {L:List UInt8} {e:Er} (h:textF L = .error e):goT O (k + 1) L = .error e:=by
 unfold goT
 rw [textsF,h]
def Said (s:ByteArray) (r:Except Er (Nat × List UInt8)) (n a c:Nat):Prop :=
 (c = 0 ∧ a ≤ s.size ∧ n < 9223372036854775808 ∧ r = .ok (n,s.data.toList.drop a)) ∨ (c ≠ 0 ∧ c ≤ 50 ∧ a ≤ s.size ∧ n = 0 ∧ ∃ e:Er,r = .error e ∧ a = e.place s.size ∧ c = e.code)
theorem readR_in {s:ByteArray} {a n u:Nat} (ha:a ≤ s.size) (h:readR (s.data.toList.drop a) = .ok n u):a + u ≤ s.size:=by
 obtain ⟨h1,h2,_⟩:=readR_ok h
 have h3:=congrArg List.length h1
 rw [List.length_append,List.length_drop,List.length_drop,List.length_drop,list_size,← h2] at h3
 omega
theorem read_said (s:ByteArray) (a:Nat) (ha:a ≤ s.size):∃ n p c:Nat,readV s a = .tuple #[.int .i64 (n:Int),.int .i64 (p:Int),.int .i64 (c:Int)] ∧ Said s (numF (s.data.toList.drop a)) n p c:=by
 cases hr:readR (s.data.toList.drop a) with
 | ok n u =>
  have h9:n < 9223372036854775808:=(readR_ok hr).2.2
  refine ⟨n,a + u,0,by unfold readV;rw [hr];rfl,.inl ⟨rfl,readR_in ha hr,h9,?_⟩⟩
  unfold numF;rw [hr];simp only [List.drop_drop]
 | fin=>exact ⟨0,s.size,50,by unfold readV;rw [hr];rfl,.inr ⟨by omega,by omega,by omega,rfl,.fin,by unfold numF;rw [hr],rfl,rfl⟩⟩
 | form=>exact ⟨0,a,3,by unfold readV;rw [hr];rfl,.inr ⟨by omega,by omega,by omega,rfl,.bad (s.data.toList.drop a).length 3,by unfold numF;rw [hr],by simp only [Er.place,List.length_drop,list_size];omega,rfl⟩⟩
theorem cnt_said (s:ByteArray) (a most:Nat) (ha:a ≤ s.size):∃ n p c:Nat,cntV s a most = .tuple #[.int .i64 (n:Int),.int .i64 (p:Int),.int .i64 (c:Int)] ∧ Said s (cnt most (s.data.toList.drop a)) n p c ∧ n ≤ most:=by
 cases hr:readR (s.data.toList.drop a) with
 | ok n u =>
  have h9:n < 9223372036854775808:=(readR_ok hr).2.2
  by_cases hm:most < n
  ·refine ⟨0,a,2,by unfold cntV;rw [hr];simp only;rw [if_pos hm];rfl,.inr ⟨by omega,by omega,by omega,rfl,.bad (s.data.toList.drop a).length 2,?_,by simp only [Er.place,List.length_drop,list_size];omega,rfl⟩,by omega⟩
   unfold cnt;rw [hr];simp only;rw [if_pos hm]
  ·refine ⟨n,a + u,0,by unfold cntV;rw [hr];simp only;rw [if_neg hm];rfl,.inl ⟨rfl,readR_in ha hr,h9,?_⟩,by omega⟩
   unfold cnt;rw [hr];simp only;rw [if_neg hm,List.drop_drop]
 | fin=>exact ⟨0,s.size,50,by unfold cntV;rw [hr];rfl,.inr ⟨by omega,by omega,by omega,rfl,.fin,by unfold cnt;rw [hr],rfl,rfl⟩,by omega⟩
 | form=>exact ⟨0,a,3,by unfold cntV;rw [hr];rfl,.inr ⟨by omega,by omega,by omega,rfl,.bad (s.data.toList.drop a).length 3,by unfold cnt;rw [hr],by simp only [Er.place,List.length_drop,list_size];omega,rfl⟩,by omega⟩
end Pk
end Go.Proofs.YtmidncclndongaaGreat
namespace Go.Proofs.YtmidncclndongaaGreat
namespace Bk
open Go.RowKit
theorem text_size (L:List UInt8):(⟨L.toArray⟩:ByteArray).size = L.length:=by
 show L.toArray.size = _
 simp
theorem extract_list (s:ByteArray) (a b:Nat):s.extract a b = ⟨((s.data.toList.drop a).take (b - a)).toArray⟩:=by
 apply ByteArray.ext
 apply Array.toList_inj.1
 simp [ByteArray.data_extract,Array.toList_extract,List.extract_eq_take_drop]
theorem str_from (s:ByteArray) (a:Nat) (h:a ≤ s.size) (i:Int) (hi:i = (a:Int)) (W:World) :
  (Instr.slice 9 (.string s) (some (.int .i64 i)) none none).run Tryz.prog W = .ok (.string ⟨(s.data.toList.drop a).toArray⟩) W:=by
 subst hi
 rw [run_slice_string_l W 9 s Tryz.underlying9 .i64 _ (by omega) (by omega),extract_list,Int.toNat_natCast,List.take_of_length_le (by rw [List.length_drop,Array.length_toList];exact Nat.le_refl _)]
theorem str_to (s:ByteArray) (b:Nat) (h:b ≤ s.size) (j:Int) (hj:j = (b:Int)) (W:World) :
  (Instr.slice 9 (.string s) none (some (.int .i64 j)) none).run Tryz.prog W = .ok (.string ⟨(s.data.toList.take b).toArray⟩) W:=by
 subst hj
 rw [run_slice_string_h W 9 s Tryz.underlying9 .i64 _ (by omega) (by omega),extract_list,Int.toNat_natCast,List.drop_zero,Nat.sub_zero]
theorem str_mid (s:ByteArray) (a b:Nat) (h1:a ≤ b) (h:b ≤ s.size) (i j:Int) (hi:i = (a:Int)) (hj:j = (b:Int)) (W:World) :
  (Instr.slice 9 (.string s) (some (.int .i64 i)) (some (.int .i64 j)) none).run Tryz.prog W = .ok (.string ⟨((s.data.toList.drop a).take (b - a)).toArray⟩) W:=by
 subst hi hj
 rw [run_slice_string W 9 s .i64 .i64 _ _ Tryz.underlying9 (by omega) (by omega) (by omega),extract_list,Int.toNat_natCast,Int.toNat_natCast]
theorem str_at (s:ByteArray) (a:Nat) (b:UInt8) (h:s.data.toList[a]? = some b) (i:Int) (hi:i = (a:Int)) (W:World) :
  (Instr.index 9 (.string s) (.int .i64 i)).run Tryz.prog W = .ok (.int .u8 (b.toNat:Int)) W:=by
 subst hi
 have hl:a < s.data.toList.length:=(List.getElem?_eq_some_iff.1 h).1
 have hl2:a < s.size:=by rw [Array.length_toList] at hl;exact hl
 rw [run_index_string W 9 s .i64 _ Tryz.underlying9,dif_pos (by omega)]
 congr 3
 rw [List.getElem?_eq_getElem hl] at h
 rw [← Option.some.inj h]
 simp only [Int.toNat_natCast]
 rfl
theorem str_one {w:World} {g:Nat} {t:TypeId} {u:Value} (h:w.heap[g]? = some (.cells #[u] t (0,0))):∀ j v,[u][j]? = some v → w.cell? ((⟨g,0,none⟩:Addr).add j) = some v:=fun j v hv=>by
 match j with
 | 0=>simp at hv;subst hv;rw [addr_head];exact blk_cell h rfl
 | j + 1=>simp at hv
end Bk
end Go.Proofs.YtmidncclndongaaGreat
namespace Go.Proofs.YtmidncclndongaaGreat
namespace Pk
open Go.RowKit Bk
attribute [local go_sem ↓] Go.wp_at_zero Go.wp_at_succ
attribute [local go_sem] floatUpon pick
def decR (s:ByteArray):List Int × List ByteArray × Nat × Nat :=
 match decL s.data.toList with
 | .ok (ns,ts)=>(ns,ts,0,0)
 | .error er=>([],[],er.place s.size,er.code)
def DecAns (s:ByteArray) (w:World):Ending → World → Prop:=fun e w' =>
 ∃ (A B:Option Addr) (c d:Nat),e = .returned (.tuple #[packV A B c d (decR s).1 (decR s).2.1,.int .i64 ((decR s).2.2.1:Int),.int .i64 ((decR s).2.2.2:Int)]) ∧ IntsAt w' A (decR s).1 ∧ StrsAt w' B (decR s).2.1 ∧ Below w.heap.size w w' ∧
  ((decR s).1.length ≤ c ∧ (decR s).2.1.length ≤ d ∧ c ≤ maxLen ∧ d ≤ maxLen) ∧ (∀ ad,A = some ad → w.heap.size ≤ ad.block) ∧ (∀ ad,B = some ad → w.heap.size ≤ ad.block)
def Failed (s:ByteArray) (a c:Nat):Prop:=c ≠ 0 ∧ c ≤ 50 ∧ ∃ er:Er,decL s.data.toList = .error er ∧ a = er.place s.size ∧ c = er.code
theorem Failed.out {s:ByteArray} {a c:Nat} (h:Failed s a c):decR s = ([],[],a,c):=by
 obtain ⟨_,_,er,h1,h2,h3⟩:=h
 unfold decR
 rw [h1,h2,h3]
def St1 (s:ByteArray) (many j a c:Nat) (O:List Int):Prop :=
 (c = 0 ∧ ∃ r1,cnt 1024 s.data.toList = .ok (many,r1) ∧ numsF many r1 = goN O (many - j) (s.data.toList.drop a)) ∨ Failed s a c
def St2 (s:ByteArray) (many j a c:Nat) (ns:List Int) (O:List ByteArray):Prop :=
 (c = 0 ∧ ∃ k r1 r2 r3,cnt 1024 s.data.toList = .ok (k,r1) ∧ numsF k r1 = .ok (ns,r2) ∧ cnt 1024 r2 = .ok (many,r3) ∧ textsF many r3 = goT O (many - j) (s.data.toList.drop a)) ∨ Failed s a c
theorem decL_e1 {L:List UInt8} {e:Er} (h:cnt 1024 L = .error e):decL L = .error e:=by unfold decL;rw [h]
theorem decL_e2 {L r1:List UInt8} {k:Nat} {e:Er} (h:cnt 1024 L = .ok (k,r1)) (h2:numsF k r1 = .error e):decL L = .error e:=by unfold decL;rw [h];simp only;rw [h2]
theorem decL_e3 {L r1 r2:List UInt8} {k:Nat} {ns:List Int} {e:Er} (h:cnt 1024 L = .ok (k,r1)) (h2:numsF k r1 = .ok (ns,r2)) (h3:cnt 1024 r2 = .error e):decL L = .error e:=by unfold decL;rw [h];simp only;rw [h2];simp only;rw [h3]
theorem decL_e4 {L r1 r2 r3:List UInt8} {k m:Nat} {ns:List Int} {e:Er} (h:cnt 1024 L = .ok (k,r1)) (h2:numsF k r1 = .ok (ns,r2)) (h3:cnt 1024 r2 = .ok (m,r3)) (h4:textsF m r3 = .error e):decL L = .error e:=by
 unfold decL;rw [h];simp only;rw [h2];simp only;rw [h3];simp only;rw [h4]
theorem decL_e5 {L r1 r2 r3 r4:List UInt8} {k m:Nat} {ns:List Int} {ts:List ByteArray} (h:cnt 1024 L = .ok (k,r1)) (h2:numsF k r1 = .ok (ns,r2)) (h3:cnt 1024 r2 = .ok (m,r3)) (h4:textsF m r3 = .ok (ts,r4)) :
  decL L = if r4 = [] then .ok (ns,ts) else .error (.bad r4.length 3):=by
 unfold decL;rw [h];simp only;rw [h2];simp only;rw [h3];simp only;rw [h4]
theorem St1.start {s:ByteArray} {n a c:Nat} (h:Said s (cnt 1024 s.data.toList) n a c):St1 s n 0 a c []:=by
 rcases h with ⟨h1,h2,h3,h4⟩ | ⟨h1,h2,h3,h4,e,h5,h6,h7⟩
 ·exact .inl ⟨h1,_,h4,by rw [Nat.sub_zero,goN_start]⟩
 ·exact .inr ⟨h1,h2,e,decL_e1 h5,h6,h7⟩
theorem St1.step {s:ByteArray} {many j a:Nat} {O:List Int} (h:St1 s many j a 0 O) (hj:j < many) {n p c:Nat} (hs:Said s (numF (s.data.toList.drop a)) n p c):St1 s many (j + 1) p c (O ++ [unzig n]):=by
 rcases h with ⟨_,r1,h1,h2⟩ | h
 ·rw [show many - j = (many - (j + 1)) + 1 by omega] at h2
  rcases hs with ⟨k1,k2,k3,k4⟩ | ⟨k1,k2,k3,k4,e,k5,k6,k7⟩
  ·exact .inl ⟨k1,r1,h1,by rw [h2,goN_more k4]⟩
  ·exact .inr ⟨k1,k2,e,decL_e2 h1 (by rw [h2,goN_err k5]),k6,k7⟩
 ·exact absurd rfl h.1
theorem St2.start {s:ByteArray} {many a:Nat} {O:List Int} (h:St1 s many many a 0 O) {n p c:Nat} (hs:Said s (cnt 1024 (s.data.toList.drop a)) n p c):St2 s n 0 p c O []:=by
 rcases h with ⟨_,r1,h1,h2⟩ | h
 ·rw [Nat.sub_self,goN_done] at h2
  rcases hs with ⟨k1,k2,k3,k4⟩ | ⟨k1,k2,k3,k4,e,k5,k6,k7⟩
  ·exact .inl ⟨k1,many,r1,_,_,h1,h2,k4,by rw [Nat.sub_zero,goT_start]⟩
  ·exact .inr ⟨k1,k2,e,decL_e3 h1 h2 k5,k6,k7⟩
 ·exact absurd rfl h.1
theorem textF_err {L:List UInt8} {e:Er} (h:cnt 4096 L = .error e):textF L = .error e:=by unfold textF;rw [h]
theorem textF_cut {L r:List UInt8} {n:Nat} (h:cnt 4096 L = .ok (n,r)) (h2:r.length < n):textF L = .error .fin:=by unfold textF;rw [h];simp only;rw [if_pos h2]
theorem textF_all {L r:List UInt8} {n:Nat} (h:cnt 4096 L = .ok (n,r)) (h2:¬ r.length < n):textF L = .ok (⟨(r.take n).toArray⟩,r.drop n):=by unfold textF;rw [h];simp only;rw [if_neg h2]
theorem St2.err {s:ByteArray} {many j a:Nat} {ns:List Int} {O:List ByteArray} (h:St2 s many j a 0 ns O) (hj:j < many) {e:Er} (hs:textF (s.data.toList.drop a) = .error e) (h0:e.code ≠ 0) (h5:e.code ≤ 50):Failed s (e.place s.size) e.code:=by
 rcases h with ⟨_,k,r1,r2,r3,h1,h2,h3,h4⟩ | h
 ·rw [show many - j = (many - (j + 1)) + 1 by omega] at h4
  exact ⟨h0,h5,e,decL_e4 h1 h2 h3 (by rw [h4,goT_err hs]),rfl,rfl⟩
 ·exact absurd rfl h.1
theorem St2.more {s:ByteArray} {many j a:Nat} {ns:List Int} {O:List ByteArray} (h:St2 s many j a 0 ns O) (hj:j < many) {p:Nat} {t:ByteArray} (hs:textF (s.data.toList.drop a) = .ok (t,s.data.toList.drop p)):St2 s many (j + 1) p 0 ns (O ++ [t]):=by
 rcases h with ⟨_,k,r1,r2,r3,h1,h2,h3,h4⟩ | h
 ·rw [show many - j = (many - (j + 1)) + 1 by omega] at h4
  exact .inl ⟨rfl,k,r1,r2,r3,h1,h2,h3,by rw [h4,goT_more hs]⟩
 ·exact absurd rfl h.1
theorem St2.done {s:ByteArray} {many a:Nat} {ns:List Int} {O:List ByteArray} (h:St2 s many many a 0 ns O):decL s.data.toList = if s.data.toList.drop a = [] then .ok (ns,O) else .error (.bad (s.data.toList.drop a).length 3):=by
 rcases h with ⟨_,k,r1,r2,r3,h1,h2,h3,h4⟩ | h
 ·rw [Nat.sub_self,goT_done] at h4
  exact decL_e5 h1 h2 h3 h4
 ·exact absurd rfl h.1
theorem St2.whole {s:ByteArray} {many a:Nat} {ns:List Int} {O:List ByteArray} (h:St2 s many many a 0 ns O) (ha:s.size ≤ a):decR s = (ns,O,0,0):=by
 have h1:=h.done
 rw [if_pos (List.drop_eq_nil_of_le (by rw [list_size];exact ha))] at h1
 unfold decR;rw [h1]
theorem St2.tail {s:ByteArray} {many a:Nat} {ns:List Int} {O:List ByteArray} (h:St2 s many many a 0 ns O) (ha:a < s.size):decR s = ([],[],a,3):=by
 have h1:=h.done
 rw [if_neg (fun e=>by have:=List.drop_eq_nil_iff.1 e;rw [list_size] at this;omega)] at h1
 unfold decR;rw [h1]
 simp only [Er.place,Er.code,List.length_drop,list_size]
 rw [show s.size - (s.size - a) = a by omega]
theorem noInts {w:World}:IntsAt w none []:=fun h=>absurd h (by simp)
theorem noStrs {w:World}:StrsAt w none []:=fun h=>absurd h (by simp)
theorem cnt_code {most:Nat} {L:List UInt8} {e:Er} (h:cnt most L = .error e):e.code ≠ 0:=by
 unfold cnt at h
 cases hr:readR L with
 | fin=>rw [hr] at h;cases h;decide
 | form=>rw [hr] at h;cases h;show (3:Nat) ≠ 0;omega
 | ok m u =>
  rw [hr] at h
  simp only at h
  split at h
  ·cases h;show (2:Nat) ≠ 0;omega
  ·cases h
theorem numF_code {L:List UInt8} {e:Er} (h:numF L = .error e):e.code ≠ 0:=by
 unfold numF at h
 cases hr:readR L with
 | fin=>rw [hr] at h;cases h;decide
 | form=>rw [hr] at h;cases h;show (3:Nat) ≠ 0;omega
 | ok m u=>rw [hr] at h;cases h
theorem numsF_code:∀ (k:Nat) {L:List UInt8} {e:Er},numsF k L = .error e → e.code ≠ 0
 | 0,L,e,h=>by simp [numsF] at h
 | k + 1,L,e,h=>by
  rw [numsF] at h
  cases h1:numF L with
  | error e=>rw [h1] at h;cases h;exact numF_code h1
  | ok x =>
   rw [h1] at h
   simp only at h
   cases h2:numsF k x.2 with
   | error e=>rw [h2] at h;cases h;exact numsF_code k h2
   | ok y=>rw [h2] at h;cases h
theorem textF_code {L:List UInt8} {e:Er} (h:textF L = .error e):e.code ≠ 0:=by
 unfold textF at h
 cases h1:cnt 4096 L with
 | error e=>rw [h1] at h;cases h;exact cnt_code h1
 | ok x =>
  rw [h1] at h
  simp only at h
  split at h
  ·cases h;decide
  ·cases h
theorem textsF_code:∀ (k:Nat) {L:List UInt8} {e:Er},textsF k L = .error e → e.code ≠ 0
 | 0,L,e,h=>by simp [textsF] at h
 | k + 1,L,e,h=>by
  rw [textsF] at h
  cases h1:textF L with
  | error e=>rw [h1] at h;cases h;exact textF_code h1
  | ok x =>
   rw [h1] at h
   simp only at h
   cases h2:textsF k x.2 with
   | error e=>rw [h2] at h;cases h;exact textsF_code k h2
   | ok y=>rw [h2] at h;cases h
theorem decL_code {L:List UInt8} {e:Er} (h:decL L = .error e):e.code ≠ 0:=by
 unfold decL at h
 cases h1:cnt 1024 L with
 | error e=>rw [h1] at h;cases h;exact cnt_code h1
 | ok x =>
  rw [h1] at h
  simp only at h
  cases h2:numsF x.1 x.2 with
  | error e=>rw [h2] at h;cases h;exact numsF_code _ h2
  | ok x2 =>
   rw [h2] at h
   simp only at h
   cases h3:cnt 1024 x2.2 with
   | error e=>rw [h3] at h;cases h;exact cnt_code h3
   | ok x3 =>
    rw [h3] at h
    simp only at h
    cases h4:textsF x3.1 x3.2 with
    | error e=>rw [h4] at h;cases h;exact textsF_code _ h4
    | ok x4 =>
     rw [h4] at h
     simp only at h
     split at h
     ·cases h
     ·cases h;show (3:Nat) ≠ 0;omega
theorem own_new {w:World} {H n c:Nat} {A:Option Addr} {e:TypeId} {xs:List Value} (h:w.ownsRow H e 1 (.slice A n c) n xs) {k:Nat} (hk:k ≤ H):∀ ad,A = some ad → k ≤ ad.block:=fun ad e=>by
 have:=(h.lt ad.block (by rw [e];rfl)).1
 omega
theorem own_form {w:World} {H n:Nat} {v:Value} {e:TypeId} {xs:List Value} (h:w.ownsRow H e 1 v n xs):∃ (A:Option Addr) (c:Nat),v = .slice A n c ∧ n ≤ c ∧ c ≤ maxLen:=by
 rcases h.2 with ⟨rfl,rfl⟩ | ⟨g,cap,cur,rfl,_,_,h1,h2,_⟩
 ·exact ⟨none,0,rfl,Nat.le_refl _,Nat.zero_le _⟩
 ·exact ⟨_,cap,rfl,h1,h2⟩
end Pk
end Go.Proofs.YtmidncclndongaaGreat
