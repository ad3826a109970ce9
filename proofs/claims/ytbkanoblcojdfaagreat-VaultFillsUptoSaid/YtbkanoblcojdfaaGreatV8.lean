/- Parts of the proof, joined: RdView, RdRef3, RdSync, RdApp, RdRst, ScBase, RdLaw, RdIn, SuMath2; their conditions stand with each. -/
import Derived.Deep.QuietTactic
import Derived.BigQuiet
import Derived.Test.YtbkanoblcojdfaaGreatV3
import Derived.Test.YtbkanoblcojdfaaGreatV4
import Derived.Test.YtbkanoblcojdfaaGreatV6
import Derived.Test.YtbkanoblcojdfaaGreatV7

set_option maxRecDepth 20000
set_option maxHeartbeats 8000000
namespace Go.Proofs.YtbkanoblcojdfaaGreat
namespace Rd
open Go.RowKit Sc Bk
theorem wr_view {D:Dev} (hok:DevOk D) (hu:D.down = false) {k:Nat} (hk:k < D.on.length) {t:ByteArray} (ht:t.size = 64) :
  ((wrD D (k:Int) t).2 = 0 ∧ (wrD D (k:Int) t).1.down = false ∧ ∀ i,flushF (wrD D (k:Int) t).1 i = if i = k then t else flushF D i) ∨ ((wrD D (k:Int) t).2 = 90 ∧ (wrD D (k:Int) t).1.down = true):=by
 rw [wr_up hu hk ht]
 unfold burn
 by_cases h0:D.left = 0
 ·left
  rw [if_pos h0]
  simp only [Bool.false_eq_true,if_false]
  exact ⟨trivial,hu,fun i=>view_set (by rw [hok.len];exact hk) ht _ _⟩
 ·rw [if_neg h0]
  by_cases h1:(D.left == 1) = true
  ·right
   simp only [h1,if_true]
   exact ⟨trivial,trivial⟩
  ·left
   have h1':(D.left == 1) = false:=by simpa using h1
   simp only [h1',Bool.false_eq_true,if_false]
   exact ⟨trivial,trivial,fun i=>view_set (by rw [hok.len];exact hk) ht _ _⟩
theorem fl_view {D:Dev} (hok:DevOk D) (hu:D.down = false) :
  ((flD D).2 = 0 ∧ (flD D).1.down = false ∧ Sc.Clean (flD D).1 ∧ ∀ i,i < D.on.length → flushF (flD D).1 i = flushF D i) ∨ ((flD D).2 = 90 ∧ (flD D).1.down = true):=by
 have hb:=burn_parts D
 unfold flD
 rw [if_neg (by rw [hu];simp)]
 by_cases h2:(burn D).2 = true
 ·right
  rw [if_pos h2]
  refine ⟨rfl,?_⟩
  unfold burn at h2 ⊢
  split at h2
  ·cases h2
  next h0=>rw [if_neg h0];exact h2
 ·left
  rw [if_neg h2]
  refine ⟨rfl,?_,fl_clean hok.len _ _,fun i hi=>view_clean hok.len hi _ _⟩
  unfold burn at h2 ⊢
  split
  ·exact hu
  next h0=>rw [if_neg h0] at h2;simpa using h2
theorem wrs_view {base:Nat} {all:List UInt8}:∀ {n i:Nat} {D:Dev},DevOk D → D.down = false → base + i + n ≤ D.on.length →
  ((wrs base all i n D).2 = 0 ∧ (wrs base all i n D).1.down = false ∧ ∀ j,flushF (wrs base all i n D).1 j = if base + i ≤ j ∧ j < base + i + n then blkB all (j - base) else flushF D j) ∨ ((wrs base all i n D).2 = 90 ∧ (wrs base all i n D).1.down = true)
 | 0,i,D,hok,hu,_=>.inl ⟨rfl,hu,fun j=>by rw [if_neg (by omega)];rfl⟩
 | n + 1,i,D,hok,hu,hl=>by
  have hw:=wr_view hok hu (k:=base + i) (by omega) (blkB_size all i)
  have e:wrs base all i (n + 1) D = if (wrD D ((base + i:Nat):Int) (blkB all i)).2 = 0 then wrs base all (i + 1) n (wrD D ((base + i:Nat):Int) (blkB all i)).1 else wrD D ((base + i:Nat):Int) (blkB all i):=rfl
  rw [e]
  rcases hw with ⟨h1,h2,h3⟩ | ⟨h1,h2⟩
  ·rw [if_pos h1]
   have hl2:(wrD D ((base + i:Nat):Int) (blkB all i)).1.on.length = D.on.length:=by rw [wrD_on]
   rcases wrs_view (base:=base) (all:=all) (n:=n) (i:=i + 1) (wrD_ok hok _ _) h2 (by rw [hl2];omega) with ⟨q1,q2,q3⟩ | q
   ·left
    refine ⟨q1,q2,fun j=>?_⟩
    rw [q3 j,h3 j]
    by_cases hj:base + (i + 1) ≤ j ∧ j < base + (i + 1) + n
    ·rw [if_pos hj,if_pos (by omega)]
    ·rw [if_neg hj]
     by_cases hj2:j = base + i
     ·rw [if_pos hj2,if_pos (by omega),hj2,Nat.add_sub_cancel_left]
     ·rw [if_neg hj2,if_neg (by omega)]
   ·exact .inr q
  ·right
   rw [if_neg (by rw [h1];decide)]
   exact ⟨h1,h2⟩
theorem many_le {old more:List UInt8} {D:Dev} (h:(old ++ more).length ≤ areaN D):old.length / 64 + manyW old more ≤ areaN D / 64:=by
 have hd:areaN D / 64 * 64 = areaN D:=by unfold areaN;omega
 rw [List.length_append] at h
 unfold manyW
 split
 ·omega
 ·rw [List.length_append]
  omega
theorem settle_view {D:Dev} (hok:DevOk D) (hu:D.down = false) (h4:4 ≤ D.on.length) (cnt a:Nat) (old more:List UInt8) (ha:a ≤ 1) (hz:(old ++ more).length ≤ areaN D) :
  ((settleP D cnt a old more).2 = 0 ∧ (settleP D cnt a old more).1.down = false ∧ Sc.Clean (settleP D cnt a old more).1 ∧ ∀ j,j < D.on.length → flushF (settleP D cnt a old more).1 j =
   if j = (cnt + 1) % 2 then headB (cnt + 1) a (old ++ more).length else if areaAt D a + old.length / 64 ≤ j ∧ j < areaAt D a + old.length / 64 + manyW old more then blkB (old ++ more) (j - areaAt D a) else flushF D j) ∨
  ((settleP D cnt a old more).2 = 90 ∧ (settleP D cnt a old more).1.down = true):=by
 have hml:=many_le hz
 have hfit:areaAt D a + areaN D / 64 ≤ D.on.length:=by
  unfold areaAt areaN
  rw [Nat.mul_div_cancel _ (by omega)]
  have:a = 0 ∨ a = 1:=by omega
  rcases this with rfl | rfl <;> omega
 unfold settleP
 rcases wrs_view (base:=areaAt D a) (all:=old ++ more) (n:=manyW old more) (i:=old.length / 64) hok hu (by omega) with ⟨p1,p2,p3⟩ | ⟨p1,p2⟩
 case inr =>
  right
  have e:andD (wrs (areaAt D a) (old ++ more) (old.length / 64) (manyW old more) D) (fun D1=>andD (if more = [] then (D1,0) else flD D1) fun D2=>andD (wrD D2 (((cnt + 1) % 2:Nat):Int) (headB (cnt + 1) a (old ++ more).length)) fun D3=>flD D3) = wrs (areaAt D a) (old ++ more) (old.length / 64) (manyW old more) D:=by
   unfold andD;rw [if_neg (by rw [p1];decide)]
  rw [e]
  exact ⟨p1,p2⟩
 have hl1:=wrs_len (areaAt D a) (old ++ more) (manyW old more) (old.length / 64) D
 have ho1:=wrs_ok (areaAt D a) (old ++ more) (manyW old more) (old.length / 64) D hok
 have e:∀ f,andD (wrs (areaAt D a) (old ++ more) (old.length / 64) (manyW old more) D) f = f (wrs (areaAt D a) (old ++ more) (old.length / 64) (manyW old more) D).1:=fun f=>by
  unfold andD;rw [if_pos p1]
 rw [e]
 generalize (wrs (areaAt D a) (old ++ more) (old.length / 64) (manyW old more) D).1 = D1 at p2 p3 hl1 ho1
 have hmid:((if more = [] then (D1,0) else flD D1).2 = 0 ∧ (if more = [] then (D1,0) else flD D1).1.down = false ∧ DevOk (if more = [] then (D1,(0:Int)) else flD D1).1 ∧ (if more = [] then (D1,(0:Int)) else flD D1).1.on.length = D.on.length ∧ ∀ i,i < D.on.length → flushF (if more = [] then (D1,(0:Int)) else flD D1).1 i = flushF D1 i) ∨ ((if more = [] then (D1,0) else flD D1).2 = 90 ∧ (if more = [] then (D1,0) else flD D1).1.down = true):=by
  split
  ·exact .inl ⟨rfl,p2,ho1,hl1,fun _ _=>rfl⟩
  ·rcases fl_view ho1 p2 with ⟨q1,q2,q3,q4⟩ | q
   ·exact .inl ⟨q1,q2,flD_ok ho1,(flD_len D1).trans hl1,fun i hi=>q4 i (by omega)⟩
   ·exact .inr q
 generalize (if more = [] then (D1,(0:Int)) else flD D1) = r at hmid ⊢
 obtain ⟨D2,e2⟩:=r
 simp only at hmid
 rcases hmid with ⟨rfl,q2,q3,q4,q5⟩ | ⟨rfl,q2⟩
 case inr=>exact .inr ⟨rfl,q2⟩
 have e3:∀ f,andD (D2,(0:Int)) f = f D2:=fun f=>rfl
 rw [e3]
 have hq:(cnt + 1) % 2 < 2:=Nat.mod_lt _ (by omega)
 rcases wr_view q3 q2 (k:=(cnt + 1) % 2) (by omega) (headB_size (cnt + 1) a (old ++ more).length) with ⟨r1,r2,r3⟩ | ⟨r1,r2⟩
 case inr =>
  right
  have e4:∀ f,andD (wrD D2 (((cnt + 1) % 2:Nat):Int) (headB (cnt + 1) a (old ++ more).length)) f = wrD D2 (((cnt + 1) % 2:Nat):Int) (headB (cnt + 1) a (old ++ more).length):=fun f=>by
   unfold andD;rw [if_neg (by rw [r1];decide)]
  rw [e4]
  exact ⟨r1,r2⟩
 have e4:∀ f,andD (wrD D2 (((cnt + 1) % 2:Nat):Int) (headB (cnt + 1) a (old ++ more).length)) f = f (wrD D2 (((cnt + 1) % 2:Nat):Int) (headB (cnt + 1) a (old ++ more).length)).1:=fun f=>by
  unfold andD;rw [if_pos r1]
 rw [e4]
 have hl3:(wrD D2 (((cnt + 1) % 2:Nat):Int) (headB (cnt + 1) a (old ++ more).length)).1.on.length = D.on.length:=by rw [wrD_on,q4]
 have ho3:=wrD_ok q3 (((cnt + 1) % 2:Nat):Int) (headB (cnt + 1) a (old ++ more).length)
 generalize (wrD D2 (((cnt + 1) % 2:Nat):Int) (headB (cnt + 1) a (old ++ more).length)).1 = D3 at r2 r3 hl3 ho3
 rcases fl_view ho3 r2 with ⟨s1,s2,s3,s4⟩ | s
 ·left
  refine ⟨s1,s2,s3,fun j hj=>?_⟩
  rw [s4 j (by omega),r3 j]
  by_cases h1:j = (cnt + 1) % 2
  ·rw [if_pos h1,if_pos h1]
  ·rw [if_neg h1,if_neg h1,q5 j hj,p3 j]
 ·exact .inr s
theorem and_len {r:Dev × Int} {f:Dev → Dev × Int} {n:Nat} (h:r.1.on.length = n) (hf:∀ D,D.on.length = n → (f D).1.on.length = n):(andD r f).1.on.length = n:=by
 unfold andD
 split
 ·exact hf _ h
 ·exact h
theorem settle_len (D:Dev) (cnt a:Nat) (old more:List UInt8):(settleP D cnt a old more).1.on.length = D.on.length:=by
 unfold settleP
 refine and_len (wrs_len _ _ _ _ _) fun D1 h1=>and_len ?_ fun D2 h2=>and_len ?_ fun D3 h3=>?_
 ·split
  ·exact h1
  ·rw [flD_len];exact h1
 ·rw [wrD_on];exact h2
 ·rw [flD_len];exact h3
end Rd
end Go.Proofs.YtbkanoblcojdfaaGreat
namespace Go.Proofs.YtbkanoblcojdfaaGreat
namespace Rd
open Go.RowKit Sc Bk
attribute [local go_sem ↓] Go.wp_at_zero Go.wp_at_succ
attribute [local go_sem] floatUpon pick
section
variable {w0 W W':World} {k g:Nat} {ao an:Addr} {co cn:Nat} {so sn:List Value} {A:Option Addr} {c:Nat} {l:Lg} {D D':Dev}
end
section
variable {w W:World} {k g:Nat} {ao an:Addr} {co cn:Nat} {so sn:List Value} {A:Option Addr} {c:Nat} {l:Lg} {D D':Dev}
theorem wrs_next {base:Nat} {all:List UInt8} {i N:Nat} {D1:Dev} (h:i < N) (h0:(wrD D1 ((base + i:Nat):Int) (blkB all i)).2 = 0):wrs base all i (N - i) D1 = wrs base all (i + 1) (N - (i + 1)) (wrD D1 ((base + i:Nat):Int) (blkB all i)).1:=by
 rw [show N - i = (N - (i + 1)) + 1 by omega]
 show (if (wrD D1 ((base + i:Nat):Int) (blkB all i)).2 = 0 then _ else _) = _
 rw [if_pos h0]
theorem wrs_stop {base:Nat} {all:List UInt8} {i N:Nat} {D1:Dev} (h:i < N) (h0:(wrD D1 ((base + i:Nat):Int) (blkB all i)).2 ≠ 0):wrs base all i (N - i) D1 = wrD D1 ((base + i:Nat):Int) (blkB all i):=by
 rw [show N - i = (N - (i + 1)) + 1 by omega]
 show (if (wrD D1 ((base + i:Nat):Int) (blkB all i)).2 = 0 then _ else _) = _
 rw [if_neg h0]
theorem and_stop {r:Dev × Int} {f:Dev → Dev × Int} (h:r.2 ≠ 0):andD r f = r:=by unfold andD;rw [if_neg h]
theorem and_go {r:Dev × Int} {f:Dev → Dev × Int} (h:r.2 = 0):andD r f = f r.1:=by unfold andD;rw [if_pos h]
theorem lim_say (all:List UInt8) {i:Nat} (h:64 * i < all.length):limB all i ≤ 64 ∧ 64 * i + limB all i ≤ all.length ∧ (limB all i = 64 ∨ 64 * i + limB all i = all.length):=by
 unfold limB;omega
end
section
variable {w:World} {k g:Nat} {ao an:Addr} {co cn:Nat} {so sn:List Value} {A:Option Addr} {c:Nat} {l:Lg} {D:Dev}
end
def syncP (D:Dev) (l:Lg):Dev × Lg × Int :=
 if l.mn = l.ts.length then (D,l,0) else
 if (settleP D l.cnt l.ar l.bs (waitL l)).2 = 0 then ((settleP D l.cnt l.ar l.bs (waitL l)).1,⟨l.cnt + 1,l.ar,l.bs ++ waitL l,l.ts,l.ts.length⟩,0)
 else ((settleP D l.cnt l.ar l.bs (waitL l)).1,l,(settleP D l.cnt l.ar l.bs (waitL l)).2)
section
variable {w:World} {k g:Nat} {ao an:Addr} {co cn:Nat} {so sn:List Value} {A:Option Addr} {c:Nat} {l:Lg} {D:Dev}
end
def appendP (D:Dev) (l:Lg) (t:ByteArray):Lg × Int :=
 if 4096 < t.size then (l,2) else if roomN D l < t.size + 6 then (l,100) else (⟨l.cnt,l.ar,l.bs,l.ts ++ [t],l.mn⟩,0)
theorem wait_snoc {l:Lg} (h:l.mn ≤ l.ts.length) (t:ByteArray):waitL ⟨l.cnt,l.ar,l.bs,l.ts ++ [t],l.mn⟩ = waitL l ++ Su.frameL t.data.toList:=by
 unfold waitL
 simp only [List.length_append,List.length_singleton]
 rw [frs_succ (by omega) (by simp)]
 congr 1
 ·unfold frs
  rw [List.take_append_of_le_length (Nat.le_refl _)]
 ·simp
theorem frames_ge (ts:List ByteArray):∀ (a b:Nat),a ≤ b → b ≤ ts.length → (b - a) * 6 ≤ (frs ts a b).length
 | a,0,h,_=>by simp
 | a,b + 1,h,hb=>by
  rcases Nat.eq_or_lt_of_le h with e | e
  ·rw [e];simp
  ·have h1:=frames_ge ts a b (by omega) (by omega)
   rw [frs_succ (show a ≤ b by omega) (by omega),List.length_append,Su.frameL_len,show b + 1 - a = (b - a) + 1 by omega]
   omega
section
variable {w:World} {k g:Nat} {ao an:Addr} {co cn:Nat} {so sn:List Value} {A:Option Addr} {c:Nat} {l:Lg} {D:Dev}
end
def allF (ts:List ByteArray):List UInt8:=frs ts 0 ts.length
def restartP (D:Dev) (l:Lg) (ts:List ByteArray):Dev × Lg × Int :=
 if ∃ t ∈ ts,4096 < t.size then (D,l,2) else if areaN D < (allF ts).length then (D,l,100) else
 if (settleP D l.cnt (1 - l.ar) [] (allF ts)).2 = 0 then ((settleP D l.cnt (1 - l.ar) [] (allF ts)).1,⟨l.cnt + 1,1 - l.ar,allF ts,ts,ts.length⟩,0)
 else ((settleP D l.cnt (1 - l.ar) [] (allF ts)).1,l,(settleP D l.cnt (1 - l.ar) [] (allF ts)).2)
section
variable {w:World} {k g:Nat} {ao an:Addr} {co cn:Nat} {so sn:List Value} {A:Option Addr} {c:Nat} {l:Lg} {D:Dev}
end
end Rd
end Go.Proofs.YtbkanoblcojdfaaGreat
namespace Go.Proofs.YtbkanoblcojdfaaGreat
namespace Sc
open Go.RowKit Bk
structure DevBase (Rep:World → (Nat → Prop) → Nat → Dev → Prop):Prop where
 lt:∀ {W F g D},Rep W F g D → ∀ k,F k → k < W.heap.size
 ok:∀ {W F g D},Rep W F g D → DevOk D
 kept:∀ {W W' F g D},Rep W F g D → (∀ k,F k → W'.heap[k]? = W.heap[k]?) → Rep W' F g D
 new:∀ (n:Int) (w:World),-9223372036854775808 ≤ n ∧ n ≤ 9223372036854775807 → Calls Tryz.prog 17 #[.int .i64 n] w fun e w' =>
  (1 ≤ n ∧ n ≤ 2048 ∧ ∃ (F:Nat → Prop) (g:Nat),e = .returned (.tuple #[.pointer (some ⟨g,0,none⟩),.int .i64 0]) ∧ Rep w' F g (new0 n.toNat) ∧ (∀ k,F k → w.heap.size ≤ k) ∧ Below w.heap.size w w') ∨
  (¬ (1 ≤ n ∧ n ≤ 2048) ∧ e = .returned (.tuple #[.pointer none,.int .i64 1]) ∧ Below w.heap.size w w')
 size:∀ {F g D} (w:World),Rep w F g D → Calls Tryz.prog 130 #[.pointer (some ⟨g,0,none⟩)] w fun e w'=>e = .returned (.int .i64 (D.on.length:Int)) ∧ ∃ F',Rep w' F' g D ∧ Fr F F' w w'
 read:∀ {F g D} (i:Int) (w:World),Rep w F g D → -9223372036854775808 ≤ i ∧ i ≤ 9223372036854775807 → Calls Tryz.prog 68 #[.pointer (some ⟨g,0,none⟩),.int .i64 i] w fun e w'=>e = .returned (.tuple #[.string (rdV D i).1,.int .i64 (rdV D i).2]) ∧ ∃ F',Rep w' F' g D ∧ Fr F F' w w'
 write:∀ {F g D} (i:Int) (t:ByteArray) (w:World),Rep w F g D → -9223372036854775808 ≤ i ∧ i ≤ 9223372036854775807 → t.size ≤ reachBytes → Calls Tryz.prog 251 #[.pointer (some ⟨g,0,none⟩),.int .i64 i,.string t] w fun e w'=>e = .returned (.int .i64 (wrD D i t).2) ∧ ∃ F',Rep w' F' g (wrD D i t).1 ∧ Fr F F' w w'
 flush:∀ {F g D} (w:World),Rep w F g D → Calls Tryz.prog 253 #[.pointer (some ⟨g,0,none⟩)] w fun e w'=>e = .returned (.int .i64 (flD D).2) ∧ ∃ F',Rep w' F' g (flD D).1 ∧ Fr F F' w w'
 fuse:∀ {F g D} (n:Int) (w:World),Rep w F g D → -9223372036854775808 ≤ n ∧ n ≤ 9223372036854775807 → Calls Tryz.prog 120 #[.pointer (some ⟨g,0,none⟩),.int .i64 n] w fun e w'=>e = .returned (.int .i64 (fuD D n).2) ∧ ∃ F',Rep w' F' g (fuD D n).1 ∧ Fr F F' w w'
 crash:∀ {F g D} (A:Option Addr) (c:Nat) (ps:List Int) (w:World),Rep w F g D → IntsAt w A ps → (0 < ps.length → ∀ a,A = some a → ¬ F a.block) → ps.length * 8 ≤ reachBytes → (∀ p ∈ ps,-9223372036854775808 ≤ p ∧ p ≤ 9223372036854775807) → Calls Tryz.prog 28 #[.pointer (some ⟨g,0,none⟩),.slice A ps.length c] w fun e w'=>e = .returned (.tuple #[]) ∧ ∃ F',Rep w' F' g (crD D ps) ∧ Fr F F' w w'
end Sc
end Go.Proofs.YtbkanoblcojdfaaGreat
namespace Go.Proofs.YtbkanoblcojdfaaGreat
namespace Rd
open Go.RowKit Sc Bk
abbrev RepT:=World → (Nat → Prop) → Nat → Dev → Prop
abbrev LRepT:=World → (Nat → Prop) → Nat → Nat → Nat → Lg → Prop
structure LgIn (D:Dev) (l:Lg):Prop where
 ok:LgOk D l
 c1:1 ≤ l.cnt
 cnt:l.cnt ≤ 4611686018427388000
 bs:l.bs = frs l.ts 0 l.mn
 small:∀ t ∈ l.ts,t.size ≤ 4096
 st:storedL D l.ar l.bs.length = l.bs
 hd:l.cnt ≤ 4611686018427387904 → hdsP D 2 = some (l.cnt,l.ar,l.bs.length)
theorem all_split (ts:List ByteArray) (m:Nat):allF ts = frs ts 0 m ++ frs ts m ts.length:=by
 unfold allF frs
 rw [List.take_length,List.drop_zero,List.drop_zero,← List.flatMap_append,List.take_append_drop]
structure DevF (fRd fWr fFl fFu fCr:FuncId) (Rep:RepT):Prop where
 lt:∀ {W F g D},Rep W F g D → ∀ k,F k → k < W.heap.size
 ok:∀ {W F g D},Rep W F g D → DevOk D
 kept:∀ {W W' F g D},Rep W F g D → (∀ k,F k → W'.heap[k]? = W.heap[k]?) → Rep W' F g D
 read:∀ {F g D} (i:Int) (w:World),Rep w F g D → -9223372036854775808 ≤ i ∧ i ≤ 9223372036854775807 → Calls Tryz.prog fRd #[.pointer (some ⟨g,0,none⟩),.int .i64 i] w fun e w'=>e = .returned (.tuple #[.string (rdV D i).1,.int .i64 (rdV D i).2]) ∧ ∃ F',Rep w' F' g D ∧ Fr F F' w w'
 write:∀ {F g D} (i:Int) (t:ByteArray) (w:World),Rep w F g D → -9223372036854775808 ≤ i ∧ i ≤ 9223372036854775807 → t.size ≤ reachBytes → Calls Tryz.prog fWr #[.pointer (some ⟨g,0,none⟩),.int .i64 i,.string t] w fun e w'=>e = .returned (.int .i64 (wrD D i t).2) ∧ ∃ F',Rep w' F' g (wrD D i t).1 ∧ Fr F F' w w'
 flush:∀ {F g D} (w:World),Rep w F g D → Calls Tryz.prog fFl #[.pointer (some ⟨g,0,none⟩)] w fun e w'=>e = .returned (.int .i64 (flD D).2) ∧ ∃ F',Rep w' F' g (flD D).1 ∧ Fr F F' w w'
 fuse:∀ {F g D} (n:Int) (w:World),Rep w F g D → -9223372036854775808 ≤ n ∧ n ≤ 9223372036854775807 → Calls Tryz.prog fFu #[.pointer (some ⟨g,0,none⟩),.int .i64 n] w fun e w'=>e = .returned (.int .i64 (fuD D n).2) ∧ ∃ F',Rep w' F' g (fuD D n).1 ∧ Fr F F' w w'
 crash:∀ {F g D} (A:Option Addr) (c:Nat) (ps:List Int) (w:World),Rep w F g D → IntsAt w A ps → (0 < ps.length → ∀ a,A = some a → ¬ F a.block) → ps.length * 8 ≤ reachBytes → (∀ p ∈ ps,-9223372036854775808 ≤ p ∧ p ≤ 9223372036854775807) → Calls Tryz.prog fCr #[.pointer (some ⟨g,0,none⟩),.slice A ps.length c] w fun e w'=>e = .returned (.tuple #[]) ∧ ∃ F',Rep w' F' g (crD D ps) ∧ Fr F F' w w'
structure LogF (fOp fAp fSy fRm fRs:FuncId) (Rep:RepT) (LRep:LRepT):Prop where
 lt:∀ {W F p g n l},LRep W F p g n l → ∀ k,F k → k < W.heap.size
 kept:∀ {W W' F p g n l},LRep W F p g n l → (∀ k,F k → W'.heap[k]? = W.heap[k]?) → LRep W' F p g n l
 opn:∀ {F g D} (w:World),Rep w F g D → Calls Tryz.prog fOp #[.pointer (some ⟨g,0,none⟩)] w fun e w'=>∃ F',Rep w' F' g (openP D).1 ∧
  match (openP D).2.1 with
  | none=>e = .returned (.tuple #[.pointer none,.int .i64 (openP D).2.2]) ∧ Fr F F' w w'
  | some l=>∃ p L,e = .returned (.tuple #[.pointer (some ⟨p,0,none⟩),.int .i64 (openP D).2.2]) ∧ LRep w' L p g (openP D).1.on.length l ∧ (∀ k,L k → ¬ F' k) ∧ Fr F (fun k=>F' k ∨ L k) w w'
 app:∀ {F L g p D l} (t:ByteArray) (w:World),Rep w F g D → LRep w L p g D.on.length l → (∀ k,L k → ¬ F k) → LgIn D l → D.down = false → t.size ≤ reachBytes →
  Calls Tryz.prog fAp #[.pointer (some ⟨p,0,none⟩),.string t] w fun e w'=>e = .returned (.int .i64 (appendP D l t).2) ∧ ∃ F' L',Rep w' F' g D ∧ LRep w' L' p g D.on.length (appendP D l t).1 ∧ (∀ k,L' k → ¬ F' k) ∧ Fr (fun k=>F k ∨ L k) (fun k=>F' k ∨ L' k) w w'
 syn:∀ {F L g p D l} (w:World),Rep w F g D → LRep w L p g D.on.length l → (∀ k,L k → ¬ F k) → LgIn D l → D.down = false →
  Calls Tryz.prog fSy #[.pointer (some ⟨p,0,none⟩)] w fun e w'=>e = .returned (.int .i64 (syncP D l).2.2) ∧ ∃ F' L',Rep w' F' g (syncP D l).1 ∧ LRep w' L' p g (syncP D l).1.on.length (syncP D l).2.1 ∧ (∀ k,L' k → ¬ F' k) ∧ Fr (fun k=>F k ∨ L k) (fun k=>F' k ∨ L' k) w w'
 room:∀ {F L g p D l} (w:World),Rep w F g D → LRep w L p g D.on.length l → (∀ k,L k → ¬ F k) → LgIn D l → D.down = false →
  Calls Tryz.prog fRm #[.pointer (some ⟨p,0,none⟩)] w fun e w'=>e = .returned (.int .i64 (roomN D l:Int)) ∧ ∃ F' L',Rep w' F' g D ∧ LRep w' L' p g D.on.length l ∧ (∀ k,L' k → ¬ F' k) ∧ Fr (fun k=>F k ∨ L k) (fun k=>F' k ∨ L' k) w w'
 rst:∀ {F L g p D l} (B:Option Addr) (cB:Nat) (ts:List ByteArray) (w:World),Rep w F g D → LRep w L p g D.on.length l → (∀ k,L k → ¬ F k) → LgIn D l → D.down = false →
  StrsAt w B ts → (B = none → cB = 0) → (0 < ts.length → ∀ x,B = some x → x.block < w.heap.size ∧ ¬ F x.block ∧ ¬ L x.block) → ts.length * 16 ≤ reachBytes → (∀ t ∈ ts,t.size ≤ reachBytes) → (allF ts).length ≤ 140737488355328 →
  Calls Tryz.prog fRs #[.pointer (some ⟨p,0,none⟩),.slice B ts.length cB] w fun e w'=>e = .returned (.int .i64 (restartP D l ts).2.2) ∧ ∃ F' L',Rep w' F' g (restartP D l ts).1 ∧ LRep w' L' p g (restartP D l ts).1.on.length (restartP D l ts).2.1 ∧ (∀ k,L' k → ¬ F' k) ∧ Fr (fun k=>F k ∨ L k) (fun k=>F' k ∨ L' k) w w'
def Side (Rep:RepT) (LRep:LRepT) (W:World) (F:Nat → Prop) (g:Nat) (D:Dev):Option (Nat × Lg) → Prop
 | none=>Rep W F g D
 | some (p,l)=>∃ Fd Fl:Nat → Prop,F = (fun k=>Fd k ∨ Fl k) ∧ Rep W Fd g D ∧ LRep W Fl p g D.on.length l ∧ (∀ k,Fl k → ¬ Fd k)
section
variable {f1 f2 f3 f4 f5 f6 f7 f8 f9 f10:FuncId} {Rep:RepT} {LRep:LRepT} {W W':World} {F G:Nat → Prop} {g:Nat} {D:Dev} {o:Option (Nat × Lg)}
theorem Side.lt (HD:DevF f1 f2 f3 f4 f5 Rep) (HL:LogF f6 f7 f8 f9 f10 Rep LRep) (h:Side Rep LRep W F g D o):∀ k,F k → k < W.heap.size:=fun k hk=>by
 cases o with
 | none=>exact HD.lt h k hk
 | some pl =>
  obtain ⟨Fd,Fl,rfl,h1,h2,_⟩:=h
  exact hk.elim (HD.lt h1 k) (HL.lt h2 k)
theorem Side.ok (HD:DevF f1 f2 f3 f4 f5 Rep) (h:Side Rep LRep W F g D o):DevOk D:=by
 cases o with
 | none=>exact HD.ok h
 | some pl=>obtain ⟨Fd,Fl,rfl,h1,_⟩:=h;exact HD.ok h1
theorem Side.kept (HD:DevF f1 f2 f3 f4 f5 Rep) (HL:LogF f6 f7 f8 f9 f10 Rep LRep) (h:Side Rep LRep W F g D o) (hk:∀ k,F k → W'.heap[k]? = W.heap[k]?):Side Rep LRep W' F g D o:=by
 cases o with
 | none=>exact HD.kept h hk
 | some pl =>
  obtain ⟨Fd,Fl,rfl,h1,h2,h3⟩:=h
  exact ⟨Fd,Fl,rfl,HD.kept h1 (fun k hF=>hk k (.inl hF)),HL.kept h2 (fun k hF=>hk k (.inr hF)),h3⟩
theorem fr_wide {Fd Fd':Nat → Prop} (hs:∀ k,Fd k → F k) (q2:Fr Fd Fd' W W'):Fr F Fd' W W' :=
 ⟨q2.os,q2.tape,q2.output,q2.size,fun i hi hn=>q2.block i hi (fun hf=>hn (hs i hf)),fun k hk=>(q2.foot k hk).elim (fun hq=>.inl (hs k hq)) .inr⟩
theorem Side.dev (h:Side Rep LRep W F g D o):∃ Fd:Nat → Prop,(∀ k,Fd k → F k) ∧ Rep W Fd g D:=by
 cases o with
 | none=>exact ⟨F,fun _ h=>h,h⟩
 | some pl=>obtain ⟨Fd,Fl,rfl,h1,_⟩:=h;exact ⟨Fd,fun _ h=>.inl h,h1⟩
theorem Side.crash (HD:DevF f1 f2 f3 f4 f5 Rep) (h:Side Rep LRep W F g D o) (A:Option Addr) (c:Nat) (ps:List Int) (hp:IntsAt W A ps) (hd:0 < ps.length → ∀ a,A = some a → ¬ F a.block) (hl:ps.length * 8 ≤ reachBytes) (hr:∀ p ∈ ps,-9223372036854775808 ≤ p ∧ p ≤ 9223372036854775807) :
  Calls Tryz.prog f5 #[.pointer (some ⟨g,0,none⟩),.slice A ps.length c] W fun e w'=>e = .returned (.tuple #[]) ∧ ∃ F',Side Rep LRep w' F' g (crD D ps) none ∧ Fr F F' W w':=by
 obtain ⟨Fd,hs,h1⟩:=h.dev
 refine (HD.crash A c ps W h1 hp (fun h0 a ha hf=>hd h0 a ha (hs _ hf)) hl hr).mono ?_
 rintro e w' ⟨rfl,Fd',q1,q2⟩
 exact ⟨rfl,Fd',q1,fr_wide hs q2⟩
def ptrV:Option (Nat × Lg) → Value
 | none=>.pointer none
 | some (p,_)=>.pointer (some ⟨p,0,none⟩)
theorem Side.opn (HL:LogF f6 f7 f8 f9 f10 Rep LRep) (h:Side Rep LRep W F g D o) :
  Calls Tryz.prog f6 #[.pointer (some ⟨g,0,none⟩)] W fun e w'=>∃ o',e = .returned (.tuple #[ptrV o',.int .i64 (openP D).2.2]) ∧ o'.map (·.2) = (openP D).2.1 ∧ ∃ F',Side Rep LRep w' F' g (openP D).1 o' ∧ Fr F F' W w':=by
 obtain ⟨Fd,hs,h1⟩:=h.dev
 refine (HL.opn W h1).mono ?_
 rintro e w' ⟨Fd',q1,q2⟩
 cases hv:(openP D).2.1 with
 | none =>
  rw [hv] at q2
  obtain ⟨rfl,q3⟩:=q2
  exact ⟨none,rfl,rfl,Fd',q1,fr_wide hs q3⟩
 | some l =>
  rw [hv] at q2
  obtain ⟨p,L,rfl,q3,q4,q5⟩:=q2
  exact ⟨some (p,l),rfl,rfl,_,⟨Fd',L,rfl,q1,q3,q4⟩,fr_wide hs q5⟩
section
variable {p:Nat} {l:Lg} (HL:LogF f6 f7 f8 f9 f10 Rep LRep) (h:Side Rep LRep W F g D (some (p,l))) (hi:LgIn D l) (hu:D.down = false)
include HL h hi hu
theorem Side.app (t:ByteArray) (ht:t.size ≤ reachBytes) :
  Calls Tryz.prog f7 #[.pointer (some ⟨p,0,none⟩),.string t] W fun e w'=>e = .returned (.int .i64 (appendP D l t).2) ∧ ∃ F',Side Rep LRep w' F' g D (some (p,(appendP D l t).1)) ∧ Fr F F' W w':=by
 obtain ⟨Fd,Fl,rfl,h1,h2,h3⟩:=h
 refine (HL.app t W h1 h2 h3 hi hu ht).mono ?_
 rintro e w' ⟨rfl,F',L',q1,q2,q3,q4⟩
 exact ⟨rfl,_,⟨F',L',rfl,q1,q2,q3⟩,q4⟩
theorem Side.syn :
  Calls Tryz.prog f8 #[.pointer (some ⟨p,0,none⟩)] W fun e w'=>e = .returned (.int .i64 (syncP D l).2.2) ∧ ∃ F',Side Rep LRep w' F' g (syncP D l).1 (some (p,(syncP D l).2.1)) ∧ Fr F F' W w':=by
 obtain ⟨Fd,Fl,rfl,h1,h2,h3⟩:=h
 refine (HL.syn W h1 h2 h3 hi hu).mono ?_
 rintro e w' ⟨rfl,F',L',q1,q2,q3,q4⟩
 exact ⟨rfl,_,⟨F',L',rfl,q1,q2,q3⟩,q4⟩
theorem Side.rst (B:Option Addr) (cB:Nat) (ts:List ByteArray) (hB:StrsAt W B ts) (hBn:B = none → cB = 0) (hBo:0 < ts.length → ∀ x,B = some x → x.block < W.heap.size ∧ ¬ F x.block) (hn:ts.length * 16 ≤ reachBytes) (hs:∀ t ∈ ts,t.size ≤ reachBytes) (hq:(allF ts).length ≤ 140737488355328) :
  Calls Tryz.prog f10 #[.pointer (some ⟨p,0,none⟩),.slice B ts.length cB] W fun e w'=>e = .returned (.int .i64 (restartP D l ts).2.2) ∧ ∃ F',Side Rep LRep w' F' g (restartP D l ts).1 (some (p,(restartP D l ts).2.1)) ∧ Fr F F' W w':=by
 obtain ⟨Fd,Fl,rfl,h1,h2,h3⟩:=h
 refine (HL.rst B cB ts W h1 h2 h3 hi hu hB hBn (fun hp x hx=>⟨(hBo hp x hx).1,fun hf=>(hBo hp x hx).2 (.inl hf),fun hf=>(hBo hp x hx).2 (.inr hf)⟩) hn hs hq).mono ?_
 rintro e w' ⟨rfl,F',L',q1,q2,q3,q4⟩
 exact ⟨rfl,_,⟨F',L',rfl,q1,q2,q3⟩,q4⟩
end
end
theorem cat_congr {D D':Dev} {a b:Nat}:∀ {i:Nat},(∀ k,k < i → flushF D' (areaAt D' a + k) = flushF D (areaAt D b + k)) → catS D' a i = catS D b i
 | 0,_=>rfl
 | i + 1,h=>by rw [catS_succ,catS_succ,cat_congr (i:=i) (fun k hk=>h k (by omega)),h i (by omega)]
theorem cat_block {D:Dev} (hok:DevOk D) (h:4 ≤ D.on.length) {a:Nat} (ha:a ≤ 1):∀ {m i:Nat},i < m → m ≤ areaN D / 64 → ((catS D a m).drop (64 * i)).take 64 = (flushF D (areaAt D a + i)).data.toList
 | 0,i,hi,_=>by omega
 | m + 1,i,hi,hm=>by
  have hl:=catS_len hok h ha m (by omega)
  have h64:(flushF D (areaAt D a + m)).data.toList.length = 64:=by rw [Array.length_toList];exact flush64 hok (area_fit h ha (by omega))
  rw [catS_succ]
  by_cases e:i = m
  ·subst e
   rw [List.drop_append_of_le_length (by omega),List.drop_of_length_le (by omega),List.nil_append,List.take_of_length_le (by omega)]
  ·rw [List.drop_append_of_le_length (by omega),List.take_append_of_le_length (by rw [List.length_drop];omega)]
   exact cat_block hok h ha (by omega) (by omega)
theorem stored_len {D:Dev} (hok:DevOk D) (h:4 ≤ D.on.length) {a n:Nat} (ha:a ≤ 1) (hn:n ≤ areaN D):(storedL D a n).length = n:=by
 have hd:areaN D / 64 * 64 = areaN D:=by unfold areaN;omega
 unfold storedL
 rw [List.length_take,catS_len hok h ha _ (by omega)]
 omega
theorem blk_take {all:List UInt8} {i:Nat} (_h:64 * i < all.length):(blkB all i).data.toList.take (all.length - 64 * i) = (all.drop (64 * i)).take 64:=by
 have hl:=rowB_len (all:=all) (i:=i) (Nat.le_refl _)
 show (rowB all i (limB all i)).take (all.length - 64 * i) = _
 unfold rowB
 have hd:(all.drop (64 * i)).length = all.length - 64 * i:=List.length_drop
 unfold limB
 by_cases h2:64 ≤ all.length - 64 * i
 ·rw [Nat.min_eq_left h2,Nat.sub_self,List.replicate_zero,List.append_nil,List.take_of_length_le (by rw [List.length_take];omega)]
 ·rw [Nat.min_eq_right (by omega),List.take_append_of_le_length (by rw [List.length_take];omega),List.take_take,Nat.min_self,List.take_of_length_le (by omega),List.take_of_length_le (by omega)]
theorem settle_stored {D D':Dev} (hok:DevOk D) (hok':DevOk D') (h4:4 ≤ D.on.length) (hlen:D'.on.length = D.on.length) {a q:Nat} (ha:a ≤ 1) (hq:q < 2) {H:ByteArray} {old more:List UInt8} (hz:(old ++ more).length ≤ areaN D)
  (hst:storedL D a old.length = old)
  (hv:∀ j,j < D.on.length → flushF D' j = if j = q then H else if areaAt D a + old.length / 64 ≤ j ∧ j < areaAt D a + old.length / 64 + manyW old more then blkB (old ++ more) (j - areaAt D a) else flushF D j) :
  storedL D' a (old ++ more).length = old ++ more:=by
 have hN:=areaN_on hlen
 have hA:=areaAt_on hlen a
 have hd:areaN D / 64 * 64 = areaN D:=by unfold areaN;omega
 have h2:2 ≤ areaAt D a:=by unfold areaAt;omega
 have hfit:∀ k,k < areaN D / 64 → areaAt D a + k < D.on.length:=fun k hk=>area_fit h4 ha hk
 by_cases hm:more = []
 ·subst hm
  rw [List.append_nil] at *
  unfold storedL at hst ⊢
  rw [cat_congr (D:=D) (b:=a) (fun k hk=>?_)]
  ·exact hst
  ·rw [hA,hv _ (hfit k (by omega)),if_neg (by omega),if_neg]
   unfold manyW
   rw [if_pos rfl]
   omega
 have hmw:manyW old more = ((old ++ more).length + 63) / 64 - old.length / 64:=by unfold manyW;rw [if_neg hm]
 have hlm:old.length ≤ (old ++ more).length:=by rw [List.length_append];omega
 have hmp:1 ≤ more.length:=by
  cases more with
  | nil=>exact absurd rfl hm
  | cons x xs=>simp
 have hal:(old ++ more).length = old.length + more.length:=List.length_append
 have key:∀ i,i ≤ ((old ++ more).length + 63) / 64 → (catS D' a i).take (old ++ more).length = (old ++ more).take (64 * i):=by
  intro i
  induction i with
  | zero=>intro _;simp [catS]
  | succ i ih =>
   intro hi
   have ih:=ih (by omega)
   have hlc:=catS_len hok' (by omega) ha i (by rw [hN];omega)
   have hlt:64 * i < (old ++ more).length:=by omega
   rw [catS_succ,List.take_append,hlc]
   rw [ih]
   have e2:(old ++ more).take (64 * (i + 1)) = (old ++ more).take (64 * i) ++ ((old ++ more).drop (64 * i)).take 64:=by
    rw [show 64 * (i + 1) = 64 * i + 64 by omega,List.take_add]
   rw [e2]
   congr 1
   rw [hA,hv _ (hfit i (by omega)),if_neg (by omega)]
   by_cases hf:old.length / 64 ≤ i
   ·rw [if_pos (by omega),Nat.add_sub_cancel_left]
    exact blk_take hlt
   ·rw [if_neg (by omega)]
    have hblk:=cat_block hok h4 ha (m:=(old.length + 63) / 64) (i:=i) (by omega) (by omega)
    have h64:(flushF D (areaAt D a + i)).data.toList.length = 64:=by rw [Array.length_toList];exact flush64 hok (hfit i (by omega))
    rw [List.take_of_length_le (by omega),← hblk]
    rw [List.drop_append_of_le_length (by omega),List.take_append_of_le_length (by rw [List.length_drop];omega)]
    conv=>rhs;rw [← hst]
    unfold storedL
    rw [List.drop_take,List.take_take,Nat.min_eq_left (by omega)]
 have hk:=key (((old ++ more).length + 63) / 64) (Nat.le_refl _)
 unfold storedL
 rw [hk,List.take_of_length_le (by omega)]
theorem hds_none {D:Dev}:∀ {i:Nat},hdsP D i = none → ∀ j,j < i → ¬ okH (areaN D) (flushF D j).data.toList
 | 0,_,_,_=>by omega
 | i + 1,e,j,hj=>by
  unfold hdsP at e
  split at e
  ·cases e
  next hc =>
   by_cases hji:j = i
   ·subst hji
    intro ho
    exact hc ⟨ho,fun h' e'=>by rw [e] at e';cases e'⟩
   ·exact hds_none e j (by omega)
theorem hds_max {D:Dev}:∀ {i:Nat} {h:Nat × Nat × Nat},hdsP D i = some h → ∀ j,j < i → okH (areaN D) (flushF D j).data.toList → cOf (flushF D j).data.toList ≤ h.1
 | 0,_,e,_,_,_=>by cases e
 | i + 1,h,e,j,hj,ho=>by
  unfold hdsP at e
  split at e
  next hc =>
   cases e
   by_cases hji:j = i
   ·subst hji;exact Nat.le_refl _
   ·cases hp:hdsP D i with
    | none=>exact absurd ho (hds_none hp j (by omega))
    | some h'=>exact Nat.le_trans (hds_max hp j (by omega) ho) (Nat.le_of_lt (hc.2 h' hp))
  next hc =>
   by_cases hji:j = i
   ·subst hji
    have:¬ ∀ h',hdsP D j = some h' → h'.1 < cOf (flushF D j).data.toList:=fun hall=>hc ⟨ho,hall⟩
    rw [e] at this
    refine Nat.le_of_not_lt fun hlt=>this fun h' e'=>?_
    cases e';exact hlt
   ·exact hds_max e j (by omega) ho
theorem hds_new {D':Dev} {q c a n:Nat} (hq:q < 2) (hab:areaN D' < 256 ^ 8) (hc1:1 ≤ c) (hc:c ≤ 4611686018427387904) (ha:a ≤ 1) (hn:n ≤ areaN D') (hv:flushF D' q = headB c a n)
  (ho:∀ j,j < 2 → j ≠ q → okH (areaN D') (flushF D' j).data.toList → cOf (flushF D' j).data.toList < c):hdsP D' 2 = some (c,a,n):=by
 have hL:(headB c a n).data.toList = headL c a n:=by unfold headB;simp
 have hok:okH (areaN D') (flushF D' q).data.toList:=by rw [hv,hL];exact ok_head hc1 hc ha hn hab
 have e1:cOf (flushF D' q).data.toList = c:=by rw [hv,hL];exact c_head a n (by omega)
 have e2:aOf (flushF D' q).data.toList = a:=by rw [hv,hL];exact a_head (by omega)
 have e3:lOf (flushF D' q).data.toList = n:=by rw [hv,hL];exact l_head c a (by omega)
 have hs:∀ i,hdsP D' (i + 1) = if okH (areaN D') (flushF D' i).data.toList ∧ (∀ h,hdsP D' i = some h → h.1 < cOf (flushF D' i).data.toList) then some (cOf (flushF D' i).data.toList,aOf (flushF D' i).data.toList,lOf (flushF D' i).data.toList) else hdsP D' i:=fun _=>rfl
 have h0:hdsP D' 0 = none:=rfl
 rcases (show q = 0 ∨ q = 1 by omega) with rfl | rfl
 ·have h1:hdsP D' 1 = some (c,a,n):=by
   rw [hs 0,if_pos ⟨hok,fun h e=>by rw [h0] at e;cases e⟩,e1,e2,e3]
  rw [hs 1,if_neg,h1]
  rintro ⟨g1,g2⟩
  have:=g2 _ h1
  have:=ho 1 (by omega) (by omega) g1
  omega
 ·rw [hs 1,if_pos,e1,e2,e3]
  refine ⟨hok,fun h e=>?_⟩
  rw [e1]
  rw [hs 0] at e
  split at e
  next hc0 =>
   cases e
   exact ho 0 (by omega) (by omega) hc0.1
  ·rw [h0] at e;cases e
end Rd
end Go.Proofs.YtbkanoblcojdfaaGreat
namespace Go.Proofs.YtbkanoblcojdfaaGreat
namespace Su
open Go.RowKit Bk
theorem take2_frame (t:List UInt8) (n:Nat) (h:2 ≤ n) (r:List UInt8):((frameL t ++ r).take n).take 2 = le 2 t.length:=by
 rw [List.take_take,Nat.min_eq_left h]
 unfold frameL
 rw [List.append_assoc,List.append_assoc,List.take_append_of_le_length (by rw [le_length];omega),List.take_of_length_le (by rw [le_length];omega)]
theorem num_frame (t:List UInt8) (ht:t.length ≤ 4096):num (le 2 t.length) = t.length:=num_le 2 _ (by show _ < 65536;omega)
theorem restR_frame (t r:List UInt8) (ht:t.length ≤ 4096):restR (frameL t ++ r) = .ok t:=by
 have hl:(frameL t ++ r).length = t.length + 6 + r.length:=by rw [List.length_append,frameL_len]
 have h2:=take2_frame t (frameL t ++ r).length (by omega) r
 rw [List.take_of_length_le (Nat.le_refl _)] at h2
 have h3:(frameL t ++ r).take (t.length + 6) = frameL t:=by
  rw [List.take_append_of_le_length (by rw [frameL_len];omega),List.take_of_length_le (by rw [frameL_len];omega)]
 have h4:((frameL t ++ r).drop 2).take t.length = t:=by
  unfold frameL
  rw [List.append_assoc,List.append_assoc,List.drop_append_of_le_length (by rw [le_length];omega),List.drop_eq_nil_of_le (by rw [le_length];omega),List.nil_append,List.take_append_of_le_length (Nat.le_refl _),List.take_of_length_le (Nat.le_refl _)]
 unfold restR
 rw [if_neg (by omega),h2,num_frame t ht,if_neg (by omega),if_neg (by omega),h4,if_pos h3]
def framesL (l:List (List UInt8)):List UInt8:=l.flatMap frameL
theorem framesL_cons (t:List UInt8) (l:List (List UInt8)):framesL (t :: l) = frameL t ++ framesL l:=rfl
theorem walkR_frames:∀ (l:List (List UInt8)) (f a:Nat),(∀ t ∈ l,t.length ≤ 4096) → (framesL l).length ≤ f → walkR f (framesL l) a = (l.map (fun t=>⟨t.toArray⟩),a + (framesL l).length,0)
 | [],f,a,_,_=>by
  show walkR f [] a = _
  rw [walkR_nil];rfl
 | t :: l,f,a,hl,hf=>by
  have ht:=hl t (List.mem_cons_self ..)
  rw [framesL_cons,List.length_append,frameL_len] at hf
  obtain ⟨f,rfl⟩:∃ k,f = k + 1:=⟨f - 1,by omega⟩
  have hr:=restR_frame t (framesL l) ht
  rw [framesL_cons,walkR_ok (by intro h;have:=congrArg List.length h;rw [List.length_append,frameL_len] at this;simp at this) hr]
  rw [List.drop_append_of_le_length (by rw [frameL_len];omega),List.drop_eq_nil_of_le (by rw [frameL_len];omega),List.nil_append,walkR_frames l f _ (fun x hx=>hl x (List.mem_cons_of_mem _ hx)) (by omega),List.length_append,frameL_len]
  simp only [List.map_cons]
  congr 2
  omega
end Su
end Go.Proofs.YtbkanoblcojdfaaGreat
