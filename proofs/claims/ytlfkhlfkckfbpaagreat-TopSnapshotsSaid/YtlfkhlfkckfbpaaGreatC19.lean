/- Parts of the proof, joined: PkDone1, PkDone2, PkDone3, PkDone4; their conditions stand with each. -/
import Derived.Test.YtlfkhlfkckfbpaaGreatC4
import Derived.Test.YtlfkhlfkckfbpaaGreatC13
import Derived.Test.YtlfkhlfkckfbpaaGreatC18

set_option maxRecDepth 20000
set_option maxHeartbeats 8000000
namespace Go.Proofs.YtlfkhlfkckfbpaaGreat
namespace Pk
open Go.RowKit Bk
attribute [local go_sem ↓] Go.wp_at_zero Go.wp_at_succ
attribute [local go_sem] floatUpon pick
theorem u64_wrap {x:Int} (h0:0 ≤ x) (h1:x ≤ 18446744073709551615):IntKind.u64.wrap x = x:=by
 simp only [IntKind.wrap,IntKind.bits,IntKind.signed];simp;omega
theorem writeInt_any (b n:Nat) (L:List UInt8) (w:World) (h:Bld b L w) (hn:n ≤ 9223372036854775807) (hL:L.length ≤ 1000000000000) :
  Calls Tryz.prog 131 #[.pointer (some ⟨b,0,none⟩),.int .i64 (n:Int)] w fun e w'=>e = .returned (.tuple #[]) ∧ Bld b (L ++ plain n) w' ∧ Below b w w':=by
 have H:=Lib.hid h
 clear h
 go_enter Tryz.func131,Tryz.ntmps131
 go_wp2_with fail
 go_loopw [1] (fun c wr=>∃ (m:Nat) (O:List UInt8),m ≤ n ∧ Hid (plain n = O ++ plain m) ∧ c = .int .i64 (m:Int) ∧ Hid (Bld b (L ++ O) wr) ∧ Hid (Below b w wr)) (fun c _=>(intOf c).toNat)
 case atStart=>exact ⟨n,[],Nat.le_refl _,rfl,rfl,by rw [List.append_nil];exact H.out,Below.refl _ _⟩
 case round =>
  obtain ⟨m,O,hmn,hpl,rfl,hB,hbel⟩:=hrel
  have hOl:O.length ≤ 8:=by
   have h1:=plain_len 9 n (by show n < 9223372036854775808;omega) (by omega)
   have h2:=plain_pos m
   rw [hpl.out,List.length_append] at h1
   omega
  have hlen:(L ++ O).length + 1 ≤ 140737488355328:=by rw [List.length_append];omega
  by_cases hlt:128 ≤ m
  ·have pm:(128:Int) ≤ (m:Int):=by omega
   have hmod:(m:Int).tmod 128 = ((m % 128:Nat):Int):=by rw [Int.tmod_eq_emod_of_nonneg (by omega)];omega
   have hdiv:(m:Int).tdiv 128 = ((m / 128:Nat):Int):=by rw [Int.tdiv_eq_ediv_of_nonneg (by omega)];omega
   have hp2:plain n = (O ++ [UInt8.ofNat (m % 128 + 128)]) ++ plain (m / 128):=by rw [hpl.out,plain_big hlt,List.append_assoc];rfl
   have hx:m % 128 < 128:=by omega
   have hy:m / 128 + 1 ≤ m:=by omega
   have hc1:=bld_byte (m % 128 + 128) hB.out (by omega) hlen
   rw [Int.natCast_add] at hc1
   generalize hxe:m % 128 = x at hmod hc1 hx hp2
   generalize hye:m / 128 = y at hdiv hy hp2
   have hxi:(x:Int) < 128:=by omega
   have hcv:IntKind.u8.wrap (x:Int) = (x:Int):=u8_wrap (by omega) (by omega)
   have hcv2:IntKind.u8.wrap ((x:Int) + 128) = (x:Int) + 128:=u8_wrap (by omega) (by omega)
   have HC:=Lib.hid hc1
   have HP:=Lib.hid hp2
   clear hc1 hp2 hxe hye hpl hB hlen hOl
   go_wp2_with fail
   refine HC.out.mono ?_
   rintro e w2 ⟨rfl,h2,hb⟩
   have HB2:=Lib.hid h2
   have HL2:=Lib.hid (hbel.out.trans hb)
   clear h2 hb hbel HC
   go_wp2_with fail
   go_roundw
   case rel=>exact ⟨y,O ++ [UInt8.ofNat (x + 128)],by omega,HP.out,rfl,by rw [← List.append_assoc];exact HB2.out,HL2.out⟩
   case measure=>simp [intOf];omega
  ·have pm:(m:Int) < 128:=by omega
   have hcv:IntKind.u8.wrap (m:Int) = (m:Int):=u8_wrap (by omega) (by omega)
   have hp2:plain n = O ++ [UInt8.ofNat m]:=by rw [hpl.out,plain_small (by omega)]
   have HC:=Lib.hid (bld_byte m hB.out (by omega) hlen)
   have HP:=Lib.hid hp2
   clear hp2 hpl hB hlen hOl
   go_wp2_with fail
   refine HC.out.mono ?_
   rintro e w2 ⟨rfl,h2,hb⟩
   have HB2:=Lib.hid h2
   have HL2:=Lib.hid (hbel.out.trans hb)
   clear h2 hb hbel HC
   go_wp2_with fail
   go_end0
   exact ⟨rfl,by rw [HP.out,← List.append_assoc];exact HB2.out,HL2.out⟩
theorem writeFolded_any (b n:Nat) (L:List UInt8) (w:World) (h:Bld b L w) (hn:n < 9223372036854775808) (hL:L.length ≤ 1000000000000) :
  Calls Tryz.prog 132 #[.pointer (some ⟨b,0,none⟩),.int .u64 (n:Int)] w fun e w'=>e = .returned (.tuple #[]) ∧ Bld b (L ++ plain n) w' ∧ Below b w w':=by
 have H:=Lib.hid h
 clear h
 go_enter Tryz.func132,Tryz.ntmps132
 go_wp2_with fail
 go_loopw [1] (fun c wr=>∃ (m:Nat) (O:List UInt8),m ≤ n ∧ Hid (plain n = O ++ plain m) ∧ c = .int .u64 (m:Int) ∧ Hid (Bld b (L ++ O) wr) ∧ Hid (Below b w wr)) (fun c _=>(intOf c).toNat)
 case atStart=>exact ⟨n,[],Nat.le_refl _,rfl,rfl,by rw [List.append_nil];exact H.out,Below.refl _ _⟩
 case round =>
  obtain ⟨m,O,hmn,hpl,rfl,hB,hbel⟩:=hrel
  have hOl:O.length ≤ 8:=by
   have h1:=plain_len 9 n (by show n < 9223372036854775808;omega) (by omega)
   have h2:=plain_pos m
   rw [hpl.out,List.length_append] at h1
   omega
  have hlen:(L ++ O).length + 1 ≤ 140737488355328:=by rw [List.length_append];omega
  by_cases hlt:128 ≤ m
  ·have pm:(128:Int) ≤ (m:Int):=by omega
   have hmod:(m:Int).tmod 128 = ((m % 128:Nat):Int):=by rw [Int.tmod_eq_emod_of_nonneg (by omega)];omega
   have hdiv:(m:Int).tdiv 128 = ((m / 128:Nat):Int):=by rw [Int.tdiv_eq_ediv_of_nonneg (by omega)];omega
   have hp2:plain n = (O ++ [UInt8.ofNat (m % 128 + 128)]) ++ plain (m / 128):=by rw [hpl.out,plain_big hlt,List.append_assoc];rfl
   have hx:m % 128 < 128:=by omega
   have hy:m / 128 + 1 ≤ m:=by omega
   have hc1:=bld_byte (m % 128 + 128) hB.out (by omega) hlen
   rw [Int.natCast_add] at hc1
   generalize hxe:m % 128 = x at hmod hc1 hx hp2
   generalize hye:m / 128 = y at hdiv hy hp2
   have hxi:(x:Int) < 128:=by omega
   have hcv:IntKind.u8.wrap (x:Int) = (x:Int):=u8_wrap (by omega) (by omega)
   have hcv2:IntKind.u8.wrap ((x:Int) + 128) = (x:Int) + 128:=u8_wrap (by omega) (by omega)
   have HC:=Lib.hid hc1
   have HP:=Lib.hid hp2
   clear hc1 hp2 hxe hye hpl hB hlen hOl
   go_wp2_with fail
   refine HC.out.mono ?_
   rintro e w2 ⟨rfl,h2,hb⟩
   have HB2:=Lib.hid h2
   have HL2:=Lib.hid (hbel.out.trans hb)
   clear h2 hb hbel HC
   go_wp2_with fail
   go_roundw
   case rel=>exact ⟨y,O ++ [UInt8.ofNat (x + 128)],by omega,HP.out,rfl,by rw [← List.append_assoc];exact HB2.out,HL2.out⟩
   case measure=>simp [intOf];omega
  ·have pm:(m:Int) < 128:=by omega
   have hcv:IntKind.u8.wrap (m:Int) = (m:Int):=u8_wrap (by omega) (by omega)
   have hp2:plain n = O ++ [UInt8.ofNat m]:=by rw [hpl.out,plain_small (by omega)]
   have HC:=Lib.hid (bld_byte m hB.out (by omega) hlen)
   have HP:=Lib.hid hp2
   clear hp2 hpl hB hlen hOl
   go_wp2_with fail
   refine HC.out.mono ?_
   rintro e w2 ⟨rfl,h2,hb⟩
   have HB2:=Lib.hid h2
   have HL2:=Lib.hid (hbel.out.trans hb)
   clear h2 hb hbel HC
   go_wp2_with fail
   go_end0
   exact ⟨rfl,by rw [HP.out,← List.append_assoc];exact HB2.out,HL2.out⟩
theorem fold_any (z:Int) (w:World) (hz:numOk z) :
  Calls Tryz.prog 133 #[.int .i64 z] w fun e w'=>e = .returned (.int .u64 ((zig z:Nat):Int)) ∧ w' = w:=by
 obtain ⟨z1,z2⟩:=hz
 by_cases h0:z < 0
 ·have E:=Lib.hid (show ((zig z:Nat):Int) = 2 * -z - 1 by unfold zig;rw [if_pos h0];omega)
  have c1:IntKind.u64.wrap (-z) = -z:=u64_wrap (by omega) (by omega)
  have c2:IntKind.u64.wrap (2 * -z) = 2 * -z:=u64_wrap (by omega) (by omega)
  have c3:IntKind.u64.wrap (2 * -z - 1) = 2 * -z - 1:=u64_wrap (by omega) (by omega)
  go_enter Tryz.func133,Tryz.ntmps133
  go_wp2_with fail
  go_ret
  exact ⟨by rw [E.out];rfl,rfl⟩
 ·have hp:0 ≤ z:=by omega
  have E:=Lib.hid (show ((zig z:Nat):Int) = 2 * z by unfold zig;rw [if_neg h0];omega)
  have c1:IntKind.u64.wrap z = z:=u64_wrap (by omega) (by omega)
  have c2:IntKind.u64.wrap (2 * z) = 2 * z:=u64_wrap (by omega) (by omega)
  clear h0
  go_enter Tryz.func133,Tryz.ntmps133
  go_wp2_with fail
  go_ret
  exact ⟨by rw [E.out];rfl,rfl⟩
theorem isNumber_any (z:Int) (w:World) (_hz:-9223372036854775808 ≤ z ∧ z ≤ 9223372036854775807) :
  Calls Tryz.prog 179 #[.int .i64 z] w fun e w'=>e = .returned (.bool (decide (numOk z))) ∧ w' = w:=by
 by_cases h:numOk z
 ·have E:=Lib.hid (show decide (numOk z) = true by simpa using h)
  obtain ⟨h1,h2⟩:=h
  go_enter Tryz.func179,Tryz.ntmps179
  go_wp2_with fail
  go_ret
  exact ⟨by rw [E.out];rfl,rfl⟩
 ·have E:=Lib.hid (show decide (numOk z) = false by simpa using h)
  by_cases h1:-4611686018427387904 ≤ z
  ·have h2:4611686018427387903 < z:=by
    by_cases h2:z ≤ 4611686018427387903
    ·exact absurd ⟨h1,h2⟩ h
    ·omega
   have H3:=Lib.hid (show decide (z ≤ 4611686018427387903) = false by rw [decide_eq_false_iff_not];omega)
   clear h
   go_enter Tryz.func179,Tryz.ntmps179
   go_wp2_with fail
   go_ret
   exact ⟨by rw [E.out,← H3.out];rfl,rfl⟩
  ·have h2:z < -4611686018427387904:=by omega
   clear h h1
   go_enter Tryz.func179,Tryz.ntmps179
   go_wp2_with fail
   go_ret
   exact ⟨by rw [E.out];rfl,rfl⟩
theorem checkAll:CheckAll:=by
 intro A B c d ns ts w ha hb hArg
 have hr:=hArg.range
 obtain ⟨hn,ht,hnr,htr⟩:=hr
 clear hArg
 unfold packV
 have hbel:Below w.heap.size w (w.alloc (.cells #[.slice A ns.length c,.slice B ts.length d] 148)):=(Below.refl _ w).alloc (Nat.le_refl _) _
 have HBl:=Lib.hid hbel
 by_cases hlong:1024 < ns.length ∨ 1024 < ts.length
 ·have E:=Lib.hid (ckE_long hlong)
  clear hbel ha hb hnr htr
  by_cases h1:1024 < ns.length
  ·have p1:(1024:Int) < (ns.length:Int):=by omega
   clear hlong
   go_enter Tryz.func130,Tryz.ntmps130
   go_wp2_with fail
   go_ret
   exact ⟨by rw [E.out];rfl,HBl.out⟩
  ·have p1:(ns.length:Int) ≤ 1024:=by omega
   have p2:(1024:Int) < (ts.length:Int):=by omega
   clear hlong
   go_enter Tryz.func130,Tryz.ntmps130
   go_wp2_with fail
   go_ret
   exact ⟨by rw [E.out];rfl,HBl.out⟩
 ·have p1:(ns.length:Int) ≤ 1024:=by omega
  have p2:(ts.length:Int) ≤ 1024:=by omega
  have hblk:=(blk1 w (.cells #[.slice A ns.length c,.slice B ts.length d] 148)).2
  have c0:(w.alloc (.cells #[.slice A ns.length c,.slice B ts.length d] 148)).cell? ⟨w.heap.size,0,none⟩ = some (.slice A ns.length c):=blk_cell hblk rfl
  have c1:(w.alloc (.cells #[.slice A ns.length c,.slice B ts.length d] 148)).cell? ⟨w.heap.size,1,none⟩ = some (.slice B ts.length d):=blk_cell hblk rfl
  have HA:=Lib.hid (ha.alloc (.cells #[.slice A ns.length c,.slice B ts.length d] 148))
  have HB:=Lib.hid (hb.alloc (.cells #[.slice A ns.length c,.slice B ts.length d] 148))
  have HNR:=Lib.hid hnr
  have HTR:=Lib.hid htr
  have HL:=Lib.hid hlong
  clear hbel hlong hblk ha hb hnr htr
  go_enter Tryz.func130,Tryz.ntmps130
  go_upto_region 3 with fail
  generalize w.alloc (.cells #[.slice A ns.length c,.slice B ts.length d] 148) = W1 at *
  go_wp2_with fail
  go_loopw [20] (fun i wr=>∃ j:Nat,j ≤ ns.length ∧ i = .int .i64 (j:Int) ∧ Hid (∀ n ∈ ns.take j,numOk n) ∧ wr = W1) (fun i _=>ns.length - (intOf i).toNat)
  case atStart=>exact ⟨0,by omega,rfl,fun n hn=>absurd hn (by simp),rfl⟩
  case round =>
   obtain ⟨j,hj,rfl,hall,rfl⟩:=hrel
   by_cases hlt:j < ns.length
   ·have pj:(j:Int) < (ns.length:Int):=by omega
    obtain ⟨ad,rfl,hab,hcl⟩:=HA.out (by omega)
    have x1:=hcl j hlt
    have hmem:ns[j] ∈ ns:=List.getElem_mem hlt
    have HN:=Lib.hid (fun W=>isNumber_any ns[j] W (HNR.out _ hmem))
    by_cases hz:numOk ns[j]
    ·have hall2:=mem_take_succ hlt hall.out hz
     have HA2:=Lib.hid hall2
     rw [show decide (numOk ns[j]) = true by simpa using hz] at HN
     generalize ns[j] = z at x1 HN
     clear hcl hmem hz hall2 hall
     go_wp2_with fail
     refine (HN.out _).mono ?_
     rintro e w' ⟨rfl,rfl⟩
     go_wp2_with fail
     go_roundw
     case rel=>exact ⟨j + 1,by omega,by go_num,HA2.out,trivial⟩
     case measure=>simp [intOf];omega
    ·have E:=Lib.hid (ckE_num HL.out hmem hz)
     rw [show decide (numOk ns[j]) = false by simpa using hz] at HN
     generalize ns[j] = z at x1 HN
     clear hcl hmem hz hall
     go_wp2_with fail
     refine (HN.out _).mono ?_
     rintro e w' ⟨rfl,rfl⟩
     go_wp2_with fail
     go_ret
     exact ⟨by rw [E.out];rfl,HBl.out⟩
   ·obtain rfl:j = ns.length:=by omega
    have hall2:=hall.out
    rw [List.take_length] at hall2
    have HAll:=Lib.hid hall2
    clear hall hall2
    go_wp2_with fail
    obtain ⟨wo,rfl⟩:∃ wo:World,wo = wr:=⟨_,rfl⟩
    go_loopw [31] (fun i wr=>∃ j:Nat,j ≤ ts.length ∧ i = .int .i64 (j:Int) ∧ Hid (∀ t ∈ ts.take j,t.size ≤ 4096) ∧ wr = wo) (fun i _=>ts.length - (intOf i).toNat)
    case atStart=>exact ⟨0,by omega,rfl,fun n hn=>absurd hn (by simp),rfl⟩
    case round =>
     obtain ⟨j,hj,rfl,hall,rfl⟩:=hrel
     by_cases hlt:j < ts.length
     ·have pj:(j:Int) < (ts.length:Int):=by omega
      obtain ⟨bd,rfl,hbb,hcl⟩:=HB.out (by omega)
      have x1:=hcl j hlt
      have hmem:ts[j] ∈ ts:=List.getElem_mem hlt
      by_cases hz:ts[j].size ≤ 4096
      ·have hall2:=mem_take_succ hlt hall.out hz
       have HA2:=Lib.hid hall2
       have hz':(ts[j].size:Int) ≤ 4096:=by omega
       generalize ts[j] = z at x1 hz'
       clear hcl hmem hz hall2 hall
       go_wp2_with fail
       go_roundw
       case rel=>exact ⟨j + 1,by omega,by go_num,HA2.out,trivial⟩
       case measure=>simp [intOf];omega
      ·have E:=Lib.hid (ckE_text HL.out HAll.out hmem (by omega))
       have hz':(4096:Int) < (ts[j].size:Int):=by omega
       generalize ts[j] = z at x1 hz'
       clear hcl hmem hz hall
       go_wp2_with fail
       go_ret
       exact ⟨by rw [E.out];rfl,HBl.out⟩
     ·obtain rfl:j = ts.length:=by omega
      have hall2:=hall.out
      rw [List.take_length] at hall2
      have E:=Lib.hid (ckE_ok HL.out HAll.out hall2)
      clear hall hall2
      go_wp2_with fail
      go_ret
      exact ⟨by rw [E.out];rfl,HBl.out⟩
theorem encodeAll:EncodeAll:=by
 intro A B c d ns ts w ha hb hArg
 have HC:=Lib.hid (fun W (hbl:Below w.heap.size w W)=>checkAll A B c d ns ts W (ha.below hbl) (hb.below hbl) hArg)
 have hle:=ckE_le ns ts
 have HE:=Lib.hid (PkEnv.start (c:=c) (d:=d) ha hb)
 by_cases hm:ckE ns ts = 0
 ·have hmb:=ckE_zero.1 hm
  have E:=Lib.hid (encV_ok hmb)
  have HM:=Lib.hid hmb
  have p1:(ns.length:Int) ≤ 1024:=by have:=hmb.1;omega
  have p2:(ts.length:Int) ≤ 1024:=by have:=hmb.2.1;omega
  rw [hm] at HC
  unfold packV at HC ⊢
  clear ha hb hArg hm hle hmb
  go_enter Tryz.func86,Tryz.ntmps86
  go_wp2_with fail
  refine (HC.out _ ((Below.refl _ w).alloc (Nat.le_refl _) _)).mono ?_
  rintro e w1 ⟨rfl,hb⟩
  have HE1:=Lib.hid (HE.out.step hb)
  clear hb HC HE
  go_upto_region 5 with fail
  have hbn:=Bld.new w1
  have hbw:Below w1.heap.size w1 (w1.alloc (.cells #[.pointer none,.slice none 0 0] 182)):=(Below.refl _ _).alloc (Nat.le_refl _) _
  have HW1:=Lib.hid (fun W (h:Bld w1.heap.size [] W)=>writeInt_any w1.heap.size ns.length [] W h (by omega) (by simp))
  have HB2:=Lib.hid hbn
  have HL2:=Lib.hid hbw
  have HE2:=Lib.hid (HE1.out.step hbw)
  clear hbn hbw
  generalize w1.alloc (.cells #[.pointer none,.slice none 0 0] 182) = W2 at *
  generalize hbb:w1.heap.size = b at *
  have c0:=HE2.out.c0
  go_wp2_with fail
  refine (HW1.out _ HB2.out).mono ?_
  rintro e w3 ⟨rfl,h3,hb⟩
  have HB3:=Lib.hid h3
  have HL3:=Lib.hid (HL2.out.trans hb)
  have HE3:=Lib.hid (HE1.out.step (by rw [hbb];exact HL2.out.trans hb))
  clear h3 hb HW1 HB2 HL2 HE2 c0
  have c0:=HE3.out.c0
  go_wp2_with fail
  go_loopw [22] (fun i wr=>∃ j:Nat,j ≤ ns.length ∧ i = .int .i64 (j:Int) ∧ Hid (Bld b (plain ns.length ++ numsL (ns.take j)) wr) ∧ Hid (Below b w1 wr)) (fun i _=>ns.length - (intOf i).toNat)
  case atStart=>exact ⟨0,by omega,rfl,by rw [List.take_zero];simp only [numsL,List.flatMap_nil,List.append_nil];exact HB3.out,HL3.out⟩
  case round =>
   obtain ⟨j,hj,rfl,hB,hL⟩:=hrel
   have hE:=Lib.hid (HE1.out.step (by rw [hbb];exact hL.out))
   clear HE3 HB3 HL3 c0
   by_cases hlt:j < ns.length
   ·have pj:(j:Int) < (ns.length:Int):=by omega
    obtain ⟨ad,rfl,hab,hcl⟩:=hE.out.1 (by omega)
    have x1:=hcl j hlt
    have hz:=HM.out.2.2.1 _ (List.getElem_mem hlt)
    have HF:=Lib.hid (fun W=>fold_any ns[j] W hz)
    have HW:=Lib.hid (writeFolded_any b (zig ns[j]) (plain ns.length ++ numsL (ns.take j)) _ hB.out (zig_lt hz) (by have:=(bytesL_at HM.out j 0).1;omega))
    have hsc:(plain ns.length ++ numsL (ns.take j)) ++ plain (zig ns[j]) = plain ns.length ++ numsL (ns.take (j + 1)):=by
     rw [numsL_succ hlt,List.append_assoc];rfl
    rw [hsc] at HW
    generalize ns[j] = z at x1 HF HW
    clear hcl hz hsc hB hab
    go_wp2_with fail
    refine (HF.out _).mono ?_
    rintro e w4 ⟨rfl,rfl⟩
    go_wp2_with fail
    refine HW.out.mono ?_
    rintro e w5 ⟨rfl,h5,hb⟩
    have HB5:=Lib.hid h5
    have HL5:=Lib.hid (hL.out.trans hb)
    clear h5 hb hL HW HF
    go_wp2_with fail
    go_roundw
    case rel=>exact ⟨j + 1,by omega,by go_num,HB5.out,HL5.out⟩
    case measure=>simp [intOf];omega
   ·obtain rfl:j = ns.length:=by omega
    rw [List.take_length] at hB
    have c1:=hE.out.c1
    have HW:=Lib.hid (writeInt_any b ts.length (plain ns.length ++ numsL ns) _ hB.out (by omega) (by have:=(bytesL_at HM.out ns.length 0).1;rw [List.take_length] at this;omega))
    clear hB
    go_wp2_with fail
    refine HW.out.mono ?_
    rintro e w3 ⟨rfl,h3,hb⟩
    have HB3:=Lib.hid h3
    have HL3:=Lib.hid (hL.out.trans hb)
    have HE3:=Lib.hid (HE1.out.step (by rw [hbb];exact hL.out.trans hb))
    clear h3 hb HW hE hL c1
    have c1:=HE3.out.c1
    go_wp2_with fail
    go_loopw [37] (fun i wr=>∃ j:Nat,j ≤ ts.length ∧ i = .int .i64 (j:Int) ∧ Hid (Bld b (plain ns.length ++ (numsL ns ++ (plain ts.length ++ textsL (ts.take j)))) wr) ∧ Hid (Below b w1 wr)) (fun i _=>ts.length - (intOf i).toNat)
    case atStart =>
     refine ⟨0,by omega,rfl,?_,HL3.out⟩
     have:=HB3.out
     rw [List.append_assoc] at this
     rw [List.take_zero]
     simp only [textsL,List.flatMap_nil,List.append_nil]
     exact this
    case round =>
     obtain ⟨j,hj,rfl,hB,hL⟩:=hrel
     have hE:=Lib.hid (HE1.out.step (by rw [hbb];exact hL.out))
     clear HE3 HB3 HL3 c1
     by_cases hlt:j < ts.length
     ·have pj:(j:Int) < (ts.length:Int):=by omega
      obtain ⟨ad,rfl,hab,hcl⟩:=hE.out.2.1 (by omega)
      have x1:=hcl j hlt
      have hz:=HM.out.2.2.2 _ (List.getElem_mem hlt)
      have hsc:((plain ns.length ++ (numsL ns ++ (plain ts.length ++ textsL (ts.take j)))) ++ plain ts[j].size) ++ ts[j].data.toList = plain ns.length ++ (numsL ns ++ (plain ts.length ++ textsL (ts.take (j + 1)))):=by
       rw [textsL_succ hlt];unfold textL;simp only [List.append_assoc]
      have hlen:=(bytesL_at HM.out ns.length j).2
      have hpl:=plain_len 9 ts[j].size (by show _ < 9223372036854775808;omega) (by omega)
      have HW:=Lib.hid (writeInt_any b ts[j].size (plain ns.length ++ (numsL ns ++ (plain ts.length ++ textsL (ts.take j)))) _ hB.out (by omega) (by omega))
      have HS:=Lib.hid (fun W (h:Bld b ((plain ns.length ++ (numsL ns ++ (plain ts.length ++ textsL (ts.take j)))) ++ plain ts[j].size) W)=>bld_string ts[j] h (by rw [List.length_append];omega))
      rw [hsc] at HS
      generalize ts[j] = z at x1 HW HS
      clear hcl hz hsc hB hab hlen hpl
      go_wp2_with fail
      refine HW.out.mono ?_
      rintro e w4 ⟨rfl,h4,hb⟩
      have HSS:=Lib.hid (HS.out _ h4)
      have HL4:=Lib.hid (hL.out.trans hb)
      clear h4 hb hL HW HS hE
      go_wp2_with fail
      refine HSS.out.mono ?_
      rintro e w5 ⟨rfl,h5,hb⟩
      have HB5:=Lib.hid h5
      have HL5:=Lib.hid (HL4.out.trans hb)
      clear h5 hb HL4 HSS
      go_wp2_with fail
      go_roundw
      case rel=>exact ⟨j + 1,by omega,by go_num,HB5.out,HL5.out⟩
      case measure=>simp [intOf];omega
     ·obtain rfl:j = ts.length:=by omega
      rw [List.take_length] at hB
      have HT:=Lib.hid (bld_text hB.out)
      have HW0:=Lib.hid HE1.out.2.2.2
      clear hB hE
      go_wp2_with fail
      refine HT.out.mono ?_
      rintro e w6 ⟨rfl,-,hb⟩
      have HB6:=Lib.hid (HW0.out.trans ((hL.out.trans hb).mono (by rw [← hbb];exact HW0.out.size)))
      clear hb hL HT
      go_wp2_with fail
      go_ret2
      exact ⟨by rw [E.out];rfl,HB6.out⟩
 ·have E:=Lib.hid (encV_bad hm)
  have hne:(((ckE ns ts:Nat):Int) != 0) = true:=by simp;omega
  generalize ckE ns ts = C at *
  unfold packV at HC ⊢
  clear ha hb hArg hm hle
  go_enter Tryz.func86,Tryz.ntmps86
  go_wp2_with fail
  refine (HC.out _ ((Below.refl _ w).alloc (Nat.le_refl _) _)).mono ?_
  rintro e w1 ⟨rfl,hb⟩
  have HB1:=Lib.hid (below_new hb)
  clear hb HC
  go_wp2_with fail
  go_ret2
  exact ⟨by rw [E.out];rfl,HB1.out⟩
def readVF (s:ByteArray) (a:Nat):Value :=
 match readR (s.data.toList.drop a) with
 | .ok n u=>.tuple #[.int .u64 (n:Int),.int .i64 ((a + u:Nat):Int),.int .i64 0]
 | .fin=>.tuple #[.int .u64 0,.int .i64 (s.size:Int),.int .i64 50]
 | .form=>.tuple #[.int .u64 0,.int .i64 (a:Int),.int .i64 3]
theorem readInt_any (s:ByteArray) (a:Nat) (w:World) (ha:a ≤ s.size) (hs:s.size ≤ 1000000000000000) :
  Calls Tryz.prog 201 #[.string s,.int .i64 (a:Int)] w fun e w'=>e = .returned (readV s a) ∧ w' = w:=by
 have hB:(s.size:Int) ≤ 1000000000000000:=by omega
 have pa:(a:Int) ≤ (s.size:Int):=by omega
 go_enter Tryz.func201,Tryz.ntmps201
 go_wp2_with fail
 go_loopw [4,10] (fun x i wr=>∃ (k m:Nat),k ≤ 9 ∧ a + k ≤ s.size ∧ Hid (m < 128 ^ k) ∧ i = .int .i64 (k:Int) ∧ x = .int .i64 (m:Int) ∧ Hid (readR (s.data.toList.drop a) = liftR k m (readK (9 - k) k (s.data.toList.drop (a + k)))) ∧ wr = w) (fun _ i _=>9 - (intOf i).toNat)
 case atStart =>
  refine ⟨0,0,by omega,by omega,by show 0 < 128 ^ 0;omega,rfl,rfl,?_,rfl⟩
  show readR _ = liftR 0 0 (readK 9 0 _)
  unfold readR
  rw [Nat.add_zero]
  cases readK 9 0 (s.data.toList.drop a) <;> simp [liftR]
 case round =>
  obtain ⟨k,m,hk,hak,hm,rfl,rfl,hrd,rfl⟩:=hrel
  by_cases hk9:k < 9
  ·have pk:(k:Int) < 9:=by omega
   have pak:(a:Int) + (k:Int) ≤ (s.size:Int):=by omega
   by_cases hin:a + k < s.size
   ·have pin:(a:Int) + (k:Int) < (s.size:Int):=by omega
    have pine:((a:Int) + (k:Int) == (s.size:Int)) = false:=by rw [beq_eq_false_iff_ne];omega
    have hdr:=drop_at s (a + k) hin
    have hix:∀ W,(Instr.index 9 (.string s) (.int .i64 ((a:Int) + (k:Int)))).run Tryz.prog W = .ok (.int .u8 ((s[a + k]'hin).toNat:Int)) W:=fun W=>by
     rw [run_index_string W 9 s .i64 _ Tryz.underlying9,dif_pos (by omega)]
     congr 3
    have hb8:(s[a + k]'hin).toNat < 256:=(s[a + k]'hin).toNat_lt
    have hrd2:=hrd.out
    rw [hdr,show 9 - k = (8 - k) + 1 by omega] at hrd2
    generalize hbv:s[a + k]'hin = b at hix hb8 hrd2
    obtain ⟨y,hy⟩:∃ y,y = b.toNat:=⟨_,rfl⟩
    rw [← hy] at hix hb8
    have hyi:(y:Int) < 256:=by omega
    have hmod:(y:Int).tmod 128 = ((y % 128:Nat):Int):=by rw [Int.tmod_eq_emod_of_nonneg (by omega)];omega
    have hp:128 ^ k ≤ 128 ^ 8:=Nat.pow_le_pow_right (by omega) (by omega)
    have hmul:128 ^ k * (y % 128) ≤ 128 ^ k * 127:=Nat.mul_le_mul_left _ (by omega)
    have hm2:m + 128 ^ k * (y % 128) < 128 ^ (k + 1):=by have:=hm.out;rw [Nat.pow_succ];omega
    have hp9:128 ^ (k + 1) ≤ 128 ^ 9:=Nat.pow_le_pow_right (by omega) (by omega)
    have hbnd:(m:Int) + ((128 ^ k * (y % 128):Nat):Int) ≤ 9223372036854775807:=by
     have h9:m + 128 ^ k * (y % 128) < 9223372036854775808:=Nat.lt_of_lt_of_le hm2 hp9
     omega
    have hshl:((y % 128:Nat):Int) * 2 ^ (7 * (k:Int)).toNat = ((128 ^ k * (y % 128):Nat):Int):=by
     rw [show (7 * (k:Int)).toNat = 7 * k by omega,Nat.mul_comm (128 ^ k),Int.natCast_mul,pow128,Int.natCast_pow];rfl
    have hwr:IntKind.i64.wrap ((128 ^ k * (y % 128):Nat):Int) = ((128 ^ k * (y % 128):Nat):Int):=i64_wrap (by omega) (by omega)
    have HM2:=Lib.hid hm2
    by_cases hlo:y < 128
    ·have plo:(y:Int) < 128:=by omega
     have hy7:y % 128 = y:=by omega
     rw [hy7] at hmod hshl hwr hbnd
     by_cases hz:y = 0 ∧ 0 < k
     ·have E:=Lib.hid (show readR (s.data.toList.drop a) = .form by rw [hrd2,readK_zero (by omega) hz.2];rfl)
      obtain ⟨rfl,hz2⟩:=hz
      have pz:(0:Int) < (k:Int):=by omega
      clear hm hrd hrd2 hdr hbv hy hb8 hp hmul hm2 hp9 HM2 hy7
      generalize 128 ^ k * 0 = q at hshl hwr hbnd
      go_wp2_with fail
      go_ret3
      exact ⟨by unfold readV;rw [E.out];rfl,rfl⟩
     ·have E:=Lib.hid (show readR (s.data.toList.drop a) = .ok (m + 128 ^ k * y) (k + 1) by rw [hrd2,readK_last (by omega) (by omega),← hy];rfl)
      have hq:0 ≤ ((128 ^ k * y:Nat):Int):=by omega
      obtain ⟨q,hqe⟩:∃ q,q = 128 ^ k * y:=⟨_,rfl⟩
      rw [← hqe] at hshl hwr hbnd hq E
      clear hm hrd hrd2 hdr hbv hy hb8 hp hmul hm2 hp9 HM2 hy7 hqe
      by_cases hy0:y = 0
      ·have hk0:¬ 0 < k:=fun h=>hz ⟨hy0,h⟩
       have pe:((y:Int) == 0) = true:=by simp [hy0]
       have pk0:(k:Int) ≤ 0:=by omega
       clear hz hk0 hy0
       go_wp2_with fail
       go_ret3
       exact ⟨by unfold readV;rw [E.out];rfl,rfl⟩
      ·have py:(1:Int) ≤ (y:Int):=by omega
       have pne:((y:Int) == 0) = false:=by simp;omega
       clear hz hy0
       go_wp2_with fail
       go_ret3
       exact ⟨by unfold readV;rw [E.out];rfl,rfl⟩
    ·have plo:(128:Int) ≤ (y:Int):=by omega
     have pne:((y:Int) == 0) = false:=by simp;omega
     have E:=Lib.hid (show readR (s.data.toList.drop a) = liftR (k + 1) (m + 128 ^ k * (y % 128)) (readK (9 - (k + 1)) (k + 1) (s.data.toList.drop (a + (k + 1)))) by
      rw [hrd2,readK_hi (by omega),liftR_push,← hy,show 8 - k = 9 - (k + 1) by omega,show a + k + 1 = a + (k + 1) by omega])
     have hq:0 ≤ ((128 ^ k * (y % 128):Nat):Int):=by omega
     obtain ⟨q,hqe⟩:∃ q,q = 128 ^ k * (y % 128):=⟨_,rfl⟩
     rw [← hqe] at hshl hwr hbnd hq E HM2
     have hx:y % 128 < 128:=by omega
     generalize y % 128 = x at hmod hshl hx
     have hxi:(x:Int) < 128:=by omega
     clear hm hrd hrd2 hdr hbv hy hb8 hp hmul hm2 hp9 hqe
     go_wp2_with fail
     go_roundw
     case rel=>exact ⟨k + 1,m + q,by omega,by omega,HM2.out,by go_num,by go_num,E.out,trivial⟩
     case measure=>simp [intOf];omega
   ·have E:=Lib.hid (show readR (s.data.toList.drop a) = .fin by
     rw [hrd.out,List.drop_eq_nil_of_le (by rw [list_size];omega),show 9 - k = (8 - k) + 1 by omega];rfl)
    have pine:((a:Int) + (k:Int) == (s.size:Int)) = true:=by rw [beq_iff_eq];omega
    have pin:(a:Int) + (k:Int) = (s.size:Int):=by omega
    have E2:=Lib.hid pin
    clear hm hrd pin
    go_wp2_with fail
    go_ret3
    exact ⟨by unfold readV;rw [E.out,← E2.out];rfl,rfl⟩
  ·obtain rfl:k = 9:=by omega
   have E:=Lib.hid (show readR (s.data.toList.drop a) = .form by rw [hrd.out];rfl)
   clear hm hrd
   go_wp2_with fail
   go_ret3
   exact ⟨by unfold readV;rw [E.out];rfl,rfl⟩
theorem readFolded_any (s:ByteArray) (a:Nat) (w:World) (ha:a ≤ s.size) (hs:s.size ≤ 1000000000000000) :
  Calls Tryz.prog 175 #[.string s,.int .i64 (a:Int)] w fun e w'=>e = .returned (readVF s a) ∧ w' = w:=by
 have hB:(s.size:Int) ≤ 1000000000000000:=by omega
 have pa:(a:Int) ≤ (s.size:Int):=by omega
 go_enter Tryz.func175,Tryz.ntmps175
 go_wp2_with fail
 go_loopw [4,10] (fun x i wr=>∃ (k m:Nat),k ≤ 9 ∧ a + k ≤ s.size ∧ Hid (m < 128 ^ k) ∧ i = .int .i64 (k:Int) ∧ x = .int .u64 (m:Int) ∧ Hid (readR (s.data.toList.drop a) = liftR k m (readK (9 - k) k (s.data.toList.drop (a + k)))) ∧ wr = w) (fun _ i _=>9 - (intOf i).toNat)
 case atStart =>
  refine ⟨0,0,by omega,by omega,by show 0 < 128 ^ 0;omega,rfl,rfl,?_,rfl⟩
  show readR _ = liftR 0 0 (readK 9 0 _)
  unfold readR
  rw [Nat.add_zero]
  cases readK 9 0 (s.data.toList.drop a) <;> simp [liftR]
 case round =>
  obtain ⟨k,m,hk,hak,hm,rfl,rfl,hrd,rfl⟩:=hrel
  by_cases hk9:k < 9
  ·have pk:(k:Int) < 9:=by omega
   have pak:(a:Int) + (k:Int) ≤ (s.size:Int):=by omega
   by_cases hin:a + k < s.size
   ·have pin:(a:Int) + (k:Int) < (s.size:Int):=by omega
    have pine:((a:Int) + (k:Int) == (s.size:Int)) = false:=by rw [beq_eq_false_iff_ne];omega
    have hdr:=drop_at s (a + k) hin
    have hix:∀ W,(Instr.index 9 (.string s) (.int .i64 ((a:Int) + (k:Int)))).run Tryz.prog W = .ok (.int .u8 ((s[a + k]'hin).toNat:Int)) W:=fun W=>by
     rw [run_index_string W 9 s .i64 _ Tryz.underlying9,dif_pos (by omega)]
     congr 3
    have hb8:(s[a + k]'hin).toNat < 256:=(s[a + k]'hin).toNat_lt
    have hrd2:=hrd.out
    rw [hdr,show 9 - k = (8 - k) + 1 by omega] at hrd2
    generalize hbv:s[a + k]'hin = b at hix hb8 hrd2
    obtain ⟨y,hy⟩:∃ y,y = b.toNat:=⟨_,rfl⟩
    rw [← hy] at hix hb8
    have hyi:(y:Int) < 256:=by omega
    have hmod:(y:Int).tmod 128 = ((y % 128:Nat):Int):=by rw [Int.tmod_eq_emod_of_nonneg (by omega)];omega
    have hp:128 ^ k ≤ 128 ^ 8:=Nat.pow_le_pow_right (by omega) (by omega)
    have hmul:128 ^ k * (y % 128) ≤ 128 ^ k * 127:=Nat.mul_le_mul_left _ (by omega)
    have hm2:m + 128 ^ k * (y % 128) < 128 ^ (k + 1):=by have:=hm.out;rw [Nat.pow_succ];omega
    have hp9:128 ^ (k + 1) ≤ 128 ^ 9:=Nat.pow_le_pow_right (by omega) (by omega)
    have hbnd:(m:Int) + ((128 ^ k * (y % 128):Nat):Int) ≤ 9223372036854775807:=by
     have h9:m + 128 ^ k * (y % 128) < 9223372036854775808:=Nat.lt_of_lt_of_le hm2 hp9
     omega
    have hshl:((y % 128:Nat):Int) * 2 ^ (7 * (k:Int)).toNat = ((128 ^ k * (y % 128):Nat):Int):=by
     rw [show (7 * (k:Int)).toNat = 7 * k by omega,Nat.mul_comm (128 ^ k),Int.natCast_mul,pow128,Int.natCast_pow];rfl
    have hwr:IntKind.u64.wrap ((128 ^ k * (y % 128):Nat):Int) = ((128 ^ k * (y % 128):Nat):Int):=u64_wrap (by omega) (by omega)
    have HM2:=Lib.hid hm2
    by_cases hlo:y < 128
    ·have plo:(y:Int) < 128:=by omega
     have hy7:y % 128 = y:=by omega
     rw [hy7] at hmod hshl hwr hbnd
     by_cases hz:y = 0 ∧ 0 < k
     ·have E:=Lib.hid (show readR (s.data.toList.drop a) = .form by rw [hrd2,readK_zero (by omega) hz.2];rfl)
      obtain ⟨rfl,hz2⟩:=hz
      have pz:(0:Int) < (k:Int):=by omega
      clear hm hrd hrd2 hdr hbv hy hb8 hp hmul hm2 hp9 HM2 hy7
      generalize 128 ^ k * 0 = q at hshl hwr hbnd
      go_wp2_with fail
      go_ret3
      exact ⟨by unfold readVF;rw [E.out];rfl,rfl⟩
     ·have E:=Lib.hid (show readR (s.data.toList.drop a) = .ok (m + 128 ^ k * y) (k + 1) by rw [hrd2,readK_last (by omega) (by omega),← hy];rfl)
      have hq:0 ≤ ((128 ^ k * y:Nat):Int):=by omega
      obtain ⟨q,hqe⟩:∃ q,q = 128 ^ k * y:=⟨_,rfl⟩
      rw [← hqe] at hshl hwr hbnd hq E
      clear hm hrd hrd2 hdr hbv hy hb8 hp hmul hm2 hp9 HM2 hy7 hqe
      by_cases hy0:y = 0
      ·have hk0:¬ 0 < k:=fun h=>hz ⟨hy0,h⟩
       have pe:((y:Int) == 0) = true:=by simp [hy0]
       have pk0:(k:Int) ≤ 0:=by omega
       clear hz hk0 hy0
       go_wp2_with fail
       go_ret3
       exact ⟨by unfold readVF;rw [E.out];rfl,rfl⟩
      ·have py:(1:Int) ≤ (y:Int):=by omega
       have pne:((y:Int) == 0) = false:=by simp;omega
       clear hz hy0
       go_wp2_with fail
       go_ret3
       exact ⟨by unfold readVF;rw [E.out];rfl,rfl⟩
    ·have plo:(128:Int) ≤ (y:Int):=by omega
     have pne:((y:Int) == 0) = false:=by simp;omega
     have E:=Lib.hid (show readR (s.data.toList.drop a) = liftR (k + 1) (m + 128 ^ k * (y % 128)) (readK (9 - (k + 1)) (k + 1) (s.data.toList.drop (a + (k + 1)))) by
      rw [hrd2,readK_hi (by omega),liftR_push,← hy,show 8 - k = 9 - (k + 1) by omega,show a + k + 1 = a + (k + 1) by omega])
     have hq:0 ≤ ((128 ^ k * (y % 128):Nat):Int):=by omega
     obtain ⟨q,hqe⟩:∃ q,q = 128 ^ k * (y % 128):=⟨_,rfl⟩
     rw [← hqe] at hshl hwr hbnd hq E HM2
     have hx:y % 128 < 128:=by omega
     generalize y % 128 = x at hmod hshl hx
     have hxi:(x:Int) < 128:=by omega
     clear hm hrd hrd2 hdr hbv hy hb8 hp hmul hm2 hp9 hqe
     go_wp2_with fail
     go_roundw
     case rel=>exact ⟨k + 1,m + q,by omega,by omega,HM2.out,by go_num,by go_num,E.out,trivial⟩
     case measure=>simp [intOf];omega
   ·have E:=Lib.hid (show readR (s.data.toList.drop a) = .fin by
     rw [hrd.out,List.drop_eq_nil_of_le (by rw [list_size];omega),show 9 - k = (8 - k) + 1 by omega];rfl)
    have pine:((a:Int) + (k:Int) == (s.size:Int)) = true:=by rw [beq_iff_eq];omega
    have pin:(a:Int) + (k:Int) = (s.size:Int):=by omega
    have E2:=Lib.hid pin
    clear hm hrd pin
    go_wp2_with fail
    go_ret3
    exact ⟨by unfold readVF;rw [E.out,← E2.out];rfl,rfl⟩
  ·obtain rfl:k = 9:=by omega
   have E:=Lib.hid (show readR (s.data.toList.drop a) = .form by rw [hrd.out];rfl)
   clear hm hrd
   go_wp2_with fail
   go_ret3
   exact ⟨by unfold readVF;rw [E.out];rfl,rfl⟩
def Sd {α:Type} (s:ByteArray) (r:Except Er (α × List UInt8)) (z x:α) (p c:Nat):Prop :=
 (c = 0 ∧ p ≤ s.size ∧ r = .ok (x,s.data.toList.drop p)) ∨ (c ≠ 0 ∧ c ≤ 50 ∧ p ≤ s.size ∧ x = z ∧ ∃ e:Er,r = .error e ∧ p = e.place s.size ∧ c = e.code)
theorem Sd.in {α:Type} {s:ByteArray} {r:Except Er (α × List UInt8)} {z x:α} {p c:Nat} (h:Sd s r z x p c):p ≤ s.size ∧ c ≤ 50:=by
 rcases h with ⟨h1,h2,_⟩ | ⟨_,h1,h2,_⟩ <;> exact ⟨by omega,by omega⟩
theorem upTo_any (s:ByteArray) (a most:Nat) (w:World) (ha:a ≤ s.size) (hs:s.size ≤ 1000000000000000) (hmost:most ≤ 4096) :
  Calls Tryz.prog 174 #[.int .i64 (most:Int),.string s,.int .i64 (a:Int)] w fun e w'=>e = .returned (cntV s a most) ∧ w' = w:=by
 have hB:(s.size:Int) ≤ 1000000000000000:=by omega
 have pa:(a:Int) ≤ (s.size:Int):=by omega
 have pm:(most:Int) ≤ 4096:=by omega
 have HR:=Lib.hid (fun W=>readInt_any s a W ha hs)
 cases hr:readR (s.data.toList.drop a) with
 | ok n u =>
  have h1:readV s a = .tuple #[.int .i64 (n:Int),.int .i64 ((a + u:Nat):Int),.int .i64 0]:=by unfold readV;rw [hr]
  obtain ⟨_,hu,hn9⟩:=readR_ok hr
  have hn9':n < 9223372036854775808:=hn9
  rw [h1] at HR
  by_cases hlt:most < n
  ·have E:=Lib.hid (show cntV s a most = .tuple #[.int .i64 0,.int .i64 (a:Int),.int .i64 2] by unfold cntV;rw [hr];simp only;rw [if_pos hlt])
   have pl:(most:Int) < (n:Int):=by omega
   clear hr h1 hn9 hn9' hu
   generalize a + u = z at HR
   go_enter Tryz.func174,Tryz.ntmps174
   go_wp2_with fail
   refine (HR.out _).mono ?_
   rintro e w' ⟨rfl,rfl⟩
   go_wp2_with fail
   go_ret3
   exact ⟨by rw [E.out];rfl,rfl⟩
  ·have E:=Lib.hid (show cntV s a most = .tuple #[.int .i64 (n:Int),.int .i64 ((a + u:Nat):Int),.int .i64 0] by unfold cntV;rw [hr];simp only;rw [if_neg hlt])
   have pl:(n:Int) ≤ (most:Int):=by omega
   clear hr h1 hn9 hn9' hu
   generalize a + u = z at HR E
   go_enter Tryz.func174,Tryz.ntmps174
   go_wp2_with fail
   refine (HR.out _).mono ?_
   rintro e w' ⟨rfl,rfl⟩
   go_wp2_with fail
   go_ret3
   exact ⟨by rw [E.out];rfl,rfl⟩
 | fin =>
  have h1:readV s a = .tuple #[.int .i64 0,.int .i64 (s.size:Int),.int .i64 50]:=by unfold readV;rw [hr]
  have E:=Lib.hid (show cntV s a most = .tuple #[.int .i64 0,.int .i64 (s.size:Int),.int .i64 50] by unfold cntV;rw [hr])
  rw [h1] at HR
  have pl:(0:Int) ≤ (most:Int):=by omega
  clear hr h1
  go_enter Tryz.func174,Tryz.ntmps174
  go_wp2_with fail
  refine (HR.out _).mono ?_
  rintro e w' ⟨rfl,rfl⟩
  go_wp2_with fail
  go_ret3
  exact ⟨by rw [E.out];rfl,rfl⟩
 | form =>
  have h1:readV s a = .tuple #[.int .i64 0,.int .i64 (a:Int),.int .i64 3]:=by unfold readV;rw [hr]
  have E:=Lib.hid (show cntV s a most = .tuple #[.int .i64 0,.int .i64 (a:Int),.int .i64 3] by unfold cntV;rw [hr])
  rw [h1] at HR
  have pl:(0:Int) ≤ (most:Int):=by omega
  clear hr h1
  go_enter Tryz.func174,Tryz.ntmps174
  go_wp2_with fail
  refine (HR.out _).mono ?_
  rintro e w' ⟨rfl,rfl⟩
  go_wp2_with fail
  go_ret3
  exact ⟨by rw [E.out];rfl,rfl⟩
theorem unfold_any (n:Nat) (w:World) (hn:n < 9223372036854775808) :
  Calls Tryz.prog 176 #[.int .u64 (n:Int)] w fun e w'=>e = .returned (.int .i64 (unzig n)) ∧ w' = w:=by
 have hy:n / 2 ≤ 4611686018427387903:=by omega
 have hdiv:(n:Int).tdiv 2 = ((n / 2:Nat):Int):=by rw [Int.tdiv_eq_ediv_of_nonneg (by omega)];omega
 have hmod:(n:Int).tmod 2 = ((n % 2:Nat):Int):=by rw [Int.tmod_eq_emod_of_nonneg (by omega)];omega
 by_cases hodd:n % 2 = 1
 ·have E:=Lib.hid (show unzig n = -((n / 2:Nat):Int) - 1 by unfold unzig;rw [if_pos hodd])
  have hb:((n:Int) % 2 == 1) = true:=by rw [show (n:Int) % 2 = 1 by omega];rfl
  rw [hodd] at hmod
  generalize n / 2 = y at hdiv hy E
  have hyi:(y:Int) ≤ 4611686018427387903:=by omega
  have hcv:IntKind.i64.wrap (y:Int) = (y:Int):=i64_wrap (by omega) (by omega)
  clear hodd
  go_enter Tryz.func176,Tryz.ntmps176
  go_wp2_with fail
  go_ret
  exact ⟨by rw [E.out];rfl,rfl⟩
 ·have E:=Lib.hid (show unzig n = ((n / 2:Nat):Int) by unfold unzig;rw [if_neg hodd])
  have hb:((n:Int) % 2 == 1) = false:=by rw [show (n:Int) % 2 = 0 by omega];rfl
  have hm0:n % 2 = 0:=by omega
  rw [hm0] at hmod
  generalize n / 2 = y at hdiv hy E
  have hyi:(y:Int) ≤ 4611686018427387903:=by omega
  have hcv:IntKind.i64.wrap (y:Int) = (y:Int):=i64_wrap (by omega) (by omega)
  clear hodd hm0
  go_enter Tryz.func176,Tryz.ntmps176
  go_wp2_with fail
  go_ret
  exact ⟨by rw [E.out];rfl,rfl⟩
def sgnF (L:List UInt8):Except Er (Int × List UInt8) :=
 match numF L with
 | .error e=>.error e
 | .ok (n,r)=>.ok (unzig n,r)
theorem readF_said (s:ByteArray) (a:Nat) (ha:a ≤ s.size):∃ n p c:Nat,readVF s a = .tuple #[.int .u64 (n:Int),.int .i64 (p:Int),.int .i64 (c:Int)] ∧ Said s (numF (s.data.toList.drop a)) n p c:=by
 cases hr:readR (s.data.toList.drop a) with
 | ok n u =>
  have h9:n < 9223372036854775808:=(readR_ok hr).2.2
  refine ⟨n,a + u,0,by unfold readVF;rw [hr];rfl,.inl ⟨rfl,readR_in ha hr,h9,?_⟩⟩
  unfold numF;rw [hr];simp only [List.drop_drop]
 | fin=>exact ⟨0,s.size,50,by unfold readVF;rw [hr];rfl,.inr ⟨by omega,by omega,by omega,rfl,.fin,by unfold numF;rw [hr],rfl,rfl⟩⟩
 | form=>exact ⟨0,a,3,by unfold readVF;rw [hr];rfl,.inr ⟨by omega,by omega,by omega,rfl,.bad (s.data.toList.drop a).length 3,by unfold numF;rw [hr],by simp only [Er.place,List.length_drop,list_size];omega,rfl⟩⟩
theorem sgn_said {s:ByteArray} {a n p c:Nat} (h:Said s (numF (s.data.toList.drop a)) n p c):Sd s (sgnF (s.data.toList.drop a)) 0 (unzig n) p c:=by
 rcases h with ⟨h1,h2,_,h4⟩ | ⟨h1,h2,h3,h4,e,h5,h6,h7⟩
 ·exact .inl ⟨h1,h2,by unfold sgnF;rw [h4]⟩
 ·exact .inr ⟨h1,h2,h3,by rw [h4];rfl,e,by unfold sgnF;rw [h5],h6,h7⟩
theorem readSigned_any (s:ByteArray) (a:Nat) (ha:a ≤ s.size) (hs:s.size ≤ 1000000000000000):∃ (z:Int) (p c:Nat),Sd s (sgnF (s.data.toList.drop a)) 0 z p c ∧ ∀ w,
  Calls Tryz.prog 121 #[.string s,.int .i64 (a:Int)] w fun e w'=>e = .returned (.tuple #[.int .i64 z,.int .i64 (p:Int),.int .i64 (c:Int)]) ∧ w' = w:=by
 obtain ⟨n,p,c,hv,hsd⟩:=readF_said s a ha
 refine ⟨unzig n,p,c,sgn_said hsd,fun w=>?_⟩
 have hn9:n < 9223372036854775808:=by rcases hsd with ⟨_,_,h,_⟩ | ⟨_,_,_,h,_⟩ <;> omega
 have HU:=Lib.hid (fun W=>unfold_any n W hn9)
 have hR:=fun W=>readFolded_any s a W ha hs
 rw [hv] at hR
 have HR:=Lib.hid hR
 clear hR hsd hv hn9
 go_enter Tryz.func121,Tryz.ntmps121
 go_wp2_with fail
 refine (HR.out _).mono ?_
 rintro e w' ⟨rfl,rfl⟩
 go_wp2_with fail
 refine (HU.out _).mono ?_
 rintro e w2 ⟨rfl,rfl⟩
 go_wp2_with fail
 go_ret3
 exact ⟨rfl,rfl⟩
theorem readText_any (s:ByteArray) (a:Nat) (ha:a ≤ s.size) (hs:s.size ≤ 1000000000000000):∃ (t:ByteArray) (p c:Nat),t.size ≤ 4096 ∧ Sd s (textF (s.data.toList.drop a)) ⟨#[]⟩ t p c ∧ ∀ w,
  Calls Tryz.prog 123 #[.string s,.int .i64 (a:Int)] w fun e w'=>e = .returned (.tuple #[.string t,.int .i64 (p:Int),.int .i64 (c:Int)]) ∧ Below w.heap.size w w':=by
 have hB:(s.size:Int) ≤ 1000000000000000:=by omega
 obtain ⟨n,p,c,hv,hsd,hn⟩:=cnt_said s a 4096 ha
 have hC:∀ W,Calls Tryz.prog 174 #[.int .i64 4096,.string s,.int .i64 (a:Int)] W fun e w'=>e = .returned (.tuple #[.int .i64 (n:Int),.int .i64 (p:Int),.int .i64 (c:Int)]) ∧ w' = W:=fun W=>by
  have h:=upTo_any s a 4096 W ha hs (by omega)
  rw [hv] at h
  exact h
 have HC:=Lib.hid hC
 clear hC hv
 rcases hsd with ⟨rfl,hp,_,hok⟩ | ⟨hc,hc5,hp,rfl,e,herr,hpe,hce⟩
 ·have pp:(p:Int) ≤ (s.size:Int):=by omega
  have pn:(n:Int) ≤ 4096:=by omega
  have hlen:(s.data.toList.drop p).length = s.size - p:=by rw [List.length_drop,list_size]
  by_cases hcut:s.size - p < n
  ·have pcut:(s.size:Int) - (p:Int) < (n:Int):=by omega
   refine ⟨⟨#[]⟩,s.size,50,by show (0:Nat) ≤ 4096;omega,.inr ⟨by omega,by omega,by omega,rfl,.fin,textF_cut hok (by rw [hlen];exact hcut),rfl,rfl⟩,fun w=>?_⟩
   clear hok hlen hcut
   go_enter Tryz.func123,Tryz.ntmps123
   go_wp2_with fail
   refine (HC.out _).mono ?_
   rintro e w' ⟨rfl,rfl⟩
   go_wp2_with fail
   go_ret3
   exact ⟨rfl,Below.refl _ _⟩
  ·have pcut:(n:Int) ≤ (s.size:Int) - (p:Int):=by omega
   have pin:(p:Int) + (n:Int) ≤ (s.size:Int):=by omega
   have hall:=textF_all hok (by rw [hlen];exact hcut)
   have hsz:(⟨((s.data.toList.drop p).take n).toArray⟩:ByteArray).size ≤ 4096:=by rw [text_size,List.length_take];omega
   refine ⟨⟨((s.data.toList.drop p).take n).toArray⟩,p + n,0,hsz,.inl ⟨rfl,by omega,by rw [hall,List.drop_drop]⟩,fun w=>?_⟩
   have hsl:∀ W,(Instr.slice 9 (.string s) (some (.int .i64 (p:Int))) (some (.int .i64 ((p:Int) + (n:Int)))) none).run Tryz.prog W = .ok (.string ⟨((s.data.toList.drop p).take n).toArray⟩) W:=fun W=>by
    have:=str_mid s p (p + n) (by omega) (by omega) (p:Int) ((p:Int) + (n:Int)) rfl (by omega) W
    rw [show p + n - p = n by omega] at this
    exact this
   generalize (⟨((s.data.toList.drop p).take n).toArray⟩:ByteArray) = t at hsz hsl ⊢
   have HT:=Lib.hid (fun W=>clone_any t W (by omega))
   have HP:=Lib.hid (show ((p + n:Nat):Int) = (p:Int) + (n:Int) by omega)
   clear hok hlen hcut hall hsz
   go_enter Tryz.func123,Tryz.ntmps123
   go_wp2_with fail
   refine (HC.out _).mono ?_
   rintro e w' ⟨rfl,rfl⟩
   go_wp2_with fail
   refine (HT.out _).mono ?_
   rintro e w2 ⟨rfl,hb⟩
   have HB:=Lib.hid hb
   clear hb
   go_wp2_with fail
   go_ret3
   exact ⟨by rw [HP.out];rfl,HB.out⟩
 ·refine ⟨⟨#[]⟩,p,c,by show (0:Nat) ≤ 4096;omega,.inr ⟨hc,hc5,hp,rfl,e,textF_err herr,hpe,hce⟩,fun w=>?_⟩
  have pne:((c:Int) != 0) = true:=by simp;omega
  clear herr hpe hce
  go_enter Tryz.func123,Tryz.ntmps123
  go_wp2_with fail
  refine (HC.out _).mono ?_
  rintro e w' ⟨rfl,rfl⟩
  go_wp2_with fail
  go_ret3
  exact ⟨rfl,Below.refl _ _⟩
end Pk
end Go.Proofs.YtlfkhlfkckfbpaaGreat
