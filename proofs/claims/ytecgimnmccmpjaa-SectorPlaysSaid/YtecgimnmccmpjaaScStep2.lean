/- A call of Read, Flush, Fuse, Crash or Wipe, of both devices: they answer alike; contracts; no condition but the range. -/
import Derived.Test.YtecgimnmccmpjaaScStep
namespace Go.Proofs.Ytecgimnmccmpjaa
namespace Sc
open Go.RowKit Bk

attribute [local go_sem ↓] Go.wp_at_zero Go.wp_at_succ
attribute [local go_sem] floatUpon pick

theorem ints_fr {F F' : Nat → Prop} {W W' : World} (hf : Fr F F' W W') {A : Option Addr} {l : List Int} (h : IntsAt W A l) (hn : 0 < l.length → ∀ a, A = some a → ¬ F a.block) : IntsAt W' A l := fun hp => by
  obtain ⟨ad, h1, h2, h3⟩ := h hp
  exact ⟨ad, h1, Nat.lt_of_lt_of_le h2 hf.size, fun i hi => (One.cell hf (a := ad.add i) (by rw [st_block]; exact h2) (by rw [st_block]; exact hn hp ad h1)).trans (h3 i hi)⟩

theorem Try.infoInt : (Try.prog.info? 3).map (fun i => (i.zero, i.size, i.bytes)) = some (some (.int .i64 0), 1, 8) := by kernel_rfl

theorem below_drewN (W : World) (n : Nat) : Below W.heap.size W (W.drewN n) := ⟨rfl, rfl, rfl, Nat.le_refl _, fun _ _ => rfl⟩

section
variable {Rep : World → (Nat → Prop) → Nat → Dev → Prop} {w0 W : World} {F : Nat → Prop} {g h : Nat} {ao an : Addr} {co cn : Nat} {so sn : List Value} {D : Dev}

set_option maxRecDepth 20000 in
set_option maxHeartbeats 8000000 in
theorem step_1 (HD : DevAll Rep) (p : Pr Rep w0 W F g h ao an co cn so sn D D) (A : Option Addr) (c : Nat) (kind n : Int) (text : ByteArray) (raw : Bool) (ps : List Int) (ha : ActOk w0 A c n text ps) (hk : amongV kind 6 = 1) :
    Calls Try.prog 10 #[.pointer (some ⟨g, 0, none⟩), .pointer (some ⟨h, 0, none⟩), .agg #[.int .i64 kind, .int .i64 n, .string text, .bool raw, .slice A ps.length c]] W fun e W' => e = .returned (.bool true) ∧ ∃ F' D', Pr Rep w0 W' F' g h ao an co cn so sn D' D' := by
  have HAm := Lib.hid (fun V => among_any kind 6 V (by omega) (by omega))
  rw [hk] at HAm
  have hal := p.step HD ((Below.refl _ W).alloc (Nat.le_refl _) (.cells #[.int .i64 kind, .int .i64 n, .string text, .bool raw, .slice A ps.length c] 34))
  have hbx : Cel (W.alloc (.cells #[.int .i64 kind, .int .i64 n, .string text, .bool raw, .slice A ps.length c] 34)) W.heap.size 34 [.int .i64 kind, .int .i64 n, .string text, .bool raw, .slice A ps.length c] := (blk1 W _).2
  have hbf : ¬ F W.heap.size := fun hf => by have := HD.lt p.d _ hf; omega
  have hbr : ¬ RFoot h ao an W.heap.size := fun hf => by have := p.r.lt _ hf; omega
  have hb0 : w0.heap.size ≤ W.heap.size := p.bel.size
  have HN := Lib.hid ha.n63
  have HAc := Lib.hid ha
  have hlt : W.heap.size < (W.alloc (.cells #[.int .i64 kind, .int .i64 n, .string text, .bool raw, .slice A ps.length c] 34)).heap.size := by simp
  clear p hk ha
  go_enter Try.func10, Try.ntmps10
  go_upto_region 1 with fail
  generalize W.alloc (.cells #[.int .i64 kind, .int .i64 n, .string text, .bool raw, .slice A ps.length c] 34) = W1 at hal hbx hlt ⊢
  generalize W.heap.size = b at hbx hbf hbr hlt hb0 ⊢
  have HP := Lib.hid hal
  have HB := Lib.hid hbx
  have HOk := Lib.hid (HD.ok hal.d)
  have k0 := hbx.cell (i := 0) rfl
  have k1 := hbx.cell (i := 1) rfl
  have k4 := hbx.cell (i := 4) rfl
  clear hal hbx
  go_wp2_with fail
  refine (HAm.out _).mono ?_
  rintro e W2 ⟨rfl, rfl⟩
  have q := beq_self_eq_true (rdV D n).2
  have q2 := text_eq (rdV D n).1
  go_wp2_with fail
  refine (HD.read n _ HP.out.d HN.out).mono ?_
  rintro e W3 ⟨rfl, F1, hd1, hf1⟩
  have kk1 := (One.cell hf1 (a := ⟨b, 1, none⟩) hlt hbf).trans k1
  have HP1 := Lib.hid (HP.out.actD hd1 hf1)
  have HV := Lib.hid (rread_any HP1.out.r HOk.out n)
  clear hd1 hf1 k0 k1 k4 HP hlt hbf HB
  generalize (rdV D n).1 = y at *
  generalize (rdV D n).2 = z at *
  go_wp2_with fail
  refine HV.out.mono ?_
  rintro e W4 ⟨rfl, rfl⟩
  go_wp2_with fail
  go_ret
  exact ⟨rfl, _, _, HP1.out⟩

set_option maxRecDepth 20000 in
set_option maxHeartbeats 8000000 in
theorem step_2 (HD : DevAll Rep) (p : Pr Rep w0 W F g h ao an co cn so sn D D) (A : Option Addr) (c : Nat) (kind n : Int) (text : ByteArray) (raw : Bool) (ps : List Int) (ha : ActOk w0 A c n text ps) (hk : amongV kind 6 = 2) :
    Calls Try.prog 10 #[.pointer (some ⟨g, 0, none⟩), .pointer (some ⟨h, 0, none⟩), .agg #[.int .i64 kind, .int .i64 n, .string text, .bool raw, .slice A ps.length c]] W fun e W' => e = .returned (.bool true) ∧ ∃ F' D', Pr Rep w0 W' F' g h ao an co cn so sn D' D' := by
  have HAm := Lib.hid (fun V => among_any kind 6 V (by omega) (by omega))
  rw [hk] at HAm
  have hal := p.step HD ((Below.refl _ W).alloc (Nat.le_refl _) (.cells #[.int .i64 kind, .int .i64 n, .string text, .bool raw, .slice A ps.length c] 34))
  have hbx : Cel (W.alloc (.cells #[.int .i64 kind, .int .i64 n, .string text, .bool raw, .slice A ps.length c] 34)) W.heap.size 34 [.int .i64 kind, .int .i64 n, .string text, .bool raw, .slice A ps.length c] := (blk1 W _).2
  have hbf : ¬ F W.heap.size := fun hf => by have := HD.lt p.d _ hf; omega
  have hbr : ¬ RFoot h ao an W.heap.size := fun hf => by have := p.r.lt _ hf; omega
  have hb0 : w0.heap.size ≤ W.heap.size := p.bel.size
  have HN := Lib.hid ha.n63
  have HAc := Lib.hid ha
  have hlt : W.heap.size < (W.alloc (.cells #[.int .i64 kind, .int .i64 n, .string text, .bool raw, .slice A ps.length c] 34)).heap.size := by simp
  clear p hk ha
  go_enter Try.func10, Try.ntmps10
  go_upto_region 1 with fail
  generalize W.alloc (.cells #[.int .i64 kind, .int .i64 n, .string text, .bool raw, .slice A ps.length c] 34) = W1 at hal hbx hlt ⊢
  generalize W.heap.size = b at hbx hbf hbr hlt hb0 ⊢
  have HP := Lib.hid hal
  have HB := Lib.hid hbx
  have HOk := Lib.hid (HD.ok hal.d)
  have k0 := hbx.cell (i := 0) rfl
  have k1 := hbx.cell (i := 1) rfl
  have k4 := hbx.cell (i := 4) rfl
  clear hal hbx
  go_wp2_with fail
  refine (HAm.out _).mono ?_
  rintro e W2 ⟨rfl, rfl⟩
  have q := beq_self_eq_true (flD D).2
  go_wp2_with fail
  refine (HD.flush _ HP.out.d).mono ?_
  rintro e W3 ⟨rfl, F1, hd1, hf1⟩
  have HP1 := Lib.hid (HP.out.actD hd1 hf1)
  have HV := Lib.hid (rflush_any HP1.out.r HOk.out)
  clear hd1 hf1 k0 k1 k4 HP hlt hbf HB
  go_wp2_with fail
  refine HV.out.mono ?_
  rintro e W4 ⟨rfl, hr2, hf2⟩
  have HP2 := Lib.hid (HP1.out.actR HD hr2 hf2)
  clear hr2 hf2
  go_wp2_with fail
  go_ret
  exact ⟨rfl, _, _, HP2.out⟩

set_option maxRecDepth 20000 in
set_option maxHeartbeats 8000000 in
theorem step_3 (HD : DevAll Rep) (p : Pr Rep w0 W F g h ao an co cn so sn D D) (A : Option Addr) (c : Nat) (kind n : Int) (text : ByteArray) (raw : Bool) (ps : List Int) (ha : ActOk w0 A c n text ps) (hk : amongV kind 6 = 3) :
    Calls Try.prog 10 #[.pointer (some ⟨g, 0, none⟩), .pointer (some ⟨h, 0, none⟩), .agg #[.int .i64 kind, .int .i64 n, .string text, .bool raw, .slice A ps.length c]] W fun e W' => e = .returned (.bool true) ∧ ∃ F' D', Pr Rep w0 W' F' g h ao an co cn so sn D' D' := by
  have HAm := Lib.hid (fun V => among_any kind 6 V (by omega) (by omega))
  rw [hk] at HAm
  have hal := p.step HD ((Below.refl _ W).alloc (Nat.le_refl _) (.cells #[.int .i64 kind, .int .i64 n, .string text, .bool raw, .slice A ps.length c] 34))
  have hbx : Cel (W.alloc (.cells #[.int .i64 kind, .int .i64 n, .string text, .bool raw, .slice A ps.length c] 34)) W.heap.size 34 [.int .i64 kind, .int .i64 n, .string text, .bool raw, .slice A ps.length c] := (blk1 W _).2
  have hbf : ¬ F W.heap.size := fun hf => by have := HD.lt p.d _ hf; omega
  have hbr : ¬ RFoot h ao an W.heap.size := fun hf => by have := p.r.lt _ hf; omega
  have hb0 : w0.heap.size ≤ W.heap.size := p.bel.size
  have HN := Lib.hid ha.n63
  have HAc := Lib.hid ha
  have hlt : W.heap.size < (W.alloc (.cells #[.int .i64 kind, .int .i64 n, .string text, .bool raw, .slice A ps.length c] 34)).heap.size := by simp
  clear p hk ha
  go_enter Try.func10, Try.ntmps10
  go_upto_region 1 with fail
  generalize W.alloc (.cells #[.int .i64 kind, .int .i64 n, .string text, .bool raw, .slice A ps.length c] 34) = W1 at hal hbx hlt ⊢
  generalize W.heap.size = b at hbx hbf hbr hlt hb0 ⊢
  have HP := Lib.hid hal
  have HB := Lib.hid hbx
  have HOk := Lib.hid (HD.ok hal.d)
  have k0 := hbx.cell (i := 0) rfl
  have k1 := hbx.cell (i := 1) rfl
  have k4 := hbx.cell (i := 4) rfl
  clear hal hbx
  go_wp2_with fail
  refine (HAm.out _).mono ?_
  rintro e W2 ⟨rfl, rfl⟩
  have q := beq_self_eq_true (fuD D n).2
  have HW := Lib.hid (fun V (q : Pr Rep w0 V F g h ao an co cn so sn D D) => HD.fuse n V q.d HN.out)
  go_upto_region 14 with fail
  go_region_with (first
    | (refine (HW.out _ (HP.out.step HD (Below.refl _ _).drew)).mono ?_
       rintro e W4 ⟨rfl, F1, hd1, hf1⟩
       have hx1 := (One.cell hf1 (a := ⟨b, 1, none⟩) hlt hbf).trans k1
       have hp1 := (HP.out.step HD (Below.refl _ _).drew).actD hd1 hf1
       have HV := Lib.hid (rfuse_any hp1.r n)
       have HP1 := Lib.hid hp1
       clear hd1 hf1 hp1)
    | (refine (HV.out).mono ?_
       rintro e W5 ⟨rfl, hr2, hf2⟩
       have HP2 := Lib.hid (HP1.out.actR HD hr2 hf2)
       clear hr2 hf2))
  all_goals
    go_wp2_with fail
    go_ret
    exact ⟨rfl, _, _, HP2.out⟩

set_option maxRecDepth 20000 in
set_option maxHeartbeats 8000000 in
theorem step_4 (HD : DevAll Rep) (p : Pr Rep w0 W F g h ao an co cn so sn D D) (A : Option Addr) (c : Nat) (kind n : Int) (text : ByteArray) (raw : Bool) (ps : List Int) (ha : ActOk w0 A c n text ps) (hk : amongV kind 6 = 4) :
    Calls Try.prog 10 #[.pointer (some ⟨g, 0, none⟩), .pointer (some ⟨h, 0, none⟩), .agg #[.int .i64 kind, .int .i64 n, .string text, .bool raw, .slice A ps.length c]] W fun e W' => e = .returned (.bool true) ∧ ∃ F' D', Pr Rep w0 W' F' g h ao an co cn so sn D' D' := by
  have HAm := Lib.hid (fun V => among_any kind 6 V (by omega) (by omega))
  rw [hk] at HAm
  have hal := p.step HD ((Below.refl _ W).alloc (Nat.le_refl _) (.cells #[.int .i64 kind, .int .i64 n, .string text, .bool raw, .slice A ps.length c] 34))
  have hbx : Cel (W.alloc (.cells #[.int .i64 kind, .int .i64 n, .string text, .bool raw, .slice A ps.length c] 34)) W.heap.size 34 [.int .i64 kind, .int .i64 n, .string text, .bool raw, .slice A ps.length c] := (blk1 W _).2
  have hbf : ¬ F W.heap.size := fun hf => by have := HD.lt p.d _ hf; omega
  have hbr : ¬ RFoot h ao an W.heap.size := fun hf => by have := p.r.lt _ hf; omega
  have hb0 : w0.heap.size ≤ W.heap.size := p.bel.size
  have HN := Lib.hid ha.n63
  have HAc := Lib.hid ha
  have hlt : W.heap.size < (W.alloc (.cells #[.int .i64 kind, .int .i64 n, .string text, .bool raw, .slice A ps.length c] 34)).heap.size := by simp
  clear p hk ha
  go_enter Try.func10, Try.ntmps10
  go_upto_region 1 with fail
  generalize W.alloc (.cells #[.int .i64 kind, .int .i64 n, .string text, .bool raw, .slice A ps.length c] 34) = W1 at hal hbx hlt ⊢
  generalize W.heap.size = b at hbx hbf hbr hlt hb0 ⊢
  have HP := Lib.hid hal
  have HB := Lib.hid hbx
  have HOk := Lib.hid (HD.ok hal.d)
  have k0 := hbx.cell (i := 0) rfl
  have k1 := hbx.cell (i := 1) rfl
  have k4 := hbx.cell (i := 4) rfl
  clear hal hbx
  go_wp2_with fail
  refine (HAm.out _).mono ?_
  rintro e W2 ⟨rfl, rfl⟩
  obtain ⟨i1, hi, hz0, hz1, hz2⟩ := info_parts Sc.Try.infoInt
  have hin : IntsAt W2 A ps := by
    intro hp
    obtain ⟨ad, h1, h2, h3⟩ := HAc.out.at_ hp
    exact ⟨ad, h1, Nat.lt_of_lt_of_le h2 HP.out.bel.size, fun i hi => (cell_kept HP.out.bel _ (by rw [st_block]; exact h2)).trans (h3 i hi)⟩
  have HIn := Lib.hid hin
  have hO0 : (W2.alloc (.cells #[] 3)).ownsRow W2.heap.size 3 1 (.slice (some ⟨W2.heap.size, 0, none⟩) 0 0) 0 [] := World.ownsRow_lit (base := W2.heap.size) (e := 3) (size := 1) W2 #[] 0 (Nat.le_refl _) (by unfold maxLen; omega) rfl
  have HO0 := Lib.hid hO0
  have rb : reachBytes = 140737488351232 := by unfold reachBytes; rfl
  have hp8 := HAc.out.p8
  have k4' := fun o : Obj => (HB.out.below ((Below.refl _ W2).alloc (Nat.le_refl _) o)).cell (i := 4) rfl
  clear hin hO0
  go_upto_region 17 with (at_builtin; refine wpList_append_opt rfl _ _ 32 rfl W2.heap.size 3 i1 (.int .i64 0) 8 Try.underlying32 hi hz0 hz1 hz2 rfl _ 0 _ rfl HO0.out A ps.length c (intV ps) rfl (intV_len _) (fun e => ⟨by rw [(HAc.out.none_ e).1]; rfl, (HAc.out.none_ e).2⟩) ?c1 ?c2 ?c3 ?c4 (by simp) ?_)
  case c1 => exact fun ad e => by subst e; exact (HIn.out.below ((Below.refl _ W2).alloc (Nat.le_refl _) _)).news
  case c2 => intro u hu; obtain ⟨s, _, rfl⟩ := List.mem_map.1 hu; rfl
  case c3 => unfold maxLen; omega
  case c4 => omega
  intro v' W3 ho hg hat
  try rw [List.nil_append] at ho
  try rw [Nat.zero_add] at ho
  have hB3 : Below W2.heap.size W2 W3 := ((Below.refl _ W2).alloc (Nat.le_refl _) (.cells #[] 3)).grown hg (by simp) (fun k hk => (HO0.out.lt k hk).1)
  obtain ⟨A1, c1, rfl, hi1⟩ := ints_of_own ho rfl
  have hA1 : ∀ a, A1 = some a → W2.heap.size ≤ a.block := fun a e => (ho.lt a.block (by rw [e]; rfl)).1
  have HP1 := Lib.hid (HP.out.step HD hB3)
  have kk4 := (HB.out.below hB3).cell (i := 4) rfl
  have hlt3 : b < W3.heap.size := Nat.lt_of_lt_of_le hlt hB3.size
  have HI1 := Lib.hid hi1
  have HIn3 := Lib.hid (HIn.out.below hB3)
  have hAF : 0 < ps.length → ∀ a, A1 = some a → ¬ F a.block := fun _ a e hf => by have := hA1 a e; have := HD.lt HP.out.d _ hf; omega
  have hAR : 0 < ps.length → ∀ a, A1 = some a → ¬ RFoot h ao an a.block := fun _ a e hf => by have := hA1 a e; have := HP.out.r.lt _ hf; omega
  have HAF := Lib.hid hAF
  have HAR := Lib.hid hAR
  have hOF : 0 < ps.length → ∀ a, A = some a → ¬ F a.block := fun hp a e hf => by
    obtain ⟨ad, h1, h2, _⟩ := HAc.out.at_ hp
    rw [h1] at e
    obtain rfl := Option.some.inj e
    have := HP.out.bF _ hf
    omega
  have hOR : 0 < ps.length → ∀ a, A = some a → ¬ RFoot h ao an a.block := fun hp a e hf => by
    obtain ⟨ad, h1, h2, _⟩ := HAc.out.at_ hp
    rw [h1] at e
    obtain rfl := Option.some.inj e
    have := HP.out.bR _ hf
    omega
  have HOF := Lib.hid (And.intro hOF hOR)
  clear ho hg hat hB3 hi1 hA1 hAF hAR hOF hOR HO0 HP HIn k0 k1 k4 k4' HB hlt
  go_wp2_with fail
  refine (HD.crash A1 c1 ps _ HP1.out.d HI1.out HAF.out HAc.out.p8 HAc.out.pr).mono ?_
  rintro e W4 ⟨rfl, F1, hd1, hf1⟩
  have HP2 := Lib.hid (HP1.out.actD hd1 hf1)
  have kk5 := (One.cell hf1 (a := ⟨b, 4, none⟩) hlt3 hbf).trans kk4
  have hlt4 : b < W4.heap.size := Nat.lt_of_lt_of_le hlt3 hf1.size
  have HI2 := Lib.hid (ints_fr hf1 HI1.out HAF.out)
  have HIn4 := Lib.hid (ints_fr hf1 HIn3.out HOF.out.1)
  clear hd1 hf1 HI1 HIn3 HP1 kk4 hlt3
  go_wp2_with fail
  refine (rcrash_any HP2.out.r HOk.out A c ps HIn4.out HOF.out.2 (by omega)).mono ?_
  rintro e W5 ⟨rfl, hr2, hf2⟩
  have HP3 := Lib.hid (HP2.out.actR HD hr2 hf2)
  have kk6 := (One.cell hf2 (a := ⟨b, 4, none⟩) hlt4 hbr).trans kk5
  have HI3 := Lib.hid (ints_fr hf2 HI2.out HAR.out)
  have HIn5 := Lib.hid (ints_fr hf2 HIn4.out HOF.out.2)
  clear hr2 hf2 HI2 HIn4 HP2 kk5 hlt4
  go_wp2_with fail
  refine (sameInts_any A1 A c1 c ps ps _ HI3.out HIn5.out (by omega)).mono ?_
  rintro e W6 ⟨rfl, m, rfl⟩
  rw [decide_eq_true (rfl : ps = ps)]
  have HP4 := Lib.hid (HP3.out.step HD (below_drewN _ m))
  go_wp2_with fail
  go_ret
  exact ⟨rfl, _, _, HP4.out⟩

set_option maxRecDepth 20000 in
set_option maxHeartbeats 8000000 in
theorem step_5 (HD : DevAll Rep) (p : Pr Rep w0 W F g h ao an co cn so sn D D) (A : Option Addr) (c : Nat) (kind n : Int) (text : ByteArray) (raw : Bool) (ps : List Int) (ha : ActOk w0 A c n text ps) (hk : amongV kind 6 = 5) :
    Calls Try.prog 10 #[.pointer (some ⟨g, 0, none⟩), .pointer (some ⟨h, 0, none⟩), .agg #[.int .i64 kind, .int .i64 n, .string text, .bool raw, .slice A ps.length c]] W fun e W' => e = .returned (.bool true) ∧ ∃ F' D', Pr Rep w0 W' F' g h ao an co cn so sn D' D' := by
  have HAm := Lib.hid (fun V => among_any kind 6 V (by omega) (by omega))
  rw [hk] at HAm
  have hal := p.step HD ((Below.refl _ W).alloc (Nat.le_refl _) (.cells #[.int .i64 kind, .int .i64 n, .string text, .bool raw, .slice A ps.length c] 34))
  have hbx : Cel (W.alloc (.cells #[.int .i64 kind, .int .i64 n, .string text, .bool raw, .slice A ps.length c] 34)) W.heap.size 34 [.int .i64 kind, .int .i64 n, .string text, .bool raw, .slice A ps.length c] := (blk1 W _).2
  have hbf : ¬ F W.heap.size := fun hf => by have := HD.lt p.d _ hf; omega
  have hbr : ¬ RFoot h ao an W.heap.size := fun hf => by have := p.r.lt _ hf; omega
  have hb0 : w0.heap.size ≤ W.heap.size := p.bel.size
  have HN := Lib.hid ha.n63
  have HAc := Lib.hid ha
  have hlt : W.heap.size < (W.alloc (.cells #[.int .i64 kind, .int .i64 n, .string text, .bool raw, .slice A ps.length c] 34)).heap.size := by simp
  clear p hk ha
  go_enter Try.func10, Try.ntmps10
  go_upto_region 1 with fail
  generalize W.alloc (.cells #[.int .i64 kind, .int .i64 n, .string text, .bool raw, .slice A ps.length c] 34) = W1 at hal hbx hlt ⊢
  generalize W.heap.size = b at hbx hbf hbr hlt hb0 ⊢
  have HP := Lib.hid hal
  have HB := Lib.hid hbx
  have HOk := Lib.hid (HD.ok hal.d)
  have k0 := hbx.cell (i := 0) rfl
  have k1 := hbx.cell (i := 1) rfl
  have k4 := hbx.cell (i := 4) rfl
  clear hal hbx
  go_wp2_with fail
  refine (HAm.out _).mono ?_
  rintro e W2 ⟨rfl, rfl⟩
  go_wp2_with fail
  refine (HD.wipe _ HP.out.d).mono ?_
  rintro e W3 ⟨rfl, F1, hd1, hf1⟩
  have HP1 := Lib.hid (HP.out.actD hd1 hf1)
  have HV := Lib.hid (rwipe_any HP1.out.r HOk.out)
  clear hd1 hf1 k0 k1 k4 HP hlt hbf HB
  go_wp2_with fail
  refine HV.out.mono ?_
  rintro e W4 ⟨rfl, hr2, hf2⟩
  have HP2 := Lib.hid (HP1.out.actR HD hr2 hf2)
  clear hr2 hf2
  go_wp2_with fail
  go_ret
  exact ⟨rfl, _, _, HP2.out⟩

theorem step_any (HD : DevAll Rep) (p : Pr Rep w0 W F g h ao an co cn so sn D D) (A : Option Addr) (c : Nat) (kind n : Int) (text : ByteArray) (raw : Bool) (ps : List Int) (ha : ActOk w0 A c n text ps) :
    Calls Try.prog 10 #[.pointer (some ⟨g, 0, none⟩), .pointer (some ⟨h, 0, none⟩), .agg #[.int .i64 kind, .int .i64 n, .string text, .bool raw, .slice A ps.length c]] W fun e W' => e = .returned (.bool true) ∧ ∃ F' D', Pr Rep w0 W' F' g h ao an co cn so sn D' D' := by
  have hlt := amongV_lt kind 6 (by omega)
  rcases (show amongV kind 6 = 0 ∨ amongV kind 6 = 1 ∨ amongV kind 6 = 2 ∨ amongV kind 6 = 3 ∨ amongV kind 6 = 4 ∨ amongV kind 6 = 5 by omega) with e | e | e | e | e | e
  · exact step_0 HD p A c kind n text raw ps ha e
  · exact step_1 HD p A c kind n text raw ps ha e
  · exact step_2 HD p A c kind n text raw ps ha e
  · exact step_3 HD p A c kind n text raw ps ha e
  · exact step_4 HD p A c kind n text raw ps ha e
  · exact step_5 HD p A c kind n text raw ps ha e

end

end Sc
end Go.Proofs.Ytecgimnmccmpjaa
