/- The law of what is flushed, over what is asked of the landed package; no condition but the range. -/
import Derived.Test.YtecgimnmccmpjaaScArr
namespace Go.Proofs.Ytecgimnmccmpjaa
namespace Sc
open Go.RowKit Bk

attribute [local go_sem ↓] Go.wp_at_zero Go.wp_at_succ
attribute [local go_sem] floatUpon pick

theorem ps_off {w : World} {F : Nat → Prop} {A : Option Addr} {ps : List Int} (h : IntsAt w A ps) (hF : ∀ k, F k → w.heap.size ≤ k) : 0 < ps.length → ∀ a, A = some a → ¬ F a.block := fun hp a ha hf => by
  obtain ⟨ad, e, hl, _⟩ := h hp
  rw [e] at ha
  cases ha
  exact absurd (hF _ hf) (by omega)

/-- the device and the array of what is wanted -/
structure FlE (Rep : World → (Nat → Prop) → Nat → Dev → Prop) (w0 W : World) (F : Nat → Prop) (g : Nat) (D : Dev) (b : Nat) (t : TypeId) (l : List ByteArray) : Prop where
  o : OneB Rep w0 W F g D b t l
  idle : Idle D
  on : D.on.length = 8
  len : l.length = 8
  see : ∀ k, k < 8 → flushF D k = l.getD k nil0
  full : ∀ k, k < 8 → (l.getD k nil0).size = 64

theorem fl_rep {k : Nat} (hk : k < 8) : (List.replicate 8 zero64).getD k nil0 = zero64 := by
  rw [getD_at (by rw [List.length_replicate]; exact hk), List.getElem_replicate]

theorem fl0 (k : Nat) (hk : k < 8) : flushF (new0 8) k = (List.replicate 8 zero64).getD k nil0 := by
  unfold flushF new0
  simp only
  rw [if_pos (by rw [getD_at (by rw [List.length_replicate]; exact hk), List.getElem_replicate])]

/-- what is seen of a device of eight sectors -/
structure Seen (D : Dev) (l : List ByteArray) : Prop where
  up : D.down = false
  on : D.on.length = 8
  see : ∀ k, k < 8 → flushF D k = l.getD k nil0

theorem Seen.read {D : Dev} {l : List ByteArray} (h : Seen D l) {k : Nat} (hk : k < 8) : rdV D (k : Int) = (l.getD k nil0, 0) := by
  rw [rd_up h.up (by rw [h.on]; exact hk), h.see k hk]

theorem Seen.crash {D : Dev} {l : List ByteArray} (h : Seen D l) (hl : D.new.length = D.on.length) (hc : Clean D) (ps : List Int) : Seen (crD D ps) l :=
  ⟨rfl, (cr_len D ps).trans h.on, fun k hk => (cr_view hl hc ps (by rw [h.on]; exact hk)).trans (h.see k hk)⟩

section
variable {Rep : World → (Nat → Prop) → Nat → Dev → Prop} {w0 W W' : World} {F F' : Nat → Prop} {g b : Nat} {D D' : Dev} {t : TypeId} {l : List ByteArray}

theorem FlE.write (h : FlE Rep w0 W F g D b t l) (hn : D.new.length = D.on.length) {r : Nat} (hr : r < 8) {s : ByteArray} (hs : s.size = 64) (ho : OneB Rep w0 W' F' g ⟨D.on, D.new.set r s, 0, false⟩ b t (l.set r s)) :
    FlE Rep w0 W' F' g ⟨D.on, D.new.set r s, 0, false⟩ b t (l.set r s) := by
  have hg : ∀ k, k < 8 → (l.set r s).getD k nil0 = if k = r then s else l.getD k nil0 := fun k hk => by
    by_cases e : k = r
    · subst e
      rw [if_pos rfl, List.getD_eq_getElem?_getD, List.getElem?_set_self (by rw [h.len]; exact hk)]; rfl
    · rw [if_neg e, List.getD_eq_getElem?_getD, List.getElem?_set_ne (Ne.symm e), ← List.getD_eq_getElem?_getD]
  refine ⟨ho, ⟨rfl, rfl⟩, h.on, by rw [List.length_set]; exact h.len, fun k hk => ?_, fun k hk => ?_⟩
  · rw [view_set (by rw [hn, h.on]; exact hr) hs, hg k hk]
    split
    · rfl
    · exact h.see k hk
  · rw [hg k hk]
    split
    · exact hs
    · exact h.full k hk

theorem OneB.eight (h : OneB Rep w0 W F g D b t l) (hl : l.length = 8) : ∃ a0 a1 a2 a3 a4 a5 a6 a7 : ByteArray, W.cell? ⟨b, 0, none⟩ = some (.string a0) ∧ W.cell? ⟨b, 1, none⟩ = some (.string a1) ∧ W.cell? ⟨b, 2, none⟩ = some (.string a2) ∧ W.cell? ⟨b, 3, none⟩ = some (.string a3) ∧ W.cell? ⟨b, 4, none⟩ = some (.string a4) ∧ W.cell? ⟨b, 5, none⟩ = some (.string a5) ∧ W.cell? ⟨b, 6, none⟩ = some (.string a6) ∧ W.cell? ⟨b, 7, none⟩ = some (.string a7) ∧ l = [a0, a1, a2, a3, a4, a5, a6, a7] := by
  match l, hl with
  | [a0, a1, a2, a3, a4, a5, a6, a7], _ =>
    exact ⟨a0, a1, a2, a3, a4, a5, a6, a7, h.cell (i := 0) (by simp), h.cell (i := 1) (by simp), h.cell (i := 2) (by simp), h.cell (i := 3) (by simp), h.cell (i := 4) (by simp), h.cell (i := 5) (by simp), h.cell (i := 6) (by simp), h.cell (i := 7) (by simp), rfl⟩

set_option maxRecDepth 20000 in
theorem idx8 (a0 a1 a2 a3 a4 a5 a6 a7 : ByteArray) {k : Nat} (hk : k < 8) (V : World) : (Instr.index 40 (.agg #[.string a0, .string a1, .string a2, .string a3, .string a4, .string a5, .string a6, .string a7]) (.int .i64 (k : Int))).run Try.prog V = .ok (.string ([a0, a1, a2, a3, a4, a5, a6, a7].getD k nil0)) V := by
  match k, hk with
  | 0, _ => show _ = _; kernel_rfl
  | 1, _ => show _ = _; kernel_rfl
  | 2, _ => show _ = _; kernel_rfl
  | 3, _ => show _ = _; kernel_rfl
  | 4, _ => show _ = _; kernel_rfl
  | 5, _ => show _ = _; kernel_rfl
  | 6, _ => show _ = _; kernel_rfl
  | 7, _ => show _ = _; kernel_rfl

theorem FlE.flushed (h : FlE Rep w0 W F g D b t l) (hn : D.new.length = D.on.length) : ∃ D1, flD D = (D1, 0) ∧ Clean D1 ∧ dirtyN D1 = 0 ∧ Seen D1 l :=
  ⟨_, fl_idle h.idle, fl_clean hn _ _, dirty_clean hn _ _ _, rfl, (upd_len _ _ _).trans h.on, fun k hk => (view_clean hn (by rw [h.on]; exact hk) _ _).trans (h.see k hk)⟩

end

section
variable {Rep : World → (Nat → Prop) → Nat → Dev → Prop}

set_option maxRecDepth 20000 in
set_option maxHeartbeats 8000000 in
theorem flushed_walk (HD : DevAll Rep) (HRp : RepAll) (v : Value) (L : List ByteArray) (v2 : Value) (ps : List Int) (w : World) (hv : TextsOf w v L) (hp : IntsOf w v2 ps) :
    Calls Try.prog 4 #[v, v2] w fun e w' => e = .returned (.bool true) ∧ Below w.heap.size w w' := by
  obtain ⟨A, c, rfl, hat, hl16, hr⟩ := hv
  obtain ⟨A2, c2, rfl, hp1, hp2, hp3⟩ := hp
  have HWk := Lib.hid (fun V => works_any HD HRp V)
  have HF0 := Lib.hid (fun V => show Calls Try.prog 14 #[.string ⟨#[]⟩] V fun e w' => e = .returned (.string zero64) ∧ Below V.heap.size V w' from by rw [← fitB_nil]; exact fit_any nil0 V)
  have HFs := Lib.hid (fun s V => fit_any s V)
  go_enter Try.func4, Try.ntmps4
  go_wp2_with fail
  refine (HD.new 8 w (by omega)).mono ?_
  rintro e w1 (⟨_, _, F, g, rfl, hr, hF, hb⟩ | ⟨hno, _⟩)
  case inr => omega
  have HO := Lib.hid (show One Rep w w1 F g (new0 8) from ⟨hr, hF, hb⟩)
  clear hr hF hb
  go_wp2_with fail
  refine (HWk.out _).mono ?_
  rintro e w2 ⟨rfl, hb⟩
  have HO2 := Lib.hid (HO.out.step HD hb)
  clear hb HO HWk
  go_upto_region 5 with fail
  have hB0 : OneB Rep w (w2.alloc (.cells #[.string ⟨#[]⟩, .string ⟨#[]⟩, .string ⟨#[]⟩, .string ⟨#[]⟩, .string ⟨#[]⟩, .string ⟨#[]⟩, .string ⟨#[]⟩, .string ⟨#[]⟩] 40)) F g (new0 8) w2.heap.size 40 (List.replicate 8 nil0) := OneB.new HD HO2.out 40 (List.replicate 8 nil0)
  have HB0 := Lib.hid hB0
  clear hB0 HO2
  generalize w2.alloc (.cells #[.string ⟨#[]⟩, .string ⟨#[]⟩, .string ⟨#[]⟩, .string ⟨#[]⟩, .string ⟨#[]⟩, .string ⟨#[]⟩, .string ⟨#[]⟩, .string ⟨#[]⟩] 40) = W1 at HB0 ⊢
  generalize w2.heap.size = b at HB0 ⊢
  go_wp2_with fail
  go_loopw [28] (fun i wr => ∃ j : Nat, j ≤ 8 ∧ i = .int .i64 (j : Int) ∧ Hid (OneB Rep w wr F g (new0 8) b 40 (upd (List.replicate 8 nil0) j (fun _ => zero64)))) (fun i _ => 8 - (intOf i).toNat)
  case atStart => exact ⟨0, by omega, rfl, Lib.hid (by rw [upd_zero]; exact HB0.out)⟩
  case round =>
    obtain ⟨j, hj, rfl, HO⟩ := hrel
    clear HB0
    by_cases hlt : j < 8
    · have pj : (j : Int) < 8 := by omega
      go_wp2_with fail
      refine (HF0.out _).mono ?_
      rintro e w5 ⟨rfl, hb⟩
      have HO2 := Lib.hid (HO.out.step HD hb)
      clear hb
      have f1 := HO2.out.free j
      have f2 := HO2.out.cell (i := j) (by rw [upd_len, List.length_replicate]; omega)
      go_wp2_with fail
      go_roundw
      case rel => exact ⟨j + 1, by omega, by go_num, Lib.hid (by have := HO2.out.set HD j zero64; rwa [upd_set (by rw [List.length_replicate]; omega) rfl] at this)⟩
      case measure => simp [intOf]; omega
    · obtain rfl : j = 8 := by omega
      have hO : OneB Rep w wr F g (new0 8) b 40 (List.replicate 8 zero64) := by
        have := HO.out
        have e := upd_all (List.replicate 8 nil0) zero64
        rw [List.length_replicate] at e
        rwa [e] at this
      have HE : Hid (FlE Rep w wr F g (new0 8) b 40 (List.replicate 8 zero64)) := Lib.hid ⟨hO, new0_idle 8, rfl, rfl, fl0, fun k hk => by rw [fl_rep hk]; exact zero64_size⟩
      clear hO HO hlt
      have HAt := Lib.hid hat
      have HPs := Lib.hid hp1
      have HPz := Lib.hid hp2
      have HPn := Lib.hid hp3
      have hl63 : (L.length : Int) ≤ 9223372036854775807 := by omega
      clear hat hp1 hp2 hp3 hr hl16 HF0
      go_wp2_with fail
      rw [show ((8 : Nat) : Int) = 8 from rfl]
      go_loopw [9] (fun i wr => ∃ (j : Nat) (F : Nat → Prop) (D : Dev) (l : List ByteArray), j ≤ L.length ∧ j ≤ 40 ∧ i = .int .i64 (j : Int) ∧ Hid (FlE Rep w wr F g D b 40 l)) (fun i _ => L.length - (intOf i).toNat)
      case atStart => exact ⟨0, F, _, _, by omega, by omega, rfl, HE.out⟩
      case round =>
        clear HE
        obtain ⟨j, F1, D, l, hj, hj2, rfl, HE⟩ := hrel
        by_cases hgo : j < L.length ∧ j < 40
        · obtain ⟨hlt, hlt2⟩ := hgo
          have pj : (j : Int) < (L.length : Int) := by omega
          have pj2 : (j : Int) < 40 := by omega
          obtain ⟨ad, rfl, hab, hcl⟩ := HAt.out (by omega)
          have x1 := (cell_kept HE.out.o.o.bel (ad.add j) (by rw [st_block]; exact hab)).trans (hcl j hlt)
          generalize L[j] = s at x1
          obtain ⟨r, hr⟩ : ∃ r, r = j * 3 % 8 := ⟨_, rfl⟩
          have hr8 : r < 8 := by omega
          have w1 : IntKind.i64.wrap ((j : Int) * 3) = (j : Int) * 3 := i64_wrap (by omega) (by omega)
          have w3 : IntKind.i64.wrap ((j : Int) + 1) = (j : Int) + 1 := i64_wrap (by omega) (by omega)
          have pr : ((j : Int) * 3) % 8 = (r : Int) := by omega
          have pr2 : ((j : Int) * 3).tmod 8 = (r : Int) := by rw [Int.tmod_eq_emod_of_nonneg (by omega)]; exact pr
          clear hr hcl
          go_wp2_with fail
          refine (HFs.out _ _).mono ?_
          rintro e w5 ⟨rfl, hb⟩
          have HO5 := Lib.hid (HE.out.o.step HD hb)
          have f1 := HO5.out.free r
          have f2 := HO5.out.cell (i := r) (by rw [HE.out.len]; omega)
          have HO6 := Lib.hid (HO5.out.set HD r (fitB s))
          clear hb
          go_upto_region 14 with fail
          generalize w5.setCell ⟨b, r, none⟩ (.string (fitB s)) = w6 at HO6 ⊢
          have f3 := HO6.out.cell (i := r) (by rw [List.length_set, HE.out.len]; omega)
          rw [List.getElem_set_self] at f3
          have hw := HD.write (r : Int) (fitB s) w6 HO6.out.o.d (by omega) (by rw [fitB_size]; unfold reachBytes; omega)
          rw [wr_idle HE.out.idle (by rw [HE.out.on]; exact hr8) (fitB_size s)] at hw
          clear f1 f2
          go_wp2_with fail
          refine hw.mono ?_
          rintro e w7 ⟨rfl, F2, h1, h2⟩
          have HE2 := Lib.hid (HE.out.write (HD.ok HE.out.o.o.d).len hr8 (fitB_size s) (HO6.out.act h1 h2))
          clear hw h1 h2 HO5 HO6 f3
          go_wp2_with fail
          go_roundw
          case rel => exact ⟨j + 1, F2, _, _, by omega, by omega, by go_num, HE2.out⟩
          case measure => simp [intOf]; omega
        · obtain ⟨D1, hf1, hf2, hf3, hf4⟩ := HE.out.flushed (HD.ok HE.out.o.o.d).len
          have hfl := HD.flush wr HE.out.o.o.d
          rw [hf1] at hfl
          have HS1 := Lib.hid (And.intro hf2 hf4)
          have HDi := Lib.hid (fun V F' (o : OneB Rep w V F' g D1 b 40 l) => hf3 ▸ HD.dirty V o.o.d)
          clear hf1 hf2 hf3 hf4
          have hx : (¬ j < L.length) ∨ (j < L.length ∧ ¬ j < 40) := by omega
          clear hgo
          rcases hx with h | ⟨h, h2⟩
          · have pj : ¬ (j : Int) < (L.length : Int) := by omega
            clear h
            go_wp2_with fail
            refine hfl.mono ?_
            rintro e w3 ⟨rfl, F2, h1, h2⟩
            have HO3 := Lib.hid (HE.out.o.act h1 h2)
            have hdi := HDi.out _ _ HO3.out
            clear h1 h2 hfl
            go_wp2_with fail
            refine hdi.mono ?_
            rintro e w4 ⟨rfl, F3, h1, h2⟩
            have HO4 := Lib.hid (HO3.out.act h1 h2)
            have hcr := HD.crash A2 c2 ps w4 HO4.out.o.d (HPs.out.below HO4.out.o.bel) (ps_off HPs.out HO4.out.o.bF) HPz.out HPn.out
            clear h1 h2 hdi
            go_wp2_with fail
            refine hcr.mono ?_
            rintro e w5 ⟨rfl, F4, h1, h2⟩
            have HO5 := Lib.hid (HO4.out.act h1 h2)
            clear h1 h2 hcr
            have hcr := HD.crash A2 c2 ps w5 HO5.out.o.d (HPs.out.below HO5.out.o.bel) (ps_off HPs.out HO5.out.o.bF) HPz.out HPn.out
            go_wp2_with fail
            refine hcr.mono ?_
            rintro e w6 ⟨rfl, F5, h1, h2⟩
            have HO6 := Lib.hid (HO5.out.act h1 h2)
            have HS3 := Lib.hid ((HS1.out.2.crash (HD.ok HO4.out.o.d).len HS1.out.1 ps).crash (HD.ok HO5.out.o.d).len (cr_clean (HD.ok HO4.out.o.d).len ps) ps)
            clear h1 h2 hcr
            generalize crD (crD D1 ps) ps = D3 at HO6 HS3
            go_upto_region 20 with fail
            obtain ⟨a0, a1, a2, a3, a4, a5, a6, a7, c0, c1, c2, c3, c4, c5, c6, c7, hl8⟩ := HO6.out.eight HE.out.len
            have HIx := Lib.hid (fun k (hk : k < 8) V => idx8 a0 a1 a2 a3 a4 a5 a6 a7 hk V)
            rw [← hl8] at HIx
            clear hl8
            go_wp2_with fail
            clear c0 c1 c2 c3 c4 c5 c6 c7
            generalize (#[.string a0, .string a1, .string a2, .string a3, .string a4, .string a5, .string a6, .string a7] : Array Value) = AV at HIx ⊢
            go_loopw [80] (fun i wr => ∃ (k : Nat) (F : Nat → Prop), k ≤ 8 ∧ i = .int .i64 (k : Int) ∧ Hid (OneB Rep w wr F g D3 b 40 l)) (fun i _ => 8 - (intOf i).toNat)
            case atStart => exact ⟨0, F5, by omega, rfl, HO6.out⟩
            case round =>
              obtain ⟨k, F6, hk, rfl, HO⟩ := hrel
              clear HO6
              by_cases hlt : k < 8
              · have pk : (k : Int) < 8 := by omega
                have hidx := HIx.out k hlt
                have hrd := fun V (o : OneB Rep w V F6 g D3 b 40 l) => HD.read (k : Int) V o.o.d (by omega)
                rw [HS3.out.read hlt] at hrd
                have HRd := Lib.hid hrd
                clear hrd
                generalize l.getD k nil0 = s at hidx HRd
                have q := text_eq s
                go_wp2_with fail
                refine (HRd.out _ HO.out).mono ?_
                rintro e w7 ⟨rfl, F7, h1, h2⟩
                have HO7 := Lib.hid (HO.out.act h1 h2)
                clear h1 h2 HRd HO
                go_wp2_with fail
                go_roundw
                case rel => exact ⟨k + 1, F7, by omega, by go_num, HO7.out⟩
                case measure => simp [intOf]; omega
              · obtain rfl : k = 8 := by omega
                go_wp2_with fail
                go_ret
                exact ⟨rfl, HO.out.o.bel⟩
          · have pj : (j : Int) < (L.length : Int) := by omega
            have pj2 : ¬ (j : Int) < 40 := by omega
            clear h h2
            go_wp2_with fail
            refine hfl.mono ?_
            rintro e w3 ⟨rfl, F2, h1, h2⟩
            have HO3 := Lib.hid (HE.out.o.act h1 h2)
            have hdi := HDi.out _ _ HO3.out
            clear h1 h2 hfl
            go_wp2_with fail
            refine hdi.mono ?_
            rintro e w4 ⟨rfl, F3, h1, h2⟩
            have HO4 := Lib.hid (HO3.out.act h1 h2)
            have hcr := HD.crash A2 c2 ps w4 HO4.out.o.d (HPs.out.below HO4.out.o.bel) (ps_off HPs.out HO4.out.o.bF) HPz.out HPn.out
            clear h1 h2 hdi
            go_wp2_with fail
            refine hcr.mono ?_
            rintro e w5 ⟨rfl, F4, h1, h2⟩
            have HO5 := Lib.hid (HO4.out.act h1 h2)
            clear h1 h2 hcr
            have hcr := HD.crash A2 c2 ps w5 HO5.out.o.d (HPs.out.below HO5.out.o.bel) (ps_off HPs.out HO5.out.o.bF) HPz.out HPn.out
            go_wp2_with fail
            refine hcr.mono ?_
            rintro e w6 ⟨rfl, F5, h1, h2⟩
            have HO6 := Lib.hid (HO5.out.act h1 h2)
            have HS3 := Lib.hid ((HS1.out.2.crash (HD.ok HO4.out.o.d).len HS1.out.1 ps).crash (HD.ok HO5.out.o.d).len (cr_clean (HD.ok HO4.out.o.d).len ps) ps)
            clear h1 h2 hcr
            generalize crD (crD D1 ps) ps = D3 at HO6 HS3
            go_upto_region 20 with fail
            obtain ⟨a0, a1, a2, a3, a4, a5, a6, a7, c0, c1, c2, c3, c4, c5, c6, c7, hl8⟩ := HO6.out.eight HE.out.len
            have HIx := Lib.hid (fun k (hk : k < 8) V => idx8 a0 a1 a2 a3 a4 a5 a6 a7 hk V)
            rw [← hl8] at HIx
            clear hl8
            go_wp2_with fail
            clear c0 c1 c2 c3 c4 c5 c6 c7
            generalize (#[.string a0, .string a1, .string a2, .string a3, .string a4, .string a5, .string a6, .string a7] : Array Value) = AV at HIx ⊢
            go_loopw [80] (fun i wr => ∃ (k : Nat) (F : Nat → Prop), k ≤ 8 ∧ i = .int .i64 (k : Int) ∧ Hid (OneB Rep w wr F g D3 b 40 l)) (fun i _ => 8 - (intOf i).toNat)
            case atStart => exact ⟨0, F5, by omega, rfl, HO6.out⟩
            case round =>
              obtain ⟨k, F6, hk, rfl, HO⟩ := hrel
              clear HO6
              by_cases hlt : k < 8
              · have pk : (k : Int) < 8 := by omega
                have hidx := HIx.out k hlt
                have hrd := fun V (o : OneB Rep w V F6 g D3 b 40 l) => HD.read (k : Int) V o.o.d (by omega)
                rw [HS3.out.read hlt] at hrd
                have HRd := Lib.hid hrd
                clear hrd
                generalize l.getD k nil0 = s at hidx HRd
                have q := text_eq s
                go_wp2_with fail
                refine (HRd.out _ HO.out).mono ?_
                rintro e w7 ⟨rfl, F7, h1, h2⟩
                have HO7 := Lib.hid (HO.out.act h1 h2)
                clear h1 h2 HRd HO
                go_wp2_with fail
                go_roundw
                case rel => exact ⟨k + 1, F7, by omega, by go_num, HO7.out⟩
                case measure => simp [intOf]; omega
              · obtain rfl : k = 8 := by omega
                go_wp2_with fail
                go_ret
                exact ⟨rfl, HO.out.o.bel⟩

end

end Sc
end Go.Proofs.Ytecgimnmccmpjaa
