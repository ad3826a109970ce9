/- The law of what is torn, over what is asked of the landed package; no condition but the range. -/
import Derived.Test.YtecgimnmccmpjaaScFlushed
import Derived.Deep.QuietTactic
import Derived.BigQuiet
namespace Go.Proofs.Ytecgimnmccmpjaa
namespace Sc
open Go.RowKit Bk

attribute [local go_sem ↓] Go.wp_at_zero Go.wp_at_succ
attribute [local go_sem] floatUpon pick

/-- the device and the arrays of what was and what is wanted -/
structure TrE (Rep : World → (Nat → Prop) → Nat → Dev → Prop) (w0 W : World) (F : Nat → Prop) (g : Nat) (D : Dev) (b c : Nat) (t : TypeId) (l m : List ByteArray) : Prop where
  o : OneB Rep w0 W F g D b t l
  n : OneB Rep w0 W F g D c t m
  ne : b ≠ c
  idle : Idle D
  on : D.on.length = 6
  ll : l.length = 6
  lm : m.length = 6

section
variable {Rep : World → (Nat → Prop) → Nat → Dev → Prop} {w0 W W' : World} {F F' : Nat → Prop} {g b c : Nat} {D D' : Dev} {t : TypeId} {l m : List ByteArray}

theorem OneB.far (HD : DevAll Rep) (h : OneB Rep w0 W F g D b t l) (o : OneB Rep w0 W F g D c t m) (hn : b ≠ c) (i : Nat) (v : Value) : OneB Rep w0 (W.setCell ⟨c, i, none⟩ v) F g D b t l :=
  ⟨⟨HD.kept h.o.d (fun k hk => Below.heap_setCell _ _ _ _ (fun e => o.nf (by rw [show c = k from e.symm]; exact hk))), h.o.bF, h.o.bel.setCell (p := ⟨c, i, none⟩) o.bb _⟩, h.c.far hn, h.nf, h.bb⟩

theorem TrE.act (h : TrE Rep w0 W F g D b c t l m) (h1 : Rep W' F' g D') (h2 : Fr F F' W W') (hi : Idle D') (hl : D'.on.length = 6) : TrE Rep w0 W' F' g D' b c t l m :=
  ⟨h.o.act h1 h2, h.n.act h1 h2, h.ne, hi, hl, h.ll, h.lm⟩

theorem TrE.step (HD : DevAll Rep) (h : TrE Rep w0 W F g D b c t l m) (hb : Below W.heap.size W W') : TrE Rep w0 W' F g D b c t l m :=
  ⟨h.o.step HD hb, h.n.step HD hb, h.ne, h.idle, h.on, h.ll, h.lm⟩

theorem TrE.setO (HD : DevAll Rep) (h : TrE Rep w0 W F g D b c t l m) (i : Nat) (s : ByteArray) : TrE Rep w0 (W.setCell ⟨b, i, none⟩ (.string s)) F g D b c t (l.set i s) m :=
  ⟨h.o.set HD i s, h.n.far HD h.o h.ne.symm i _, h.ne, h.idle, h.on, by rw [List.length_set]; exact h.ll, h.lm⟩

theorem TrE.setN (HD : DevAll Rep) (h : TrE Rep w0 W F g D b c t l m) (i : Nat) (s : ByteArray) : TrE Rep w0 (W.setCell ⟨c, i, none⟩ (.string s)) F g D b c t l (m.set i s) :=
  ⟨h.o.far HD h.n h.ne i _, h.n.set HD i s, h.ne, h.idle, h.on, h.ll, by rw [List.length_set]; exact h.lm⟩

theorem TrE.bel (h : TrE Rep w0 W F g D b c t l m) : Below w0.heap.size w0 W := h.o.o.bel
theorem TrE.d (h : TrE Rep w0 W F g D b c t l m) : Rep W F g D := h.o.o.d

theorem TrE.new (HD : DevAll Rep) (h : One Rep w0 W F g (new0 6)) (t : TypeId) : TrE Rep w0 ((W.alloc (.cells (strV (List.replicate 6 nil0)).toArray t)).alloc (.cells (strV (List.replicate 6 nil0)).toArray t)) F g (new0 6) W.heap.size (W.heap.size + 1) t (List.replicate 6 nil0) (List.replicate 6 nil0) := by
  have h1 := OneB.new HD h t (List.replicate 6 nil0)
  have h2 := OneB.new HD h1.o t (List.replicate 6 nil0)
  have e : (W.alloc (.cells (strV (List.replicate 6 nil0)).toArray t)).heap.size = W.heap.size + 1 := by simp
  rw [e] at h2
  exact ⟨h1.step HD ((Below.refl _ _).alloc (Nat.le_refl _) _), h2, by omega, new0_idle 6, rfl, rfl, rfl⟩

theorem set_getD {l : List ByteArray} {i k : Nat} (hi : i < l.length) (s : ByteArray) : (l.set i s).getD k nil0 = if k = i then s else l.getD k nil0 := by
  by_cases e : k = i
  · subst e
    rw [if_pos rfl, List.getD_eq_getElem?_getD, List.getElem?_set_self hi]; rfl
  · rw [if_neg e, List.getD_eq_getElem?_getD, List.getElem?_set_ne (Ne.symm e), ← List.getD_eq_getElem?_getD]

/-- up to a place: what is seen is what was written -/
def UpTo (D : Dev) (l : List ByteArray) (j : Nat) : Prop := ∀ k, k < j → flushF D k = l.getD k nil0 ∧ (l.getD k nil0).size = 64

theorem UpTo.write {j : Nat} (h : UpTo D l j) (hn : D.new.length = D.on.length) (hl : l.length = D.on.length) (hj : j < D.on.length) {s : ByteArray} (hs : s.size = 64) (a : Nat) (z : Bool) : UpTo ⟨D.on, D.new.set j s, a, z⟩ (l.set j s) (j + 1) := fun k hk => by
  rw [view_set (by rw [hn]; exact hj) hs, set_getD (by rw [hl]; exact hj)]
  by_cases e : k = j
  · rw [if_pos e, if_pos e]; exact ⟨rfl, hs⟩
  · rw [if_neg e, if_neg e]; exact h k (by omega)

/-- what is on the device, what was, what is seen, what is wanted -/
def Tv (D : Dev) (l m : List ByteArray) : Prop := ∀ k, k < 6 → D.on.getD k nil0 = l.getD k nil0 ∧ (l.getD k nil0).size = 64 ∧ flushF D k = m.getD k nil0 ∧ (m.getD k nil0).size = 64

theorem Tv.flushed (h : UpTo D l 6) (hn : D.new.length = D.on.length) (ho : D.on.length = 6) (a : Nat) (z : Bool) : Tv ⟨upd D.on D.on.length (flushF D), upd D.new D.on.length (fun _ => nil0), a, z⟩ l l := fun k hk => by
  have hk2 : k < D.on.length := by rw [ho]; exact hk
  refine ⟨?_, (h k hk).2, ?_, (h k hk).2⟩
  · show (upd D.on D.on.length (flushF D)).getD k nil0 = _
    rw [upd_getD hk2]; exact (h k hk).1
  · rw [view_clean hn hk2]; exact (h k hk).1

theorem Tv.write (h : Tv D l m) (hn : D.new.length = D.on.length) (ho : D.on.length = 6) (hm : m.length = 6) {r : Nat} (hr : r < 6) {s : ByteArray} (hs : s.size = 64) (a : Nat) (z : Bool) : Tv ⟨D.on, D.new.set r s, a, z⟩ l (m.set r s) := fun k hk => by
  obtain ⟨h1, h2, h3, h4⟩ := h k hk
  rw [view_set (by rw [hn, ho]; exact hr) hs, set_getD (by rw [hm]; exact hr)]
  by_cases e : k = r
  · rw [if_pos e, if_pos e]; exact ⟨h1, h2, rfl, hs⟩
  · rw [if_neg e, if_neg e]; exact ⟨h1, h2, h3, h4⟩

theorem rd_wr (hn : D.new.length = D.on.length) {r : Nat} (hr : r < D.on.length) {s : ByteArray} (hs : s.size = 64) (a : Nat) : rdV ⟨D.on, D.new.set r s, a, false⟩ (r : Int) = (s, 0) := by
  rw [rd_up (D := ⟨D.on, D.new.set r s, a, false⟩) rfl hr, view_set (by rw [hn]; exact hr) hs, if_pos rfl]

/-- a beginning of the new, the rest of the old -/
def cutAt (n o : ByteArray) (q : Nat) : ByteArray := (⟨(n.data.toList.take q).toArray⟩ : ByteArray) ++ ⟨(o.data.toList.drop q).toArray⟩

theorem cut_whole {n o : ByteArray} (hn : n.size = 64) (ho : o.size = 64) : cutAt n o 64 = n := by
  unfold cutAt
  apply ByteArray.ext
  apply Array.toList_inj.1
  have h1 : n.data.toList.length = 64 := hn
  have h2 : o.data.toList.length = 64 := ho
  simp [List.take_of_length_le (Nat.le_of_eq h1), List.drop_eq_nil_of_le (Nat.le_of_eq h2)]

theorem crash_tears (hok : DevOk D) (ho : D.on.length = 6) (h : Tv D l m) (ps : List Int) {k : Nat} (hk : k < 6) :
    ∃ q, q ≤ 64 ∧ rdV (crD D ps) (k : Int) = (cutAt (m.getD k nil0) (l.getD k nil0) q, 0) ∧ (cutAt (m.getD k nil0) (l.getD k nil0) q).size = 64 := by
  have hk2 : k < D.on.length := by rw [ho]; exact hk
  obtain ⟨h1, h2, h3, h4⟩ := h k hk
  have hz := tear64 hok ps hk2
  rw [rd_up (D := crD D ps) rfl (by rw [cr_len]; exact hk2), cr_tear hok.len ps hk2]
  unfold tearF at hz ⊢
  unfold flushF at h3
  by_cases e : D.new.getD k nil0 = nil0
  · rw [if_pos e] at hz h3 ⊢
    refine ⟨64, Nat.le_refl _, ?_, ?_⟩
    · rw [cut_whole h4 h2, h3]
    · rw [cut_whole h4 h2]; exact h4
  · rw [if_neg e] at hz h3 ⊢
    rw [h1, h3, ← torn_two _ _ _ rfl] at hz ⊢
    exact ⟨_, cut_le _, rfl, hz⟩

end

section
variable {Rep : World → (Nat → Prop) → Nat → Dev → Prop}

set_option maxRecDepth 20000 in
set_option maxHeartbeats 8000000 in
theorem tears_walk (HD : DevAll Rep) (HRp : RepAll) (v : Value) (L : List ByteArray) (v1 : Value) (L1 : List ByteArray) (v2 : Value) (ps : List Int) (w : World) (hv : TextsOf w v L) (hv1 : TextsOf w v1 L1) (hp : IntsOf w v2 ps) :
    Calls Try.prog 5 #[v, v1, v2] w fun e w' => e = .returned (.bool true) ∧ Below w.heap.size w w' := by
  obtain ⟨A, c0, rfl, hat, _, hr0⟩ := hv
  obtain ⟨A1, c1, rfl, hat1, _, hr1⟩ := hv1
  obtain ⟨A2, c2, rfl, hp1, hp2, hp3⟩ := hp
  have HWk := Lib.hid (fun V => works_any HD HRp V)
  have HFs := Lib.hid (fun s V => fit_any s V)
  have hl63 : (L.length : Int) ≤ 9223372036854775807 := by omega
  have hl631 : (L1.length : Int) ≤ 9223372036854775807 := by omega
  have HAt := Lib.hid hat
  have HAt1 := Lib.hid hat1
  have HPs := Lib.hid hp1
  have HPz := Lib.hid hp2
  have HPn := Lib.hid hp3
  clear hat hat1 hp1 hp2 hp3 hr0 hr1
  go_enter Try.func5, Try.ntmps5
  go_wp2_with fail
  refine (HD.new 6 w (by omega)).mono ?_
  rintro e w1 (⟨_, _, F, g, rfl, hr, hF, hb⟩ | ⟨hno, _⟩)
  case inr => omega
  have HO := Lib.hid (show One Rep w w1 F g (new0 6) from ⟨hr, hF, hb⟩)
  clear hr hF hb
  go_wp2_with fail
  refine (HWk.out _).mono ?_
  rintro e w2 ⟨rfl, hb⟩
  have HO2 := Lib.hid (HO.out.step HD hb)
  clear hb HO HWk
  go_upto_region 5 with fail
  have hB0 : TrE Rep w ((w2.alloc (.cells #[.string ⟨#[]⟩, .string ⟨#[]⟩, .string ⟨#[]⟩, .string ⟨#[]⟩, .string ⟨#[]⟩, .string ⟨#[]⟩] 48)).alloc (.cells #[.string ⟨#[]⟩, .string ⟨#[]⟩, .string ⟨#[]⟩, .string ⟨#[]⟩, .string ⟨#[]⟩, .string ⟨#[]⟩] 48)) F g (new0 6) w2.heap.size (w2.heap.size + 1) 48 (List.replicate 6 nil0) (List.replicate 6 nil0) := TrE.new HD HO2.out 48
  have HB0 := Lib.hid hB0
  clear hB0 HO2
  generalize (w2.alloc (.cells #[.string ⟨#[]⟩, .string ⟨#[]⟩, .string ⟨#[]⟩, .string ⟨#[]⟩, .string ⟨#[]⟩, .string ⟨#[]⟩] 48)).alloc (.cells #[.string ⟨#[]⟩, .string ⟨#[]⟩, .string ⟨#[]⟩, .string ⟨#[]⟩, .string ⟨#[]⟩, .string ⟨#[]⟩] 48) = W1 at HB0 ⊢
  generalize w2.heap.size + 1 = c at HB0 ⊢
  generalize w2.heap.size = b at HB0 ⊢
  go_wp2_with fail
  go_loopw [36] (fun i wr => ∃ (j : Nat) (F : Nat → Prop) (D : Dev) (l : List ByteArray), j ≤ 6 ∧ i = .int .i64 (j : Int) ∧ Hid (TrE Rep w wr F g D b c 48 l l ∧ UpTo D l j)) (fun i _ => 6 - (intOf i).toNat)
  case atStart => exact ⟨0, F, _, _, by omega, rfl, HB0.out, fun k hk => absurd hk (by omega)⟩
  case round =>
    obtain ⟨j, F1, D, l, hj, rfl, HE⟩ := hrel
    clear HB0
    by_cases hlt : j < 6
    · have pj : (j : Int) < 6 := by omega
      by_cases hi : j < L.length
      · have pi : (j : Int) < (L.length : Int) := by omega
        obtain ⟨ad, rfl, hab, hcl⟩ := HAt.out (by omega)
        have x1 := (cell_kept HE.out.1.bel (ad.add j) (by rw [st_block]; exact hab)).trans (hcl j hi)
        generalize L[j] = s at x1
        clear hcl
        go_wp2_with fail
        refine (HFs.out _ _).mono ?_
        rintro e w5 ⟨rfl, hb⟩
        have HE5 := Lib.hid (HE.out.1.step HD hb)
        have f1 := HE5.out.o.free j
        have f2 := HE5.out.o.cell (i := j) (by rw [HE5.out.ll]; omega)
        have HE6 := Lib.hid (HE5.out.setO HD j (fitB s))
        clear hb
        go_upto_region 12 with fail
        generalize w5.setCell ⟨b, j, none⟩ (.string (fitB s)) = w6 at HE6 ⊢
        have f3 := HE6.out.o.cell (i := j) (by rw [HE6.out.ll]; omega)
        rw [List.getElem_set_self] at f3
        clear f1 f2
        have f1 := HE6.out.n.free j
        have f2 := HE6.out.n.cell (i := j) (by rw [HE6.out.lm]; omega)
        have HE7 := Lib.hid (HE6.out.setN HD j (fitB s))
        clear HE5
        go_upto_region 13 with fail
        generalize w6.setCell ⟨c, j, none⟩ (.string (fitB s)) = w7 at HE7 ⊢
        clear f1 f2 f3
        have f3 := HE7.out.o.cell (i := j) (by rw [HE7.out.ll]; omega)
        rw [List.getElem_set_self] at f3
        have hw := HD.write (j : Int) (fitB s) w7 HE7.out.d (by omega) (by rw [fitB_size]; unfold reachBytes; omega)
        rw [wr_idle HE7.out.idle (by rw [HE7.out.on]; exact hlt) (fitB_size s)] at hw
        go_wp2_with fail
        refine hw.mono ?_
        rintro e w8 ⟨rfl, F2, h1, h2⟩
        have HE8 := Lib.hid (And.intro (HE7.out.act h1 h2 ⟨rfl, rfl⟩ HE7.out.on) (HE.out.2.write (HD.ok HE.out.1.d).len (by rw [HE.out.1.ll, HE.out.1.on]) (by rw [HE.out.1.on]; exact hlt) (fitB_size s) 0 false))
        clear hw h1 h2 HE6 HE7 f3
        go_wp2_with fail
        go_roundw
        case rel => exact ⟨j + 1, F2, _, _, by omega, by go_num, HE8.out⟩
        case measure => simp [intOf]; omega
      · have pi : ¬ (j : Int) < (L.length : Int) := by omega
        go_wp2_with fail
        refine (HFs.out _ _).mono ?_
        rintro e w5 ⟨rfl, hb⟩
        have HE5 := Lib.hid (HE.out.1.step HD hb)
        have f1 := HE5.out.o.free j
        have f2 := HE5.out.o.cell (i := j) (by rw [HE5.out.ll]; omega)
        have HE6 := Lib.hid (HE5.out.setO HD j (fitB ⟨#[]⟩))
        clear hb
        go_upto_region 12 with fail
        generalize w5.setCell ⟨b, j, none⟩ (.string (fitB ⟨#[]⟩)) = w6 at HE6 ⊢
        have f3 := HE6.out.o.cell (i := j) (by rw [HE6.out.ll]; omega)
        rw [List.getElem_set_self] at f3
        clear f1 f2
        have f1 := HE6.out.n.free j
        have f2 := HE6.out.n.cell (i := j) (by rw [HE6.out.lm]; omega)
        have HE7 := Lib.hid (HE6.out.setN HD j (fitB ⟨#[]⟩))
        clear HE5
        go_upto_region 13 with fail
        generalize w6.setCell ⟨c, j, none⟩ (.string (fitB ⟨#[]⟩)) = w7 at HE7 ⊢
        clear f1 f2 f3
        have f3 := HE7.out.o.cell (i := j) (by rw [HE7.out.ll]; omega)
        rw [List.getElem_set_self] at f3
        have hw := HD.write (j : Int) (fitB ⟨#[]⟩) w7 HE7.out.d (by omega) (by rw [fitB_size]; unfold reachBytes; omega)
        rw [wr_idle HE7.out.idle (by rw [HE7.out.on]; exact hlt) (fitB_size ⟨#[]⟩)] at hw
        go_wp2_with fail
        refine hw.mono ?_
        rintro e w8 ⟨rfl, F2, h1, h2⟩
        have HE8 := Lib.hid (And.intro (HE7.out.act h1 h2 ⟨rfl, rfl⟩ HE7.out.on) (HE.out.2.write (HD.ok HE.out.1.d).len (by rw [HE.out.1.ll, HE.out.1.on]) (by rw [HE.out.1.on]; exact hlt) (fitB_size ⟨#[]⟩) 0 false))
        clear hw h1 h2 HE6 HE7 f3
        go_wp2_with fail
        go_roundw
        case rel => exact ⟨j + 1, F2, _, _, by omega, by go_num, HE8.out⟩
        case measure => simp [intOf]; omega
    · obtain rfl : j = 6 := by omega
      have hfl := HD.flush wr HE.out.1.d
      rw [fl_idle HE.out.1.idle] at hfl
      have hen := (HD.ok HE.out.1.d).len
      have HT1 := Lib.hid (Tv.flushed HE.out.2 hen HE.out.1.on 0 false)
      have HLn := Lib.hid (show (upd D.on D.on.length (flushF D)).length = 6 from (upd_len _ _ _).trans HE.out.1.on)
      have HE1 := Lib.hid HE.out.1
      clear HE hen
      generalize upd D.on D.on.length (flushF D) = on1 at hfl HT1 HLn
      generalize upd D.new D.on.length (fun _ => nil0) = new1 at hfl HT1
      go_wp2_with fail
      refine hfl.mono ?_
      rintro e w3 ⟨rfl, F2, h1, h2⟩
      have HE2 := Lib.hid (And.intro (HE1.out.act h1 h2 ⟨rfl, rfl⟩ HLn.out) HT1.out)
      clear h1 h2 HE1 HLn HT1 hfl
      go_wp2_with fail
      go_loopw [13] (fun i wr => ∃ (j : Nat) (F : Nat → Prop) (D : Dev) (m : List ByteArray), j ≤ L1.length ∧ j ≤ 30 ∧ i = .int .i64 (j : Int) ∧ Hid (TrE Rep w wr F g D b c 48 l m ∧ Tv D l m)) (fun i _ => L1.length - (intOf i).toNat)
      case atStart => exact ⟨0, F2, _, _, by omega, by omega, rfl, HE2.out⟩
      case round =>
        clear HE2
        obtain ⟨j, F3, D, m, hj, hj2, rfl, HE⟩ := hrel
        by_cases hgo : j < L1.length ∧ j < 30
        · obtain ⟨hlt, hlt2⟩ := hgo
          have pj : (j : Int) < (L1.length : Int) := by omega
          have pj2 : (j : Int) < 30 := by omega
          obtain ⟨ad, rfl, hab, hcl⟩ := HAt1.out (by omega)
          have x1 := (cell_kept HE.out.1.bel (ad.add j) (by rw [st_block]; exact hab)).trans (hcl j hlt)
          generalize L1[j] = s at x1
          obtain ⟨r, hr⟩ : ∃ r, r = j % 5 := ⟨_, rfl⟩
          have hr5 : r < 5 := by omega
          have w3 : IntKind.i64.wrap ((j : Int) + 1) = (j : Int) + 1 := i64_wrap (by omega) (by omega)
          have pr : (j : Int) % 5 = (r : Int) := by omega
          have pr2 : (j : Int).tmod 5 = (r : Int) := by rw [Int.tmod_eq_emod_of_nonneg (by omega)]; exact pr
          clear hr hcl
          go_wp2_with fail
          refine (HFs.out _ _).mono ?_
          rintro e w5 ⟨rfl, hb⟩
          have HE5 := Lib.hid (HE.out.1.step HD hb)
          have f1 := HE5.out.n.free r
          have f2 := HE5.out.n.cell (i := r) (by rw [HE5.out.lm]; omega)
          have HE6 := Lib.hid (HE5.out.setN HD r (fitB s))
          clear hb
          go_upto_region 23 with fail
          generalize w5.setCell ⟨c, r, none⟩ (.string (fitB s)) = w6 at HE6 ⊢
          have f3 := HE6.out.n.cell (i := r) (by rw [HE6.out.lm]; omega)
          rw [List.getElem_set_self] at f3
          clear f1 f2 HE5
          have hw := HD.write (r : Int) (fitB s) w6 HE6.out.d (by omega) (by rw [fitB_size]; unfold reachBytes; omega)
          rw [wr_idle HE6.out.idle (by rw [HE6.out.on]; omega) (fitB_size s)] at hw
          go_wp2_with fail
          refine hw.mono ?_
          rintro e w7 ⟨rfl, F4, h1, h2⟩
          have HE7 := Lib.hid (And.intro (HE6.out.act h1 h2 ⟨rfl, rfl⟩ HE6.out.on) (HE.out.2.write (HD.ok HE.out.1.d).len HE.out.1.on HE.out.1.lm (r := r) (by omega) (fitB_size s) 0 false))
          have hrd := HD.read (r : Int) w7 HE7.out.1.d (by omega)
          rw [rd_wr (HD.ok HE.out.1.d).len (by rw [HE.out.1.on]; omega) (fitB_size s) 0] at hrd
          clear hw h1 h2 HE6 f3
          have f3 := HE7.out.1.n.cell (i := r) (by rw [HE7.out.1.lm]; omega)
          rw [List.getElem_set_self] at f3
          have q := text_eq (fitB s)
          clear f3
          go_wp2_with fail
          refine hrd.mono ?_
          rintro e w8 ⟨rfl, F5, h1, h2⟩
          have HE8 := Lib.hid (And.intro (HE7.out.1.act h1 h2 ⟨rfl, rfl⟩ HE7.out.1.on) HE7.out.2)
          have f3 := HE8.out.1.n.cell (i := r) (by rw [HE8.out.1.lm]; omega)
          rw [List.getElem_set_self] at f3
          clear h1 h2 hrd HE7
          go_wp2_with fail
          go_roundw
          case rel => exact ⟨j + 1, F5, _, _, by omega, by omega, by go_num, HE8.out⟩
          case measure => simp [intOf]; omega
        · have hx : (¬ j < L1.length) ∨ (j < L1.length ∧ ¬ j < 30) := by omega
          clear hgo
          rcases hx with h | ⟨h, h2⟩
          · have pj : ¬ (j : Int) < (L1.length : Int) := by omega
            clear h
            have hcr := HD.crash A2 c2 ps wr HE.out.1.d (HPs.out.below HE.out.1.bel) (ps_off HPs.out HE.out.1.o.o.bF) HPz.out HPn.out
            have HTr := Lib.hid (fun k (hk : k < 6) => crash_tears (HD.ok HE.out.1.d) HE.out.1.on HE.out.2 ps hk)
            have HSz := Lib.hid (fun k (hk : k < 6) => And.intro (HE.out.2 k hk).2.1 (HE.out.2 k hk).2.2.2)
            go_wp2_with fail
            refine hcr.mono ?_
            rintro e w5 ⟨rfl, F4, h1, h2⟩
            have HE3 := Lib.hid (HE.out.1.act h1 h2 (cr_idle D ps) ((cr_len D ps).trans HE.out.1.on))
            clear h1 h2 hcr HE
            generalize crD D ps = D2 at HTr HE3
            go_wp2_with fail
            go_loopw [111] (fun i wr => ∃ (k : Nat) (F : Nat → Prop), k ≤ 6 ∧ i = .int .i64 (k : Int) ∧ Hid (TrE Rep w wr F g D2 b c 48 l m)) (fun i _ => 6 - (intOf i).toNat)
            case atStart => exact ⟨0, F4, by omega, rfl, HE3.out⟩
            case round =>
              clear HE3
              obtain ⟨k, F5, hk, rfl, HE⟩ := hrel
              by_cases hlt : k < 6
              · have pk : (k : Int) < 6 := by omega
                obtain ⟨q, hq, hrd0, hsz⟩ := HTr.out k hlt
                have hso := (HSz.out k hlt).1
                have hsn := (HSz.out k hlt).2
                have hrd := HD.read (k : Int) wr HE.out.d (by omega)
                rw [hrd0] at hrd
                have HC := Lib.hid (fun V F' (o : TrE Rep w V F' g D2 b c 48 l m) => show V.cell? ⟨b, k, none⟩ = some (.string (l.getD k nil0)) ∧ V.cell? ⟨c, k, none⟩ = some (.string (m.getD k nil0)) from by
                  rw [getD_at (by rw [o.ll]; exact hlt), getD_at (by rw [o.lm]; exact hlt)]
                  exact ⟨o.o.cell (by rw [o.ll]; exact hlt), o.n.cell (by rw [o.lm]; exact hlt)⟩)
                generalize l.getD k nil0 = o at hrd hsz hso HC
                generalize m.getD k nil0 = n at hrd hsz hsn HC
                obtain ⟨s, hs⟩ : ∃ s, s = cutAt n o q := ⟨_, rfl⟩
                rw [← hs] at hrd hsz
                have HS := Lib.hid hs
                have HZ := Lib.hid (And.intro hso (And.intro hsn hq))
                clear hs hso hsn hq hrd0
                go_wp2_with fail
                refine hrd.mono ?_
                rintro e w6 ⟨rfl, F6, h1, h2⟩
                have HE4 := Lib.hid (HE.out.act h1 h2 HE.out.idle HE.out.on)
                clear h1 h2 HE hrd
                go_wp2_with fail
                go_loopw [20, 21] (fun z i wr => ∃ (y : Bool) (i' : Nat), i' ≤ 65 ∧ z = .bool y ∧ i = .int .i64 (i' : Int) ∧ Hid ((q < i' → y = true) ∧ TrE Rep w wr F6 g D2 b c 48 l m)) (fun _ i _ => 65 - (intOf i).toNat)
                case atStart => exact ⟨false, 0, by omega, rfl, rfl, fun h => absurd h (by omega), HE4.out⟩
                case round =>
                  clear HE4
                  obtain ⟨y, i, hi, rfl, rfl, HI⟩ := hrel
                  by_cases hle : i ≤ 64
                  · have pi : (i : Int) ≤ 64 := by omega
                    have wi : IntKind.i64.wrap ((i : Int) + 1) = (i : Int) + 1 := i64_wrap (by omega) (by omega)
                    cases y with
                    | true =>
                      go_upto_region 39 with fail
                      go_quiet (fail)
                      rename_i nq
                      have HI2 := Lib.hid (And.intro (fun (_ : q < i + 1) => (rfl : true = true)) (HI.out.2.step HD (below_drewN wr nq)))
                      generalize wr.drewN nq = W9 at HI2 ⊢
                      go_wp2_with fail
                      go_roundw
                      case rel => exact ⟨_, i + 1, by omega, rfl, by go_num, HI2.out⟩
                      case measure => simp [intOf]; omega
                    | false =>
                      have hto := fun W => str_to n i (by rw [HZ.out.2.1]; exact hle) (i : Int) rfl W
                      have hfrom := fun W => str_from o i (by rw [HZ.out.1]; exact hle) (i : Int) rfl W
                      have hcut : cutAt n o i = (⟨(n.data.toList.take i).toArray⟩ : ByteArray) ++ ⟨(o.data.toList.drop i).toArray⟩ := rfl
                      have hsum : (⟨(n.data.toList.take i).toArray⟩ : ByteArray).size + (⟨(o.data.toList.drop i).toArray⟩ : ByteArray).size ≤ 9223372036854775807 := by
                        have h1 : n.data.toList.length = 64 := HZ.out.2.1
                        have h2 : o.data.toList.length = 64 := HZ.out.1
                        rw [text_size, text_size, List.length_take, List.length_drop]
                        omega
                      generalize (⟨(n.data.toList.take i).toArray⟩ : ByteArray) = X at hto hcut hsum
                      generalize (⟨(o.data.toList.drop i).toArray⟩ : ByteArray) = Y at hfrom hcut hsum
                      have hxy : ¬ X.size + Y.size > 9223372036854775807 := by omega
                      have HXY := Lib.hid hcut
                      have hx := (HC.out _ _ HI.out.2).1
                      have hx2 := (HC.out _ _ HI.out.2).2
                      clear hcut
                      go_upto_region 39 with fail
                      have hz : q < i + 1 → (s.toList == (X ++ Y).toList) = true := fun h => by
                        have hqi : q = i := by
                          by_cases h2 : q < i
                          · exact absurd (HI.out.1 h2) (by simp)
                          · omega
                        rw [HS.out, hqi, HXY.out]; exact text_eq _
                      have HZz := Lib.hid hz
                      clear hz hsum
                      go_quiet (fail)
                      rename_i nq
                      clear hto hfrom hxy hx hx2
                      have HI2 := Lib.hid (And.intro HZz.out (HI.out.2.step HD (below_drewN wr nq)))
                      clear HZz
                      generalize wr.drewN nq = W9 at HI2 ⊢
                      generalize (s.toList == (X ++ Y).toList) = z at HI2 ⊢
                      go_wp2_with fail
                      go_roundw
                      case rel => exact ⟨_, i + 1, by omega, rfl, by go_num, HI2.out⟩
                      case measure => simp [intOf]; omega
                  · obtain rfl : i = 65 := by omega
                    obtain rfl : y = true := HI.out.1 (by have := HZ.out.2.2; omega)
                    go_wp2_with fail
                    go_roundw
                    case rel => exact ⟨k + 1, F6, by omega, by go_num, HI.out.2⟩
                    case measure => simp [intOf]; omega
              · obtain rfl : k = 6 := by omega
                go_wp2_with fail
                go_ret
                exact ⟨rfl, HE.out.bel⟩
          · have pj : (j : Int) < (L1.length : Int) := by omega
            have pj2 : ¬ (j : Int) < 30 := by omega
            clear h h2
            have hcr := HD.crash A2 c2 ps wr HE.out.1.d (HPs.out.below HE.out.1.bel) (ps_off HPs.out HE.out.1.o.o.bF) HPz.out HPn.out
            have HTr := Lib.hid (fun k (hk : k < 6) => crash_tears (HD.ok HE.out.1.d) HE.out.1.on HE.out.2 ps hk)
            have HSz := Lib.hid (fun k (hk : k < 6) => And.intro (HE.out.2 k hk).2.1 (HE.out.2 k hk).2.2.2)
            go_wp2_with fail
            refine hcr.mono ?_
            rintro e w5 ⟨rfl, F4, h1, h2⟩
            have HE3 := Lib.hid (HE.out.1.act h1 h2 (cr_idle D ps) ((cr_len D ps).trans HE.out.1.on))
            clear h1 h2 hcr HE
            generalize crD D ps = D2 at HTr HE3
            go_wp2_with fail
            go_loopw [111] (fun i wr => ∃ (k : Nat) (F : Nat → Prop), k ≤ 6 ∧ i = .int .i64 (k : Int) ∧ Hid (TrE Rep w wr F g D2 b c 48 l m)) (fun i _ => 6 - (intOf i).toNat)
            case atStart => exact ⟨0, F4, by omega, rfl, HE3.out⟩
            case round =>
              clear HE3
              obtain ⟨k, F5, hk, rfl, HE⟩ := hrel
              by_cases hlt : k < 6
              · have pk : (k : Int) < 6 := by omega
                obtain ⟨q, hq, hrd0, hsz⟩ := HTr.out k hlt
                have hso := (HSz.out k hlt).1
                have hsn := (HSz.out k hlt).2
                have hrd := HD.read (k : Int) wr HE.out.d (by omega)
                rw [hrd0] at hrd
                have HC := Lib.hid (fun V F' (o : TrE Rep w V F' g D2 b c 48 l m) => show V.cell? ⟨b, k, none⟩ = some (.string (l.getD k nil0)) ∧ V.cell? ⟨c, k, none⟩ = some (.string (m.getD k nil0)) from by
                  rw [getD_at (by rw [o.ll]; exact hlt), getD_at (by rw [o.lm]; exact hlt)]
                  exact ⟨o.o.cell (by rw [o.ll]; exact hlt), o.n.cell (by rw [o.lm]; exact hlt)⟩)
                generalize l.getD k nil0 = o at hrd hsz hso HC
                generalize m.getD k nil0 = n at hrd hsz hsn HC
                obtain ⟨s, hs⟩ : ∃ s, s = cutAt n o q := ⟨_, rfl⟩
                rw [← hs] at hrd hsz
                have HS := Lib.hid hs
                have HZ := Lib.hid (And.intro hso (And.intro hsn hq))
                clear hs hso hsn hq hrd0
                go_wp2_with fail
                refine hrd.mono ?_
                rintro e w6 ⟨rfl, F6, h1, h2⟩
                have HE4 := Lib.hid (HE.out.act h1 h2 HE.out.idle HE.out.on)
                clear h1 h2 HE hrd
                go_wp2_with fail
                go_loopw [20, 21] (fun z i wr => ∃ (y : Bool) (i' : Nat), i' ≤ 65 ∧ z = .bool y ∧ i = .int .i64 (i' : Int) ∧ Hid ((q < i' → y = true) ∧ TrE Rep w wr F6 g D2 b c 48 l m)) (fun _ i _ => 65 - (intOf i).toNat)
                case atStart => exact ⟨false, 0, by omega, rfl, rfl, fun h => absurd h (by omega), HE4.out⟩
                case round =>
                  clear HE4
                  obtain ⟨y, i, hi, rfl, rfl, HI⟩ := hrel
                  by_cases hle : i ≤ 64
                  · have pi : (i : Int) ≤ 64 := by omega
                    have wi : IntKind.i64.wrap ((i : Int) + 1) = (i : Int) + 1 := i64_wrap (by omega) (by omega)
                    cases y with
                    | true =>
                      go_upto_region 39 with fail
                      go_quiet (fail)
                      rename_i nq
                      have HI2 := Lib.hid (And.intro (fun (_ : q < i + 1) => (rfl : true = true)) (HI.out.2.step HD (below_drewN wr nq)))
                      generalize wr.drewN nq = W9 at HI2 ⊢
                      go_wp2_with fail
                      go_roundw
                      case rel => exact ⟨_, i + 1, by omega, rfl, by go_num, HI2.out⟩
                      case measure => simp [intOf]; omega
                    | false =>
                      have hto := fun W => str_to n i (by rw [HZ.out.2.1]; exact hle) (i : Int) rfl W
                      have hfrom := fun W => str_from o i (by rw [HZ.out.1]; exact hle) (i : Int) rfl W
                      have hcut : cutAt n o i = (⟨(n.data.toList.take i).toArray⟩ : ByteArray) ++ ⟨(o.data.toList.drop i).toArray⟩ := rfl
                      have hsum : (⟨(n.data.toList.take i).toArray⟩ : ByteArray).size + (⟨(o.data.toList.drop i).toArray⟩ : ByteArray).size ≤ 9223372036854775807 := by
                        have h1 : n.data.toList.length = 64 := HZ.out.2.1
                        have h2 : o.data.toList.length = 64 := HZ.out.1
                        rw [text_size, text_size, List.length_take, List.length_drop]
                        omega
                      generalize (⟨(n.data.toList.take i).toArray⟩ : ByteArray) = X at hto hcut hsum
                      generalize (⟨(o.data.toList.drop i).toArray⟩ : ByteArray) = Y at hfrom hcut hsum
                      have hxy : ¬ X.size + Y.size > 9223372036854775807 := by omega
                      have HXY := Lib.hid hcut
                      have hx := (HC.out _ _ HI.out.2).1
                      have hx2 := (HC.out _ _ HI.out.2).2
                      clear hcut
                      go_upto_region 39 with fail
                      have hz : q < i + 1 → (s.toList == (X ++ Y).toList) = true := fun h => by
                        have hqi : q = i := by
                          by_cases h2 : q < i
                          · exact absurd (HI.out.1 h2) (by simp)
                          · omega
                        rw [HS.out, hqi, HXY.out]; exact text_eq _
                      have HZz := Lib.hid hz
                      clear hz hsum
                      go_quiet (fail)
                      rename_i nq
                      clear hto hfrom hxy hx hx2
                      have HI2 := Lib.hid (And.intro HZz.out (HI.out.2.step HD (below_drewN wr nq)))
                      clear HZz
                      generalize wr.drewN nq = W9 at HI2 ⊢
                      generalize (s.toList == (X ++ Y).toList) = z at HI2 ⊢
                      go_wp2_with fail
                      go_roundw
                      case rel => exact ⟨_, i + 1, by omega, rfl, by go_num, HI2.out⟩
                      case measure => simp [intOf]; omega
                  · obtain rfl : i = 65 := by omega
                    obtain rfl : y = true := HI.out.1 (by have := HZ.out.2.2; omega)
                    go_wp2_with fail
                    go_roundw
                    case rel => exact ⟨k + 1, F6, by omega, by go_num, HI.out.2⟩
                    case measure => simp [intOf]; omega
              · obtain rfl : k = 6 := by omega
                go_wp2_with fail
                go_ret
                exact ⟨rfl, HE.out.bel⟩

end

end Sc
end Go.Proofs.Ytecgimnmccmpjaa
