/- The landed device in the memory; what its small calls do to it; contracts; no condition but the range. -/
import Derived.Test.YtecgimnmccmpjaaScMap
import Derived.Test.YtecgimnmccmpjaaFloatK
namespace Go.Proofs.Ytecgimnmccmpjaa
namespace Sc
open Go.RowKit Bk

attribute [local go_sem ↓] Go.wp_at_zero Go.wp_at_succ
attribute [local go_sem] floatUpon pick

/-- the landed device: a struct, a row of sectors, and a map -/
structure LAt (w : World) (g a b : Nat) (D : Dev) : Prop where
  cel : Cel w g 57 [.slice (some ⟨a, 0, none⟩) D.on.length D.on.length, .map (some b), .int .i64 (D.left : Int), .bool D.down]
  ro : Cel w a 64 (onC D.on)
  mp : SecMap w b D.new
  d1 : g ≠ a
  d2 : g ≠ b
  d3 : a ≠ b

def LFoot (g a b : Nat) : Nat → Prop := fun k => k = g ∨ k = a ∨ k = b

theorem Fr.row {F G : Nat → Prop} {w u : World} (h : Fr F G w u) {k : Nat} (hk : F k ∨ w.heap.size ≤ k) (c : Array Value) : Fr F G w (u.setRow k c) :=
  ⟨h.os, h.tape, h.output, by simpa using h.size, fun i hi hn => (row_far c (fun e => by subst e; exact hk.elim hn (by omega))).trans (h.block i hi hn), h.foot⟩

theorem Fr.grown {F G : Nat → Prop} {w u v : World} (h : Fr F G w u) {k : Nat} (hk : F k ∨ w.heap.size ≤ k) (hg : u.grownBy v (some k)) : Fr F G w v :=
  ⟨hg.os.trans h.os, hg.tape.trans h.tape, hg.output.trans h.output, Nat.le_trans h.size hg.size,
    fun i hi hn => (hg.block i (Nat.lt_of_lt_of_le hi h.size) (fun e => by simp only [Option.some.injEq] at e; subst e; exact hk.elim hn (by omega))).trans (h.block i hi hn), h.foot⟩

section
variable {w w' : World} {g a b : Nat} {D : Dev}

theorem LAt.lt (h : LAt w g a b D) : ∀ k, LFoot g a b k → k < w.heap.size := fun k hk => by
  rcases hk with rfl | rfl | rfl
  · exact h.cel.lt
  · exact h.ro.lt
  · exact h.mp.lt

theorem LAt.kept (h : LAt w g a b D) (hk : ∀ k, LFoot g a b k → w'.heap[k]? = w.heap[k]?) : LAt w' g a b D :=
  ⟨(hk _ (.inl rfl)).trans h.cel, (hk _ (.inr (.inl rfl))).trans h.ro, h.mp.kept (hk _ (.inr (.inr rfl))), h.d1, h.d2, h.d3⟩

theorem LAt.step (h : LAt w g a b D) (hb : Below w.heap.size w w') : LAt w' g a b D := h.kept fun k hk => hb.block k (h.lt k hk)

theorem LAt.setLeft (h : LAt w g a b D) (n : Nat) : LAt (w.setCell ⟨g, 2, none⟩ (.int .i64 (n : Int))) g a b ⟨D.on, D.new, n, D.down⟩ :=
  ⟨h.cel.set, h.ro.far (Ne.symm h.d1), h.mp.kept (Below.heap_setCell w ⟨g, 2, none⟩ _ b (Ne.symm h.d2)), h.d1, h.d2, h.d3⟩

theorem LAt.setDown (h : LAt w g a b D) (x : Bool) : LAt (w.setCell ⟨g, 3, none⟩ (.bool x)) g a b ⟨D.on, D.new, D.left, x⟩ :=
  ⟨h.cel.set, h.ro.far (Ne.symm h.d1), h.mp.kept (Below.heap_setCell w ⟨g, 3, none⟩ _ b (Ne.symm h.d2)), h.d1, h.d2, h.d3⟩

theorem LAt.setRow (h : LAt w g a b D) {l : List ByteArray} (hl : l.length = D.on.length) : LAt (w.setRow a (onC l).toArray) g a b ⟨l, D.new, D.left, D.down⟩ := by
  refine ⟨(row_far _ h.d1).trans ?_, cel_row h.ro _, h.mp.kept (row_far _ (Ne.symm h.d3)), h.d1, h.d2, h.d3⟩
  show Cel w g _ [.slice _ l.length l.length, _, _, _]
  rw [hl]
  exact h.cel

theorem LAt.setMap (h : LAt w g a b D) {l : List ByteArray} (hm : SecMap w' b l) (hg : w.grownBy w' (some b)) : LAt w' g a b ⟨D.on, l, D.left, D.down⟩ :=
  ⟨(hg.block g h.cel.lt (fun e => h.d2 (Option.some.inj e))).trans h.cel, (hg.block a h.ro.lt (fun e => h.d3 (Option.some.inj e))).trans h.ro, hm, h.d1, h.d2, h.d3⟩

theorem lfoot_g : LFoot g a b g := .inl rfl
theorem lfoot_a : LFoot g a b a := .inr (.inl rfl)
theorem lfoot_b : LFoot g a b b := .inr (.inr rfl)

set_option maxRecDepth 20000 in
set_option maxHeartbeats 2000000 in
theorem lburn_any (h : LAt w g a b D) (hok : DevOk D) :
    Calls Try.prog 32 #[.pointer (some ⟨g, 0, none⟩)] w fun e w' => e = .returned (.bool (burn D).2) ∧ LAt w' g a b (burn D).1 ∧ Fr (LFoot g a b) (LFoot g a b) w w' := by
  have k2 := h.cel.cell (i := 2) rfl
  have hlf := hok.lft
  by_cases h0 : D.left = 0
  · rw [h0] at k2
    have E := Lib.hid (show burn D = (D, false) from by unfold burn; rw [if_pos h0])
    have H := Lib.hid h
    clear h h0 hok hlf
    go_enter Try.func32, Try.ntmps32
    go_wp2_with fail
    go_ret
    exact ⟨by rw [E.out]; rfl, by rw [E.out]; exact H.out, Fr.refl _ _⟩
  · obtain ⟨m, hm⟩ : ∃ m, D.left = m + 1 := ⟨D.left - 1, by omega⟩
    have E := Lib.hid (show burn D = (⟨D.on, D.new, m, D.left == 1⟩, D.left == 1) from by unfold burn; rw [if_neg h0, hm, Nat.add_sub_cancel])
    rw [hm] at E
    have e1 : (m + 1 == 1) = ((m : Int) == 0) := by rw [Bool.eq_iff_iff]; simp
    rw [e1] at E
    have kq := fun i => h.cel.free (i := i)
    have hA := h.setLeft m
    have hF := (Fr.refl (LFoot g a b) w).set (p := ⟨g, 2, none⟩) lfoot_g (.int .i64 (m : Int))
    rw [hm] at k2
    have k2' : w.cell? ⟨g, 2, none⟩ = some (.int .i64 ((m : Int) + 1)) := by rw [k2]; rfl
    have pm : (m : Int) < 1048576 := by omega
    have w1 : IntKind.i64.wrap ((m : Int) + 1 - 1) = (m : Int) := by rw [Int.add_sub_cancel]; exact i64_wrap (by omega) (by omega)
    have w2 : (m : Int) + 1 - 1 = (m : Int) := by omega
    have q0 : ((m : Int) + 1 == 0) = false := by simp; omega
    have HA := Lib.hid hA
    have HF := Lib.hid hF
    clear h hok hA hF hm h0 k2 hlf e1
    go_enter Try.func32, Try.ntmps32
    go_upto_region 4 with fail
    try simp only [w2, w1]
    generalize w.setCell ⟨g, 2, none⟩ (.int .i64 (m : Int)) = W1 at HA HF ⊢
    clear kq k2' w1 w2 q0
    have k2 := HA.out.cel.cell (i := 2) rfl
    have k3 := HA.out.cel.cell (i := 3) rfl
    have kq := fun i => HA.out.cel.free (i := i)
    have HA2 := Lib.hid (HA.out.setDown ((m : Int) == 0))
    have HF2 := Lib.hid (HF.out.set (p := ⟨g, 3, none⟩) lfoot_g (.bool ((m : Int) == 0)))
    obtain ⟨x, hb⟩ : ∃ x, ((m : Int) == 0) = x := ⟨_, rfl⟩
    rw [hb] at E HA2 HF2
    clear HA HF
    go_upto_region 5 with fail
    generalize W1.setCell ⟨g, 3, none⟩ (.bool x) = W2 at HA2 HF2 ⊢
    clear kq k2 k3 hb
    have k3 := HA2.out.cel.cell (i := 3) rfl
    go_wp2_with fail
    go_ret
    exact ⟨by rw [E.out]; rfl, by rw [E.out]; exact HA2.out, HF2.out⟩

set_option maxRecDepth 20000 in
set_option maxHeartbeats 2000000 in
theorem lfuse_any (h : LAt w g a b D) (n : Int) :
    Calls Try.prog 20 #[.pointer (some ⟨g, 0, none⟩), .int .i64 n] w fun e w' => e = .returned (.int .i64 (fuD D n).2) ∧ LAt w' g a b (fuD D n).1 ∧ Fr (LFoot g a b) (LFoot g a b) w w' := by
  have k2 := h.cel.cell (i := 2) rfl
  have k3 := h.cel.cell (i := 3) rfl
  by_cases hd : D.down = true
  · have E := Lib.hid (show fuD D n = (D, 90) from by unfold fuD; rw [if_pos hd])
    rw [hd] at k3
    have H := Lib.hid h
    clear h hd
    go_enter Try.func20, Try.ntmps20
    go_wp2_with fail
    go_ret
    exact ⟨by rw [E.out]; rfl, by rw [E.out]; exact H.out, Fr.refl _ _⟩
  have hd' : D.down = false := by simpa using hd
  rw [hd'] at k3
  by_cases h0 : n < 0
  · have E := Lib.hid (show fuD D n = (D, 1) from by unfold fuD; rw [if_neg hd, if_pos (.inl h0)])
    have H := Lib.hid h
    clear h hd hd'
    go_enter Try.func20, Try.ntmps20
    go_wp2_with fail
    go_ret
    exact ⟨by rw [E.out]; rfl, by rw [E.out]; exact H.out, Fr.refl _ _⟩
  by_cases h1 : 1048576 < n
  · have E := Lib.hid (show fuD D n = (D, 1) from by unfold fuD; rw [if_neg hd, if_pos (.inr h1)])
    have H := Lib.hid h
    clear h hd hd'
    go_enter Try.func20, Try.ntmps20
    go_wp2_with fail
    go_ret
    exact ⟨by rw [E.out]; rfl, by rw [E.out]; exact H.out, Fr.refl _ _⟩
  obtain ⟨m, rfl⟩ : ∃ m : Nat, n = (m : Int) := ⟨n.toNat, by omega⟩
  have E := Lib.hid (show fuD D (m : Int) = (⟨D.on, D.new, m, D.down⟩, 0) from by unfold fuD; rw [if_neg hd, if_neg (by omega), Int.toNat_natCast])
  have kq := fun i => h.cel.free (i := i)
  have H := Lib.hid (And.intro (h.setLeft m) ((Fr.refl (LFoot g a b) w).set (p := ⟨g, 2, none⟩) lfoot_g (.int .i64 (m : Int))))
  clear h hd hd'
  go_enter Try.func20, Try.ntmps20
  go_wp2_with fail
  go_ret
  exact ⟨by rw [E.out]; rfl, by rw [E.out]; exact H.out.1, H.out.2⟩

/-- what is to be refused ahead of a read or a write -/
def fdV (D : Dev) (i : Int) : Int := if D.down = true then 90 else if i < 0 ∨ (D.on.length : Int) ≤ i then 1 else 0

theorem fd_rd (D : Dev) (i : Int) : (rdV D i).2 = fdV D i := by
  unfold rdV fdV
  split
  · rfl
  split
  · rfl
  · rfl

set_option maxRecDepth 20000 in
set_option maxHeartbeats 2000000 in
theorem lfind_any (h : LAt w g a b D) (hok : DevOk D) (i : Int) :
    Calls Try.prog 31 #[.pointer (some ⟨g, 0, none⟩), .int .i64 i] w fun e w' => e = .returned (.int .i64 (fdV D i)) ∧ w' = w := by
  have k0 := h.cel.cell (i := 0) rfl
  have k3 := h.cel.cell (i := 3) rfl
  have pl : (D.on.length : Int) ≤ 2048 := by have := hok.max; omega
  by_cases hd : D.down = true
  · have E := Lib.hid (show fdV D i = 90 from by unfold fdV; rw [if_pos hd])
    rw [hd] at k3
    clear h hd hok
    go_enter Try.func31, Try.ntmps31
    go_wp2_with fail
    go_ret
    exact ⟨by rw [E.out]; rfl, rfl⟩
  have hd' : D.down = false := by simpa using hd
  rw [hd'] at k3
  by_cases h0 : i < 0
  · have E := Lib.hid (show fdV D i = 1 from by unfold fdV; rw [if_neg hd, if_pos (.inl h0)])
    clear h hd hok hd'
    go_enter Try.func31, Try.ntmps31
    go_wp2_with fail
    go_ret
    exact ⟨by rw [E.out]; rfl, rfl⟩
  by_cases h1 : (D.on.length : Int) ≤ i
  · have E := Lib.hid (show fdV D i = 1 from by unfold fdV; rw [if_neg hd, if_pos (.inr h1)])
    clear h hd hok hd'
    go_enter Try.func31, Try.ntmps31
    go_wp2_with fail
    go_ret
    exact ⟨by rw [E.out]; rfl, rfl⟩
  · have E := Lib.hid (show fdV D i = 0 from by unfold fdV; rw [if_neg hd, if_neg (by omega)])
    clear h hd hok hd'
    go_enter Try.func31, Try.ntmps31
    go_wp2_with fail
    go_ret
    exact ⟨by rw [E.out]; rfl, rfl⟩

set_option maxRecDepth 20000 in
set_option maxHeartbeats 2000000 in
theorem lsize_any (h : LAt w g a b D) :
    Calls Try.prog 11 #[.pointer (some ⟨g, 0, none⟩)] w fun e w' => e = .returned (.int .i64 (D.on.length : Int)) ∧ w' = w := by
  have k0 := h.cel.cell (i := 0) rfl
  clear h
  go_enter Try.func11, Try.ntmps11
  go_wp2_with fail
  go_ret
  exact ⟨rfl, rfl⟩

set_option maxRecDepth 20000 in
set_option maxHeartbeats 2000000 in
theorem ldirty_any (h : LAt w g a b D) :
    Calls Try.prog 12 #[.pointer (some ⟨g, 0, none⟩)] w fun e w' => e = .returned (.int .i64 (dirtyN D : Int)) ∧ w' = w := by
  have k1 := h.cel.cell (i := 1) rfl
  have hl := h.mp.len
  clear h
  go_enter Try.func12, Try.ntmps12
  go_wp2_with fail
  go_ret
  exact ⟨rfl, rfl⟩

/-- a device that is up, with nothing that waits -/
def calm (D : Dev) (m : Nat) : Dev := ⟨D.on, List.replicate m nil0, 0, false⟩

set_option maxRecDepth 20000 in
set_option maxHeartbeats 2000000 in
theorem lrestart_any (h : LAt w g a b D) (m : Nat) :
    Calls Try.prog 36 #[.pointer (some ⟨g, 0, none⟩)] w fun e w' => e = .returned (.tuple #[]) ∧ LAt w' g a b (calm D m) ∧ Fr (LFoot g a b) (LFoot g a b) w w' := by
  have k1 := h.cel.cell (i := 1) rfl
  obtain ⟨W, hc, hm, hg, hz⟩ := h.mp.clear 0 m
  have hA := h.setMap hm hg
  have hF := (Fr.refl (LFoot g a b) w).grown (.inl lfoot_b) hg
  have k2 := hA.cel.cell (i := 2) rfl
  have k3 := hA.cel.cell (i := 3) rfl
  have kq := fun i => hA.cel.free (i := i)
  have HA := Lib.hid (And.intro ((hA.setLeft 0).setDown false) ((hF.set (p := ⟨g, 2, none⟩) lfoot_g (.int .i64 ((0 : Nat) : Int))).set (p := ⟨g, 3, none⟩) lfoot_g (.bool false)))
  clear h hm hg hz hA hF
  go_enter Try.func36, Try.ntmps36
  go_wp2_with fail
  refine bodyPost_end (results_none rfl _ _ _) rfl ?_
  exact ⟨rfl, HA.out.1, HA.out.2⟩

end

end Sc
end Go.Proofs.Ytecgimnmccmpjaa
