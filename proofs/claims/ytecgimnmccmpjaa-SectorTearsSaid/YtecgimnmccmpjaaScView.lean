/- What follows of a device's calls: without a fuse, behind a flush, under a fuse; no condition. -/
import Derived.Test.YtecgimnmccmpjaaScMath
namespace Go.Proofs.Ytecgimnmccmpjaa
namespace Sc

/-- up, and without a fuse -/
def Idle (D : Dev) : Prop := D.left = 0 ∧ D.down = false

theorem new0_idle (n : Nat) : Idle (new0 n) := ⟨rfl, rfl⟩

theorem burn_idle {D : Dev} (h : Idle D) : burn D = (D, false) := by unfold burn; rw [if_pos h.1]

theorem rd_up {D : Dev} (hd : D.down = false) {k : Nat} (hk : k < D.on.length) : rdV D (k : Int) = (flushF D k, 0) := by
  unfold rdV flushF
  rw [if_neg (by rw [hd]; simp), if_neg (by omega), Int.toNat_natCast]

theorem wr_up {D : Dev} (hd : D.down = false) {k : Nat} (hk : k < D.on.length) {t : ByteArray} (ht : t.size = 64) :
    wrD D (k : Int) t = if (burn D).2 = true then ((burn D).1, 90) else (⟨D.on, D.new.set k t, (burn D).1.left, (burn D).1.down⟩, 0) := by
  unfold wrD
  rw [rd_up hd hk, if_neg (by simp), if_neg (by simpa using ht), Int.toNat_natCast]

theorem wr_idle {D : Dev} (h : Idle D) {k : Nat} (hk : k < D.on.length) {t : ByteArray} (ht : t.size = 64) : wrD D (k : Int) t = (⟨D.on, D.new.set k t, 0, false⟩, 0) := by
  rw [wr_up h.2 hk ht, burn_idle h, if_neg (by simp), h.1, h.2]

theorem fl_idle {D : Dev} (h : Idle D) : flD D = (⟨upd D.on D.on.length (flushF D), upd D.new D.on.length (fun _ => nil0), 0, false⟩, 0) := by
  unfold flD
  rw [if_neg (by rw [h.2]; simp), burn_idle h, if_neg (by simp), h.1, h.2]

theorem not_nil {t : ByteArray} (ht : t.size = 64) : t ≠ nil0 := fun e => by rw [e] at ht; cases ht

/-- what is seen behind a write -/
theorem view_set {D : Dev} {k i : Nat} (hk : k < D.new.length) {t : ByteArray} (ht : t.size = 64) (l : Nat) (b : Bool) : flushF ⟨D.on, D.new.set k t, l, b⟩ i = if i = k then t else flushF D i := by
  unfold flushF
  simp only
  by_cases e : i = k
  · subst e
    rw [if_pos rfl, List.getD_eq_getElem?_getD, List.getElem?_set_self hk]
    simp only [Option.getD_some]
    rw [if_neg (not_nil ht)]
  · rw [if_neg e, List.getD_eq_getElem?_getD, List.getElem?_set_ne (Ne.symm e), ← List.getD_eq_getElem?_getD]

theorem upd_getD {l : List ByteArray} {f : Nat → ByteArray} {i : Nat} (h : i < l.length) : (upd l l.length f).getD i nil0 = f i := by
  rw [getD_at (by rw [upd_len]; exact h), upd_at _ h, if_pos h]

theorem nil_getD (l : List ByteArray) (i : Nat) : (upd l l.length (fun _ => nil0)).getD i nil0 = nil0 := by
  rw [upd_all, List.getD_eq_getElem?_getD, List.getElem?_replicate]
  split <;> rfl

/-- what is seen where nothing waits -/
theorem view_clean {on new : List ByteArray} (hl : new.length = on.length) {f : Nat → ByteArray} {i : Nat} (h : i < on.length) (l : Nat) (b : Bool) : flushF ⟨upd on on.length f, upd new on.length (fun _ => nil0), l, b⟩ i = f i := by
  unfold flushF
  simp only
  rw [← hl, nil_getD, if_pos rfl, hl, upd_getD h]

theorem cnt_nil (l : List ByteArray) (i : Nat) : cnt (upd l l.length (fun _ => nil0)) i = 0 := by
  unfold cnt
  rw [upd_all, List.take_replicate, List.length_eq_zero_iff, List.filter_eq_nil_iff]
  intro s hs
  rw [List.eq_of_mem_replicate hs]
  simp

theorem dirty_clean {on new : List ByteArray} (hl : new.length = on.length) (on' : List ByteArray) (l : Nat) (b : Bool) : dirtyN ⟨on', upd new on.length (fun _ => nil0), l, b⟩ = 0 := by
  unfold dirtyN
  simp only
  rw [← hl]; exact cnt_nil _ _

/-- a device in whose cache nothing lies -/
def Clean (D : Dev) : Prop := ∀ i, D.new.getD i nil0 = nil0

theorem fl_clean {D : Dev} (hl : D.new.length = D.on.length) (l : Nat) (b : Bool) : Clean ⟨upd D.on D.on.length (flushF D), upd D.new D.on.length (fun _ => nil0), l, b⟩ := fun i => by
  show (upd D.new D.on.length _).getD i nil0 = nil0
  rw [← hl]; exact nil_getD _ _

theorem cr_clean {D : Dev} (hl : D.new.length = D.on.length) (ps : List Int) : Clean (crD D ps) := fun i => by
  show (upd D.new D.on.length _).getD i nil0 = nil0
  rw [← hl]; exact nil_getD _ _

/-- a crash turns nothing where nothing waits -/
theorem cr_view {D : Dev} (hl : D.new.length = D.on.length) (hc : Clean D) (ps : List Int) {i : Nat} (h : i < D.on.length) : flushF (crD D ps) i = flushF D i := by
  unfold crD
  rw [view_clean hl h]
  unfold tearF flushF
  rw [hc i, if_pos rfl, if_pos rfl]

/-- behind a crash what is seen is what was torn -/
theorem cr_tear {D : Dev} (hl : D.new.length = D.on.length) (ps : List Int) {i : Nat} (h : i < D.on.length) : flushF (crD D ps) i = tearF D ps i := by
  unfold crD
  exact view_clean hl h _ _

theorem cr_len (D : Dev) (ps : List Int) : (crD D ps).on.length = D.on.length := upd_len _ _ _
theorem cr_idle (D : Dev) (ps : List Int) : Idle (crD D ps) := ⟨rfl, rfl⟩
theorem cr_dirty {D : Dev} (hl : D.new.length = D.on.length) (ps : List Int) : dirtyN (crD D ps) = 0 := dirty_clean hl _ _ _
theorem wi_dirty {D : Dev} (hl : D.new.length = D.on.length) : dirtyN (wiD D) = 0 := dirty_clean hl _ _ _
theorem wi_read {D : Dev} (hl : D.new.length = D.on.length) {k : Nat} (hk : k < D.on.length) : rdV (wiD D) (k : Int) = (zero64, 0) := by
  rw [rd_up (D := wiD D) rfl (by show k < (upd _ _ _).length; rw [upd_len]; exact hk)]
  unfold wiD
  rw [view_clean hl hk]

/-! ### under a fuse -/

/-- k writes and flushes behind the laying of a fuse of m -/
def FzAt (D : Dev) (m k : Nat) : Prop := (k < m ∧ D.down = false ∧ D.left = m - k) ∨ (m ≤ k ∧ D.down = true)

theorem burn_fz {D : Dev} {m k : Nat} (hk : k < m) (_hd : D.down = false) (hl : D.left = m - k) : (burn D).2 = decide (m = k + 1) ∧ FzAt (burn D).1 m (k + 1) ∧ (burn D).1.down = decide (m = k + 1) ∧ (burn D).1.left = m - (k + 1) := by
  unfold burn
  rw [if_neg (by omega)]
  have e : (D.left == 1) = decide (m = k + 1) := by
    rw [Bool.eq_iff_iff]; simp; omega
  simp only [e]
  refine ⟨trivial, ?_, trivial, by omega⟩
  by_cases h : m = k + 1
  · right; exact ⟨by omega, by simp [h]⟩
  · left; exact ⟨by omega, by simp [h], by simp; omega⟩

theorem wr_fz {D : Dev} {m k : Nat} (h : FzAt D m k) {i : Nat} (hi : i < D.on.length) {t : ByteArray} (ht : t.size = 64) : (wrD D (i : Int) t).2 = (if k + 1 < m then 0 else 90) ∧ FzAt (wrD D (i : Int) t).1 m (k + 1) ∧ (wrD D (i : Int) t).1.on.length = D.on.length := by
  rcases h with ⟨h1, h2, h3⟩ | ⟨h1, h2⟩
  · obtain ⟨b1, b2, b3, b4⟩ := burn_fz h1 h2 h3
    rw [wr_up h2 hi ht]
    by_cases e : m = k + 1
    · rw [if_pos (by rw [b1]; simp [e]), if_neg (by omega)]
      exact ⟨rfl, b2, by rw [(burn_parts D).1]⟩
    · rw [if_neg (by rw [b1]; simp [e]), if_pos (by omega)]
      exact ⟨rfl, .inl ⟨by omega, by show (burn D).1.down = false; rw [b3]; simp [e], b4⟩, rfl⟩
  · have e : wrD D (i : Int) t = (D, 90) := by
      unfold wrD rdV
      rw [if_pos h2]; rfl
    rw [e, if_neg (by omega)]
    exact ⟨rfl, .inr ⟨by omega, h2⟩, rfl⟩

theorem fl_fz {D : Dev} {m k : Nat} (h : FzAt D m k) : (flD D).2 = (if k + 1 < m then 0 else 90) ∧ FzAt (flD D).1 m (k + 1) ∧ (flD D).1.on.length = D.on.length := by
  unfold flD
  rcases h with ⟨h1, h2, h3⟩ | ⟨h1, h2⟩
  · obtain ⟨b1, b2, b3, b4⟩ := burn_fz h1 h2 h3
    rw [if_neg (by rw [h2]; simp)]
    by_cases e : m = k + 1
    · rw [if_pos (by rw [b1]; simp [e]), if_neg (by omega)]
      exact ⟨rfl, b2, by rw [(burn_parts D).1]⟩
    · rw [if_neg (by rw [b1]; simp [e]), if_pos (by omega)]
      exact ⟨rfl, .inl ⟨by omega, by show (burn D).1.down = false; rw [b3]; simp [e], b4⟩, upd_len _ _ _⟩
  · rw [if_pos h2, if_neg (by omega)]
    exact ⟨rfl, .inr ⟨by omega, h2⟩, rfl⟩

theorem down_read {D : Dev} (h : D.down = true) (i : Int) : rdV D i = (nil0, 90) := by unfold rdV; rw [if_pos h]
theorem down_fuse {D : Dev} (h : D.down = true) (n : Int) : fuD D n = (D, 90) := by unfold fuD; rw [if_pos h]
theorem fuse_up {D : Dev} (h : D.down = false) {m : Nat} (hm : m ≤ 1048576) : fuD D (m : Int) = (⟨D.on, D.new, m, D.down⟩, 0) := by
  unfold fuD
  rw [if_neg (by rw [h]; simp), if_neg (by omega), Int.toNat_natCast]

end Sc
end Go.Proofs.Ytecgimnmccmpjaa
