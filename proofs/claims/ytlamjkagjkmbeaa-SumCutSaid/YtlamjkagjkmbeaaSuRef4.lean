/- What the document's own All answers; contract. -/
import Derived.Test.YtlamjkagjkmbeaaSuRef3
namespace Go.Proofs.Ytlamjkagjkmbeaa
namespace Su
open Go.RowKit Bk

attribute [local go_sem ↓] Go.wp_at_zero Go.wp_at_succ
attribute [local go_sem] floatUpon pick

theorem restR_ok {r t : List UInt8} (h : restR r = .ok t) : t.length ≤ 4096 ∧ t.length + 6 ≤ r.length ∧ r.take (t.length + 6) = frameL t := by
  unfold restR at h
  split at h
  · cases h
  · split at h
    · cases h
    · split at h
      · cases h
      · split at h
        · next h1 h2 h3 h4 =>
          have e := Except.ok.inj h
          have hl : t.length = num (r.take 2) := by rw [← e, List.length_take, List.length_drop]; omega
          rw [e] at h4
          rw [hl]
          exact ⟨by omega, by omega, h4⟩
        · cases h

theorem restR_err {r : List UInt8} {e : Nat} (h : restR r = .error e) : e = 50 ∨ e = 2 ∨ e = 51 := by
  unfold restR at h
  split at h
  · cases h; omega
  · split at h
    · cases h; omega
    · split at h
      · cases h; omega
      · split at h
        · cases h
        · cases h; omega

/-- all frames from a place on: their texts, where they end, the error -/
def walkR : Nat → List UInt8 → Nat → List ByteArray × Nat × Nat
  | 0, _, a => ([], a, 0)
  | f + 1, r, a => match r, restR r with
    | [], _ => ([], a, 0)
    | _ :: _, .error e => ([], a, e)
    | _ :: _, .ok t => (⟨t.toArray⟩ :: (walkR f (r.drop (t.length + 6)) (a + t.length + 6)).1, (walkR f (r.drop (t.length + 6)) (a + t.length + 6)).2)

theorem walkR_nil (f a : Nat) : walkR f [] a = ([], a, 0) := by cases f <;> rfl

theorem walkR_err {f a e : Nat} {r : List UInt8} (hr : r ≠ []) (h : restR r = .error e) : walkR (f + 1) r a = ([], a, e) := by
  cases r with
  | nil => exact absurd rfl hr
  | cons b r => simp only [walkR, h]

theorem walkR_ok {f a : Nat} {r t : List UInt8} (hr : r ≠ []) (h : restR r = .ok t) : walkR (f + 1) r a = (⟨t.toArray⟩ :: (walkR f (r.drop (t.length + 6)) (a + t.length + 6)).1, (walkR f (r.drop (t.length + 6)) (a + t.length + 6)).2) := by
  cases r with
  | nil => exact absurd rfl hr
  | cons b r => simp only [walkR, h]

/-- what All answers -/
def allR (s : ByteArray) : List ByteArray × Nat × Nat := walkR s.size s.data.toList 0

/-- the answer of an All -/
def AllAns (s : ByteArray) (w : World) : Ending → World → Prop := fun e w' =>
  ∃ (A : Option Addr) (c : Nat), e = .returned (.tuple #[.slice A (allR s).1.length c, .int .i64 ((allR s).2.1 : Int), .int .i64 ((allR s).2.2 : Int)]) ∧ StrsAt w' A (allR s).1 ∧ Below w.heap.size w w'

/-- the frames found so far -/
def Upto (s : ByteArray) (O : List ByteArray) (a : Nat) : Prop :=
  ∃ f, s.size - a ≤ f ∧ allR s = (O ++ (walkR f (s.data.toList.drop a) a).1, (walkR f (s.data.toList.drop a) a).2)

theorem Upto.start (s : ByteArray) : Upto s [] 0 := ⟨s.size, by omega, rfl⟩

theorem Upto.done {s : ByteArray} {O : List ByteArray} {a : Nat} (h : Upto s O a) (ha : s.size ≤ a) : allR s = (O, a, 0) := by
  obtain ⟨f, _, h⟩ := h
  rw [List.drop_eq_nil_of_le (by rw [list_size]; exact ha), walkR_nil] at h
  simpa using h

theorem drop_ne {s : ByteArray} {a : Nat} (ha : a < s.size) : s.data.toList.drop a ≠ [] := by
  intro h
  have := List.drop_eq_nil_iff.1 h
  rw [list_size] at this
  omega

theorem Upto.err {s : ByteArray} {O : List ByteArray} {a e : Nat} (h : Upto s O a) (ha : a < s.size) (he : restR (s.data.toList.drop a) = .error e) : allR s = (O, a, e) := by
  obtain ⟨f, hf, h⟩ := h
  obtain ⟨f, rfl⟩ : ∃ k, f = k + 1 := ⟨f - 1, by omega⟩
  rw [walkR_err (drop_ne ha) he] at h
  simpa using h

theorem Upto.more {s : ByteArray} {O : List ByteArray} {a : Nat} {t : List UInt8} (h : Upto s O a) (ha : a < s.size) (he : restR (s.data.toList.drop a) = .ok t) : Upto s (O ++ [⟨t.toArray⟩]) (a + t.length + 6) := by
  obtain ⟨f, hf, h⟩ := h
  obtain ⟨f, rfl⟩ : ∃ k, f = k + 1 := ⟨f - 1, by omega⟩
  rw [walkR_ok (drop_ne ha) he, List.drop_drop] at h
  refine ⟨f, by omega, ?_⟩
  rw [h, show a + (t.length + 6) = a + t.length + 6 by omega]
  simp

theorem strV_snoc (O : List ByteArray) (t : ByteArray) : strV (O ++ [t]) = strV O ++ [.string t] := by simp [strV]

theorem strs_of_own {w : World} {H n : Nat} {v : Value} {O : List ByteArray} (h : w.ownsRow H 9 1 v n (strV O)) (hl : n = O.length) : ∃ (A : Option Addr) (c : Nat), v = .slice A n c ∧ StrsAt w A O := by
  have h2 := h.2
  rcases h2 with ⟨h1, h2, h3⟩ | ⟨g, cap, cur, h1, _⟩
  · exact ⟨none, 0, h1, fun hp => absurd hl (by omega)⟩
  · subst h1
    exact ⟨_, _, rfl, StrsAt.own h hl⟩

set_option maxRecDepth 20000 in
set_option maxHeartbeats 2000000 in
theorem rall_any (s : ByteArray) (w : World) (hs : s.size ≤ 50000000000000) :
    Calls Try.prog 20 #[.string s] w (AllAns s w) := by
  obtain ⟨i0, hi, hz0, hz1, hz2⟩ := info_parts Try.infoStr
  have hB : (s.size : Int) ≤ 50000000000000 := by omega
  go_enter Try.func20, Try.ntmps20
  go_wp2_with fail
  go_loopw [5, 6] (fun out i wr => ∃ (a : Nat) (O : List ByteArray), a ≤ s.size ∧ O.length * 6 ≤ a ∧ i = .int .i64 (a : Int) ∧ wr.ownsRow w.heap.size 9 1 out O.length (strV O) ∧ Upto s O a ∧ Below w.heap.size w wr) (fun _ i _ => s.size - (intOf i).toNat)
  case atStart => exact ⟨0, [], by omega, by simp, rfl, ⟨rfl, .inl ⟨rfl, rfl⟩⟩, Upto.start s, Below.refl _ _⟩
  case round =>
    obtain ⟨a, O, ha, hO, rfl, hown, hup, hbel⟩ := hrel
    by_cases hlt : a < s.size
    · have pa : (a : Int) < (s.size : Int) := by omega
      have HN := Lib.hid (rnext_any s (a : Int) wr (by omega) ⟨by omega, by omega⟩)
      have hv := nextV_at (s := s) (a := a) (by omega)
      cases hr : restR (s.data.toList.drop a) with
      | error e =>
        have he := restR_err hr
        have hall := hup.err hlt hr
        rw [hr] at hv
        have hv2 : nextV s (a : Int) = .tuple #[.string ⟨#[]⟩, .int .i64 0, .int .i64 (e : Int)] := hv
        have hne : (((e : Nat) : Int) != 0) = true := by simp; omega
        rw [hv2] at HN
        have HA := Lib.hid hall
        have HU := Lib.hid hown
        have HBl := Lib.hid hbel
        clear hr hup hv hv2 hall hown hbel he
        go_wp2_with fail
        refine HN.out.mono ?_
        rintro e w1 ⟨rfl, hb⟩
        have HU1 := Lib.hid (st_keep HU.out hb)
        have HB1 := Lib.hid (HBl.out.trans (hb.mono HBl.out.size))
        clear hb HU HBl HN
        go_wp2_with fail
        go_ret3
        obtain ⟨A, c, hvv, hst⟩ := strs_of_own HU1.out rfl
        exact ⟨A, c, by rw [HA.out, hvv]; rfl, by rw [HA.out]; exact hst, HB1.out⟩
      | ok t =>
        obtain ⟨hk1, hk2, -⟩ := restR_ok hr
        have hup2 := hup.more hlt hr
        have hle : a + t.length + 6 ≤ s.size := by rw [List.length_drop, list_size] at hk2; omega
        rw [hr] at hv
        have hv2 : nextV s (a : Int) = .tuple #[.string ⟨t.toArray⟩, .int .i64 ((a + t.length + 6 : Nat) : Int), .int .i64 0] := hv
        rw [hv2] at HN
        have HP := Lib.hid hup2
        have HU := Lib.hid hown
        have HBl := Lib.hid hbel
        have hsn := strV_snoc O ⟨t.toArray⟩
        generalize hT : (⟨t.toArray⟩ : ByteArray) = T at HN HP hsn
        have HSn := Lib.hid hsn
        generalize hnx : a + t.length + 6 = nx at HN HP hle
        have hnx2 : a + 6 ≤ nx := by omega
        have hOl : (strV O).length = O.length := strV_len O
        clear hr hup hv hv2 hup2 hown hbel hk1 hk2 hT hnx hsn
        go_wp2_with fail
        refine HN.out.mono ?_
        rintro e w1 ⟨rfl, hb⟩
        have HU1 := Lib.hid (st_keep HU.out hb)
        have HB1 := Lib.hid (HBl.out.trans (hb.mono HBl.out.size))
        clear hb HU HBl HN
        go_wp2_with (at_builtin; refine wpList_append_own _ rfl _ _ 22 rfl w.heap.size 9 i0 (.string ⟨#[]⟩) 1 16 Try.underlying22 hi hz0 hz1 hz2 rfl (by decide) _ _ _ rfl (HU1.out.alloc _) ⟨w1.heap.size, 0, none⟩ 1 1 [.string T] rfl rfl ?c1 ?c2 ?c3 ?c4 ?c5 ?_)
        case c1 => exact cell_one_new _ _ _
        case c2 => intro q hq; simp at hq; subst hq; rfl
        case c3 => unfold maxLen; omega
        case c4 => omega
        case c5 => have := HB1.out.size; simp; omega
        intro v' w5 hown' hgrow _
        have HB5 := Lib.hid (below_append HU1.out HB1.out (Nat.le_refl _) hgrow)
        rw [← HSn.out] at hown'
        have HO5 := Lib.hid hown'
        clear hown' hgrow HU1 HB1
        go_wp2_with fail
        go_roundw
        case rel => exact ⟨nx, O ++ [T], hle, by rw [List.length_append, List.length_singleton]; omega, rfl, by rw [List.length_append, List.length_singleton]; exact HO5.out, HP.out, HB5.out⟩
        case measure => simp [intOf]; omega
    · obtain rfl : a = s.size := by omega
      have HA := Lib.hid (hup.done (Nat.le_refl _))
      have HU := Lib.hid hown
      have HBl := Lib.hid hbel
      clear hup hown hbel
      go_wp2_with fail
      go_ret3
      obtain ⟨A, c, hvv, hst⟩ := strs_of_own HU.out rfl
      exact ⟨A, c, by rw [HA.out, hvv]; rfl, by rw [HA.out]; exact hst, HBl.out⟩

end Su
end Go.Proofs.Ytlamjkagjkmbeaa
