/- The landed net: New, Len, place, put; contracts; no condition but the ranges. -/
import Derived.Test.YtkpcfakfkcghdaaNtDel
import Derived.BigQuiet
namespace Go.Proofs.Ytkpcfakfkcghdaa
namespace Nt
open Go.RowKit Bk Lt
set_option linter.unusedVariables false

attribute [local go_sem ↓] Go.wp_at_zero Go.wp_at_succ
attribute [local go_sem] floatUpon pick

set_option maxHeartbeats 4000000 in
theorem lnew_no (room : Int) (w : World) (h : room < 1 ∨ 1024 < room) :
    Calls Try.prog 8 #[.int .i64 room] w fun e w' => e = .returned (.tuple #[.pointer none, .int .i64 1]) ∧ w' = w := by
  by_cases h1 : room < 1
  · clear h
    go_enter Try.func8, Try.ntmps8
    go_wp2_with fail
    go_ret2
    exact ⟨rfl, rfl⟩
  · have h2 : 1024 < room := by omega
    have h3 : 1 ≤ room := by omega
    clear h h1
    go_enter Try.func8, Try.ntmps8
    go_wp2_with fail
    go_ret2
    exact ⟨rfl, rfl⟩

set_option maxHeartbeats 4000000 in
theorem lnew_any (room : Int) (w : World) (h1 : 1 ≤ room) (h2 : room ≤ 1024) :
    Calls Try.prog 8 #[.int .i64 room] w fun e w' => e = .returned (.tuple #[.pointer (some ⟨w.heap.size, 0, none⟩), .int .i64 0]) ∧ LRep w' (fun k => k = w.heap.size) w.heap.size room [] ∧ Below w.heap.size w w' := by
  go_enter Try.func8, Try.ntmps8
  go_wp2_with fail
  go_ret2
  refine ⟨rfl, ⟨.slice none 0 0, [], ⟨(blk1 w _).2, ⟨rfl, .inl ⟨rfl, rfl⟩⟩, fun x hx => absurd hx (by simp), List.Pairwise.nil, rfl, (fun k e => by cases e), fun x hx => absurd hx (by simp), (fun k e => by subst e; simp), h2, (by simp; omega), fun x hx => absurd hx (by simp)⟩, rfl⟩, (Below.refl _ w).alloc (Nat.le_refl _) _⟩

section
variable {W W' : World} {F : Nat → Prop} {g : Nat} {room : Int} {l : List Let}

set_option maxHeartbeats 4000000 in
theorem llen_any (h : LRep W F g room l) : Calls Try.prog 12 #[.pointer (some ⟨g, 0, none⟩)] W fun e w' => e = .returned (.int .i64 (l.length : Int)) ∧ w' = W := by
  obtain ⟨v, L, h, rfl⟩ := h
  obtain ⟨A, c, rfl, -⟩ := h.form
  have k1 := h.cel.cell (i := 1) rfl
  rw [List.length_map]
  clear h
  go_enter Try.func12, Try.ntmps12
  go_wp2_with fail
  go_ret
  exact ⟨rfl, rfl⟩

theorem among_parts (p : Int) (n : Nat) (h : 1 ≤ n) : (p.tmod (n : Int) < 0 ∧ p.tmod (n : Int) + (n : Int) = (amongV p n : Int)) ∨ (0 ≤ p.tmod (n : Int) ∧ p.tmod (n : Int) = (amongV p n : Int)) := by
  obtain ⟨e1, e2, e3⟩ := among_eq p n h
  generalize p.tmod (n : Int) = t at e1 e2 e3 ⊢
  by_cases h0 : t < 0
  · refine .inl ⟨h0, ?_⟩
    rw [← e1, Int.tmod_eq_of_lt (by omega) (by omega)]
  · refine .inr ⟨by omega, ?_⟩
    rw [← e1, Int.tmod_eq_emod_of_nonneg (by omega), Int.add_emod_right, Int.emod_eq_of_lt (by omega) e3]

set_option maxHeartbeats 4000000 in
theorem lplace_any (h : LRep W F g room l) (p : Int) (hn : 1 ≤ l.length) : Calls Try.prog 37 #[.pointer (some ⟨g, 0, none⟩), .int .i64 p] W fun e w' => e = .returned (.int .i64 (amongV p l.length : Int)) ∧ w' = W := by
  have HL := Lib.hid (llen_any h)
  have hl10 : l.length ≤ 1024 := by obtain ⟨v, L, h, rfl⟩ := h; rw [List.length_map]; exact h.len10
  obtain ⟨n, hN⟩ : ∃ n, l.length = n := ⟨_, rfl⟩
  rw [hN] at HL hn hl10 ⊢
  obtain ⟨e1, e2, e3⟩ := among_eq p n hn
  have e4 : ((n : Int) == 0) = false := by simp; omega
  have ha := amongV_lt p n hn
  clear h hN e1
  rcases among_parts p n hn with ⟨h0, h1⟩ | ⟨h0, h1⟩
  · have h2 : wrap64 (p.tmod (n : Int) + (n : Int)) = (amongV p n : Int) := by rw [h1]; exact IntWalk.wrap64_in _ ⟨by omega, by omega⟩
    have h3 : wrap64 (p.tmod (n : Int)) = p.tmod (n : Int) := IntWalk.wrap64_in _ ⟨by omega, by omega⟩
    have E := Lib.hid h1
    clear h1 ha
    go_enter Try.func37, Try.ntmps37
    go_wp2_with fail
    refine HL.out.mono ?_
    rintro e W1 ⟨rfl, rfl⟩
    go_wp2_with fail
    refine HL.out.mono ?_
    rintro e W2 ⟨rfl, rfl⟩
    go_wp2_with fail
    go_ret
    exact ⟨ret_int E.out, rfl⟩
  · have h3 : wrap64 (p.tmod (n : Int)) = p.tmod (n : Int) := IntWalk.wrap64_in _ ⟨by omega, by omega⟩
    have E := Lib.hid h1
    clear h1 ha
    go_enter Try.func37, Try.ntmps37
    go_wp2_with fail
    refine HL.out.mono ?_
    rintro e W1 ⟨rfl, rfl⟩
    go_wp2_with fail
    go_ret
    exact ⟨ret_int E.out, rfl⟩

/-- one more letter, with rows that are new, behind a row that has grown already -/
theorem LAt.put2 {V : World} {v v6 : Value} {L : List LI} {y : LI} {H : Nat} (h : LAt V F g room v L) (hy : LOwn V H y) (hF : ∀ k, F k → k < W.heap.size) (hH : W.heap.size ≤ H) (hok : LetOk y.l) (hlt : (L.length : Int) < room)
    (ho : V.ownsRow 0 35 9 v6 (L.length + 1) (L.flatMap lcs ++ lcs y)) (hat : v6.ownBlock = v.ownBlock ∨ ∃ k, v6.ownBlock = some k ∧ H ≤ k) :
    LAt (V.setCell ⟨g, 1, none⟩ v6) (Gr F W (V.setCell ⟨g, 1, none⟩ v6)) g room v6 (L ++ [y]) := by
  have hs7 : (V.setCell ⟨g, 1, none⟩ v6).heap.size = V.heap.size := by simp [World.setCell]
  have keep : ∀ x H', LOwn V H' x → LOwn (V.setCell ⟨g, 1, none⟩ v6) H' x := fun x H' hx => hx.same (fun k hk => Below.heap_setCell V ⟨g, 1, none⟩ v6 k (fun e => by
    have e : k = g := e
    subst e
    rcases hk with hk | hk
    · exact row_cel hx.ks h.cel (by decide) hk
    · exact row_cel hx.ws h.cel (by decide) hk))
  refine ⟨h.cel.set, ?_, fun x hx => ?_, ?_, .inl h.fg, fun k e => ?_, fun x hx k hk => ?_, fun k hk => ?_, h.rm, by rw [List.length_append, List.length_singleton]; omega, fun x hx => ?_⟩
  · rw [List.length_append, List.length_singleton, flat_snoc]
    exact ownsRow_setCell_other (a := ⟨g, 1, none⟩) ho (row_cel ho h.cel (by decide)) v6
  · rcases List.mem_append.1 hx with hx | hx
    · exact keep x 0 (h.own x hx)
    · obtain rfl := List.mem_singleton.1 hx
      exact (keep x H hy).mono (Nat.zero_le _)
  · refine List.pairwise_append.2 ⟨h.sep, List.pairwise_singleton _ _, fun x hx z hz k hk hk2 => ?_⟩
    obtain rfl := List.mem_singleton.1 hz
    have := hF k (h.fl x hx k hk)
    have := (hy.lt hk2).2
    omega
  · rcases hat with e2 | ⟨k', e2, h2⟩
    · exact .inl (h.fv k (by rw [← e2]; exact e))
    · obtain rfl : k' = k := by rw [e2] at e; exact Option.some.inj e
      exact .inr ⟨by omega, by rw [hs7]; exact (row_lt ho e).1⟩
  · rcases List.mem_append.1 hx with hx | hx
    · exact .inl (h.fl x hx k hk)
    · obtain rfl := List.mem_singleton.1 hx
      have := hy.lt hk
      exact .inr ⟨by omega, by omega⟩
  · rcases hk with hk | hk
    · rw [hs7]; exact h.lt k hk
    · exact hk.2
  · rcases List.mem_append.1 hx with hx | hx
    · exact h.ok x hx
    · obtain rfl := List.mem_singleton.1 hx; exact hok

end

/-- a letter more, if there is room -/
def putL (room : Int) (l : List Let) (m : Let) : List Let × Int := if (l.length : Int) < room then (l ++ [m], 0) else (l, 150)

end Nt
end Go.Proofs.Ytkpcfakfkcghdaa
