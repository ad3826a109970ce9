/- The document's leases: its calls; no condition but the ranges. -/
import Derived.Test.YtlhcaankfhdakaaLsRow
import Derived.Test.YtlhcaankfhdakaaFloatK
import Derived.Test.YtlhcaankfhdakaaBkGrow
namespace Go.Proofs.Ytlhcaankfhdakaa
namespace Ls
open Go.RowKit Bk

attribute [local go_sem ↓] Go.wp_at_zero Go.wp_at_succ
attribute [local go_sem] floatUpon pick

section
variable {W W' : World} {base : Nat} {v : Value} {l : List Le}

theorem DRow.mono {base' : Nat} (h : DRow W base v l) (hb : base' ≤ base) : DRow W base' v l := by
  refine ⟨h.1, ?_⟩
  rcases h.2 with h' | ⟨p, cap, cur, e, h2, h3⟩
  · exact .inl h'
  · exact .inr ⟨p, cap, cur, e, by omega, h3⟩

theorem DRow.lt (h : DRow W base v l) {p : Nat} (hp : v.ownBlock = some p) : p < W.heap.size ∧ base ≤ p := by
  rcases h.2 with ⟨e, _⟩ | ⟨q, cap, cur, e, e2, e3, _⟩
  · rw [e] at hp; cases hp
  · rw [e] at hp
    obtain rfl : q = p := Option.some.inj hp
    exact ⟨(Array.getElem?_eq_some_iff.1 e3).1, e2⟩

theorem DRow.same (h : DRow W base v l) (hk : ∀ p, v.ownBlock = some p → W'.heap[p]? = W.heap[p]?) : DRow W' base v l := by
  refine ⟨h.1, ?_⟩
  rcases h.2 with h' | ⟨p, cap, cur, e, h2, h3, h4⟩
  · exact .inl h'
  · exact .inr ⟨p, cap, cur, e, h2, (hk p (by rw [e]; rfl)).trans h3, h4⟩

theorem DRow.form (h : DRow W base v l) : ∃ A c, v = .slice A l.length c := by
  rcases h.2 with ⟨e, e2⟩ | ⟨p, cap, cur, e, _⟩
  · exact ⟨none, 0, by rw [e, e2]⟩
  · exact ⟨_, _, e⟩


theorem d_cells {A : Option Addr} {c : Nat} (h : DRow W base (.slice A l.length c) l) {k : Nat} (hk : k < l.length) : ∃ p, A = some ⟨p, 0, none⟩ ∧ W.cell? ⟨p, k * 3, none⟩ = some (.int .i64 (g l k).n) ∧ W.cell? ⟨p, k * 3 + 1, none⟩ = some (.int .i64 (g l k).t) ∧ W.cell? ⟨p, k * 3 + 2, none⟩ = some (.int .i64 (g l k).u) := by
  obtain ⟨p, cap, rest, e, _, hc, _⟩ := h.blk (by omega)
  simp only [Value.slice.injEq] at e
  exact ⟨p, e.1, dcell_of hc hk (j := 0) (by omega) rfl, dcell_of hc hk (j := 1) (by omega) rfl, dcell_of hc hk (j := 2) (by omega) rfl⟩

/-- the document's table in block r -/
structure RQ (W : World) (base r : Nat) (v : Value) (D : Tb) : Prop where
  cel : Cel W r 41 [.int .i64 D.long, .int .i64 D.many, v]
  row : DRow W base v D.L
  far : v.ownBlock ≠ some r
  rb : base ≤ r
  bs : base ≤ W.heap.size

/-- behind a call of it: its block and its row may be written; its row is the old one, or a new one -/
structure RM (W W' : World) (r : Nat) (v v' : Value) : Prop where
  os : W'.os = W.os
  tape : W'.tape = W.tape
  output : W'.output = W.output
  size : W.heap.size ≤ W'.heap.size
  block : ∀ k, k < W.heap.size → k ≠ r → v.ownBlock ≠ some k → W'.heap[k]? = W.heap[k]?
  own : ∀ q, v'.ownBlock = some q → v.ownBlock = some q ∨ W.heap.size ≤ q

def RP (W : World) (base r : Nat) (v : Value) (D' : Tb) (W' : World) : Prop := ∃ v', RQ W' base r v' D' ∧ RM W W' r v v'

theorem RM.of {r : Nat} (h : Below W.heap.size W W') : RM W W' r v v := ⟨h.os, h.tape, h.output, h.size, fun k hk _ _ => h.block k hk, fun _ h => .inl h⟩

theorem RQ.below {r : Nat} {D : Tb} (h : RQ W base r v D) (hb : Below W.heap.size W W') : RQ W' base r v D := ⟨h.cel.below hb, st_keep h.row hb, h.far, h.rb, Nat.le_trans h.bs hb.size⟩

def atB (D : Tb) (n : Int) : Int := if nu D.L n < D.L.length then (nu D.L n : Int) else -1

set_option maxHeartbeats 4000000 in
theorem at_any {r : Nat} {D : Tb} (h : RQ W base r v D) (h10 : D.L.length ≤ 100000) (n : Int) : Calls Try.prog 29 #[.pointer (some ⟨r, 0, none⟩), .int .i64 n] W fun e W' => e = .returned (.int .i64 (atB D n)) ∧ W' = W := by
  obtain ⟨A, c, hv⟩ := h.row.form
  have HRow := Lib.hid h.row
  have k0 := h.cel.cell (i := 2) rfl
  rw [hv] at k0
  have HV := Lib.hid hv
  clear h hv
  go_enter Try.func29, Try.ntmps29
  go_wp2_with fail
  go_loopw [5] (fun i wr => ∃ j : Nat, j ≤ D.L.length ∧ i = .int .i64 (j : Int) ∧ Hid (∀ k, k < j → (g D.L k).n ≠ n) ∧ wr = W) (fun i _ => D.L.length - (intOf i).toNat)
  case atStart => exact ⟨0, by omega, rfl, Lib.hid (fun k hk => absurd hk (by omega)), rfl⟩
  case round =>
    obtain ⟨j, hj, rfl, hno, rfl⟩ := hrel
    by_cases hlt : j < D.L.length
    · obtain ⟨p, rfl, e3, _, _⟩ := d_cells (HV.out ▸ HRow.out) hlt
      have p1 : (j : Int) < (D.L.length : Int) := by omega
      by_cases hn : (g D.L j).n = n
      · have hnum := nu_eq hlt hn hno.out
        have hz : atB D n = (j : Int) := by unfold atB; rw [hnum, if_pos hlt]
        have HZ := Lib.hid hz
        rw [hn] at e3
        clear hnum hn hz
        go_wp2_with fail
        go_ret
        exact ⟨by rw [HZ.out]; rfl, rfl⟩
      · have HN := Lib.hid hn
        have q0 : ((g D.L j).n == n) = false := by rw [beq_eq_false_iff_ne]; exact hn
        clear hn
        go_wp2_with fail
        go_roundw
        case rel => exact ⟨j + 1, by omega, by go_num, Lib.hid (fun k hk => by
          by_cases e : k = j
          · subst e; exact HN.out
          · exact hno.out k (by omega)), by first | rfl | trivial⟩
        case measure => simp [intOf]; omega
    · obtain rfl : j = D.L.length := by omega
      have hz : atB D n = -1 := if_neg (nu_no hno.out)
      have HZ := Lib.hid hz
      clear hz
      go_wp2_with fail
      go_ret
      exact ⟨by rw [HZ.out]; rfl, rfl⟩

end

end Ls
end Go.Proofs.Ytlhcaankfhdakaa
