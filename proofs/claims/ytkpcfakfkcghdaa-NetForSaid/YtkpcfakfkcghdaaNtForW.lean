/- The places of letters to an address are those at which they stand, each once; no condition but the ranges. -/
import Derived.Test.YtkpcfakfkcghdaaNtWorks
import Derived.Test.YtkpcfakfkcghdaaNtOpen
namespace Go.Proofs.Ytkpcfakfkcghdaa
namespace Nt
open Go.RowKit Bk Lt
set_option linter.unusedVariables false

attribute [local go_sem ↓] Go.wp_at_zero Go.wp_at_succ
attribute [local go_sem] floatUpon pick

/-- where a letter goes -/
def dstA (l : List Let) (i : Nat) : Int := (l.getD i noLet).dst

theorem forL_mem {l : List Let} {dn : Int} {j : Nat} {x : Int} : x ∈ forL l dn j ↔ ∃ i, i < j ∧ x = (i : Int) ∧ dstA l i = dn := by
  unfold forL dstA
  simp only [List.mem_map, List.mem_filter, List.mem_range, decide_eq_true_eq]
  constructor
  · rintro ⟨i, ⟨h1, h2⟩, rfl⟩; exact ⟨i, h1, rfl, h2⟩
  · rintro ⟨i, h1, rfl, h2⟩; exact ⟨i, ⟨h1, h2⟩, rfl⟩

theorem forL_nodup (l : List Let) (dn : Int) (j : Nat) : (forL l dn j).Nodup := by
  unfold forL
  have h := (List.nodup_range (n := j)).filter fun i => decide ((l.getD i noLet).dst = dn)
  exact List.Pairwise.map _ (fun a b hne e => hne (by exact_mod_cast e)) h

theorem nodup_take {l : List Int} (h : l.Nodup) {q : Nat} (hq : q < l.length) : l[q] ∉ l.take q := fun hm => by
  obtain ⟨k, hk, e⟩ := List.mem_iff_getElem.1 hm
  rw [List.length_take] at hk
  rw [List.getElem_take] at e
  have := (List.pairwise_iff_getElem.1 h) k q (by omega) hq (by omega)
  exact this e

/-- the letters of the first j numbers -/
def fL (tos : List Int) (j : Nat) : List Let := (List.range j).map fun i : Nat => plL ((i : Int) + 1) (amongV (tos.getD i 0) 12 : Int)
theorem fL_len (tos : List Int) (j : Nat) : (fL tos j).length = j := by simp [fL]
theorem fL_succ (tos : List Int) (j : Nat) : fL tos (j + 1) = fL tos j ++ [plL ((j : Int) + 1) (amongV (tos.getD j 0) 12 : Int)] := by unfold fL; rw [List.range_succ, List.map_append]; rfl
theorem fL_dst (tos : List Int) {m i : Nat} (h : i < m) : dstA (fL tos m) i = (amongV (tos.getD i 0) 12 : Int) := by
  unfold dstA fL
  rw [List.getD_eq_getElem?_getD, List.getElem?_map, List.getElem?_range h]; rfl

/-- which places were seen -/
def SeenAt (wr : World) (sb m : Nat) (Q : Nat → Prop) : Prop :=
  ∃ S : List Bool, S.length = m ∧ Cel wr sb 4 (S.map Value.bool) ∧ ∀ i (h : i < S.length), S[i] = true ↔ Q i

theorem SeenAt.below {wr w' : World} {sb m : Nat} {Q : Nat → Prop} (h : SeenAt wr sb m Q) (hb : Below wr.heap.size wr w') : SeenAt w' sb m Q := by
  obtain ⟨S, h1, h2, h3⟩ := h
  exact ⟨S, h1, h2.below hb, h3⟩

theorem SeenAt.set {wr : World} {sb m a : Nat} {Q Q' : Nat → Prop} (h : SeenAt wr sb m Q) (hQ : ∀ i, i < m → (Q' i ↔ i = a ∨ Q i)) : SeenAt (wr.setCell ⟨sb, a, none⟩ (.bool true)) sb m Q' := by
  obtain ⟨S, h1, h2, h3⟩ := h
  refine ⟨S.set a true, by rw [List.length_set]; exact h1, ?_, fun i hi => ?_⟩
  · rw [List.map_set]; exact h2.set
  · rw [List.length_set] at hi
    rw [hQ i (by omega), List.getElem_set]
    by_cases e : a = i
    · subst e; simp
    · rw [if_neg e, h3 i hi]
      constructor
      · exact .inr
      · rintro (e2 | h)
        · exact absurd e2.symm e
        · exact h

theorem SeenAt.iff {wr : World} {sb m : Nat} {Q Q' : Nat → Prop} (h : SeenAt wr sb m Q) (hQ : ∀ i, i < m → (Q' i ↔ Q i)) : SeenAt wr sb m Q' := by
  obtain ⟨S, h1, h2, h3⟩ := h
  exact ⟨S, h1, h2, fun i hi => (h3 i hi).trans (hQ i (by omega)).symm⟩

theorem SeenAt.cell {wr : World} {sb m a : Nat} {Q : Nat → Prop} (h : SeenAt wr sb m Q) (ha : a < m) : (Q a → wr.cell? ⟨sb, a, none⟩ = some (.bool true)) ∧ (¬ Q a → wr.cell? ⟨sb, a, none⟩ = some (.bool false)) ∧ wr.frozen? ⟨sb, a, none⟩ = false := by
  obtain ⟨S, h1, h2, h3⟩ := h
  have hc : wr.cell? ⟨sb, a, none⟩ = some (.bool S[a]) := h2.cell (by rw [List.getElem?_map, List.getElem?_eq_getElem (by omega)]; rfl)
  refine ⟨fun q => by rw [hc, (h3 a (by omega)).2 q], fun q => ?_, h2.free⟩
  have : S[a] = false := by
    cases hb : S[a] with
    | false => rfl
    | true => exact absurd ((h3 a (by omega)).1 hb) q
  rw [hc, this]

/-- what the law's loops keep -/
structure FI (w wr : World) (g sb m : Nat) (l : List Let) (Q : Nat → Prop) : Prop where
  ns : NS w wr (fun k => k = sb) g 60 l
  seen : SeenAt wr sb m Q
  sbw : w.heap.size ≤ sb

theorem FI.below {w wr w' : World} {g sb m : Nat} {l : List Let} {Q : Nat → Prop} (h : FI w wr g sb m l Q) (hb : Below wr.heap.size wr w') : FI w w' g sb m l Q := ⟨h.ns.below hb, h.seen.below hb, h.sbw⟩

theorem FI.set {w wr : World} {g sb m a : Nat} {l : List Let} {Q Q' : Nat → Prop} (h : FI w wr g sb m l Q) (hQ : ∀ i, i < m → (Q' i ↔ i = a ∨ Q i)) : FI w (wr.setCell ⟨sb, a, none⟩ (.bool true)) g sb m l Q' :=
  ⟨h.ns.own (by simp [World.setCell]) (st_set _ _ _) (fun k _ hn => Below.heap_setCell wr ⟨sb, a, none⟩ _ k hn) (fun k hk => by rw [hk]; exact h.sbw) (fun k hk => .inl hk), h.seen.set hQ, h.sbw⟩

theorem FI.iff {w wr : World} {g sb m : Nat} {l : List Let} {Q Q' : Nat → Prop} (h : FI w wr g sb m l Q) (hQ : ∀ i, i < m → (Q' i ↔ Q i)) : FI w wr g sb m l Q' := ⟨h.ns, h.seen.iff hQ, h.sbw⟩

theorem Try.infoBoolN : (Try.prog.info? 4).map (fun i => (i.zero, i.size, i.bytes)) = some (some (.bool false), 1, 1) := by kernel_rfl

theorem mkBools (n : Nat) : madeCells (Value.bool false).cells (n * 1) = ((List.replicate n false).map Value.bool).toArray := by
  apply Array.ext'
  rw [Nat.mul_one, show (Value.bool false).cells = #[.bool false] from rfl, toList_madeCells_one]
  simp

set_option maxRecDepth 20000 in
set_option maxHeartbeats 8000000 in
theorem for_any (v0 : Value) (tos : List Int) (w : World) (h0 : IntsOf w v0 tos) : Calls Try.prog 6 #[v0] w fun e w' => e = .returned (.bool true) ∧ Below w.heap.size w w' := by
  obtain ⟨A0, c0, rfl, hat0, hl8, -⟩ := h0
  have pl0 : (tos.length : Int) ≤ 9223372036854775807 := by unfold reachBytes at hl8; omega
  have HAt := Lib.hid hat0
  have HN := Lib.hid (ns_new (w0 := w) (wr := w) 60 (Below.refl _ _) (by omega) (by omega))
  have HWk := Lib.hid (fun V => works_any V)
  obtain ⟨m, hm⟩ : ∃ m, m = min tos.length 60 := ⟨_, rfl⟩
  have hmin : Hid (min (tos.length : Int) 60 = (m : Int)) := Lib.hid (by omega)
  have hm60 : m ≤ 60 := by omega
  have hmt : m ≤ tos.length := by omega
  obtain ⟨i0, hi, hz0, hz1, hz2⟩ := info_parts Try.infoBoolN
  have hmk : ∀ V : World, (Instr.makeSlice 56 (.int .i64 (m : Int)) (.int .i64 (m : Int))).run Try.prog V = .ok (.slice (some ⟨V.heap.size, 0, none⟩) m m) (V.alloc (.cells ((List.replicate m false).map Value.bool).toArray 4)) := fun V => by
    have h := run_make (P := Try.prog) V 56 4 i0 (.bool false) Try.underlying56 hi hz0 .i64 .i64 (m : Int) (m : Int) (by omega) (by omega) (by rw [hz2]; omega) (by omega)
    rw [hz1] at h
    have e := mkBools m
    rw [show (m : Int).toNat * 1 = m * 1 by simp] at h
    rw [e] at h
    simpa using h
  clear hat0 hl8 hm
  go_enter Try.func6, Try.ntmps6
  go_wp2_with fail
  refine HN.out.mono ?_
  rintro e W1 ⟨rfl, hs⟩
  have HS := Lib.hid hs
  clear hs HN
  go_wp2_with fail
  refine (HWk.out _).mono ?_
  rintro e W2 ⟨rfl, hb⟩
  have HS2 := Lib.hid (HS.out.below hb)
  clear hb HS HWk
  go_upto_region 5 with fail
  rw [hmin.out]
  clear hmin
  have HMk := Lib.hid hmk
  clear hmk
  go_wp2_with fail
  go_loopw [30] (fun iv wr => ∃ j : Nat, j ≤ m ∧ iv = .int .i64 (j : Int) ∧ Hid (NS w wr (fun _ => False) w.heap.size 60 (fL tos j))) (fun iv _ => m - (RowKit.intOf iv).toNat)
  case atStart => exact ⟨0, by omega, rfl, HS2⟩
  case round =>
    obtain ⟨j, hj, rfl, hs⟩ := hrel
    clear HS2
    by_cases hlt : j < m
    · have pj : (j : Int) < (m : Int) := by omega
      obtain ⟨ad, rfl, -, hcb⟩ := HAt.out.below hs.out.bel (by omega)
      have x0 := hcb j (by omega)
      have hgd : tos.getD j 0 = tos[j] := by rw [List.getD_eq_getElem?_getD, List.getElem?_eq_getElem (by omega)]; rfl
      have hsu := fL_succ tos j
      rw [hgd] at hsu
      generalize tos[j] = tj at x0 hsu
      have ham := amongV_lt tj 12 (by omega)
      have HAm := Lib.hid (fun V => among_any tj 12 V (by omega) (by omega))
      obtain ⟨cj, hcj⟩ : ∃ cj, amongV tj 12 = cj := ⟨_, rfl⟩
      rw [hcj] at ham HAm hsu
      have HPl := Lib.hid (fun V => plain_any ((j : Int) + 1) (cj : Int) V)
      have HSu := Lib.hid hsu
      unfold letV at HPl
      clear hcb hgd hsu hcj
      go_wp2_with fail
      refine (HAm.out _).mono ?_
      rintro e W3 ⟨rfl, rfl⟩
      go_wp2_with fail
      refine (HPl.out _).mono ?_
      rintro e W4 ⟨rfl, hb2⟩
      have hs2 := hs.out.below hb2
      have hok : LetOk (plL ((j : Int) + 1) (cj : Int)) := plL_ok (by omega) (by omega) (by omega) (by omega)
      have hsn := ns_send hs2 (plI ((j : Int) + 1) (cj : Int)) (plI_own _ (by omega) (by omega) (by omega) (by omega))
      rw [show (plI ((j : Int) + 1) (cj : Int)).l = plL ((j : Int) + 1) (cj : Int) from rfl, send_ok hok (by rw [fL_len]; omega), ← HSu.out] at hsn
      have HSn := Lib.hid hsn
      unfold letV at HSn
      clear hs hs2 hsn hb2 hok x0
      go_wp2_with fail
      refine HSn.out.mono ?_
      rintro e W5 ⟨rfl, hp⟩
      have HS3 := Lib.hid hp.toNS
      clear hp HSn
      go_wp2_with fail
      go_roundw
      case rel => exact ⟨j + 1, by omega, by go_num, HS3⟩
      case measure => simp [RowKit.intOf]; omega
    obtain rfl : j = m := by omega
    have pj : ¬ (j : Int) < (j : Int) := by omega
    have hmk := HMk.out
    go_upto_region 12 with fail
    have hsb : Cel (wr.alloc (.cells (Array.replicate j (.bool false)) 4)) wr.heap.size 4 ((List.replicate j false).map Value.bool) := by
      have h := (blk1 wr (.cells (Array.replicate j (.bool false)) 4)).2
      unfold Cel
      rw [h]
      simp
    have hal := (Below.refl wr.heap.size wr).alloc (Nat.le_refl _) (.cells (Array.replicate j (.bool false)) 4)
    have hld : ∀ i, i < j → dstA (fL tos j) i = (amongV (tos.getD i 0) 12 : Int) := fun i h => fL_dst tos h
    have hlen := fL_len tos j
    have hfi : FI w (wr.alloc (.cells (Array.replicate j (.bool false)) 4)) w.heap.size wr.heap.size j (fL tos j) (fun i => dstA (fL tos j) i < ((0 : Nat) : Int)) :=
      ⟨hs.out.new hal (fun k hk => .inr (by subst hk; exact ⟨Nat.le_refl _, hsb.lt⟩)), ⟨List.replicate j false, by simp, hsb, fun i hi => by
        rw [List.length_replicate] at hi
        rw [List.getElem_replicate]
        show false = true ↔ dstA (fL tos j) i < ((0 : Nat) : Int)
        rw [hld i hi]
        constructor
        · intro h; cases h
        · intro h; omega⟩, hs.out.bel.size⟩
    generalize wr.alloc (.cells (Array.replicate j (.bool false)) 4) = W3 at hfi ⊢
    generalize wr.heap.size = sb at hfi ⊢
    generalize fL tos j = l at hfi hld hlen
    have HFi := Lib.hid hfi
    have HLd := Lib.hid hld
    have HLen := Lib.hid hlen
    clear hs hsb hal hld hlen hfi hmk HMk pj hlt
    go_wp2_with fail
    go_loopw [47] (fun iv wx => ∃ t : Nat, t ≤ 12 ∧ iv = .int .i64 (t : Int) ∧ Hid (FI w wx w.heap.size sb j l (fun i => dstA l i < (t : Int)))) (fun iv _ => 12 - (RowKit.intOf iv).toNat)
    case atStart => exact ⟨0, by omega, rfl, HFi⟩
    case round =>
      obtain ⟨t, ht, rfl, hfi⟩ := hrel
      clear HFi
      by_cases htl : t < 12
      case pos =>
        have pt : (t : Int) < 12 := by omega
        have hfr := ns_for hfi.out.ns (t : Int)
        rw [HLen.out] at hfr
        obtain ⟨R, hR⟩ : ∃ R, forL l (t : Int) j = R := ⟨_, rfl⟩
        rw [hR] at hfr
        have HFr := Lib.hid hfr
        have HR := Lib.hid hR
        clear hfr hR
        go_wp2_with fail
        refine HFr.out.mono ?_
        rintro e W4 ⟨v4, rfl, hrow, hb4⟩
        have HF4 : Hid (FI w W4 w.heap.size sb j l (fun i => dstA l i < (t : Int) ∨ (dstA l i = (t : Int) ∧ (i : Int) ∈ R.take 0))) := Lib.hid ((hfi.out.below hb4).iff (fun i _ => by simp))
        obtain ⟨A3, c3, rfl, -⟩ := row_form hrow
        have HRow := Lib.hid (row_mono hrow (Nat.zero_le _))
        have hRl : R.length ≤ j := by rw [← HR.out]; exact forL_len _ _ _
        clear hrow hb4 hfi HFr
        go_wp2_with fail
        go_loopw [54] (fun iv wx => ∃ q : Nat, q ≤ R.length ∧ iv = .int .i64 (q : Int) ∧ Hid (FI w wx w.heap.size sb j l (fun i => dstA l i < (t : Int) ∨ (dstA l i = (t : Int) ∧ (i : Int) ∈ R.take q))) ∧ Hid (wx.ownsRow 0 3 1 (.slice A3 R.length c3) R.length (intV R))) (fun iv _ => R.length - (RowKit.intOf iv).toNat)
        case atStart => exact ⟨0, by omega, rfl, HF4, HRow⟩
        case round =>
          obtain ⟨q, hq, rfl, hfi, hrow⟩ := hrel
          clear HF4 HRow
          by_cases hql : q < R.length
          case pos =>
            have pq : (q : Int) < (R.length : Int) := by omega
            obtain ⟨a, haj, hae, had⟩ := forL_mem.1 (show R[q] ∈ forL l (t : Int) j from by rw [HR.out]; exact List.getElem_mem hql)
            obtain ⟨p5, cap5, rest5, e5, -, hcel5, -, -, -⟩ := row_blk hrow.out (by omega)
            simp only [Value.slice.injEq] at e5
            obtain ⟨rfl, -, rfl⟩ := e5
            have o0 := hcel5.cell (i := q) (show (intV R ++ rest5)[q]? = some (.int .i64 (a : Int)) from by rw [List.getElem?_append_left (by rw [intV_len]; exact hql), intV_at hql, hae])
            have hnm : (a : Int) ∉ R.take q := by
              have := nodup_take (by rw [← HR.out]; exact forL_nodup l (t : Int) j) hql
              rwa [hae] at this
            obtain ⟨-, hs2, hs3⟩ := hfi.out.seen.cell haj
            have s0 := hs2 (by rintro (h | ⟨_, h⟩); omega; exact hnm h)
            obtain ⟨ad, rfl, -, hcb⟩ := HAt.out.below hfi.out.ns.bel (by omega)
            have x0 := hcb a (by omega)
            have hgd : tos.getD a 0 = tos[a] := by rw [List.getD_eq_getElem?_getD, List.getElem?_eq_getElem (by omega)]; rfl
            have hdl := HLd.out a haj
            rw [hgd, had] at hdl
            generalize tos[a] = ta at x0 hdl
            have hAm := fun V => among_any ta 12 V (by omega) (by omega)
            have hcj : amongV ta 12 = t := by omega
            rw [hcj] at hAm
            have HAm := Lib.hid hAm
            have HSet : Hid (FI w (wr.setCell ⟨sb, a, none⟩ (.bool true)) w.heap.size sb j l (fun i => dstA l i < (t : Int) ∨ (dstA l i = (t : Int) ∧ (i : Int) ∈ R.take (q + 1)))) := Lib.hid (hfi.out.set (fun i hi => by
              rw [List.take_succ_eq_append_getElem hql, hae]
              simp only [List.mem_append, List.mem_singleton]
              constructor
              · rintro (h | ⟨h1, h2 | h2⟩)
                · exact .inr (.inl h)
                · exact .inr (.inr ⟨h1, h2⟩)
                · exact .inl (by omega)
              · rintro (h | h | ⟨h1, h2⟩)
                · subst h; exact .inr ⟨had, .inr rfl⟩
                · exact .inl h
                · exact .inr ⟨h1, .inl h2⟩))
            have HRow2 : Hid ((wr.setCell ⟨sb, a, none⟩ (.bool true)).ownsRow 0 3 1 (.slice (some ⟨p5, 0, none⟩) R.length c3) R.length (intV R)) := Lib.hid (by
              obtain ⟨S, _, hSc, _⟩ := hfi.out.seen
              exact ownsRow_setCell_other (a := ⟨sb, a, none⟩) hrow.out (row_cel hrow.out hSc (by decide)) _)
            have pa0 : ¬ (a : Int) < 0 := by omega
            have pa1 : ¬ (j : Int) ≤ (a : Int) := by omega
            have pa2 : (a : Int) < (j : Int) := by omega
            clear hfi hrow hcel5 hae had hnm hs2 hcb hgd hdl hcj hAm
            go_wp2_with fail
            refine (HAm.out _).mono ?_
            rintro e W5 ⟨rfl, rfl⟩
            go_wp2_with fail
            go_roundw
            case rel => exact ⟨q + 1, by omega, by go_num, HSet, HRow2⟩
            case measure => simp [RowKit.intOf]; omega
          obtain rfl : q = R.length := by omega
          have pq : ¬ (R.length : Int) < (R.length : Int) := by omega
          have HF5 : Hid (FI w wr w.heap.size sb j l (fun i => dstA l i < ((t + 1 : Nat) : Int))) := Lib.hid (hfi.out.iff (fun i hi => by
            rw [List.take_length, ← HR.out, forL_mem]
            constructor
            · intro h
              by_cases h2 : dstA l i < (t : Int)
              · exact .inl h2
              · exact .inr ⟨by omega, i, hi, rfl, by omega⟩
            · rintro (h | ⟨h, _⟩) <;> omega))
          clear hfi hrow
          go_wp2_with fail
          go_roundw
          case rel => exact ⟨t + 1, by omega, by go_num, HF5⟩
          case measure => simp [RowKit.intOf]; omega
      obtain rfl : t = 12 := by omega
      have pt : ¬ ((12 : Nat) : Int) < 12 := by omega
      have HF5 : Hid (FI w wr w.heap.size sb j l (fun _ => True)) := Lib.hid (hfi.out.iff (fun i hi => by
        show True ↔ dstA l i < ((12 : Nat) : Int)
        rw [HLd.out i hi]
        have := amongV_lt (tos.getD i 0) 12 (by omega)
        exact ⟨fun _ => by omega, fun _ => trivial⟩))
      clear hfi
      go_wp2_with fail
      go_loopw [87] (fun iv wx => ∃ i : Nat, i ≤ j ∧ iv = .int .i64 (i : Int) ∧ Hid (FI w wx w.heap.size sb j l (fun _ => True))) (fun iv _ => j - (RowKit.intOf iv).toNat)
      case atStart => exact ⟨0, by omega, rfl, HF5⟩
      case round =>
        obtain ⟨i, hi, rfl, hfi⟩ := hrel
        clear HF5
        by_cases hil : i < j
        case pos =>
          have pi : (i : Int) < (j : Int) := by omega
          have s0 := (hfi.out.seen.cell hil).1 trivial
          go_wp2_with fail
          go_roundw
          case rel => exact ⟨i + 1, by omega, by go_num, hfi⟩
          case measure => simp [RowKit.intOf]; omega
        obtain rfl : i = j := by omega
        have pi : ¬ (i : Int) < (i : Int) := by omega
        have hfr := ns_for hfi.out.ns 100
        rw [HLen.out] at hfr
        have hR : forL l 100 i = [] := by
          refine List.eq_nil_iff_forall_not_mem.2 (fun x hx => ?_)
          obtain ⟨a, haj, -, had⟩ := forL_mem.1 hx
          rw [HLd.out a haj] at had
          have := amongV_lt (tos.getD a 0) 12 (by omega)
          omega
        rw [hR] at hfr
        have HFr := Lib.hid hfr
        have HB := Lib.hid hfi.out.ns.bel
        clear hfr hR hfi
        go_wp2_with fail
        refine HFr.out.mono ?_
        rintro e W4 ⟨v4, rfl, hrow, hb4⟩
        obtain ⟨A3, c3, rfl, -⟩ := row_form hrow
        have HB4 := Lib.hid (HB.out.trans (hb4.mono HB.out.size))
        clear hrow hb4 HFr
        go_wp2_with fail
        go_ret
        exact ⟨rfl, HB4.out⟩

end Nt
end Go.Proofs.Ytkpcfakfkcghdaa
