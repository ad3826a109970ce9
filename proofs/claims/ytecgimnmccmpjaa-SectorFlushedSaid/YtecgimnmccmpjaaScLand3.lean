/- What the landed device does at Write and at Wipe; contracts; no condition but the range. -/
import Derived.Test.YtecgimnmccmpjaaScLand2
namespace Go.Proofs.Ytecgimnmccmpjaa
namespace Sc
open Go.RowKit Bk

attribute [local go_sem ↓] Go.wp_at_zero Go.wp_at_succ
attribute [local go_sem] floatUpon pick

/-- 'm[k] = v' at the operation, for the walk -/
theorem wpList_mapSec (w : World) {ops : Array Oper} {rest : List Oper} {o : Oper} {a : Act} {Q : Exit → Act → World → Prop}
    (hg : o.guard = none) (m x v : Operand) (hop : o.op = Op.mapUpdate 55 m x v) (b : Nat) (new : List ByteArray) (hm : a.eval m = .map (some b)) (hM : SecMap w b new) (hn : new.length < maxLen)
    (i : Nat) (hi : i < new.length) (t : ByteArray) (ht : t.size = 64) (hx : a.eval x = .int .i64 (i : Int)) (hv : a.eval v = secV t)
    (hK : ∀ w', SecMap w' b (new.set i t) → w.grownBy w' (some b) → w'.heap.size = w.heap.size → wpList Try.prog ops Q rest (a.put o.dst undef) w') :
    wpList Try.prog ops Q (o :: rest) a w := by
  refine wpList_plain hg fun K' hK' => ?_
  obtain ⟨w', hrun, r1, r2, r3⟩ := hM.store hn hi ht
  unfold Oper.wp
  simp [execOp, hop, hm, hx, hv, hrun, Result.andThen]
  exact hK' _ _ (hK w' r1 r2 r3)

/-- a text of sixty-four bytes is copied into a new array -/
theorem copy_sec (w : World) (ty : TypeId) {t : ByteArray} (ht : t.size = 64) (Z : List Value) (hz : Z.length = 64) :
    (Builtin.copy_ #[62, 9] ty #[.slice (some ⟨w.heap.size, 0, none⟩) 64 64, .string t]).run Try.prog (w.alloc (.cells Z.toArray 64)) =
      .ok (goInt 64) (w.alloc (.cells (secC t).toArray 64)) := by
  obtain ⟨i0, hi, hz0, hz1, hz2⟩ := info_parts Bk.Try.infoU8
  have hinfo : (Try.prog.info? 5).map (·.size) = some 1 := by rw [hi]; simp [hz1]
  have h := Lib.run_copy_row_string (P := Try.prog) (w.alloc (.cells Z.toArray 64)) 62 9 ty 5 w.heap.size 0 64 64 t Z.toArray 64 Try.underlying62 hinfo (heap_alloc_new w _) (by omega) (by rw [List.size_toArray, hz]; omega)
  rw [h, ht, List.take_zero, List.nil_append, Nat.zero_add, List.drop_of_length_le (by rw [Array.length_toList, List.size_toArray, hz]; exact Nat.le_refl _), List.append_nil, World.setRow_alloc_new]
  rfl

section
variable {w w' : World} {g a b : Nat} {D : Dev}

/-- what holds within the last region of Write -/
structure WrEnv (w W : World) (g a b vb : Nat) (D : Dev) (t : ByteArray) : Prop where
  d : LAt W g a b D
  c : Cel W vb 64 (secC t)
  f : Fr (LFoot g a b) (LFoot g a b) w W

set_option maxRecDepth 20000 in
set_option maxHeartbeats 2000000 in
theorem lwrite_any (h : LAt w g a b D) (hok : DevOk D) (i : Int) (hi : -9223372036854775808 ≤ i ∧ i ≤ 9223372036854775807) (t : ByteArray) :
    Calls Try.prog 15 #[.pointer (some ⟨g, 0, none⟩), .int .i64 i, .string t] w fun e w' => e = .returned (.int .i64 (wrD D i t).2) ∧ LAt w' g a b (wrD D i t).1 ∧ Fr (LFoot g a b) (LFoot g a b) w w' := by
  have HFd := Lib.hid (lfind_any h hok i)
  have HBn := Lib.hid (lburn_any h hok)
  have H := Lib.hid h
  by_cases hr : fdV D i = 0
  case neg =>
    have E := Lib.hid (show wrD D i t = (D, fdV D i) from by unfold wrD; rw [fd_rd, if_pos hr])
    have q0 : (fdV D i != 0) = true := by simpa using hr
    generalize fdV D i = z at HFd E q0
    clear h hok hr
    go_enter Try.func15, Try.ntmps15
    go_wp2_with fail
    refine HFd.out.mono ?_
    rintro e w1 ⟨rfl, rfl⟩
    go_wp2_with fail
    go_ret
    exact ⟨by rw [E.out]; rfl, by rw [E.out]; exact H.out, Fr.refl _ _⟩
  have hii : D.down = false ∧ 0 ≤ i ∧ i < (D.on.length : Int) := by
    unfold fdV at hr
    split at hr
    · cases hr
    split at hr
    · cases hr
    next h1 h2 => exact ⟨by simpa using h1, by omega, by omega⟩
  obtain ⟨hd, hi0, hi1⟩ := hii
  by_cases hz : t.size = 64
  case neg =>
    have E := Lib.hid (show wrD D i t = (D, 3) from by unfold wrD; rw [fd_rd, if_neg (by simpa using hr), if_pos hz])
    have pz : ((t.size : Int) != 64) = true := by simp; omega
    rw [hr] at HFd
    clear h hok hr hz
    go_enter Try.func15, Try.ntmps15
    go_wp2_with fail
    refine HFd.out.mono ?_
    rintro e w1 ⟨rfl, rfl⟩
    go_wp2_with fail
    go_ret
    exact ⟨by rw [E.out]; rfl, by rw [E.out]; exact H.out, Fr.refl _ _⟩
  have pz : (t.size : Int) = 64 := by omega
  have ew : wrD D i t = if (burn D).2 = true then ((burn D).1, 90) else (⟨D.on, D.new.set i.toNat t, (burn D).1.left, (burn D).1.down⟩, 0) := by
    unfold wrD; rw [fd_rd, if_neg (by simpa using hr), if_neg (by simpa using hz)]
  rw [hr] at HFd
  obtain ⟨b1, b2, b3⟩ := burn_parts D
  obtain ⟨j, rfl⟩ : ∃ j : Nat, i = (j : Int) := ⟨i.toNat, by omega⟩
  rw [Int.toNat_natCast] at ew
  have hlen := hok.len
  have hmx := hok.max
  generalize burn D = Q at HBn ew b1 b2
  obtain ⟨D1, bb⟩ := Q
  simp only at HBn ew b1 b2
  cases bb with
  | true =>
    have E := Lib.hid (show wrD D (j : Int) t = (D1, 90) from by rw [ew, if_pos rfl])
    clear h hok hr hz ew
    go_enter Try.func15, Try.ntmps15
    go_wp2_with fail
    refine HFd.out.mono ?_
    rintro e w1 ⟨rfl, rfl⟩
    go_wp2_with fail
    refine HBn.out.mono ?_
    rintro e w2 ⟨rfl, hb⟩
    have HB := Lib.hid hb
    clear hb
    go_wp2_with fail
    go_ret
    exact ⟨by rw [E.out]; rfl, by rw [E.out]; exact HB.out.1, HB.out.2⟩
  | false =>
    have E := Lib.hid (show wrD D (j : Int) t = (⟨D.on, D.new.set j t, D1.left, D1.down⟩, 0) from by rw [ew, if_neg (by simp)])
    have hj : j < D1.new.length := by rw [b2, hlen]; omega
    have hm : D1.new.length < maxLen := by rw [b2, hlen]; unfold maxLen; omega
    have HBs := Lib.hid (And.intro b1 (And.intro b2 (And.intro hj (And.intro hm hz))))
    have hzs := zero_sec
    obtain ⟨Z, hZ⟩ : ∃ Z, Z = secC zero64 := ⟨_, rfl⟩
    have hZl : Z.length = 64 := by rw [hZ, secC_len]; rfl
    unfold secV at hzs
    rw [← hZ] at hzs
    have HCp := Lib.hid (fun W ty => copy_sec W ty hz Z hZl)
    clear h hok hr hz ew b1 b2 b3 hlen hmx hj hm hZ
    go_enter Try.func15, Try.ntmps15
    go_wp2_with fail
    refine HFd.out.mono ?_
    rintro e w1 ⟨rfl, rfl⟩
    go_wp2_with fail
    refine HBn.out.mono ?_
    rintro e w2 ⟨rfl, hb⟩
    have HB := Lib.hid hb
    clear hb
    have hcp := HCp.out w2
    have HE := Lib.hid (show WrEnv w1 (w2.alloc (.cells (secC t).toArray 64)) g a b w2.heap.size D1 t from
      ⟨HB.out.1.step ((Below.refl _ w2).alloc (Nat.le_refl _) _), heap_alloc_new w2 _, HB.out.2.below ((Below.refl _ w2).alloc (Nat.le_refl _) _)⟩)
    go_upto_region 10 with fail
    generalize w2.alloc (.cells (secC t).toArray 64) = W1 at HE ⊢
    generalize w2.heap.size = vb at HE ⊢
    clear hcp HCp
    refine wp_region_said 6 [23, 24, 25, 26, 27, 28]
      [.is (.pointer (some ⟨g, 0, none⟩)), .is (.pointer (some ⟨g, 0, none⟩)), .is (.pointer (some ⟨g, 1, none⟩)), .is (.map (some b)), .is (.int .i64 (j : Int)), .is (secV t)]
      (fun W => WrEnv w1 W g a b vb D1 t) (by kernel_rfl) (by kernel_rfl) (by kernel_rfl) (by kernel_rfl) (by kernel_rfl) (fun W W' h hb => ⟨h.d.step hb, h.c.below hb, h.f.below hb⟩) HE.out ?steps ?last
    case steps =>
      simp only [List.take_succ_cons, List.take_zero]
      refine ⟨?_, ?_, ?_, ?_, ?_, ?_, trivial⟩
      all_goals
        intro vs W ρ hρ hc hf hg hI hH hd R' hR
        have z1 := hI.d.cel.cell (i := 1) rfl
        have hld := sec_own hI.c HBs.out.2.2.2.2
        have HR := Lib.hid hR
        simp [depsOf, Region.binds, sayAt, Say.holds] at hd
        clear hR hI
      case refine_6 =>
        have e0 : ρ (.tmp 8) = .pointer (some ⟨vb, 0, none⟩) := by rw [hρ]; simp [pick]; rfl
        rw [if_pos (by simp [Region.wanted])]
        unfold execOp
        simp only [Sem.run_bind, Sem.run_pure, Result.andThen_ok, e0, hld, floatUpon]
        exact HR.out _ _ (by simp [sayAt, Say.holds]) (Below.refl _ _) (by simp [sayAt, Say.isBlk])
      all_goals
        clear hld
        go_simp
        first
          | exact HR.out _ _ (by simp [sayAt, Say.holds]) (Below.refl _ _) (by simp [sayAt, Say.isBlk])
          | trace_state
    case last =>
      intro vs W hI hb hg hd
      have e3 := hg 3 (by omega)
      have e4 := hg 4 (by omega)
      have e5 := hg 5 (by omega)
      simp only [sayAt, Say.holds, List.getD_cons_succ, List.getD_cons_zero] at e3 e4 e5
      simp only [List.take_succ_cons, List.take_zero, List.drop_succ_cons, List.drop_zero, putAll, Act.put, List.setIfInBounds_toArray, List.set_cons_succ, List.set_cons_zero, Nat.zero_add, Nat.reduceAdd]
      rw [e3, e4, e5]
      refine wpList_mapSec W rfl (.tmp 26) (.tmp 27) (.tmp 28) rfl b D1.new rfl hI.d.mp HBs.out.2.2.2.1 j HBs.out.2.2.1 t HBs.out.2.2.2.2 rfl rfl ?_
      intro W2 hm2 hg2 _
      have HA := Lib.hid (And.intro (hI.d.setMap hm2 hg2) (hI.f.grown (.inl lfoot_b) hg2))
      clear hm2 hg2 hI hg hd e3 e4 e5 hb
      go_wp2_with fail
      go_ret
      refine ⟨by rw [E.out]; rfl, ?_, HA.out.2⟩
      rw [E.out]
      have := HA.out.1
      rw [HBs.out.1, HBs.out.2.1] at this
      exact this

/-- 'clear(d.sectors)' -/
theorem clear_row (h : LAt w g a b D) (h64 : ∀ s ∈ D.on, s.size = 64) (hp : 1 ≤ D.on.length) (ty : TypeId) :
    (Builtin.clear_ #[54] ty #[.slice (some ⟨a, 0, none⟩) D.on.length D.on.length]).run Try.prog w = .ok (.tuple #[]) (w.setRow a (onC (List.replicate D.on.length zero64)).toArray) := by
  have hl := onC_len h64
  have hzl : (onC (List.replicate D.on.length zero64)).length = D.on.length * 64 := by rw [onC_len (fun s hs => by rw [List.eq_of_mem_replicate hs]; exact zero64_size), List.length_replicate]
  have hst := run_storeCells_at Try.prog a 0 64 (onC (List.replicate D.on.length zero64)) 0 _ w h.ro (by rw [List.size_toArray, hl, hzl]; omega) (by
    rw [zeros_row]
    intro v hv
    rw [List.eq_of_mem_replicate hv]; rfl)
  rw [List.toList_toArray, Nat.add_zero, Nat.zero_add, List.take_zero, List.nil_append, List.drop_of_length_le (by rw [hl, hzl]; exact Nat.le_refl _), List.append_nil] at hst
  obtain ⟨Z, hZ⟩ : ∃ Z : Array Value, Z = (List.replicate 64 (Value.int .u8 0)).toArray := ⟨_, rfl⟩
  have hz : (zeroValue 64).run Try.prog w = .ok (.agg Z) w := by
    have := zero_sec w
    unfold secV at this
    rw [zero_cells, ← hZ] at this
    exact this
  have hzc : Builtin.zeroCells (Value.cells (.agg Z)) D.on.length = (onC (List.replicate D.on.length zero64)).toArray := by
    rw [← made_zeros, ← hZ]
    show Builtin.zeroCells Z _ = _
    unfold Builtin.zeroCells madeCells
    rw [show Z.size = 64 by rw [hZ, List.size_toArray, List.length_replicate]]
  generalize onC (List.replicate D.on.length zero64) = C at hst hzc
  obtain ⟨n, hn⟩ : ∃ n, D.on.length = n + 1 := ⟨D.on.length - 1, by omega⟩
  rw [hn] at hzc ⊢
  simp [Builtin.clear_, run_underlying Try.underlying54, hz, hzc, hst]

set_option maxRecDepth 20000 in
set_option maxHeartbeats 2000000 in
theorem lwipe_any (h : LAt w g a b D) (hok : DevOk D) :
    Calls Try.prog 21 #[.pointer (some ⟨g, 0, none⟩)] w fun e w' => e = .returned (.tuple #[]) ∧ LAt w' g a b (wiD D) ∧ Fr (LFoot g a b) (LFoot g a b) w w' := by
  have k0 := h.cel.cell (i := 0) rfl
  have hcl := clear_row h hok.on64 hok.pos
  have hA : LAt (w.setRow a (onC (List.replicate D.on.length zero64)).toArray) g a b ⟨List.replicate D.on.length zero64, D.new, D.left, D.down⟩ := h.setRow (by simp)
  have hF := (Fr.refl (LFoot g a b) w).row (.inl lfoot_a) (onC (List.replicate D.on.length zero64)).toArray
  generalize w.setRow a (onC (List.replicate D.on.length zero64)).toArray = W at hcl hA hF
  have HR := Lib.hid (lrestart_any hA D.on.length)
  have HF := Lib.hid hF
  have E := Lib.hid (show calm ⟨List.replicate D.on.length zero64, D.new, D.left, D.down⟩ D.on.length = wiD D from by
    unfold calm wiD
    rw [upd_all, ← hok.len, upd_all])
  clear h hok hA hF
  go_enter Try.func21, Try.ntmps21
  go_wp2_with fail
  refine HR.out.mono ?_
  rintro e w2 ⟨rfl, hb⟩
  have HB := Lib.hid hb
  clear hb
  go_wp2_with fail
  refine bodyPost_end (results_none rfl _ _ _) rfl ?_
  refine ⟨rfl, ?_, HF.out.trans HB.out.2⟩
  rw [← E.out]
  exact HB.out.1

end

end Sc
end Go.Proofs.Ytecgimnmccmpjaa
