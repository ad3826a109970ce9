/- What the landed device is when it is made, and what it answers to Read; contracts; no condition but the range. -/
import Derived.Test.YtecgimnmccmpjaaScLand1
import Derived.Carry
namespace Go.Proofs.Ytecgimnmccmpjaa
namespace Sc
open Go.RowKit Bk

attribute [local go_sem ↓] Go.wp_at_zero Go.wp_at_succ
attribute [local go_sem] floatUpon pick

/-- a landed device, and the blocks that it owns -/
def Rep (W : World) (F : Nat → Prop) (g : Nat) (D : Dev) : Prop := ∃ a b, F = LFoot g a b ∧ LAt W g a b D ∧ DevOk D

theorem cut_tmod (p : Int) : (p.tmod 64 + 64).tmod 64 = (((p % 64).toNat : Nat) : Int) ∧ -64 < p.tmod 64 ∧ p.tmod 64 < 64 := by
  have := among_eq p 64 (by omega)
  unfold amongV at this
  exact this

set_option maxHeartbeats 1000000 in
theorem reached_any (p : Int) (w : World) : Calls Try.prog 35 #[.int .i64 p] w fun e w' => e = .returned (.int .i64 (cutN p : Int)) ∧ w' = w := by
  by_cases h0 : p = 0
  · subst h0
    go_enter Try.func35, Try.ntmps35
    go_wp2
    go_ret
    exact ⟨rfl, rfl⟩
  by_cases h1 : p = 1
  · subst h1
    go_enter Try.func35, Try.ntmps35
    go_wp2
    go_ret
    exact ⟨rfl, rfl⟩
  obtain ⟨e1, e2, e3⟩ := cut_tmod p
  have q0 : (p == 0) = false := by simpa using h0
  have q1 : (p == 1) = false := by simpa using h1
  have e6 : wrap64 (p.tmod 64 + 64) = p.tmod 64 + 64 := IntWalk.wrap64_in _ ⟨by omega, by omega⟩
  have E : Hid ((wrap64 (p.tmod 64 + 64)).tmod 64 = (cutN p : Int)) := by
    show _ = _
    rw [e6, e1]
    unfold cutN
    rw [if_neg h0, if_neg h1]
  clear e1 e2 e3 e6 h0 h1
  go_enter Try.func35, Try.ntmps35
  go_wp2
  go_ret
  exact ⟨ret_int E.out, rfl⟩

theorem made_zeros (n : Nat) : madeCells (List.replicate 64 (Value.int .u8 0)).toArray (n * 64) = (onC (List.replicate n zero64)).toArray := by
  rw [zeros_row]
  have hf : ∀ x : Nat, (List.replicate 64 (Value.int .u8 0)).toArray[x % (List.replicate 64 (Value.int .u8 0)).toArray.size]! = Value.int .u8 0 := fun x => by
    have h3 : x % 64 < 64 := Nat.mod_lt _ (by omega)
    rw [List.size_toArray, List.length_replicate, getElem!_pos _ _ (by rw [List.size_toArray, List.length_replicate]; exact h3), List.getElem_toArray, List.getElem_replicate]
  have e : madeCells (List.replicate 64 (Value.int .u8 0)).toArray (n * 64) = (Array.range (n * 64)).map (fun _ => Value.int .u8 0) := by
    unfold madeCells
    exact congrArg (fun f => Array.map f _) (funext hf)
  rw [e]
  apply Array.toList_inj.1
  rw [Array.toList_map, Array.toList_range, List.map_const', List.length_range]

set_option maxRecDepth 20000 in
theorem make_sec (W : World) (m : Nat) (hm : m ≤ 2048) : (Instr.makeSlice 54 (.int .i64 (m : Int)) (.int .i64 (m : Int))).run Try.prog W = .ok (.slice (some ⟨W.heap.size, 0, none⟩) m m) (W.alloc (.cells (onC (List.replicate m zero64)).toArray 64)) := by
  obtain ⟨i0, hi, hz0, hz1, hz2⟩ := info_parts Try.infoSec
  have h := run_make (P := Try.prog) W 54 64 i0 _ Try.underlying54 hi hz0 .i64 .i64 m m (by omega) (by omega) (by rw [hz2]; omega) (by omega)
  rw [h, hz1, Int.toNat_natCast]
  congr 3
  exact made_zeros m

/-- what New answers -/
def NewAns (n : Int) (w : World) : Ending → World → Prop := fun e w' =>
  (1 ≤ n ∧ n ≤ 2048 ∧ ∃ (F : Nat → Prop) (g : Nat), e = .returned (.tuple #[.pointer (some ⟨g, 0, none⟩), .int .i64 0]) ∧ Rep w' F g (new0 n.toNat) ∧ (∀ k, F k → w.heap.size ≤ k) ∧ Below w.heap.size w w') ∨
  (¬ (1 ≤ n ∧ n ≤ 2048) ∧ e = .returned (.tuple #[.pointer none, .int .i64 1]) ∧ Below w.heap.size w w')

set_option maxRecDepth 20000 in
set_option maxHeartbeats 2000000 in
theorem lnew_any (n : Int) (w : World) : Calls Try.prog 7 #[.int .i64 n] w (NewAns n w) := by
  by_cases h0 : n < 1
  · have HMk : Hid (NewAns n w (.returned (.tuple #[.pointer none, .int .i64 1])) w) := Lib.hid (.inr ⟨by omega, rfl, Below.refl _ _⟩)
    go_enter Try.func7, Try.ntmps7
    go_wp2_with fail
    go_ret2
    exact HMk.out
  by_cases h1 : 2048 < n
  · have HMk : Hid (NewAns n w (.returned (.tuple #[.pointer none, .int .i64 1])) w) := Lib.hid (.inr ⟨by omega, rfl, Below.refl _ _⟩)
    go_enter Try.func7, Try.ntmps7
    go_wp2_with fail
    go_ret2
    exact HMk.out
  obtain ⟨m, rfl⟩ : ∃ m : Nat, n = (m : Int) := ⟨n.toNat, by omega⟩
  have hmk := fun W => make_sec W m (by omega)
  have hmm := @run_makeMap Try.prog
  obtain ⟨M, hM⟩ : ∃ M, M = (onC (List.replicate m zero64)).toArray := ⟨_, rfl⟩
  rw [← hM] at hmk
  obtain ⟨G, hG⟩ : ∃ G : Array Value, G = #[.slice (some ⟨w.heap.size, 0, none⟩) m m, .map (some (w.heap.size + 1)), .int .i64 0, .bool false] := ⟨_, rfl⟩
  have HMk : Hid (NewAns (m : Int) w (.returned (.tuple #[.pointer (some ⟨w.heap.size + 2, 0, none⟩), .int .i64 0])) (((w.alloc (.cells M 64)).alloc (.map #[] 0)).alloc (.cells G 57))) := by
    refine Lib.hid (.inl ⟨by omega, by omega, LFoot (w.heap.size + 2) w.heap.size (w.heap.size + 1), w.heap.size + 2, rfl, ⟨_, _, rfl, ?_, ?_⟩, ?_, ?_⟩)
    · obtain ⟨b1, b2, b3, b4⟩ := blk3 w (.cells M 64) (.map #[] 0) (.cells G 57)
      rw [Int.toNat_natCast]
      refine ⟨?_, ?_, ?_, by omega, by omega, by omega⟩
      · show _ = _
        rw [b4, hG]
        simp [new0]
      · show _ = _
        rw [b2, hM]; rfl
      · have h1 := secMap_made (w.alloc (.cells M 64)) m
        have h2 : (w.alloc (.cells M 64)).heap.size = w.heap.size + 1 := (blk1 w _).1
        rw [h2] at h1
        refine h1.kept ?_
        rw [b3]
        have := (blk2 w (.cells M 64) (.map #[] 0)).2.2
        rw [this]
    · rw [Int.toNat_natCast]; exact new0_ok (by omega) (by omega)
    · intro k hk
      rcases hk with rfl | rfl | rfl <;> omega
    · have h1 := (Below.refl w.heap.size w).alloc (Nat.le_refl _) (.cells M 64)
      have h2 := h1.alloc h1.size (.map #[] 0)
      exact h2.alloc h2.size _
  rw [hG] at HMk
  have p1 : (1 : Int) ≤ (m : Int) := by omega
  have p2 : (m : Int) ≤ 2048 := by omega
  clear hM hG h0 h1
  go_enter Try.func7, Try.ntmps7
  go_wp2_with fail
  go_ret2
  exact HMk.out

/-- the array's bytes as a text -/
theorem back_sec {w : World} {g : Nat} {s : ByteArray} (h : Cel w g 64 (secC s)) (hs : s.size = 64) :
    (convert 62 9 (.slice (some ⟨g, 0, none⟩) 64 64)).run Try.prog w = .ok (.string s) w := by
  have hl : s.data.toList.length = 64 := hs
  have := run_convert_bytes_back (P := Try.prog) w 62 9 5 ⟨g, 0, none⟩ 64 s.data.toList Try.underlying62 Try.underlying5 Try.underlying9 (fun j hj => by
    rw [addr_head]
    refine h.cell ?_
    unfold secC Lib.byteCells
    rw [List.getElem?_map, List.getElem?_eq_getElem hj]; rfl)
  rwa [hl] at this

theorem put_new (w : World) (Z : Array Value) (hz : Z.size = 64) {t : ByteArray} (ht : t.size = 64) :
    (Instr.storeAt 64 (.pointer (some ⟨w.heap.size, 0, none⟩)) (secV t)).run Try.prog (w.alloc (.cells Z 64)) = .ok () (w.alloc (.cells (secC t).toArray 64)) := by
  have hl : (secC t).toArray.size = 64 := by rw [List.size_toArray, secC_len, ht]
  exact run_storeAt_new w 64 Z _ (by rw [size_sec, hl]) (by rw [hz, hl]) (all_oneCell_toArray (secC_one t))

/-- the same at the cells, as the walk leaves them -/
theorem put_cells (w : World) (Z : List Value) (hz : Z.length = 64) {t : ByteArray} (ht : t.size = 64) :
    (storeCells ⟨w.heap.size, 0, none⟩ (secC t)).run Try.prog (w.alloc (.cells Z.toArray 64)) = .ok () (w.alloc (.cells (secC t).toArray 64)) := by
  have hl : (secC t).toArray.size = 64 := by rw [List.size_toArray, secC_len, ht]
  exact run_storeCells_new w 64 Z.toArray (secC t).toArray (by rw [size_sec, hl]) (by rw [List.size_toArray, hz, hl]) (all_oneCell_toArray (secC_one t))

section
variable {w w' : World} {g a b : Nat} {D : Dev}

set_option maxRecDepth 20000 in
set_option maxHeartbeats 2000000 in
theorem lread_any (h : LAt w g a b D) (hok : DevOk D) (i : Int) (hi : -9223372036854775808 ≤ i ∧ i ≤ 9223372036854775807) :
    Calls Try.prog 18 #[.pointer (some ⟨g, 0, none⟩), .int .i64 i] w fun e w' => e = .returned (.tuple #[.string (rdV D i).1, .int .i64 (rdV D i).2]) ∧ Below w.heap.size w w' := by
  have HFd := Lib.hid (lfind_any h hok i)
  by_cases hr : fdV D i = 0
  case neg =>
    have E := Lib.hid (show rdV D i = (nil0, fdV D i) from by
      rw [← fd_rd] at hr ⊢
      unfold rdV at hr ⊢
      split
      · rfl
      split
      · rfl
      next h1 h2 => rw [if_neg h1, if_neg h2] at hr; exact absurd rfl hr)
    have q0 : (fdV D i != 0) = true := by simpa using hr
    generalize fdV D i = z at HFd E q0
    clear h hok hr
    go_enter Try.func18, Try.ntmps18
    go_wp2_with fail
    refine HFd.out.mono ?_
    rintro e w1 ⟨rfl, rfl⟩
    go_wp2_with fail
    go_ret2
    exact ⟨by rw [E.out]; rfl, Below.refl _ _⟩
  have hii : D.down = false ∧ 0 ≤ i ∧ i < (D.on.length : Int) := by
    unfold fdV at hr
    split at hr
    · cases hr
    split at hr
    · cases hr
    next h1 h2 => exact ⟨by simpa using h1, by omega, by omega⟩
  obtain ⟨hd, hi0, hi1⟩ := hii
  obtain ⟨j, rfl⟩ : ∃ j : Nat, i = (j : Int) := ⟨i.toNat, by omega⟩
  have hj : j < D.on.length := by omega
  have hj2 : j < D.new.length := by rw [hok.len]; omega
  have k0 := h.cel.cell (i := 0) rfl
  have k1 := h.cel.cell (i := 1) rfl
  have hlk := h.mp.look (x := (j : Int)) hi.1 hi.2
  have hrd : rdV D (j : Int) = (if D.new.getD j nil0 = nil0 then D.on.getD j nil0 else D.new.getD j nil0, 0) := by
    unfold rdV
    rw [if_neg (by simp [hd]), if_neg (by omega), Int.toNat_natCast]
  rw [hr] at HFd
  rw [slot_nat hj2] at hlk
  have hn64 := hok.new64 _ (getD_mem hj2)
  have hz := zero_sec
  obtain ⟨Z, hZ⟩ : ∃ Z, Z = secC zero64 := ⟨_, rfl⟩
  have hZs : Z.length = 64 := by rw [hZ, secC_len]; rfl
  unfold secV at hz
  rw [← hZ] at hz
  have HB : Hid (∀ c, Below w.heap.size w (w.alloc (.cells c 64))) := Lib.hid (fun c => (Below.refl _ w).alloc (Nat.le_refl _) _)
  by_cases hn : D.new.getD j nil0 = nil0
  · have hld : (w.alloc (.cells (secC zero64).toArray 64)).rangeAt a (j * 64) (secC D.on[j]) :=
      sec_range (h.step (HB.out _)).ro hok.on64 hj
    have ho64 := hok.on64 _ (List.getElem_mem hj)
    rw [if_pos hn] at hlk hrd
    rw [getD_at hj] at hrd
    simp only [Option.getD_none, Option.isSome_none] at hlk
    unfold secV at hlk
    generalize D.on[j] = o at hld hrd ho64
    have hs1 := put_cells w Z hZs zero64_size
    have hs2 := put_cells w (secC zero64) (by rw [← hZ]; exact hZs) ho64
    have hcv := back_sec (w := w.alloc (.cells (secC o).toArray 64)) (heap_alloc_new w _) ho64
    have hc1 : (secC o).length = 64 := by rw [secC_len, ho64]
    have HL := Lib.hid (show (Try.prog.info? 64).map (·.size) = some (secC o).length from by rw [size_sec, hc1])
    have E := Lib.hid hrd
    generalize secC o = C1 at hld hs2 hcv hc1 HL
    have Hld := Lib.hid hld
    clear hld
    rw [← hZ] at Hld hs1 hs2 hlk
    have pj : (j : Int) < (D.on.length : Int) := by omega
    have hgl := h.cel.lt
    clear h hok hr hrd hn hn64 hZ hi ho64
    go_enter Try.func18, Try.ntmps18
    go_wp2_with fail
    refine HFd.out.mono ?_
    rintro e w1 ⟨rfl, rfl⟩
    go_wp2_with (refine wpList_load_mid rfl 64 _ rfl a (j * 64) rfl C1 _ Hld.out Try.underlying64 rfl HL.out ?_)
    go_ret2
    exact ⟨by rw [E.out]; rfl, HB.out _⟩
  · rw [if_neg hn] at hlk hrd
    simp only [Option.getD_some, Option.isSome_some] at hlk
    have hn64' := hn64.resolve_left hn
    generalize D.new.getD j nil0 = o at hlk hrd hn64'
    unfold secV at hlk
    have hs1 := put_cells w Z hZs hn64'
    have hcv := back_sec (w := w.alloc (.cells (secC o).toArray 64)) (heap_alloc_new w _) hn64'
    have hc1 : (secC o).length = 64 := by rw [secC_len, hn64']
    have E := Lib.hid hrd
    generalize secC o = C1 at hlk hs1 hcv hc1
    clear h hok hr hrd hn hn64 hZ hi hn64'
    go_enter Try.func18, Try.ntmps18
    go_wp2_with fail
    refine HFd.out.mono ?_
    rintro e w1 ⟨rfl, rfl⟩
    go_wp2_with fail
    go_ret2
    exact ⟨by rw [E.out]; rfl, HB.out _⟩

end

end Sc
end Go.Proofs.Ytecgimnmccmpjaa
