/- Parts of the proof, joined: MpTurn, MpTurnW; their conditions stand with each. -/
import Derived.Test.YtemcjnbgcecinaaA12
import Derived.Test.YtemcjnbgcecinaaA20

/- One byte turned in one of more than k shards is seen: the numbers; no condition but that the shards are an object's. -/
namespace Go.Proofs.Ytemcjnbgcecinaa
open Go.RowKit

/-! ### a text with a byte turned -/

def turnL (a : ByteArray) (p : Nat) : List UInt8 := a.data.toList.set p (byteAt a p ^^^ 1)

def turnS (a : ByteArray) (p : Nat) : ByteArray := ⟨(turnL a p).toArray⟩

theorem turnS_size (a : ByteArray) (p : Nat) : (turnS a p).size = a.size := by
  show (turnL a p).toArray.size = a.data.size
  simp [turnL]

theorem turnS_at (a : ByteArray) (p : Nat) (h : p < a.size) : byteAt (turnS a p) p = byteAt a p ^^^ 1 := by
  have h' : p < a.data.size := h
  show ((turnL a p).toArray[p]?).getD 0 = _
  rw [List.getElem?_toArray]
  unfold turnL
  rw [List.getElem?_set_self (by rw [Array.length_toList]; exact h')]
  rfl

theorem turnS_other (a : ByteArray) (p q : Nat) (h : q ≠ p) : byteAt (turnS a p) q = byteAt a q := by
  show ((turnL a p).toArray[q]?).getD 0 = (a.data[q]?).getD 0
  rw [List.getElem?_toArray]
  unfold turnL
  rw [List.getElem?_set_ne (Ne.symm h), Array.getElem?_toList]

theorem xor_one_ne (x : UInt8) : x ^^^ 1 ≠ x := fun e => by
  have h : x ^^^ (x ^^^ 1) = x ^^^ x := by rw [e]
  rw [← UInt8.xor_assoc, UInt8.xor_self, UInt8.zero_xor] at h
  exact absurd h (by decide)

/-! ### a list with a shard's text changed -/

def setS (L : List (Int × ByteArray)) (i : Nat) (x : ByteArray) : List (Int × ByteArray) := L.set i (sI L i, x)

theorem setS_len (L : List (Int × ByteArray)) (i : Nat) (x : ByteArray) : (setS L i x).length = L.length := by simp [setS]

theorem setS_I (L : List (Int × ByteArray)) (i : Nat) (x : ByteArray) (t : Nat) : sI (setS L i x) t = sI L t := by
  unfold sI setS
  rw [List.getD_eq_getElem?_getD, List.getD_eq_getElem?_getD, List.getElem?_set]
  by_cases h : i = t
  · subst h
    by_cases h2 : i < L.length
    · rw [if_pos rfl, if_pos h2]
      unfold sI
      rw [List.getD_eq_getElem?_getD]; rfl
    · rw [if_pos rfl, if_neg h2, List.getElem?_eq_none (by omega)]
  · rw [if_neg h]

theorem setS_S (L : List (Int × ByteArray)) (i : Nat) (x : ByteArray) (hi : i < L.length) : sS (setS L i x) i = x := by
  unfold sS setS
  rw [List.getD_eq_getElem?_getD, List.getElem?_set_self hi]; rfl

theorem setS_So (L : List (Int × ByteArray)) (i : Nat) (x : ByteArray) (t : Nat) (h : t ≠ i) : sS (setS L i x) t = sS L t := by
  unfold sS setS
  rw [List.getD_eq_getElem?_getD, List.getD_eq_getElem?_getD, List.getElem?_set_ne (Ne.symm h)]

theorem setS_N (L : List (Int × ByteArray)) (i : Nat) (x : ByteArray) (t : Nat) : nI (setS L i x) t = nI L t := by unfold nI; rw [setS_I]

section
variable {k m : Nat} {s : ByteArray} {N : List Nat}

/-- all of more than k shards agree -/
theorem pick_agree (hk : 1 ≤ k) (hkm : k + m ≤ 255) (hs : s.size ≤ 2048) (hl : k ≤ N.length) (hr : ∀ x ∈ N, x < k + m) (hd : N.Nodup) : agrAns (k : Int) (m : Int) (pickL (allS k m s) N) = .tuple #[.bool true, .int .i64 0] := by
  obtain ⟨hck, hv⟩ := pick_ck (m := m) (s := s) hk hkm hs hl (getD_lt hr) (getD_nodup hd)
  unfold agrAns
  rw [hv, if_pos rfl, Int.toNat_natCast, Int.toNat_natCast]
  have h : agreeB k m (pickL (allS k m s) N) = true := by
    unfold agreeB
    refine decide_eq_true fun t ht => ?_
    rw [pickL_len] at ht
    rw [(obj_data hck (pick_have hl)).2, pickL_N ht, pickL_S ht]
  rw [h]

/-- shards of like size, one of which is changed, go together -/
theorem set_ck (hk : 1 ≤ k) (hkm : k + m ≤ 255) (hs : s.size ≤ 2048) (hl : k ≤ N.length) (hr : ∀ x ∈ N, x < k + m) (hd : N.Nodup) (i : Nat) (hi : i < N.length) (x : ByteArray) (hx : x.size = St.szN k s.size) :
    (CkOk k m (setS (pickL (allS k m s) N) i x) ∧ ckV (k : Int) (m : Int) (setS (pickL (allS k m s) N) i x) = (0, 0)) ∧ ∀ t, t < N.length → (sS (setS (pickL (allS k m s) N) i x) t).size = St.szN k s.size := by
  have hz : ∀ t, t < N.length → (sS (setS (pickL (allS k m s) N) i x) t).size = St.szN k s.size := fun t ht => by
    by_cases e : t = i
    · subst e; rw [setS_S _ _ _ (by rw [pickL_len]; exact hi)]; exact hx
    · rw [setS_So _ _ _ _ e, pickL_S ht]; exact allS_size hk (getD_lt hr t ht)
  refine ⟨ck_of (n := St.szN k s.size) hk hkm (by rw [setS_len, pickL_len]; exact hl) ?_ ?_ ?_ (by have := St.sz_bound1 (n := s.size) hk hs; omega), hz⟩
  · intro t ht
    rw [setS_len, pickL_len] at ht
    have := getD_lt hr t ht
    rw [setS_I, pickL_I ht]
    omega
  · intro t j ht hj e
    rw [setS_len, pickL_len] at ht
    rw [setS_I, setS_I, pickL_I ht, pickL_I (by omega)] at e
    exact getD_nodup hd t j ht hj (by omega)
  · intro t ht
    rw [setS_len, pickL_len] at ht
    exact hz t ht

/-- with a byte of one turned they do not -/
theorem turned_no (hk : 1 ≤ k) (hkm : k + m ≤ 255) (hs : s.size ≤ 2048) (hl : N.length = k + 1) (hr : ∀ x ∈ N, x < k + m) (hd : N.Nodup) (i p : Nat) (hi : i < k + 1) (hp : p < St.szN k s.size) :
    agrAns (k : Int) (m : Int) (setS (pickL (allS k m s) N) i (turnS ((allS k m s).getD (N.getD i 0) ⟨#[]⟩) p)) = .tuple #[.bool false, .int .i64 0] := by
  have hiN : i < N.length := by omega
  have hzi : ((allS k m s).getD (N.getD i 0) ⟨#[]⟩).size = St.szN k s.size := allS_size hk (getD_lt hr i hiN)
  obtain ⟨⟨hck, hv⟩, hz⟩ := set_ck hk hkm hs (by omega) hr hd i hiN (turnS ((allS k m s).getD (N.getD i 0) ⟨#[]⟩) p) (by rw [turnS_size]; exact hzi)
  unfold agrAns
  rw [hv, if_pos rfl, Int.toNat_natCast, Int.toNat_natCast]
  have h : agreeB k m (setS (pickL (allS k m s) N) i (turnS ((allS k m s).getD (N.getD i 0) ⟨#[]⟩) p)) = false := by
    unfold agreeB
    refine decide_eq_false fun hall => ?_
    rw [setS_len, pickL_len] at hall
    obtain ⟨D', hD'⟩ : ∃ D', D' = dataL k (setS (pickL (allS k m s) N) i (turnS ((allS k m s).getD (N.getD i 0) ⟨#[]⟩) p)) := ⟨_, rfl⟩
    have hA : ∀ t, t < N.length → accB (GfU.gen k) D' k (N.getD t 0) p = byteAt (sS (setS (pickL (allS k m s) N) i (turnS ((allS k m s).getD (N.getD i 0) ⟨#[]⟩) p)) t) p := fun t ht => by
      have h1 := hall t ht
      rw [setS_N, pickL_N ht] at h1
      unfold allL at h1
      rw [undL_at _ _ _ _ _ _ (getD_lt hr t ht), hz 0 (by omega), ← hD'] at h1
      rw [← h1, undS_at _ _ _ _ _ _ hp]
    have hO : ∀ t, t < N.length → accB (GfU.gen k) (St.shards k s) k (N.getD t 0) p = byteAt ((allS k m s).getD (N.getD t 0) ⟨#[]⟩) p := fun t ht => by
      rw [allS_at hk (getD_lt hr t ht), undS_at _ _ _ _ _ _ hp]
    have h1 : ∀ t, t < N.length → t ≠ i → accB (GfU.gen k) D' k (N.getD t 0) p = accB (GfU.gen k) (St.shards k s) k (N.getD t 0) p := fun t ht hne => by
      rw [hA t ht, hO t ht, setS_So _ _ _ _ hne, pickL_S ht]
    have h2 : accB (GfU.gen k) D' k (N.getD i 0) p = accB (GfU.gen k) (St.shards k s) k (N.getD i 0) p ^^^ 1 := by
      rw [hA i hiN, hO i hiN, setS_S _ _ _ (by rw [pickL_len]; exact hiN), turnS_at _ _ (by rw [hzi]; exact hp)]
    have hns := rows_not_sing (k := k) (fun a => N.getD (if a < i then a else a + 1) 0) (by omega) (fun a ha => by
      have := getD_lt hr (if a < i then a else a + 1) (by split <;> omega)
      show N.getD (if a < i then a else a + 1) 0 < 256
      omega) (fun a b ha hb e => by
      have e2 := GfU.nodup_getD hd (i := if a < i then a else a + 1) (j := if b < i then b else b + 1) (by split <;> omega) (by split <;> omega) e
      split at e2 <;> split at e2 <;> omega)
    have hv0 : ∀ c, c < k → byteAt ((St.shards k s).getD c ⟨#[]⟩) p ^^^ byteAt (D'.getD c ⟨#[]⟩) p = 0 := fun c hc => Classical.byContradiction fun hne => hns ⟨fun j => byteAt ((St.shards k s).getD j ⟨#[]⟩) p ^^^ byteAt (D'.getD j ⟨#[]⟩) p, c, hc, hne, fun a ha => by
      have ht : (if a < i then a else a + 1) < N.length := by split <;> omega
      have h3 := h1 (if a < i then a else a + 1) ht (by split <;> omega)
      have e : (GfU.sum k fun j => GfU.ml (GfU.gen k (N.getD (if a < i then a else a + 1) 0) j) (byteAt ((St.shards k s).getD j ⟨#[]⟩) p ^^^ byteAt (D'.getD j ⟨#[]⟩) p)) = accB (GfU.gen k) (St.shards k s) k (N.getD (if a < i then a else a + 1) 0) p ^^^ accB (GfU.gen k) D' k (N.getD (if a < i then a else a + 1) 0) p := by
        unfold accB
        rw [← GfU.sum_xor]
        exact GfU.sum_congr k fun j _ => GfU.ml_xor _ _ _
      show (GfU.sum k fun j => GfU.ml (GfU.gen k (N.getD (if a < i then a else a + 1) 0) j) (byteAt ((St.shards k s).getD j ⟨#[]⟩) p ^^^ byteAt (D'.getD j ⟨#[]⟩) p)) = 0
      rw [e, h3, UInt8.xor_self]⟩
    have h4 : accB (GfU.gen k) D' k (N.getD i 0) p = accB (GfU.gen k) (St.shards k s) k (N.getD i 0) p := by
      unfold accB
      refine GfU.sum_congr k fun j hj => ?_
      have h5 := hv0 j hj
      have e : byteAt (D'.getD j ⟨#[]⟩) p = byteAt ((St.shards k s).getD j ⟨#[]⟩) p := by
        have h6 : byteAt ((St.shards k s).getD j ⟨#[]⟩) p ^^^ (byteAt ((St.shards k s).getD j ⟨#[]⟩) p ^^^ byteAt (D'.getD j ⟨#[]⟩) p) = byteAt ((St.shards k s).getD j ⟨#[]⟩) p ^^^ 0 := by rw [h5]
        rw [← UInt8.xor_assoc, UInt8.xor_self, UInt8.zero_xor, UInt8.xor_zero] at h6
        exact h6
      rw [e]
    rw [h4] at h2
    exact xor_one_ne _ h2.symm
  rw [h]

end

end Go.Proofs.Ytemcjnbgcecinaa

/- The walk of the law that one byte that is turned in one of more than k shards is seen; no condition but the form's reach. -/
namespace Go.Proofs.Ytemcjnbgcecinaa
open Go.RowKit

attribute [local go_sem ↓] Go.wp_at_zero Go.wp_at_succ
attribute [local go_sem] floatUpon pick

/-- a text as bytes with a mark behind -/
theorem bytesRow_list (a : ByteArray) (cap : Nat) : ∃ rest : List Value, bytesRow a cap = (Lib.byteCells a.data.toList ++ rest).toArray := by
  refine ⟨List.replicate (cap - a.size) (.int .u8 0), ?_⟩
  apply Array.ext'
  unfold bytesRow
  rw [Array.toList_append, Array.toList_map, Array.toList_replicate]
  rfl

theorem bytes_at (a : ByteArray) (p : Nat) (rest : List Value) (h : p < a.size) : (Lib.byteCells a.data.toList ++ rest)[p]? = some (.int .u8 ((byteAt a p).toNat : Int)) := by
  have h' : p < a.data.size := h
  rw [List.getElem?_append_left (by rw [Lib.byteCells_length, Array.length_toList]; exact h')]
  unfold Lib.byteCells byteAt
  rw [List.getElem?_map, Array.getElem?_toList, Array.getElem?_eq_getElem h']; rfl

theorem bytes_set (a : ByteArray) (p : Nat) (rest : List Value) (h : p < a.size) : (Lib.byteCells a.data.toList ++ rest).set p (.int .u8 ((byteAt a p ^^^ 1).toNat : Int)) = Lib.byteCells (turnL a p) ++ rest := by
  have h' : p < a.data.size := h
  rw [List.set_append_left _ _ (by rw [Lib.byteCells_length, Array.length_toList]; exact h')]
  unfold Lib.byteCells turnL
  rw [List.map_set]

/-- a text's byte turned, and back to a text -/
theorem turn_back {w : World} {g cap : Nat} {a : ByteArray} {p : Nat} {rest : List Value} (h : CelM w g 5 (Lib.byteCells (turnL a p) ++ rest)) :
    (convert 48 9 (.slice (some ⟨g, 0, none⟩) a.size cap)).run Try.prog w = .ok (.string (turnS a p)) w := by
  have hl : (turnL a p).length = a.size := by unfold turnL; rw [List.length_set, Array.length_toList]; rfl
  have := run_convert_bytes_back (P := Try.prog) w 48 9 5 ⟨g, 0, none⟩ cap (turnL a p) Try.underlying48 Try.underlying5 Try.underlying9 (fun j hj => by
    rw [addr_head]
    refine h.cell ?_
    rw [List.getElem?_append_left (by rw [Lib.byteCells_length]; exact hj)]
    unfold Lib.byteCells
    rw [List.getElem?_map, List.getElem?_eq_getElem hj]; rfl)
  rw [hl] at this
  exact this

theorem shards_set {w : World} {lg i : Nat} {L : List (Int × ByteArray)} {x : ByteArray} (h : ShardsAt w (some ⟨lg, 0, none⟩) L) (hi : i < L.length) : ShardsAt (w.setCell ⟨lg, i * 2 + 1, none⟩ (.string x)) (some ⟨lg, 0, none⟩) (setS L i x) := fun hp => by
  rw [setS_len] at hp
  obtain ⟨ad, had, h1, h2⟩ := h hp
  obtain rfl := Option.some.inj had
  refine ⟨_, rfl, by simpa using h1, fun t ht => ?_⟩
  rw [setS_len] at ht
  obtain ⟨h3, h4⟩ := h2 t ht
  obtain ⟨_, h5⟩ := h2 i hi
  rw [addr_head] at h3 h4 h5
  rw [addr_head, addr_head, setS_I]
  have e1 : (⟨lg, i * 2 + 1, none⟩ : Addr) ≠ ⟨lg, t * 2, none⟩ := fun e => by injection e with _ e; omega
  refine ⟨(World.cell?_setCell_other _ _ _ _ e1).trans h3, ?_⟩
  by_cases e : t = i
  · subst e
    rw [setS_S _ _ _ hi]
    exact World.cell?_setCell_same _ _ _ h5
  · rw [setS_So _ _ _ _ e]
    have e2 : (⟨lg, i * 2 + 1, none⟩ : Addr) ≠ ⟨lg, t * 2 + 1, none⟩ := fun z => by injection z with _ z; omega
    exact (World.cell?_setCell_other _ _ _ _ e2).trans h4

theorem shards_block {w w' : World} {lg : Nat} {L : List (Int × ByteArray)} (h : w'.heap[lg]? = w.heap[lg]?) (hs : w.heap.size ≤ w'.heap.size) (hS : ShardsAt w (some ⟨lg, 0, none⟩) L) : ShardsAt w' (some ⟨lg, 0, none⟩) L := fun hp => by
  obtain ⟨ad, had, h1, h2⟩ := hS hp
  obtain rfl := Option.some.inj had
  refine ⟨_, rfl, Nat.lt_of_lt_of_le h1 hs, fun t ht => ?_⟩
  obtain ⟨h3, h4⟩ := h2 t ht
  rw [addr_head] at h3 h4 ⊢
  rw [addr_head]
  unfold World.cell? at h3 h4 ⊢
  rw [h]
  exact ⟨h3, h4⟩

set_option maxRecDepth 20000 in
set_option maxHeartbeats 4000000 in
theorem turned_whole (c1 c2 : Int) (s : ByteArray) (_hs : s.size ≤ reachBytes) (at_ : Int) (w : World) :
    Calls Try.prog 7 #[.agg #[.int .i64 c1, .int .i64 c2], .string s, .int .i64 at_] w fun e w' => e = .returned (.bool true) ∧ Below w.heap.size w w' := by
  have hka := amongV_lt c1 5 (by omega)
  have hma := amongV_lt c2 4 (by omega)
  have HA1 := Lib.hid (fun w => among_any c1 5 w (by omega) (by omega))
  have HA2 := Lib.hid (fun w => among_any c2 4 w (by omega) (by omega))
  generalize amongV c1 5 = ka at *
  generalize amongV c2 4 = ma at *
  obtain ⟨k, hk⟩ : ∃ k, k = 1 + ka := ⟨_, rfl⟩
  obtain ⟨m, hm⟩ : ∃ m, m = 1 + ma := ⟨_, rfl⟩
  have k1 : 1 ≤ k := by omega
  have k2 : k ≤ 5 := by omega
  have m1 : 1 ≤ m := by omega
  have m2 : m ≤ 4 := by omega
  have HK : (1 : Int) + ((ka : Nat) : Int) = (k : Int) := by omega
  have HM : (1 : Int) + ((ma : Nat) : Int) = (m : Int) := by omega
  have hwk : IntKind.i64.wrap (k : Int) = (k : Int) := i64_wrap (by omega) (by omega)
  have hwm : IntKind.i64.wrap (m : Int) = (m : Int) := i64_wrap (by omega) (by omega)
  clear hk hm
  go_enter Try.func7, Try.ntmps7
  go_wp2_with fail
  obtain ⟨s0, bZ⟩ := blk1 w (.cells #[.int .i64 c1, .int .i64 c2] 31)
  have BW : Hid (Below w.heap.size w (w.alloc (.cells #[.int .i64 c1, .int .i64 c2] 31))) := (Below.refl _ w).alloc (Nat.le_refl _) _
  have P0 : Hid (PairAt (w.alloc (.cells #[.int .i64 c1, .int .i64 c2] 31)) w.heap.size c1 c2) := ⟨blk_cell (j := 0) bZ rfl, blk_cell (j := 1) bZ rfl, by omega⟩
  generalize w.alloc (.cells #[.int .i64 c1, .int .i64 c2] 31) = w0 at s0 bZ BW P0 ⊢
  refine (mdworks_true _).mono ?_
  rintro e w1 ⟨rfl, hb⟩
  have P1 := Lib.hid (P0.out.below hb)
  have B1 : Hid (Below w.heap.size w w1) := BW.out.trans (hb.mono BW.out.size)
  clear BW hb bZ s0 P0
  generalize hB : w.heap.size = B at P1 ⊢
  have HB := Lib.hid hB
  clear hB
  go_upto_region 3 with fail
  refine wp_region_said 10 [18, 19, 20, 21, 22, 23, 24, 25, 7, 8]
    [.is (.pointer (some ⟨B, 0, none⟩)), .is (.int .i64 c1), .is (.int .i64 (ka : Int)), .is (.int .i64 (k : Int)), .is (.pointer (some ⟨B, 1, none⟩)), .is (.int .i64 c2), .is (.int .i64 (ma : Int)), .is (.int .i64 (m : Int)), .is (.int .i64 (k : Int)), .is (.int .i64 (m : Int))]
    (fun W => PairAt W B c1 c2) (by kernel_rfl) (by kernel_rfl) (by kernel_rfl) (by kernel_rfl) (by kernel_rfl) (fun W W' h hb => h.below hb) P1.out ?steps ?last
  case steps =>
    simp only [List.take_succ_cons, List.take_zero]
    refine ⟨?_, ?_, ?_, ?_, ?_, ?_, ?_, ?_, ?_, ?_, trivial⟩
    all_goals
      intro vs W ρ hρ hc hf hg hI hH hd R' hR
      obtain ⟨d1, d2, _⟩ := hI
      have HR := Lib.hid hR
      simp [depsOf, Region.binds, sayAt, Say.holds] at hd
      clear hR
      go_simp
    · exact HR.out _ _ (by simp [sayAt, Say.holds]) (Below.refl _ _) (by simp [sayAt, Say.isBlk])
    · exact HR.out _ _ (by simp [sayAt, Say.holds]) (Below.refl _ _) (by simp [sayAt, Say.isBlk])
    · (refine (HA1.out _).mono ?_; rintro e w' ⟨rfl, rfl⟩; exact ⟨_, rfl, HR.out _ _ (by simp [sayAt, Say.holds]) (Below.refl _ _) (by simp [sayAt, Say.isBlk])⟩)
    · exact HR.out _ _ (by simp [sayAt, Say.holds]) (Below.refl _ _) (by simp [sayAt, Say.isBlk])
    · exact HR.out _ _ (by simp [sayAt, Say.holds]) (Below.refl _ _) (by simp [sayAt, Say.isBlk])
    · exact HR.out _ _ (by simp [sayAt, Say.holds]) (Below.refl _ _) (by simp [sayAt, Say.isBlk])
    · (refine (HA2.out _).mono ?_; rintro e w' ⟨rfl, rfl⟩; exact ⟨_, rfl, HR.out _ _ (by simp [sayAt, Say.holds]) (Below.refl _ _) (by simp [sayAt, Say.isBlk])⟩)
    · exact HR.out _ _ (by simp [sayAt, Say.holds]) (Below.refl _ _) (by simp [sayAt, Say.isBlk])
    · exact HR.out _ _ (by simp [sayAt, Say.holds]) (Below.refl _ _) (by simp [sayAt, Say.isBlk])
    · exact HR.out _ _ (by simp [sayAt, Say.holds]) (Below.refl _ _) (by simp [sayAt, Say.isBlk])
  case last =>
    intro vs W hI hb hg hd
    have g8 := hg 8 (by omega)
    have g9 := hg 9 (by omega)
    simp only [sayAt, Say.holds, List.getD_cons_succ, List.getD_cons_zero] at g8 g9
    simp only [List.take_succ_cons, List.take_zero, List.drop_succ_cons, List.drop_zero, putAll, Act.put, List.setIfInBounds_toArray, List.set_cons_succ, List.set_cons_zero, Nat.zero_add, Nat.reduceAdd]
    rw [g8, g9]
    have B2 := Lib.hid (B1.out.trans (hb.mono B1.out.size))
    have P2 := Lib.hid (P1.out.below hb)
    clear g8 g9 hg hd hb hI P1 B1 HA1 HA2 hka hma HK HM hwk hwm
    by_cases hbig : 400 < s.size
    · have hbig' : (400 : Int) < (s.size : Int) := by omega
      go_wp2_with fail
      go_ret
      exact ⟨rfl, B2.out⟩
    · have hbig' : (s.size : Int) ≤ 400 := by omega
      have h400 : s.size ≤ 2048 := by omega
      clear hbig
      have hkm : k + m ≤ 255 := by omega
      have HEn := Lib.hid (fun W => encode_any (k : Int) (m : Int) s W (by omega))
      have HEy := Lib.hid (enc_yes (k := k) (m := m) (s := s) k1 hkm h400)
      have HLen := Lib.hid (allS_len k m s)
      go_wp2_with fail
      refine (HEn.out _).mono ?_
      rintro e w3 ⟨hans, hb⟩
      obtain ⟨g, cap, rfl, hown⟩ := HEy.out _ _ _ hans
      have hst : StrsAt w3 (some ⟨g, 0, none⟩) (allS k m s) := StrsAt.own hown HLen.out.symm
      have ST := Lib.hid hst
      have B3 := Lib.hid (B2.out.trans (hb.mono B2.out.size))
      have P3 := Lib.hid (P2.out.below hb)
      obtain ⟨d1, d2, d3⟩ := P3.out
      clear hans hb hown hst HEn HEy P2 B2
      go_wp2_with fail
      have hbp : Below w3.heap.size w3 (w3.alloc (.cells #[.int .i64 at_, .int .i64 c1, .int .i64 c2] 3)) := (Below.refl _ w3).alloc (Nat.le_refl _) _
      obtain ⟨sp, bp⟩ := blk1 w3 (.cells #[.int .i64 at_, .int .i64 c1, .int .i64 c2] 3)
      have B4 := Lib.hid (B3.out.trans (hbp.mono B3.out.size))
      have ST4 := Lib.hid (ST.out.below hbp)
      generalize (w3.alloc (.cells #[.int .i64 at_, .int .i64 c1, .int .i64 c2] 3)) = w4 at sp bp B4 ST4 ⊢
      have hso := some_any ⟨g, 0, none⟩ cap (allS k m s) (k + 1) 3 3 (some ⟨w3.heap.size, 0, none⟩) w4 ST4.out (by omega) (by rw [HLen.out]; omega) (by rw [HLen.out]; omega) (by omega) (fun j hj => by
        refine ⟨_, ?_, rfl, by show w3.heap.size < _; omega, ?_⟩
        · exact match j with | 0 => at_ | 1 => c1 | _ => c2
        · rw [addr_head]
          match j, hj with
          | 0, _ => exact blk_cell bp rfl
          | 1, _ => exact blk_cell bp rfl
          | 2, _ => exact blk_cell bp rfl)
      rw [HLen.out, show ((k + 1 : Nat) : Int) = (k : Int) + 1 by omega] at hso
      have HSo := Lib.hid hso
      clear hso bp sp hbp ST P3 d1 d2 d3 B3
      refine HSo.out.mono ?_
      rintro e w5 ⟨N, lg, lcap, rfl, hown, hN, hnd, hlt, hb⟩
      obtain ⟨hsh, hlc, hlg⟩ := own_shards (by rw [pickL_len, hN]) hown
      have SH5 := Lib.hid hsh
      have HO5 := Lib.hid hown
      have B5 := Lib.hid (B4.out.trans (hb.mono B4.out.size))
      have HNd := Lib.hid hnd
      have HLt := Lib.hid hlt
      have HNk := Lib.hid hN
      have hlow : w.heap.size ≤ lg := Nat.le_trans B4.out.size (hown.lt lg rfl).1
      have hag := fun W h => magree_any (k : Int) (m : Int) (some ⟨lg, 0, none⟩) lcap (pickL (allS k m s) N) W h (by rw [pickL_len]; omega) (by rw [pickL_len]; omega) (pick_size k1 h400 hlt)
      rw [pick_agree k1 hkm h400 (by omega) hlt hnd, pickL_len, hN] at hag
      have HAg := Lib.hid hag
      clear hown hsh hb hag HSo ST4 B4
      go_wp2_with fail
      refine (HAg.out _ SH5.out).mono ?_
      rintro e w6 ⟨rfl, hb⟩
      have SH6 := Lib.hid (SH5.out.below hb)
      have HO6 := Lib.hid (st_keep HO5.out hb)
      have B6 := Lib.hid (B5.out.trans (hb.mono B5.out.size))
      have hlg6 : lg < w6.heap.size := Nat.lt_of_lt_of_le hlg hb.size
      clear hb SH5 HO5 B5 HAg hlg
      go_wp2_with fail
      have ham := among_any at_ (k + 1) w6 (by omega) (by omega)
      rw [show ((k + 1 : Nat) : Int) = (k : Int) + 1 by omega] at ham
      have hil := amongV_lt at_ (k + 1) (by omega)
      obtain ⟨i, hai⟩ : ∃ i, i = amongV at_ (k + 1) := ⟨_, rfl⟩
      rw [← hai] at ham hil
      have HAm := Lib.hid ham
      clear ham hai
      refine HAm.out.mono ?_
      rintro e w7 ⟨rfl, rfl⟩
      have pik : (i : Int) < (k : Int) + 1 := by omega
      have hiN : i < N.length := by rw [HNk.out]; exact hil
      obtain ⟨ad, had, _, hcl⟩ := SH6.out (by rw [pickL_len]; omega)
      obtain rfl := Option.some.inj had
      have x2 := (hcl i (by rw [pickL_len]; exact hiN)).2
      rw [pickL_S hiN, addr_head] at x2
      have HZ := Lib.hid (allS_size (m := m) (s := s) k1 (getD_lt HLt.out i hiN))
      have HPos := Lib.hid (St.sz_pos (n := s.size) k1)
      have HB1 := Lib.hid (St.sz_bound1 (n := s.size) k1 h400)
      have HNo := Lib.hid (fun p hp => turned_no (m := m) (s := s) (N := N) k1 hkm h400 HNk.out HLt.out HNd.out i p hil hp)
      have HSz := Lib.hid (fun p => (set_ck (m := m) (s := s) (N := N) k1 hkm h400 (by omega) HLt.out HNd.out i hiN (turnS ((allS k m s).getD (N.getD i 0) ⟨#[]⟩) p) (by rw [turnS_size]; exact HZ.out)).2)
      generalize hxt : (allS k m s).getD (N.getD i 0) ⟨#[]⟩ = xt at x2 HZ HNo HSz
      have HXt := Lib.hid hxt
      have hbs := run_bytes_of_string (P := Try.prog) w7 9 48 5 xt Try.underlying9 Try.underlying48 Try.underlying5
      have hge := grownCap_ge w7 xt.size 0 5
      obtain ⟨rest, hr⟩ := bytesRow_list xt (grownCap w7 xt.size 0 5)
      rw [hr] at hbs
      have hC := Lib.hid (show CelM (w7.drew.alloc (.cells (Lib.byteCells xt.data.toList ++ rest).toArray 5 ((Lib.byteCells xt.data.toList ++ rest).toArray.size, (Lib.byteCells xt.data.toList ++ rest).toArray.size + 1))) w7.heap.size 5 (Lib.byteCells xt.data.toList ++ rest) from ⟨_, _, by simp, heap_alloc_new w7.drew _⟩)
      have hBB : Hid (Below w7.heap.size w7 (w7.drew.alloc (.cells (Lib.byteCells xt.data.toList ++ rest).toArray 5 ((Lib.byteCells xt.data.toList ++ rest).toArray.size, (Lib.byteCells xt.data.toList ++ rest).toArray.size + 1)))) := (Below.refl _ w7).drew.alloc (Nat.le_refl _) _
      generalize (w7.drew.alloc (.cells (Lib.byteCells xt.data.toList ++ rest).toArray 5 ((Lib.byteCells xt.data.toList ++ rest).toArray.size, (Lib.byteCells xt.data.toList ++ rest).toArray.size + 1))) = w8 at hbs hC hBB
      generalize grownCap w7 xt.size 0 5 = bcap at hbs hge
      have SH8 := Lib.hid (SH6.out.below hBB.out)
      have HO8 := Lib.hid (st_keep HO6.out hBB.out)
      have B8 := Lib.hid (B6.out.trans (hBB.out.mono B6.out.size))
      clear hr hcl SH6 HO6 B6 hxt
      have hlow2 : w.heap.size ≤ w7.heap.size := Nat.le_trans hlow (Nat.le_of_lt hlg6)
      generalize w7.heap.size = bb at hbs hC hlg6 hBB hlow2 ⊢
      have hne : lg ≠ bb := by omega
      go_wp2_with fail
      clear hbs x2
      have hap := among_any at_ xt.size w8 (by rw [HZ.out]; exact HPos.out) (by rw [HZ.out]; have := HB1.out; omega)
      have hpl := amongV_lt at_ xt.size (by rw [HZ.out]; exact HPos.out)
      obtain ⟨p, hpa⟩ : ∃ p, p = amongV at_ xt.size := ⟨_, rfl⟩
      rw [← hpa] at hap hpl
      have HAp := Lib.hid hap
      clear hap hpa
      refine HAp.out.mono ?_
      rintro e w9 ⟨rfl, rfl⟩
      have hold := hC.out.cell (bytes_at xt p rest hpl)
      have hfree := hC.out.free (i := p) (by rw [List.length_append, Lib.byteCells_length, Array.length_toList]; exact Nat.lt_of_lt_of_le hpl (Nat.le_add_right _ _))
      have hx8 : bits .xor .u8 ((byteAt xt p).toNat : Int) 1 = ((byteAt xt p ^^^ 1).toNat : Int) := by
        have h := u8_xor_nat (byteAt xt p).toNat 1 (by have := GfU.toNat_le (byteAt xt p); omega) (by omega)
        rw [show ((byteAt xt p).toNat ^^^ 1) = (byteAt xt p ^^^ 1).toNat by rw [UInt8.toNat_xor]; rfl] at h
        exact h
      have hset := hC.out.set (i := p) (v := .int .u8 ((byteAt xt p ^^^ 1).toNat : Int))
      rw [bytes_set xt p rest hpl] at hset
      generalize (byteAt xt p ^^^ 1).toNat = vb at hx8 hset
      have HSET := Lib.hid hset
      have ppx : (p : Int) < (xt.size : Int) := by omega
      have hfar : (w9.setCell ⟨bb, p, none⟩ (.int .u8 (vb : Int))).heap[lg]? = w9.heap[lg]? := Below.heap_setCell w9 ⟨bb, p, none⟩ _ lg hne
      have SHA := Lib.hid (shards_block hfar (by simp) SH8.out)
      have hfrz : (w9.setCell ⟨bb, p, none⟩ (.int .u8 (vb : Int))).frozen? ⟨lg, i * 2 + 1, none⟩ = false := by
        have h := World.ownsRow.frozenAt HO8.out (i * 2 + 1)
        unfold World.frozen? at h ⊢
        rw [hfar]
        exact h
      have BA := Lib.hid (B8.out.setCell (p := ⟨bb, p, none⟩) hlow2 (.int .u8 (vb : Int)))
      have hcx : (w9.setCell ⟨bb, p, none⟩ (.int .u8 (vb : Int))).cell? ⟨lg, i * 2 + 1, none⟩ = some (.string xt) := by
        obtain ⟨ad, had, _, hcl⟩ := SHA.out (by rw [pickL_len]; omega)
        obtain rfl := Option.some.inj had
        have h := (hcl i (by rw [pickL_len]; exact hiN)).2
        rw [pickL_S hiN, addr_head, HXt.out] at h
        exact h
      have hbk := turn_back (cap := bcap) HSET.out
      clear hset hfar
      go_upto_region 16 with fail
      clear hold hfree hx8 SH8 HO8 B8 hC
      generalize (w9.setCell ⟨bb, p, none⟩ (.int .u8 (vb : Int))) = wA at SHA hfrz BA hcx hbk HSET ⊢
      have SHB := Lib.hid (shards_set (x := turnS xt p) SHA.out (i := i) (by rw [pickL_len]; exact hiN))
      have BB := Lib.hid (BA.out.setCell (p := ⟨lg, i * 2 + 1, none⟩) hlow (.string (turnS xt p)))
      have hag2 := fun W h => magree_any (k : Int) (m : Int) (some ⟨lg, 0, none⟩) lcap (setS (pickL (allS k m s) N) i (turnS xt p)) W h (by rw [setS_len, pickL_len]; omega) (by rw [setS_len, pickL_len]; omega) (fun t ht => by
        rw [setS_len, pickL_len] at ht
        rw [HSz.out p t ht]
        have := HB1.out
        omega)
      rw [HNo.out p (by rw [← HZ.out]; exact hpl), setS_len, pickL_len, HNk.out] at hag2
      have HAg2 := Lib.hid hag2
      clear hag2 SHA BA HSET HNo HSz
      go_wp2_with fail
      refine (HAg2.out _ SHB.out).mono ?_
      rintro e w10 ⟨rfl, hb⟩
      have B10 := Lib.hid (BB.out.trans (hb.mono BB.out.size))
      clear hb
      go_wp2_with fail
      go_ret
      exact ⟨rfl, B10.out⟩

end Go.Proofs.Ytemcjnbgcecinaa
