/- The walk of the law that sums of products of gf go over sums and over what is scaled: it ends in true, and makes new memory alone; no condition but the form's reach. -/
import Derived.Test.YtkpigidndjjekaaGfTexts
namespace Go.Proofs.Ytkpigidndjjekaa
open Go.RowKit
open GfM (dbl pw lgA lg)

/-- a row of bytes of which the first k stand -/
def preC (L : List UInt8) (k : Nat) : List Value := (L.take k).map (fun b => Value.int .u8 (b.toNat : Int)) ++ List.replicate (L.length - k) (.int .u8 0)
theorem preC_length (L : List UInt8) (k : Nat) (h : k ≤ L.length) : (preC L k).length = L.length := by simp [preC]; omega
theorem preC_set (L : List UInt8) (k : Nat) (h : k < L.length) (v : Int) (hv : v = ((L[k]'h).toNat : Int)) : (preC L k).set k (.int .u8 v) = preC L (k + 1) := by
  subst hv
  unfold preC
  rw [show L.length - k = (L.length - (k + 1)) + 1 from by omega, List.replicate_succ, List.take_succ_eq_append_getElem h, List.map_append]
  rw [List.set_append_right _ _ (by simp; omega)]
  simp only [List.length_map, List.length_take, Nat.min_eq_left (Nat.le_of_lt h), Nat.sub_self, List.set_cons_zero, List.append_assoc, List.map_cons, List.map_nil, List.cons_append, List.nil_append]
theorem preC_at (L : List UInt8) (k : Nat) (h : k < L.length) : ∃ v, (preC L k)[k]? = some v :=
  ⟨_, List.getElem?_eq_getElem (by rw [preC_length _ _ (by omega)]; exact h)⟩
theorem preC_end (L : List UInt8) (j : Nat) (h : j < L.length) : (preC L L.length)[j]? = some (.int .u8 ((L[j]'h).toNat : Int)) := by
  unfold preC
  rw [Nat.sub_self, List.replicate_zero, List.append_nil, List.take_length, List.getElem?_map, List.getElem?_eq_getElem h]; rfl
theorem preC_zero (L : List UInt8) (n : Nat) (h : L.length = n) : (madeCells (Value.int .u8 0).cells (n * 1)).toList = preC L 0 := by
  rw [Nat.mul_one, show (Value.int .u8 0).cells = #[.int .u8 0] from rfl, toList_madeCells_one]
  simp [preC, h]

/-- 'string(b)' of a row that is the call's own and stands whole -/
theorem run_own_string {P : Program} {w : World} {H g n cap : Nat} {e src dst : TypeId} {L : List UInt8} (hown : w.ownsRow H e 1 (.slice (some ⟨g, 0, none⟩) n cap) n (preC L n)) (hL : L.length = n)
    (hs : P.underlying src = some (.slice e)) (he : P.underlying e = some (.int .u8)) (hd : P.underlying dst = some .string) :
    (convert src dst (.slice (some ⟨g, 0, none⟩) n cap)).run P w = .ok (.string ⟨L.toArray⟩) w := by
  subst hL
  exact run_convert_bytes_back (P := P) w src dst e ⟨g, 0, none⟩ cap L hs he hd (fun j hj => by
    have h1 := hown.cellAt j (by omega)
    rw [preC_end L j hj] at h1
    rw [addr_head]; exact h1)

theorem bt_list (L : List UInt8) (k : Nat) : bt ⟨L.toArray⟩ k = (L[k]?.getD 0).toNat := by simp [bt]

theorem dotk_add (u s v t : ByteArray) (k : Nat) (h : ∀ j, j < k → bt u j = bt s j ^^^ bt v j) : dotk u t k = dotk s t k ^^^ dotk v t k := by
  induction k with
  | zero => simp [dotk]
  | succ k ih =>
    unfold dotk
    rw [ih (fun j hj => h j (by omega)), h k (by omega), GfM.xor_mul (bt_le _ _) (bt_le _ _) (bt_le _ _)]
    generalize dotk s t k = A; generalize dotk v t k = B
    generalize GfM.mul (bt s k) (bt t k) = C; generalize GfM.mul (bt v k) (bt t k) = D
    rw [Nat.xor_assoc, Nat.xor_assoc, ← Nat.xor_assoc B, Nat.xor_comm B C, Nat.xor_assoc C]
theorem dotk_scale (a : Nat) (ha : a ≤ 255) (u s t : ByteArray) (k : Nat) (h : ∀ j, j < k → bt u j = GfM.mul a (bt s j)) : dotk u t k = GfM.mul a (dotk s t k) := by
  induction k with
  | zero => exact (GfM.mul_zero a).symm
  | succ k ih =>
    unfold dotk
    rw [ih (fun j hj => h j (by omega)), h k (by omega), GfM.mul_assoc ha (bt_le _ _) (bt_le _ _), GfM.mul_xor ha (dotk_le _ _ _) (GfM.mul_le _ _)]

/-- the bytes of numbers; the bytes of a text, each xor its number -/
def numL (n : Nat) : List UInt8 := (List.range n).map fun i => UInt8.ofNat (i % 256)
def mixL (s : ByteArray) : List UInt8 := (List.range s.size).map fun i => UInt8.ofNat (bt s i ^^^ (i % 256))
theorem numL_length (n : Nat) : (numL n).length = n := by simp [numL]
theorem mixL_length (s : ByteArray) : (mixL s).length = s.size := by simp [mixL]
theorem ofNat_nat (x : Nat) (h : x ≤ 255) : (UInt8.ofNat x).toNat = x := by
  rw [UInt8.toNat_ofNat_of_lt']
  show _ < 256
  omega
theorem numL_at (n k : Nat) (h : k < (numL n).length) : ((numL n)[k]'h).toNat = k % 256 := by
  simp only [numL, List.getElem_map, List.getElem_range]
  exact ofNat_nat _ (by omega)
theorem mixL_at (s : ByteArray) (k : Nat) (h : k < (mixL s).length) : ((mixL s)[k]'h).toNat = bt s k ^^^ (k % 256) := by
  simp only [mixL, List.getElem_map, List.getElem_range]
  exact ofNat_nat _ (GfM.xor_le (bt_le _ _) (by omega))
theorem mix_bt (s : ByteArray) (j : Nat) (h : j < s.size) : bt ⟨(mixL s).toArray⟩ j = bt s j ^^^ bt ⟨(numL s.size).toArray⟩ j := by
  have h1 : j < (mixL s).length := by rw [mixL_length]; exact h
  have h2 : j < (numL s.size).length := by rw [numL_length]; exact h
  rw [bt_list (mixL s), bt_list (numL s.size), List.getElem?_eq_getElem h1, List.getElem?_eq_getElem h2, Option.getD_some, Option.getD_some, mixL_at s j h1, numL_at _ j h2]
theorem scl_bt (a : Nat) (s : ByteArray) (j : Nat) (h : j < s.size) : bt ⟨(scl a s).toArray⟩ j = GfM.mul a (bt s j) := by
  have h1 : j < (scl a s).length := by rw [scl_length]; exact h
  rw [bt_list, List.getElem?_eq_getElem h1, Option.getD_some, scl_at a s j h, bt_at]

set_option maxRecDepth 20000 in
set_option maxHeartbeats 400000 in
theorem field_below (w : World) :
    Calls Try.prog 30 #[] w fun e w' => e = .returned (.tuple #[.pointer (some ⟨w.heap.size, 0, none⟩), .bool true]) ∧ FieldAt w' w.heap.size ∧ Below w.heap.size w w' := by
  have m1 : GfM.mul 2 128 = 29 := by decide +kernel
  have m2 : GfM.expv 25 = 3 := by decide +kernel
  have m3 : ((GfM.divv 1 2 : Nat) : Int) = 142 := by decide +kernel
  have m4 : ((GfM.dive 2 : Nat) : Int) = 0 := by decide +kernel
  have M1 := Lib.hid m1
  have M2 := Lib.hid m2
  clear m1 m2
  go_enter Try.func30, Try.ntmps30
  go_wp2_with fail
  refine (new_below _).mono ?_
  rintro e w1 ⟨rfl, hF, hG⟩
  have HF := Lib.hid hF
  have HG := Lib.hid hG
  clear hF hG
  go_wp2_with fail
  refine (mul_to _ _ _ 2 128 29 _ HF.out rfl rfl (by omega) (by omega) M1.out).mono ?_
  rintro e w2 ⟨rfl, n1, rfl⟩
  go_wp2_with fail
  refine (exp_to _ _ 3 _ (HF.out.drewN _) (by omega) (by omega) M2.out).mono ?_
  rintro e w2 ⟨rfl, rfl⟩
  go_wp2_with fail
  refine (inv_at _ _ 2 _ (HF.out.drewN _) rfl (by omega)).mono ?_
  rintro e w2 ⟨rfl, n2, rfl⟩
  go_wp2_with fail
  go_ret2
  exact ⟨rfl, HF.out.drewN _, below_drewN HG.out _⟩

theorem dot_v (B : Nat) (s t : ByteArray) (v : Nat) (w : World) (hF : FieldAt w B) (hs : s.size ≤ maxLen) (hst : s.size = t.size) (h : dotk s t s.size = v) :
    Calls Try.prog 26 #[.pointer (some ⟨B, 0, none⟩), .string s, .string t] w fun e w' =>
      e = .returned (.tuple #[.int .u8 (v : Int), .int .i64 0]) ∧ ∃ n, w' = w.drewN n := by
  subst h; exact dot_any B s t w hF hs hst
theorem size_list (L : List UInt8) : (⟨L.toArray⟩ : ByteArray).size = L.length := by show L.toArray.size = _; simp
theorem mix_xor (S : ByteArray) (k : Nat) (h : k < S.size) : bits .xor .u8 ((S[k]'h).toNat : Int) ((k : Int) % 256) = (((mixL S)[k]'(by rw [mixL_length]; exact h)).toNat : Int) := by
  have e : ((k : Int) % 256) = ((k % 256 : Nat) : Int) := by omega
  rw [e, bt_at, mixL_at, u8_xor_nat _ _ (by have := bt_le S k; omega) (by omega)]

theorem owns_below {H H2 g n cap : Nat} {w w' : World} {e : TypeId} {xs : List Value} (h : w.ownsRow H e 1 (.slice (some ⟨g, 0, none⟩) n cap) n xs) (hb : Below H2 w w') (hg : g < H2) :
    w'.ownsRow H e 1 (.slice (some ⟨g, 0, none⟩) n cap) n xs := by
  refine ⟨h.1, ?_⟩
  rcases h.2 with h' | ⟨g', cap', cur, hv, h1, h2, h3, h4, h5, h6⟩
  · exact .inl h'
  · refine .inr ⟨g', cap', cur, hv, h1, ?_, h3, h4, h5, h6⟩
    simp only [Value.slice.injEq, Option.some.injEq, Addr.mk.injEq] at hv
    obtain ⟨⟨rfl, -⟩, -⟩ := hv
    rw [hb.block g hg, h2]

set_option maxRecDepth 20000 in
set_option maxHeartbeats 2000000 in
theorem linear_walk (a' : Int) (s t : ByteArray) (wa : (Lit.int .u8 a').wf = true) (w : World) (zs : s.size ≤ reachBytes) (zt : t.size ≤ reachBytes) :
    Calls Try.prog 10 #[.int .u8 a', .string s, .string t] w fun e w' => e = .returned (.bool true) ∧ Below w.heap.size w w' := by
  obtain ⟨a, rfl, ha⟩ := wf_u8 wa
  have hs : s.size ≤ 140737488351232 := zs
  have ht : t.size ≤ 140737488351232 := zt
  clear wa zs zt
  obtain ⟨i0, hi, hz0, hz1, hz2⟩ := info_parts Try.infoU8
  rcases (show (s.size : Int) ≤ (t.size : Int) ∨ (t.size : Int) < (s.size : Int) by omega) with hle | hle
  all_goals
    go_enter Try.func10, Try.ntmps10
    go_wp2_with fail
    refine (field_below _).mono ?_
    rintro e w1 ⟨rfl, hF, hG⟩
    have HF := Lib.hid hF
    have HG := Lib.hid hG
    clear hF hG
    go_wp2_with fail
    go_quiet (fail)
    have HF2 := Lib.hid (HF.out.drewN nq)
    have HG2 := Lib.hid (below_drewN HG.out nq)
    clear HF HG
    generalize w1.drewN nq = w2 at HF2 HG2 ⊢
  all_goals first
    | (have q : (s.size : Int) ≤ (t.size : Int) := hle
       obtain ⟨S, hS⟩ : ∃ S, S = s := ⟨s, rfl⟩
       rw [← hS]
       obtain ⟨n, hn⟩ : ∃ n, n = S.size := ⟨_, rfl⟩
       rw [← hn]
       obtain ⟨T, hT⟩ : ∃ T, T = t.extract 0 n := ⟨_, rfl⟩
       rw [← hT]
       have HSn : Hid (S.size = n) := hn.symm
       have HTn : Hid (T.size = n) := by rw [hT, hn, ByteArray.size_extract, hS]; show min s.size t.size - 0 = s.size; omega
       have hnb : n ≤ 140737488351232 := by rw [hn, hS]; exact hs
       clear hS hn hT q)
    | (obtain ⟨T, hT⟩ : ∃ T, T = t := ⟨t, rfl⟩
       rw [← hT]
       obtain ⟨n, hn⟩ : ∃ n, n = T.size := ⟨_, rfl⟩
       rw [← hn]
       obtain ⟨S, hS⟩ : ∃ S, S = s.extract 0 n := ⟨_, rfl⟩
       rw [← hS]
       have HTn : Hid (T.size = n) := hn.symm
       have HSn : Hid (S.size = n) := by rw [hS, hn, ByteArray.size_extract, hT]; show min t.size s.size - 0 = t.size; omega
       have hnb : n ≤ 140737488351232 := by rw [hn, hT]; exact ht
       clear hS hn hT)
  all_goals
    clear hle hs ht
    have hFB := HF2.out.lt
    have LL := Lib.hid (mixL_length S)
    go_wp2_with (at_make; refine wpList_make_full _ rfl (.tmp 39) (.tmp 39) 42 rfl w2.heap.size 5 i0 (.int .u8 0) 1 Try.underlying42 hi hz0 hz1 .i64 .i64 _ _ n rfl rfl rfl rfl (by rw [hz2]; omega) (by unfold maxLen; omega) (by simp) ?_; intro w3 hown hgrow)
    have HO3 : Hid (w3.ownsRow w2.heap.size 5 1 (.slice (some ⟨w2.heap.size, 0, none⟩) n n) n (preC (mixL S) 0)) := by
      rw [preC_zero (mixL S) n (by rw [LL.out, HSn.out])] at hown; exact hown
    have HB3 : Hid (Below w2.heap.size w2 w3) := (Below.refl _ _).grown hgrow (Nat.le_refl _) (fun k hk => by cases hk)
    clear hown hgrow
    go_loopw [42] (fun i wr => ∃ k : Nat, k ≤ n ∧ i = .int .i64 (k : Int) ∧ Hid (wr.ownsRow w2.heap.size 5 1 (.slice (some ⟨w2.heap.size, 0, none⟩) n n) n (preC (mixL S) k)) ∧ Hid (Below w2.heap.size w2 wr)) (fun i _ => n - (intOf i).toNat)
    case atStart => exact ⟨0, by omega, rfl, HO3, HB3⟩
    case round =>
      obtain ⟨k, hk, rfl, hown, hbel⟩ := hrel
      clear HO3 HB3
      by_cases hlt : k < n
      · have hkS : k < S.size := by rw [HSn.out]; exact hlt
        have p1 : (k : Int) < (S.size : Int) := by omega
        have b1 : (S[k]'hkS).toNat ≤ 255 := by rw [bt_at]; exact bt_le _ _
        have hkL : k < (mixL S).length := by rw [LL.out]; exact hkS
        obtain ⟨v, hv⟩ := preC_at (mixL S) k hkL
        have hcell := (hown.out.cellAt k (by omega)).trans hv
        have hfro := hown.out.frozenAt k
        have hx := mix_xor S k hkS
        clear hv
        go_wp2_with fail
        go_roundw
        case rel =>
          have R := hown.out.stored k (.int .u8 (((mixL S)[k]'hkL).toNat : Int))
          rw [preC_set (mixL S) k hkL _ rfl] at R
          exact ⟨k + 1, by omega, by go_num, R.1, hbel.out.setCell (Nat.le_refl _) _⟩
        case measure => simp [intOf]; omega
      · obtain rfl : k = n := by omega
        obtain ⟨wo, rfl⟩ : ∃ wo : World, wo = wr := ⟨_, rfl⟩
        have HFr := Lib.hid (HF2.out.below hbel.out hFB)
        have NL := Lib.hid (numL_length k)
        go_wp2_with (at_make; refine wpList_make_full _ rfl (.tmp 55) (.tmp 55) 42 rfl wo.heap.size 5 i0 (.int .u8 0) 1 Try.underlying42 hi hz0 hz1 .i64 .i64 _ _ k rfl rfl rfl rfl (by rw [hz2]; omega) (by unfold maxLen; omega) (by simp) ?_; intro w5 hown5 hgrow5)
        have HB5 : Hid (Below wo.heap.size wo w5) := (Below.refl _ _).grown hgrow5 (Nat.le_refl _) (fun k hk => by cases hk)
        have HO5 : Hid (w5.ownsRow wo.heap.size 5 1 (.slice (some ⟨wo.heap.size, 0, none⟩) k k) k (preC (numL k) 0)) := by
          rw [preC_zero (numL k) k (by rw [NL.out])] at hown5; exact hown5
        have hgw : w2.heap.size < wo.heap.size := (hown.out.lt w2.heap.size rfl).2
        clear hown5 hgrow5
        go_loopw [58] (fun i wv => ∃ j : Nat, j ≤ k ∧ i = .int .i64 (j : Int) ∧ Hid (wv.ownsRow wo.heap.size 5 1 (.slice (some ⟨wo.heap.size, 0, none⟩) k k) k (preC (numL k) j)) ∧ Hid (Below wo.heap.size wo wv)) (fun i _ => k - (intOf i).toNat)
        case atStart => exact ⟨0, by omega, rfl, HO5, HB5⟩
        case round =>
          obtain ⟨j, hj, rfl, hown2, hbel2⟩ := hrel
          clear HO5 HB5
          by_cases hlt2 : j < k
          · have hjL : j < (numL k).length := by rw [NL.out]; exact hlt2
            obtain ⟨v, hv⟩ := preC_at (numL k) j hjL
            have hcell := (hown2.out.cellAt j (by omega)).trans hv
            have hfro := hown2.out.frozenAt j
            have hx : (j : Int) % 256 = (((numL k)[j]'hjL).toNat : Int) := by rw [numL_at]; omega
            clear hv
            go_wp2_with fail
            go_roundw
            case rel =>
              have R := hown2.out.stored j (.int .u8 (((numL k)[j]'hjL).toNat : Int))
              rw [preC_set (numL k) j hjL _ rfl] at R
              exact ⟨j + 1, by omega, by go_num, R.1, hbel2.out.setCell (Nat.le_refl _) _⟩
            case measure => simp [intOf]; omega
          · obtain rfl : j = k := by omega
            have HF5 := Lib.hid (HFr.out.below hbel2.out (by omega))
            have HOb : Hid (wr.ownsRow w2.heap.size 5 1 (.slice (some ⟨w2.heap.size, 0, none⟩) j j) j (preC (mixL S) j)) := owns_below hown.out hbel2.out hgw
            have cu : ∀ d, (convert 42 9 (.slice (some ⟨wo.heap.size, 0, none⟩) j j)).run Try.prog (wr.drewN d) = .ok (.string ⟨(numL j).toArray⟩) (wr.drewN d) := fun d =>
              run_own_string (w := wr.drewN d) hown2.out NL.out Try.underlying42 Try.underlying5 Try.underlying9
            have cb : ∀ d, (convert 42 9 (.slice (some ⟨w2.heap.size, 0, none⟩) j j)).run Try.prog (wr.drewN d) = .ok (.string ⟨(mixL S).toArray⟩) (wr.drewN d) := fun d =>
              run_own_string (w := wr.drewN d) HOb.out (by rw [LL.out, HSn.out]) Try.underlying42 Try.underlying5 Try.underlying9
            have BB : Hid (Below w.heap.size w wr) := (HG2.out.trans (hbel.out.mono (by omega))).trans (hbel2.out.mono (by omega))
            have hm : Hid (∀ x : Nat, x = j → x ≤ maxLen) := fun x hx => by unfold maxLen; omega
            have dD := dotk_le S T j
            have dU := dotk_le ⟨(numL j).toArray⟩ T j
            have EB : Hid (dotk ⟨(mixL S).toArray⟩ T j = dotk S T j ^^^ dotk ⟨(numL j).toArray⟩ T j) :=
              dotk_add _ _ _ _ _ (fun i hi => by have := mix_bt S i (by rw [HSn.out]; exact hi); rw [HSn.out] at this; exact this)
            have ES : Hid (dotk ⟨(scl a S).toArray⟩ T j = GfM.mul a (dotk S T j)) := dotk_scale a ha _ _ _ _ (fun i hi => scl_bt a S i (by rw [HSn.out]; exact hi))
            have SU : Hid ((⟨(numL j).toArray⟩ : ByteArray).size = j) := by rw [size_list]; exact NL.out
            have SB : Hid ((⟨(mixL S).toArray⟩ : ByteArray).size = j) := by rw [size_list, LL.out, HSn.out]; exact rfl
            have SS : Hid ((⟨(scl a S).toArray⟩ : ByteArray).size = j) := by rw [size_list, scl_length, HSn.out]; exact rfl
            have ls : ((scl a S).length : Int) = (j : Int) := by rw [scl_length, HSn.out]
            clear hown hown2 hbel hbel2 HOb
            go_wp2_with fail
            refine (dot_v _ S T (dotk S T j) _ HF5.out (hm.out _ HSn.out) (by rw [HSn.out, HTn.out]) (by rw [HSn.out])).mono ?_
            rintro e w6 ⟨rfl, d1, rfl⟩
            go_wp2_with fail
            refine (dot_v _ _ T (dotk ⟨(numL j).toArray⟩ T j) _ (HF5.out.drewN _) (hm.out _ SU.out) (by rw [SU.out, HTn.out]) (by rw [SU.out])).mono ?_
            rintro e w6 ⟨rfl, d2, rfl⟩
            go_wp2_with fail
            refine (dot_v _ _ T (dotk S T j ^^^ dotk ⟨(numL j).toArray⟩ T j) _ (HF5.out.drewN _) (hm.out _ SB.out) (by rw [SB.out, HTn.out]) (by rw [SB.out]; exact EB.out)).mono ?_
            rintro e w6 ⟨rfl, d3, rfl⟩
            go_wp2_with fail
            refine (scale_any _ a S _ (HF5.out.drewN _) ha (by rw [HSn.out]; exact hnb)).mono ?_
            rintro e w6 ⟨rfl, hb6⟩
            have HB6 := Lib.hid hb6
            have HF6 := Lib.hid ((HF5.out.drewN _).below hb6 (HF5.out.drewN _).lt)
            clear hb6 cu cb
            go_wp2_with fail
            refine (dot_v _ _ T (GfM.mul a (dotk S T j)) _ HF6.out (hm.out _ SS.out) (by rw [SS.out, HTn.out]) (by rw [SS.out]; exact ES.out)).mono ?_
            rintro e w7 ⟨rfl, d4, rfl⟩
            go_wp2_with fail
            refine (add_at _ _ _ _ _ rfl rfl dD dU).mono ?_
            rintro e w7 ⟨rfl, rfl⟩
            go_wp2_with fail
            refine (mul_any _ a (dotk S T j) _ (HF6.out.drewN _) ha dD).mono ?_
            rintro e w7 ⟨rfl, d5, rfl⟩
            go_wp2_with fail
            refine (scale_any _ a S _ (HF6.out.drewN _) ha (by rw [HSn.out]; exact hnb)).mono ?_
            rintro e w8 ⟨rfl, hb8⟩
            have HB8 := Lib.hid hb8
            clear hb8
            go_wp2_with fail
            go_ret
            exact ⟨rfl, below_step (below_drewN (below_step (below_drewN BB.out _) HB6.out BB.out.size) _) HB8.out (Nat.le_trans BB.out.size HB6.out.size)⟩
end Go.Proofs.Ytkpigidndjjekaa
