/- The walk of the law that sums of products of gf go over sums and over what is scaled: it ends in true, and makes new memory alone; no condition but the form's reach. -/
import Derived.Test.YtmnciipfepeccaaGfTexts
namespace Go.Proofs.Ytmnciipfepeccaa
open Go.RowKit
open GfM (dbl pw lgA lg)

/-- a row of bytes of which the first k stand -/
def preC (L : List UInt8) (k : Nat) : List Value := (L.take k).map (fun b => Value.int .u8 (b.toNat : Int)) ++ List.replicate (L.length - k) (.int .u8 0)

theorem preC_length (L : List UInt8) (k : Nat) (h : k ≤ L.length) : (preC L k).length = L.length := by simp [preC]; omega

theorem preC_set (L : List UInt8) (k : Nat) (h : k < L.length) (v : Int) (hv : v = ((L[k]'h).toNat : Int)) : (preC L k).set k (.int .u8 v) = preC L (k + 1) := by
  subst hv
  unfold preC
  rw [show L.length - k = (L.length - (k + 1)) + 1 from by omega, List.replicate_succ, List.take_succ_eq_append_getElem h, List.map_append]
  rw [List.set_append_right _ _ (by simp; omega)]
  simp only [List.length_map, List.length_take, Nat.min_eq_left (Nat.le_of_lt h), Nat.sub_self, List.set_cons_zero, List.append_assoc, List.map_cons, List.map_nil, List.cons_append, List.nil_append]

theorem preC_at (L : List UInt8) (k : Nat) (h : k < L.length) : ∃ v, (preC L k)[k]? = some v :=
  ⟨_, List.getElem?_eq_getElem (by rw [preC_length _ _ (by omega)]; exact h)⟩

theorem preC_end (L : List UInt8) (j : Nat) (h : j < L.length) : (preC L L.length)[j]? = some (.int .u8 ((L[j]'h).toNat : Int)) := by
  unfold preC
  rw [Nat.sub_self, List.replicate_zero, List.append_nil, List.take_length, List.getElem?_map, List.getElem?_eq_getElem h]; rfl

theorem preC_zero (L : List UInt8) (n : Nat) (h : L.length = n) : (madeCells (Value.int .u8 0).cells (n * 1)).toList = preC L 0 := by
  rw [Nat.mul_one, show (Value.int .u8 0).cells = #[.int .u8 0] from rfl, toList_madeCells_one]
  simp [preC, h]

/-- 'string(b)' of a row that is the call's own and stands whole -/
theorem run_own_string {P : Program} {w : World} {H g n cap : Nat} {e src dst : TypeId} {L : List UInt8} (hown : w.ownsRow H e 1 (.slice (some ⟨g, 0, none⟩) n cap) n (preC L n)) (hL : L.length = n)
    (hs : P.underlying src = some (.slice e)) (he : P.underlying e = some (.int .u8)) (hd : P.underlying dst = some .string) :
    (convert src dst (.slice (some ⟨g, 0, none⟩) n cap)).run P w = .ok (.string ⟨L.toArray⟩) w := by
  subst hL
  exact run_convert_bytes_back (P := P) w src dst e ⟨g, 0, none⟩ cap L hs he hd (fun j hj => by
    have h1 := hown.cellAt j (by omega)
    rw [preC_end L j hj] at h1
    rw [addr_head]; exact h1)

theorem bt_list (L : List UInt8) (k : Nat) : bt ⟨L.toArray⟩ k = (L[k]?.getD 0).toNat := by simp [bt]

theorem dotk_add (u s v t : ByteArray) (k : Nat) (h : ∀ j, j < k → bt u j = bt s j ^^^ bt v j) : dotk u t k = dotk s t k ^^^ dotk v t k := by
  induction k with
  | zero => simp [dotk]
  | succ k ih =>
    unfold dotk
    rw [ih (fun j hj => h j (by omega)), h k (by omega), GfM.xor_mul (bt_le _ _) (bt_le _ _) (bt_le _ _)]
    generalize dotk s t k = A; generalize dotk v t k = B
    generalize GfM.mul (bt s k) (bt t k) = C; generalize GfM.mul (bt v k) (bt t k) = D
    rw [Nat.xor_assoc, Nat.xor_assoc, ← Nat.xor_assoc B, Nat.xor_comm B C, Nat.xor_assoc C]

theorem dotk_scale (a : Nat) (ha : a ≤ 255) (u s t : ByteArray) (k : Nat) (h : ∀ j, j < k → bt u j = GfM.mul a (bt s j)) : dotk u t k = GfM.mul a (dotk s t k) := by
  induction k with
  | zero => exact (GfM.mul_zero a).symm
  | succ k ih =>
    unfold dotk
    rw [ih (fun j hj => h j (by omega)), h k (by omega), GfM.mul_assoc ha (bt_le _ _) (bt_le _ _), GfM.mul_xor ha (dotk_le _ _ _) (GfM.mul_le _ _)]

/-- the bytes of numbers; the bytes of a text, each xor its number -/
def numL (n : Nat) : List UInt8 := (List.range n).map fun i => UInt8.ofNat (i % 256)

def mixL (s : ByteArray) : List UInt8 := (List.range s.size).map fun i => UInt8.ofNat (bt s i ^^^ (i % 256))

theorem numL_length (n : Nat) : (numL n).length = n := by simp [numL]

theorem mixL_length (s : ByteArray) : (mixL s).length = s.size := by simp [mixL]

theorem ofNat_nat (x : Nat) (h : x ≤ 255) : (UInt8.ofNat x).toNat = x := by
  rw [UInt8.toNat_ofNat_of_lt']
  show _ < 256
  omega

theorem numL_at (n k : Nat) (h : k < (numL n).length) : ((numL n)[k]'h).toNat = k % 256 := by
  simp only [numL, List.getElem_map, List.getElem_range]
  exact ofNat_nat _ (by omega)

theorem mixL_at (s : ByteArray) (k : Nat) (h : k < (mixL s).length) : ((mixL s)[k]'h).toNat = bt s k ^^^ (k % 256) := by
  simp only [mixL, List.getElem_map, List.getElem_range]
  exact ofNat_nat _ (GfM.xor_le (bt_le _ _) (by omega))

theorem mix_bt (s : ByteArray) (j : Nat) (h : j < s.size) : bt ⟨(mixL s).toArray⟩ j = bt s j ^^^ bt ⟨(numL s.size).toArray⟩ j := by
  have h1 : j < (mixL s).length := by rw [mixL_length]; exact h
  have h2 : j < (numL s.size).length := by rw [numL_length]; exact h
  rw [bt_list (mixL s), bt_list (numL s.size), List.getElem?_eq_getElem h1, List.getElem?_eq_getElem h2, Option.getD_some, Option.getD_some, mixL_at s j h1, numL_at _ j h2]

theorem scl_bt (a : Nat) (s : ByteArray) (j : Nat) (h : j < s.size) : bt ⟨(scl a s).toArray⟩ j = GfM.mul a (bt s j) := by
  have h1 : j < (scl a s).length := by rw [scl_length]; exact h
  rw [bt_list, List.getElem?_eq_getElem h1, Option.getD_some, scl_at a s j h, bt_at]

theorem dot_v (B : Nat) (s t : ByteArray) (v : Nat) (w : World) (hF : FieldAt w B) (hs : s.size ≤ maxLen) (hst : s.size = t.size) (h : dotk s t s.size = v) :
    Calls Try.prog 41 #[.pointer (some ⟨B, 0, none⟩), .string s, .string t] w fun e w' =>
      e = .returned (.tuple #[.int .u8 (v : Int), .int .i64 0]) ∧ ∃ n, w' = w.drewN n := by
  subst h; exact dot_any B s t w hF hs hst

theorem size_list (L : List UInt8) : (⟨L.toArray⟩ : ByteArray).size = L.length := by show L.toArray.size = _; simp

theorem mix_xor (S : ByteArray) (k : Nat) (h : k < S.size) : bits .xor .u8 ((S[k]'h).toNat : Int) ((k : Int) % 256) = (((mixL S)[k]'(by rw [mixL_length]; exact h)).toNat : Int) := by
  have e : ((k : Int) % 256) = ((k % 256 : Nat) : Int) := by omega
  rw [e, bt_at, mixL_at, u8_xor_nat _ _ (by have := bt_le S k; omega) (by omega)]

theorem owns_below {H H2 g n cap : Nat} {w w' : World} {e : TypeId} {xs : List Value} (h : w.ownsRow H e 1 (.slice (some ⟨g, 0, none⟩) n cap) n xs) (hb : Below H2 w w') (hg : g < H2) :
    w'.ownsRow H e 1 (.slice (some ⟨g, 0, none⟩) n cap) n xs := by
  refine ⟨h.1, ?_⟩
  rcases h.2 with h' | ⟨g', cap', cur, hv, h1, h2, h3, h4, h5, h6⟩
  · exact .inl h'
  · refine .inr ⟨g', cap', cur, hv, h1, ?_, h3, h4, h5, h6⟩
    simp only [Value.slice.injEq, Option.some.injEq, Addr.mk.injEq] at hv
    obtain ⟨⟨rfl, -⟩, -⟩ := hv
    rw [hb.block g hg, h2]

end Go.Proofs.Ytmnciipfepeccaa
