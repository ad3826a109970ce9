/- Laws over what is asked of the landed package: Back. -/
import Derived.Test.YtlamjkagjkmbeaaSuTurn
namespace Go.Proofs.Ytlamjkagjkmbeaa
namespace Su
open Go.RowKit Bk

attribute [local go_sem ↓] Go.wp_at_zero Go.wp_at_succ
attribute [local go_sem] floatUpon pick

theorem Try.infoInt : (Try.prog.info? 3).map (fun i => (i.zero, i.size, i.bytes)) = some (some (.int .i64 0), 1, 8) := by kernel_rfl

/-- the frames of the first k texts -/
def fl (l : List ByteArray) (k : Nat) : List UInt8 := framesL ((l.take k).map fun s => s.data.toList)

/-- where they end -/
def en (l : List ByteArray) (k : Nat) : Nat := (fl l k).length

theorem fl_succ {l : List ByteArray} {k : Nat} (h : k < l.length) : fl l (k + 1) = fl l k ++ frameL l[k].data.toList := by
  unfold fl framesL
  rw [List.take_add_one, List.getElem?_eq_getElem h, List.map_append, List.flatMap_append]
  simp

theorem en_succ {l : List ByteArray} {k : Nat} (h : k < l.length) : en l (k + 1) = en l k + l[k].size + 6 := by
  unfold en
  rw [fl_succ h, List.length_append, frameL_len, list_size]
  omega

theorem en_zero (l : List ByteArray) : en l 0 = 0 := rfl

theorem en_le {l : List ByteArray} : ∀ (k : Nat), k ≤ l.length → (∀ q (h : q < l.length), q < k → l[q].size ≤ 4096) → en l k ≤ 4102 * k
  | 0, _, _ => by rw [en_zero]; omega
  | k + 1, hk, h => by
    have ih := en_le k (by omega) (fun q hq h2 => h q hq (by omega))
    have hs := h k (by omega) (by omega)
    rw [en_succ (by omega)]
    omega

theorem en_mono {l : List ByteArray} (k : Nat) : ∀ (d : Nat), k + d ≤ l.length → en l k ≤ en l (k + d)
  | 0, _ => Nat.le_refl _
  | d + 1, h => by
    have ih := en_mono (l := l) k d (by omega)
    rw [show k + (d + 1) = k + d + 1 by omega, en_succ (by omega)]
    omega

/-- where the frames of the first k texts end, as a row -/
def rowE (l : List ByteArray) (k : Nat) : List Value := (List.range k).map fun q => .int .i64 ((en l (q + 1) : Nat) : Int)

theorem rowE_len (l : List ByteArray) (k : Nat) : (rowE l k).length = k := by simp [rowE]

theorem rowE_succ (l : List ByteArray) (k : Nat) : rowE l (k + 1) = rowE l k ++ [.int .i64 ((en l (k + 1) : Nat) : Int)] := by
  unfold rowE
  rw [List.range_succ, List.map_append]
  rfl

theorem rowE_at (l : List ByteArray) (m k : Nat) (h : k < m) : (rowE l m)[k]? = some (.int .i64 ((en l (k + 1) : Nat) : Int)) := by
  unfold rowE
  rw [List.getElem?_map, List.getElem?_range h]; rfl

theorem fl_split {l : List ByteArray} {m k : Nat} (hk : k < m) (hm : m ≤ l.length) : ∃ r, fl l m = fl l k ++ (frameL (l[k]'(by omega)).data.toList ++ r) := by
  refine ⟨framesL (((l.take m).drop (k + 1)).map fun s => s.data.toList), ?_⟩
  have e : l.take m = l.take k ++ (l[k]'(by omega) :: (l.take m).drop (k + 1)) := by
    have h1 : (l.take m).take k = l.take k := by rw [List.take_take, Nat.min_eq_left (by omega)]
    have h2 : (l.take m).drop k = (l[k]'(by omega)) :: (l.take m).drop (k + 1) := by
      rw [List.drop_eq_getElem_cons (by rw [List.length_take]; omega), List.getElem_take]
    rw [← h1, ← h2, List.take_append_drop]
  have e2 := congrArg (fun z => framesL (z.map fun s => s.data.toList)) e
  simp only [List.map_append, List.map_cons] at e2
  unfold fl
  rw [e2]
  simp [framesL]

theorem next_found {l : List ByteArray} {m k : Nat} (more : ByteArray) (hk : k < m) (hm : m ≤ l.length) (hs : (l[k]'(by omega)).size ≤ 4096) :
    nextV ((⟨(fl l m).toArray⟩ : ByteArray) ++ more) ((en l k : Nat) : Int) = .tuple #[.string (l[k]'(by omega)), .int .i64 ((en l (k + 1) : Nat) : Int), .int .i64 0] := by
  obtain ⟨r, hr⟩ := fl_split hk hm
  have hle : en l k ≤ en l m := by
    obtain ⟨d, rfl⟩ : ∃ d, m = k + d := ⟨m - k, by omega⟩
    exact en_mono k d hm
  have hz : ((⟨(fl l m).toArray⟩ : ByteArray) ++ more).size = en l m + more.size := by rw [ByteArray.size_append, cat_size]; rfl
  have hl : ((⟨(fl l m).toArray⟩ : ByteArray) ++ more).data.toList = fl l m ++ more.data.toList := by rw [ByteArray.data_append, Array.toList_append]
  rw [nextV_at (by rw [hz]; omega), hl, hr, List.append_assoc, List.append_assoc]
  have hd : (fl l k ++ (frameL (l[k]'(by omega)).data.toList ++ (r ++ more.data.toList))).drop (en l k) = frameL (l[k]'(by omega)).data.toList ++ (r ++ more.data.toList) := by
    unfold en
    rw [List.drop_append_of_le_length (Nat.le_refl _), List.drop_eq_nil_of_le (Nat.le_refl _), List.nil_append]
  rw [hd, restR_frame _ _ (by rw [list_size]; exact hs), en_succ (by omega)]
  show Value.tuple #[_, _, _] = _
  rw [list_size]

theorem all_found {l : List ByteArray} {m : Nat} (hm : m ≤ l.length) (hs : ∀ q (h : q < l.length), q < m → l[q].size ≤ 4096) : allR ⟨(fl l m).toArray⟩ = (l.take m, en l m, 0) := by
  unfold allR
  rw [show (⟨(fl l m).toArray⟩ : ByteArray).data.toList = fl l m from rfl]
  unfold fl
  rw [walkR_frames _ _ _ ?_ ?_]
  · refine Prod.ext ?_ (Prod.ext ?_ rfl)
    · show List.map _ _ = _
      rw [List.map_map]
      conv => rhs; rw [← List.map_id (l.take m)]
      rfl
    · show 0 + _ = en l m
      rw [Nat.zero_add]; rfl
  · intro t ht
    obtain ⟨s, hs1, rfl⟩ := List.mem_map.1 ht
    obtain ⟨q, hq, rfl⟩ := List.getElem_of_mem hs1
    rw [List.length_take] at hq
    rw [List.getElem_take, list_size]
    exact hs q (by omega) (by omega)
  · rw [cat_size]; exact Nat.le_refl _

end Su
end Go.Proofs.Ytlamjkagjkmbeaa
