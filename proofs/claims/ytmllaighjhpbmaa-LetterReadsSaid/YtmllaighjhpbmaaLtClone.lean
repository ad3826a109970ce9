/- What slices.Clone answers at texts; contract; no condition but the range. -/
import Derived.Test.YtmllaighjhpbmaaLtCopy
import Derived.Lib.SliceRun
namespace Go.Proofs.Ytmllaighjhpbmaa
namespace Lt
open Go.RowKit Bk

attribute [local go_sem ↓] Go.wp_at_zero Go.wp_at_succ
attribute [local go_sem] floatUpon pick

set_option maxRecDepth 20000 in
set_option maxHeartbeats 2000000 in
theorem clone_any (ad : Addr) (c : Nat) (l : List ByteArray) (w : World) (h : StrsAt w (some ad) l) (h16 : l.length * 16 ≤ 140737488351232) :
    Calls Try.prog 56 #[.slice (some ad) l.length c] w fun e w' => ∃ (A1 : Option Addr) (c1 : Nat), e = .returned (.slice A1 l.length c1) ∧ w'.ownsRow w.heap.size 9 1 (.slice A1 l.length c1) l.length (strV l) ∧ Below w.heap.size w w' := by
  obtain ⟨i0, hi, hz0, hz1, hz2⟩ := info_parts Try.infoStr
  have HSt := Lib.hid h
  have hO0 : (w.alloc (.cells #[] 9)).ownsRow w.heap.size 9 1 (.slice (some ⟨w.heap.size, 0, none⟩) 0 0) 0 [] := World.ownsRow_lit (base := w.heap.size) (e := 9) (size := 1) w #[] 0 (Nat.le_refl _) (by unfold maxLen; omega) rfl
  have HO0 := Lib.hid hO0
  have q22 : ∀ W : World, (binOp .eql 22 (.slice (some ad) l.length c) (.slice none 0 0)).run Try.prog W = .ok (.bool false) W := fun W => Lib.run_eql_slice_nil W _ _ (some ad) l.length c 0 0 Try.underlying22
  clear h hO0
  go_enter Try.func56, Try.ntmps56
  go_wp2_with (at_builtin; refine wpList_append_opt rfl _ _ 22 rfl w.heap.size 9 i0 (.string ⟨#[]⟩) 16 Try.underlying22 hi hz0 hz1 hz2 rfl _ 0 _ rfl HO0.out (some ad) l.length c (strV l) rfl (strV_len _) (fun e => by cases e) ?c1 ?c2 ?c3 ?c4 (by simp) ?_)
  case c1 => exact fun ad' e => by obtain rfl := Option.some.inj e; exact (HSt.out.alloc _).news
  case c2 => intro u hu; obtain ⟨s, _, rfl⟩ := List.mem_map.1 hu; rfl
  case c3 => unfold maxLen; omega
  case c4 => omega
  intro v' w3 ho hg hat
  have HB3 : Hid (Below w.heap.size w w3) := Lib.hid (((Below.refl _ w).alloc (Nat.le_refl _) (.cells #[] 9)).grown hg (by simp) (fun k hk => (HO0.out.lt k hk).1))
  obtain ⟨A1, c1, rfl, f1, f2⟩ := Pk.own_form ho
  have HO := Lib.hid ho
  clear ho hg hat f1 f2
  go_wp2_with fail
  go_ret
  exact ⟨A1, c1, rfl, HO.out, HB3.out⟩

end Lt
end Go.Proofs.Ytmllaighjhpbmaa
