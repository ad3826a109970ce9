/- Letters last: the whole law; over what is asked; no condition but the range. -/
import Derived.Test.YtjehjbkcdpidbaaTmStart
import Derived.Test.YtjehjbkcdpidbaaTmFrm
namespace Go.Proofs.Ytjehjbkcdpidbaa
namespace Tm
open Go.RowKit Sc Bk Rd Lt

attribute [local go_sem ↓] Go.wp_at_zero Go.wp_at_succ
attribute [local go_sem] floatUpon pick

variable {Rep : RepT} {LRep : LRepT}

theorem lets_below {w W : World} {v : Value} {L : List LI} (h : LetsOf w v L) (hb : Below w.heap.size w W) : LetsOf W v L := by
  obtain ⟨A, c, e, h1, h2, h3⟩ := h
  refine ⟨A, c, e, fun hp => ?_, h2, fun x hx => (h3 x hx).below hb⟩
  obtain ⟨ad, e1, h4, h5⟩ := h1 hp
  exact ⟨ad, e1, Nat.lt_of_lt_of_le h4 hb.size, fun i hi j u hu => (cell_kept hb _ (by rw [st_block]; exact h4)).trans (h5 i hi j u hu)⟩

set_option maxRecDepth 20000 in
theorem messages_walk (HB : DevBase Rep) (HL : LogAll Rep LRep) (HE : EncodeAll) (HD : DecodeAll) (v : Value) (L : List LI) (at_ : Int) (w : World) (hv : LetsOf w v L) :
    Calls Try.prog 6 #[v, .int .i64 at_] w fun e w' => e = .returned (.bool true) ∧ Below w.heap.size w w' := by
  have HS := Lib.hid (starts_any HB HL w)
  have HF := Lib.hid (fun W (hb : Below w.heap.size w W) => framed_any HE HD v L at_ W (lets_below hv hb))
  clear hv
  go_enter Try.func6, Try.ntmps6
  go_wp2_with fail
  refine HS.out.mono ?_
  rintro e w2 ⟨rfl, hb⟩
  have HB2 := Lib.hid hb
  clear hb HS
  go_wp2_with fail
  refine (HF.out w2 HB2.out).mono ?_
  rintro e w3 ⟨rfl, hb⟩
  have HB3 := Lib.hid (HB2.out.trans (hb.mono HB2.out.size))
  clear hb
  go_wp2_with fail
  go_ret
  exact ⟨rfl, HB3.out⟩

end Tm
end Go.Proofs.Ytjehjbkcdpidbaa
