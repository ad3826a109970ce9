/- The methods of a heap of tasks, and how they are found; no condition but the range. -/
import Derived.Test.YtpjoiepdcilcnaaDuLess
namespace Go.Proofs.Ytpjoiepdcilcnaa
namespace Du
open Go.RowKit Bk

theorem lenW_method {W : World} {a : Addr} {S : Value} (h : W.cell? a = some S) (n : Nat) : (Go.method (n + 1) 62 (.pointer (some a)) "Len").run Try.prog W = .ok (24, S) W := by
  have hm : Array.find? (fun x : Go.Method => x.name == "Len") Try.t62.methods = some ⟨"Len", 40, #[⟨53, 0, true⟩], some (24, false)⟩ := by kernel_rfl
  unfold Go.method
  go_simp
  simp only [follow, receiverAt]
  go_simp
  simp only [Place.get]
  go_simp

theorem swapW_method {W : World} {a : Addr} {S : Value} (h : W.cell? a = some S) (n : Nat) : (Go.method (n + 1) 62 (.pointer (some a)) "Swap").run Try.prog W = .ok (52, S) W := by
  have hm : Array.find? (fun x : Go.Method => x.name == "Swap") Try.t62.methods = some ⟨"Swap", 78, #[⟨53, 0, true⟩], some (52, false)⟩ := by kernel_rfl
  unfold Go.method
  go_simp
  simp only [follow, receiverAt]
  go_simp
  simp only [Place.get]
  go_simp

theorem lessW_method {W : World} {a : Addr} {S : Value} (h : W.cell? a = some S) (n : Nat) : (Go.method (n + 1) 62 (.pointer (some a)) "Less").run Try.prog W = .ok (53, .agg #[S]) W := by
  have hm : Array.find? (fun x : Go.Method => x.name == "Less") Try.t62.methods = some ⟨"Less", 81, #[], some (53, false)⟩ := by kernel_rfl
  have hw : ∀ (W : World) (s : String), (Builtin.ssaWrapNilChk_ #[62] 62 #[.pointer (some a), strVal "", strVal s]).run Try.prog W = .ok (.pointer (some a)) W := fun _ _ => rfl
  unfold Go.method
  go_simp
  simp only [follow, receiverAt]
  go_simp
  simp only [Place.get]
  go_simp

theorem lenR_method {W : World} {a : Addr} {S : Value} (h : W.cell? a = some S) (n : Nat) : (Go.method (n + 1) 63 (.pointer (some a)) "Len").run Try.prog W = .ok (24, S) W := by
  have hm : Array.find? (fun x : Go.Method => x.name == "Len") Try.t63.methods = some ⟨"Len", 40, #[⟨54, 0, true⟩], some (24, false)⟩ := by kernel_rfl
  unfold Go.method
  go_simp
  simp only [follow, receiverAt]
  go_simp
  simp only [Place.get]
  go_simp

theorem swapR_method {W : World} {a : Addr} {S : Value} (h : W.cell? a = some S) (n : Nat) : (Go.method (n + 1) 63 (.pointer (some a)) "Swap").run Try.prog W = .ok (52, S) W := by
  have hm : Array.find? (fun x : Go.Method => x.name == "Swap") Try.t63.methods = some ⟨"Swap", 78, #[⟨54, 0, true⟩], some (52, false)⟩ := by kernel_rfl
  unfold Go.method
  go_simp
  simp only [follow, receiverAt]
  go_simp
  simp only [Place.get]
  go_simp

theorem lessR_method {W : World} {a : Addr} {S : Value} (h : W.cell? a = some S) (n : Nat) : (Go.method (n + 1) 63 (.pointer (some a)) "Less").run Try.prog W = .ok (54, .agg #[S]) W := by
  have hm : Array.find? (fun x : Go.Method => x.name == "Less") Try.t63.methods = some ⟨"Less", 81, #[], some (54, false)⟩ := by kernel_rfl
  have hw : ∀ (W : World) (s : String), (Builtin.ssaWrapNilChk_ #[63] 63 #[.pointer (some a), strVal "", strVal s]).run Try.prog W = .ok (.pointer (some a)) W := fun _ _ => rfl
  unfold Go.method
  go_simp
  simp only [follow, receiverAt]
  go_simp
  simp only [Place.get]
  go_simp

end Du
end Go.Proofs.Ytpjoiepdcilcnaa
