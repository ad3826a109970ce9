/- The document's own inverse of any matrix, in the form that the law's walk takes. -/
import Derived.Test.YtlmcpnlnbjloaaaMatRInv
import Derived.Test.YtlmcpnlnbjloaaaMatRef3
import Derived.Test.YtlmcpnlnbjloaaaMatInvs
namespace Go.Proofs.Ytlmcpnlnbjloaaa

theorem rinvAll : RInvAll := by
  intro r c s w
  by_cases h : may r c s ∧ r = c
  · obtain ⟨hm, rfl⟩ := h
    obtain ⟨m, n, hr, hc, h1, h2, _, _, hs⟩ := may_nat hm
    have e : m = n := by omega
    subst e
    subst hr
    refine (rinv_yes m s w h1 h2 hs).mono ?_
    rintro e w' ⟨hres, hb⟩
    have hv : ∃ v, e = .returned v := by
      rcases hres with ⟨R, h, _⟩ | ⟨h, _⟩
      · exact ⟨_, h⟩
      · exact ⟨_, h⟩
    obtain ⟨v, rfl⟩ := hv
    exact ⟨v, rfl, .inl ⟨m, rfl, rfl, hm, hres⟩, hb⟩
  · refine (rinv_no r c s w ?_).mono ?_
    · by_cases hm : may r c s
      · exact .inr fun he => h ⟨hm, he⟩
      · exact .inl hm
    · rintro e w' ⟨rfl, hb⟩
      exact ⟨_, rfl, .inr ⟨h, rfl⟩, hb⟩

end Go.Proofs.Ytlmcpnlnbjloaaa
