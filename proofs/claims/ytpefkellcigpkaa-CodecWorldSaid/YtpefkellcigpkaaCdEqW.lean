/- codec: EqWorld. -/
import Derived.Test.YtpefkellcigpkaaCdEqWX
import Derived.Test.YtpefkellcigpkaaCdEqWY
import Derived.Test.YtpefkellcigpkaaCdEqWZ
namespace Go.Proofs.Ytpefkellcigpkaa.Cd
open Go.RowKit Go.Proofs.Ytpefkellcigpkaa
set_option maxRecDepth 100000

theorem eqWorld_any : EqWorldSpec := by
  intro w Pb Qb p q x y hx hy
  obtain ⟨x0, x1, x2, x3, x4, x5, x6, x7, x8⟩ := x
  obtain ⟨y0, y1, y2, y3, y4, y5, y6, y7, y8⟩ := y
  by_cases hxy : x0 = y0
  · subst hxy
    by_cases hxy : x1 = y1
    · subst hxy
      by_cases hxy : x2 = y2
      · subst hxy
        by_cases hxy : x3 = y3
        · subst hxy
          by_cases hxy : x4 = y4
          · subst hxy
            by_cases hxy : x5 = y5
            · subst hxy
              by_cases hxy : x6 = y6
              · subst hxy
                by_cases hxy : x7 = y7
                · subst hxy
                  by_cases hxy : x8 = y8
                  · subst hxy
                    exact (eqw_all hx hy).mono fun e w2 h => ⟨true, h.1, ⟨fun _ => rfl, fun _ => rfl⟩, h.2⟩
                  · refine (eqw_8 hx hy hxy).mono fun e w2 h => ⟨false, h.1, ⟨fun h9 => ?_, fun h9 => ?_⟩, h.2⟩
                    · cases h9
                    · simp only [Prod.mk.injEq] at h9
                      exact absurd (by simp only [h9]) hxy
                · refine (eqw_7 hx hy hxy).mono fun e w2 h => ⟨false, h.1, ⟨fun h9 => ?_, fun h9 => ?_⟩, h.2⟩
                  · cases h9
                  · simp only [Prod.mk.injEq] at h9
                    exact absurd (by simp only [h9]) hxy
              · refine (eqw_6 hx hy hxy).mono fun e w2 h => ⟨false, h.1, ⟨fun h9 => ?_, fun h9 => ?_⟩, h.2⟩
                · cases h9
                · simp only [Prod.mk.injEq] at h9
                  exact absurd (by simp only [h9]) hxy
            · refine (eqw_5 hx hy hxy).mono fun e w2 h => ⟨false, h.1, ⟨fun h9 => ?_, fun h9 => ?_⟩, h.2⟩
              · cases h9
              · simp only [Prod.mk.injEq] at h9
                exact absurd (by simp only [h9]) hxy
          · refine (eqw_4 hx hy hxy).mono fun e w2 h => ⟨false, h.1, ⟨fun h9 => ?_, fun h9 => ?_⟩, h.2⟩
            · cases h9
            · simp only [Prod.mk.injEq] at h9
              exact absurd (by simp only [h9]) hxy
        · refine (eqw_3 hx hy hxy).mono fun e w2 h => ⟨false, h.1, ⟨fun h9 => ?_, fun h9 => ?_⟩, h.2⟩
          · cases h9
          · simp only [Prod.mk.injEq] at h9
            exact absurd (by simp only [h9]) hxy
      · refine (eqw_2 hx hy hxy).mono fun e w2 h => ⟨false, h.1, ⟨fun h9 => ?_, fun h9 => ?_⟩, h.2⟩
        · cases h9
        · simp only [Prod.mk.injEq] at h9
          exact absurd (by simp only [h9]) hxy
    · refine (eqw_1 hx hy hxy).mono fun e w2 h => ⟨false, h.1, ⟨fun h9 => ?_, fun h9 => ?_⟩, h.2⟩
      · cases h9
      · simp only [Prod.mk.injEq] at h9
        exact absurd (by simp only [h9]) hxy
  · refine (eqw_0 hx hy hxy).mono fun e w2 h => ⟨false, h.1, ⟨fun h9 => ?_, fun h9 => ?_⟩, h.2⟩
    · cases h9
    · simp only [Prod.mk.injEq] at h9
      exact absurd (by simp only [h9]) hxy

theorem eqWorld_nil {w : World} : Calls Try.prog 11 #[.pointer none, .pointer none] w fun e w' => e = .returned (.bool true) ∧ w' = w := by
  go_enter Try.func11, Try.ntmps11
  go_wp2
  go_ret
  exact ⟨rfl, rfl⟩
theorem eqWorld_one {w : World} (g o : Nat) : Calls Try.prog 11 #[.pointer (some ⟨g, o, none⟩), .pointer none] w fun e w' => e = .returned (.bool false) ∧ w' = w := by
  go_enter Try.func11, Try.ntmps11
  go_wp2
  go_ret
  exact ⟨rfl, rfl⟩

end Go.Proofs.Ytpefkellcigpkaa.Cd
