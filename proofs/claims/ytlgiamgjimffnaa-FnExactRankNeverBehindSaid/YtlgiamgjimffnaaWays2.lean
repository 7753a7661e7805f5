/- waysOn, at every tally. -/
import Derived.Test.YtlgiamgjimffnaaWays
import Derived.Test.YtlgiamgjimffnaaPorMath
namespace Go.Proofs.Ytlgiamgjimffnaa
open Go.RowKit
theorem waysOn_any (a b mb : Nat) (k l : Int) (hab : a + b ≤ 40) (hk : 1 ≤ k ∧ k ≤ 5) : ∀ (N : Nat) (u d : Int) (w : World), (u + d + 2).toNat ≤ N → -1 ≤ u ∧ u ≤ a → -1 ≤ d ∧ d ≤ b → MapOk w mb (WV a b k l) →
    Calls Try.prog 124 #[ballotV a b k l mb, .agg #[.int .i64 u, .int .i64 d]] w (WaysRet w mb (WV a b k l) (WV a b k l u d)) := by
  intro N
  induction N with
  | zero =>
    intro u d w hN hu hd h
    have e : WV a b k l u d = 0 := by unfold WV; rw [wv_neg (by omega)]; rfl
    rw [e]
    exact waysOn_neg a b mb k l u d _ w h (by omega)
  | succ N ih =>
    intro u d w hN hu hd h
    by_cases hneg : u < 0 ∨ d < 0
    · have e : WV a b k l u d = 0 := by unfold WV; rw [wv_neg hneg]; rfl
      rw [e]
      exact waysOn_neg a b mb k l u d _ w h hneg
    · by_cases hlow : ¬ (u = a ∧ d = b) ∧ leadV a b k u d < l
      · have e : WV a b k l u d = 0 := by unfold WV; rw [wv_low hlow.1 hlow.2]; rfl
        rw [e]
        exact waysOn_low a b mb k l u d _ w h hab hk (by omega) (by omega) hlow.1 hlow.2
      · have hgood : ¬ (u = a ∧ d = b) → ¬ leadV a b k u d < l := fun h1 h2 => hlow ⟨h1, h2⟩
        refine waysOn_step a b mb k l u d (WV a b k l u (d - 1)) (WV a b k l (u - 1) d) _ w h ?_ hab (by omega) (by omega)
        constructor
        · intro W hW
          exact (without_d u d 68 W rfl (by omega) (by omega)).mono fun _ _ ⟨h1, h2⟩ => ⟨h1, hW.below h2⟩
        · intro W hW
          exact (without_u u d W (by omega) (by omega)).mono fun _ _ ⟨h1, h2⟩ => ⟨h1, hW.below h2⟩
        · intro W hW
          exact (ih u (d - 1) W (by omega) (by omega) (by omega) hW.map).mono fun _ _ ⟨h1, h2, h3⟩ => ⟨h1, hW.step h2 h3⟩
        · intro W hW
          exact (ih (u - 1) d W (by omega) (by omega) (by omega) hW.map).mono fun _ _ ⟨h1, h2, h3⟩ => ⟨h1, hW.step h2 h3⟩
        · intro hne W hW
          exact (leadWith_any a b mb k l u d W hab hk (by omega) (by omega)).mono fun _ _ ⟨h1, h2⟩ => ⟨_, h1, hgood hne, hW.below h2⟩
        · intro h0
          unfold WV
          rw [wv_step (by omega) (by omega) (by omega) (by omega) h0 hgood]
          simp
        · intro h0
          obtain ⟨rfl, rfl⟩ := h0
          unfold WV
          rw [wv_one (by simpa using hgood)]
          rfl
        · have := wv_small a b k l u (d - 1) hab (by omega) (by omega)
          unfold WV; omega
        · have := wv_small a b k l (u - 1) d hab (by omega) (by omega)
          unfold WV; omega
theorem ways_at (a b mb : Nat) (k l u d : Int) (w : World) (hab : a + b ≤ 40) (hk : 1 ≤ k ∧ k ≤ 5) (hu : -1 ≤ u ∧ u ≤ a) (hd : -1 ≤ d ∧ d ≤ b) (h : MapOk w mb (WV a b k l)) :
    Calls Try.prog 124 #[.agg #[.int .i64 a, .int .i64 b, .int .i64 k, .int .i64 l, .map (some mb)], .agg #[.int .i64 u, .int .i64 d]] w (WaysRet w mb (WV a b k l) (WV a b k l u d)) :=
  waysOn_any a b mb k l hab hk _ u d w (Nat.le_refl _) hu hd h
end Go.Proofs.Ytlgiamgjimffnaa
