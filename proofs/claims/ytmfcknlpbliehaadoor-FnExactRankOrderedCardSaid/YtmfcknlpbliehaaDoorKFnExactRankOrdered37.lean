/- Pack 37 of what FnExactRankOrdered needs: VoTab, Shrink. -/
import Derived.Test.YtmfcknlpbliehaaDoorKFnExactRankOrdered36
/- TableOfVotes: the model. -/
namespace Go.Proofs.YtmfcknlpbliehaaDoor
open Go.RowKit
set_option linter.unusedVariables false
def taV (s : ByteArray) : List (List Int) := if oB s = true then tbS s s.size else []
theorem taV_len (s : ByteArray) : (taV s).length ≤ 4 := by unfold taV; split <;> simp [tbS]
theorem taV_flat (s : ByteArray) : (taV s).flatten.length ≤ 16 := by
  unfold taV
  split
  · rename_i h
    have hv := (oB_of h).1
    rw [tbS_size s hv]
    exact ((votB_iff s).1 hv).1
  · simp
end Go.Proofs.YtmfcknlpbliehaaDoor

/- A slice of the call's own, cut short: s[:k]. -/
namespace Go.Proofs.YtmfcknlpbliehaaDoor
open Go.RowKit
theorem IRow.shrink {w : World} {B g c n : Nat} {xs : List Int} (h : IRow w B (.slice (some ⟨g, 0, none⟩) n c) xs) (k : Nat) (hk : k ≤ xs.length) :
    IRow w B (.slice (some ⟨g, 0, none⟩) k c) (xs.take k) := by
  have h1 := h.1
  rcases h.2 with ⟨h2, _⟩ | ⟨g', cap, cur, h2, hB, hg, hn, hm, hs, ht⟩
  · cases h2
  · injection h2 with e1 e2 e3
    injection e1 with e1
    injection e1 with e1
    subst e1 e3
    have hlen : (xs.take k).length = k := by rw [List.length_take]; omega
    unfold IRow
    rw [hlen]
    refine ⟨by rw [List.length_map, hlen, Nat.mul_one], .inr ⟨g, c, cur, rfl, hB, hg, by omega, hm, hs, ?_⟩⟩
    rw [List.map_take, ← ht, List.take_take, Nat.mul_one, Nat.mul_one, Nat.min_eq_left hk]
theorem IRow.apart {w w' : World} {B : Nat} {v : Value} {xs : List Int} {r : Option Nat} (h : IRow w B v xs) (hg : w.grownBy w' r) (hne : ∀ k, v.ownBlock = some k → some k ≠ r) : IRow w' B v xs :=
  World.ownsRow.kept h hg (by
    cases e : v.ownBlock with
    | none => exact .inl rfl
    | some k => exact .inr (hne k e))
end Go.Proofs.YtmfcknlpbliehaaDoor
