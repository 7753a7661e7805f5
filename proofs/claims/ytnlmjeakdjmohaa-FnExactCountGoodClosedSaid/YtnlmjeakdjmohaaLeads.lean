/- leadsAlong, baMargin: all margins; firstBelow, baFirst: the first that is too small. -/
import Derived.Test.YtnlmjeakdjmohaaPathOk
import Derived.Test.YtnlmjeakdjmohaaLists
import Derived.Test.YtnlmjeakdjmohaaBalMath
import Derived.Test.YtnlmjeakdjmohaaInB
import Derived.Test.YtnlmjeakdjmohaaRatMath
namespace Go.Proofs.Ytnlmjeakdjmohaa
open Go.RowKit
theorem inK_inB (k : Int) : inB k 1 5 = inK k := rfl
set_option maxHeartbeats 400000 in
theorem isFactor_any (k : Int) (w : World) : Calls Try.prog 153 #[.int .i64 k] w fun e w' => e = .returned (.bool (inK k)) ∧ w = w' := by
  by_cases h1 : 1 ≤ k
  · by_cases h2 : k ≤ 5
    · rw [inK_yes ⟨h1, h2⟩]
      go_enter Try.func153, Try.ntmps153
      go_wp2
      go_ret
      exact ⟨rfl, rfl⟩
    · rw [inK_no (fun h => h2 h.2)]
      go_enter Try.func153, Try.ntmps153
      go_wp2
      go_ret
      exact ⟨rfl, rfl⟩
  · rw [inK_no (fun h => h1 h.1)]
    go_enter Try.func153, Try.ntmps153
    go_wp2
    go_ret
    exact ⟨rfl, rfl⟩
theorem balOk_of {s : ByteArray} {k : Int} (h : balOk s k = true) : pathB s = true ∧ 1 ≤ k ∧ k ≤ 5 := by
  unfold balOk at h
  rw [Bool.and_eq_true] at h
  exact ⟨h.1, inK_of h.2⟩
def mgsV (s : ByteArray) (k : Int) : List Int := if balOk s k then mgs s k else []
end Go.Proofs.Ytnlmjeakdjmohaa
