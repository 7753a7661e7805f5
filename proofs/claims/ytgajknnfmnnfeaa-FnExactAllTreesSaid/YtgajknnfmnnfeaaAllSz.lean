/- All trees of up to 7 nodes are few. -/
import Derived.Test.YtgajknnfmnnfeaaAllMath
namespace Go.Proofs.Ytgajknnfmnnfeaa
open Go.RowKit
theorem allF_small : ∀ n, n < 8 → (allF n 1).flatten.length ≤ 1048576 := by decide +kernel
end Go.Proofs.Ytgajknnfmnnfeaa
