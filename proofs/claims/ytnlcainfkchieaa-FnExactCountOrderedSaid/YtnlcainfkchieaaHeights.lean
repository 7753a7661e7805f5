/- HeightsOf (impl) and paHeights (spec). -/
import Derived.Test.YtnlcainfkchieaaPathOk
import Derived.Test.YtnlcainfkchieaaHtMath
import Derived.Test.YtnlcainfkchieaaOwn
import Derived.StillTailTactics
namespace Go.Proofs.Ytnlcainfkchieaa
open Go.RowKit

theorem stepI_68 {c : UInt8} (h : ((c.toNat : Int) == 68) = true) : stepI c = -1 := by
  simp at h; unfold stepI stepZ; rw [if_neg (by omega)]
theorem stepI_85 {c : UInt8} (hu : isUD c = true) (h : ((c.toNat : Int) == 68) = false) : stepI c = 1 := by
  rw [isUD_int, h] at hu; simp at hu; unfold stepI stepZ; rw [if_pos (by omega)]
theorem first_row {s : ByteArray} (w : World) : IRow (w.alloc (.cells #[.int .i64 0] 3)) w.heap.size (.slice (some ⟨w.heap.size, 0, none⟩) 1 1) (htsTo s 0) :=
  IRow.of_own (World.ownsRow_lit w #[.int .i64 0] 1 (Nat.le_refl _) (by simp [maxLen]) rfl) (by simp [htsTo]) (by simp [htsTo, hAt_zero])

end Go.Proofs.Ytnlcainfkchieaa
