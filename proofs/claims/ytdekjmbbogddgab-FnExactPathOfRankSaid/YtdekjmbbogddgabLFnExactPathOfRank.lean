/- The walk of FnExactPathOfRank: it asks the model and the program and holds them against each other. -/
import Derived.Test.YtdekjmbbogddgabOwn
namespace Go.Proofs.Ytdekjmbbogddgab
open Go.RowKit

set_option maxHeartbeats 1000000 in
theorem wFnExactPathOfRank_main (a0 : Int) (a1 : Int) (a2 : Int) (ok : Bool) (x0 : ByteArray)
    (hS : Hid (∀ w, Calls Try.prog 31 #[.int .i64 a0, .int .i64 a1, .int .i64 a2] w (Ret w (.tuple #[.string x0, .bool ok])))) (hI : Hid (∀ w, Calls Try.prog 32 #[.int .i64 a0, .int .i64 a1, .int .i64 a2] w (Ret w (.tuple #[.string x0, .bool ok])))) (w : World)  :
    Calls Try.prog 10 #[.int .i64 a0, .int .i64 a1, .int .i64 a2] w fun e w' => e = .returned (.bool true) ∧ Below w.heap.size w w' := by
  go_enter Try.func10, Try.ntmps10
  go_wp2_with fail
  refine (hS.out _).mono ?_
  rintro e w1 ⟨rfl, hb0⟩
  go_wp2_with fail
  refine (hI.out _).mono ?_
  rintro e w2 ⟨rfl, hb1⟩
  go_wp2_with fail
  go_ret
  exact ⟨rfl, hb0.trans (hb1.mono hb0.size)⟩

end Go.Proofs.Ytdekjmbbogddgab
