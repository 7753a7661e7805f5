/- strings.Count of the ups. -/
import Derived.Test.YtlgiamgjimffnaaOwn
import Derived.Test.YtlgiamgjimffnaaRnbMath
import Derived.Lib.Bytealg
namespace Go.Proofs.Ytlgiamgjimffnaa
open Go.RowKit
set_option maxRecDepth 100000 in
set_option maxHeartbeats 400000 in
theorem countU_any (s : ByteArray) (w : World) :
    Calls Try.prog 82 #[.string s, .string ⟨#[85]⟩] w fun e w' => e = .returned (.int .i64 (cntU s.data.toList)) ∧ w = w' := by
  go_enter Try.func82, Try.ntmps82
  go_wp2
  rw [run_callFunc_extern Try.func122 (by kernel_rfl) (by kernel_rfl) (by kernel_rfl) (e := Extern.BytealgCount.count) (by kernel_rfl), Lib.run_countString]
  simp only [Result.andThen]
  rw [Oper.upon_value]
  go_wp2
  go_ret
  exact ⟨rfl, rfl⟩
end Go.Proofs.Ytlgiamgjimffnaa
