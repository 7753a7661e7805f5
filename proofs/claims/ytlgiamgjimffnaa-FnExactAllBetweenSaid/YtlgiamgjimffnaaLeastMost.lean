/- l1Least, l1Most. -/
import Derived.Test.YtlgiamgjimffnaaOwn
namespace Go.Proofs.Ytlgiamgjimffnaa
open Go.RowKit
theorem least_any (a b : Int) (w : World) : Calls Try.prog 130 #[.int .i64 a, .int .i64 b] w fun e w' => e = .returned (.int .i64 (if b < a then b else a)) ∧ w = w' := by
  by_cases h : a < b
  · rw [if_neg (by omega)]
    go_enter Try.func130, Try.ntmps130
    go_wp2
    go_ret
    exact ⟨rfl, rfl⟩
  · have e : (if b < a then b else a) = b := by split <;> omega
    rw [e]
    clear e
    go_enter Try.func130, Try.ntmps130
    go_wp2
    go_ret
    exact ⟨rfl, rfl⟩
theorem most_any (a b : Int) (w : World) : Calls Try.prog 131 #[.int .i64 a, .int .i64 b] w fun e w' => e = .returned (.int .i64 (if a < b then b else a)) ∧ w = w' := by
  by_cases h : b < a
  · rw [if_neg (by omega)]
    go_enter Try.func131, Try.ntmps131
    go_wp2
    go_ret
    exact ⟨rfl, rfl⟩
  · have e : (if a < b then b else a) = b := by split <;> omega
    rw [e]
    clear e
    go_enter Try.func131, Try.ntmps131
    go_wp2
    go_ret
    exact ⟨rfl, rfl⟩
end Go.Proofs.Ytlgiamgjimffnaa
