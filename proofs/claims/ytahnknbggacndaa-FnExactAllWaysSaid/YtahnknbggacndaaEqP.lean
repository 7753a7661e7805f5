/- Two places are compared. -/
import Derived.Test.YtahnknbggacndaaPOwn
import Derived.ChangeKeysEq
namespace Go.Proofs.Ytahnknbggacndaa
open Go.RowKit
set_option linter.unusedVariables false
theorem eq_place (w : World) (x y p q : Int) : (Op.equalIn 10000 93 (.agg #[.int .i64 x, .int .i64 y]) (.agg #[.int .i64 p, .int .i64 q])).run Try.prog w = .ok (x == p && y == q) w := by
  obtain ⟨i0, hi0, _⟩ := info_parts intInfo
  have hc : Try.prog.cellsOf 3 = 1 := by kernel_rfl
  have hp : Try.prog.plainKey 3 = true := by kernel_rfl
  have hu : Try.prog.underlying 93 = some (.array 2 3) := by kernel_rfl
  have p0 : (part 3 #[Value.int .i64 x, .int .i64 y] 0).run Try.prog w = .ok (.int .i64 x) w := run_part_plain w hp rfl
  have p1 : (part 3 #[Value.int .i64 x, .int .i64 y] 1).run Try.prog w = .ok (.int .i64 y) w := run_part_plain w hp rfl
  have p2 : (part 3 #[Value.int .i64 p, .int .i64 q] 0).run Try.prog w = .ok (.int .i64 p) w := run_part_plain w hp rfl
  have p3 : (part 3 #[Value.int .i64 p, .int .i64 q] 1).run Try.prog w = .ok (.int .i64 q) w := run_part_plain w hp rfl
  have Q : ∀ a b : Int, (Op.equalIn 9999 3 (.int .i64 a) (.int .i64 b)).run Try.prog w = .ok (a == b) w := fun a b => run_equalIn_int w 9998 3 .i64 .i64 a b Try.underlying3
  obtain ⟨c1, h1⟩ : ∃ c, c = (x == p) := ⟨_, rfl⟩
  obtain ⟨c2, h2⟩ : ∃ c, c = (y == q) := ⟨_, rfl⟩
  have q1 := Q x p
  have q2 := Q y q
  rw [← h1] at q1 ⊢
  rw [← h2] at q2 ⊢
  rw [run_equalIn_array w 9999 _ _ hu hi0, hc, show List.range 2 = [0, 1] from rfl]
  simp only [Op.eqItems, Sem.run_bind, Nat.zero_mul, Nat.one_mul, p0, p2, Result.andThen_ok, q1]
  cases c1
  · cases c2 <;> rfl
  · simp only [Bool.not_true, Bool.false_eq_true, if_false, Sem.run_bind, p1, p3, Result.andThen_ok, q2]
    cases c2 <;> rfl
end Go.Proofs.Ytahnknbggacndaa
