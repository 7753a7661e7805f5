/- Pack 44 of what FnExactFirstApart needs: FaE, WFnExactFirstApart. -/
import Derived.Test.YtnlmjeakdjmohaaKFnExactFirstApart43
/- FirstApart: what the program and the model answer is one; how long it is. -/
namespace Go.Proofs.Ytnlmjeakdjmohaa
open Go.RowKit
set_option linter.unusedVariables false
theorem fa_fs (n : Nat) (xs : List Int) (m : Nat) (ys : List Int) : fsO n xs m ys = faO n xs m ys := by
  unfold fsO faO
  by_cases h : askC n xs m ys = true
  · rw [if_pos h, if_pos h]
    have ht : tdB n xs = true := by
      unfold askC at h
      rw [Bool.and_eq_true, Bool.and_eq_true, Bool.and_eq_true] at h
      exact h.1.1.2
    exact (fp_fm (td_le ht) _ _).symm
  · rw [if_neg h, if_neg h]
theorem fpR_len {S E : Nat → Int × Int} : ∀ (f i : Nat) (tk : Int → Int → Bool) (L M : List Wy), fpR S E f i tk L = some M → M.length = L.length + f
  | 0, i, tk, L, M, h => by
    rw [fpR_zero] at h
    injection h with h
    rw [h]
    rfl
  | f + 1, i, tk, L, M, h => by
    cases hh : (spF tk (E i).1 (E i).2 25 (S i).1 (S i).2).head? with
    | none => rw [fpR_none hh] at h; cases h
    | some s =>
      rw [fpR_some hh] at h
      have := fpR_len f _ _ _ M h
      rw [this, List.length_append, List.length_singleton]
      omega
theorem faO_len (n : Nat) (xs : List Int) (m : Nat) (ys : List Int) : ((faO n xs m ys).getD []).length ≤ 1048576 := by
  unfold faO
  by_cases h : askC n xs m ys = true
  · rw [if_pos h]
    have hg : gdB n xs m ys = true := by
      unfold askC at h
      rw [Bool.and_eq_true, Bool.and_eq_true, Bool.and_eq_true] at h
      exact h.1.1.1
    obtain ⟨emn, hn4, hgx, hgy⟩ := gdB_of hg
    cases e : fpR (celF xs) (celF ys) n 0 (hasF 0 []) [] with
    | none => exact Nat.zero_le _
    | some M =>
      have := fpR_len _ _ _ _ _ e
      show M.length ≤ _
      rw [this, List.length_nil]
      omega
  · rw [if_neg h]
    exact Nat.zero_le _
end Go.Proofs.Ytnlmjeakdjmohaa

/- FnExactFirstApart for every argument. -/
namespace Go.Proofs.Ytnlmjeakdjmohaa
open Go.RowKit
set_option linter.unusedVariables false
theorem wFnExactFirstApart (v1 : Value) (n : Nat) (xs : List Int) (v2 : Value) (m : Nat) (ys : List Int) (w : World) (h1 : RCels w v1 n xs) (h2 : RCels w v2 m ys) :
    Calls Try.prog 3 #[v1, v2] w fun e w' => e = .returned (.bool true) ∧ Below w.heap.size w w' :=
  wFnExactFirstApart_main v1 n xs v2 m ys w h1 h2 fun hn hm left2 hl2 left hl HZ1 HZ2 =>
    wFnExactFirstApart_core v1 n xs v2 m ys (faO n xs m ys).isSome ((faO n xs m ys).getD []) (faO_len n xs m ys)
      (Lib.hid fun u1 u2 w a b => by rw [← fa_fs]; exact specFirstApart_ret u1 u2 n m xs ys w a b hn hm) (Lib.hid fun u1 u2 w a b => firstApartI_ret u1 u2 n m xs ys w a b hn hm) left2 hl2 left hl w h1 h2 hn hm HZ1 HZ2
end Go.Proofs.Ytnlmjeakdjmohaa
