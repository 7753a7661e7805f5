/- Equal neighbours once: lists of bytes. -/
import Derived.Test.YtlgiamgjimffnaaTxtS
namespace Go.Proofs.Ytlgiamgjimffnaa
open Go.RowKit
set_option linter.unusedVariables false
def cAdd (T : List UInt8) (b : UInt8) : List UInt8 := if T.getLast? = some b then T else T ++ [b]
def cmpL (L : List UInt8) : List UInt8 := L.foldl cAdd []
theorem cmpL_snoc (L : List UInt8) (b : UInt8) : cmpL (L ++ [b]) = cAdd (cmpL L) b := by unfold cmpL; rw [List.foldl_append]; rfl
theorem cAdd_last (T : List UInt8) (b : UInt8) : (cAdd T b).getLast? = some b := by
  unfold cAdd
  split
  · assumption
  · simp
theorem cfold_last : ∀ (L T : List UInt8), (L.foldl cAdd T).getLast? = (T ++ L).getLast?
  | [], T => by simp
  | b :: L, T => by
    rw [List.foldl_cons, cfold_last L (cAdd T b)]
    cases L with
    | nil => rw [List.append_nil, cAdd_last]; simp
    | cons c L => rw [List.getLast?_append, List.getLast?_append, List.getLast?_cons_cons, List.getLast?_cons]; rfl
theorem cmpL_last (L : List UInt8) : (cmpL L).getLast? = L.getLast? := by unfold cmpL; rw [cfold_last]; simp
theorem cmpL_take {xs : List UInt8} {m : Nat} (h0 : 1 ≤ m) (hm : m < xs.length) : cmpL (xs.take (m + 1)) = if xs[m] = xs[m - 1] then cmpL (xs.take m) else cmpL (xs.take m) ++ [xs[m]] := by
  rw [List.take_succ_eq_append_getElem hm, cmpL_snoc]
  unfold cAdd
  have h2 : (xs.take m).getLast? = some xs[m - 1] := by
    rw [List.getLast?_eq_getElem?, List.length_take, show min m xs.length - 1 = m - 1 by omega, List.getElem?_take, if_pos (by omega), List.getElem?_eq_getElem (by omega)]
  rw [cmpL_last, h2]
  by_cases e : xs[m] = xs[m - 1]
  · rw [if_pos e, if_pos (by rw [e])]
  · rw [if_neg e, if_neg (fun h => e (by injection h with h; exact h.symm))]
theorem cmpL_one (xs : List UInt8) (h : 1 ≤ xs.length) : cmpL (xs.take 1) = xs.take 1 := by
  cases xs with
  | nil => simp at h
  | cons x l => rfl
theorem cmpL_small (xs : List UInt8) (h : xs.length < 2) : cmpL xs = xs := by
  match xs, h with
  | [], _ => rfl
  | [x], _ => rfl
/-! ### the signs of a path -/
def sgL (s : ByteArray) (lo hi : Int) : Nat → List UInt8
  | 0 => []
  | k + 1 => if hAt s k = lo then sgL s lo hi k ++ [108] else if hAt s k = hi then sgL s lo hi k ++ [104] else sgL s lo hi k
theorem sgL_len (s : ByteArray) (lo hi : Int) : ∀ k, (sgL s lo hi k).length ≤ k
  | 0 => by simp [sgL]
  | k + 1 => by
    have := sgL_len s lo hi k
    rw [sgL]
    split
    · rw [List.length_append]; simp; omega
    · split
      · rw [List.length_append]; simp; omega
      · omega
theorem last_extract {T : List UInt8} {b : UInt8} (h : T ≠ []) : ((strOf T).extract ((strOf T).size - 1) (strOf T).size).toList = [b] ↔ T.getLast? = some b := by
  have hl : 1 ≤ T.length := by
    cases T with
    | nil => exact absurd rfl h
    | cons a l => simp
  rw [ByteArray.toList_eq, strOf_size, ByteArray.data_extract, Array.toList_extract]
  show (T.toArray.toList.extract (T.length - 1) T.length) = [b] ↔ _
  rw [List.toList_toArray, List.extract_eq_take_drop, show T.length - (T.length - 1) = 1 by omega, List.getLast?_eq_getElem?]
  rw [List.drop_eq_getElem_cons (show T.length - 1 < T.length by omega), List.getElem?_eq_getElem (show T.length - 1 < T.length by omega), List.take_succ_cons, List.take_zero]
  simp only [List.cons.injEq, and_true, Option.some.injEq]
theorem addS_str (T : List UInt8) (b : UInt8) : addS (strOf T) b = strOf (cAdd T b) := by
  have e : (strOf T ++ ⟨#[b]⟩ : ByteArray) = strOf (T ++ [b]) := by
    apply ByteArray.ext
    apply Array.toList_inj.1
    simp [strOf]
  have e0 : (strOf T).toList = T := by rw [ByteArray.toList_eq, strOf_list]
  unfold addS cAdd
  rw [e0]
  by_cases h : T = []
  · subst h
    rw [if_pos (.inl rfl), if_neg (by simp), e]
  · by_cases h2 : T.getLast? = some b
    · rw [if_pos h2, if_neg]
      rintro (h3 | h3)
      · exact h h3
      · exact h3 ((last_extract h).2 h2)
    · rw [if_neg h2, if_pos (.inr fun h3 => h2 ((last_extract h).1 h3)), e]
theorem tx_sg (s : ByteArray) (lo hi : Int) : ∀ k, txTo s lo hi k = strOf (cmpL (sgL s lo hi k))
  | 0 => rfl
  | k + 1 => by
    rw [txTo, sgL, tx_sg s lo hi k]
    split
    · rw [cmpL_snoc, addS_str]
    · split
      · rw [cmpL_snoc, addS_str]
      · rfl
end Go.Proofs.Ytlgiamgjimffnaa
