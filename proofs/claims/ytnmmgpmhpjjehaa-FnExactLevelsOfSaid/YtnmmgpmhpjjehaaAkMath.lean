/- All texts of steps from a height to 0, in order. -/
import Derived.Test.YtnmmgpmhpjjehaaMath
namespace Go.Proofs.Ytnmmgpmhpjjehaa
open Go.RowKit
set_option linter.unusedVariables false
def akC (j : Nat) : UInt8 := if j = 0 then 68 else if j = 1 then 70 else 85
def akP (j : Nat) (x : ByteArray) : ByteArray := (⟨#[akC j]⟩ : ByteArray) ++ x
def akL : Nat → Int → List ByteArray
  | 0, h => if h = 0 then [⟨#[]⟩] else []
  | n + 1, h => if h < 0 ∨ (n : Int) + 1 < h then [] else (akL n (h - 1)).map (akP 0) ++ (akL n h).map (akP 1) ++ (akL n (h + 1)).map (akP 2)
/-- what the first j letters give -/
def akT (n : Nat) (h : Int) : Nat → List ByteArray
  | 0 => []
  | j + 1 => akT n h j ++ (akL n (h + j - 1)).map (akP j)
theorem akL_no {n : Nat} {h : Int} (hh : h < 0 ∨ (n : Int) < h) : akL n h = [] := by
  cases n with
  | zero => unfold akL; rw [if_neg (by omega)]
  | succ n => unfold akL; rw [if_pos (by omega)]
theorem akL_step {n : Nat} {h : Int} (h0 : 0 ≤ h) (h1 : h ≤ (n : Int) + 1) : akL (n + 1) h = akT n h 3 := by
  rw [akL, if_neg (by omega), akT, akT, akT, akT, List.nil_append, show h + ((0 : Nat) : Int) - 1 = h - 1 by omega, show h + ((1 : Nat) : Int) - 1 = h by omega, show h + ((2 : Nat) : Int) - 1 = h + 1 by omega]
theorem akL_len : ∀ (n : Nat) (h : Int), (akL n h).length ≤ 3 ^ n
  | 0, h => by unfold akL; split <;> simp
  | n + 1, h => by
    have h1 := akL_len n (h - 1)
    have h2 := akL_len n h
    have h3 := akL_len n (h + 1)
    rw [akL]
    split
    · simp
    · simp only [List.length_append, List.length_map, Nat.pow_succ]; omega
theorem akT_len (n : Nat) (h : Int) : ∀ j, (akT n h j).length ≤ j * 3 ^ n
  | 0 => by simp [akT]
  | j + 1 => by
    have h1 := akT_len n h j
    have h2 := akL_len n (h + j - 1)
    rw [akT, List.length_append, List.length_map, Nat.succ_mul]
    omega
theorem akL_size : ∀ (n : Nat) (h : Int) (x : ByteArray), x ∈ akL n h → x.size = n
  | 0, h, x, hx => by
    unfold akL at hx
    split at hx
    · rw [List.mem_singleton] at hx; subst hx; rfl
    · cases hx
  | n + 1, h, x, hx => by
    have hp : ∀ j y, (akP j y).size = y.size + 1 := fun j y => by unfold akP; rw [ByteArray.size_append]; show 1 + y.size = _; omega
    rw [akL] at hx
    split at hx
    · cases hx
    · rw [List.mem_append, List.mem_append, List.mem_map, List.mem_map, List.mem_map] at hx
      rcases hx with (⟨y, hy, rfl⟩ | ⟨y, hy, rfl⟩) | ⟨y, hy, rfl⟩
      · rw [hp, akL_size n _ y hy]
      · rw [hp, akL_size n _ y hy]
      · rw [hp, akL_size n _ y hy]
theorem take_map_succ {α β : Type} (f : α → β) (L : List α) (k : Nat) (z : α) (hk : k < L.length) : (L.take (k + 1)).map f = (L.take k).map f ++ [f (L.getD k z)] := by
  rw [List.take_succ_eq_append_getElem hk, List.map_append, List.getD_eq_getElem?_getD, List.getElem?_eq_getElem hk]
  rfl
end Go.Proofs.Ytnmmgpmhpjjehaa
