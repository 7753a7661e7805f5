/- The rank of a path among those that are never behind. -/
import Derived.Test.YtlgiamgjimffnaaNbMath
namespace Go.Proofs.Ytlgiamgjimffnaa
open Go.RowKit
def cntU (l : List UInt8) : Nat := l.count 85
theorem cntU_cons (c : UInt8) (l : List UInt8) : cntU (c :: l) = cntU l + if c == 85 then 1 else 0 := by simp [cntU, List.count_cons]
theorem cntU_le (l : List UInt8) : cntU l ≤ l.length := List.count_le_length
theorem dropc (s : ByteArray) (k : Nat) (h : k < s.size) : s.data.toList.drop k = s[k] :: s.data.toList.drop (k + 1) := by
  rw [List.drop_eq_getElem_cons (by simpa using h)]; rfl
theorem dropl (s : ByteArray) (k : Nat) : (s.data.toList.drop k).length = s.size - k := by simp
/-- how many come before, from what is left -/
def rkL (V : Int → Int → Int) : List UInt8 → Int → Int → Int
  | [], _, _ => 0
  | c :: l, u, d => if c == 85 then V u (d - 1) + rkL V l (u - 1) d else rkL V l u (d - 1)
theorem rkL_u {V : Int → Int → Int} {c : UInt8} {l : List UInt8} {u d : Int} (h : (c == 85) = true) : rkL V (c :: l) u d = V u (d - 1) + rkL V l (u - 1) d := by rw [rkL, if_pos h]
theorem rkL_d {V : Int → Int → Int} {c : UInt8} {l : List UInt8} {u d : Int} (h : (c == 85) = false) : rkL V (c :: l) u d = rkL V l u (d - 1) := by rw [rkL, if_neg (by simp [h])]
theorem rkL_bd (x y : Nat) (k l : Int) (h : x + y ≤ 40) : ∀ (t : List UInt8) (u d : Int), u ≤ x → d ≤ y → 0 ≤ rkL (WV x y k l) t u d ∧ rkL (WV x y k l) t u d ≤ 1099511627776 * t.length
  | [], u, d, _, _ => by simp [rkL]
  | c :: t, u, d, hu, hd => by
    have h1 := rkL_bd x y k l h t (u - 1) d (by omega) hd
    have h2 := rkL_bd x y k l h t u (d - 1) hu (by omega)
    have h3 := WV_bd x y k l u (d - 1) h hu (by omega)
    rw [List.length_cons, rkL]
    split <;> omega
/-- the rank -/
def rnbV (s : ByteArray) (k : Int) : Int := rkL (WV (cntU s.data.toList) (s.size - cntU s.data.toList) k 0) s.data.toList (cntU s.data.toList) ((s.size - cntU s.data.toList : Nat) : Int)
theorem rnbV_bd (s : ByteArray) (k : Int) (h40 : s.size ≤ 40) : 0 ≤ rnbV s k ∧ rnbV s k ≤ 43980465111040 := by
  have hc := cntU_le s.data.toList
  have hl : s.data.toList.length = s.size := by simp
  have h := rkL_bd (cntU s.data.toList) (s.size - cntU s.data.toList) k 0 (by omega) s.data.toList (cntU s.data.toList) ((s.size - cntU s.data.toList : Nat) : Int) (Int.le_refl _) (Int.le_refl _)
  rw [hl] at h
  unfold rnbV
  omega
end Go.Proofs.Ytlgiamgjimffnaa
