/- Ways without a bound on their steps; the letters of a way. -/
import Derived.Test.YtahnknbggacndaaPcMath
namespace Go.Proofs.Ytahnknbggacndaa
open Go.RowKit
set_option linter.unusedVariables false
theorem txT_list (s : ByteArray) : txT s.data.toList = s := by
  apply ByteArray.ext
  apply Array.toList_inj.1
  simp [txT]
theorem ok_sum {s : ByteArray} {x y : Int} : ∀ {k : Nat}, okW s x y k = true → cX s x k + cY s y k = x + y + k
  | 0, _ => by simp [cX, cY]
  | k + 1, h => by
    have h1 := okW_le h (Nat.le_succ k)
    have ih := ok_sum h1
    unfold okW at h
    rw [Bool.and_eq_true, Bool.and_eq_true, Bool.or_eq_true, beq_iff_eq, beq_iff_eq] at h
    have hb := h.2.1
    show (cX s x k + if bt s k = 69 then 1 else 0) + (cY s y k + if bt s k = 78 then 1 else 0) = _
    rcases hb with e | e
    · rw [if_pos e, if_neg (by omega)]
      omega
    · rw [if_neg (by omega), if_pos e]
      omega
theorem ok_24 {s : ByteArray} {x y : Int} {k : Nat} (h0 : cellB x y = true) (h : okW s x y k = true) : k ≤ 24 := by
  have h1 := (cellB_iff _ _).1 (okW_cell h0 h)
  have h2 := ok_sum h
  have h3 := (cellB_iff _ _).1 h0
  omega
theorem wayB_alt (x y : Int) (s : ByteArray) : (cellB x y && okW s x y s.size) = wayB x y s := by
  unfold wayB
  cases h0 : cellB x y with
  | false => rfl
  | true =>
    cases h : okW s x y s.size with
    | false => simp
    | true =>
      rw [decide_eq_true (ok_24 h0 h)]
      rfl
theorem way_en {x y : Int} {s : ByteArray} (h : wayB x y s = true) : enB s.data.toList := by
  intro c hc
  obtain ⟨h1, h2, h3⟩ := wayB_of h
  obtain ⟨k, hk, rfl⟩ := List.getElem_of_mem hc
  have hk2 : k < s.size := by simpa using hk
  have h4 := okW_le h3 (show k + 1 ≤ s.size by omega)
  unfold okW at h4
  rw [Bool.and_eq_true, Bool.and_eq_true, Bool.or_eq_true, beq_iff_eq, beq_iff_eq, bt_at _ hk2] at h4
  have e : s.data.toList[k] = s[k] := rfl
  rw [e]
  have hb := h4.2.1
  rcases hb with hb | hb
  · left
    apply UInt8.toNat_inj.1
    show (s[k]).toNat = 69
    omega
  · right
    apply UInt8.toNat_inj.1
    show (s[k]).toNat = 78
    omega
/-- the cells of a way, as pairs -/
theorem way_has {x y : Int} {s : ByteArray} (h : wayB x y s = true) (a b : Int) : hasF (s.size + 1) (clF s x y s.size) a b = (pcs x y s.data.toList).contains (a, b) := by
  have := hasF_pcs (x := x) (y := y) (way_en h) a b
  rw [txT_list, show s.data.toList.length = s.size by simp] at this
  exact this
end Go.Proofs.Ytahnknbggacndaa
