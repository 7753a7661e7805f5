/- Ways with steps in both directions at once: the sums over those steps against the recurrences, both against tables. -/
import Derived.Test.YtnmmgpmhpjjehaaDelMath
import Derived.Test.YtnmmgpmhpjjehaaTieMath
import Derived.KernelRfl
namespace Go.Proofs.Ytnmmgpmhpjjehaa
open Go.RowKit
set_option linter.unusedVariables false
def tabDe : List (List Nat) := [
  [1, 1, 1, 1, 1, 1, 1, 1, 1, 1, 1, 1, 1],
  [1, 3, 5, 7, 9, 11, 13, 15, 17, 19, 21, 23, 25],
  [1, 5, 13, 25, 41, 61, 85, 113, 145, 181, 221, 265, 313],
  [1, 7, 25, 63, 129, 231, 377, 575, 833, 1159, 1561, 2047, 2625],
  [1, 9, 41, 129, 321, 681, 1289, 2241, 3649, 5641, 8361, 11969, 16641],
  [1, 11, 61, 231, 681, 1683, 3653, 7183, 13073, 22363, 36365, 56695, 85305],
  [1, 13, 85, 377, 1289, 3653, 8989, 19825, 40081, 75517, 134245, 227305, 369305],
  [1, 15, 113, 575, 2241, 7183, 19825, 48639, 108545, 224143, 433905, 795455, 1392065],
  [1, 17, 145, 833, 3649, 13073, 40081, 108545, 265729, 598417, 1256465, 2485825, 4673345],
  [1, 19, 181, 1159, 5641, 22363, 75517, 224143, 598417, 1462563, 3317445, 7059735, 14218905],
  [1, 21, 221, 1561, 8361, 36365, 134245, 433905, 1256465, 3317445, 8097453, 18474633, 39753273],
  [1, 23, 265, 2047, 11969, 56695, 227305, 795455, 2485825, 7059735, 18474633, 45046719, 103274625],
  [1, 25, 313, 2625, 16641, 85305, 369305, 1392065, 4673345, 14218905, 39753273, 103274625, 251595969]]
def tabSc : List (List Nat) := [
  [1, 1, 1, 1, 1, 1, 1, 1, 1, 1, 1, 1, 1],
  [0, 2, 4, 6, 8, 10, 12, 14, 16, 18, 20, 22, 24],
  [0, 0, 6, 16, 30, 48, 70, 96, 126, 160, 198, 240, 286],
  [0, 0, 0, 22, 68, 146, 264, 430, 652, 938, 1296, 1734, 2260],
  [0, 0, 0, 0, 90, 304, 714, 1408, 2490, 4080, 6314, 9344, 13338],
  [0, 0, 0, 0, 0, 394, 1412, 3534, 7432, 14002, 24396, 40054, 62736],
  [0, 0, 0, 0, 0, 0, 1806, 6752, 17718, 39152, 77550, 142000, 244790],
  [0, 0, 0, 0, 0, 0, 0, 8558, 33028, 89898, 206600, 426150, 812940],
  [0, 0, 0, 0, 0, 0, 0, 0, 41586, 164512, 461010, 1093760, 2332850],
  [0, 0, 0, 0, 0, 0, 0, 0, 0, 206098, 831620, 2386390, 5813000],
  [0, 0, 0, 0, 0, 0, 0, 0, 0, 0, 1037718, 4255728, 12455118],
  [0, 0, 0, 0, 0, 0, 0, 0, 0, 0, 0, 5293446, 22004292],
  [0, 0, 0, 0, 0, 0, 0, 0, 0, 0, 0, 0, 27297738]]
def dAt (y x : Nat) : Nat := (tabDe.getD y []).getD x 0
def sAt (y x : Nat) : Nat := (tabSc.getD y []).getD x 0
def checkD : Bool := (List.range 12).all fun y => (List.range 12).all fun x => dAt (y + 1) (x + 1) == dAt y (x + 1) + dAt (y + 1) x + dAt y x
def checkD0 : Bool := (List.range 13).all fun y => dAt y 0 == 1 && dAt 0 y == 1
def checkS : Bool := (List.range 12).all fun y => (List.range 12).all fun x => sAt (y + 1) (x + 1) == if x < y then 0 else sAt y (x + 1) + sAt y x + sAt (y + 1) x
def checkS0 : Bool := (List.range 13).all fun y => sAt 0 y == 1 && (y == 0 || sAt y 0 == 0)
theorem checkD_ok : checkD = true := by kernel_rfl
theorem checkD0_ok : checkD0 = true := by kernel_rfl
theorem checkS_ok : checkS = true := by kernel_rfl
theorem checkS0_ok : checkS0 = true := by kernel_rfl
theorem del_tab : ∀ y x, y ≤ 12 → x ≤ 12 → del y x = dAt y x
  | y, 0, hy, _ => by
    have h := all_range checkD0_ok (i := y) (by omega)
    rw [Bool.and_eq_true, beq_iff_eq] at h
    rw [del_head, h.1]
  | 0, x + 1, _, hx => by
    have h := all_range checkD0_ok (i := x + 1) (by omega)
    rw [Bool.and_eq_true, beq_iff_eq, beq_iff_eq] at h
    rw [h.2]
    rfl
  | y + 1, x + 1, hy, hx => by
    have h := all_range (all_range checkD_ok (i := y) (by omega)) (i := x) (by omega)
    rw [beq_iff_eq] at h
    rw [del_step, del_tab y (x + 1) (by omega) hx, del_tab (y + 1) x hy (by omega), del_tab y x (by omega) (by omega), h]
theorem sch_tab : ∀ y x, y ≤ 12 → x ≤ 12 → sch y x = sAt y x
  | 0, x, _, hx => by
    have h := all_range checkS0_ok (i := x) (by omega)
    rw [Bool.and_eq_true, beq_iff_eq] at h
    rw [h.1]
    rfl
  | y + 1, 0, hy, _ => by
    have h := all_range checkS0_ok (i := y + 1) (by omega)
    rw [Bool.and_eq_true, Bool.or_eq_true, beq_iff_eq, beq_iff_eq, beq_iff_eq] at h
    rw [sch_low _ _ (by omega), h.2.resolve_left (by omega)]
  | y + 1, x + 1, hy, hx => by
    have h := all_range (all_range checkS_ok (i := y) (by omega)) (i := x) (by omega)
    rw [beq_iff_eq] at h
    rw [sch_step, sch_tab y (x + 1) (by omega) hx, sch_tab (y + 1) x hy (by omega), sch_tab y x (by omega) (by omega), h]
/-- the sum over the first j numbers of steps both at once -/
def bS (c : Nat → Nat → Nat) (m n : Nat) : Nat → Nat
  | 0 => 0
  | j + 1 => bS c m n j + c (m - j) (n - j) * chs (m + n - j) j
def bP (c : Nat → Nat → Nat) (m n : Nat) : Nat → Nat
  | 0 => 0
  | j + 1 => bP c m n j + c (m - j) (n - j) * pAt (m + n - j) j
theorem bS_tab {c c' : Nat → Nat → Nat} {m n : Nat} (hm : m ≤ 12) (hn : n ≤ 12) (hc : ∀ a b, a ≤ 12 → b ≤ 12 → c a b = c' a b) : ∀ j, j ≤ min m n + 1 → bS c m n j = bP c' m n j
  | 0, _ => rfl
  | j + 1, hj => by rw [bS, bP, bS_tab hm hn hc j (by omega), hc _ _ (by omega) (by omega), chs_tab _ _ (by omega) (by omega)]
def cP (a b : Nat) : Nat := pAt (b + a) a
def cC (a b : Nat) : Nat := pAt (a + b) a / (a + 1)
def checkBo : Bool := (List.range 13).all fun n => (List.range 13).all fun m => bP cP m n (min m n + 1) == dAt n m
def checkCa : Bool := (List.range 13).all fun n => bP cC n n (n + 1) == sAt n n
theorem checkBo_ok : checkBo = true := by kernel_rfl
theorem checkCa_ok : checkCa = true := by kernel_rfl
def cCh (a b : Nat) : Nat := chs (b + a) a
def cCat (a b : Nat) : Nat := chs (a + b) a / (a + 1)
theorem both_del {m n : Nat} (hm : m ≤ 12) (hn : n ≤ 12) : bS cCh m n (min m n + 1) = del n m := by
  rw [bS_tab (c' := cP) hm hn (fun a b ha hb => by unfold cCh cP; exact chs_tab _ _ (by omega) (by omega)) _ (Nat.le_refl _), del_tab _ _ hn hm]
  have h := all_range (all_range checkBo_ok (i := n) (by omega)) (i := m) (by omega)
  rwa [beq_iff_eq] at h
theorem both_sch {n : Nat} (hn : n ≤ 12) : bS cCat n n (n + 1) = sch n n := by
  rw [bS_tab (c' := cC) hn hn (fun a b ha hb => by unfold cCat cC; rw [chs_tab _ _ (by omega) (by omega)]) _ (by omega), sch_tab _ _ hn hn]
  have h := all_range checkCa_ok (i := n) (by omega)
  rwa [beq_iff_eq] at h
theorem chs24 {a b k : Nat} (ha : a ≤ 24) : chs a k ≤ 16777216 := by
  have h1 := chs_le a k
  have h2 : 2 ^ a ≤ 2 ^ 24 := Nat.pow_le_pow_right (by omega) ha
  have h3 : (2 : Nat) ^ 24 = 16777216 := by decide
  omega
theorem bS_bd {c : Nat → Nat → Nat} {m n : Nat} (hm : m ≤ 12) (hn : n ≤ 12) (hc : ∀ a b, a ≤ 12 → b ≤ 12 → c a b ≤ 16777216) : ∀ j, j ≤ min m n + 1 → bS c m n j ≤ j * 281474976710656
  | 0, _ => by simp [bS]
  | j + 1, hj => by
    have h1 := bS_bd hm hn hc j (by omega)
    have h2 := Nat.mul_le_mul (hc (m - j) (n - j) (by omega) (by omega)) (chs24 (b := 0) (k := j) (show m + n - j ≤ 24 by omega))
    rw [bS, Nat.succ_mul]
    omega
theorem cCh_le {a b : Nat} (ha : a ≤ 12) (hb : b ≤ 12) : cCh a b ≤ 16777216 := chs24 (b := 0) (by omega)
theorem cCat_le {a b : Nat} (ha : a ≤ 12) (hb : b ≤ 12) : cCat a b ≤ 16777216 := Nat.le_trans (Nat.div_le_self _ _) (chs24 (b := 0) (by omega))
end Go.Proofs.Ytnmmgpmhpjjehaa
