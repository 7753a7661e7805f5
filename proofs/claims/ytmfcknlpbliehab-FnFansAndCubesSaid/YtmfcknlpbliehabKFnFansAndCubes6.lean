/- Pack 6 of what FnFansAndCubes needs: FanMath, RatioMath, PathOk. -/
import Derived.Test.YtmfcknlpbliehabKFnFansAndCubes5
import Derived.Test.YtmfcknlpbliehabProg
import Derived.WalkKit
import Derived.WalkSpells
import Derived.WalkLawsBesides
import Derived.Lib.Hide
/- Fans and piles of cubes: products of fractions in lowest terms, told by loops; finitely many by the kernel. -/
namespace Go.Proofs.Ytmfcknlpbliehab
open Go.RowKit
set_option linter.unusedVariables false
/-- a product with one fraction more -/
def tms (r : Nat × Nat) (a b : Nat) : Nat × Nat :=
  (r.1 / Nat.gcd r.1 (b / Nat.gcd a b) * (a / Nat.gcd a b / Nat.gcd (a / Nat.gcd a b) r.2), r.2 / Nat.gcd (a / Nat.gcd a b) r.2 * (b / Nat.gcd a b / Nat.gcd r.1 (b / Nat.gcd a b)))
def fnJ (k i : Nat) : Nat → Nat → Nat × Nat → Nat × Nat
  | 0, _, r => r
  | c + 1, j, r => fnJ k i c (j + 1) (tms r (i + j + 2 * k) (i + j))
def fnI (n k : Nat) : Nat → Nat → Nat × Nat → Nat × Nat
  | 0, _, r => r
  | c + 1, i, r => fnI n k c (i + 1) (fnJ k i (n - i) i r)
/-- all products on the way are small -/
def smR (r : Nat × Nat) : Bool := decide (1 ≤ r.1) && (decide (r.1 ≤ 100000000000) && (decide (1 ≤ r.2) && decide (r.2 ≤ 100000000000)))
def okJ (k i : Nat) : Nat → Nat → Nat × Nat → Bool
  | 0, _, r => smR r
  | c + 1, j, r => smR r && okJ k i c (j + 1) (tms r (i + j + 2 * k) (i + j))
def okI (n k : Nat) : Nat → Nat → Nat × Nat → Bool
  | 0, _, r => smR r
  | c + 1, i, r => okJ k i (n - i) i r && okI n k c (i + 1) (fnJ k i (n - i) i r)
theorem fan_ok : ((List.range 9).all fun n => (List.range 5).all fun k => okI n k (n - 1) 1 (1, 1)) = true := by decide +kernel
def fanN (n k : Nat) : Nat := (fnI n k (n - 1) 1 (1, 1)).1
theorem fan_tell : ((List.range 9).map fun n => (List.range 5).map fun k => fanN n k).flatten.length = 45 := by decide +kernel
def cbK (i j : Nat) : Nat → Nat → Nat × Nat → Nat × Nat
  | 0, _, r => r
  | c + 1, k, r => cbK i j c (k + 1) (tms r (i + j + k - 1) (i + j + k - 2))
def cbJ (i c : Nat) : Nat → Nat → Nat × Nat → Nat × Nat
  | 0, _, r => r
  | q + 1, j, r => cbJ i c q (j + 1) (cbK i j c 1 r)
def cbI (b c : Nat) : Nat → Nat → Nat × Nat → Nat × Nat
  | 0, _, r => r
  | q + 1, i, r => cbI b c q (i + 1) (cbJ i c b 1 r)
def okK (i j : Nat) : Nat → Nat → Nat × Nat → Bool
  | 0, _, r => smR r
  | c + 1, k, r => smR r && okK i j c (k + 1) (tms r (i + j + k - 1) (i + j + k - 2))
def okCJ (i c : Nat) : Nat → Nat → Nat × Nat → Bool
  | 0, _, r => smR r
  | q + 1, j, r => okK i j c 1 r && okCJ i c q (j + 1) (cbK i j c 1 r)
def okCI (b c : Nat) : Nat → Nat → Nat × Nat → Bool
  | 0, _, r => smR r
  | q + 1, i, r => okCJ i c b 1 r && okCI b c q (i + 1) (cbJ i c b 1 r)
theorem cube_ok : ((List.range 5).all fun a => (List.range 5).all fun b => (List.range 5).all fun c => okCI b c a 1 (1, 1)) = true := by decide +kernel
def cubeN (a b c : Nat) : Nat := (cbI b c a 1 (1, 1)).1
end Go.Proofs.Ytmfcknlpbliehab

/- Fractions in lowest terms. -/
namespace Go.Proofs.Ytmfcknlpbliehab
open Go.RowKit
theorem gcd_step {x y g : Nat} (h : Nat.gcd x y = g) : Nat.gcd y (x % y) = g := by
  rw [← h, Nat.gcd_comm x y, Nat.gcd_rec y x, Nat.gcd_comm]
theorem gcd_end {x g : Nat} (h : Nat.gcd x 0 = g) : x = g := by simpa using h
theorem cast_mod (x y : Nat) : (x : Int) % (y : Int) = ((x % y : Nat) : Int) := (Int.natCast_emod x y).symm
theorem cast_div (x y : Nat) : (x : Int) / (y : Int) = ((x / y : Nat) : Int) := (Int.natCast_ediv x y).symm
theorem div_bd (p x : Nat) (h : p ≤ 70368744177664) : 0 ≤ (p : Int) / (x : Int) ∧ (p : Int) / (x : Int) ≤ 70368744177664 := by
  rw [cast_div]
  have := Nat.div_le_self p x
  generalize p / x = z at *
  omega
def numR (p q : Nat) : Int := ((p / Nat.gcd p q : Nat) : Int)
def denR (p q : Nat) : Int := ((q / Nat.gcd p q : Nat) : Int)
end Go.Proofs.Ytmfcknlpbliehab

/- IsPath and paGood, the two tests for a path. -/
namespace Go.Proofs.Ytmfcknlpbliehab
open Go.RowKit

/-- the first k bytes are steps -/
def UpTo (s : ByteArray) (k : Nat) : Prop := ∀ j (h : j < s.size), j < k → isUD s[j] = true
theorem UpTo.zero (s : ByteArray) : UpTo s 0 := fun _ _ h => absurd h (by omega)
theorem UpTo.succ {s : ByteArray} {k : Nat} (h : UpTo s k) (hk : k < s.size) (hu : isUD s[k] = true) : UpTo s (k + 1) := fun j hj hl => by
  by_cases e : j = k
  · subst e; exact hu
  · exact h j hj (by omega)
theorem UpTo.full {s : ByteArray} {k : Nat} (h : UpTo s k) (hk : k = s.size) (h40 : s.size ≤ 40) : pathB s = true :=
  (pathB_iff s).2 ⟨h40, fun j hj => h j hj (by omega)⟩
theorem pathB_no {s : ByteArray} {k : Nat} (hk : k < s.size) (hu : isUD s[k] = false) : pathB s = false := by
  rw [Bool.eq_false_iff]
  intro h
  rw [((pathB_iff s).1 h).2 k hk] at hu
  exact absurd hu (by simp)
theorem ret_bool {a b : Bool} (h : a = b) : Ending.returned (.bool a) = .returned (.bool b) := by rw [h]
theorem ret_bb {a b c d : Bool} (h : a = b) (k : c = d) : Ending.returned (.tuple #[.bool a, .bool c]) = .returned (.tuple #[.bool b, .bool d]) := by rw [h, k]
theorem ret_ib {a b : Int} {c d : Bool} (h : a = b) (k : c = d) : Ending.returned (.tuple #[.int .i64 a, .bool c]) = .returned (.tuple #[.int .i64 b, .bool d]) := by rw [h, k]
theorem isUD_int (c : UInt8) : isUD c = (((c.toNat : Int) == 85) || ((c.toNat : Int) == 68)) := by
  unfold isUD
  have h1 : (c == 85) = ((c.toNat : Int) == 85) := by
    rw [Bool.eq_iff_iff]; simp [← UInt8.toNat_inj]; omega
  have h2 : (c == 68) = ((c.toNat : Int) == 68) := by
    rw [Bool.eq_iff_iff]; simp [← UInt8.toNat_inj]; omega
  rw [h1, h2]
theorem ud1 {c : UInt8} (h : (c.toNat : Int) = 85) : isUD c = true := by rw [isUD_int]; simp [h]
theorem ud2 {c : UInt8} (h : ((c.toNat : Int) != 85) = false ∨ ((c.toNat : Int) != 68) = false) : isUD c = true := by
  rw [isUD_int]; simpa [bne] using h
theorem ud0 {c : UInt8} (h : ((c.toNat : Int) != 85) = true ∧ ((c.toNat : Int) != 68) = true) : isUD c = false := by
  rw [isUD_int]; simpa [bne] using h

set_option maxHeartbeats 400000 in
theorem isPath_any (s : ByteArray) (w : World) (hs : s.size ≤ maxLen) :
    Calls Try.prog 42 #[.string s] w fun e w' => e = .returned (.bool (pathB s)) ∧ w = w' := by
  unfold maxLen at hs
  by_cases h40 : 40 < s.size
  · go_enter Try.func42, Try.ntmps42
    go_wp2
    go_ret
    exact ⟨by simp [pathB]; omega, rfl⟩
  · go_enter Try.func42, Try.ntmps42
    go_wp2
    go_loop [9] (fun i => ∃ k : Nat, k ≤ s.size ∧ i = .int .i64 k ∧ UpTo s k) (fun i => s.size - (intOf i).toNat)
    case atStart => exact ⟨0, Nat.zero_le _, rfl, UpTo.zero s⟩
    case round =>
      obtain ⟨k, hk, rfl, hu⟩ := hrel
      by_cases hlt : k < s.size
      · go_wp2
        · go_round
          case rel => exact ⟨k + 1, by omega, by go_num, hu.succ hlt (ud1 (by assumption))⟩
          case measure => simp [intOf]; omega
        · go_ret
          exact ⟨ret_bool (pathB_no hlt (ud0 (by assumption))).symm, rfl⟩
        · go_round
          case rel => exact ⟨k + 1, by omega, by go_num, hu.succ hlt (ud2 (by assumption))⟩
          case measure => simp [intOf]; omega
      · go_wp2
        go_ret
        exact ⟨ret_bool (hu.full (by omega) (by omega)).symm, rfl⟩

set_option maxHeartbeats 400000 in
theorem paGood_any (s : ByteArray) (w : World) (hs : s.size ≤ maxLen) :
    Calls Try.prog 46 #[.string s] w fun e w' => e = .returned (.bool (pathB s)) ∧ w = w' := by
  unfold maxLen at hs
  by_cases h40 : 40 < s.size
  · go_enter Try.func46, Try.ntmps46
    go_wp2
    go_ret
    exact ⟨by simp [pathB]; omega, rfl⟩
  · go_enter Try.func46, Try.ntmps46
    go_wp2
    go_loop [3] (fun i => ∃ k : Nat, k ≤ s.size ∧ i = .int .i64 k ∧ UpTo s k) (fun i => s.size - (intOf i).toNat)
    case atStart => exact ⟨0, Nat.zero_le _, rfl, UpTo.zero s⟩
    case round =>
      obtain ⟨k, hk, rfl, hu⟩ := hrel
      by_cases hlt : k < s.size
      · go_wp2
        · go_round
          case rel => exact ⟨k + 1, by omega, by go_num, hu.succ hlt (ud1 (by assumption))⟩
          case measure => simp [intOf]; omega
        · go_ret
          exact ⟨ret_bool (pathB_no hlt (ud0 (by assumption))).symm, rfl⟩
        · go_round
          case rel => exact ⟨k + 1, by omega, by go_num, hu.succ hlt (ud2 (by assumption))⟩
          case measure => simp [intOf]; omega
      · go_wp2
        go_ret
        exact ⟨ret_bool (hu.full (by omega) (by omega)).symm, rfl⟩

end Go.Proofs.Ytmfcknlpbliehab
