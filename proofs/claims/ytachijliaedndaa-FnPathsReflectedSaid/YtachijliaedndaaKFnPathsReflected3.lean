/- Pack 3 of what FnPathsReflected needs: InB, TchMath. -/
import Derived.Test.YtachijliaedndaaKFnPathsReflected2
/- l1In: whether a number lies between two. -/
namespace Go.Proofs.Ytachijliaedndaa
open Go.RowKit
def inB (a lo hi : Int) : Bool := decide (lo ≤ a) && decide (a ≤ hi)
theorem inB_yes {a lo hi : Int} (h : lo ≤ a ∧ a ≤ hi) : inB a lo hi = true := by simp [inB, h]
theorem inB_no {a lo hi : Int} (h : ¬ (lo ≤ a ∧ a ≤ hi)) : inB a lo hi = false := by
  rw [Bool.eq_false_iff]; intro e; simp [inB] at e; exact h e
set_option maxHeartbeats 400000 in
theorem in_any (a lo hi : Int) (w : World) : Calls Try.prog 173 #[.int .i64 a, .int .i64 lo, .int .i64 hi] w fun e w' => e = .returned (.bool (inB a lo hi)) ∧ w = w' := by
  by_cases h1 : lo ≤ a
  · by_cases h2 : a ≤ hi
    · rw [inB_yes ⟨h1, h2⟩]
      go_enter Try.func173, Try.ntmps173
      go_wp2
      go_ret
      exact ⟨rfl, rfl⟩
    · rw [inB_no (fun h => h2 h.2)]
      go_enter Try.func173, Try.ntmps173
      go_wp2
      go_ret
      exact ⟨rfl, rfl⟩
  · rw [inB_no (fun h => h1 h.1)]
    go_enter Try.func173, Try.ntmps173
    go_wp2
    go_ret
    exact ⟨rfl, rfl⟩
end Go.Proofs.Ytachijliaedndaa

/- Heights that are touched, counts by reflections: plain numbers. -/
namespace Go.Proofs.Ytachijliaedndaa
open Go.RowKit
set_option linter.unusedVariables false
/-- the least number of steps, from k on and at most n more, behind which the height is h, or -1 -/
def faGo (s : ByteArray) (h : Int) : Nat → Nat → Int
  | 0, _ => -1
  | n + 1, k => if hAt s k = h then k else faGo s h n (k + 1)
def faZ (s : ByteArray) (h : Int) : Int := faGo s h (s.size + 1) 0
theorem faGo_bd (s : ByteArray) (h : Int) : ∀ n k, faGo s h n k = -1 ∨ ((k : Int) ≤ faGo s h n k ∧ faGo s h n k < k + n)
  | 0, k => .inl rfl
  | n + 1, k => by
    rw [faGo]
    split
    · exact .inr (by omega)
    · rcases faGo_bd s h n (k + 1) with e | e
      · exact .inl e
      · exact .inr (by omega)
theorem faZ_bd (s : ByteArray) (h : Int) : -1 ≤ faZ s h ∧ faZ s h ≤ s.size := by
  have := faGo_bd s h (s.size + 1) 0
  unfold faZ
  omega
/-- the greatest one among the first k -/
def laTo (s : ByteArray) (h : Int) : Nat → Int
  | 0 => -1
  | k + 1 => if hAt s k = h then k else laTo s h k
def laZ (s : ByteArray) (h : Int) : Int := laTo s h (s.size + 1)
theorem laTo_bd (s : ByteArray) (h : Int) : ∀ k, -1 ≤ laTo s h k ∧ laTo s h k < k
  | 0 => by simp [laTo]
  | k + 1 => by
    have := laTo_bd s h k
    rw [laTo]
    split <;> omega
theorem laTo_yes {s : ByteArray} {h : Int} {k : Nat} (e : (hAt s k == h) = true) : laTo s h (k + 1) = k := by rw [laTo, if_pos (by simpa using e)]
theorem laTo_no {s : ByteArray} {h : Int} {k : Nat} (e : (hAt s k == h) = false) : laTo s h (k + 1) = laTo s h k := by rw [laTo, if_neg (by simpa using e)]
/-- how many paths of n steps lead to h -/
def toZ (n h : Int) : Int := if (n + h) % 2 ≠ 0 ∨ h < -n ∨ n < h then 0 else chZ n ((n + h) / 2)
theorem toZ_bd (n h : Int) (hn : n ≤ 40) : 0 ≤ toZ n h ∧ toZ n h ≤ 1099511627776 := by
  unfold toZ
  split
  · omega
  · exact chZ_bd _ _ hn
def tchZ (n e h : Int) : Int := if inB h (if 0 < e then 0 else e) (if e < 0 then 0 else e) = true then toZ n e else toZ n (2 * h - e)
theorem tchZ_bd (n e h : Int) (hn : n ≤ 40) : 0 ≤ tchZ n e h ∧ tchZ n e h ≤ 1099511627776 := by
  unfold tchZ
  generalize inB h (if 0 < e then 0 else e) (if e < 0 then 0 else e) = b
  cases b
  · rw [if_neg (by simp)]; exact toZ_bd _ _ hn
  · rw [if_pos rfl]; exact toZ_bd _ _ hn
/-- the sum of the first j terms, from k = -n on -/
def btTo (n e lo hi : Int) : Nat → Int
  | 0 => 0
  | j + 1 => btTo n e lo hi j + (toZ n (e + 2 * ((j : Int) - n) * (hi - lo + 2)) - toZ n (2 * (hi + 1) - e + 2 * ((j : Int) - n) * (hi - lo + 2)))
theorem btTo_bd (n e lo hi : Int) (hn : n ≤ 40) : ∀ j : Nat, -(1099511627776 * (j : Int)) ≤ btTo n e lo hi j ∧ btTo n e lo hi j ≤ 1099511627776 * j
  | 0 => by simp [btTo]
  | j + 1 => by
    have h1 := btTo_bd n e lo hi hn j
    have h2 := toZ_bd n (e + 2 * ((j : Int) - n) * (hi - lo + 2)) hn
    have h3 := toZ_bd n (2 * (hi + 1) - e + 2 * ((j : Int) - n) * (hi - lo + 2)) hn
    rw [btTo]
    omega
def btZ (n e lo hi : Int) : Int := if inB e lo hi = true then btTo n e lo hi (2 * n + 1).toNat else 0
theorem btZ_bd (n e lo hi : Int) (hn : 0 ≤ n ∧ n ≤ 40) : -(89060441849856) ≤ btZ n e lo hi ∧ btZ n e lo hi ≤ 89060441849856 := by
  unfold btZ
  split
  · have := btTo_bd n e lo hi hn.2 (2 * n + 1).toNat
    omega
  · omega
end Go.Proofs.Ytachijliaedndaa
