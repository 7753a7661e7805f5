/- Pack 2 of what FnRecordsTold needs: InB, BalMath. -/
import Derived.Test.YtachijliaedndaaKFnRecordsTold1
/- l1In: whether a number lies between two. -/
namespace Go.Proofs.Ytachijliaedndaa
open Go.RowKit
def inB (a lo hi : Int) : Bool := decide (lo ≤ a) && decide (a ≤ hi)
theorem inB_yes {a lo hi : Int} (h : lo ≤ a ∧ a ≤ hi) : inB a lo hi = true := by simp [inB, h]
theorem inB_no {a lo hi : Int} (h : ¬ (lo ≤ a ∧ a ≤ hi)) : inB a lo hi = false := by
  rw [Bool.eq_false_iff]; intro e; simp [inB] at e; exact h e
set_option maxHeartbeats 400000 in
theorem in_any (a lo hi : Int) (w : World) : Calls Try.prog 173 #[.int .i64 a, .int .i64 lo, .int .i64 hi] w fun e w' => e = .returned (.bool (inB a lo hi)) ∧ w = w' := by
  by_cases h1 : lo ≤ a
  · by_cases h2 : a ≤ hi
    · rw [inB_yes ⟨h1, h2⟩]
      go_enter Try.func173, Try.ntmps173
      go_wp2
      go_ret
      exact ⟨rfl, rfl⟩
    · rw [inB_no (fun h => h2 h.2)]
      go_enter Try.func173, Try.ntmps173
      go_wp2
      go_ret
      exact ⟨rfl, rfl⟩
  · rw [inB_no (fun h => h1 h.1)]
    go_enter Try.func173, Try.ntmps173
    go_wp2
    go_ret
    exact ⟨rfl, rfl⟩
end Go.Proofs.Ytachijliaedndaa

/- Margins of a path, the first one that is too small, as plain numbers. -/
namespace Go.Proofs.Ytachijliaedndaa
open Go.RowKit

/-- the first n values of f -/
def fr (f : Nat → Int) (n : Nat) : List Int := (List.range n).map f
theorem fr_length (f : Nat → Int) (n : Nat) : (fr f n).length = n := by simp [fr]
theorem fr_get (f : Nat → Int) (n k : Nat) (h : k < n) : (fr f n).getD k 0 = f k := by
  unfold fr; rw [List.getD_eq_getElem?_getD, List.getElem?_map, List.getElem?_range h]; rfl
theorem fr_snoc (f : Nat → Int) (n : Nat) : fr f n ++ [f n] = fr f (n + 1) := by
  unfold fr; rw [List.range_succ, List.map_append]; rfl
/-- the first k of n laid, the rest 0 -/
def fil (f : Nat → Int) (n k : Nat) : List Int := (List.range n).map fun j => if j < k then f j else 0
theorem fil_length (f : Nat → Int) (n k : Nat) : (fil f n k).length = n := by simp [fil]
theorem fil_get (f : Nat → Int) (n k j : Nat) (h : j < n) : (fil f n k).getD j 0 = if j < k then f j else 0 := by
  unfold fil; rw [List.getD_eq_getElem?_getD, List.getElem?_map, List.getElem?_range h]; rfl
theorem fil_zero (f : Nat → Int) (n : Nat) : fil f n 0 = List.replicate n 0 := by
  apply List.ext_getElem
  · simp [fil]
  · intro i h1 h2
    simp [fil]
theorem fil_set (f : Nat → Int) (n k : Nat) : (fil f n k).set k (f k) = fil f n (k + 1) := by
  apply List.ext_getElem
  · simp [fil]
  · intro i h1 h2
    simp [fil, List.getElem_set]
    by_cases e : k = i
    · subst e; simp
    · rw [if_neg e]
      by_cases e2 : i < k
      · rw [if_pos e2, if_pos (by omega)]
      · rw [if_neg e2, if_neg (by omega)]
theorem fil_full (f : Nat → Int) (n : Nat) : fil f n n = fr f n := by
  unfold fil fr
  apply List.map_congr_left
  intro j hj
  rw [if_pos (List.mem_range.1 hj)]
theorem fil_one (f : Nat → Int) (n : Nat) (h : f 0 = 0) : fil f n 0 = fil f n 1 := by
  unfold fil
  apply List.map_congr_left
  intro j hj
  by_cases e : j < 1
  · rw [if_neg (by omega), if_pos e, show j = 0 by omega, h]
  · rw [if_neg (by omega), if_neg e]

def stepK (k x : Int) : Int := if x = 85 then 1 else -k
theorem stepK_u {k x : Int} (h : x = 85) : stepK k x = 1 := by unfold stepK; rw [if_pos h]
theorem stepK_d {k x : Int} (h : x ≠ 85) : stepK k x = -k := by unfold stepK; rw [if_neg h]
/-- the margin behind j steps -/
def mg (s : ByteArray) (k : Int) (j : Nat) : Int := ((s.data.toList.take j).map fun c => stepK k (c.toNat : Int)).sum
theorem mg_zero (s : ByteArray) (k : Int) : mg s k 0 = 0 := by simp [mg]
theorem mg_succ (s : ByteArray) (k : Int) (j : Nat) (h : j < s.size) : mg s k (j + 1) = mg s k j + stepK k (s[j].toNat : Int) := by
  unfold mg; rw [take_snoc s j h]; simp
theorem mg_bd (s : ByteArray) (k : Int) (hk : 1 ≤ k ∧ k ≤ 5) : ∀ j, j ≤ s.size → -(5 * (j : Int)) ≤ mg s k j ∧ mg s k j ≤ j := by
  intro j
  induction j with
  | zero => intro _; rw [mg_zero]; omega
  | succ j ih =>
    intro h
    have h1 := ih (by omega)
    rw [mg_succ s k j (by omega)]
    unfold stepK
    split <;> omega
def inK (k : Int) : Bool := decide (1 ≤ k) && decide (k ≤ 5)
theorem inK_yes {k : Int} (h : 1 ≤ k ∧ k ≤ 5) : inK k = true := by simp [inK, h]
theorem inK_no {k : Int} (h : ¬ (1 ≤ k ∧ k ≤ 5)) : inK k = false := by
  rw [Bool.eq_false_iff]; intro e; simp [inK] at e; exact h e
theorem inK_of {k : Int} (h : inK k = true) : 1 ≤ k ∧ k ≤ 5 := by simpa [inK] using h
def balOk (s : ByteArray) (k : Int) : Bool := pathB s && inK k
/-- all margins -/
def mgs (s : ByteArray) (k : Int) : List Int := fr (mg s k) (s.size + 1)

/-- the first of the indexes 1, .., n-1 at which f is less than a number, or -1 -/
def fb (f : Nat → Int) (least : Int) : Nat → Int
  | 0 => -1
  | n + 1 => if 0 ≤ fb f least n then fb f least n else if 0 < n ∧ f n < least then n else -1
theorem fb_bd (f : Nat → Int) (least : Int) : ∀ n : Nat, -1 ≤ fb f least n ∧ fb f least n ≤ n
  | 0 => by simp [fb]
  | n + 1 => by
    have := fb_bd f least n
    unfold fb
    split
    · omega
    · split <;> omega
theorem fb_go {f : Nat → Int} {least : Int} {n : Nat} (h : fb f least n = -1) (hn : n = 0 ∨ ¬ f n < least) : fb f least (n + 1) = -1 := by
  unfold fb; rw [if_neg (by omega), if_neg (by omega)]
theorem fb_hit {f : Nat → Int} {least : Int} {n : Nat} (h : fb f least n = -1) (hn : 0 < n) (hl : f n < least) : fb f least (n + 1) = n := by
  unfold fb; rw [if_neg (by omega), if_pos ⟨hn, hl⟩]
theorem fb_keep {f : Nat → Int} {least : Int} {n : Nat} (h : 0 ≤ fb f least n) : fb f least (n + 1) = fb f least n := by
  rw [fb, if_pos h]
theorem fb_stop {f : Nat → Int} {least : Int} {n : Nat} (h : 0 ≤ fb f least n) : ∀ m, fb f least (n + m) = fb f least n
  | 0 => rfl
  | m + 1 => by
    have := fb_stop h m
    rw [← Nat.add_assoc, fb_keep (by omega), this]
theorem fb_end {f : Nat → Int} {least : Int} {k n : Nat} (h : fb f least k = -1) (hk : 0 < k) (hl : f k < least) (hn : k < n) : fb f least n = k := by
  have h1 := fb_hit h hk hl
  have h2 := fb_stop (f := f) (least := least) (n := k + 1) (by omega) (n - (k + 1))
  rw [show k + 1 + (n - (k + 1)) = n by omega] at h2
  omega
def fbV (f : Nat → Int) (least : Int) (n : Nat) : Int := if fb f least n < 0 then 0 else fb f least n
def fbB (f : Nat → Int) (least : Int) (n : Nat) : Bool := decide (0 ≤ fb f least n)
theorem fbV_no {f : Nat → Int} {least : Int} {n : Nat} (h : fb f least n = -1) : fbV f least n = 0 := by unfold fbV; rw [if_pos (by omega)]
theorem fbB_no {f : Nat → Int} {least : Int} {n : Nat} (h : fb f least n = -1) : fbB f least n = false := by unfold fbB; rw [decide_eq_false_iff_not]; omega
theorem fbV_yes {f : Nat → Int} {least : Int} {k n : Nat} (h : fb f least n = k) : fbV f least n = k := by unfold fbV; rw [if_neg (by omega), h]
theorem fbB_yes {f : Nat → Int} {least : Int} {k n : Nat} (h : fb f least n = k) : fbB f least n = true := by unfold fbB; rw [decide_eq_true_iff]; omega
/-- the indexes below n at which f is 0 -/
def zs (f : Nat → Int) : Nat → List Int
  | 0 => []
  | n + 1 => if f n = 0 then zs f n ++ [(n : Int)] else zs f n
theorem zs_length (f : Nat → Int) : ∀ n, (zs f n).length ≤ n
  | 0 => by simp [zs]
  | n + 1 => by
    have := zs_length f n
    unfold zs
    split
    · simp; omega
    · omega
theorem zs_yes {f : Nat → Int} {n : Nat} (h : (f n == 0) = true) : zs f (n + 1) = zs f n ++ [(n : Int)] := by
  rw [zs, if_pos (by simpa using h)]
theorem zs_no {f : Nat → Int} {n : Nat} (h : (f n == 0) = false) : zs f (n + 1) = zs f n := by
  rw [zs, if_neg (by simpa using h)]
/-- how many of the first n are above 0, below 0 -/
def abv (f : Nat → Int) : Nat → Nat
  | 0 => 0
  | n + 1 => if 0 < f n then abv f n + 1 else abv f n
def blw (f : Nat → Int) : Nat → Nat
  | 0 => 0
  | n + 1 => if f n < 0 then blw f n + 1 else blw f n
theorem abv_le (f : Nat → Int) : ∀ n, abv f n ≤ n
  | 0 => by simp [abv]
  | n + 1 => by have := abv_le f n; unfold abv; split <;> omega
theorem blw_le (f : Nat → Int) : ∀ n, blw f n ≤ n
  | 0 => by simp [blw]
  | n + 1 => by have := blw_le f n; unfold blw; split <;> omega
theorem abv_yes {f : Nat → Int} {n : Nat} (h : 0 < f n) : abv f (n + 1) = abv f n + 1 := by rw [abv, if_pos h]
theorem abv_no {f : Nat → Int} {n : Nat} (h : ¬ 0 < f n) : abv f (n + 1) = abv f n := by rw [abv, if_neg h]
theorem blw_yes {f : Nat → Int} {n : Nat} (h : f n < 0) : blw f (n + 1) = blw f n + 1 := by rw [blw, if_pos h]
theorem blw_no {f : Nat → Int} {n : Nat} (h : ¬ f n < 0) : blw f (n + 1) = blw f n := by rw [blw, if_neg h]

theorem kmul_bd {k x : Int} (h1 : 1 ≤ k) (h5 : k ≤ 5) (h0 : 0 ≤ x) (h40 : x ≤ 40) : 0 ≤ k * x ∧ k * x ≤ 200 := by
  refine ⟨Int.mul_nonneg (by omega) h0, ?_⟩
  have := Int.mul_le_mul h5 h40 h0 (by omega)
  omega
/-! ### how many are ahead -/
/-- the number of paths that are always ahead, out of all of them -/
def aheadN (all a b k : Int) : Int := if a < k * b then 0 else if a + b = 0 then 1 else all * (a - k * b) / (a + b)
def neverN (all a b k : Int) : Int := if a < k * b then 0 else all * (a + 1 - k * b) / (a + 1)
end Go.Proofs.Ytachijliaedndaa
