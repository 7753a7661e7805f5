/- Pack 14 of what FnExactRankOrdered needs: HwMath, LowI. -/
import Derived.Test.YtmfcknlpbliehaaDoorKFnExactRankOrdered13
/- What gamblers hold behind so many games: numbers of ways. -/
namespace Go.Proofs.YtmfcknlpbliehaaDoor
open Go.RowKit
set_option linter.unusedVariables false
def ind (a : Nat) (x : Int) (j : Nat) : Int := if j = a then x else 0
def sumTo (F : Nat → Int) : Nat → Int
  | 0 => 0
  | m + 1 => sumTo F m + F m
theorem sumTo_add (F G : Nat → Int) : ∀ m, sumTo (fun j => F j + G j) m = sumTo F m + sumTo G m
  | 0 => rfl
  | m + 1 => by
    show sumTo _ m + (F m + G m) = (sumTo F m + F m) + (sumTo G m + G m)
    rw [sumTo_add F G m]
    omega
theorem sumTo_ind (a : Nat) (x : Int) : ∀ m, sumTo (ind a x) m = if a < m then x else 0
  | 0 => by simp [sumTo]
  | m + 1 => by
    show sumTo (ind a x) m + (if m = a then x else 0) = _
    rw [sumTo_ind a x m]
    by_cases h1 : a < m
    · rw [if_pos h1, if_neg (by omega), if_pos (by omega)]
      omega
    · rw [if_neg h1]
      by_cases h2 : m = a
      · rw [if_pos h2, if_pos (by omega)]
        omega
      · rw [if_neg h2, if_neg (by omega)]
        omega
theorem sumTo_nonneg {F : Nat → Int} {m : Nat} (h : ∀ j, j < m → 0 ≤ F j) : 0 ≤ sumTo F m := by
  induction m with
  | zero => exact Int.le_refl _
  | succ m ih =>
    have h1 := ih fun j hj => h j (by omega)
    have h2 := h m (by omega)
    show 0 ≤ sumTo F m + F m
    omega
theorem sumTo_le {F : Nat → Int} : ∀ {m : Nat}, (∀ j, j < m → 0 ≤ F j) → ∀ k, k ≤ m → sumTo F k ≤ sumTo F m
  | 0, _, k, hk => by rw [show k = 0 by omega]; exact Int.le_refl _
  | m + 1, h, k, hk => by
    by_cases e : k = m + 1
    · rw [e]; exact Int.le_refl _
    · have h1 := sumTo_le (m := m) (fun j hj => h j (by omega)) k (by omega)
      have h2 := h m (by omega)
      show _ ≤ sumTo F m + F m
      omega
theorem le_sumTo {F : Nat → Int} {m : Nat} (h : ∀ j, j < m → 0 ≤ F j) {k : Nat} (hk : k < m) : F k ≤ sumTo F m := by
  have h1 := sumTo_le h (k + 1) (by omega)
  have h2 : sumTo F (k + 1) = sumTo F k + F k := rfl
  have h3 := sumTo_nonneg (F := F) (m := k) fun j hj => h j (by omega)
  omega
/-- what the place s gives to the next row -/
def hwS (g : Nat) (n d : Int) (f : Nat → Int) (s j : Nat) : Int :=
  if s = 0 ∨ s = g then ind s (f s * d) j else ind (s + 1) (f s * n) j + ind (s - 1) (f s * (d - n)) j
/-- the next row while it is made: the places below m have given -/
def hwP (g : Nat) (n d : Int) (f : Nat → Int) : Nat → Nat → Int
  | 0, _ => 0
  | m + 1, j => hwP g n d f m j + hwS g n d f m j
/-- the ways to hold j behind so many games -/
def hw (i g : Nat) (n d : Int) : Nat → Nat → Int
  | 0 => ind i 1
  | k + 1 => hwP g n d (hw i g n d k) (g + 1)
theorem hwS_sum {g : Nat} {n d : Int} {f : Nat → Int} {s : Nat} (hs : s ≤ g) : sumTo (hwS g n d f s) (g + 1) = f s * d := by
  by_cases h : s = 0 ∨ s = g
  · have e : hwS g n d f s = ind s (f s * d) := by funext j; unfold hwS; rw [if_pos h]
    rw [e, sumTo_ind, if_pos (by omega)]
  · have e : hwS g n d f s = fun j => ind (s + 1) (f s * n) j + ind (s - 1) (f s * (d - n)) j := by funext j; unfold hwS; rw [if_neg h]
    rw [e, sumTo_add, sumTo_ind, sumTo_ind, if_pos (by omega), if_pos (by omega), ← Int.mul_add]
    congr 1
    omega
theorem hwP_sum {g : Nat} {n d : Int} {f : Nat → Int} : ∀ m, m ≤ g + 1 → sumTo (hwP g n d f m) (g + 1) = sumTo f m * d
  | 0, _ => by
    have e : hwP g n d f 0 = ind (g + 1) 0 := by funext j; unfold ind; split <;> rfl
    rw [e, sumTo_ind]
    simp [sumTo]
  | m + 1, h => by
    have e : hwP g n d f (m + 1) = fun j => hwP g n d f m j + hwS g n d f m j := rfl
    rw [e, sumTo_add, hwP_sum m (by omega), hwS_sum (by omega)]
    show _ = (sumTo f m + f m) * d
    rw [Int.add_mul]
theorem hw_sum {i g : Nat} (hi : i ≤ g) (n d : Int) : ∀ k, sumTo (hw i g n d k) (g + 1) = d ^ k
  | 0 => by
    show sumTo (ind i 1) (g + 1) = d ^ 0
    rw [sumTo_ind, if_pos (by omega), Int.pow_zero]
  | k + 1 => by
    show sumTo (hwP g n d (hw i g n d k) (g + 1)) (g + 1) = _
    rw [hwP_sum _ (Nat.le_refl _), hw_sum hi n d k, Int.pow_succ]
theorem hwS_nonneg {g : Nat} {n d : Int} {f : Nat → Int} {s j : Nat} (hf : 0 ≤ f s) (hn : 0 ≤ n) (hd : n ≤ d) : 0 ≤ hwS g n d f s j := by
  have a1 := Int.mul_nonneg hf (show 0 ≤ d by omega)
  have a2 := Int.mul_nonneg hf hn
  have a3 := Int.mul_nonneg hf (show 0 ≤ d - n by omega)
  unfold hwS ind
  generalize f s * d = x1 at *
  generalize f s * n = x2 at *
  generalize f s * (d - n) = x3 at *
  repeat' split
  all_goals omega
theorem hwP_nonneg {g : Nat} {n d : Int} {f : Nat → Int} (hf : ∀ s, 0 ≤ f s) (hn : 0 ≤ n) (hd : n ≤ d) : ∀ m j, 0 ≤ hwP g n d f m j
  | 0, _ => Int.le_refl _
  | m + 1, j => by
    have h1 := hwP_nonneg (g := g) hf hn hd m j
    have h2 := hwS_nonneg (g := g) (j := j) (hf m) hn hd
    show 0 ≤ hwP g n d f m j + hwS g n d f m j
    omega
theorem hw_nonneg (i g : Nat) {n d : Int} (hn : 0 ≤ n) (hd : n ≤ d) : ∀ k j, 0 ≤ hw i g n d k j
  | 0, j => by show 0 ≤ ind i 1 j; unfold ind; split <;> omega
  | k + 1, j => hwP_nonneg (fun s => hw_nonneg i g hn hd k s) hn hd _ j
theorem pow6' {x : Int} (hx : 0 ≤ x ∧ x ≤ 6) {k : Nat} (hk : k ≤ 18) : 0 ≤ x ^ k ∧ x ^ k ≤ 101559956668416 := by
  obtain ⟨a, rfl⟩ := Int.eq_ofNat_of_zero_le hx.1
  rw [← pow_cast]
  have h1 : a ^ k ≤ 6 ^ k := Nat.pow_le_pow_left (by omega) k
  have h2 : (6 : Nat) ^ k ≤ 6 ^ 18 := Nat.pow_le_pow_right (by omega) hk
  have h3 : (6 : Nat) ^ 18 = 101559956668416 := by decide
  omega
theorem hw_bd {i g : Nat} (hi : i ≤ g) {n d : Int} (hn : 0 ≤ n) (hd : n ≤ d) (hd6 : d ≤ 6) {k : Nat} (hk : k ≤ 18) {j : Nat} (hj : j ≤ g) : 0 ≤ hw i g n d k j ∧ hw i g n d k j ≤ 101559956668416 := by
  have h0 := hw_nonneg i g hn hd k
  have h1 := le_sumTo (F := hw i g n d k) (m := g + 1) (fun j _ => h0 j) (k := j) (by omega)
  rw [hw_sum hi] at h1
  have h2 := pow6' (x := d) (by omega) hk
  exact ⟨h0 j, by omega⟩
theorem hwP_bd {i g : Nat} (hi : i ≤ g) {n d : Int} (hn : 0 ≤ n) (hd : n ≤ d) (hd6 : d ≤ 6) {k : Nat} (hk : k ≤ 17) {m : Nat} (hm : m ≤ g + 1) {j : Nat} (hj : j ≤ g) : 0 ≤ hwP g n d (hw i g n d k) m j ∧ hwP g n d (hw i g n d k) m j ≤ 101559956668416 := by
  have hf := hw_nonneg i g hn hd k
  have h0 := hwP_nonneg (g := g) hf hn hd m
  have h1 := le_sumTo (F := hwP g n d (hw i g n d k) m) (m := g + 1) (fun j _ => h0 j) (k := j) (by omega)
  rw [hwP_sum m hm] at h1
  have h2 := sumTo_le (F := hw i g n d k) (m := g + 1) (fun j _ => hf j) m hm
  rw [hw_sum hi] at h2
  have h3 := pow6' (x := d) (by omega) (k := k + 1) (by omega)
  rw [Int.pow_succ] at h3
  have h4 := Int.mul_le_mul_of_nonneg_right h2 (show 0 ≤ d by omega)
  exact ⟨h0 j, by omega⟩
theorem fr_set1 (f g : Nat → Int) (n a : Nat) (u : Int) (hu : u = g a) (h : ∀ j, j < n → j ≠ a → f j = g j) : (fr f n).set a u = fr g n := by
  subst hu
  exact fr_set f g n a h
theorem fr_set2 (f g : Nat → Int) (n a b : Nat) (u v : Int) (hu : u = g a) (hv : v = g b) (h : ∀ j, j < n → j ≠ a → j ≠ b → f j = g j) : ((fr f n).set a u).set b v = fr g n := by
  subst hu hv
  have := fr_set3 f g n a b b fun j hj h1 h2 _ => h j hj h1 h2
  rwa [List.set_set] at this
theorem hwP_edge {g : Nat} {n d : Int} {f : Nat → Int} {s : Nat} (h : s = 0 ∨ s = g) (m : Nat) : (fr (hwP g n d f s) m).set s (hwP g n d f s s + f s * d) = fr (hwP g n d f (s + 1)) m := by
  refine fr_set1 _ _ _ _ _ ?_ fun j hj hne => ?_
  · show _ = hwP g n d f s s + hwS g n d f s s
    unfold hwS ind
    rw [if_pos h, if_pos rfl]
  · show _ = hwP g n d f s j + hwS g n d f s j
    unfold hwS ind
    rw [if_pos h, if_neg hne]
    omega
theorem hwP_mid {g : Nat} {n d : Int} {f : Nat → Int} {s : Nat} (h : ¬ (s + 1 = 0 ∨ s + 1 = g)) (m : Nat) :
    ((fr (hwP g n d f (s + 1)) m).set (s + 1 + 1) (hwP g n d f (s + 1) (s + 1 + 1) + f (s + 1) * n)).set s (hwP g n d f (s + 1) s + f (s + 1) * (d - n)) = fr (hwP g n d f (s + 1 + 1)) m := by
  refine fr_set2 _ _ _ _ _ _ _ ?_ ?_ fun j hj h1 h2 => ?_
  · show _ = hwP g n d f (s + 1) (s + 1 + 1) + hwS g n d f (s + 1) (s + 1 + 1)
    unfold hwS ind
    rw [if_neg h, if_pos rfl, if_neg (by omega)]
    omega
  · show _ = hwP g n d f (s + 1) s + hwS g n d f (s + 1) s
    unfold hwS ind
    rw [if_neg h, if_neg (by omega), if_pos (by omega)]
    omega
  · show _ = hwP g n d f (s + 1) j + hwS g n d f (s + 1) j
    unfold hwS ind
    rw [if_neg h, if_neg (by omega), if_neg (by omega)]
    omega
theorem hw_first (i g : Nat) : (List.replicate (g + 1) (0 : Int)).set i 1 = fr (ind i 1) (g + 1) := by
  apply List.ext_getElem
  · simp [fr]
  · intro j h1 h2
    simp only [fr, List.getElem_set, List.getElem_replicate, List.getElem_map, List.getElem_range, ind]
    by_cases e : i = j
    · subst e; simp
    · rw [if_neg e, if_neg (fun x => e x.symm)]
theorem hwP_zero (g : Nat) (n d : Int) (f : Nat → Int) (m : Nat) : List.replicate m (0 : Int) = fr (hwP g n d f 0) m := by
  apply List.ext_getElem
  · simp [fr]
  · intro j h1 h2
    simp [fr, hwP]
end Go.Proofs.YtmfcknlpbliehaaDoor

/- The program's lowestTerms (any numerator of at least 0), rest, isLowest, power, sumOf of ints. -/
namespace Go.Proofs.YtmfcknlpbliehaaDoor
open Go.RowKit
set_option linter.unusedVariables false
theorem div_bdZ (p x : Nat) (h : p ≤ 9000000000000000000) : 0 ≤ (p : Int) / (x : Int) ∧ (p : Int) / (x : Int) ≤ 9000000000000000000 := by
  rw [cast_div]
  have := Nat.div_le_self p x
  generalize p / x = z at *
  omega
theorem numZ_nat (p q : Nat) : numZ (p : Int) (q : Int) = ((p / Nat.gcd p q : Nat) : Int) := by
  unfold numZ
  rw [Int.natAbs_natCast, Int.natAbs_natCast, Int.tdiv_eq_ediv_of_nonneg (by omega)]
  exact cast_div _ _
theorem denZ_nat (p q : Nat) : denZ (p : Int) (q : Int) = ((q / Nat.gcd p q : Nat) : Int) := by
  unfold denZ
  rw [Int.natAbs_natCast, Int.natAbs_natCast, Int.tdiv_eq_ediv_of_nonneg (by omega)]
  exact cast_div _ _
/-- the sum of the first k -/
def sumK (xs : List Int) (k : Nat) : Int := sumTo (fun j => xs.getD j 0) k
set_option maxHeartbeats 800000 in
theorem sumInts_any (v : Value) (xs : List Int) (w : World) (h : RInts w v xs) (hl : xs.length ≤ 1048576) (hb : ∀ k, k ≤ xs.length → 0 ≤ sumK xs k ∧ sumK xs k ≤ 9000000000000000000) :
    Calls Tryd.prog 51 #[v] w fun e w' => e = .returned (.int .i64 (sumK xs xs.length)) ∧ w = w' := by
  obtain ⟨A0, cap, rfl⟩ := h.shape
  have H := Lib.hid h
  have HB := Lib.hid hb
  have HS : Hid (∀ k, sumK xs (k + 1) = sumK xs k + xs.getD k 0) := Lib.hid fun _ => rfl
  clear h hb
  go_enter Tryd.func51, Tryd.ntmps51
  go_wp2
  go_loop [3, 8] (fun o i => ∃ k : Nat, k ≤ xs.length ∧ i = .int .i64 (k : Int) ∧ o = .int .i64 (sumK xs k)) (fun _ i => xs.length - (intOf i).toNat)
  case atStart => exact ⟨0, by omega, rfl, rfl⟩
  case round =>
    obtain ⟨k, hk, rfl, rfl⟩ := hrel
    by_cases hlt : k < xs.length
    · obtain ⟨g, o, cc, hv, hg, hcells⟩ := H.out.cells (by omega)
      have hA : A0 = some ⟨g, o, none⟩ := by injection hv
      subst hA
      clear hv
      have e1 := hcells k hlt
      clear hcells
      have b1 := HB.out k (by omega)
      have b2 := HB.out (k + 1) (by omega)
      rw [HS.out] at b2
      have HN := Lib.hid (HS.out k)
      generalize xs.getD k 0 = x at *
      generalize sumK xs k = y at *
      go_wp2
      go_round
      case rel => exact ⟨k + 1, by omega, by go_num, by rw [HN.out]⟩
      case measure => first | (simp [intOf]; done) | (simp [intOf]; omega)
    · obtain rfl : k = xs.length := by omega
      have b1 := HB.out xs.length (by omega)
      go_wp2
      go_ret
      exact ⟨rfl, rfl⟩
/-- isWithin of one number, in the world that its slice has made -/
theorem within_one (lo hi x : Int) (w : World) : Calls Tryd.prog 37 #[.int .i64 lo, .int .i64 hi, .slice (some ⟨w.heap.size, 0, none⟩) 1 1] (w.alloc (.cells #[.int .i64 x] 3)) fun e w' => e = .returned (.bool (inBd lo hi x)) ∧ w.alloc (.cells #[.int .i64 x] 3) = w' := by
  have h := within_any _ [x] lo hi _ (one_ints w x) (by simp)
  rwa [show allB [x] lo hi = inBd lo hi x by simp [allB]] at h
theorem within_two (lo hi x y : Int) (w : World) : Calls Tryd.prog 37 #[.int .i64 lo, .int .i64 hi, .slice (some ⟨w.heap.size, 0, none⟩) 2 2] (w.alloc (.cells #[.int .i64 x, .int .i64 y] 3)) fun e w' => e = .returned (.bool (inBd lo hi x && inBd lo hi y)) ∧ w.alloc (.cells #[.int .i64 x, .int .i64 y] 3) = w' := by
  have h := within_any _ [x, y] lo hi _ (two_ints w x y) (by simp)
  rwa [show allB [x, y] lo hi = (inBd lo hi x && inBd lo hi y) by simp [allB]] at h
end Go.Proofs.YtmfcknlpbliehaaDoor
