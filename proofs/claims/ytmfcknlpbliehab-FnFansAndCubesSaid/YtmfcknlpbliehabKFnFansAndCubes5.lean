/- Pack 5 of what FnFansAndCubes needs: FcD, Math, DegMath. -/
import Derived.Test.YtmfcknlpbliehabKFnFansAndCubes4
import Derived.WalkKit
/- What the law on fans and cubes draws. -/
namespace Go.Proofs.Ytmfcknlpbliehab
open Go.RowKit
set_option linter.unusedVariables false
set_option maxHeartbeats 1000000 in
theorem drawFans_any (w : World) (A : Option Addr) (len cap : Nat) (hc : CodeAt w w.heap.size A len) (hl : len ≤ 1099511627776) :
    Calls Try.prog 24 #[.slice A len cap] w fun e w' => ∃ a b : Int, e = .returned (.tuple #[.int .i64 a, .int .i64 b]) ∧ (Small a ∧ Small b) ∧ Below w.heap.size w w' := by
  have HC := Lib.hid (Cur.new (cap := cap) hc)
  have H0 : Hid (∀ (W : World) (gb : Nat), Cur W w.heap.size A len cap 0 → w.heap.size < W.heap.size → gb = W.heap.size → Calls Try.prog 41 #[.pointer (some ⟨w.heap.size, 0, none⟩), .slice (some ⟨gb, 0, none⟩) 9 9] (W.alloc (.cells #[.int .i64 0, .int .i64 1, .int .i64 2, .int .i64 3, .int .i64 4, .int .i64 5, .int .i64 8, .int .i64 9, .int .i64 (-1)] 3)) (CurRet (W.alloc (.cells #[.int .i64 0, .int .i64 1, .int .i64 2, .int .i64 3, .int .i64 4, .int .i64 5, .int .i64 8, .int .i64 9, .int .i64 (-1)] 3)) w.heap.size A len cap 2 (IntP Small))) := Lib.hid fun W gb h1 h2 h3 => by
    subst h3
    exact among_any Small _ w.heap.size A len cap 0 W.heap.size 9 9 (by omega) (rowLit W _ [0, 1, 2, 3, 4, 5, 8, 9, -1] Small rfl (by intro x hx; simp at hx; unfold Small; omega)) (by omega) (h1.alloc _) (by omega) hl
  have H1 : Hid (∀ (W : World) (gb : Nat), Cur W w.heap.size A len cap 2 → w.heap.size < W.heap.size → gb = W.heap.size → Calls Try.prog 41 #[.pointer (some ⟨w.heap.size, 0, none⟩), .slice (some ⟨gb, 0, none⟩) 7 7] (W.alloc (.cells #[.int .i64 0, .int .i64 1, .int .i64 2, .int .i64 3, .int .i64 4, .int .i64 5, .int .i64 (-1)] 3)) (CurRet (W.alloc (.cells #[.int .i64 0, .int .i64 1, .int .i64 2, .int .i64 3, .int .i64 4, .int .i64 5, .int .i64 (-1)] 3)) w.heap.size A len cap 4 (IntP Small))) := Lib.hid fun W gb h1 h2 h3 => by
    subst h3
    exact among_any Small _ w.heap.size A len cap 2 W.heap.size 7 7 (by omega) (rowLit W _ [0, 1, 2, 3, 4, 5, -1] Small rfl (by intro x hx; simp at hx; unfold Small; omega)) (by omega) (h1.alloc _) (by omega) hl
  clear hc
  go_enter Try.func24, Try.ntmps24
  go_wp2_with fail
  refine (H0.out _ _ HC.out (by simp) (by simp)).mono ?_
  rintro e w1 ⟨v, rfl, ⟨a, rfl, ha⟩, hcur, hg⟩
  have HG0 := Lib.hid (grown_trans' (grown_of_below ((Below.refl _ _).alloc (Nat.le_refl _) _) _) hg)
  have hlt := hcur.lt
  have HCU0 := Lib.hid hcur
  have HV0 := Lib.hid ha
  clear hcur hg ha
  go_wp2_with fail
  refine (H1.out _ _ HCU0.out hlt rfl).mono ?_
  rintro e w2 ⟨v, rfl, ⟨b, rfl, hb⟩, hcur, hg⟩
  have HG1 := Lib.hid (grown_trans' HG0.out (grown_trans' (grown_of_below ((Below.refl _ _).alloc (Nat.le_refl _) _) _) hg))
  clear hlt
  have hlt := hcur.lt
  have HCU1 := Lib.hid hcur
  have HV1 := Lib.hid hb
  clear hcur hg hb
  have HB : Hid (Below w.heap.size w w2) := Lib.hid (below_of_new HG1.out)
  clear hlt
  go_wp2_with fail
  go_ret2
  exact ⟨a, b, rfl, ⟨HV0.out, HV1.out⟩, HB.out⟩
set_option maxHeartbeats 1000000 in
theorem drawCubes_any (w : World) (A : Option Addr) (len cap : Nat) (hc : CodeAt w w.heap.size A len) (hl : len ≤ 1099511627776) :
    Calls Try.prog 28 #[.slice A len cap] w fun e w' => ∃ a b c : Int, e = .returned (.tuple #[.int .i64 a, .int .i64 b, .int .i64 c]) ∧ (Small a ∧ Small b ∧ Small c) ∧ Below w.heap.size w w' := by
  have HC := Lib.hid (Cur.new (cap := cap) hc)
  have H0 : Hid (∀ (W : World) (gb : Nat), Cur W w.heap.size A len cap 0 → w.heap.size < W.heap.size → gb = W.heap.size → Calls Try.prog 41 #[.pointer (some ⟨w.heap.size, 0, none⟩), .slice (some ⟨gb, 0, none⟩) 6 6] (W.alloc (.cells #[.int .i64 0, .int .i64 1, .int .i64 2, .int .i64 3, .int .i64 4, .int .i64 5] 3)) (CurRet (W.alloc (.cells #[.int .i64 0, .int .i64 1, .int .i64 2, .int .i64 3, .int .i64 4, .int .i64 5] 3)) w.heap.size A len cap 2 (IntP Small))) := Lib.hid fun W gb h1 h2 h3 => by
    subst h3
    exact among_any Small _ w.heap.size A len cap 0 W.heap.size 6 6 (by omega) (rowLit W _ [0, 1, 2, 3, 4, 5] Small rfl (by intro x hx; simp at hx; unfold Small; omega)) (by omega) (h1.alloc _) (by omega) hl
  have H1 : Hid (∀ (W : World) (gb : Nat), Cur W w.heap.size A len cap 2 → w.heap.size < W.heap.size → gb = W.heap.size → Calls Try.prog 41 #[.pointer (some ⟨w.heap.size, 0, none⟩), .slice (some ⟨gb, 0, none⟩) 6 6] (W.alloc (.cells #[.int .i64 0, .int .i64 1, .int .i64 2, .int .i64 3, .int .i64 4, .int .i64 (-1)] 3)) (CurRet (W.alloc (.cells #[.int .i64 0, .int .i64 1, .int .i64 2, .int .i64 3, .int .i64 4, .int .i64 (-1)] 3)) w.heap.size A len cap 4 (IntP Small))) := Lib.hid fun W gb h1 h2 h3 => by
    subst h3
    exact among_any Small _ w.heap.size A len cap 2 W.heap.size 6 6 (by omega) (rowLit W _ [0, 1, 2, 3, 4, -1] Small rfl (by intro x hx; simp at hx; unfold Small; omega)) (by omega) (h1.alloc _) (by omega) hl
  have H2 : Hid (∀ (W : World) (gb : Nat), Cur W w.heap.size A len cap 4 → w.heap.size < W.heap.size → gb = W.heap.size → Calls Try.prog 41 #[.pointer (some ⟨w.heap.size, 0, none⟩), .slice (some ⟨gb, 0, none⟩) 6 6] (W.alloc (.cells #[.int .i64 0, .int .i64 1, .int .i64 2, .int .i64 3, .int .i64 4, .int .i64 2] 3)) (CurRet (W.alloc (.cells #[.int .i64 0, .int .i64 1, .int .i64 2, .int .i64 3, .int .i64 4, .int .i64 2] 3)) w.heap.size A len cap 6 (IntP Small))) := Lib.hid fun W gb h1 h2 h3 => by
    subst h3
    exact among_any Small _ w.heap.size A len cap 4 W.heap.size 6 6 (by omega) (rowLit W _ [0, 1, 2, 3, 4, 2] Small rfl (by intro x hx; simp at hx; unfold Small; omega)) (by omega) (h1.alloc _) (by omega) hl
  clear hc
  go_enter Try.func28, Try.ntmps28
  go_wp2_with fail
  refine (H0.out _ _ HC.out (by simp) (by simp)).mono ?_
  rintro e w1 ⟨v, rfl, ⟨a, rfl, ha⟩, hcur, hg⟩
  have HG0 := Lib.hid (grown_trans' (grown_of_below ((Below.refl _ _).alloc (Nat.le_refl _) _) _) hg)
  have hlt := hcur.lt
  have HCU0 := Lib.hid hcur
  have HV0 := Lib.hid ha
  clear hcur hg ha
  go_wp2_with fail
  refine (H1.out _ _ HCU0.out hlt rfl).mono ?_
  rintro e w2 ⟨v, rfl, ⟨b, rfl, hb⟩, hcur, hg⟩
  have HG1 := Lib.hid (grown_trans' HG0.out (grown_trans' (grown_of_below ((Below.refl _ _).alloc (Nat.le_refl _) _) _) hg))
  clear hlt
  have hlt := hcur.lt
  have HCU1 := Lib.hid hcur
  have HV1 := Lib.hid hb
  clear hcur hg hb
  go_wp2_with fail
  refine (H2.out _ _ HCU1.out hlt rfl).mono ?_
  rintro e w3 ⟨v, rfl, ⟨c, rfl, hc⟩, hcur, hg⟩
  have HG2 := Lib.hid (grown_trans' HG1.out (grown_trans' (grown_of_below ((Below.refl _ _).alloc (Nat.le_refl _) _) _) hg))
  clear hlt
  have hlt := hcur.lt
  have HCU2 := Lib.hid hcur
  have HV2 := Lib.hid hc
  clear hcur hg hc
  have HB : Hid (Below w.heap.size w w3) := Lib.hid (below_of_new HG2.out)
  clear hlt
  go_wp2_with fail
  (try simp only [Exit.inBlock, Exit.then])
  refine bodyPost_ret (results_tmp3 rfl _ _ _) rfl ?_
  exact ⟨a, b, c, rfl, ⟨HV0.out, HV1.out, HV2.out⟩, HB.out⟩
end Go.Proofs.Ytmfcknlpbliehab

/- Plain facts on lists of bytes and numbers: what the paths' functions compute. -/
namespace Go.Proofs.Ytmfcknlpbliehab
open Go.RowKit

def isUD (c : UInt8) : Bool := c == 85 || c == 68
def pathB (s : ByteArray) : Bool := decide (s.size ≤ 40) && s.data.toList.all isUD

theorem take_snoc (s : ByteArray) (k : Nat) (h : k < s.size) : s.data.toList.take (k + 1) = s.data.toList.take k ++ [s[k]] := by
  rw [List.take_succ_eq_append_getElem (by simpa using h)]; rfl

theorem pathB_iff (s : ByteArray) : pathB s = true ↔ s.size ≤ 40 ∧ ∀ k (h : k < s.size), isUD s[k] = true := by
  unfold pathB
  rw [Bool.and_eq_true, decide_eq_true_iff, List.all_eq_true]
  constructor
  · rintro ⟨h1, h2⟩
    exact ⟨h1, fun k h => h2 _ (by
      have : s[k] = s.data.toList[k]'(by simpa using h) := rfl
      rw [this]; exact List.getElem_mem _)⟩
  · rintro ⟨h1, h2⟩
    refine ⟨h1, fun x hx => ?_⟩
    obtain ⟨i, hi, rfl⟩ := List.mem_iff_getElem.1 hx
    exact h2 i (by simpa using hi)

end Go.Proofs.Ytmfcknlpbliehab

/- Degrees, their excess, forests, rotations: plain lists. -/
namespace Go.Proofs.Ytmfcknlpbliehab
open Go.RowKit
def inBd (lo hi x : Int) : Bool := decide (lo ≤ x) && decide (x ≤ hi)
def allB (xs : List Int) (lo hi : Int) : Bool := xs.all (inBd lo hi)
def degB (xs : List Int) : Bool := inBd 1 16 (xs.length : Nat) && allB xs 0 16
theorem allB_take {xs : List Int} {lo hi : Int} {k : Nat} (h : allB (xs.take k) lo hi = true) (hk : k < xs.length) : allB (xs.take (k + 1)) lo hi = inBd lo hi (xs.getD k 0) := by
  unfold allB at *
  rw [List.take_succ_eq_append_getElem hk, List.all_append, h, Bool.true_and, List.getD_eq_getElem?_getD, List.getElem?_eq_getElem hk]
  simp
theorem allB_no {xs : List Int} {lo hi : Int} {k : Nat} (hk : k < xs.length) (h : inBd lo hi (xs.getD k 0) = false) : allB xs lo hi = false := by
  rw [Bool.eq_false_iff]
  intro e
  unfold allB at e
  rw [List.all_eq_true] at e
  have := e (xs.getD k 0) (by rw [List.getD_eq_getElem?_getD, List.getElem?_eq_getElem hk]; exact List.getElem_mem hk)
  rw [this] at h
  cases h
theorem degB_of {xs : List Int} (h : degB xs = true) : (1 ≤ xs.length ∧ xs.length ≤ 16) ∧ ∀ k, k < xs.length → 0 ≤ xs.getD k 0 ∧ xs.getD k 0 ≤ 16 := by
  unfold degB allB inBd at h
  rw [Bool.and_eq_true, List.all_eq_true] at h
  obtain ⟨h1, h2⟩ := h
  simp at h1
  refine ⟨by omega, fun k hk => ?_⟩
  have := h2 (xs.getD k 0) (by rw [List.getD_eq_getElem?_getD, List.getElem?_eq_getElem hk]; exact List.getElem_mem hk)
  simpa using this
theorem take_sum (xs : List Int) (k : Nat) (h : k < xs.length) : (xs.take (k + 1)).sum = (xs.take k).sum + xs.getD k 0 := by
  rw [List.take_succ_eq_append_getElem h, List.sum_append, List.getD_eq_getElem?_getD, List.getElem?_eq_getElem h]
  simp
/-- the sum of the first k degrees -/
def sumT (xs : List Int) (k : Nat) : Int := (xs.take k).sum
theorem sumT_0 (xs : List Int) : sumT xs 0 = 0 := by simp [sumT]
theorem sumT_succ (xs : List Int) (k : Nat) (h : k < xs.length) : sumT xs (k + 1) = sumT xs k + xs.getD k 0 := take_sum xs k h
theorem sumT_bd {xs : List Int} (h : degB xs = true) : ∀ k, k ≤ xs.length → 0 ≤ sumT xs k ∧ sumT xs k ≤ 16 * k
  | 0, _ => by rw [sumT_0]; omega
  | k + 1, hk => by
    have h1 := sumT_bd h k (by omega)
    have h2 := (degB_of h).2 k (by omega)
    rw [sumT_succ xs k (by omega)]
    omega
def exc (xs : List Int) : Int := (xs.length : Int) - sumT xs xs.length
/-- no beginning of less than k falls too low -/
def upB (xs : List Int) (r : Int) : Nat → Bool
  | 0 => true
  | k + 1 => upB xs r k && !(decide (sumT xs (k + 1) - ((k + 1 : Nat) : Int) ≤ -r) && decide (k + 1 < xs.length))
def forB (xs : List Int) : Bool := decide (1 ≤ exc xs) && upB xs (exc xs) xs.length
theorem upB_no {xs : List Int} {r : Int} {k : Nat} (h : sumT xs (k + 1) - ((k + 1 : Nat) : Int) ≤ -r) (hk : k + 1 < xs.length) : ∀ m, upB xs r (k + 1 + m) = false
  | 0 => by rw [Nat.add_zero, upB, decide_eq_true h, decide_eq_true hk]; simp
  | m + 1 => by rw [← Nat.add_assoc, upB, upB_no h hk m]; simp
theorem upB_step {xs : List Int} {r : Int} {k : Nat} (h : upB xs r k = true) (hn : ¬ (sumT xs (k + 1) - ((k + 1 : Nat) : Int) ≤ -r ∧ k + 1 < xs.length)) : upB xs r (k + 1) = true := by
  rw [upB, h, Bool.true_and, Bool.not_eq_true', Bool.and_eq_false_iff, decide_eq_false_iff_not, decide_eq_false_iff_not]
  omega
theorem forB_low {xs : List Int} (h : exc xs < 1) : forB xs = false := by unfold forB; rw [decide_eq_false (by omega)]; rfl
theorem forB_no {xs : List Int} {k : Nat} (h : sumT xs (k + 1) - ((k + 1 : Nat) : Int) ≤ -exc xs) (hk : k + 1 < xs.length) : forB xs = false := by
  have := upB_no h hk (xs.length - (k + 1))
  rw [show k + 1 + (xs.length - (k + 1)) = xs.length by omega] at this
  unfold forB
  rw [this, Bool.and_false]
theorem forB_yes {xs : List Int} (h1 : 1 ≤ exc xs) (h : upB xs (exc xs) xs.length = true) : forB xs = true := by
  unfold forB; rw [decide_eq_true h1, h]; rfl
def rot (xs : List Int) (k : Nat) : List Int := xs.drop k ++ xs.take k
theorem rot_length (xs : List Int) (k : Nat) (h : k ≤ xs.length) : (rot xs k).length = xs.length := by
  unfold rot; rw [List.length_append, List.length_drop, List.length_take]; omega
end Go.Proofs.Ytmfcknlpbliehab
