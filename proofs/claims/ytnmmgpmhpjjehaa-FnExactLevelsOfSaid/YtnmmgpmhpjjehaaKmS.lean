/- The model's CountMixed, CountNoFloor, CountColors. -/
import Derived.Test.YtnmmgpmhpjjehaaKcS
import Derived.Test.YtnmmgpmhpjjehaaDeg
import Derived.Test.YtnmmgpmhpjjehaaInB
namespace Go.Proofs.Ytnmmgpmhpjjehaa
open Go.RowKit
set_option linter.unusedVariables false
theorem nil_ints (w : World) : RInts w (.slice none 0 0) [] := ⟨⟨_, _, rfl⟩, fun A n c e => by injection e with e1 e2 e3; subst e2 e3; exact ⟨Nat.le_refl _, by simp [maxLen]⟩, fun h0 => absurd h0 (by simp)⟩
theorem lit1 (w : World) (x : Int) : RInts (w.alloc (.cells #[.int .i64 x] 3)) (.slice (some ⟨w.heap.size, 0, none⟩) 1 1) [x] :=
  RInts.of_row (B := w.heap.size) (IRow.of_own (World.ownsRow_lit w #[.int .i64 x] 1 (Nat.le_refl _) (by simp [maxLen]) rfl) (by simp) (by simp))
theorem lit3 (w : World) (x y z : Int) : RInts (w.alloc (.cells #[.int .i64 x, .int .i64 y, .int .i64 z] 3)) (.slice (some ⟨w.heap.size, 0, none⟩) 3 3) [x, y, z] :=
  RInts.of_row (B := w.heap.size) (IRow.of_own (World.ownsRow_lit w #[.int .i64 x, .int .i64 y, .int .i64 z] 3 (Nat.le_refl _) (by simp [maxLen]) rfl) (by simp) (by simp))
def ksB (n : Int) (xs : List Int) : Bool := inB n 0 12 && allB xs 0 9
theorem kiSteps_any (n : Int) (v : Value) (xs : List Int) (w : World) (h : RInts w v xs) (hl : xs.length ≤ 1048576) :
    Calls Try.prog 77 #[.int .i64 n, v] w fun e w' => e = .returned (.bool (ksB n xs)) ∧ w = w' := by
  have HI := Lib.hid (in_any n 0 12)
  have HA := Lib.hid (l1All_any v xs 0 9 w h hl)
  obtain ⟨A, c, rfl⟩ := h.shape
  clear h
  unfold ksB
  rcases Bool.eq_false_or_eq_true (inB n 0 12) with hi | hi
  · rw [hi] at HI ⊢
    generalize allB xs 0 9 = b at *
    go_enter Try.func77, Try.ntmps77
    go_wp2_with (first | (go_at_call 71; refine (HI.out _).mono ?_; rintro e w' ⟨rfl, rfl⟩) | (go_at_call 90; refine HA.out.mono ?_; rintro e w' ⟨rfl, rfl⟩))
    go_ret
    exact ⟨by simp, rfl⟩
  · rw [hi] at HI ⊢
    go_enter Try.func77, Try.ntmps77
    go_wp2_with (go_at_call 71; refine (HI.out _).mono ?_; rintro e w' ⟨rfl, rfl⟩)
    go_ret
    exact ⟨by simp, rfl⟩
theorem inB_iff {a lo hi : Int} (h : inB a lo hi = true) : lo ≤ a ∧ a ≤ hi := by
  unfold inB at h
  simpa only [Bool.and_eq_true, decide_eq_true_eq] using h
theorem inBd_iff {a lo hi : Int} (h : inBd lo hi a = true) : lo ≤ a ∧ a ≤ hi := by
  unfold inBd at h
  simpa only [Bool.and_eq_true, decide_eq_true_eq] using h
def cmOk (n f : Int) : Bool := ksB n [f]
def cmV (n f : Int) : Int := if cmOk n f = true then kcN n.toNat 1 f.toNat 1 true else 0
def cfOk (n : Int) : Bool := ksB n []
def cfV (n : Int) : Int := if cfOk n = true then kcN n.toNat 1 1 1 false else 0
def ccOk (n u f d : Int) : Bool := ksB n [u, f, d]
def ccV (n u f d : Int) : Int := if ccOk n u f d = true then kcN n.toNat u.toNat f.toNat d.toNat true else 0
theorem ksB_of {n : Int} {xs : List Int} (h : ksB n xs = true) : (0 ≤ n ∧ n ≤ 12) ∧ ∀ x ∈ xs, 0 ≤ x ∧ x ≤ 9 := by
  unfold ksB allB at h
  rw [Bool.and_eq_true, List.all_eq_true] at h
  exact ⟨inB_iff h.1, fun x hx => inBd_iff (h.2 x hx)⟩
theorem specCountMixed_ret (n f : Int) (w : World) : Calls Try.prog 29 #[.int .i64 n, .int .i64 f] w (Ret w (.tuple #[.int .i64 (cmV n f), .bool (cmOk n f)])) := by
  have HS : Hid (∀ w : World, Calls Try.prog 77 #[.int .i64 n, .slice (some ⟨w.heap.size, 0, none⟩) 1 1] (w.alloc (.cells #[.int .i64 f] 3)) fun e w' => e = .returned (.bool (cmOk n f)) ∧ (w.alloc (.cells #[.int .i64 f] 3)) = w') := Lib.hid fun w => kiSteps_any n _ [f] _ (lit1 w f) (by simp)
  rcases Bool.eq_false_or_eq_true (cmOk n f) with ho | ho
  · obtain ⟨h1, h2⟩ := ksB_of ho
    have hf := h2 f (by simp)
    have e : cmV n f = kcN n.toNat 1 f.toNat 1 true := by rw [cmV, if_pos ho]
    have HC : Hid (∀ w, Calls Try.prog 78 #[.int .i64 n, .int .i64 1, .int .i64 f, .int .i64 1, .bool true] w (Ret w (.int .i64 (cmV n f)))) := Lib.hid fun w => by
      have := kiCount_ret n.toNat 1 f.toNat 1 true w (by omega) (by omega) (by omega) (by omega)
      rw [e]
      rw [show ((n.toNat : Nat) : Int) = n by omega, show ((f.toNat : Nat) : Int) = f by omega] at this
      exact this
    rw [ho] at HS ⊢
    clear e
    generalize cmV n f = z at *
    go_enter Try.func29, Try.ntmps29
    go_wp2_with (first | (go_at_call 77; refine (HS.out _).mono ?_; rintro e w' ⟨rfl, rfl⟩) | (go_at_call 78; refine (HC.out _).mono ?_; rintro e w1 ⟨rfl, hb1⟩))
    go_ret2
    exact ⟨rfl, ((Below.refl _ _).alloc (Nat.le_refl _) _).trans (hb1.mono (by simp))⟩
  · have e : cmV n f = 0 := by rw [cmV, ho]; rfl
    rw [ho] at HS ⊢
    rw [e]
    go_enter Try.func29, Try.ntmps29
    go_wp2_with (go_at_call 77; refine (HS.out _).mono ?_; rintro e w' ⟨rfl, rfl⟩)
    go_ret2
    exact ⟨rfl, (Below.refl _ _).alloc (Nat.le_refl _) _⟩
theorem specCountColors_ret (n u f d : Int) (w : World) : Calls Try.prog 38 #[.int .i64 n, .int .i64 u, .int .i64 f, .int .i64 d] w (Ret w (.tuple #[.int .i64 (ccV n u f d), .bool (ccOk n u f d)])) := by
  have HS : Hid (∀ w : World, Calls Try.prog 77 #[.int .i64 n, .slice (some ⟨w.heap.size, 0, none⟩) 3 3] (w.alloc (.cells #[.int .i64 u, .int .i64 f, .int .i64 d] 3)) fun e w' => e = .returned (.bool (ccOk n u f d)) ∧ (w.alloc (.cells #[.int .i64 u, .int .i64 f, .int .i64 d] 3)) = w') := Lib.hid fun w => kiSteps_any n _ [u, f, d] _ (lit3 w u f d) (by simp)
  rcases Bool.eq_false_or_eq_true (ccOk n u f d) with ho | ho
  · obtain ⟨h1, h2⟩ := ksB_of ho
    have hu := h2 u (by simp)
    have hf := h2 f (by simp)
    have hd := h2 d (by simp)
    have e : ccV n u f d = kcN n.toNat u.toNat f.toNat d.toNat true := by rw [ccV, if_pos ho]
    have HC : Hid (∀ w, Calls Try.prog 78 #[.int .i64 n, .int .i64 u, .int .i64 f, .int .i64 d, .bool true] w (Ret w (.int .i64 (ccV n u f d)))) := Lib.hid fun w => by
      have := kiCount_ret n.toNat u.toNat f.toNat d.toNat true w (by omega) (by omega) (by omega) (by omega)
      rw [e]
      rw [show ((n.toNat : Nat) : Int) = n by omega, show ((u.toNat : Nat) : Int) = u by omega, show ((f.toNat : Nat) : Int) = f by omega, show ((d.toNat : Nat) : Int) = d by omega] at this
      exact this
    rw [ho] at HS ⊢
    clear e
    generalize ccV n u f d = z at *
    go_enter Try.func38, Try.ntmps38
    go_wp2_with (first | (go_at_call 77; refine (HS.out _).mono ?_; rintro e w' ⟨rfl, rfl⟩) | (go_at_call 78; refine (HC.out _).mono ?_; rintro e w1 ⟨rfl, hb1⟩))
    go_ret2
    exact ⟨rfl, ((Below.refl _ _).alloc (Nat.le_refl _) _).trans (hb1.mono (by simp))⟩
  · have e : ccV n u f d = 0 := by rw [ccV, ho]; rfl
    rw [ho] at HS ⊢
    rw [e]
    go_enter Try.func38, Try.ntmps38
    go_wp2_with (go_at_call 77; refine (HS.out _).mono ?_; rintro e w' ⟨rfl, rfl⟩)
    go_ret2
    exact ⟨rfl, (Below.refl _ _).alloc (Nat.le_refl _) _⟩
theorem specCountNoFloor_ret (n : Int) (w : World) : Calls Try.prog 36 #[.int .i64 n] w (Ret w (.tuple #[.int .i64 (cfV n), .bool (cfOk n)])) := by
  have HS : Hid (∀ w : World, Calls Try.prog 77 #[.int .i64 n, .slice none 0 0] w fun e w' => e = .returned (.bool (cfOk n)) ∧ w = w') := Lib.hid fun w => kiSteps_any n _ [] _ (nil_ints w) (by simp)
  rcases Bool.eq_false_or_eq_true (cfOk n) with ho | ho
  · obtain ⟨h1, h2⟩ := ksB_of ho
    have e : cfV n = kcN n.toNat 1 1 1 false := by rw [cfV, if_pos ho]
    have HC : Hid (∀ w, Calls Try.prog 78 #[.int .i64 n, .int .i64 1, .int .i64 1, .int .i64 1, .bool false] w (Ret w (.int .i64 (cfV n)))) := Lib.hid fun w => by
      have := kiCount_ret n.toNat 1 1 1 false w (by omega) (by omega) (by omega) (by omega)
      rw [e]
      rw [show ((n.toNat : Nat) : Int) = n by omega] at this
      exact this
    rw [ho] at HS ⊢
    clear e
    generalize cfV n = z at *
    go_enter Try.func36, Try.ntmps36
    go_wp2_with (first | (go_at_call 77; refine (HS.out _).mono ?_; rintro e w' ⟨rfl, rfl⟩) | (go_at_call 78; refine (HC.out _).mono ?_; rintro e w1 ⟨rfl, hb1⟩))
    go_ret2
    exact ⟨rfl, hb1⟩
  · have e : cfV n = 0 := by rw [cfV, ho]; rfl
    rw [ho] at HS ⊢
    rw [e]
    go_enter Try.func36, Try.ntmps36
    go_wp2_with (go_at_call 77; refine (HS.out _).mono ?_; rintro e w' ⟨rfl, rfl⟩)
    go_ret2
    exact ⟨rfl, Below.refl _ _⟩
end Go.Proofs.Ytnmmgpmhpjjehaa
