/- The program's reflections: (touch).before, (touch).behind, reflectAt, ReflectBefore, ReflectBehind, PairOf. -/
import Derived.Test.YtlgiamgjimffnaaIdxI
import Derived.Test.YtlgiamgjimffnaaJoinS
import Derived.Test.YtlgiamgjimffnaaClosed
import Derived.Test.YtlgiamgjimffnaaPairS
namespace Go.Proofs.Ytlgiamgjimffnaa
open Go.RowKit
set_option linter.unusedVariables false
theorem pathB_ext {s : ByteArray} (h : pathB s = true) (a b : Nat) : pathB (s.extract a b) = true := by
  unfold pathB at h ⊢
  rw [Bool.and_eq_true, decide_eq_true_iff, List.all_eq_true] at h ⊢
  refine ⟨by rw [ByteArray.size_extract]; omega, fun x hx => h.2 x ?_⟩
  rw [ByteArray.data_extract, Array.toList_extract] at hx
  exact List.mem_of_mem_drop (List.mem_of_mem_take hx)
theorem two_cat (x y : ByteArray) : strOf (catB [x, y]) = x ++ y := by
  apply ByteArray.ext
  apply Array.toList_inj.1
  simp [strOf, catB]
theorem join_two (x y : ByteArray) (hx : x.size ≤ 100) (hy : y.size ≤ 100) (w : World) :
    Calls Try.prog 129 #[.slice (some ⟨w.heap.size, 0, none⟩) 2 2] (w.alloc (.cells #[.string x, .string y] 9)) fun e w' => e = .returned (.string (x ++ y)) ∧ Below w.heap.size w w' := by
  have hr : SRow (w.alloc (.cells #[.string x, .string y] 9)) w.heap.size (.slice (some ⟨w.heap.size, 0, none⟩) 2 2) [x, y] :=
    SRow.of_own (World.ownsRow_lit w #[.string x, .string y] 2 (Nat.le_refl _) (by simp [maxLen]) rfl) rfl rfl
  refine (joinSteps_any [x, y] _ _ _ hr (by simp) (by intro z hz; simp at hz; rcases hz with rfl | rfl <;> omega)).mono fun e w' ⟨h1, h2⟩ => ⟨by rw [h1, two_cat], ((Below.refl _ _).alloc (Nat.le_refl _) _).trans (h2.mono (by simp))⟩

set_option maxHeartbeats 800000 in
theorem before_ret (s : ByteArray) (z : Nat) (w : World) (hp : pathB s = true) (hz : z ≤ s.size) :
    Calls Try.prog 94 #[.agg #[.string s, .int .i64 (z : Nat)]] w (Ret w (.string (turnS (s.extract 0 z) ++ s.extract z s.size))) := by
  have h40 := ((pathB_iff s).1 hp).1
  have HT : Hid (∀ w, Calls Try.prog 128 #[.string (s.extract 0 z)] w (Ret w (.tuple #[.string (turnS (s.extract 0 z)), .bool true]))) := Lib.hid fun w => turn_yes _ w (by rw [ByteArray.size_extract]; unfold maxLen; omega) (pathB_ext hp _ _)
  have HJ : Hid (∀ w : World, Calls Try.prog 129 #[.slice (some ⟨w.heap.size, 0, none⟩) 2 2] (w.alloc (.cells #[.string (turnS (s.extract 0 z)), .string (s.extract z s.size)] 9)) fun e w' => e = .returned (.string (turnS (s.extract 0 z) ++ s.extract z s.size)) ∧ Below w.heap.size w w') := Lib.hid (join_two _ _ (by rw [turnS_size, ByteArray.size_extract]; omega) (by rw [ByteArray.size_extract]; omega))
  have j1 : (z : Int) ≤ (s.size : Int) := by omega
  have j2 : (0 : Int) ≤ (z : Int) := by omega
  generalize turnS (s.extract 0 z) ++ s.extract z s.size = R at *
  clear hp h40
  go_enter Try.func94, Try.ntmps94
  go_wp2_with (first | (go_at_call 128; refine (HT.out _).mono ?_; rintro e w1 ⟨rfl, hb1⟩; have k0 := hb1.cell (p := ⟨w.heap.size, 0, none⟩) (by simp); have k1 := hb1.cell (p := ⟨w.heap.size, 1, none⟩) (by simp); simp [go_sem] at k0 k1) | (go_at_call 129; refine (HJ.out _).mono ?_; rintro e w2 ⟨rfl, hb2⟩))
  go_ret
  exact ⟨rfl, (((Below.refl _ _).alloc (Nat.le_refl _) _).trans (hb1.mono (by simp))).trans (hb2.mono (by have := hb1.size; simp at this; omega))⟩

set_option maxHeartbeats 800000 in
theorem behind_ret (s : ByteArray) (z : Nat) (w : World) (hp : pathB s = true) (hz : z ≤ s.size) :
    Calls Try.prog 95 #[.agg #[.string s, .int .i64 (z : Nat)]] w (Ret w (.string (s.extract 0 z ++ turnS (s.extract z s.size)))) := by
  have h40 := ((pathB_iff s).1 hp).1
  have HT : Hid (∀ w, Calls Try.prog 128 #[.string (s.extract z s.size)] w (Ret w (.tuple #[.string (turnS (s.extract z s.size)), .bool true]))) := Lib.hid fun w => turn_yes _ w (by rw [ByteArray.size_extract]; unfold maxLen; omega) (pathB_ext hp _ _)
  have HJ : Hid (∀ w : World, Calls Try.prog 129 #[.slice (some ⟨w.heap.size, 0, none⟩) 2 2] (w.alloc (.cells #[.string (s.extract 0 z), .string (turnS (s.extract z s.size))] 9)) fun e w' => e = .returned (.string (s.extract 0 z ++ turnS (s.extract z s.size))) ∧ Below w.heap.size w w') := Lib.hid (join_two _ _ (by rw [ByteArray.size_extract]; omega) (by rw [turnS_size, ByteArray.size_extract]; omega))
  have j1 : (z : Int) ≤ (s.size : Int) := by omega
  have j2 : (0 : Int) ≤ (z : Int) := by omega
  generalize s.extract 0 z ++ turnS (s.extract z s.size) = R at *
  clear hp h40
  go_enter Try.func95, Try.ntmps95
  go_wp2_with (first | (go_at_call 128; refine (HT.out _).mono ?_; rintro e w1 ⟨rfl, hb1⟩; have k0 := hb1.cell (p := ⟨w.heap.size, 0, none⟩) (by simp); have k1 := hb1.cell (p := ⟨w.heap.size, 1, none⟩) (by simp); simp [go_sem] at k0 k1) | (go_at_call 129; refine (HJ.out _).mono ?_; rintro e w2 ⟨rfl, hb2⟩))
  go_ret
  exact ⟨rfl, (((Below.refl _ _).alloc (Nat.le_refl _) _).trans (hb1.mono (by simp))).trans (hb2.mono (by have := hb1.size; simp at this; omega))⟩

set_option maxHeartbeats 800000 in
theorem reflectAt_before (s : ByteArray) (h : Int) (w : World) (hs : s.size ≤ maxLen) :
    Calls Try.prog 93 #[.string s, .int .i64 h, .func (.func 94) #[] #[]] w (Ret w (.tuple #[.string (rbV s h), .bool (faOk s h)])) := by
  have HF : Hid (∀ w, Calls Try.prog 43 #[.string s, .int .i64 h] w (Ret w (.tuple #[.int .i64 (faV s h), .bool (faOk s h)]))) := Lib.hid fun w => firstAt_ret s h w hs
  rcases Bool.eq_false_or_eq_true (faOk s h) with ho | ho
  · have ho2 := ho
    unfold faOk at ho2
    rw [Bool.and_eq_true, Bool.and_eq_true, decide_eq_true_iff] at ho2
    have hbd := faZ_bd s h
    obtain ⟨z, hz⟩ : ∃ z : Nat, faZ s h = z := ⟨(faZ s h).toNat, by omega⟩
    have e1 : faV s h = (z : Nat) := by rw [faV, if_pos ho, hz]
    have e2 : rbV s h = turnS (s.extract 0 z) ++ s.extract z s.size := by rw [rbV, if_pos ho, hz, Int.toNat_natCast]
    have HB : Hid (∀ w, Calls Try.prog 94 #[.agg #[.string s, .int .i64 (z : Nat)]] w (Ret w (.string (turnS (s.extract 0 z) ++ s.extract z s.size)))) := Lib.hid fun w => before_ret s z w ho2.1.1 (by omega)
    rw [e2, ho]
    rw [e1, ho] at HF
    generalize turnS (s.extract 0 z) ++ s.extract z s.size = R at *
    clear e1 e2 hz hbd ho2 ho
    go_enter Try.func93, Try.ntmps93
    go_wp2_with (first | (go_at_call 43; refine (HF.out _).mono ?_; rintro e w1 ⟨rfl, hb1⟩) | (go_at_call 94; refine (HB.out _).mono ?_; rintro e w2 ⟨rfl, hb2⟩))
    go_ret2
    exact ⟨rfl, hb1.trans (hb2.mono hb1.size)⟩
  · have e1 : rbV s h = ⟨#[]⟩ := by rw [rbV, ho]; rfl
    rw [e1, ho]
    rw [ho] at HF
    clear e1
    go_enter Try.func93, Try.ntmps93
    go_wp2_with (go_at_call 43; refine (HF.out _).mono ?_; rintro e w1 ⟨rfl, hb1⟩)
    go_ret2
    exact ⟨rfl, hb1⟩
set_option maxHeartbeats 400000 in
theorem reflectBefore_ret (s : ByteArray) (h : Int) (w : World) (hs : s.size ≤ maxLen) : Calls Try.prog 47 #[.string s, .int .i64 h] w (Ret w (.tuple #[.string (rbV s h), .bool (faOk s h)])) := by
  have HR : Hid (∀ w, Calls Try.prog 93 #[.string s, .int .i64 h, .func (.func 94) #[] #[]] w (Ret w (.tuple #[.string (rbV s h), .bool (faOk s h)]))) := Lib.hid fun w => reflectAt_before s h w hs
  go_enter Try.func47, Try.ntmps47
  go_wp2_with (go_at_call 93; refine (HR.out _).mono ?_; rintro e w1 ⟨rfl, hb1⟩)
  go_ret2
  exact ⟨rfl, hb1⟩

set_option maxHeartbeats 800000 in
theorem reflectAt_behind (s : ByteArray) (h : Int) (w : World) (hs : s.size ≤ maxLen) :
    Calls Try.prog 93 #[.string s, .int .i64 h, .func (.func 95) #[] #[]] w (Ret w (.tuple #[.string (rhV s h), .bool (faOk s h)])) := by
  have HF : Hid (∀ w, Calls Try.prog 43 #[.string s, .int .i64 h] w (Ret w (.tuple #[.int .i64 (faV s h), .bool (faOk s h)]))) := Lib.hid fun w => firstAt_ret s h w hs
  rcases Bool.eq_false_or_eq_true (faOk s h) with ho | ho
  · have ho2 := ho
    unfold faOk at ho2
    rw [Bool.and_eq_true, Bool.and_eq_true, decide_eq_true_iff] at ho2
    have hbd := faZ_bd s h
    obtain ⟨z, hz⟩ : ∃ z : Nat, faZ s h = z := ⟨(faZ s h).toNat, by omega⟩
    have e1 : faV s h = (z : Nat) := by rw [faV, if_pos ho, hz]
    have e2 : rhV s h = s.extract 0 z ++ turnS (s.extract z s.size) := by rw [rhV, if_pos ho, hz, Int.toNat_natCast]
    have HB : Hid (∀ w, Calls Try.prog 95 #[.agg #[.string s, .int .i64 (z : Nat)]] w (Ret w (.string (s.extract 0 z ++ turnS (s.extract z s.size))))) := Lib.hid fun w => behind_ret s z w ho2.1.1 (by omega)
    rw [e2, ho]
    rw [e1, ho] at HF
    generalize s.extract 0 z ++ turnS (s.extract z s.size) = R at *
    clear e1 e2 hz hbd ho2 ho
    go_enter Try.func93, Try.ntmps93
    go_wp2_with (first | (go_at_call 43; refine (HF.out _).mono ?_; rintro e w1 ⟨rfl, hb1⟩) | (go_at_call 95; refine (HB.out _).mono ?_; rintro e w2 ⟨rfl, hb2⟩))
    go_ret2
    exact ⟨rfl, hb1.trans (hb2.mono hb1.size)⟩
  · have e1 : rhV s h = ⟨#[]⟩ := by rw [rhV, ho]; rfl
    rw [e1, ho]
    rw [ho] at HF
    clear e1
    go_enter Try.func93, Try.ntmps93
    go_wp2_with (go_at_call 43; refine (HF.out _).mono ?_; rintro e w1 ⟨rfl, hb1⟩)
    go_ret2
    exact ⟨rfl, hb1⟩
set_option maxHeartbeats 400000 in
theorem reflectBehind_ret (s : ByteArray) (h : Int) (w : World) (hs : s.size ≤ maxLen) : Calls Try.prog 49 #[.string s, .int .i64 h] w (Ret w (.tuple #[.string (rhV s h), .bool (faOk s h)])) := by
  have HR : Hid (∀ w, Calls Try.prog 93 #[.string s, .int .i64 h, .func (.func 95) #[] #[]] w (Ret w (.tuple #[.string (rhV s h), .bool (faOk s h)]))) := Lib.hid fun w => reflectAt_behind s h w hs
  go_enter Try.func49, Try.ntmps49
  go_wp2_with (go_at_call 93; refine (HR.out _).mono ?_; rintro e w1 ⟨rfl, hb1⟩)
  go_ret2
  exact ⟨rfl, hb1⟩

theorem minTo_le (s : ByteArray) : ∀ k j, j ≤ k → minTo s k ≤ hAt s j
  | 0, j, h => by rw [show j = 0 by omega, hAt_zero]; simp [minTo]
  | k + 1, j, h => by
    rw [minTo]
    by_cases e : j = k + 1
    · subst e; split <;> omega
    · have := minTo_le s k j (by omega)
      split <;> omega
theorem low_iff (s : ByteArray) : decide (minTo s s.size < 0) = decide (0 ≤ faZ s (-1)) := by
  by_cases h : minTo s s.size < 0
  · rw [decide_eq_true h, decide_eq_true (faZ_low s h)]
  · rw [decide_eq_false h, decide_eq_false]
    intro h0
    obtain ⟨j, h1, h2⟩ := faGo_hit s (-1) _ _ h0
    have := minTo_le s s.size j (by omega)
    omega
theorem pr_ok (s : ByteArray) : prOk s = (closedV s && faOk s (-1)) := by
  unfold prOk closedV faOk
  rw [low_iff]
  have e : inB (-1) (-40) 40 = true := by decide
  rw [e, show (hAt s s.size == 0) = decide (hAt s s.size = 0) from rfl]
  cases pathB s <;> cases decide (hAt s s.size = 0) <;> cases decide (0 ≤ faZ s (-1)) <;> rfl
theorem pr_v (s : ByteArray) (h : closedV s = true) : prV s = rbV s (-1) := by
  unfold prV rbV
  rw [pr_ok, h, Bool.true_and]
set_option maxHeartbeats 400000 in
theorem pairOfI_ret (s : ByteArray) (w : World) (hs : s.size ≤ maxLen) : Calls Try.prog 72 #[.string s] w (Ret w (.tuple #[.string (prV s), .bool (prOk s)])) := by
  have HC : Hid (∀ w, Calls Try.prog 117 #[.string s] w (Ret w (.tuple #[.bool (closedV s), .bool (pathB s)]))) := Lib.hid fun w => isClosed_ret s w hs
  have HR : Hid (∀ w, Calls Try.prog 47 #[.string s, .int .i64 (-1)] w (Ret w (.tuple #[.string (rbV s (-1)), .bool (faOk s (-1))]))) := Lib.hid fun w => reflectBefore_ret s (-1) w hs
  rcases Bool.eq_false_or_eq_true (closedV s) with hc | hc
  · rw [pr_v s hc, pr_ok, hc, Bool.true_and]
    rw [hc] at HC
    go_enter Try.func72, Try.ntmps72
    go_wp2_with (first | (go_at_call 117; refine (HC.out _).mono ?_; rintro e w1 ⟨rfl, hb1⟩) | (go_at_call 47; refine (HR.out _).mono ?_; rintro e w2 ⟨rfl, hb2⟩))
    go_ret2
    exact ⟨rfl, hb1.trans (hb2.mono hb1.size)⟩
  · have e1 : prOk s = false := by rw [pr_ok, hc]; rfl
    have e2 : prV s = ⟨#[]⟩ := by rw [prV, e1]; rfl
    rw [e1, e2]
    rw [hc] at HC
    go_enter Try.func72, Try.ntmps72
    go_wp2_with (go_at_call 117; refine (HC.out _).mono ?_; rintro e w1 ⟨rfl, hb1⟩)
    go_ret2
    exact ⟨rfl, hb1⟩
end Go.Proofs.Ytlgiamgjimffnaa
