/- Pack 26 of what FnPathsReflected needs: ReflI, LastI. -/
import Derived.Test.YtachijliaedndaaKFnPathsReflected25
import Derived.RangeFuncBox
import Derived.RangeFuncLeaves
import Derived.RangeFuncWrites
import Derived.Shelf.Abstract
import Derived.WalkKit
import Derived.OwnWalkIn
import Derived.TacticsInMore
import Derived.LoopNIn
import Derived.LoopIn
/- The program's reflections: (touch).before, (touch).behind, reflectAt, ReflectBefore, ReflectBehind, PairOf. -/
namespace Go.Proofs.Ytachijliaedndaa
open Go.RowKit
set_option linter.unusedVariables false
theorem pathB_ext {s : ByteArray} (h : pathB s = true) (a b : Nat) : pathB (s.extract a b) = true := by
  unfold pathB at h ⊢
  rw [Bool.and_eq_true, decide_eq_true_iff, List.all_eq_true] at h ⊢
  refine ⟨by rw [ByteArray.size_extract]; omega, fun x hx => h.2 x ?_⟩
  rw [ByteArray.data_extract, Array.toList_extract] at hx
  exact List.mem_of_mem_drop (List.mem_of_mem_take hx)
set_option maxHeartbeats 800000 in
theorem before_ret (s : ByteArray) (z : Nat) (w : World) (hp : pathB s = true) (hz : z ≤ s.size) :
    Calls Try.prog 147 #[.agg #[.string s, .int .i64 (z : Nat)]] w (Ret w (.string (turnS (s.extract 0 z) ++ s.extract z s.size))) := by
  have h40 := ((pathB_iff s).1 hp).1
  have HT : Hid (∀ w, Calls Try.prog 60 #[.string (s.extract 0 z)] w (Ret w (.tuple #[.string (turnS (s.extract 0 z)), .bool true]))) := Lib.hid fun w => turn_yes _ w (by rw [ByteArray.size_extract]; unfold maxLen; omega) (pathB_ext hp _ _)
  have HJ : Hid (∀ w : World, Calls Try.prog 225 #[.slice (some ⟨w.heap.size, 0, none⟩) 2 2] (w.alloc (.cells #[.string (turnS (s.extract 0 z)), .string (s.extract z s.size)] 9)) fun e w' => e = .returned (.string (turnS (s.extract 0 z) ++ s.extract z s.size)) ∧ Below w.heap.size w w') := Lib.hid (join_two _ _ (by rw [turnS_size, ByteArray.size_extract]; omega) (by rw [ByteArray.size_extract]; omega))
  have j1 : (z : Int) ≤ (s.size : Int) := by omega
  have j2 : (0 : Int) ≤ (z : Int) := by omega
  generalize turnS (s.extract 0 z) ++ s.extract z s.size = R at *
  clear hp h40
  go_enter Try.func147, Try.ntmps147
  go_wp2_with (first | (go_at_call 60; refine (HT.out _).mono ?_; rintro e w1 ⟨rfl, hb1⟩; have k0 := hb1.cell (p := ⟨w.heap.size, 0, none⟩) (by simp); have k1 := hb1.cell (p := ⟨w.heap.size, 1, none⟩) (by simp); simp [go_sem] at k0 k1) | (go_at_call 225; refine (HJ.out _).mono ?_; rintro e w2 ⟨rfl, hb2⟩))
  go_ret
  exact ⟨rfl, (((Below.refl _ _).alloc (Nat.le_refl _) _).trans (hb1.mono (by simp))).trans (hb2.mono (by have := hb1.size; simp at this; omega))⟩

set_option maxHeartbeats 800000 in
theorem behind_ret (s : ByteArray) (z : Nat) (w : World) (hp : pathB s = true) (hz : z ≤ s.size) :
    Calls Try.prog 142 #[.agg #[.string s, .int .i64 (z : Nat)]] w (Ret w (.string (s.extract 0 z ++ turnS (s.extract z s.size)))) := by
  have h40 := ((pathB_iff s).1 hp).1
  have HT : Hid (∀ w, Calls Try.prog 60 #[.string (s.extract z s.size)] w (Ret w (.tuple #[.string (turnS (s.extract z s.size)), .bool true]))) := Lib.hid fun w => turn_yes _ w (by rw [ByteArray.size_extract]; unfold maxLen; omega) (pathB_ext hp _ _)
  have HJ : Hid (∀ w : World, Calls Try.prog 225 #[.slice (some ⟨w.heap.size, 0, none⟩) 2 2] (w.alloc (.cells #[.string (s.extract 0 z), .string (turnS (s.extract z s.size))] 9)) fun e w' => e = .returned (.string (s.extract 0 z ++ turnS (s.extract z s.size))) ∧ Below w.heap.size w w') := Lib.hid (join_two _ _ (by rw [ByteArray.size_extract]; omega) (by rw [turnS_size, ByteArray.size_extract]; omega))
  have j1 : (z : Int) ≤ (s.size : Int) := by omega
  have j2 : (0 : Int) ≤ (z : Int) := by omega
  generalize s.extract 0 z ++ turnS (s.extract z s.size) = R at *
  clear hp h40
  go_enter Try.func142, Try.ntmps142
  go_wp2_with (first | (go_at_call 60; refine (HT.out _).mono ?_; rintro e w1 ⟨rfl, hb1⟩; have k0 := hb1.cell (p := ⟨w.heap.size, 0, none⟩) (by simp); have k1 := hb1.cell (p := ⟨w.heap.size, 1, none⟩) (by simp); simp [go_sem] at k0 k1) | (go_at_call 225; refine (HJ.out _).mono ?_; rintro e w2 ⟨rfl, hb2⟩))
  go_ret
  exact ⟨rfl, (((Below.refl _ _).alloc (Nat.le_refl _) _).trans (hb1.mono (by simp))).trans (hb2.mono (by have := hb1.size; simp at this; omega))⟩

set_option maxHeartbeats 800000 in
theorem reflectAt_before (s : ByteArray) (h : Int) (w : World) (hs : s.size ≤ maxLen) :
    Calls Try.prog 141 #[.string s, .int .i64 h, .func (.func 147) #[] #[]] w (Ret w (.tuple #[.string (rbV s h), .bool (faOk s h)])) := by
  have HF : Hid (∀ w, Calls Try.prog 15 #[.string s, .int .i64 h] w (Ret w (.tuple #[.int .i64 (faV s h), .bool (faOk s h)]))) := Lib.hid fun w => firstAt_ret s h w hs
  rcases Bool.eq_false_or_eq_true (faOk s h) with ho | ho
  · have ho2 := ho
    unfold faOk at ho2
    rw [Bool.and_eq_true, Bool.and_eq_true, decide_eq_true_iff] at ho2
    have hbd := faZ_bd s h
    obtain ⟨z, hz⟩ : ∃ z : Nat, faZ s h = z := ⟨(faZ s h).toNat, by omega⟩
    have e1 : faV s h = (z : Nat) := by rw [faV, if_pos ho, hz]
    have e2 : rbV s h = turnS (s.extract 0 z) ++ s.extract z s.size := by rw [rbV, if_pos ho, hz, Int.toNat_natCast]
    have HB : Hid (∀ w, Calls Try.prog 147 #[.agg #[.string s, .int .i64 (z : Nat)]] w (Ret w (.string (turnS (s.extract 0 z) ++ s.extract z s.size)))) := Lib.hid fun w => before_ret s z w ho2.1.1 (by omega)
    rw [e2, ho]
    rw [e1, ho] at HF
    generalize turnS (s.extract 0 z) ++ s.extract z s.size = R at *
    clear e1 e2 hz hbd ho2 ho
    go_enter Try.func141, Try.ntmps141
    go_wp2_with (first | (go_at_call 15; refine (HF.out _).mono ?_; rintro e w1 ⟨rfl, hb1⟩) | (go_at_call 147; refine (HB.out _).mono ?_; rintro e w2 ⟨rfl, hb2⟩))
    go_ret2
    exact ⟨rfl, hb1.trans (hb2.mono hb1.size)⟩
  · have e1 : rbV s h = ⟨#[]⟩ := by rw [rbV, ho]; rfl
    rw [e1, ho]
    rw [ho] at HF
    clear e1
    go_enter Try.func141, Try.ntmps141
    go_wp2_with (go_at_call 15; refine (HF.out _).mono ?_; rintro e w1 ⟨rfl, hb1⟩)
    go_ret2
    exact ⟨rfl, hb1⟩
set_option maxHeartbeats 400000 in
theorem reflectBefore_ret (s : ByteArray) (h : Int) (w : World) (hs : s.size ≤ maxLen) : Calls Try.prog 13 #[.string s, .int .i64 h] w (Ret w (.tuple #[.string (rbV s h), .bool (faOk s h)])) := by
  have HR : Hid (∀ w, Calls Try.prog 141 #[.string s, .int .i64 h, .func (.func 147) #[] #[]] w (Ret w (.tuple #[.string (rbV s h), .bool (faOk s h)]))) := Lib.hid fun w => reflectAt_before s h w hs
  go_enter Try.func13, Try.ntmps13
  go_wp2_with (go_at_call 141; refine (HR.out _).mono ?_; rintro e w1 ⟨rfl, hb1⟩)
  go_ret2
  exact ⟨rfl, hb1⟩

set_option maxHeartbeats 800000 in
theorem reflectAt_behind (s : ByteArray) (h : Int) (w : World) (hs : s.size ≤ maxLen) :
    Calls Try.prog 141 #[.string s, .int .i64 h, .func (.func 142) #[] #[]] w (Ret w (.tuple #[.string (rhV s h), .bool (faOk s h)])) := by
  have HF : Hid (∀ w, Calls Try.prog 15 #[.string s, .int .i64 h] w (Ret w (.tuple #[.int .i64 (faV s h), .bool (faOk s h)]))) := Lib.hid fun w => firstAt_ret s h w hs
  rcases Bool.eq_false_or_eq_true (faOk s h) with ho | ho
  · have ho2 := ho
    unfold faOk at ho2
    rw [Bool.and_eq_true, Bool.and_eq_true, decide_eq_true_iff] at ho2
    have hbd := faZ_bd s h
    obtain ⟨z, hz⟩ : ∃ z : Nat, faZ s h = z := ⟨(faZ s h).toNat, by omega⟩
    have e1 : faV s h = (z : Nat) := by rw [faV, if_pos ho, hz]
    have e2 : rhV s h = s.extract 0 z ++ turnS (s.extract z s.size) := by rw [rhV, if_pos ho, hz, Int.toNat_natCast]
    have HB : Hid (∀ w, Calls Try.prog 142 #[.agg #[.string s, .int .i64 (z : Nat)]] w (Ret w (.string (s.extract 0 z ++ turnS (s.extract z s.size))))) := Lib.hid fun w => behind_ret s z w ho2.1.1 (by omega)
    rw [e2, ho]
    rw [e1, ho] at HF
    generalize s.extract 0 z ++ turnS (s.extract z s.size) = R at *
    clear e1 e2 hz hbd ho2 ho
    go_enter Try.func141, Try.ntmps141
    go_wp2_with (first | (go_at_call 15; refine (HF.out _).mono ?_; rintro e w1 ⟨rfl, hb1⟩) | (go_at_call 142; refine (HB.out _).mono ?_; rintro e w2 ⟨rfl, hb2⟩))
    go_ret2
    exact ⟨rfl, hb1.trans (hb2.mono hb1.size)⟩
  · have e1 : rhV s h = ⟨#[]⟩ := by rw [rhV, ho]; rfl
    rw [e1, ho]
    rw [ho] at HF
    clear e1
    go_enter Try.func141, Try.ntmps141
    go_wp2_with (go_at_call 15; refine (HF.out _).mono ?_; rintro e w1 ⟨rfl, hb1⟩)
    go_ret2
    exact ⟨rfl, hb1⟩
set_option maxHeartbeats 400000 in
theorem reflectBehind_ret (s : ByteArray) (h : Int) (w : World) (hs : s.size ≤ maxLen) : Calls Try.prog 11 #[.string s, .int .i64 h] w (Ret w (.tuple #[.string (rhV s h), .bool (faOk s h)])) := by
  have HR : Hid (∀ w, Calls Try.prog 141 #[.string s, .int .i64 h, .func (.func 142) #[] #[]] w (Ret w (.tuple #[.string (rhV s h), .bool (faOk s h)]))) := Lib.hid fun w => reflectAt_behind s h w hs
  go_enter Try.func11, Try.ntmps11
  go_wp2_with (go_at_call 141; refine (HR.out _).mono ?_; rintro e w1 ⟨rfl, hb1⟩)
  go_ret2
  exact ⟨rfl, hb1⟩

theorem minTo_le (s : ByteArray) : ∀ k j, j ≤ k → minTo s k ≤ hAt s j
  | 0, j, h => by rw [show j = 0 by omega, hAt_zero]; simp [minTo]
  | k + 1, j, h => by
    rw [minTo]
    by_cases e : j = k + 1
    · subst e; split <;> omega
    · have := minTo_le s k j (by omega)
      split <;> omega
theorem low_iff (s : ByteArray) : decide (minTo s s.size < 0) = decide (0 ≤ faZ s (-1)) := by
  by_cases h : minTo s s.size < 0
  · rw [decide_eq_true h, decide_eq_true (faZ_low s h)]
  · rw [decide_eq_false h, decide_eq_false]
    intro h0
    obtain ⟨j, h1, h2⟩ := faGo_hit s (-1) _ _ h0
    have := minTo_le s s.size j (by omega)
    omega
theorem pr_ok (s : ByteArray) : prOk s = (closedV s && faOk s (-1)) := by
  unfold prOk closedV faOk
  rw [low_iff]
  have e : inB (-1) (-40) 40 = true := by decide
  rw [e, show (hAt s s.size == 0) = decide (hAt s s.size = 0) from rfl]
  cases pathB s <;> cases decide (hAt s s.size = 0) <;> cases decide (0 ≤ faZ s (-1)) <;> rfl
theorem pr_v (s : ByteArray) (h : closedV s = true) : prV s = rbV s (-1) := by
  unfold prV rbV
  rw [pr_ok, h, Bool.true_and]
set_option maxHeartbeats 400000 in
theorem pairOfI_ret (s : ByteArray) (w : World) (hs : s.size ≤ maxLen) : Calls Try.prog 23 #[.string s] w (Ret w (.tuple #[.string (prV s), .bool (prOk s)])) := by
  have HC : Hid (∀ w, Calls Try.prog 26 #[.string s] w (Ret w (.tuple #[.bool (closedV s), .bool (pathB s)]))) := Lib.hid fun w => isClosed_ret s w hs
  have HR : Hid (∀ w, Calls Try.prog 13 #[.string s, .int .i64 (-1)] w (Ret w (.tuple #[.string (rbV s (-1)), .bool (faOk s (-1))]))) := Lib.hid fun w => reflectBefore_ret s (-1) w hs
  rcases Bool.eq_false_or_eq_true (closedV s) with hc | hc
  · rw [pr_v s hc, pr_ok, hc, Bool.true_and]
    rw [hc] at HC
    go_enter Try.func23, Try.ntmps23
    go_wp2_with (first | (go_at_call 26; refine (HC.out _).mono ?_; rintro e w1 ⟨rfl, hb1⟩) | (go_at_call 13; refine (HR.out _).mono ?_; rintro e w2 ⟨rfl, hb2⟩))
    go_ret2
    exact ⟨rfl, hb1.trans (hb2.mono hb1.size)⟩
  · have e1 : prOk s = false := by rw [pr_ok, hc]; rfl
    have e2 : prV s = ⟨#[]⟩ := by rw [prV, e1]; rfl
    rw [e1, e2]
    rw [hc] at HC
    go_enter Try.func23, Try.ntmps23
    go_wp2_with (go_at_call 26; refine (HC.out _).mono ?_; rintro e w1 ⟨rfl, hb1⟩)
    go_ret2
    exact ⟨rfl, hb1⟩
end Go.Proofs.Ytachijliaedndaa

/- slices.Backward over numbers; the program's LastAt. -/
namespace Go.Proofs.Ytachijliaedndaa
open Go.RowKit Go.Shelf
set_option linter.unusedVariables false
attribute [local go_sem] Oper.semAt_some
/-- what comes of a slice that is walked from its end: place and number -/
def bkF (zs : List Int) (len j : Nat) : Nat × Int := (len - 1 - j, zs[len - 1 - j]?.getD 0)
def bkU (zs : List Int) (len k : Nat) : List (Nat × Int) := (List.range k).map (bkF zs len)
theorem bkU_succ (zs : List Int) (len k : Nat) : bkU zs len (k + 1) = bkU zs len k ++ [bkF zs len k] := by simp [bkU, List.range_succ]
theorem bkU_length (zs : List Int) (len k : Nat) : (bkU zs len k).length = k := by simp [bkU]
set_option maxRecDepth 100000 in
set_option maxHeartbeats 2000000 in
theorem back1_in (F : Fence) (n : Nat) (hf : F.fn 240) (hro : F.round = none) (hn : 1 ≤ n) (l Bs n0 b off len cap : Nat) (zs : List Int) (hlen : len ≤ 1048576) (hb : b < n0) (J Jx : List (Nat × Int) → World → Prop)
    (hY : ∀ pre x W, J pre W → pre.length < len → YieldAt F (n - 1) Try.prog l #[.int .i64 (x.1 : Int), .int .i64 x.2] W fun e W' =>
      (e = .returned (.bool true) ∧ J (pre ++ [x]) W' ∧ Below n0 W W') ∨ (e = .returned (.bool false) ∧ Jx (pre ++ [x]) W'))
    (W : World) (hBs : Bs < n0) (hcs : W.cell? ⟨Bs, 0, none⟩ = some (.slice (some ⟨b, off, none⟩) len cap)) (hc : ∀ j, j < len → W.cell? ⟨b, off + j, none⟩ = some (.int .i64 (zs[j]?.getD 0))) (h0 : J [] W) :
    CallsIn F n Try.prog 240 #[.func (.yield l) #[] #[], .pointer (some ⟨Bs, 0, none⟩)] W fun e W' => (∃ v, e = .returned v) ∧
      ((∃ ys, ys = bkU zs len len ∧ J ys W') ∨ (∃ pre, (∃ k, k ≤ len ∧ pre = bkU zs len k) ∧ Jx pre W')) := by
  refine callsIn_of_wp Try.func240 rfl hf ?_ hro
  simp only [Try.ntmps240, List.size_toArray, List.length_cons, List.length_nil, Nat.reduceAdd, Nat.reduceSub, Array.replicate_succ, Array.replicate_zero, List.push_toArray, List.append_toArray, List.nil_append, List.cons_append]
  gi_wp2
  gi_loopw [3] (fun i wr => ∃ k : Nat, k ≤ len ∧ i = .int .i64 ((len : Int) - 1 - k) ∧ J (bkU zs len k) wr ∧ Below n0 W wr)
    (fun i _ => (intOf i + 1).toNat)
  case atStart => exact ⟨0, Nat.zero_le _, by go_num, h0, Below.refl _ _⟩
  case round =>
    obtain ⟨k, hk, rfl, hJs, hnx⟩ := hrel
    have hcs2 : wr.cell? ⟨Bs, 0, none⟩ = some (.slice (some ⟨b, off, none⟩) len cap) := (hnx.cell (p := ⟨Bs, 0, none⟩) hBs).trans hcs
    by_cases hlt : k < len
    · obtain ⟨j, hj⟩ : ∃ j : Nat, j + k + 1 = len := ⟨len - 1 - k, by omega⟩
      have hji : (len : Int) - 1 - k = j := by omega
      rw [hji]
      have hcx : wr.cell? ⟨b, off + j, none⟩ = some (.int .i64 (zs[j]?.getD 0)) := (hnx.cell (p := ⟨b, off + j, none⟩) hb).trans (hc j (by omega))
      have hjl : (j : Int) < (len : Int) := by omega
      have HF : Hid (bkU zs len k ++ [(j, zs[j]?.getD 0)] = bkU zs len (k + 1)) := Lib.hid (by rw [bkU_succ]; unfold bkF; rw [show len - 1 - k = j by omega])
      obtain ⟨fn, tmps, assign, body, hy, hR⟩ := hY _ (j, zs[j]?.getD 0) wr hJs (by rw [bkU_length]; exact hlt)
      dsimp only at hy
      have HJ := Lib.hid hj
      clear hj hji
      gi_wp2
      refine hR.mono ?_
      rintro e W3 (⟨rfl, hJ3, hk3⟩ | ⟨rfl, hJx3⟩)
      · gi_wp2
        go_roundw
        case rel => exact ⟨k + 1, by omega, by have := HJ.out; go_num, by rw [← HF.out]; exact hJ3, hnx.trans hk3⟩
        case measure => first | (simp [intOf]; done) | (simp [intOf]; have := HJ.out; omega)
      · gi_wp2
        refine bodyPost_ret (results_none rfl _ _ _) rfl ?_
        exact ⟨⟨_, rfl⟩, .inr ⟨_, ⟨k + 1, by omega, HF.out⟩, hJx3⟩⟩
    · obtain rfl : k = len := by omega
      have hm : ¬ (0 : Int) ≤ (k : Int) - 1 - k := by omega
      gi_wp2
      go_end0
      first
        | exact ⟨⟨_, rfl⟩, .inl ⟨_, rfl, hJs⟩⟩
        | exact ⟨⟨_, rfl⟩, .inl hJs⟩
set_option maxRecDepth 100000 in
set_option maxHeartbeats 1000000 in
theorem back1_nil_in (F : Fence) (n : Nat) (hf : F.fn 240) (hro : F.round = none) (l Bs c : Nat) (J : List (Nat × Int) → World → Prop) (W : World) (hcs : W.cell? ⟨Bs, 0, none⟩ = some (.slice none 0 c)) (h0 : J [] W) :
    CallsIn F n Try.prog 240 #[.func (.yield l) #[] #[], .pointer (some ⟨Bs, 0, none⟩)] W fun e W' => (∃ v, e = .returned v) ∧ J [] W' := by
  refine callsIn_of_wp Try.func240 rfl hf ?_ hro
  simp only [Try.ntmps240, List.size_toArray, List.length_cons, List.length_nil, Nat.reduceAdd, Nat.reduceSub, Array.replicate_succ, Array.replicate_zero, List.push_toArray, List.append_toArray, List.nil_append, List.cons_append]
  gi_wp2
  gi_loopw [3] (fun i wr => i = .int .i64 (-1) ∧ J [] wr) (fun _ _ => 0)
  case atStart => exact ⟨by simp, h0⟩
  case round =>
    obtain ⟨rfl, hJs⟩ := hrel
    gi_wp2
    go_end0
    exact ⟨⟨_, rfl⟩, hJs⟩
set_option maxHeartbeats 1000000 in
theorem backward_in (F : Fence) (n : Nat) (hf : F.fn 149) (hro : F.round = none) (a : Option Addr) (len cap : Nat) (w : World) :
    CallsIn F n Try.prog 149 #[.slice a len cap] w fun e w' => e = .returned (.func (.func 240) #[] #[.pointer (some ⟨w.heap.size, 0, none⟩)]) ∧ w' = w.alloc (.cells #[.slice a len cap] 30) := by
  refine callsIn_of_wp Try.func149 rfl hf ?_ hro
  simp only [Try.ntmps149, List.size_toArray, List.length_cons, List.length_nil, Nat.reduceAdd, Nat.reduceSub, Array.replicate_succ, Array.replicate_zero, List.push_toArray, List.append_toArray, List.nil_append, List.cons_append]
  gi_wp2
  go_ret
  exact ⟨rfl, rfl⟩
/-- a slice of numbers below n0, or none -/
def BInts (n0 : Nat) (W : World) (sv : Value) (zs : List Int) : Prop :=
  (∃ c, sv = .slice none 0 c ∧ zs = []) ∨ ∃ b cap, sv = .slice (some ⟨b, 0, none⟩) zs.length cap ∧ b < n0 ∧ ∀ j, j < zs.length → W.cell? ⟨b, j, none⟩ = some (.int .i64 (zs[j]?.getD 0))
theorem BInts.below {n0 : Nat} {A B : World} (h : Below n0 A B) {sv : Value} {zs : List Int} : BInts n0 A sv zs → BInts n0 B sv zs
  | .inl e => .inl e
  | .inr ⟨b, cap, e, hb, hc⟩ => .inr ⟨b, cap, e, hb, fun j hj => (h.cell (p := ⟨b, j, none⟩) hb).trans (hc j hj)⟩
theorem BInts.of_row {w : World} {B : Nat} {v : Value} {zs : List Int} (h : IRow w B v zs) : BInts w.heap.size w v zs := by
  rcases Nat.eq_zero_or_pos zs.length with h0 | h0
  · have hz := List.eq_nil_of_length_eq_zero h0
    subst hz
    rcases h.2 with ⟨h1, _⟩ | ⟨g, cap, cur, h1, _, hh, _⟩
    · exact .inl ⟨0, h1, rfl⟩
    · exact .inr ⟨g, cap, h1, (Array.getElem?_eq_some_iff.1 hh).1, fun j hj => absurd hj (by simp)⟩
  · obtain ⟨g, c, hv, _, hg⟩ := h.form' rfl h0
    subst hv
    exact .inr ⟨g, c, rfl, hg, fun j hj => by rw [h.cell hj, List.getD_eq_getElem?_getD]⟩
theorem back_stops (F : Fence) (n : Nat) (hf : F.fn 240) (hro : F.round = none) (hn : 1 ≤ n) (Bs n0 : Nat) (sv : Value) (zs : List Int) (hlen : zs.length ≤ 1048576) (w : World) (hBs : Bs < n0) (hn0 : n0 ≤ w.heap.size)
    (hc : w.cell? ⟨Bs, 0, none⟩ = some sv) (hI : BInts n0 w sv zs) :
    SeqStopsK F n Try.prog 240 #[.pointer (some ⟨Bs, 0, none⟩)] (fun x : Nat × Int => #[Value.int .i64 (x.1 : Int), Value.int .i64 x.2]) (Below n0) (fun ys => ys = bkU zs zs.length zs.length)
      (fun pre => ∃ k, k ≤ zs.length ∧ pre = bkU zs zs.length k) zs.length w := fun l J Jx W hW _ _ hY h0 => by
  have hc' := (hW.cell (p := ⟨Bs, 0, none⟩) (Nat.lt_of_lt_of_le hBs hn0)).trans hc
  rcases hI.below (hW.mono hn0) with ⟨c, rfl, rfl⟩ | ⟨b, cap, rfl, hb, hcs⟩
  · exact (back1_nil_in F n hf hro l Bs c J W hc' h0).mono fun e W' ⟨he, hj⟩ => ⟨he, .inl ⟨_, rfl, hj⟩⟩
  · exact back1_in F n hf hro hn l Bs n0 b 0 zs.length cap zs hlen hb J Jx hY W hBs hc' (fun j hj => by rw [Nat.zero_add]; exact hcs j hj) h0
/-! ### what LastAt says -/
theorem la_skip (s : ByteArray) (h : Int) (j : Nat) : ∀ m, j ≤ m → (∀ i, j ≤ i → i < m → hAt s i ≠ h) → laTo s h m = laTo s h j
  | 0, hj, _ => by rw [show j = 0 by omega]
  | m + 1, hj, hi => by
    by_cases e : j = m + 1
    · rw [e]
    · rw [laTo, if_neg (hi m (by omega) (by omega)), la_skip s h j m (by omega) (fun i h1 h2 => hi i h1 (by omega))]
theorem htsV_get {s : ByteArray} {j : Nat} (hj : j < (htsV s).length) : pathB s = true ∧ j ≤ s.size ∧ (htsV s)[j]?.getD 0 = hAt s j ∧ (htsV s).length = s.size + 1 := by
  unfold htsV at hj ⊢
  rcases Bool.eq_false_or_eq_true (pathB s) with hp | hp
  · rw [hp, if_pos rfl] at hj ⊢
    rw [hts_length] at hj ⊢
    exact ⟨rfl, by omega, by rw [hts_get s j (by omega)]; rfl, rfl⟩
  · rw [hp] at hj
    simp at hj
theorem la_none {s : ByteArray} {h : Int} (hn : ∀ j, j < (htsV s).length → (htsV s)[j]?.getD 0 ≠ h) : laOk s h = false ∧ laV s h = 0 := by
  have e : laOk s h = false := by
    unfold laOk
    rcases Bool.eq_false_or_eq_true (pathB s) with hp | hp
    · have hl : (htsV s).length = s.size + 1 := by unfold htsV; rw [hp, if_pos rfl, hts_length]
      have : laZ s h = -1 := by
        unfold laZ
        rw [la_skip s h 0 (s.size + 1) (Nat.zero_le _) (fun i _ hi => by have := hn i (by omega); rwa [(htsV_get (by omega)).2.2.1] at this)]
        rfl
      rw [this]
      simp
    · rw [hp]; rfl
  exact ⟨e, by rw [laV, e]; rfl⟩
theorem la_some {s : ByteArray} {h : Int} {k : Nat} (hk : k < (htsV s).length) (he : (htsV s)[k]?.getD 0 = h) (hn : ∀ j, k < j → j < (htsV s).length → (htsV s)[j]?.getD 0 ≠ h) : laOk s h = true ∧ laV s h = k := by
  obtain ⟨hp, hks, e1, hl⟩ := htsV_get hk
  rw [e1] at he
  have hz : laZ s h = k := by
    unfold laZ
    rw [la_skip s h (k + 1) (s.size + 1) (by omega) (fun i h1 h2 => by have := hn i (by omega) (by omega); rwa [(htsV_get (by omega)).2.2.1] at this), laTo, if_pos he]
  have h40 := ((pathB_iff s).1 hp).1
  have hb := hAt_bd s k hks
  have hi : inB h (-40) 40 = true := by unfold inB; simp; omega
  have e : laOk s h = true := by unfold laOk; rw [hp, hi, hz]; simp
  exact ⟨e, by rw [laV, if_pos e, hz]⟩
theorem cell_farW (W : World) (p a : Addr) (v : Value) (h : p.block ≠ a.block) : (W.setCell p v).cell? a = W.cell? a := by
  unfold World.setCell World.cell?
  simp only [Array.getElem?_modify, if_neg h]
theorem cell_al {w : World} {p : Addr} {v : Value} (o : Obj) (hp : p.block < w.heap.size) (h : w.cell? p = some v) : (w.alloc o).cell? p = some v := (((Below.refl _ _).alloc (Nat.le_refl _) o).cell hp).trans h
theorem froz_al {w : World} {p : Addr} (o : Obj) (hp : p.block < w.heap.size) (h : w.frozen? p = false) : (w.alloc o).frozen? p = false := (((Below.refl _ _).alloc (Nat.le_refl _) o).frozen hp).trans h
set_option maxRecDepth 100000 in
set_option maxHeartbeats 2000000 in
theorem lastAt_in (F : Fence) (n : Nat) (h0 : F.fn 17) (hH : F.fn 19) (h6 : F.fn 149) (h8 : F.fn 240) (hro : F.round = none) (hn : 3 ≤ n) (s : ByteArray) (h : Int) (ok : Bool) (zs : List Int) (hlen : zs.length ≤ 1048576)
    (HH : ∀ w, CallsIn F (n - 1) Try.prog 19 #[.string s] w (IntsRet w ok zs)) (w : World) :
    CallsIn F n Try.prog 17 #[.string s, .int .i64 h] w fun e W' =>
      ((e = .returned (.tuple #[.int .i64 0, .bool false]) ∧ ∀ j, j < zs.length → zs[j]?.getD 0 ≠ h) ∨ (∃ k : Nat, k < zs.length ∧ e = .returned (.tuple #[.int .i64 k, .bool true]) ∧ zs[k]?.getD 0 = h ∧ ∀ j, k < j → j < zs.length → zs[j]?.getD 0 ≠ h)) ∧ Below w.heap.size w W' := by
  have h1 : 1 ≤ n := by omega
  refine callsIn_of_wp_marks Try.func17 rfl h0 ?_ hro
  simp only [Try.ntmps17, List.size_toArray, List.length_cons, List.length_nil, Nat.reduceAdd, Nat.reduceSub, Array.replicate_succ, Array.replicate_zero, List.push_toArray, List.append_toArray, List.nil_append, List.cons_append]
  gi_wp2_with (first | (gi_at_call 19; refine (HH _).mono ?_; rintro e w1 ⟨v, rfl, hr, hb1⟩; obtain ⟨A, c, rfl⟩ := hr.shape) | (gi_at_call 149; refine (backward_in F (n - 1) h6 hro _ _ _ _).mono ?_; rintro e w' ⟨rfl, rfl⟩))
  have hsz1 := hb1.size
  simp only [World.size_alloc] at hsz1
  have c0 : w1.cell? ⟨w.heap.size, 0, none⟩ = some (.int .i64 h) := (hb1.cell (p := ⟨w.heap.size, 0, none⟩) (by simp; omega)).trans (by simp [go_sem])
  have c1 : w1.cell? ⟨w.heap.size + 1, 0, none⟩ = some (.int .i64 0) := (hb1.cell (p := ⟨w.heap.size + 1, 0, none⟩) (by simp)).trans (by simp [go_sem])
  have c2 : w1.cell? ⟨w.heap.size + 1 + 1, 0, none⟩ = some (.bool false) := (hb1.cell (p := ⟨w.heap.size + 1 + 1, 0, none⟩) (by simp)).trans (by simp [go_sem])
  have f1 : w1.frozen? ⟨w.heap.size + 1, 0, none⟩ = false := (hb1.frozen (p := ⟨w.heap.size + 1, 0, none⟩) (by simp)).trans (by simp [go_sem])
  have f2 : w1.frozen? ⟨w.heap.size + 1 + 1, 0, none⟩ = false := (hb1.frozen (p := ⟨w.heap.size + 1 + 1, 0, none⟩) (by simp)).trans (by simp [go_sem])
  have hB1 : Below w.heap.size w w1 := ((((Below.refl w.heap.size w).alloc (Nat.le_refl _) _).alloc (by simp) _).alloc (by simp; omega) _).trans (hb1.mono (by simp; omega))
  have hB0 : Below w.heap.size w (w1.alloc (.cells #[.slice A zs.length c] 30)) := hB1.alloc (by omega) _
  have hI : BInts (w1.heap.size + 1) (w1.alloc (.cells #[.slice A zs.length c] 30)) (.slice A zs.length c) zs := by
    rcases (BInts.of_row hr).below ((Below.refl _ _).alloc (Nat.le_refl _) (.cells #[.slice A zs.length c] 30)) with h | ⟨b, cap, e1, e2, e3⟩
    · exact .inl h
    · exact .inr ⟨b, cap, e1, by omega, e3⟩
  clear hr hb1
  refine wpIn_rangeFunc_ownG hro h1 (gf := 240) (lb := #[.pointer (some ⟨w1.heap.size, 0, none⟩)]) rfl h8 (enters_of Try.func240 (by kernel_rfl) rfl)
    (back_stops F (n - 1) h8 hro (by omega) w1.heap.size (w1.heap.size + 1) _ zs hlen _ (by omega) (by simp) (by simp [go_sem]) hI) belowK_t (belowK_b (by simp)) (Below.refl _ _) (fun _ => rfl)
    (fun pre W => ((∀ p ∈ pre, p.2 ≠ h) ∧ W.cell? ⟨w.heap.size, 0, none⟩ = some (.int .i64 h) ∧ (W.cell? ⟨w.heap.size + 1, 0, none⟩ = some (.int .i64 0) ∧ W.frozen? ⟨w.heap.size + 1, 0, none⟩ = false) ∧ W.cell? ⟨w.heap.size + 1 + 1, 0, none⟩ = some (.bool false) ∧ W.frozen? ⟨w.heap.size + 1 + 1, 0, none⟩ = false) ∧ Below w.heap.size w W)
    (fun c pre W => (c = .ret ∧ ∃ ini last, pre = ini ++ [last] ∧ (∀ p ∈ ini, p.2 ≠ h) ∧ last.2 = h ∧ W.cell? ⟨w.heap.size + 1, 0, none⟩ = some (.int .i64 (last.1 : Int)) ∧ W.cell? ⟨w.heap.size + 1 + 1, 0, none⟩ = some (.bool true)) ∧ Below w.heap.size w W)
    (OwnFrom.and (Own.from (fun s A B row hs hg hr => ⟨hs.1, cell_kept hs.2.1 hg hr, ⟨cell_kept hs.2.2.1.1 hg hr, (frozen_kept hs.2.2.1.1 hg hr).trans hs.2.2.1.2⟩, cell_kept hs.2.2.2.1 hg hr, (frozen_kept hs.2.2.2.1 hg hr).trans hs.2.2.2.2⟩) _) (ownFrom_below (Nat.le_refl _) (by simp; omega)))
    (fun c => OwnFrom.and (Own.from (fun s A B row hs hg hr => by obtain ⟨hc, ini, last, e1, e2, e3, e4, e5⟩ := hs; exact ⟨hc, ini, last, e1, e2, e3, cell_kept e4 hg hr, cell_kept e5 hg hr⟩) _) (ownFrom_below (Nat.le_refl _) (by simp; omega)))
    ⟨⟨by simp, cell_al _ (show w.heap.size < w1.heap.size by omega) c0, ⟨cell_al _ (show w.heap.size + 1 < w1.heap.size by omega) c1, froz_al _ (show w.heap.size + 1 < w1.heap.size by omega) f1⟩, cell_al _ (show w.heap.size + 1 + 1 < w1.heap.size by omega) c2, froz_al _ (show w.heap.size + 1 + 1 < w1.heap.size by omega) f2⟩, hB0⟩
    (fun x => { tmps := #[.string s, .int .i64 h, undef, .pointer (some ⟨w.heap.size, 0, none⟩), .pointer (some ⟨w.heap.size + 1, 0, none⟩), .pointer (some ⟨w.heap.size + 1 + 1, 0, none⟩), .slice A zs.length c, .bool ok, .int .i64 (x.1 : Int), .int .i64 x.2, .tuple #[.slice A zs.length c, .bool ok], .string s, .tuple #[.slice A zs.length c, .bool ok], .slice A zs.length c, .bool ok, .slice A zs.length c, .func (.func 240) #[] #[.pointer (some ⟨w1.heap.size, 0, none⟩)], .int .i64 (x.1 : Int), .int .i64 x.2, undef, undef, undef, undef], defers := [] }) ?assign ?body ?done ?stop
  case assign =>
    intro l x W K hK
    gi_wp2
    exact hK
  case body =>
    rintro l pre x W ⟨⟨hp, hc0, ⟨hc1, hf1⟩, hc2, hf2⟩, hB⟩ _
    by_cases hx : x.2 = h
    · have q : (x.2 == h) = true := by simpa using hx
      gi_wp2
      exact ⟨((KeepsOthers.setCell _ _ _).trans (KeepsOthers.setCell _ _ _)).from _, ⟨rfl, pre, x, rfl, hp, hx, (cell_farW _ _ _ _ (by simp)).trans (World.cell?_setCell_same' _ _ _ (by rw [hc1]; rfl)), World.cell?_setCell_same' _ _ _ (by rw [cell_farW _ _ _ _ (by simp), hc2]; rfl)⟩, (hB.setCell (p := ⟨w.heap.size + 1, 0, none⟩) (Nat.le_succ _) _).setCell (p := ⟨w.heap.size + 1 + 1, 0, none⟩) (by simp; omega) _⟩
    · have q : (x.2 == h) = false := beq_eq_false_iff_ne.2 hx
      gi_wp2
      exact ⟨KeepsFrom.refl _ _, Below.refl _ _, ⟨fun p hp' => (List.mem_append.1 hp').elim (hp p) (fun e => by simp at e; subst e; exact hx), hc0, ⟨hc1, hf1⟩, hc2, hf2⟩, hB⟩
  case done =>
    rintro D ys W hD rfl ⟨⟨hne, hc0, ⟨hc1, hf1⟩, hc2, hf2⟩, hB⟩ hK
    gi_wp2
    have hK1 := (KeepsOthers.setCell W ⟨w.heap.size + 1, 0, none⟩ (.int .i64 0)).same D _ hK rfl
    have hK2 := (KeepsOthers.setCell (W.setCell ⟨w.heap.size + 1, 0, none⟩ (.int .i64 0)) ⟨w.heap.size + 1 + 1, 0, none⟩ (.bool false)).same D _ hK1 rfl
    have hx1 : ((W.setCell ⟨w.heap.size + 1, 0, none⟩ (.int .i64 0)).setCell ⟨w.heap.size + 1 + 1, 0, none⟩ (.bool false)).cell? ⟨w.heap.size + 1, 0, none⟩ = some (.int .i64 0) := (cell_farW _ _ _ _ (by simp)).trans (World.cell?_setCell_same' _ _ _ (by rw [hc1]; rfl))
    have hx2 : ((W.setCell ⟨w.heap.size + 1, 0, none⟩ (.int .i64 0)).setCell ⟨w.heap.size + 1 + 1, 0, none⟩ (.bool false)).cell? ⟨w.heap.size + 1 + 1, 0, none⟩ = some (.bool false) := World.cell?_setCell_same' _ _ _ (by rw [cell_farW _ _ _ _ (by simp), hc2]; rfl)
    have hBX : Below w.heap.size w ((W.setCell ⟨w.heap.size + 1, 0, none⟩ (.int .i64 0)).setCell ⟨w.heap.size + 1 + 1, 0, none⟩ (.bool false)) := (hB.setCell (p := ⟨w.heap.size + 1, 0, none⟩) (Nat.le_succ _) _).setCell (p := ⟨w.heap.size + 1 + 1, 0, none⟩) (by simp; omega) _
    refine ⟨by simp, .inl ⟨_, _, rfl, run_takeDeferred hK2, ?_⟩⟩
    have hc5 := cell_kept hx1 (grownBy_putObj' _ D (.deferred none)) (fun r e => by cases e; exact ⟨_, hK2, rfl⟩)
    have hc6 := cell_kept hx2 (grownBy_putObj' _ D (.deferred none)) (fun r e => by cases e; exact ⟨_, hK2, rfl⟩)
    refine ⟨.tuple #[.int .i64 0, .bool false], ?_, .inl ⟨rfl, fun j hj => ?_⟩, hBX.trans (belowK_b (w := w) (Nat.le_refl _) _ D _ _ (by simp at hD; omega) hK2 rfl rfl)⟩
    · simp [results, Try.f17, go_sem, hc5, hc6]
    · have := hne (bkF zs zs.length (zs.length - 1 - j)) (by unfold bkU; exact List.mem_map.2 ⟨_, List.mem_range.2 (by omega), rfl⟩)
      unfold bkF at this
      rw [show zs.length - 1 - (zs.length - 1 - j) = j by omega] at this
      exact this
  case stop =>
    rintro D c pre W hD ⟨k, hk, rfl⟩ ⟨⟨rfl, ini, last, e1, e2, e3, hcr, hcs⟩, hB⟩ hK
    gi_wp2
    refine ⟨by simp, .inl ⟨_, _, rfl, run_takeDeferred hK, ?_⟩⟩
    have hc5 := cell_kept hcr (grownBy_putObj' _ D (.deferred none)) (fun r e => by cases e; exact ⟨_, hK, rfl⟩)
    have hc6 := cell_kept hcs (grownBy_putObj' _ D (.deferred none)) (fun r e => by cases e; exact ⟨_, hK, rfl⟩)
    obtain ⟨k', rfl⟩ : ∃ k', k = k' + 1 := by
      cases k with
      | zero => simp [bkU] at e1
      | succ k' => exact ⟨k', rfl⟩
    rw [bkU_succ] at e1
    obtain ⟨rfl, e5⟩ := List.append_inj' e1 rfl
    obtain rfl : bkF zs zs.length k' = last := by simpa using e5
    unfold bkF at e3 hc5
    refine ⟨.tuple #[.int .i64 ((zs.length - 1 - k' : Nat) : Int), .bool true], ?_, .inr ⟨zs.length - 1 - k', by omega, rfl, e3, fun j h1 h2 => ?_⟩, hB.trans (belowK_b (w := w) (Nat.le_refl _) W D _ _ (by simp at hD; omega) hK rfl rfl)⟩
    · simp [results, Try.f17, go_sem, hc5, hc6]
    · have := e2 (bkF zs zs.length (zs.length - 1 - j)) (by unfold bkU; exact List.mem_map.2 ⟨_, List.mem_range.2 (by omega), rfl⟩)
      unfold bkF at this
      rw [show zs.length - 1 - (zs.length - 1 - j) = j by omega] at this
      exact this
theorem lastAt_ret (s : ByteArray) (h : Int) (w : World) (hs : s.size ≤ maxLen) : Calls Try.prog 17 #[.string s, .int .i64 h] w (Ret w (.tuple #[.int .i64 (laV s h), .bool (laOk s h)])) := by
  have hl : (htsV s).length ≤ 1048576 := by
    unfold htsV
    rcases Bool.eq_false_or_eq_true (pathB s) with hp | hp
    · rw [hp, if_pos rfl, hts_length]; have := ((pathB_iff s).1 hp).1; omega
    · rw [hp]; simp
  refine (callsIn_wide.1 (lastAt_in Fence.wide 3 trivial trivial trivial trivial rfl (Nat.le_refl _) s h (pathB s) (htsV s) hl (fun w => callsIn_wide.2 (heights_ret s w hs)) w)).mono ?_
  rintro e W' ⟨⟨rfl, hn⟩ | ⟨k, hk, rfl, he, hn⟩, hb⟩
  · obtain ⟨e1, e2⟩ := la_none hn
    rw [e1, e2]
    exact ⟨rfl, hb⟩
  · obtain ⟨e1, e2⟩ := la_some hk he hn
    rw [e1, e2]
    exact ⟨rfl, hb⟩
end Go.Proofs.Ytachijliaedndaa
