/- slices.Repeat of one 1, at most four times. -/
import Derived.Test.YtnmmgpmhpjjehaaOwn
import Derived.Laws.CopyOwn
import Derived.Deep.RegionLaw
import Derived.Deep.RegionHeld3
import Derived.Deep.OwnRows
namespace Go.Proofs.Ytnmmgpmhpjjehaa
open Go.RowKit
set_option linter.unusedVariables false
set_option maxRecDepth 100000 in
set_option maxHeartbeats 800000 in
theorem mul64_one (s : Int) (hs : s = 1 ∨ s = 2 ∨ s = 3 ∨ s = 4) (w : World) : Calls Try.prog 119 #[.int .u64 1, .int .u64 s] w fun e w' => e = .returned (.tuple #[.int .u64 0, .int .u64 s]) ∧ w = w' := by
  have b1 : bits BinOp.and IntKind.u64 1 4294967295 = 1 := by decide +kernel
  have b2 : bits BinOp.and IntKind.u64 2 4294967295 = 2 := by decide +kernel
  have b3 : bits BinOp.and IntKind.u64 3 4294967295 = 3 := by decide +kernel
  have b4 : bits BinOp.and IntKind.u64 4 4294967295 = 4 := by decide +kernel
  have b0 : bits BinOp.and IntKind.u64 0 4294967295 = 0 := by decide +kernel
  rcases hs with rfl | rfl | rfl | rfl
  all_goals
    go_enter Try.func119, Try.ntmps119
    go_wp2
    go_ret2
    exact ⟨by rfl, rfl⟩
set_option maxRecDepth 100000 in
set_option maxHeartbeats 800000 in
theorem bitsMul_one (s : Int) (hs : s = 1 ∨ s = 2 ∨ s = 3 ∨ s = 4) (w : World) : Calls Try.prog 111 #[.int .u64 1, .int .u64 s] w fun e w' => e = .returned (.tuple #[.int .u64 0, .int .u64 s]) ∧ w = w' := by
  have HM := Lib.hid (fun w => mul64_one s hs w)
  rcases hs with rfl | rfl | rfl | rfl
  all_goals
    go_enter Try.func111, Try.ntmps111
    go_wp2_with (go_at_call 119; refine (HM.out _).mono ?_; rintro e w' ⟨rfl, rfl⟩)
    go_ret2
    exact ⟨by rfl, rfl⟩
theorem row_cell {w : World} {g j : Nat} {cur : List Value} {t : TypeId} (h : w.heap[g]? = some (.cells cur.toArray t (0, 0))) {v : Value} (hv : cur[j]? = some v) : w.cell? ⟨g, j, none⟩ = some v := by
  simp [World.cell?, h, hv]
theorem row_src {w : World} {g : Nat} {cur cs rest : List Value} {t : TypeId} (h : w.heap[g]? = some (.cells cur.toArray t (0, 0))) (e : cur = cs ++ rest) (j : Nat) (v : Value) (hj : cs[j]? = some v) : w.drew.cell? ((⟨g, 0, none⟩ : Addr).add j) = some v := by
  have e2 : (⟨g, 0, none⟩ : Addr).add j = ⟨g, j, none⟩ := by unfold Addr.add; split <;> simp_all
  rw [e2]
  have hl : j < cs.length := by
    rcases Nat.lt_or_ge j cs.length with h1 | h1
    · exact h1
    · rw [List.getElem?_eq_none h1] at hj; cases hj
  exact row_cell (w := w) (j := j) h (by rw [e, List.getElem?_append_left hl]; exact hj)
theorem row_own {w : World} {g B : Nat} {xs : List Int} (h : w.heap[g]? = some (.cells (xs.map (Value.int .i64)).toArray 3 (0, 0))) (hB : B ≤ g) (hl : xs.length ≤ maxLen) : IRow w B (.slice (some ⟨g, 0, none⟩) xs.length xs.length) xs :=
  ⟨by simp, .inr ⟨g, xs.length, _, rfl, hB, h, Nat.le_refl _, hl, by simp, by rw [Nat.mul_one]; exact List.take_of_length_le (by simp)⟩⟩
theorem intSz : (Try.prog.info? 3).map (fun i => i.size) = some 1 := by kernel_rfl
set_option maxRecDepth 100000 in
set_option maxHeartbeats 800000 in
theorem rep_one (s : Nat) (hs : s = 1 ∨ s = 2 ∨ s = 3 ∨ s = 4) (g : Nat) (w : World) (hg : g < w.heap.size) (hc : w.cell? ⟨g, 0, none⟩ = some (.int .i64 1)) :
    Calls Try.prog 96 #[.slice (some ⟨g, 0, none⟩) 1 1, .int .i64 (s : Int)] w (IntsNew w (List.replicate s 1)) := by
  obtain ⟨i0, hi0, hz0, hz1, hz2⟩ := info_parts intInfo
  have HM := Lib.hid (fun w => bitsMul_one (s : Int) (by omega) w)
  have HMK : Hid (∀ n : Nat, n ≤ 4 → ∀ w : World, (Instr.makeSlice 40 (.int .i64 (n : Int)) (.int .i64 (n : Int))).run Try.prog w = .ok (.slice (some ⟨w.heap.size, 0, none⟩) n n) (w.alloc (.cells (madeCells #[.int .i64 0] n) 3))) := Lib.hid fun n hn w => run_make_row 40 3 i0 (.int .i64 0) Try.underlying40 hi0 hz0 hz1 rfl .i64 .i64 n (by rw [hz2]; omega) (by omega) w
  have HSRC : Hid (∀ ob, ∀ j v, [Value.int .i64 1][j]? = some v → (w.alloc ob).cell? ((⟨g, 0, none⟩ : Addr).add j) = some v) := Lib.hid fun ob j v hj => by
    match j, hj with
    | 0, hj =>
      simp at hj
      subst hj
      exact (((Below.refl w.heap.size w).alloc (Nat.le_refl _) ob).cell (p := ⟨g, 0, none⟩) hg).trans hc
  have HB0 : Hid (∀ ob, Below w.heap.size w (w.alloc ob)) := Lib.hid fun ob => (Below.refl _ _).alloc (Nat.le_refl _) ob
  clear hc
  have v1 : IntKind.i64.wrap 1 = 1 := by decide +kernel
  have v2 : IntKind.i64.wrap 2 = 2 := by decide +kernel
  have v3 : IntKind.i64.wrap 3 = 3 := by decide +kernel
  have v4 : IntKind.i64.wrap 4 = 4 := by decide +kernel
  rcases hs with rfl | rfl | rfl | rfl
  · have hmk : ∀ w : World, (Instr.makeSlice 40 (.int .i64 1) (.int .i64 1)).run Try.prog w = .ok (.slice (some ⟨w.heap.size, 0, none⟩) 1 1) (w.alloc (.cells #[.int .i64 0] 3)) := fun w => by
      have h := HMK.out 1 (by omega) w
      have e : madeCells #[.int .i64 0] 1 = #[.int .i64 0] := Array.toList_inj.1 (madeOne (.int .i64 0) rfl 1)
      rw [e] at h
      exact h
    have HG0 : Hid ((w.alloc (.cells #[.int .i64 0] 3)).heap[w.heap.size]? = some (.cells ([.int .i64 0] : List Value).toArray 3 (0, 0))) := Lib.hid (heap_alloc_new w _)
    go_enter Try.func96, Try.ntmps96
    go_wp2_with (first | (go_at_call 111; refine (HM.out _).mono ?_; rintro e w' ⟨rfl, rfl⟩) | (refine wpList_copy_splice rfl (.tmp 31) (.tmp 32) 40 40 rfl 3 Try.underlying40 intSz _ _ 1 1 1 1 rfl rfl w.heap.size 0 [.int .i64 0] 3 HG0.out [.int .i64 1] (by rfl) (fun _ => ⟨rfl, ⟨g, 0, none⟩, rfl, HSRC.out _⟩) (by simp) (by simp [Value.oneCell']) w.heap.size w (HB0.out _) (Nat.le_refl _) ?_; intro w2 HG2 hB2; have HH2 : Hid (w2.heap[w.heap.size]? = some (.cells ([.int .i64 1] : List Value).toArray 3 (0, 0))) := Lib.hid HG2.out; clear HG2; have HBB := Lib.hid hB2; clear hB2))
    clear hmk HMK HM HG0 HSRC HB0
    refine wp_loop_rounds 1 ?_
    rw [rounds_succ]
    go_wp2_with fail
    go_ret
    exact ⟨_, rfl, row_own (xs := List.replicate 1 1) HH2.out (Nat.le_refl _) (by simp [maxLen]), HBB.out⟩
  · have hmk : ∀ w : World, (Instr.makeSlice 40 (.int .i64 2) (.int .i64 2)).run Try.prog w = .ok (.slice (some ⟨w.heap.size, 0, none⟩) 2 2) (w.alloc (.cells #[.int .i64 0, .int .i64 0] 3)) := fun w => by
      have h := HMK.out 2 (by omega) w
      have e : madeCells #[.int .i64 0] 2 = #[.int .i64 0, .int .i64 0] := Array.toList_inj.1 (madeOne (.int .i64 0) rfl 2)
      rw [e] at h
      exact h
    have HG0 : Hid ((w.alloc (.cells #[.int .i64 0, .int .i64 0] 3)).heap[w.heap.size]? = some (.cells ([.int .i64 0, .int .i64 0] : List Value).toArray 3 (0, 0))) := Lib.hid (heap_alloc_new w _)
    go_enter Try.func96, Try.ntmps96
    go_wp2_with (first | (go_at_call 111; refine (HM.out _).mono ?_; rintro e w' ⟨rfl, rfl⟩) | (refine wpList_copy_splice rfl (.tmp 31) (.tmp 32) 40 40 rfl 3 Try.underlying40 intSz _ _ 2 2 1 1 rfl rfl w.heap.size 0 [.int .i64 0, .int .i64 0] 3 HG0.out [.int .i64 1] (by rfl) (fun _ => ⟨rfl, ⟨g, 0, none⟩, rfl, HSRC.out _⟩) (by simp) (by simp [Value.oneCell']) w.heap.size w (HB0.out _) (Nat.le_refl _) ?_; intro w2 HG2 hB2; have HH2 : Hid (w2.heap[w.heap.size]? = some (.cells ([.int .i64 1, .int .i64 0] : List Value).toArray 3 (0, 0))) := Lib.hid HG2.out; clear HG2; have HBB := Lib.hid hB2; clear hB2))
    clear hmk HMK HM HG0 HSRC HB0
    refine wp_loop_rounds 2 ?_
    rw [rounds_succ]
    go_wp2_with fail
    have HS2 : Hid (∀ j v, ([.int .i64 1] : List Value)[j]? = some v → w2.drew.cell? ((⟨w.heap.size, 0, none⟩ : Addr).add j) = some v) := Lib.hid (row_src (cur := [.int .i64 1, .int .i64 0]) (rest := [.int .i64 0]) HH2.out rfl)
    have HD2 : Hid (w2.drew.heap[w.heap.size]? = some (.cells ([.int .i64 1, .int .i64 0] : List Value).toArray 3 (0, 0))) := Lib.hid HH2.out
    have HBD2 : Hid (Below w.heap.size w w2.drew) := Lib.hid HBB.out.drew
    go_region_held3 (fun _ => True) (exact trivial) ((refine step_copy_splice rfl (.tmp 41) (.tmp 44) 40 40 rfl 3 Try.underlying40 intSz _ _ 1 1 1 2 (by rfl) (by rfl) w.heap.size 1 [.int .i64 1, .int .i64 0] 3 HD2.out [.int .i64 1] (by rfl) (fun _ => ⟨rfl, ⟨w.heap.size, 0, none⟩, rfl, HS2.out⟩) (by simp) (by simp [Value.oneCell']) w.heap.size w HBD2.out (Nat.le_refl _) ?_; intro w3 HG3 hB3; have HH3 : Hid (w3.heap[w.heap.size]? = some (.cells ([.int .i64 1, .int .i64 1] : List Value).toArray 3 (0, 0))) := Lib.hid HG3.out; clear HG3 HBB; have HBB := Lib.hid hB3; clear hB3))
    go_wp2_with fail
    rw [rounds_succ]
    go_wp2_with fail
    go_ret
    exact ⟨_, rfl, row_own (xs := List.replicate 2 1) HH3.out (Nat.le_refl _) (by simp [maxLen]), HBB.out⟩
  · have hmk : ∀ w : World, (Instr.makeSlice 40 (.int .i64 3) (.int .i64 3)).run Try.prog w = .ok (.slice (some ⟨w.heap.size, 0, none⟩) 3 3) (w.alloc (.cells #[.int .i64 0, .int .i64 0, .int .i64 0] 3)) := fun w => by
      have h := HMK.out 3 (by omega) w
      have e : madeCells #[.int .i64 0] 3 = #[.int .i64 0, .int .i64 0, .int .i64 0] := Array.toList_inj.1 (madeOne (.int .i64 0) rfl 3)
      rw [e] at h
      exact h
    have HG0 : Hid ((w.alloc (.cells #[.int .i64 0, .int .i64 0, .int .i64 0] 3)).heap[w.heap.size]? = some (.cells ([.int .i64 0, .int .i64 0, .int .i64 0] : List Value).toArray 3 (0, 0))) := Lib.hid (heap_alloc_new w _)
    go_enter Try.func96, Try.ntmps96
    go_wp2_with (first | (go_at_call 111; refine (HM.out _).mono ?_; rintro e w' ⟨rfl, rfl⟩) | (refine wpList_copy_splice rfl (.tmp 31) (.tmp 32) 40 40 rfl 3 Try.underlying40 intSz _ _ 3 3 1 1 rfl rfl w.heap.size 0 [.int .i64 0, .int .i64 0, .int .i64 0] 3 HG0.out [.int .i64 1] (by rfl) (fun _ => ⟨rfl, ⟨g, 0, none⟩, rfl, HSRC.out _⟩) (by simp) (by simp [Value.oneCell']) w.heap.size w (HB0.out _) (Nat.le_refl _) ?_; intro w2 HG2 hB2; have HH2 : Hid (w2.heap[w.heap.size]? = some (.cells ([.int .i64 1, .int .i64 0, .int .i64 0] : List Value).toArray 3 (0, 0))) := Lib.hid HG2.out; clear HG2; have HBB := Lib.hid hB2; clear hB2))
    clear hmk HMK HM HG0 HSRC HB0
    refine wp_loop_rounds 3 ?_
    rw [rounds_succ]
    go_wp2_with fail
    have HS2 : Hid (∀ j v, ([.int .i64 1] : List Value)[j]? = some v → w2.drew.cell? ((⟨w.heap.size, 0, none⟩ : Addr).add j) = some v) := Lib.hid (row_src (cur := [.int .i64 1, .int .i64 0, .int .i64 0]) (rest := [.int .i64 0, .int .i64 0]) HH2.out rfl)
    have HD2 : Hid (w2.drew.heap[w.heap.size]? = some (.cells ([.int .i64 1, .int .i64 0, .int .i64 0] : List Value).toArray 3 (0, 0))) := Lib.hid HH2.out
    have HBD2 : Hid (Below w.heap.size w w2.drew) := Lib.hid HBB.out.drew
    go_region_held3 (fun _ => True) (exact trivial) ((refine step_copy_splice rfl (.tmp 41) (.tmp 44) 40 40 rfl 3 Try.underlying40 intSz _ _ 2 2 1 3 (by rfl) (by rfl) w.heap.size 1 [.int .i64 1, .int .i64 0, .int .i64 0] 3 HD2.out [.int .i64 1] (by rfl) (fun _ => ⟨rfl, ⟨w.heap.size, 0, none⟩, rfl, HS2.out⟩) (by simp) (by simp [Value.oneCell']) w.heap.size w HBD2.out (Nat.le_refl _) ?_; intro w3 HG3 hB3; have HH3 : Hid (w3.heap[w.heap.size]? = some (.cells ([.int .i64 1, .int .i64 1, .int .i64 0] : List Value).toArray 3 (0, 0))) := Lib.hid HG3.out; clear HG3 HBB; have HBB := Lib.hid hB3; clear hB3))
    go_wp2_with fail
    rw [rounds_succ]
    go_wp2_with fail
    have HS3 : Hid (∀ j v, ([.int .i64 1] : List Value)[j]? = some v → w3.drew.cell? ((⟨w.heap.size, 0, none⟩ : Addr).add j) = some v) := Lib.hid (row_src (cur := [.int .i64 1, .int .i64 1, .int .i64 0]) (rest := [.int .i64 1, .int .i64 0]) HH3.out rfl)
    have HD3 : Hid (w3.drew.heap[w.heap.size]? = some (.cells ([.int .i64 1, .int .i64 1, .int .i64 0] : List Value).toArray 3 (0, 0))) := Lib.hid HH3.out
    have HBD3 : Hid (Below w.heap.size w w3.drew) := Lib.hid HBB.out.drew
    go_region_held3 (fun _ => True) (exact trivial) ((refine step_copy_splice rfl (.tmp 41) (.tmp 44) 40 40 rfl 3 Try.underlying40 intSz _ _ 1 1 2 3 (by rfl) (by rfl) w.heap.size 2 [.int .i64 1, .int .i64 1, .int .i64 0] 3 HD3.out [.int .i64 1] (by rfl) (fun _ => ⟨rfl, ⟨w.heap.size, 0, none⟩, rfl, HS3.out⟩) (by simp) (by simp [Value.oneCell']) w.heap.size w HBD3.out (Nat.le_refl _) ?_; intro w4 HG4 hB4; have HH4 : Hid (w4.heap[w.heap.size]? = some (.cells ([.int .i64 1, .int .i64 1, .int .i64 1] : List Value).toArray 3 (0, 0))) := Lib.hid HG4.out; clear HG4 HBB; have HBB := Lib.hid hB4; clear hB4))
    go_wp2_with fail
    rw [rounds_succ]
    go_wp2_with fail
    go_ret
    exact ⟨_, rfl, row_own (xs := List.replicate 3 1) HH4.out (Nat.le_refl _) (by simp [maxLen]), HBB.out⟩
  · have hmk : ∀ w : World, (Instr.makeSlice 40 (.int .i64 4) (.int .i64 4)).run Try.prog w = .ok (.slice (some ⟨w.heap.size, 0, none⟩) 4 4) (w.alloc (.cells #[.int .i64 0, .int .i64 0, .int .i64 0, .int .i64 0] 3)) := fun w => by
      have h := HMK.out 4 (by omega) w
      have e : madeCells #[.int .i64 0] 4 = #[.int .i64 0, .int .i64 0, .int .i64 0, .int .i64 0] := Array.toList_inj.1 (madeOne (.int .i64 0) rfl 4)
      rw [e] at h
      exact h
    have HG0 : Hid ((w.alloc (.cells #[.int .i64 0, .int .i64 0, .int .i64 0, .int .i64 0] 3)).heap[w.heap.size]? = some (.cells ([.int .i64 0, .int .i64 0, .int .i64 0, .int .i64 0] : List Value).toArray 3 (0, 0))) := Lib.hid (heap_alloc_new w _)
    go_enter Try.func96, Try.ntmps96
    go_wp2_with (first | (go_at_call 111; refine (HM.out _).mono ?_; rintro e w' ⟨rfl, rfl⟩) | (refine wpList_copy_splice rfl (.tmp 31) (.tmp 32) 40 40 rfl 3 Try.underlying40 intSz _ _ 4 4 1 1 rfl rfl w.heap.size 0 [.int .i64 0, .int .i64 0, .int .i64 0, .int .i64 0] 3 HG0.out [.int .i64 1] (by rfl) (fun _ => ⟨rfl, ⟨g, 0, none⟩, rfl, HSRC.out _⟩) (by simp) (by simp [Value.oneCell']) w.heap.size w (HB0.out _) (Nat.le_refl _) ?_; intro w2 HG2 hB2; have HH2 : Hid (w2.heap[w.heap.size]? = some (.cells ([.int .i64 1, .int .i64 0, .int .i64 0, .int .i64 0] : List Value).toArray 3 (0, 0))) := Lib.hid HG2.out; clear HG2; have HBB := Lib.hid hB2; clear hB2))
    clear hmk HMK HM HG0 HSRC HB0
    refine wp_loop_rounds 3 ?_
    rw [rounds_succ]
    go_wp2_with fail
    have HS2 : Hid (∀ j v, ([.int .i64 1] : List Value)[j]? = some v → w2.drew.cell? ((⟨w.heap.size, 0, none⟩ : Addr).add j) = some v) := Lib.hid (row_src (cur := [.int .i64 1, .int .i64 0, .int .i64 0, .int .i64 0]) (rest := [.int .i64 0, .int .i64 0, .int .i64 0]) HH2.out rfl)
    have HD2 : Hid (w2.drew.heap[w.heap.size]? = some (.cells ([.int .i64 1, .int .i64 0, .int .i64 0, .int .i64 0] : List Value).toArray 3 (0, 0))) := Lib.hid HH2.out
    have HBD2 : Hid (Below w.heap.size w w2.drew) := Lib.hid HBB.out.drew
    go_region_held3 (fun _ => True) (exact trivial) ((refine step_copy_splice rfl (.tmp 41) (.tmp 44) 40 40 rfl 3 Try.underlying40 intSz _ _ 3 3 1 4 (by rfl) (by rfl) w.heap.size 1 [.int .i64 1, .int .i64 0, .int .i64 0, .int .i64 0] 3 HD2.out [.int .i64 1] (by rfl) (fun _ => ⟨rfl, ⟨w.heap.size, 0, none⟩, rfl, HS2.out⟩) (by simp) (by simp [Value.oneCell']) w.heap.size w HBD2.out (Nat.le_refl _) ?_; intro w3 HG3 hB3; have HH3 : Hid (w3.heap[w.heap.size]? = some (.cells ([.int .i64 1, .int .i64 1, .int .i64 0, .int .i64 0] : List Value).toArray 3 (0, 0))) := Lib.hid HG3.out; clear HG3 HBB; have HBB := Lib.hid hB3; clear hB3))
    go_wp2_with fail
    rw [rounds_succ]
    go_wp2_with fail
    have HS3 : Hid (∀ j v, ([.int .i64 1, .int .i64 1] : List Value)[j]? = some v → w3.drew.cell? ((⟨w.heap.size, 0, none⟩ : Addr).add j) = some v) := Lib.hid (row_src (cur := [.int .i64 1, .int .i64 1, .int .i64 0, .int .i64 0]) (rest := [.int .i64 0, .int .i64 0]) HH3.out rfl)
    have HD3 : Hid (w3.drew.heap[w.heap.size]? = some (.cells ([.int .i64 1, .int .i64 1, .int .i64 0, .int .i64 0] : List Value).toArray 3 (0, 0))) := Lib.hid HH3.out
    have HBD3 : Hid (Below w.heap.size w w3.drew) := Lib.hid HBB.out.drew
    go_region_held3 (fun _ => True) (exact trivial) ((refine step_copy_splice rfl (.tmp 41) (.tmp 44) 40 40 rfl 3 Try.underlying40 intSz _ _ 2 2 2 4 (by rfl) (by rfl) w.heap.size 2 [.int .i64 1, .int .i64 1, .int .i64 0, .int .i64 0] 3 HD3.out [.int .i64 1, .int .i64 1] (by rfl) (fun _ => ⟨rfl, ⟨w.heap.size, 0, none⟩, rfl, HS3.out⟩) (by simp) (by simp [Value.oneCell']) w.heap.size w HBD3.out (Nat.le_refl _) ?_; intro w4 HG4 hB4; have HH4 : Hid (w4.heap[w.heap.size]? = some (.cells ([.int .i64 1, .int .i64 1, .int .i64 1, .int .i64 1] : List Value).toArray 3 (0, 0))) := Lib.hid HG4.out; clear HG4 HBB; have HBB := Lib.hid hB4; clear hB4))
    go_wp2_with fail
    rw [rounds_succ]
    go_wp2_with fail
    go_ret
    exact ⟨_, rfl, row_own (xs := List.replicate 4 1) HH4.out (Nat.le_refl _) (by simp [maxLen]), HBB.out⟩
end Go.Proofs.Ytnmmgpmhpjjehaa
