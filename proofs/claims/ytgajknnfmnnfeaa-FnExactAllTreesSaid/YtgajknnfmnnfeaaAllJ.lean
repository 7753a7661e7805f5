/- The program's AllTrees, and the model's. -/
import Derived.Test.YtgajknnfmnnfeaaAllI
import Derived.Test.YtgajknnfmnnfeaaAllSz
namespace Go.Proofs.Ytgajknnfmnnfeaa
open Go.RowKit
set_option linter.unusedVariables false
set_option maxHeartbeats 400000 in
theorem specAllTrees_ret (n : Int) (w : World) : Calls Try.prog 52 #[.int .i64 n] w (TabsRet w (allOk n) (allV n)) := by
  by_cases h : 1 ≤ n ∧ n ≤ 7
  · have e1 : allOk n = true := by simp [allOk, h]
    have e2 : allV n = allF n.toNat 1 := by rw [allV, if_pos e1]
    obtain ⟨m, rfl⟩ : ∃ m : Nat, n = m := ⟨n.toNat, by omega⟩
    have hm : m ≤ 7 := by omega
    have HC := Lib.hid (cyAll_ret m 1 hm (by omega) w)
    have HI : Hid (inB (m : Int) 1 7 = true) := Lib.hid (inB_yes h)
    rw [e1, e2, Int.toNat_natCast]
    clear e1 e2
    go_enter Try.func52, Try.ntmps52
    go_wp2_with (first | (go_at_call 64; refine (in_any _ _ _ _).mono ?_; rintro e w' ⟨rfl, rfl⟩; rw [HI.out]) | (go_at_call 89; refine HC.out.mono ?_; rintro e w1 ⟨v1, vs1, rfl, hr1, hb1⟩))
    go_ret2
    exact ⟨_, _, rfl, hr1, hb1⟩
  · have e1 : allOk n = false := by simp [allOk]; omega
    have e2 : allV n = [] := by rw [allV, e1]; rfl
    have HI : Hid (inB n 1 7 = false) := Lib.hid (inB_no h)
    rw [e1, e2]
    clear e1 e2
    go_enter Try.func52, Try.ntmps52
    go_wp2_with (go_at_call 64; refine (in_any _ _ _ _).mono ?_; rintro e w' ⟨rfl, rfl⟩; rw [HI.out])
    go_ret2
    exact ⟨_, [], rfl, TRow.nil (Nat.le_refl _), Below.refl _ _⟩
theorem GInv.start {w w1 : World} {n : Nat} {xs : List Int} (t1 t2 t3 t4 : TypeId) (hr : IRow w1 (w.heap.size + 2) (.slice (some ⟨w.heap.size + 2, 0, none⟩) n n) xs) (hl : xs.length = n)
    (hb : Below (w.heap.size + 2) ((w.alloc (.cells #[.int .i64 (n : Int)] t1)).alloc (.cells #[.slice none 0 0] t2)) w1) :
    GInv w.heap.size (w.heap.size + 2) w1.heap.size n n ((w1.alloc (.cells #[.slice (some ⟨w.heap.size + 2, 0, none⟩) n n] t3)).alloc (.cells #[growV w.heap.size w1.heap.size] t4)) xs [] := by
  have hg := hr.blk _ rfl
  have k2 : ∀ k, k < w1.heap.size → ((w1.alloc (.cells #[.slice (some ⟨w.heap.size + 2, 0, none⟩) n n] t3)).alloc (.cells #[growV w.heap.size w1.heap.size] t4)).heap[k]? = w1.heap[k]? := fun k hk =>
    (Below.heap_alloc _ _ _ (by simp; omega)).trans (Below.heap_alloc _ _ _ hk)
  have k1 : ∀ k, k < w.heap.size + 2 → ((w1.alloc (.cells #[.slice (some ⟨w.heap.size + 2, 0, none⟩) n n] t3)).alloc (.cells #[growV w.heap.size w1.heap.size] t4)).heap[k]? = ((w.alloc (.cells #[.int .i64 (n : Int)] t1)).alloc (.cells #[.slice none 0 0] t2)).heap[k]? := fun k hk =>
    (k2 k (by omega)).trans (hb.block k hk)
  refine ⟨by simp, ⟨Nat.le_refl _, hg.2⟩, ?_, (hr.alloc _).alloc _, hl, ?_, ?_, ?_, .slice none 0 0, [], w1.heap.size + 2, ?_, Nat.le_refl _, TRow.nil (by simp)⟩
  · rw [cell_sameA (k1 _ (by omega)), World.cell?_alloc_past _ _ _ (by simp), World.cell?_alloc_at _ _ _ _ rfl]; rfl
  · rw [World.cell?_alloc_past _ _ _ (by simp), World.cell?_alloc_at _ _ _ _ rfl]; rfl
  · rw [World.cell?_alloc_at _ _ _ _ (by simp)]; rfl
  · rw [frozen_sameA (k1 _ (by omega)), World.frozen?_alloc_at _ _ _ _ (by simp)]
  · rw [cell_sameA (k1 _ (by omega)), World.cell?_alloc_at _ _ _ _ (by simp)]; rfl
set_option maxHeartbeats 800000 in
theorem allTrees_yes (m : Nat) (h1 : 1 ≤ m) (h7 : m ≤ 7) (w : World) : Calls Try.prog 53 #[.int .i64 (m : Int)] w (TabsRet w true (allF m 1)) := by
  obtain ⟨i0, hi, hz0, hz1, hz2⟩ := info_parts intInfo
  have hmf : ∀ (fn : Fn) (first cap : Array Value) (w : World), (Instr.makeFunc fn first cap).run Try.prog w = .ok (.func fn first cap) w := fun _ _ _ _ => rfl
  go_enter Try.func53, Try.ntmps53
  go_wp2_with (refine wpList_make_full _ rfl (.tmp 13) (.tmp 13) 22 rfl (w.heap.size + 2) 3 i0 (.int .i64 0) 1 Try.underlying22 hi hz0 hz1 .i64 .i64 _ _ m rfl rfl (by omega) (by omega) (by rw [hz2]; omega) (by unfold maxLen; omega) (by simp) ?_; intro w1 hown1 hgrow1)
  have hbs : Below w.heap.size w ((w.alloc (.cells #[.int .i64 (m : Int)] 3)).alloc (.cells #[.slice none 0 0] 35)) := ((Below.refl _ _).alloc (Nat.le_refl _) _).alloc (by simp) _
  have hb1 : Below w.heap.size w w1 := hbs.grown hgrow1 (by simp; omega) (by simp)
  have hb0 : Below (w.heap.size + 2) ((w.alloc (.cells #[.int .i64 (m : Int)] 3)).alloc (.cells #[.slice none 0 0] 35)) w1 :=
    ⟨hgrow1.os, hgrow1.tape, hgrow1.output, hgrow1.size, fun k hk => hgrow1.block k (by simp; omega) (by simp)⟩
  have hrow1 : IRow w1 (w.heap.size + 2) (.slice (some ⟨w.heap.size + 2, 0, none⟩) m m) (List.replicate m 0) := by
    have := IRow.of_own (xs := List.replicate m 0) hown1 (by simp) (by rw [madeOne _ rfl]; simp)
    simpa using this
  have hgi := GInv.start 3 35 22 63 hrow1 (by simp) hb0
  have hz1 := hb1.size
  have hbb : Below w.heap.size w ((w1.alloc (.cells #[.slice (some ⟨w.heap.size + 2, 0, none⟩) m m] 22)).alloc (.cells #[growV w.heap.size w1.heap.size] 63)) := (hb1.alloc hz1 _).alloc (by simp; omega) _
  have HG := Lib.hid (grow_any w.heap.size (w.heap.size + 2) w1.heap.size m m h7 ⟨Nat.le_refl _, by unfold maxLen; omega⟩ m 0 1 (by omega) h1 (fun _ => Nat.le_refl _) _ _ [] (by
    have h2 : 7 ^ m ≤ 7 ^ 7 := Nat.pow_le_pow_right (by omega) h7
    have h3 : 7 ^ 7 = 823543 := by decide
    simp only [List.length_nil]
    omega) hgi)
  refine HG.out.mono ?_
  rintro e w2 ⟨rfl, ys, _, hg2, hb2⟩
  have hB2 := Lib.hid (hbb.trans hb2)
  obtain ⟨v, vs, M, e1, hM, ht⟩ := hg2.all
  have HT := Lib.hid ht
  have hlt := ht.len
  obtain ⟨A, c, rfl⟩ := ht.out.shape
  have hD := hg2.size
  clear hgi hbb hb1 hb0 hbs hrow1 hown1 hgrow1 hb2 hg2 HG ht hlt
  go_wp2_with fail
  go_ret2
  have hx := HT.out
  rw [List.take_zero, behind_nil, List.nil_append] at hx
  exact ⟨_, vs, rfl, hx.mono (by omega) hx.size (Nat.le_refl _), hB2.out⟩
set_option maxHeartbeats 400000 in
theorem allTrees_no (n : Int) (h : ¬ (1 ≤ n ∧ n ≤ 7)) (w : World) : Calls Try.prog 53 #[.int .i64 n] w (TabsRet w false []) := by
  have hb := (Below.refl w.heap.size w).alloc (Nat.le_refl _) (.cells #[.int .i64 n] 3)
  by_cases h1 : n < 1
  · go_enter Try.func53, Try.ntmps53
    go_wp2_with fail
    go_ret2
    exact ⟨_, [], rfl, TRow.nil (by simp), hb⟩
  · have h2 : 7 < n := by omega
    go_enter Try.func53, Try.ntmps53
    go_wp2_with fail
    go_ret2
    exact ⟨_, [], rfl, TRow.nil (by simp), hb⟩
theorem allTrees_ret (n : Int) (w : World) : Calls Try.prog 53 #[.int .i64 n] w (TabsRet w (allOk n) (allV n)) := by
  by_cases h : 1 ≤ n ∧ n ≤ 7
  · have e1 : allOk n = true := by simp [allOk, h]
    have e2 : allV n = allF n.toNat 1 := by rw [allV, if_pos e1]
    obtain ⟨m, rfl⟩ : ∃ m : Nat, n = m := ⟨n.toNat, by omega⟩
    rw [e1, e2, Int.toNat_natCast]
    exact allTrees_yes m (by omega) (by omega) w
  · have e1 : allOk n = false := by simp [allOk]; omega
    have e2 : allV n = [] := by rw [allV, e1]; rfl
    rw [e1, e2]
    exact allTrees_no n h w
theorem allV_flat (n : Int) : (allV n).flatten.length ≤ 1048576 := by
  unfold allV
  split
  · rename_i h
    have h' : 1 ≤ n ∧ n ≤ 7 := by simpa [allOk] using h
    exact allF_small n.toNat (by omega)
  · simp
theorem allV_len (n : Int) : (allV n).length ≤ 1048576 := by
  unfold allV
  split
  · rename_i h
    have h' : 1 ≤ n ∧ n ≤ 7 := by simpa [allOk] using h
    have h1 := allF_len n.toNat 1 (by omega)
    have h2 : 7 ^ n.toNat ≤ 7 ^ 7 := Nat.pow_le_pow_right (by omega) (by omega)
    have h3 : 7 ^ 7 = 823543 := by decide
    omega
  · simp
end Go.Proofs.Ytgajknnfmnnfeaa
