/- Pack 15 of what FnPathsReflected needs: ClmMath, LastS. -/
import Derived.Test.YtachijliaedndaaKFnPathsReflected14
import Derived.Lib.Strings
/- Heights of turned and reversed paths, of parts; sums. -/
namespace Go.Proofs.Ytachijliaedndaa
open Go.RowKit
set_option linter.unusedVariables false
theorem hts_sum (s : ByteArray) : (hts s).sum = areaTo s (s.size + 1) := by
  have : ∀ k, ((List.range k).map (hAt s)).sum = areaTo s k := by
    intro k
    induction k with
    | zero => simp [areaTo]
    | succ k ih => rw [List.range_succ, List.map_append, List.sum_append, ih]; simp [areaTo]
  exact this _
theorem stepI_turn {c : UInt8} (h : isUD c = true) : stepI (turnC c) = - stepI c := by
  have h' : c = 85 ∨ c = 68 := by unfold isUD at h; simpa using h
  rcases h' with rfl | rfl <;> rfl
theorem isUD_turn (c : UInt8) : isUD (turnC c) = true := by
  unfold turnC; split <;> rfl
theorem map_step_turn : ∀ (l : List UInt8), (∀ x ∈ l, isUD x = true) → ((turnL l).map stepI).sum = - (l.map stepI).sum
  | [], _ => rfl
  | c :: l, h => by
    have ih := map_step_turn l (fun x hx => h x (List.mem_cons_of_mem _ hx))
    have h1 := stepI_turn (h c (List.mem_cons_self))
    unfold turnL at ih ⊢
    simp only [List.map_cons, List.sum_cons, h1, ih]
    omega
theorem allUD {s : ByteArray} (hu : UpTo s s.size) : ∀ x ∈ s.data.toList, isUD x = true := fun x hx => by
  obtain ⟨i, hi, rfl⟩ := List.mem_iff_getElem.1 hx
  exact hu i (by simpa using hi) (by simpa using hi)
theorem hAt_turn {s : ByteArray} (hu : UpTo s s.size) (k : Nat) : hAt (turnS s) k = - hAt s k := by
  unfold hAt turnS
  rw [strOf_list]
  have : (turnL s.data.toList).take k = turnL (s.data.toList.take k) := by unfold turnL; rw [List.map_take]
  rw [this]
  exact map_step_turn _ (fun x hx => allUD hu x (List.mem_of_mem_take hx))
theorem hAt_full (s : ByteArray) : hAt s s.size = (s.data.toList.map stepI).sum := by
  unfold hAt; rw [List.take_of_length_le (by simp)]
theorem hAt_rest (s : ByteArray) (k : Nat) : ((s.data.toList.drop k).map stepI).sum = hAt s s.size - hAt s k := by
  have h := List.take_append_drop k s.data.toList
  have h2 : ((s.data.toList.take k ++ s.data.toList.drop k).map stepI).sum = (s.data.toList.map stepI).sum := by rw [h]
  rw [List.map_append, List.sum_append] at h2
  rw [hAt_full]
  unfold hAt
  omega
theorem sum_rev (l : List Int) : l.reverse.sum = l.sum := by
  induction l with
  | nil => rfl
  | cons a l ih => rw [List.reverse_cons, List.sum_append, ih]; simp; omega
theorem hAt_back {s : ByteArray} (hu : UpTo s s.size) {i : Nat} (hi : i ≤ s.size) : hAt (backS s) (s.size - i) = hAt s i - hAt s s.size := by
  have hl : s.data.toList.length = s.size := by simp
  have e : (backS s).data.toList.take (s.size - i) = (turnL (s.data.toList.drop i)).reverse := by
    unfold backS
    rw [strOf_list]
    unfold turnS
    rw [strOf_list, List.take_reverse]
    have : (turnL s.data.toList).length - (s.size - i) = i := by rw [turnL_length, hl]; omega
    rw [this]
    unfold turnL
    rw [List.map_drop]
  have h1 : hAt (backS s) (s.size - i) = ((turnL (s.data.toList.drop i)).map stepI).sum := by
    unfold hAt
    rw [e, List.map_reverse, sum_rev]
  rw [h1, map_step_turn _ (fun x hx => allUD hu x (List.mem_of_mem_drop hx)), hAt_rest]
  omega
theorem backS_size (s : ByteArray) : (backS s).size = s.size := by
  unfold backS; rw [strOf_size, List.length_reverse]
  have := turnS_size s
  simpa using this
theorem pathB_of (s : ByteArray) (h40 : s.size ≤ 40) (h : ∀ x ∈ s.data.toList, isUD x = true) : pathB s = true := by
  unfold pathB
  rw [Bool.and_eq_true]
  exact ⟨decide_eq_true h40, List.all_eq_true.2 h⟩
theorem pathB_turn {s : ByteArray} (hp : pathB s = true) : pathB (turnS s) = true := by
  refine pathB_of _ (by rw [turnS_size]; exact ((pathB_iff s).1 hp).1) fun x hx => ?_
  unfold turnS at hx
  rw [strOf_list] at hx
  unfold turnL at hx
  obtain ⟨c, _, rfl⟩ := List.mem_map.1 hx
  exact isUD_turn c
theorem pathB_back {s : ByteArray} (hp : pathB s = true) : pathB (backS s) = true := by
  refine pathB_of _ (by rw [backS_size]; exact ((pathB_iff s).1 hp).1) fun x hx => ?_
  unfold backS at hx
  rw [strOf_list, List.mem_reverse] at hx
  unfold turnS at hx
  rw [strOf_list] at hx
  unfold turnL at hx
  obtain ⟨c, _, rfl⟩ := List.mem_map.1 hx
  exact isUD_turn c
/-- a step is U just where the height grows by 1, D just where it falls by 1 -/
theorem step_up {s : ByteArray} (hu : UpTo s s.size) {k : Nat} (hk : k < s.size) : ((s[k].toNat : Int) == 85) = (hAt s (k + 1) == hAt s k + 1) := by
  rw [hAt_succ s k hk]
  have h := hu k hk hk
  have h' : s[k] = 85 ∨ s[k] = 68 := by unfold isUD at h; simpa using h
  rcases h' with e | e
  · rw [e]
    have : (hAt s k + stepI 85 == hAt s k + 1) = true := beq_iff_eq.2 rfl
    rw [this]; rfl
  · rw [e]
    have : (hAt s k + stepI 68 == hAt s k + 1) = false := beq_eq_false_iff_ne.2 (by have : stepI 68 = -1 := rfl; omega)
    rw [this]; rfl
theorem step_down {s : ByteArray} (hu : UpTo s s.size) {k : Nat} (hk : k < s.size) : ((s[k].toNat : Int) == 68) = (hAt s (k + 1) == hAt s k - 1) := by
  rw [hAt_succ s k hk]
  have h := hu k hk hk
  have h' : s[k] = 85 ∨ s[k] = 68 := by unfold isUD at h; simpa using h
  rcases h' with e | e
  · rw [e]
    have : (hAt s k + stepI 85 == hAt s k - 1) = false := beq_eq_false_iff_ne.2 (by have : stepI 85 = 1 := rfl; omega)
    rw [this]; rfl
  · rw [e]
    have : (hAt s k + stepI 68 == hAt s k - 1) = true := beq_iff_eq.2 (by have : stepI 68 = -1 := rfl; omega)
    rw [this]; rfl
/-- the heights of a part -/
theorem hAt_part (s : ByteArray) {a b j : Nat} (hb : b ≤ s.size) (hj : a + j ≤ b) : hAt (s.extract a b) j = hAt s (a + j) - hAt s a := by
  have e : (s.extract a b).data.toList.take j = (s.data.toList.drop a).take j := by
    rw [Lib.extract_data, List.take_take]
    congr 1
    omega
  have h : (s.data.toList.take (a + j)) = s.data.toList.take a ++ (s.data.toList.drop a).take j := List.take_add
  unfold hAt
  rw [e, h, List.map_append, List.sum_append]
  omega
theorem part_size (s : ByteArray) {a b : Nat} (hb : b ≤ s.size) : (s.extract a b).size = b - a := by
  rw [ByteArray.size_extract]; omega
theorem part_path {s : ByteArray} (hp : pathB s = true) {a b : Nat} (hb : b ≤ s.size) : pathB (s.extract a b) = true := by
  have h40 := ((pathB_iff s).1 hp).1
  refine pathB_of _ (by rw [part_size s hb]; omega) fun x hx => ?_
  rw [Lib.extract_data] at hx
  have := List.mem_of_mem_drop (List.mem_of_mem_take hx)
  unfold pathB at hp
  rw [Bool.and_eq_true] at hp
  exact List.all_eq_true.1 hp.2 x this
end Go.Proofs.Ytachijliaedndaa

/- The model's LastAt. -/
namespace Go.Proofs.Ytachijliaedndaa
open Go.RowKit
set_option linter.unusedVariables false
def laOk (s : ByteArray) (h : Int) : Bool := pathB s && inB h (-40) 40 && decide (0 ≤ laZ s h)
def laV (s : ByteArray) (h : Int) : Int := if laOk s h = true then laZ s h else 0
set_option maxHeartbeats 400000 in
theorem specLastAt_ret (s : ByteArray) (h : Int) (w : World) (hs : s.size ≤ maxLen) : Calls Try.prog 18 #[.string s, .int .i64 h] w (Ret w (.tuple #[.int .i64 (laV s h), .bool (laOk s h)])) := by
  rcases Bool.eq_false_or_eq_true (pathB s) with hp | hp
  case inr =>
    have e1 : laOk s h = false := by simp [laOk, hp]
    have e2 : laV s h = 0 := by rw [laV, e1]; rfl
    rw [e1, e2]
    clear e1 e2
    go_enter Try.func18, Try.ntmps18
    go_wp2_with (first | (go_at_call 143; refine (paGood_any s _ hs).mono ?_; rintro e w' ⟨rfl, rfl⟩) | (go_at_call 144; refine (miHeight_any h _).mono ?_; rintro e w' ⟨rfl, rfl⟩))
    go_ret2
    exact ⟨rfl, Below.refl _ _⟩
  have HP := Lib.hid hp
  have h40 := ((pathB_iff s).1 hp).1
  rcases Bool.eq_false_or_eq_true (inB h (-40) 40) with hi | hi
  case inr =>
    have e1 : laOk s h = false := by simp [laOk, hi]
    have e2 : laV s h = 0 := by rw [laV, e1]; rfl
    rw [e1, e2]
    clear e1 e2
    go_enter Try.func18, Try.ntmps18
    go_wp2_with (first | (go_at_call 143; refine (paGood_any s _ hs).mono ?_; rintro e w' ⟨rfl, rfl⟩) | (go_at_call 144; refine (miHeight_any h _).mono ?_; rintro e w' ⟨rfl, rfl⟩))
    go_ret2
    exact ⟨rfl, Below.refl _ _⟩
  have HO : Hid (laOk s h = decide (0 ≤ laZ s h)) := Lib.hid (by simp [laOk, hp, hi])
  have HV : Hid (laV s h = if laOk s h = true then laZ s h else 0) := Lib.hid rfl
  go_enter Try.func18, Try.ntmps18
  go_wp2_with (first | (go_at_call 143; refine (paGood_any s _ hs).mono ?_; rintro e w' ⟨rfl, rfl⟩) | (go_at_call 144; refine (miHeight_any h _).mono ?_; rintro e w' ⟨rfl, rfl⟩) | (go_at_call 150; refine (paHeights_any s _ HP.out).mono ?_; rintro e w1 ⟨v, rfl, hr, hb⟩; obtain ⟨g, c, rfl, hgB, hgl⟩ := hr.form' (hts_length s) (by omega)))
  have HB := Lib.hid hb
  clear hb hp hi
  go_loop [6, 20] (fun u i => ∃ k : Nat, k ≤ s.size + 1 ∧ i = .int .i64 (k : Int) ∧ u = .int .i64 (laTo s h k)) (fun _ i => s.size + 1 - (intOf i).toNat)
  case atStart => exact ⟨0, Nat.zero_le _, rfl, rfl⟩
  case round =>
    obtain ⟨k, hk, rfl, rfl⟩ := hrel
    by_cases hlt : k < s.size + 1
    · have hc := hts_at hr k (by omega)
      go_wp2
      · go_round
        case rel => exact ⟨k + 1, by omega, by go_num, by rw [laTo_yes (by assumption)]⟩
        case measure => simp [intOf]; omega
      · go_round
        case rel => exact ⟨k + 1, by omega, by go_num, by rw [laTo_no (by assumption)]⟩
        case measure => simp [intOf]; omega
    · have hk2 : k = s.size + 1 := by omega
      have hbd := laTo_bd s h k
      have HL : Hid (laTo s h k = laZ s h) := Lib.hid (by rw [hk2]; rfl)
      clear hk2
      by_cases h0 : laTo s h k < 0
      · go_wp2_with fail
        go_ret2
        have e1 : laOk s h = false := by rw [HO.out, ← HL.out]; exact decide_eq_false (by omega)
        rw [HV.out, e1]
        exact ⟨rfl, HB.out⟩
      · go_wp2_with fail
        go_ret2
        have e1 : laOk s h = true := by rw [HO.out, ← HL.out]; exact decide_eq_true (by omega)
        rw [HV.out, e1, if_pos rfl, ← HL.out]
        exact ⟨rfl, HB.out⟩
end Go.Proofs.Ytachijliaedndaa
