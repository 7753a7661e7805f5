/- Pack 11 of what FnPathsReflected needs: Times, ReMath3. -/
import Derived.Test.YtachijliaedndaaKFnPathsReflected10
/- How many heights are a given one. -/
namespace Go.Proofs.Ytachijliaedndaa
open Go.RowKit
/-- how many of the first k heights are h -/
def timesTo (s : ByteArray) (h : Int) : Nat → Nat
  | 0 => 0
  | k + 1 => if hAt s k = h then timesTo s h k + 1 else timesTo s h k
theorem timesTo_le (s : ByteArray) (h : Int) : ∀ k, timesTo s h k ≤ k := by
  intro k
  induction k with
  | zero => simp [timesTo]
  | succ k ih => unfold timesTo; split <;> omega
theorem timesTo_yes {s : ByteArray} {h : Int} {k : Nat} (e : (hAt s k == h) = true) : timesTo s h (k + 1) = timesTo s h k + 1 := by
  rw [timesTo, if_pos (by simpa using e)]
theorem timesTo_no {s : ByteArray} {h : Int} {k : Nat} (e : (hAt s k == h) = false) : timesTo s h (k + 1) = timesTo s h k := by
  rw [timesTo, if_neg (by simpa using e)]
def timesV (s : ByteArray) (h : Int) : Int := if pathB s then (timesTo s h (s.size + 1) : Nat) else 0
set_option maxHeartbeats 400000 in
theorem times_ret (s : ByteArray) (h : Int) (w : World) (hs : s.size ≤ maxLen) : Calls Try.prog 21 #[.string s, .int .i64 h] w (Ret w (.tuple #[.int .i64 (timesV s h), .bool (pathB s)])) := by
  unfold timesV
  rcases Bool.eq_false_or_eq_true (pathB s) with hp | hp
  · rw [hp, if_pos rfl]
    have HP := Lib.hid hp
    have h40 := ((pathB_iff s).1 hp).1
    clear hp
    go_enter Try.func21, Try.ntmps21
    go_wp2_with (go_at_call 19; refine (heights_any s _ hs HP.out).mono ?_; rintro e w1 ⟨v, rfl, hr, hb⟩; obtain ⟨g, c, rfl, hgB, hgl⟩ := hr.form' (hts_length s) (by omega))
    go_loop [8, 18] (fun u i => ∃ k : Nat, k ≤ s.size + 1 ∧ i = .int .i64 (k : Int) ∧ u = .int .i64 (timesTo s h k : Nat)) (fun _ i => s.size + 1 - (intOf i).toNat)
    case atStart => exact ⟨0, Nat.zero_le _, rfl, rfl⟩
    case round =>
      obtain ⟨k, hk, rfl, rfl⟩ := hrel
      by_cases hlt : k < s.size + 1
      · have hc := hts_at hr k (by omega)
        have hle := timesTo_le s h k
        go_wp2
        · go_round
          case rel => exact ⟨k + 1, by omega, by go_num, by rw [timesTo_yes (by assumption)]; go_num⟩
          case measure => simp [intOf]; omega
        · go_round
          case rel => exact ⟨k + 1, by omega, by go_num, by rw [timesTo_no (by assumption)]⟩
          case measure => simp [intOf]; omega
      · go_wp2
        obtain rfl : k = s.size + 1 := by omega
        go_ret2
        exact ⟨rfl, hb⟩
  · rw [hp]
    go_enter Try.func21, Try.ntmps21
    go_wp2_with (go_at_call 19; refine (heights_no s _ hs hp).mono ?_; rintro e w' ⟨rfl, rfl⟩)
    refine wp_loop_rounds 1 ?_; rw [rounds_succ]
    go_wp2
    go_ret2
    exact ⟨rfl, Below.refl _ _⟩
end Go.Proofs.Ytachijliaedndaa

/- The text of touches: neighbours differ, letters are told by times. -/
namespace Go.Proofs.Ytachijliaedndaa
open Go.RowKit
set_option linter.unusedVariables false
/-- neighbours differ -/
def nbD (T : List UInt8) : Prop := ∀ i, i + 1 < T.length → T.getD i 0 ≠ T.getD (i + 1) 0
theorem nbD_add {T : List UInt8} (h : nbD T) (b : UInt8) : nbD (cAdd T b) := by
  unfold cAdd
  split
  · exact h
  · next hne =>
    intro i hi
    rw [List.length_append, List.length_singleton] at hi
    by_cases e : i + 1 < T.length
    · rw [List.getD_eq_getElem?_getD, List.getD_eq_getElem?_getD, List.getElem?_append_left (by omega), List.getElem?_append_left e, ← List.getD_eq_getElem?_getD, ← List.getD_eq_getElem?_getD]
      exact h i e
    · have hl : i + 1 = T.length := by omega
      rw [List.getD_eq_getElem?_getD, List.getD_eq_getElem?_getD, List.getElem?_append_left (by omega), List.getElem?_append_right (by omega), hl, Nat.sub_self]
      intro x
      apply hne
      rw [List.getLast?_eq_getElem?, ← hl, Nat.add_sub_cancel, List.getElem?_eq_getElem (by omega)]
      rw [List.getElem?_eq_getElem (by omega)] at x
      have x2 : T[i] = b := x
      rw [x2]
theorem cAdd_mem (T : List UInt8) (b x : UInt8) : x ∈ cAdd T b ↔ x ∈ T ∨ x = b := by
  unfold cAdd
  split
  · next h =>
    constructor
    · exact .inl
    · rintro (h1 | h1)
      · exact h1
      · subst h1; exact List.mem_of_getLast? h
  · rw [List.mem_append, List.mem_singleton]
theorem cAdd_count (T : List UInt8) (b x : UInt8) : (cAdd T b).count x ≤ T.count x + (if x = b then 1 else 0) := by
  unfold cAdd
  split
  · omega
  · rw [List.count_append, List.count_singleton]
    by_cases e : x = b
    · subst e; simp
    · rw [if_neg e, if_neg (by simpa using fun h => e h.symm)]
      omega
theorem tx_facts (s : ByteArray) {lo hi : Int} (hne : lo ≠ hi) : ∀ k, nbD (cmpL (sgL s lo hi k)) ∧ (∀ x ∈ cmpL (sgL s lo hi k), x = 108 ∨ x = 104) ∧
    (cmpL (sgL s lo hi k)).count 108 ≤ timesTo s lo k ∧ (cmpL (sgL s lo hi k)).count 104 ≤ timesTo s hi k ∧ (108 ∈ cmpL (sgL s lo hi k) ↔ 0 < timesTo s lo k) ∧ (104 ∈ cmpL (sgL s lo hi k) ↔ 0 < timesTo s hi k)
  | 0 => ⟨fun i hi => by simp [sgL, cmpL] at hi, fun x hx => by simp [sgL, cmpL] at hx, by simp [sgL, cmpL], by simp [sgL, cmpL], by simp [sgL, cmpL, timesTo], by simp [sgL, cmpL, timesTo]⟩
  | k + 1 => by
    obtain ⟨a1, a2, a3, a4, a5, a6⟩ := tx_facts s hne k
    rw [sgL, timesTo, timesTo]
    by_cases h1 : hAt s k = lo
    · rw [if_pos h1, if_pos h1, if_neg (fun h2 => hne (h1.symm.trans h2)), cmpL_snoc]
      have c1 := cAdd_count (cmpL (sgL s lo hi k)) 108 108
      have c2 := cAdd_count (cmpL (sgL s lo hi k)) 108 104
      rw [if_pos rfl] at c1
      rw [if_neg (by decide)] at c2
      refine ⟨nbD_add a1 _, fun x hx => ?_, by omega, by omega, ?_, ?_⟩
      · rcases (cAdd_mem _ _ _).1 hx with h | h
        · exact a2 x h
        · exact .inl h
      · rw [cAdd_mem]; exact ⟨fun _ => by omega, fun _ => .inr rfl⟩
      · rw [cAdd_mem, ← a6]; exact ⟨fun h => h.elim id (fun e => absurd e (by decide)), .inl⟩
    · rw [if_neg h1, if_neg h1]
      by_cases h2 : hAt s k = hi
      · rw [if_pos h2, if_pos h2, cmpL_snoc]
        have c1 := cAdd_count (cmpL (sgL s lo hi k)) 104 108
        have c2 := cAdd_count (cmpL (sgL s lo hi k)) 104 104
        rw [if_neg (by decide)] at c1
        rw [if_pos rfl] at c2
        refine ⟨nbD_add a1 _, fun x hx => ?_, by omega, by omega, ?_, ?_⟩
        · rcases (cAdd_mem _ _ _).1 hx with h | h
          · exact a2 x h
          · exact .inr h
        · rw [cAdd_mem, ← a5]; exact ⟨fun h => h.elim id (fun e => absurd e (by decide)), .inl⟩
        · rw [cAdd_mem]; exact ⟨fun _ => by omega, fun _ => .inr rfl⟩
      · rw [if_neg h2, if_neg h2]
        exact ⟨a1, a2, a3, a4, a5, a6⟩
end Go.Proofs.Ytachijliaedndaa
