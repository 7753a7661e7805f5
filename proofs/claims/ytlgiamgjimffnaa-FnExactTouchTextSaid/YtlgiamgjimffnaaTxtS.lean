/- The model's TouchText. -/
import Derived.Test.YtlgiamgjimffnaaCntS
namespace Go.Proofs.Ytlgiamgjimffnaa
open Go.RowKit
set_option linter.unusedVariables false
/-- one sign more, unless the last one is this -/
def addS (T : ByteArray) (b : UInt8) : ByteArray := if T.toList = [] ∨ ¬ (T.extract (T.size - 1) T.size).toList = [b] then T ++ ⟨#[b]⟩ else T
theorem size_pos_of {T : ByteArray} (h : ¬ T.toList = []) : 1 ≤ T.size := by
  rcases Nat.eq_zero_or_pos T.size with e | e
  · exfalso
    apply h
    have : T = ⟨#[]⟩ := ByteArray.ext (Array.eq_empty_of_size_eq_zero e)
    subst this
    unfold ByteArray.toList
    unfold ByteArray.toList.loop
    rw [if_neg (by rw [e]; omega)]
    rfl
  · exact e
def txTo (s : ByteArray) (lo hi : Int) : Nat → ByteArray
  | 0 => ⟨#[]⟩
  | k + 1 => if hAt s k = lo then addS (txTo s lo hi k) 108 else if hAt s k = hi then addS (txTo s lo hi k) 104 else txTo s lo hi k
theorem addS_size (T : ByteArray) (b : UInt8) : (addS T b).size ≤ T.size + 1 := by
  unfold addS
  split
  · rw [ByteArray.size_append]; exact Nat.le_refl _
  · omega
theorem txTo_size (s : ByteArray) (lo hi : Int) : ∀ k, (txTo s lo hi k).size ≤ k
  | 0 => by simp [txTo]; rfl
  | k + 1 => by
    have h := txTo_size s lo hi k
    rw [txTo]
    split
    · have := addS_size (txTo s lo hi k) 108; omega
    · split
      · have := addS_size (txTo s lo hi k) 104; omega
      · omega
def txOk (s : ByteArray) (lo hi : Int) : Bool := pathB s && walB lo hi && decide (lo ≠ hi)
def txV (s : ByteArray) (lo hi : Int) : ByteArray := if txOk s lo hi = true then txTo s lo hi (s.size + 1) else ⟨#[]⟩
set_option maxHeartbeats 1600000 in
theorem specTouchText_ret (s : ByteArray) (lo hi : Int) (w : World) (hs : s.size ≤ maxLen) : Calls Try.prog 67 #[.string s, .int .i64 lo, .int .i64 hi] w (Ret w (.tuple #[.string (txV s lo hi), .bool (txOk s lo hi)])) := by
  have HW := Lib.hid (miWalls_any lo hi)
  rcases Bool.eq_false_or_eq_true (pathB s) with hp | hp <;> rcases Bool.eq_false_or_eq_true (walB lo hi) with hw | hw <;> by_cases h0 : lo = hi
  rotate_left
  · have e1 : txOk s lo hi = true := by simp [txOk, hp, hw, h0]
    have e2 : txV s lo hi = txTo s lo hi (s.size + 1) := by rw [txV, if_pos e1]
    have HP := Lib.hid hp
    have h40 := ((pathB_iff s).1 hp).1
    rw [e1, e2]
    clear e1 e2
    go_enter Try.func67, Try.ntmps67
    go_wp2_with (first | (go_at_call 85; refine (paGood_any s _ hs).mono ?_; rintro e w' ⟨rfl, rfl⟩) | (go_at_call 104; refine (HW.out _).mono ?_; rintro e w' ⟨rfl, rfl⟩) | (go_at_call 90; refine (paHeights_any s _ HP.out).mono ?_; rintro e w1 ⟨v, rfl, hr, hb⟩; obtain ⟨g, c, rfl, hgB, hgl⟩ := hr.form' (hts_length s) (by omega)))
    have HB := Lib.hid hb
    clear hb
    go_loop [8, 11, 29] (fun t g i => ∃ (k : Nat), k ≤ s.size + 1 ∧ i = .int .i64 (k : Int) ∧ t = .string (txTo s lo hi k)) (fun _ _ i => s.size + 1 - (intOf i).toNat)
    case atStart => exact ⟨0, Nat.zero_le _, rfl, rfl⟩
    case round =>
      obtain ⟨k, hk, rfl, rfl⟩ := hrel
      by_cases hlt : k < s.size + 1
      · have hc := hts_at hr k (by omega)
        have hsz := txTo_size s lo hi k
        by_cases hl : hAt s k = lo
        · have HS : Hid (txTo s lo hi (k + 1) = addS (txTo s lo hi k) 108) := Lib.hid (by rw [txTo, if_pos hl])
          have q1 : (hAt s k == lo) = true := by simpa using hl
          clear hl
          generalize txTo s lo hi k = T at *
          by_cases hT : T.toList = []
          · have HA : Hid (addS T 108 = T ++ ⟨#[108]⟩) := Lib.hid (by rw [addS, if_pos (.inl hT)])
            go_wp2_with fail
            go_round
            case rel => exact ⟨k + 1, by omega, by go_num, by rw [HS.out, HA.out]⟩
            case measure => simp [intOf]; omega
          · have hp1 := size_pos_of hT
            have hE : T.toList.isEmpty = false := by simpa using hT
            by_cases hX : (T.extract (T.size - 1) T.size).toList = [108]
            · have HA : Hid (addS T 108 = T) := Lib.hid (by rw [addS, if_neg (by simp [hT, hX])])
              have hB : (!(T.extract (T.size - 1) T.size).toList == [108]) = false := by simp [hX]
              go_wp2_with fail
              go_round
              case rel => exact ⟨k + 1, by omega, by go_num, by rw [HS.out, HA.out]⟩
              case measure => simp [intOf]; omega
            · have HA : Hid (addS T 108 = T ++ ⟨#[108]⟩) := Lib.hid (by rw [addS, if_pos (.inr hX)])
              have hB : (!(T.extract (T.size - 1) T.size).toList == [108]) = true := by simp [hX]
              go_wp2_with fail
              go_round
              case rel => exact ⟨k + 1, by omega, by go_num, by rw [HS.out, HA.out]⟩
              case measure => simp [intOf]; omega
        · have q1 : (hAt s k == lo) = false := beq_eq_false_iff_ne.2 hl
          by_cases hh : hAt s k = hi
          · have HS : Hid (txTo s lo hi (k + 1) = addS (txTo s lo hi k) 104) := Lib.hid (by rw [txTo, if_neg hl, if_pos hh])
            have q2 : (hAt s k == hi) = true := by simpa using hh
            clear hl hh
            generalize txTo s lo hi k = T at *
            by_cases hT : T.toList = []
            · have HA : Hid (addS T 104 = T ++ ⟨#[104]⟩) := Lib.hid (by rw [addS, if_pos (.inl hT)])
              go_wp2_with fail
              go_round
              case rel => exact ⟨k + 1, by omega, by go_num, by rw [HS.out, HA.out]⟩
              case measure => simp [intOf]; omega
            · have hp1 := size_pos_of hT
              have hE : T.toList.isEmpty = false := by simpa using hT
              by_cases hX : (T.extract (T.size - 1) T.size).toList = [104]
              · have HA : Hid (addS T 104 = T) := Lib.hid (by rw [addS, if_neg (by simp [hT, hX])])
                have hB : (!(T.extract (T.size - 1) T.size).toList == [104]) = false := by simp [hX]
                go_wp2_with fail
                go_round
                case rel => exact ⟨k + 1, by omega, by go_num, by rw [HS.out, HA.out]⟩
                case measure => simp [intOf]; omega
              · have HA : Hid (addS T 104 = T ++ ⟨#[104]⟩) := Lib.hid (by rw [addS, if_pos (.inr hX)])
                have hB : (!(T.extract (T.size - 1) T.size).toList == [104]) = true := by simp [hX]
                go_wp2_with fail
                go_round
                case rel => exact ⟨k + 1, by omega, by go_num, by rw [HS.out, HA.out]⟩
                case measure => simp [intOf]; omega
          · have HS : Hid (txTo s lo hi (k + 1) = txTo s lo hi k) := Lib.hid (by rw [txTo, if_neg hl, if_neg hh])
            have q2 : (hAt s k == hi) = false := beq_eq_false_iff_ne.2 hh
            clear hl hh
            generalize txTo s lo hi k = T at *
            go_wp2_with fail
            go_round
            case rel => exact ⟨k + 1, by omega, by go_num, by rw [HS.out]⟩
            case measure => simp [intOf]; omega
      · have hk2 : k = s.size + 1 := by omega
        subst hk2
        go_wp2_with fail
        go_ret2
        exact ⟨rfl, HB.out⟩
  all_goals
    have e1 : txOk s lo hi = false := by simp [txOk, hp, hw, h0]
    have e2 : txV s lo hi = ⟨#[]⟩ := by rw [txV, e1]; rfl
    rw [e1, e2]
    clear e1 e2
    (try subst h0)
    go_enter Try.func67, Try.ntmps67
    go_wp2_with (first | (go_at_call 85; refine (paGood_any s _ hs).mono ?_; rintro e w' ⟨rfl, rfl⟩) | (go_at_call 104; refine (HW.out _).mono ?_; rintro e w' ⟨rfl, rfl⟩))
    go_ret2
    exact ⟨rfl, Below.refl _ _⟩
end Go.Proofs.Ytlgiamgjimffnaa
