/- Pack 10 of what FnPathsReflected needs: TxtS, CompMath. -/
import Derived.Test.YtachijliaedndaaKFnPathsReflected9
/- The model's TouchText. -/
namespace Go.Proofs.Ytachijliaedndaa
open Go.RowKit
set_option linter.unusedVariables false
/-- one sign more, unless the last one is this -/
def addS (T : ByteArray) (b : UInt8) : ByteArray := if T.toList = [] ∨ ¬ (T.extract (T.size - 1) T.size).toList = [b] then T ++ ⟨#[b]⟩ else T
theorem size_pos_of {T : ByteArray} (h : ¬ T.toList = []) : 1 ≤ T.size := by
  rcases Nat.eq_zero_or_pos T.size with e | e
  · exfalso
    apply h
    have : T = ⟨#[]⟩ := ByteArray.ext (Array.eq_empty_of_size_eq_zero e)
    subst this
    unfold ByteArray.toList
    unfold ByteArray.toList.loop
    rw [if_neg (by rw [e]; omega)]
    rfl
  · exact e
def txTo (s : ByteArray) (lo hi : Int) : Nat → ByteArray
  | 0 => ⟨#[]⟩
  | k + 1 => if hAt s k = lo then addS (txTo s lo hi k) 108 else if hAt s k = hi then addS (txTo s lo hi k) 104 else txTo s lo hi k
theorem addS_size (T : ByteArray) (b : UInt8) : (addS T b).size ≤ T.size + 1 := by
  unfold addS
  split
  · rw [ByteArray.size_append]; exact Nat.le_refl _
  · omega
theorem txTo_size (s : ByteArray) (lo hi : Int) : ∀ k, (txTo s lo hi k).size ≤ k
  | 0 => by simp [txTo]; rfl
  | k + 1 => by
    have h := txTo_size s lo hi k
    rw [txTo]
    split
    · have := addS_size (txTo s lo hi k) 108; omega
    · split
      · have := addS_size (txTo s lo hi k) 104; omega
      · omega
def txOk (s : ByteArray) (lo hi : Int) : Bool := pathB s && walB lo hi && decide (lo ≠ hi)
def txV (s : ByteArray) (lo hi : Int) : ByteArray := if txOk s lo hi = true then txTo s lo hi (s.size + 1) else ⟨#[]⟩
set_option maxHeartbeats 1600000 in
theorem specTouchText_ret (s : ByteArray) (lo hi : Int) (w : World) (hs : s.size ≤ maxLen) : Calls Try.prog 29 #[.string s, .int .i64 lo, .int .i64 hi] w (Ret w (.tuple #[.string (txV s lo hi), .bool (txOk s lo hi)])) := by
  have HW := Lib.hid (miWalls_any lo hi)
  rcases Bool.eq_false_or_eq_true (pathB s) with hp | hp <;> rcases Bool.eq_false_or_eq_true (walB lo hi) with hw | hw <;> by_cases h0 : lo = hi
  rotate_left
  · have e1 : txOk s lo hi = true := by simp [txOk, hp, hw, h0]
    have e2 : txV s lo hi = txTo s lo hi (s.size + 1) := by rw [txV, if_pos e1]
    have HP := Lib.hid hp
    have h40 := ((pathB_iff s).1 hp).1
    rw [e1, e2]
    clear e1 e2
    go_enter Try.func29, Try.ntmps29
    go_wp2_with (first | (go_at_call 143; refine (paGood_any s _ hs).mono ?_; rintro e w' ⟨rfl, rfl⟩) | (go_at_call 162; refine (HW.out _).mono ?_; rintro e w' ⟨rfl, rfl⟩) | (go_at_call 150; refine (paHeights_any s _ HP.out).mono ?_; rintro e w1 ⟨v, rfl, hr, hb⟩; obtain ⟨g, c, rfl, hgB, hgl⟩ := hr.form' (hts_length s) (by omega)))
    have HB := Lib.hid hb
    clear hb
    go_loop [8, 11, 29] (fun t g i => ∃ (k : Nat), k ≤ s.size + 1 ∧ i = .int .i64 (k : Int) ∧ t = .string (txTo s lo hi k)) (fun _ _ i => s.size + 1 - (intOf i).toNat)
    case atStart => exact ⟨0, Nat.zero_le _, rfl, rfl⟩
    case round =>
      obtain ⟨k, hk, rfl, rfl⟩ := hrel
      by_cases hlt : k < s.size + 1
      · have hc := hts_at hr k (by omega)
        have hsz := txTo_size s lo hi k
        by_cases hl : hAt s k = lo
        · have HS : Hid (txTo s lo hi (k + 1) = addS (txTo s lo hi k) 108) := Lib.hid (by rw [txTo, if_pos hl])
          have q1 : (hAt s k == lo) = true := by simpa using hl
          clear hl
          generalize txTo s lo hi k = T at *
          by_cases hT : T.toList = []
          · have HA : Hid (addS T 108 = T ++ ⟨#[108]⟩) := Lib.hid (by rw [addS, if_pos (.inl hT)])
            go_wp2_with fail
            go_round
            case rel => exact ⟨k + 1, by omega, by go_num, by rw [HS.out, HA.out]⟩
            case measure => simp [intOf]; omega
          · have hp1 := size_pos_of hT
            have hE : T.toList.isEmpty = false := by simpa using hT
            by_cases hX : (T.extract (T.size - 1) T.size).toList = [108]
            · have HA : Hid (addS T 108 = T) := Lib.hid (by rw [addS, if_neg (by simp [hT, hX])])
              have hB : (!(T.extract (T.size - 1) T.size).toList == [108]) = false := by simp [hX]
              go_wp2_with fail
              go_round
              case rel => exact ⟨k + 1, by omega, by go_num, by rw [HS.out, HA.out]⟩
              case measure => simp [intOf]; omega
            · have HA : Hid (addS T 108 = T ++ ⟨#[108]⟩) := Lib.hid (by rw [addS, if_pos (.inr hX)])
              have hB : (!(T.extract (T.size - 1) T.size).toList == [108]) = true := by simp [hX]
              go_wp2_with fail
              go_round
              case rel => exact ⟨k + 1, by omega, by go_num, by rw [HS.out, HA.out]⟩
              case measure => simp [intOf]; omega
        · have q1 : (hAt s k == lo) = false := beq_eq_false_iff_ne.2 hl
          by_cases hh : hAt s k = hi
          · have HS : Hid (txTo s lo hi (k + 1) = addS (txTo s lo hi k) 104) := Lib.hid (by rw [txTo, if_neg hl, if_pos hh])
            have q2 : (hAt s k == hi) = true := by simpa using hh
            clear hl hh
            generalize txTo s lo hi k = T at *
            by_cases hT : T.toList = []
            · have HA : Hid (addS T 104 = T ++ ⟨#[104]⟩) := Lib.hid (by rw [addS, if_pos (.inl hT)])
              go_wp2_with fail
              go_round
              case rel => exact ⟨k + 1, by omega, by go_num, by rw [HS.out, HA.out]⟩
              case measure => simp [intOf]; omega
            · have hp1 := size_pos_of hT
              have hE : T.toList.isEmpty = false := by simpa using hT
              by_cases hX : (T.extract (T.size - 1) T.size).toList = [104]
              · have HA : Hid (addS T 104 = T) := Lib.hid (by rw [addS, if_neg (by simp [hT, hX])])
                have hB : (!(T.extract (T.size - 1) T.size).toList == [104]) = false := by simp [hX]
                go_wp2_with fail
                go_round
                case rel => exact ⟨k + 1, by omega, by go_num, by rw [HS.out, HA.out]⟩
                case measure => simp [intOf]; omega
              · have HA : Hid (addS T 104 = T ++ ⟨#[104]⟩) := Lib.hid (by rw [addS, if_pos (.inr hX)])
                have hB : (!(T.extract (T.size - 1) T.size).toList == [104]) = true := by simp [hX]
                go_wp2_with fail
                go_round
                case rel => exact ⟨k + 1, by omega, by go_num, by rw [HS.out, HA.out]⟩
                case measure => simp [intOf]; omega
          · have HS : Hid (txTo s lo hi (k + 1) = txTo s lo hi k) := Lib.hid (by rw [txTo, if_neg hl, if_neg hh])
            have q2 : (hAt s k == hi) = false := beq_eq_false_iff_ne.2 hh
            clear hl hh
            generalize txTo s lo hi k = T at *
            go_wp2_with fail
            go_round
            case rel => exact ⟨k + 1, by omega, by go_num, by rw [HS.out]⟩
            case measure => simp [intOf]; omega
      · have hk2 : k = s.size + 1 := by omega
        subst hk2
        go_wp2_with fail
        go_ret2
        exact ⟨rfl, HB.out⟩
  all_goals
    have e1 : txOk s lo hi = false := by simp [txOk, hp, hw, h0]
    have e2 : txV s lo hi = ⟨#[]⟩ := by rw [txV, e1]; rfl
    rw [e1, e2]
    clear e1 e2
    (try subst h0)
    go_enter Try.func29, Try.ntmps29
    go_wp2_with (first | (go_at_call 143; refine (paGood_any s _ hs).mono ?_; rintro e w' ⟨rfl, rfl⟩) | (go_at_call 162; refine (HW.out _).mono ?_; rintro e w' ⟨rfl, rfl⟩))
    go_ret2
    exact ⟨rfl, Below.refl _ _⟩
end Go.Proofs.Ytachijliaedndaa

/- Equal neighbours once: lists of bytes. -/
namespace Go.Proofs.Ytachijliaedndaa
open Go.RowKit
set_option linter.unusedVariables false
def cAdd (T : List UInt8) (b : UInt8) : List UInt8 := if T.getLast? = some b then T else T ++ [b]
def cmpL (L : List UInt8) : List UInt8 := L.foldl cAdd []
theorem cmpL_snoc (L : List UInt8) (b : UInt8) : cmpL (L ++ [b]) = cAdd (cmpL L) b := by unfold cmpL; rw [List.foldl_append]; rfl
theorem cAdd_last (T : List UInt8) (b : UInt8) : (cAdd T b).getLast? = some b := by
  unfold cAdd
  split
  · assumption
  · simp
theorem cfold_last : ∀ (L T : List UInt8), (L.foldl cAdd T).getLast? = (T ++ L).getLast?
  | [], T => by simp
  | b :: L, T => by
    rw [List.foldl_cons, cfold_last L (cAdd T b)]
    cases L with
    | nil => rw [List.append_nil, cAdd_last]; simp
    | cons c L => rw [List.getLast?_append, List.getLast?_append, List.getLast?_cons_cons, List.getLast?_cons]; rfl
theorem cmpL_last (L : List UInt8) : (cmpL L).getLast? = L.getLast? := by unfold cmpL; rw [cfold_last]; simp
theorem cmpL_take {xs : List UInt8} {m : Nat} (h0 : 1 ≤ m) (hm : m < xs.length) : cmpL (xs.take (m + 1)) = if xs[m] = xs[m - 1] then cmpL (xs.take m) else cmpL (xs.take m) ++ [xs[m]] := by
  rw [List.take_succ_eq_append_getElem hm, cmpL_snoc]
  unfold cAdd
  have h2 : (xs.take m).getLast? = some xs[m - 1] := by
    rw [List.getLast?_eq_getElem?, List.length_take, show min m xs.length - 1 = m - 1 by omega, List.getElem?_take, if_pos (by omega), List.getElem?_eq_getElem (by omega)]
  rw [cmpL_last, h2]
  by_cases e : xs[m] = xs[m - 1]
  · rw [if_pos e, if_pos (by rw [e])]
  · rw [if_neg e, if_neg (fun h => e (by injection h with h; exact h.symm))]
theorem cmpL_one (xs : List UInt8) (h : 1 ≤ xs.length) : cmpL (xs.take 1) = xs.take 1 := by
  cases xs with
  | nil => simp at h
  | cons x l => rfl
theorem cmpL_small (xs : List UInt8) (h : xs.length < 2) : cmpL xs = xs := by
  match xs, h with
  | [], _ => rfl
  | [x], _ => rfl
/-! ### the signs of a path -/
def sgL (s : ByteArray) (lo hi : Int) : Nat → List UInt8
  | 0 => []
  | k + 1 => if hAt s k = lo then sgL s lo hi k ++ [108] else if hAt s k = hi then sgL s lo hi k ++ [104] else sgL s lo hi k
theorem sgL_len (s : ByteArray) (lo hi : Int) : ∀ k, (sgL s lo hi k).length ≤ k
  | 0 => by simp [sgL]
  | k + 1 => by
    have := sgL_len s lo hi k
    rw [sgL]
    split
    · rw [List.length_append]; simp; omega
    · split
      · rw [List.length_append]; simp; omega
      · omega
theorem last_extract {T : List UInt8} {b : UInt8} (h : T ≠ []) : ((strOf T).extract ((strOf T).size - 1) (strOf T).size).toList = [b] ↔ T.getLast? = some b := by
  have hl : 1 ≤ T.length := by
    cases T with
    | nil => exact absurd rfl h
    | cons a l => simp
  rw [ByteArray.toList_eq, strOf_size, ByteArray.data_extract, Array.toList_extract]
  show (T.toArray.toList.extract (T.length - 1) T.length) = [b] ↔ _
  rw [List.toList_toArray, List.extract_eq_take_drop, show T.length - (T.length - 1) = 1 by omega, List.getLast?_eq_getElem?]
  rw [List.drop_eq_getElem_cons (show T.length - 1 < T.length by omega), List.getElem?_eq_getElem (show T.length - 1 < T.length by omega), List.take_succ_cons, List.take_zero]
  simp only [List.cons.injEq, and_true, Option.some.injEq]
theorem addS_str (T : List UInt8) (b : UInt8) : addS (strOf T) b = strOf (cAdd T b) := by
  have e : (strOf T ++ ⟨#[b]⟩ : ByteArray) = strOf (T ++ [b]) := by
    apply ByteArray.ext
    apply Array.toList_inj.1
    simp [strOf]
  have e0 : (strOf T).toList = T := by rw [ByteArray.toList_eq, strOf_list]
  unfold addS cAdd
  rw [e0]
  by_cases h : T = []
  · subst h
    rw [if_pos (.inl rfl), if_neg (by simp), e]
  · by_cases h2 : T.getLast? = some b
    · rw [if_pos h2, if_neg]
      rintro (h3 | h3)
      · exact h h3
      · exact h3 ((last_extract h).2 h2)
    · rw [if_neg h2, if_pos (.inr fun h3 => h2 ((last_extract h).1 h3)), e]
theorem tx_sg (s : ByteArray) (lo hi : Int) : ∀ k, txTo s lo hi k = strOf (cmpL (sgL s lo hi k))
  | 0 => rfl
  | k + 1 => by
    rw [txTo, sgL, tx_sg s lo hi k]
    split
    · rw [cmpL_snoc, addS_str]
    · split
      · rw [cmpL_snoc, addS_str]
      · rfl
end Go.Proofs.Ytachijliaedndaa
