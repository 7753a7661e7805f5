/- The program: AreVotes, candidateOf. -/
import Derived.Test.YtnlcainfkchieaaDoorVoS
import Derived.Test.YtnlcainfkchieaaDoorTrmD
namespace Go.Proofs.YtnlcainfkchieaaDoor
open Go.RowKit
set_option linter.unusedVariables false
def abcd : List UInt8 := [97, 98, 99, 100]
theorem abcd_in (c : UInt8) : abcd.contains c = isV c := by
  unfold isV abcd
  rw [Bool.eq_iff_iff]
  simp [← UInt8.toNat_inj]
  omega
theorem drop_all {p : UInt8 → Bool} : ∀ (l : List UInt8), l.dropWhile p = [] ↔ l.all p = true
  | [] => by simp
  | c :: l => by
    rw [List.dropWhile_cons, List.all_cons]
    by_cases h : p c = true
    · rw [if_pos h, h, Bool.true_and]; exact drop_all l
    · rw [if_neg h]; simp [h]
theorem trim_all (l : List UInt8) : (Lib.trimS l abcd = []) ↔ l.all isV = true := by
  have e : (fun c => abcd.contains c) = isV := funext abcd_in
  unfold Lib.trimS Lib.trimLeftS Lib.trimRightS
  rw [e, drop_all]
  constructor
  · intro h
    rw [List.all_reverse] at h
    have h2 : l.reverse.dropWhile isV = [] := by
      cases hd : l.reverse.dropWhile isV with
      | nil => rfl
      | cons x r =>
        have := List.head_dropWhile_not isV (l := l.reverse) (by rw [hd]; simp)
        rw [hd] at h
        simp only [hd] at this
        simp at this h
        rw [h.1] at this
        cases this
    have := (drop_all _).1 h2
    rwa [List.all_reverse] at this
  · intro h
    have h2 : l.reverse.dropWhile isV = [] := (drop_all _).2 (by rw [List.all_reverse]; exact h)
    rw [h2]
    rfl
theorem trim_any (s : ByteArray) (w : World) (hs : s.size ≤ 16) : Calls Tryd.prog 48 #[.string s, .string ⟨#[97, 98, 99, 100]⟩] w fun e w' => ∃ t : ByteArray, e = .returned (.string t) ∧ t.toList.isEmpty = votB s ∧ Below w.heap.size w w' := by
  refine (Any.strings_Trim_laid Tryd.lays160 (by kernel_rfl) s ⟨#[97, 98, 99, 100]⟩ w (by omega) (by decide) (ascii_of_all (by decide))).mono ?_
  rintro e w' ⟨he, hb⟩
  refine ⟨_, he, ?_, hb⟩
  have h := trim_all s.data.toList
  unfold votB
  rw [decide_eq_true hs, Bool.true_and, Bool.eq_iff_iff, ← h, Lib.toList_data]
  show (Lib.trimS s.data.toList abcd).toArray.toList.isEmpty = true ↔ _
  rw [List.isEmpty_iff]
set_option maxHeartbeats 400000 in
theorem areVotes_any (s : ByteArray) (w : World) (hs : s.size ≤ maxLen) : Calls Tryd.prog 15 #[.string s] w (Ret w (.bool (votB s))) := by
  unfold maxLen at hs
  by_cases h16 : s.size ≤ 16
  · have HT := Lib.hid (trim_any s · h16)
    have h17 : ¬ 16 < s.size := by omega
    go_enter Tryd.func15, Tryd.ntmps15
    go_wp2_with (go_at_call 48; refine (HT.out _).mono ?_; rintro e w1 ⟨t, rfl, ht, hb⟩; have HE := Lib.hid ht; clear ht)
    go_ret
    exact ⟨ret_bool HE.out, hb⟩
  · rw [votB_long h16]
    go_enter Tryd.func15, Tryd.ntmps15
    go_wp2
    go_ret
    exact ⟨rfl, Below.refl _ _⟩
theorem idx_at (c : UInt8) (h : isV c = true) : Lib.indexByte [97, 98, 99, 100] c = ((c.toNat - 97 : Nat) : Int) := by
  have h1 := (isV_iff c).1 h
  have : c.toNat = 97 ∨ c.toNat = 98 ∨ c.toNat = 99 ∨ c.toNat = 100 := by omega
  rcases this with e | e | e | e
  · obtain rfl : c = 97 := UInt8.toNat_inj.1 e; rfl
  · obtain rfl : c = 98 := UInt8.toNat_inj.1 e; rfl
  · obtain rfl : c = 99 := UInt8.toNat_inj.1 e; rfl
  · obtain rfl : c = 100 := UInt8.toNat_inj.1 e; rfl
theorem candOf_any (s : ByteArray) (k : Nat) (w : World) (hv : votB s = true) (h : k < s.size) : Calls Tryd.prog 50 #[.int .u8 (s[k].toNat : Int)] w fun e w' => e = .returned (.int .i64 ((cd s k : Nat) : Int)) ∧ w = w' := by
  have H : Hid (∀ w, Calls Tryd.prog 77 #[.string ⟨#[97, 98, 99, 100]⟩, .int .u8 (s[k].toNat : Int)] w fun e w' => e = .returned (.int .i64 ((cd s k : Nat) : Int)) ∧ w = w') := Lib.hid fun w => by
    refine (Any.strings_IndexByte Tryd.lays137 ⟨#[97, 98, 99, 100]⟩ (s[k].toNat : Int) w).mono ?_
    rintro e w' ⟨he, rfl⟩
    refine ⟨?_, rfl⟩
    have h1 := ((votB_iff s).1 hv).2 k h
    have h2 : ((s[k].toNat : Int).toNat).toUInt8 = s[k] := by simp
    rw [he, h2]
    unfold cd
    rw [getD_byte s k h, ← idx_at _ h1]
  generalize ((cd s k : Nat) : Int) = c at *
  generalize (s[k].toNat : Int) = b at *
  go_enter Tryd.func50, Tryd.ntmps50
  go_wp2_with (go_at_call 77; refine (H.out _).mono ?_; rintro e w' ⟨rfl, rfl⟩)
  go_ret
  exact ⟨rfl, rfl⟩
end Go.Proofs.YtnlcainfkchieaaDoor
