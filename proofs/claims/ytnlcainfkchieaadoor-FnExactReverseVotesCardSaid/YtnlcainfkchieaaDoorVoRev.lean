/- ReverseVotes: both sides. -/
import Derived.Test.YtnlcainfkchieaaDoorVoI
import Derived.Test.YtnlcainfkchieaaDoorBack
namespace Go.Proofs.YtnlcainfkchieaaDoor
open Go.RowKit
set_option linter.unusedVariables false
def rvT (s : ByteArray) (k : Nat) : ByteArray := strOf (s.data.toList.reverse.take k)
theorem rvT_size (s : ByteArray) (k : Nat) : (rvT s k).size ≤ k := by unfold rvT; rw [strOf_size, List.length_take]; omega
theorem ext_one (s : ByteArray) (i : Nat) (h : i < s.size) : s.extract i (i + 1) = ⟨#[s[i]]⟩ := by
  apply ByteArray.ext
  apply Array.ext'
  simp [ByteArray.data_extract]
  rw [List.take_succ_eq_append_getElem (by simp; omega)]
  simp
  first | rfl | (constructor <;> first | omega | rfl | simp <;> omega)
theorem rvT_step (s : ByteArray) (i : Nat) (h : i < s.size) : rvT s (s.size - 1 - i) ++ s.extract i (i + 1) = rvT s (s.size - i) := by
  rw [ext_one s i h]
  unfold rvT
  have hl : s.data.toList.length = s.size := by simp
  rw [show s.size - i = (s.size - 1 - i) + 1 by omega, List.take_succ_eq_append_getElem (by simp; omega)]
  apply ByteArray.ext
  simp [strOf, ByteArray.data_append]
  show s.data[i] = _
  congr 1
  omega
def revV (s : ByteArray) : ByteArray := if votB s = true then strOf s.data.toList.reverse else ⟨#[]⟩
set_option maxRecDepth 100000 in
set_option maxHeartbeats 800000 in
theorem specReverse_ret (s : ByteArray) (w : World) (hs : s.size ≤ maxLen) : Calls Tryd.prog 45 #[.string s] w (Ret w (.tuple #[.string (revV s), .bool (votB s)])) := by
  unfold revV
  rcases Bool.eq_false_or_eq_true (votB s) with hv | hv
  · rw [hv, if_pos rfl]
    have h16 := ((votB_iff s).1 hv).1
    have HG : Hid (∀ w, Calls Tryd.prog 47 #[.string s] w fun e w' => e = .returned (.bool true) ∧ w = w') := Lib.hid fun w => by have := voGood_any s w hs; rwa [hv] at this
    have HR : Hid (strOf s.data.toList.reverse = rvT s s.size) := Lib.hid (by unfold rvT; rw [List.take_of_length_le (by simp)])
    rw [HR.out]
    clear hv HR
    have H0 : Hid (rvT s 0 = ⟨#[]⟩) := Lib.hid rfl
    have HS := Lib.hid (rvT_step s)
    have HZ := Lib.hid (rvT_size s)
    generalize rvT s = T at *
    go_enter Tryd.func45, Tryd.ntmps45
    go_wp2_with (go_at_call 47; refine (HG.out _).mono ?_; rintro e w' ⟨rfl, rfl⟩)
    go_loop [4, 5] (fun t i => ∃ k : Nat, k ≤ s.size ∧ i = .int .i64 ((k : Int) - 1) ∧ t = .string (T (s.size - k))) (fun _ i => (intOf i + 1).toNat)
    case atStart => exact ⟨s.size, Nat.le_refl _, by go_num, by rw [Nat.sub_self, H0.out]⟩
    case round =>
      obtain ⟨k, hk, rfl, rfl⟩ := hrel
      cases k with
      | zero =>
        go_wp2
        go_ret2
        exact ⟨rfl, Below.refl _ _⟩
      | succ i =>
        have HS1 := Lib.hid (HS.out i (by omega))
        have hz := HZ.out (s.size - 1 - i)
        have he : s.size - (i + 1) = s.size - 1 - i := by omega
        rw [he]
        have e2 : ((i + 1 : Nat) : Int) - 1 = (i : Int) := by omega
        rw [e2]
        clear HS HZ H0 he e2
        generalize T (s.size - 1 - i) = T0 at *
        have hlt : i < s.size := by omega
        clear hk
        go_wp2
        go_round
        case rel => exact ⟨i, by omega, by go_num, by rw [HS1.out]⟩
        case measure => first | (simp [intOf]; done) | (simp [intOf]; omega)
  · rw [hv]
    have HG : Hid (∀ w, Calls Tryd.prog 47 #[.string s] w fun e w' => e = .returned (.bool false) ∧ w = w') := Lib.hid fun w => by have := voGood_any s w hs; rwa [hv] at this
    clear hv
    go_enter Tryd.func45, Tryd.ntmps45
    go_wp2_with (go_at_call 47; refine (HG.out _).mono ?_; rintro e w' ⟨rfl, rfl⟩)
    go_ret2
    exact ⟨rfl, Below.refl _ _⟩
theorem reverseV_ret (s : ByteArray) (w : World) (hs : s.size ≤ maxLen) : Calls Tryd.prog 46 #[.string s] w (Ret w (.tuple #[.string (revV s), .bool (votB s)])) := by
  have HA : Hid (∀ w, Calls Tryd.prog 15 #[.string s] w (Ret w (.bool (votB s)))) := Lib.hid fun w => areVotes_any s w hs
  unfold revV
  rcases Bool.eq_false_or_eq_true (votB s) with hv | hv
  · rw [hv, if_pos rfl]
    have h16 := ((votB_iff s).1 hv).1
    rw [hv] at HA
    have hby := run_bytes s
    go_enter Tryd.func46, Tryd.ntmps46
    go_wp2_with (go_at_call 15; refine (HA.out _).mono ?_; rintro e w1 ⟨rfl, hb1⟩)
    clear hby
    have hr2 := BRow.of_bs w1 s
    have hb2 := bsWorld_below w1 s
    generalize bsWorld w1 s = w2 at *
    generalize bsCap w1 s = c2 at *
    have hl : s.data.toList.length = s.size := by simp
    have hrev := reverse_any s.data.toList w1.heap.size w1.heap.size c2 w2 hr2 (by omega)
    rw [hl] at hrev
    refine hrev.mono ?_
    rintro e w3 ⟨rfl, hr3, hb3⟩
    have hcv := run_str_cells w3 w1.heap.size s.size c2 s.data.toList.reverse (by simp) hr3.cell
    go_wp2
    go_ret2
    exact ⟨rfl, (hb1.trans (hb2.mono hb1.size)).trans (hb3.mono hb1.size)⟩
  · rw [hv] at HA
    rw [hv]
    clear hv
    go_enter Tryd.func46, Tryd.ntmps46
    go_wp2_with (go_at_call 15; refine (HA.out _).mono ?_; rintro e w1 ⟨rfl, hb1⟩)
    go_ret2
    exact ⟨rfl, hb1⟩
end Go.Proofs.YtnlcainfkchieaaDoor
