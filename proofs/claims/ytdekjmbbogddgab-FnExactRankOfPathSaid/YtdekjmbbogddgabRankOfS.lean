/- spec.RankOfPath; both in one form. -/
import Derived.Test.YtdekjmbbogddgabRankOf
namespace Go.Proofs.Ytdekjmbbogddgab
open Go.RowKit
/-- how many of the first k bytes are U -/
theorem countU_take (s : ByteArray) (k : Nat) (h : k < s.size) : countU (s.data.toList.take (k + 1)) = countU (s.data.toList.take k) + if s[k] == 85 then 1 else 0 := by
  rw [take_snoc s k h]; simp [countU, List.count_singleton]
theorem eq85 (c : UInt8) : (c == 85) = ((c.toNat : Int) == 85) := by
  rw [Bool.eq_iff_iff]; simp [← UInt8.toNat_inj]; omega
set_option maxHeartbeats 400000 in
theorem paCount_any (s : ByteArray) (w : World) (h40 : s.size ≤ 40) : Calls Try.prog 56 #[.string s, .int .u8 85] w fun e w' => e = .returned (.int .i64 (countU s.data.toList)) ∧ w = w' := by
  go_enter Try.func56, Try.ntmps56
  go_wp2
  go_loop [5, 6] (fun c i => ∃ k : Nat, k ≤ s.size ∧ i = .int .i64 (k : Int) ∧ c = .int .i64 (countU (s.data.toList.take k) : Nat)) (fun _ i => s.size - (intOf i).toNat)
  case atStart => exact ⟨0, by omega, rfl, rfl⟩
  case round =>
    obtain ⟨k, hk, rfl, rfl⟩ := hrel
    have hcl := countU_le (s.data.toList.take k)
    have hcl2 : countU (s.data.toList.take k) ≤ 40 := by have : (s.data.toList.take k).length ≤ k := List.length_take_le _ _; omega
    clear hcl
    by_cases hlt : k < s.size
    · have HC := Lib.hid (countU_take s k hlt)
      rw [eq85] at HC
      go_wp2
      · have h1 : ((s[k].toNat : Int) == 85) = true := by assumption
        go_round
        case rel => exact ⟨k + 1, by omega, by go_num, by rw [HC.out, h1, if_pos rfl]; go_num⟩
        case measure => first | (simp [intOf]; done) | (simp [intOf]; omega)
      · have h1 : ((s[k].toNat : Int) == 85) = false := by assumption
        go_round
        case rel => exact ⟨k + 1, by omega, by go_num, by rw [HC.out, h1]; rfl⟩
        case measure => first | (simp [intOf]; done) | (simp [intOf]; omega)
    · have HK : Hid (countU (s.data.toList.take k) = countU s.data.toList) := by unfold Hid; rw [List.take_of_length_le (by simp; omega)]
      go_wp2
      go_ret
      exact ⟨ret_int (by rw [HK.out]), rfl⟩
set_option maxHeartbeats 1000000 in
theorem specRankOf_yes (s : ByteArray) (w : World) (hs : s.size ≤ maxLen) (hp : pathB s = true) : Calls Try.prog 29 #[.string s] w (Ret w (.tuple #[.int .i64 (rk s.data.toList), .bool true])) := by
  have h40 := ((pathB_iff s).1 hp).1
  have hcu := countU_le s.data.toList
  have hl : s.data.toList.length = s.size := by simp
  have hrl := rk_le s.data.toList (by omega)
  go_enter Try.func29, Try.ntmps29
  go_wp2_with (first | (go_at_call 43; refine (paGood_any s _ hs).mono ?_; rintro e w' ⟨rfl, rfl⟩) | (go_at_call 56; refine (paCount_any s _ h40).mono ?_; rintro e w' ⟨rfl, rfl⟩))
  generalize hR : rk s.data.toList = R at *
  have HR := Lib.hid hR
  have HU : Hid (UpTo s s.size) := fun j hj _ => ((pathB_iff s).1 hp).2 j hj
  clear hR
  go_loopw [4, 5, 6] (fun a c i wr => ∃ (k acc u : Nat), k ≤ s.size ∧ i = .int .i64 (k : Int) ∧ a = .int .i64 (u : Int) ∧ c = .int .i64 (acc : Int) ∧ Hid (u = countU (s.data.toList.drop k)) ∧ Hid (acc + rk (s.data.toList.drop k) = R) ∧ Below w.heap.size w wr) (fun _ _ i _ => s.size - (intOf i).toNat)
  case atStart => exact ⟨0, 0, countU s.data.toList, by omega, rfl, rfl, rfl, Lib.hid rfl, Lib.hid (by simpa using HR.out), Below.refl _ _⟩
  case round =>
    obtain ⟨k, acc, u, hk, rfl, rfl, rfl, HU1, HA, hb⟩ := hrel
    have hsz := hb.size
    by_cases hlt : k < s.size
    · have HD := Lib.hid (drop_cons s k hlt)
      have hu := Lib.hid (HU.out k hlt hlt)
      have hul : u ≤ s.size - k := by have := HU1.out; have h2 := countU_le (s.data.toList.drop k); rw [drop_len] at h2; omega
      have hacc : acc ≤ R := by have := HA.out; omega
      by_cases hc : (s[k] == 85) = true
      · have HCU : Hid (u = countU (s.data.toList.drop (k + 1)) + 1) := by
          have := HU1.out
          rw [HD.out, countU_cons, hc] at this
          exact this
        have hu1 : 1 ≤ u := by have := HCU.out; omega
        have HRK : Hid (acc + chs (s.size - (k + 1)) u + rk (s.data.toList.drop (k + 1)) = R) := by
          have := HA.out
          rw [HD.out, rk, if_pos hc, drop_len] at this
          unfold Hid
          rw [HCU.out, ← this]
          omega
        have HG : Hid (chZ ((s.size : Int) - k - 1) (u : Int) = (chs (s.size - (k + 1)) u : Nat)) := by
          unfold Hid
          rw [show (s.size : Int) - k - 1 = ((s.size - (k + 1) : Nat) : Int) by omega]
          exact chZ_nat _ _
        have hcs := chs_small40 (s.size - (k + 1)) u (by omega)
        have hb68 : ((s[k].toNat : Int) == 68) = false := by
          have h85 : s[k].toNat = 85 := by simpa [← UInt8.toNat_inj] using hc
          have : (s[k].toNat : Int) = 85 := by omega
          rw [this]; rfl
        clear hc
        generalize chs (s.size - (k + 1)) u = q at *
        have hq : acc + q ≤ R := by have := HRK.out; omega
        go_wp2_with (go_at_call 57; refine (choose_ret _ _ _ (by omega)).mono ?_; rintro e w' ⟨rfl, hb'⟩; rw [HG.out])
        go_roundw
        case rel => exact ⟨k + 1, acc + q, u - 1, by omega, by go_num, by go_num, by go_num, Lib.hid (by have := HCU.out; omega), Lib.hid (by have := HRK.out; omega), hb.trans (hb'.mono hsz)⟩
        case measure => first | (simp [intOf]; done) | (simp [intOf]; omega)
      · have hc' : (s[k] == 85) = false := by simpa using hc
        have HCU : Hid (u = countU (s.data.toList.drop (k + 1))) := by
          have := HU1.out
          rw [HD.out, countU_cons, hc'] at this
          exact this
        have HRK : Hid (acc + rk (s.data.toList.drop (k + 1)) = R) := by
          have := HA.out
          rw [HD.out, rk, if_neg hc] at this
          exact this
        have hb68 : ((s[k].toNat : Int) == 68) = true := by
          have h1 := hu.out
          rw [isUD_int] at h1
          rw [eq85] at hc'
          rw [hc'] at h1
          simpa using h1
        clear hc hc'
        go_wp2
        go_roundw
        case rel => exact ⟨k + 1, acc, u, by omega, by go_num, rfl, rfl, HCU, HRK, hb⟩
        case measure => first | (simp [intOf]; done) | (simp [intOf]; omega)
    · have HK : Hid (k = s.size) := by unfold Hid; omega
      go_wp2
      go_ret2
      have := HA.out
      rw [List.drop_of_length_le (by have := HK.out; omega)] at this
      have h2 := HR.out
      simp only [rk, Nat.add_zero] at this
      exact ⟨ret_ib (by omega) rfl, hb⟩
def rkV (s : ByteArray) : Int := if pathB s then (rk s.data.toList : Nat) else 0
set_option maxHeartbeats 400000 in
theorem rankOf_ret (s : ByteArray) (w : World) (hs : s.size ≤ maxLen) : Calls Try.prog 30 #[.string s] w (Ret w (.tuple #[.int .i64 (rkV s), .bool (pathB s)])) := by
  unfold rkV
  rcases Bool.eq_false_or_eq_true (pathB s) with hp | hp
  · rw [hp, if_pos rfl]; exact (rankOf_yes s w hs hp).mono fun _ _ ⟨h1, h2⟩ => ⟨h1, h2 ▸ Below.refl _ _⟩
  · rw [hp]
    go_enter Try.func30, Try.ntmps30
    go_wp2_with (go_at_call 47; refine (isPath_any s _ hs).mono ?_; rintro e w' ⟨rfl, rfl⟩)
    go_ret2
    exact ⟨rfl, Below.refl _ _⟩
set_option maxHeartbeats 400000 in
theorem specRankOf_ret (s : ByteArray) (w : World) (hs : s.size ≤ maxLen) : Calls Try.prog 29 #[.string s] w (Ret w (.tuple #[.int .i64 (rkV s), .bool (pathB s)])) := by
  unfold rkV
  rcases Bool.eq_false_or_eq_true (pathB s) with hp | hp
  · rw [hp, if_pos rfl]; exact specRankOf_yes s w hs hp
  · rw [hp]
    go_enter Try.func29, Try.ntmps29
    go_wp2_with (go_at_call 43; refine (paGood_any s _ hs).mono ?_; rintro e w' ⟨rfl, rfl⟩)
    go_ret2
    exact ⟨rfl, Below.refl _ _⟩
end Go.Proofs.Ytdekjmbbogddgab
