/- RankOfPath. -/
import Derived.Test.YtdekjmbbogddgabPathRank
import Derived.Test.YtdekjmbbogddgabChoose
import Derived.Test.YtdekjmbbogddgabPathOk
import Derived.Lib.Bytealg
namespace Go.Proofs.Ytdekjmbbogddgab
open Go.RowKit
def countU (l : List UInt8) : Nat := l.count 85
theorem countU_cons (c : UInt8) (l : List UInt8) : countU (c :: l) = countU l + if c == 85 then 1 else 0 := by simp [countU, List.count_cons]
theorem countU_le (l : List UInt8) : countU l ≤ l.length := List.count_le_length
/-- how many paths come before -/
def rk : List UInt8 → Nat
  | [] => 0
  | c :: l => if c == 85 then chs l.length (countU l + 1) + rk l else rk l
theorem rk_le (l : List UInt8) (h : l.length ≤ 40) : rk l ≤ l.length * 1099511627776 := by
  induction l with
  | nil => simp [rk]
  | cons c l ih =>
    have h1 := ih (by simp at h; omega)
    have h2 := chs_small40 l.length (countU l + 1) (by simp at h; omega)
    unfold rk
    rw [List.length_cons, Nat.succ_mul]
    generalize l.length * 1099511627776 = p at *
    generalize 1099511627776 = M at *
    split <;> omega
theorem drop_cons (s : ByteArray) (k : Nat) (h : k < s.size) : s.data.toList.drop k = s[k] :: s.data.toList.drop (k + 1) := by
  rw [List.drop_eq_getElem_cons (by simpa using h)]; rfl
theorem drop_len (s : ByteArray) (k : Nat) : (s.data.toList.drop k).length = s.size - k := by simp
set_option maxRecDepth 100000 in
set_option maxHeartbeats 400000 in
theorem count_any (s : ByteArray) (w : World) :
    Calls Try.prog 58 #[.string s, .string ⟨#[85]⟩] w fun e w' => e = .returned (.int .i64 (countU s.data.toList)) ∧ w = w' := by
  go_enter Try.func58, Try.ntmps58
  go_wp2
  rw [run_callFunc_extern Try.func71 (by kernel_rfl) (by kernel_rfl) (by kernel_rfl) (e := Extern.BytealgCount.count) (by kernel_rfl), Lib.run_countString]
  simp only [Result.andThen]
  rw [Oper.upon_value]
  go_wp2
  go_ret
  exact ⟨rfl, rfl⟩
set_option maxHeartbeats 1000000 in
theorem rankOf_yes (s : ByteArray) (w : World) (hs : s.size ≤ maxLen) (hp : pathB s = true) : Calls Try.prog 30 #[.string s] w fun e w' => e = .returned (.tuple #[.int .i64 (rk s.data.toList), .bool true]) ∧ w = w' := by
  have h40 := ((pathB_iff s).1 hp).1
  have hcu := countU_le s.data.toList
  have hl : s.data.toList.length = s.size := by simp
  have hrl := rk_le s.data.toList (by omega)
  go_enter Try.func30, Try.ntmps30
  go_wp2_with (first | (go_at_call 47; refine (isPath_any s _ hs).mono ?_; rintro e w' ⟨rfl, rfl⟩) | (go_at_call 58; refine (count_any s _).mono ?_; rintro e w' ⟨rfl, rfl⟩))
  generalize hR : rk s.data.toList = R at *
  have HR := Lib.hid hR
  have HU : Hid (UpTo s s.size) := fun j hj _ => ((pathB_iff s).1 hp).2 j hj
  clear hR
  go_loop [4, 5, 6, 21] (fun a b c i => ∃ (k acc u d : Nat), k ≤ s.size ∧ i = .int .i64 (k : Int) ∧ a = .int .i64 (u : Int) ∧ b = .int .i64 (d : Int) ∧ c = .int .i64 (acc : Int) ∧ Hid (u = countU (s.data.toList.drop k)) ∧ Hid (k + u + d = s.size) ∧ Hid (acc + rk (s.data.toList.drop k) = R)) (fun _ _ _ i => s.size - (intOf i).toNat)
  case atStart => exact ⟨0, 0, countU s.data.toList, s.size - countU s.data.toList, by omega, rfl, rfl, by go_num, rfl, Lib.hid rfl, Lib.hid (by omega), Lib.hid (by simpa using HR.out)⟩
  case round =>
    obtain ⟨k, acc, u, d, hk, rfl, rfl, rfl, rfl, HU1, HD1, HA⟩ := hrel
    by_cases hlt : k < s.size
    · have HD := Lib.hid (drop_cons s k hlt)
      have hu := Lib.hid (HU.out k hlt hlt)
      have hud : u + d + k ≤ s.size := by have := HD1.out; omega
      have hud2 : s.size ≤ u + d + k := by have := HD1.out; omega
      have hacc : acc ≤ R := by have := HA.out; omega
      by_cases hc : (s[k] == 85) = true
      · have HCU : Hid (u = countU (s.data.toList.drop (k + 1)) + 1) := by
          have := HU1.out
          rw [HD.out, countU_cons, hc] at this
          exact this
        have hu1 : 1 ≤ u := by have := HCU.out; omega
        have HRK : Hid (acc + chs (s.size - (k + 1)) u + rk (s.data.toList.drop (k + 1)) = R) := by
          have := HA.out
          rw [HD.out, rk, if_pos hc, drop_len] at this
          unfold Hid
          rw [HCU.out, ← this]
          omega
        have HG : Hid (cntV (u : Int) ((d : Int) - 1) = (chs (s.size - (k + 1)) u : Nat)) := by
          unfold Hid
          rw [cnt_downs (s.size - (k + 1)) u d (by omega) (by omega)]
          unfold downs
          by_cases h0 : d = 0
          · rw [if_pos h0, chs_lt _ _ (by omega)]
          · rw [if_neg h0]
        have hcs := chs_small40 (s.size - (k + 1)) u (by omega)
        have hb68 : ((s[k].toNat : Int) == 68) = false := by
          have h85 : s[k].toNat = 85 := by simpa [← UInt8.toNat_inj] using hc
          have : (s[k].toNat : Int) = 85 := by omega
          rw [this]; rfl
        clear hc
        generalize chs (s.size - (k + 1)) u = q at *
        have hq : acc + q ≤ R := by have := HRK.out; omega
        go_wp2_with (go_at_call 34; refine (count_ret _ _ _).mono ?_; rintro e w' ⟨rfl, rfl⟩; rw [HG.out])
        go_round
        case rel => exact ⟨k + 1, acc + q, u - 1, d, by omega, by go_num, by go_num, rfl, by go_num, Lib.hid (by have := HCU.out; omega), Lib.hid (by omega), Lib.hid (by have := HRK.out; omega)⟩
        case measure => first | (simp [intOf]; done) | (simp [intOf]; omega)
      · have hc' : (s[k] == 85) = false := by simpa using hc
        have HCU : Hid (u = countU (s.data.toList.drop (k + 1))) := by
          have := HU1.out
          rw [HD.out, countU_cons, hc'] at this
          exact this
        have HRK : Hid (acc + rk (s.data.toList.drop (k + 1)) = R) := by
          have := HA.out
          rw [HD.out, rk, if_neg hc] at this
          exact this
        have hcl := countU_le (s.data.toList.drop (k + 1))
        rw [drop_len] at hcl
        have hd1 : 1 ≤ d := by have := HCU.out; omega
        have hb68 : ((s[k].toNat : Int) == 68) = true := by
          have h1 := hu.out
          rw [isUD_int] at h1
          have h2 : ((s[k].toNat : Int) == 85) = false := by
            rw [← hc']
            rw [Bool.eq_iff_iff]; simp [← UInt8.toNat_inj]; omega
          rw [h2] at h1
          simpa using h1
        clear hc hc' hcl
        go_wp2
        go_round
        case rel => exact ⟨k + 1, acc, u, d - 1, by omega, by go_num, rfl, by go_num, rfl, HCU, Lib.hid (by omega), HRK⟩
        case measure => first | (simp [intOf]; done) | (simp [intOf]; omega)
    · go_wp2
      obtain rfl : k = s.size := by omega
      go_ret2
      have := HA.out
      rw [List.drop_of_length_le (by omega)] at this
      have h2 := HR.out
      simp only [rk, Nat.add_zero] at this
      exact ⟨ret_ib (by omega) rfl, rfl⟩
end Go.Proofs.Ytdekjmbbogddgab
