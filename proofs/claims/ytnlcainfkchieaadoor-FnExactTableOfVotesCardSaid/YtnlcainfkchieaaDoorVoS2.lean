/- The model: winners, first overtaken. -/
import Derived.Test.YtnlcainfkchieaaDoorVoS
import Derived.Test.YtnlcainfkchieaaDoorSOwn
namespace Go.Proofs.YtnlcainfkchieaaDoor
open Go.RowKit
set_option linter.unusedVariables false
theorem abcd_at (k : Nat) (h : k < 4) : (⟨#[97, 98, 99, 100]⟩ : ByteArray).extract k (k + 1) = ⟨#[UInt8.ofNat (97 + k)]⟩ := by
  have : k = 0 ∨ k = 1 ∨ k = 2 ∨ k = 3 := by omega
  rcases this with e | e | e | e <;> subst e <;> rfl
theorem wi_yes {xs : List Int} {m : Int} {k : Nat} (h : (xs.getD k 0 == m) = true) : wiTo xs m (k + 1) = wiTo xs m k ++ ⟨#[UInt8.ofNat (97 + k)]⟩ := by rw [wiTo, if_pos (by simpa using h)]
theorem wi_no {xs : List Int} {m : Int} {k : Nat} (h : (xs.getD k 0 == m) = false) : wiTo xs m (k + 1) = wiTo xs m k := by rw [wiTo, if_neg (by simpa using h)]
set_option maxRecDepth 100000 in
set_option maxHeartbeats 1600000 in
theorem voWinners_any (v : Value) (xs : List Int) (w : World) (h : RInts w v xs) (h4 : xs.length = 4) : Calls Tryd.prog 51 #[v] w fun e w' => e = .returned (.string (wiV xs)) ∧ Below w.heap.size w w' := by
  obtain ⟨A0, cap, rfl⟩ := h.shape
  obtain ⟨g, o, cc, hv, hg, hcells⟩ := h.cells (by omega)
  have hA : A0 = some ⟨g, o, none⟩ := by injection hv
  subst hA
  clear hv h
  have HC := Lib.hid hcells
  have HM : Hid (∀ k, moTo xs (k + 1) = if moTo xs k < xs.getD k 0 then xs.getD k 0 else moTo xs k) := Lib.hid fun k => by rw [moTo]; split <;> omega
  have HW := Lib.hid (fun m k => wi_yes (xs := xs) (m := m) (k := k))
  have HN := Lib.hid (fun m k => wi_no (xs := xs) (m := m) (k := k))
  have HZ := Lib.hid (fun m k => wiTo_size xs m k)
  have HE : Hid (wiV xs = wiTo xs (moTo xs 4) 4) := Lib.hid rfl
  have HL := Lib.hid h4
  clear hcells
  rw [h4]
  go_enter Tryd.func51, Tryd.ntmps51
  go_wp2
  go_loop [3, 5, 11] (fun m q i => ∃ k : Nat, k ≤ 4 ∧ i = .int .i64 (k : Int) ∧ m = .int .i64 (moTo xs k)) (fun _ _ i => 4 - (intOf i).toNat)
  case atStart => exact ⟨0, by omega, rfl, rfl⟩
  case round =>
    obtain ⟨k, hk, rfl, rfl⟩ := hrel
    by_cases hlt : k < 4
    · have e1 := HC.out k (by have := HL.out; omega)
      have HM1 := Lib.hid (HM.out k)
      clear HM HW HN HZ HE
      generalize moTo xs k = m at *
      generalize xs.getD k 0 = x at *
      go_wp2_with (go_at_call 78; refine (most_any _ _ _).mono ?_; rintro e w' ⟨rfl, rfl⟩)
      go_round
      case rel => exact ⟨k + 1, by omega, by go_num, by rw [HM1.out]⟩
      case measure => first | (simp [intOf]; done) | (simp [intOf]; omega)
    · obtain rfl : k = 4 := by omega
      clear HM
      generalize moTo xs 4 = M at *
      have HE2 := Lib.hid HE.out
      clear HE
      go_wp2
      go_loop [6, 7, 8, 21] (fun t q r i => ∃ k : Nat, k ≤ 4 ∧ i = .int .i64 (k : Int) ∧ t = .string (wiTo xs M k)) (fun _ _ _ i => 4 - (intOf i).toNat)
      case atStart => exact ⟨0, by omega, rfl, rfl⟩
      case round =>
        obtain ⟨k, hk, rfl, rfl⟩ := hrel
        by_cases hlt : k < 4
        · have e1 := HC.out k (by have := HL.out; omega)
          have HW1 := Lib.hid (HW.out M k)
          have HN1 := Lib.hid (HN.out M k)
          have hz := HZ.out M k
          have HX := Lib.hid (abcd_at k hlt)
          clear HW HN HZ HE2
          generalize wiTo xs M k = T at *
          generalize xs.getD k 0 = x at *
          by_cases hx : (x == M) = true
          · have HQ := Lib.hid (HW1.out hx)
            go_wp2
            go_round
            case rel => exact ⟨k + 1, by omega, by go_num, by rw [HQ.out, ← HX.out]⟩
            case measure => first | (simp [intOf]; done) | (simp [intOf]; omega)
          · have hx2 : (x == M) = false := by simpa using hx
            have HQ := Lib.hid (HN1.out hx2)
            clear hx
            go_wp2
            go_round
            case rel => exact ⟨k + 1, by omega, by go_num, by rw [HQ.out]⟩
            case measure => first | (simp [intOf]; done) | (simp [intOf]; omega)
        · obtain rfl : k = 4 := by omega
          go_wp2
          go_ret
          exact ⟨by rw [HE2.out]; rfl, Below.refl _ _⟩
def foI (s : ByteArray) : Int := if foTo s s.size = 0 then -1 else ((foTo s s.size : Nat) : Int)
theorem fa_f4 (s : ByteArray) (k : Nat) : f4 ((vc s 0 k : Nat) : Int) ((vc s 1 k : Nat) : Int) ((vc s 2 k : Nat) : Int) ((vc s 3 k : Nat) : Int) = faB s k := by
  unfold f4 faB
  simp
set_option maxRecDepth 100000 in
set_option maxHeartbeats 1600000 in
theorem voFirst_any (s : ByteArray) (w : World) (hv : votB s = true) : Calls Tryd.prog 54 #[.string s] w (Ret w (.int .i64 (foI s))) := by
  have h16 := ((votB_iff s).1 hv).1
  have HCN : Hid (∀ (k : Nat) (w : World), k ≤ s.size → Calls Tryd.prog 49 #[.string (s.extract 0 k)] w fun e w' => ∃ v, e = .returned v ∧ RInts w' v [((vc s 0 k : Nat) : Int), ((vc s 1 k : Nat) : Int), ((vc s 2 k : Nat) : Int), ((vc s 3 k : Nat) : Int)] ∧ Below w.heap.size w w') := Lib.hid fun k w hk => by
    refine (voCounts_any (s.extract 0 k) w (votB_pre hv hk)).mono ?_
    rintro e w' ⟨v, he, hr, hb⟩
    rw [pre_size s k hk, vcL_pre s k k (Nat.le_refl _)] at hr
    exact ⟨v, he, RInts.of_row hr, hb⟩
  have HFL : Hid (∀ (k : Nat) (v : Value) (w : World), RInts w v [((vc s 0 k : Nat) : Int), ((vc s 1 k : Nat) : Int), ((vc s 2 k : Nat) : Int), ((vc s 3 k : Nat) : Int)] → Calls Tryd.prog 79 #[v] w fun e w' => e = .returned (.bool (faB s k)) ∧ Below w.heap.size w w') := Lib.hid fun k v w h => by
    have := voFalls_any v _ _ _ _ w h
    rwa [fa_f4] at this
  have HI : Hid (∀ k, foTo s k = 0 → k = s.size → foI s = -1) := Lib.hid fun k h e => by unfold foI; rw [← e, if_pos h]
  have HJ : Hid (∀ k, foTo s k = 0 → k < s.size → faB s (k + 1) = false → foI s = (k : Int) + 1) := Lib.hid fun k h hk hf => by
    have h1 := fo_no h hf
    have h2 := fo_stay (n := s.size) (k := k + 1) (show ¬ foTo s (k + 1) = 0 by omega) s.size (by omega)
    unfold foI
    rw [if_neg (by omega), h2, h1]
    omega
  have HY : Hid (∀ k, foTo s k = 0 → faB s (k + 1) = true → foTo s (k + 1) = 0) := Lib.hid fun k h hf => fo_yes h hf
  generalize foI s = F at *
  clear hv
  go_enter Tryd.func54, Tryd.ntmps54
  go_wp2
  go_loopw [3] (fun i wr => ∃ k : Nat, k ≤ s.size ∧ i = .int .i64 ((k : Int) + 1) ∧ Hid (foTo s k = 0) ∧ Below w.heap.size w wr) (fun i _ => s.size + 1 - (intOf i).toNat)
  case atStart => exact ⟨0, Nat.zero_le _, rfl, Lib.hid rfl, Below.refl _ _⟩
  case round =>
    obtain ⟨k, hk, rfl, HF, hb⟩ := hrel
    by_cases hlt : k < s.size
    · have hsz := hb.size
      have HCK := Lib.hid (fun w => HCN.out (k + 1) w (by omega))
      have HFK := Lib.hid (fun v w => HFL.out (k + 1) v w)
      have i1 : (k : Int) + 1 ≤ (s.size : Int) := by omega
      have HJ1 := Lib.hid (HJ.out k HF.out hlt)
      have HY1 := Lib.hid (HY.out k HF.out)
      clear HCN HFL HI HJ HY
      generalize faB s (k + 1) = fb at *
      cases fb with
      | true =>
        have HY2 := Lib.hid (HY1.out rfl)
        go_wp2_with (first | (go_at_call 49; refine (HCK.out _).mono ?_; rintro e w1 ⟨v, rfl, hr, hb1⟩; have HR := Lib.hid hr; have HB1 := Lib.hid (hb.trans (hb1.mono hsz)); clear hr) | (go_at_call 79; refine (HFK.out _ _ HR.out).mono ?_; rintro e w2 ⟨rfl, hb2⟩; have HB2 := Lib.hid (HB1.out.trans (hb2.mono HB1.out.size))))
        go_roundw
        case rel => exact ⟨k + 1, by omega, by go_num, HY2, HB2.out⟩
        case measure => first | (simp [intOf]; done) | (simp [intOf]; omega)
      | false =>
        have HJ2 := Lib.hid (HJ1.out rfl)
        go_wp2_with (first | (go_at_call 49; refine (HCK.out _).mono ?_; rintro e w1 ⟨v, rfl, hr, hb1⟩; have HR := Lib.hid hr; have HB1 := Lib.hid (hb.trans (hb1.mono hsz)); clear hr) | (go_at_call 79; refine (HFK.out _ _ HR.out).mono ?_; rintro e w2 ⟨rfl, hb2⟩; have HB2 := Lib.hid (HB1.out.trans (hb2.mono HB1.out.size))))
        go_ret
        exact ⟨by rw [HJ2.out]; rfl, HB2.out⟩
    · have i1 : ¬ (k : Int) + 1 ≤ (s.size : Int) := by omega
      have HI2 := Lib.hid (HI.out k HF.out (by omega))
      go_wp2
      go_ret
      exact ⟨by rw [HI2.out]; rfl, hb⟩
end Go.Proofs.YtnlcainfkchieaaDoor
