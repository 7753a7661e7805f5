/- The model's kiAll. -/
import Derived.Test.YtnmmgpmhpjjehaaAkMath
import Derived.Test.YtnmmgpmhpjjehaaSOwn
namespace Go.Proofs.Ytnmmgpmhpjjehaa
open Go.RowKit
set_option linter.unusedVariables false
theorem srow_kept2 {w w' : World} {B : Nat} {v : Value} {xs : List ByteArray} {row : Option Nat} (h : SRow w B v xs) (hg : w.grownBy w' row) (hne : ∀ q, row = some q → v.ownBlock ≠ some q) : SRow w' B v xs :=
  World.ownsRow.kept h hg (by
    cases e : v.ownBlock with
    | none => exact .inl rfl
    | some k =>
      right
      intro e2
      exact hne k e2.symm e)
set_option maxRecDepth 100000 in
set_option maxHeartbeats 4000000 in
theorem kiAll_any : ∀ (n : Nat) (h : Int) (w : World), n ≤ 12 → -100 ≤ h - n ∧ h + n ≤ 100 →
    Calls Try.prog 79 #[.int .i64 (n : Nat), .int .i64 h] w fun e w' => ∃ v, e = .returned v ∧ SRow w' w.heap.size v (akL n h) ∧ Below w.heap.size w w' := by
  intro n
  induction n with
  | zero =>
    intro h w _ hb
    by_cases h1 : h < 0
    · rw [akL_no (.inl h1)]
      go_enter Try.func79, Try.ntmps79
      go_wp2
      go_ret
      exact ⟨_, rfl, SRow.nil _ _, Below.refl _ _⟩
    · by_cases h2 : 0 < h
      · rw [akL_no (.inr (by omega))]
        go_enter Try.func79, Try.ntmps79
        go_wp2
        go_ret
        exact ⟨_, rfl, SRow.nil _ _, Below.refl _ _⟩
      · obtain rfl : h = 0 := by omega
        go_enter Try.func79, Try.ntmps79
        go_wp2
        go_ret
        exact ⟨_, rfl, SRow.of_own (World.ownsRow_lit w #[.string ⟨#[]⟩] 1 (Nat.le_refl _) (by simp [maxLen]) rfl) rfl rfl, (Below.refl _ _).alloc (Nat.le_refl _) _⟩
  | succ n ih =>
    intro h w hn hb
    by_cases h1 : h < 0
    · rw [akL_no (.inl h1)]
      go_enter Try.func79, Try.ntmps79
      go_wp2
      go_ret
      exact ⟨_, rfl, SRow.nil _ _, Below.refl _ _⟩
    · by_cases h2 : (n : Int) + 1 < h
      · rw [akL_no (.inr (by omega))]
        go_enter Try.func79, Try.ntmps79
        go_wp2
        go_ret
        exact ⟨_, rfl, SRow.nil _ _, Below.refl _ _⟩
      · rw [akL_step (by omega) (by omega)]
        have IH : Hid (∀ (j : Nat) (w : World), j < 3 → Calls Try.prog 79 #[.int .i64 (n : Nat), .int .i64 (h + j - 1)] w fun e w' => ∃ v, e = .returned v ∧ SRow w' w.heap.size v (akL n (h + j - 1)) ∧ Below w.heap.size w w') := Lib.hid fun j w hj => ih (h + j - 1) w (by omega) (by omega)
        have HP : Hid (3 ^ n ≤ 531441) := Lib.hid (by
          have h2 : 3 ^ n ≤ 3 ^ 12 := Nat.pow_le_pow_right (by omega) (by omega)
          have h3 : (3 : Nat) ^ 12 = 531441 := by decide
          omega)
        have h3 : h ≤ 100 := by omega
        have hq : ((n : Int) + 1 == 0) = false := beq_eq_false_iff_ne.2 (by omega)
        have hnn : (n : Int) ≤ 12 := by omega
        obtain ⟨w1, hw1⟩ : ∃ w1, w1 = w.alloc (.cells #[.string ⟨#[68]⟩, .string ⟨#[70]⟩, .string ⟨#[85]⟩] 9) := ⟨_, rfl⟩
        have C : Hid (∀ j, j < 3 → w1.cell? ⟨w.heap.size, j, none⟩ = some (.string ⟨#[akC j]⟩)) := Lib.hid (by
          intro j hj
          rw [hw1]
          match j, hj with
          | 0, _ => simp [go_sem, akC]
          | 1, _ => simp [go_sem, akC]
          | 2, _ => simp [go_sem, akC])
        have S1 : w1.heap.size = w.heap.size + 1 := by rw [hw1]; simp
        have B1 : Hid (Below w.heap.size w w1) := Lib.hid (by rw [hw1]; exact (Below.refl _ _).alloc (Nat.le_refl _) _)
        have HW1 := Lib.hid hw1
        clear hw1 ih hb
        go_enter Try.func79, Try.ntmps79
        go_wp2_with fail
        rw [← HW1.out]
        go_loopw [5, 22] (fun v i wr => ∃ j : Nat, j ≤ 3 ∧ i = .int .i64 (j : Int) ∧ SRow wr w1.heap.size v (akT n h j) ∧ Below w1.heap.size w1 wr) (fun _ i _ => 3 - (intOf i).toNat)
        case atStart => exact ⟨0, Nat.zero_le _, rfl, SRow.nil _ _, Below.refl _ _⟩
        case round =>
          obtain ⟨j, hj, rfl, hrow, hbb⟩ := hrel
          obtain ⟨A, c, rfl⟩ := hrow.shape
          by_cases hlt : j < 3
          · have e1 : wr.cell? ⟨w.heap.size, j, none⟩ = some (.string ⟨#[akC j]⟩) := (hbb.cell (p := ⟨w.heap.size, j, none⟩) (show w.heap.size < w1.heap.size by omega)).trans (C.out j hlt)
            have i1 : (j : Int) < 3 := by omega
            have HI := Lib.hid (IH.out j)
            have HLN := Lib.hid (akL_len n (h + j - 1))
            have HTN := Lib.hid (akT_len n h j)
            have HSZ := Lib.hid (fun x => akL_size n (h + j - 1) x)
            have HS : Hid (akT n h (j + 1) = akT n h j ++ (akL n (h + j - 1)).map (akP j)) := Lib.hid rfl
            have HF : Hid (∀ x, (⟨#[akC j]⟩ : ByteArray) ++ x = akP j x) := Lib.hid fun x => rfl
            obtain ⟨w0, rfl⟩ : ∃ w0, w0 = wr := ⟨_, rfl⟩
            have hsz0 := hbb.size
            have HROW := Lib.hid hrow
            have HB := Lib.hid hbb
            clear hrow hbb
            generalize akL n (h + j - 1) = R at *
            generalize hT : akT n h j = T at *
            generalize hcc : (⟨#[akC j]⟩ : ByteArray) = cc at *
            have hccs : cc.size = 1 := by rw [← hcc]; rfl
            have HCC := Lib.hid hcc
            clear hcc hT
            go_wp2_with (go_at_call 79; refine (HI.out _ hlt).mono ?_; rintro e w2 ⟨v2, rfl, hr2, hb2⟩; obtain ⟨A2, c2, rfl⟩ := hr2.shape)
            have HROW2 := Lib.hid (HROW.out.below hb2)
            have HR2 := Lib.hid hr2
            have HB2 := Lib.hid (HB.out.trans (hb2.mono hsz0))
            have hsz2 := hb2.size
            have HNE : Hid (∀ q, (Value.slice A T.length c).ownBlock = some q → (Value.slice A2 R.length c2).ownBlock ≠ some q) := Lib.hid fun q hq e => by
              have h1 := (HROW.out.blk q hq).2
              have h2 := (hr2.blk q e).1
              omega
            clear hr2 hb2
            go_loopw [5, 35] (fun v i wz => ∃ k : Nat, k ≤ R.length ∧ i = .int .i64 (k : Int) ∧ SRow wz w1.heap.size v (T ++ (R.take k).map (akP j)) ∧ SRow wz w0.heap.size (.slice A2 R.length c2) R ∧ (∀ q, v.ownBlock = some q → (Value.slice A2 R.length c2).ownBlock ≠ some q) ∧ Below w1.heap.size w1 wz) (fun _ i _ => R.length - (intOf i).toNat)
            case atStart => exact ⟨0, Nat.zero_le _, rfl, by simpa using HROW2.out, HR2.out, HNE.out, HB2.out⟩
            case round =>
              obtain ⟨k, hk, rfl, hrow, hr2, hne, hbz⟩ := hrel
              obtain ⟨A3, c3, rfl⟩ := hrow.shape
              have hzz := hbz.size
              clear HROW2 HR2 HB2 HNE
              by_cases hlk : k < R.length
              · obtain ⟨g, c4, hv, _, _⟩ := hr2.form' rfl (by omega)
                injection hv with hv1 hv2 hv3
                subst hv1
                have e2 := hr2.cell hlk
                have hxs : (R.getD k ByteArray.empty).size = n := HSZ.out _ (by rw [List.getD_eq_getElem?_getD, List.getElem?_eq_getElem hlk]; exact List.getElem_mem hlk)
                have HFX := Lib.hid (HF.out (R.getD k ByteArray.empty))
                have HTK := Lib.hid (take_map_succ (akP j) R k ByteArray.empty hlk)
                have hlen : (T ++ (R.take k).map (akP j)).length ≤ 1099511627776 := by
                  rw [List.length_append, List.length_map, List.length_take]
                  have h1 := HTN.out
                  have h2 := HLN.out
                  have h3 := HP.out
                  have h4 : j * 3 ^ n ≤ 3 * 531441 := Nat.mul_le_mul (by omega) h3
                  omega
                have i2 : (k : Int) < (R.length : Int) := by omega
                have hRl : R.length ≤ 531441 := Nat.le_trans HLN.out HP.out
                have HROW3 := Lib.hid hrow
                have HR3 := Lib.hid hr2
                have HNE3 := Lib.hid hne
                have HBZ := Lib.hid hbz
                clear hr2 hne hbz hv2 hv3
                generalize R.getD k ByteArray.empty = x at *
                have i3 : x.size ≤ 12 := by omega
                generalize hLL : T ++ (R.take k).map (akP j) = LL at *
                have HLL := Lib.hid hLL
                clear hLL
                go_wp2_with (at_builtin; refine wpList_pushS (.tmp 39) (.tmp 43) rfl rfl w1.heap.size _ LL rfl hrow rfl hlen hzz ?_; intro v' w' hrow' hg' hat')
                have HK3 := Lib.hid (srow_kept2 HR3.out hg' HNE3.out)
                have HN4 : Hid (∀ q, v'.ownBlock = some q → (Value.slice (some ⟨g, 0, none⟩) R.length c2).ownBlock ≠ some q) := Lib.hid fun q hq e => by
                  rcases hat' with h | ⟨g', h, hg2⟩
                  · exact HNE3.out q (h.symm.trans hq) e
                  · rw [h] at hq
                    injection hq with hq
                    have := (HR3.out.blk q e).2
                    omega
                have HB4 := Lib.hid (HBZ.out.grown hg' hzz (fun q hq => (hrow.blk q hq).1))
                have hr5 : SRow w' w1.heap.size v' (LL ++ [cc ++ x]) := hrow'
                rw [HFX.out, ← HLL.out, List.append_assoc, ← HTK.out] at hr5
                go_roundw
                case rel => exact ⟨k + 1, by omega, by go_num, hr5, HK3.out, HN4.out, HB4.out⟩
                case measure => simp [intOf]; omega
              · have HKK : Hid (R.take k = R) := Lib.hid (List.take_of_length_le (by omega))
                rw [HKK.out, ← HS.out] at hrow
                rw [HKK.out, ← HS.out]
                have i2 : ¬ (k : Int) < (R.length : Int) := by omega
                have HRX := Lib.hid hrow
                have HBX := Lib.hid hbz
                clear hr2 hne hbz hrow
                go_wp2_with fail
                go_roundw
                case rel => exact ⟨j + 1, by omega, by go_num, HRX.out, HBX.out⟩
                case measure => simp [intOf]; omega
          · obtain rfl : j = 3 := by omega
            go_wp2_with fail
            go_ret
            exact ⟨_, rfl, hrow.mono (by omega), B1.out.trans (hbb.mono (by omega))⟩
end Go.Proofs.Ytnmmgpmhpjjehaa
