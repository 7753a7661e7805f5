/- endingsFrom, AllMixed of the program. -/
import Derived.Test.YtnmmgpmhpjjehaaKindI
import Derived.Test.YtnmmgpmhpjjehaaAkS
import Derived.Test.YtnmmgpmhpjjehaaAmS
import Derived.Test.YtnmmgpmhpjjehaaJoinTwo
import Derived.Test.YtnmmgpmhpjjehaaKmI
namespace Go.Proofs.Ytnmmgpmhpjjehaa
open Go.RowKit
set_option linter.unusedVariables false
theorem dfu0 : (⟨#[68, 70, 85]⟩ : ByteArray).extract 0 1 = ⟨#[68]⟩ := by decide
theorem dfu1 : (⟨#[68, 70, 85]⟩ : ByteArray).extract 1 2 = ⟨#[70]⟩ := by decide
theorem dfu2 : (⟨#[68, 70, 85]⟩ : ByteArray).extract 2 3 = ⟨#[85]⟩ := by decide
set_option maxRecDepth 100000 in
set_option maxHeartbeats 8000000 in
theorem endings_any : ∀ (n : Nat) (h : Int) (w : World), n ≤ 12 → -100 ≤ h - n ∧ h + n ≤ 100 →
    Calls Try.prog 80 #[.int .i64 h, .int .i64 (n : Nat)] w fun e w' => ∃ v, e = .returned v ∧ SRow w' w.heap.size v (akL n h) ∧ Below w.heap.size w w' := by
  intro n
  induction n with
  | zero =>
    intro h w _ hb
    by_cases h1 : h < 0
    · rw [akL_no (.inl h1)]
      go_enter Try.func80, Try.ntmps80
      go_wp2
      go_ret
      exact ⟨_, rfl, SRow.nil _ _, Below.refl _ _⟩
    · by_cases h2 : 0 < h
      · rw [akL_no (.inr (by omega))]
        go_enter Try.func80, Try.ntmps80
        go_wp2
        go_ret
        exact ⟨_, rfl, SRow.nil _ _, Below.refl _ _⟩
      · obtain rfl : h = 0 := by omega
        go_enter Try.func80, Try.ntmps80
        go_wp2
        go_ret
        exact ⟨_, rfl, SRow.of_own (World.ownsRow_lit w #[.string ⟨#[]⟩] 1 (Nat.le_refl _) (by simp [maxLen]) rfl) rfl rfl, (Below.refl _ _).alloc (Nat.le_refl _) _⟩
  | succ n ih =>
    intro h w hn hb
    by_cases h1 : h < 0
    · rw [akL_no (.inl h1)]
      go_enter Try.func80, Try.ntmps80
      go_wp2
      go_ret
      exact ⟨_, rfl, SRow.nil _ _, Below.refl _ _⟩
    · by_cases h2 : (n : Int) + 1 < h
      · rw [akL_no (.inr (by omega))]
        go_enter Try.func80, Try.ntmps80
        go_wp2
        go_ret
        exact ⟨_, rfl, SRow.nil _ _, Below.refl _ _⟩
      · rw [akL_step (by omega) (by omega)]
        have IH : Hid (∀ (j : Nat) (w : World), j < 3 → Calls Try.prog 80 #[.int .i64 (h + j - 1), .int .i64 (n : Nat)] w fun e w' => ∃ v, e = .returned v ∧ SRow w' w.heap.size v (akL n (h + j - 1)) ∧ Below w.heap.size w w') := Lib.hid fun j w hj => ih (h + j - 1) w (by omega) (by omega)
        have HP : Hid (3 ^ n ≤ 531441) := Lib.hid (by
          have h2 : 3 ^ n ≤ 3 ^ 12 := Nat.pow_le_pow_right (by omega) (by omega)
          have h3 : (3 : Nat) ^ 12 = 531441 := by decide
          omega)
        have h3 : h ≤ 100 := by omega
        have hq : ((n : Int) + 1 == 0) = false := beq_eq_false_iff_ne.2 (by omega)
        have hnn : (n : Int) ≤ 12 := by omega
        clear ih hb
        go_enter Try.func80, Try.ntmps80
        go_wp2_with fail
        go_loopw [5, 19] (fun v i wr => ∃ j : Nat, j ≤ 3 ∧ i = .int .i64 (j : Int) ∧ SRow wr w.heap.size v (akT n h j) ∧ Below w.heap.size w wr) (fun _ i _ => 3 - (intOf i).toNat)
        case atStart => exact ⟨0, Nat.zero_le _, rfl, SRow.nil _ _, Below.refl _ _⟩
        case round =>
          obtain ⟨j, hj, rfl, hrow, hbb⟩ := hrel
          obtain ⟨A, c, rfl⟩ := hrow.shape
          by_cases hlt : j < 3
          · obtain ⟨w0, rfl⟩ : ∃ w0, w0 = wr := ⟨_, rfl⟩
            have hj3 : j = 0 ∨ j = 1 ∨ j = 2 := by omega
            rcases hj3 with rfl | rfl | rfl
            · obtain ⟨r, hr⟩ : ∃ r : Int, r = 0 - 1 := ⟨_, rfl⟩
              have HR : Hid (∀ w, Calls Try.prog 76 #[.int .u8 68] w fun e w' => e = .returned (.int .i64 r) ∧ w = w') := Lib.hid fun w => by rw [hr]; exact rise_any 68 w
              have hrb : -1 ≤ r ∧ r ≤ 1 := by omega
              have HI : Hid (∀ (w : World), Calls Try.prog 80 #[.int .i64 (h + r), .int .i64 (n : Nat)] w fun e w' => ∃ v, e = .returned v ∧ SRow w' w.heap.size v (akL n (h + r)) ∧ Below w.heap.size w w') := Lib.hid fun w => by
                have := IH.out 0 w hlt
                rwa [show h + ((0 : Nat) : Int) - 1 = h + r by omega] at this
              have HS : Hid (akT n h (0 + 1) = akT n h 0 ++ (akL n (h + r)).map (akP 0)) := Lib.hid (by
                show akT n h 0 ++ (akL n (h + ((0 : Nat) : Int) - 1)).map (akP 0) = _
                rw [show h + ((0 : Nat) : Int) - 1 = h + r by omega])
              have HLN := Lib.hid (akL_len n (h + r))
              have HTN := Lib.hid (akT_len n h 0)
              have HSZ := Lib.hid (fun x => akL_size n (h + r) x)
              have HF : Hid (∀ x, (⟨#[68]⟩ : ByteArray) ++ x = akP 0 x) := Lib.hid fun x => rfl
              have hsz0 := hbb.size
              have HROW := Lib.hid hrow
              have HB := Lib.hid hbb
              clear hrow hbb hr
              generalize akL n (h + r) = R at *
              generalize hT : akT n h 0 = T at *
              have HTE := Lib.hid hT
              clear hT
              go_wp2_with (first | (go_at_call 76; refine (HR.out _).mono ?_; rintro e w' ⟨rfl, rfl⟩) | (go_at_call 80; refine (HI.out _).mono ?_; rintro e w2 ⟨v2, rfl, hr2, hb2⟩; obtain ⟨A2, c2, rfl⟩ := hr2.shape))
              have HROW2 := Lib.hid (HROW.out.below hb2)
              have HR2 := Lib.hid hr2
              have HB2 := Lib.hid (HB.out.trans (hb2.mono hsz0))
              have hsz2 := hb2.size
              have HNE : Hid (∀ q, (Value.slice A T.length c).ownBlock = some q → (Value.slice A2 R.length c2).ownBlock ≠ some q) := Lib.hid fun q hq e => by
                have h1 := (HROW.out.blk q hq).2
                have h2 := (hr2.blk q e).1
                omega
              clear hr2 hb2
              go_loopw [5, 31] (fun v i wz => ∃ k : Nat, k ≤ R.length ∧ i = .int .i64 (k : Int) ∧ SRow wz w.heap.size v (T ++ (R.take k).map (akP 0)) ∧ SRow wz w0.heap.size (.slice A2 R.length c2) R ∧ (∀ q, v.ownBlock = some q → (Value.slice A2 R.length c2).ownBlock ≠ some q) ∧ Below w.heap.size w wz) (fun _ i _ => R.length - (intOf i).toNat)
              case atStart => exact ⟨0, Nat.zero_le _, rfl, by simpa using HROW2.out, HR2.out, HNE.out, HB2.out⟩
              case round =>
                obtain ⟨k, hk, rfl, hrow, hr2, hne, hbz⟩ := hrel
                obtain ⟨A3, c3, rfl⟩ := hrow.shape
                have hzz := hbz.size
                clear HROW2 HR2 HB2 HNE
                by_cases hlk : k < R.length
                · obtain ⟨g, c4, hv, _, _⟩ := hr2.form' rfl (by omega)
                  injection hv with hv1 hv2 hv3
                  subst hv1
                  have e2 := hr2.cell hlk
                  have hxs : (R.getD k ByteArray.empty).size = n := HSZ.out _ (by rw [List.getD_eq_getElem?_getD, List.getElem?_eq_getElem hlk]; exact List.getElem_mem hlk)
                  have HFX := Lib.hid (HF.out (R.getD k ByteArray.empty))
                  have HTK := Lib.hid (take_map_succ (akP 0) R k ByteArray.empty hlk)
                  have hlen : (T ++ (R.take k).map (akP 0)).length ≤ 1099511627776 := by
                    rw [List.length_append, List.length_map, List.length_take]
                    have h1 := HTN.out
                    have h2 := HLN.out
                    have h3 := HP.out
                    have h4 : 0 * 3 ^ n ≤ 3 * 531441 := Nat.mul_le_mul (by omega) h3
                    omega
                  have i2 : (k : Int) < (R.length : Int) := by omega
                  have hRl : R.length ≤ 531441 := Nat.le_trans HLN.out HP.out
                  have HROW3 := Lib.hid hrow
                  have HR3 := Lib.hid hr2
                  have HNE3 := Lib.hid hne
                  have HBZ := Lib.hid hbz
                  have HJN : Hid (∀ w : World, Calls Try.prog 100 #[.slice (some ⟨w.heap.size, 0, none⟩) 2 2] (w.alloc (.cells #[.string ⟨#[68]⟩, .string (R.getD k ByteArray.empty)] 9)) fun e w' => e = .returned (.string ((⟨#[68]⟩ : ByteArray) ++ R.getD k ByteArray.empty)) ∧ Below w.heap.size w w') := Lib.hid fun w => join_two _ _ (by decide) (by omega) w
                  clear hr2 hne hbz hv2 hv3 hrow hxs
                  generalize R.getD k ByteArray.empty = x at *
                  generalize hLL : T ++ (R.take k).map (akP 0) = LL at *
                  have HLL := Lib.hid hLL
                  clear hLL
                  obtain ⟨y, hy⟩ : ∃ y, y = (⟨#[68]⟩ : ByteArray) ++ x := ⟨_, rfl⟩
                  rw [← hy] at HJN HFX
                  clear hy
                  have hdf := dfu0
                  obtain ⟨w1, rfl⟩ : ∃ w1, w1 = wr := ⟨_, rfl⟩
                  go_wp2_with (first
                    | (go_at_call 100; refine (HJN.out _).mono ?_; rintro e w3 ⟨rfl, hbj⟩; have hrow4 := HROW3.out.below hbj; have hz4 : w.heap.size ≤ w3.heap.size := Nat.le_trans hzz hbj.size; have HBJ := Lib.hid hbj; clear hbj)
                    | (at_builtin; refine wpList_pushS (.tmp 35) (.tmp 43) rfl rfl w.heap.size _ LL rfl hrow4 rfl hlen hz4 ?_; intro v' w' hrow' hg' hat'))
                  have HR3b := HR3.out.below HBJ.out
                  have HK3 := Lib.hid (srow_kept2 HR3b hg' HNE3.out)
                  have HN4 : Hid (∀ q, v'.ownBlock = some q → (Value.slice (some ⟨g, 0, none⟩) R.length c2).ownBlock ≠ some q) := Lib.hid fun q hq e => by
                    rcases hat' with h | ⟨g', h, hg2⟩
                    · exact HNE3.out q (h.symm.trans hq) e
                    · rw [h] at hq
                      injection hq with hq
                      have := (HR3b.blk q e).2
                      omega
                  have HB4 := Lib.hid ((HBZ.out.trans (HBJ.out.mono hzz)).grown hg' hz4 (fun q hq => (hrow4.blk q hq).1))
                  have hr5 : SRow w' w.heap.size v' (LL ++ [y]) := hrow'
                  rw [HFX.out, ← HLL.out, List.append_assoc, ← HTK.out] at hr5
                  have HR5 := Lib.hid hr5
                  clear hr5 hrow' hrow4 hg' hat' HR3b
                  go_roundw
                  case rel => exact ⟨k + 1, by omega, by go_num, HR5.out, HK3.out, HN4.out, HB4.out⟩
                  case measure => simp [intOf]; omega
                · have HKK : Hid (R.take k = R) := Lib.hid (List.take_of_length_le (by omega))
                  rw [HKK.out, ← HS.out] at hrow
                  rw [HKK.out, ← HS.out]
                  have i2 : ¬ (k : Int) < (R.length : Int) := by omega
                  have HRX := Lib.hid hrow
                  have HBX := Lib.hid hbz
                  clear hr2 hne hbz hrow
                  go_wp2_with fail
                  go_roundw
                  case rel => exact ⟨0 + 1, by omega, by go_num, HRX.out, HBX.out⟩
                  case measure => simp [intOf]
            · obtain ⟨r, hr⟩ : ∃ r : Int, r = 1 - 1 := ⟨_, rfl⟩
              have HR : Hid (∀ w, Calls Try.prog 76 #[.int .u8 70] w fun e w' => e = .returned (.int .i64 r) ∧ w = w') := Lib.hid fun w => by rw [hr]; exact rise_any 70 w
              have hrb : -1 ≤ r ∧ r ≤ 1 := by omega
              have HI : Hid (∀ (w : World), Calls Try.prog 80 #[.int .i64 (h + r), .int .i64 (n : Nat)] w fun e w' => ∃ v, e = .returned v ∧ SRow w' w.heap.size v (akL n (h + r)) ∧ Below w.heap.size w w') := Lib.hid fun w => by
                have := IH.out 1 w hlt
                rwa [show h + ((1 : Nat) : Int) - 1 = h + r by omega] at this
              have HS : Hid (akT n h (1 + 1) = akT n h 1 ++ (akL n (h + r)).map (akP 1)) := Lib.hid (by
                show akT n h 1 ++ (akL n (h + ((1 : Nat) : Int) - 1)).map (akP 1) = _
                rw [show h + ((1 : Nat) : Int) - 1 = h + r by omega])
              have HLN := Lib.hid (akL_len n (h + r))
              have HTN := Lib.hid (akT_len n h 1)
              have HSZ := Lib.hid (fun x => akL_size n (h + r) x)
              have HF : Hid (∀ x, (⟨#[70]⟩ : ByteArray) ++ x = akP 1 x) := Lib.hid fun x => rfl
              have hsz0 := hbb.size
              have HROW := Lib.hid hrow
              have HB := Lib.hid hbb
              clear hrow hbb hr
              generalize akL n (h + r) = R at *
              generalize hT : akT n h 1 = T at *
              have HTE := Lib.hid hT
              clear hT
              go_wp2_with (first | (go_at_call 76; refine (HR.out _).mono ?_; rintro e w' ⟨rfl, rfl⟩) | (go_at_call 80; refine (HI.out _).mono ?_; rintro e w2 ⟨v2, rfl, hr2, hb2⟩; obtain ⟨A2, c2, rfl⟩ := hr2.shape))
              have HROW2 := Lib.hid (HROW.out.below hb2)
              have HR2 := Lib.hid hr2
              have HB2 := Lib.hid (HB.out.trans (hb2.mono hsz0))
              have hsz2 := hb2.size
              have HNE : Hid (∀ q, (Value.slice A T.length c).ownBlock = some q → (Value.slice A2 R.length c2).ownBlock ≠ some q) := Lib.hid fun q hq e => by
                have h1 := (HROW.out.blk q hq).2
                have h2 := (hr2.blk q e).1
                omega
              clear hr2 hb2
              go_loopw [5, 31] (fun v i wz => ∃ k : Nat, k ≤ R.length ∧ i = .int .i64 (k : Int) ∧ SRow wz w.heap.size v (T ++ (R.take k).map (akP 1)) ∧ SRow wz w0.heap.size (.slice A2 R.length c2) R ∧ (∀ q, v.ownBlock = some q → (Value.slice A2 R.length c2).ownBlock ≠ some q) ∧ Below w.heap.size w wz) (fun _ i _ => R.length - (intOf i).toNat)
              case atStart => exact ⟨0, Nat.zero_le _, rfl, by simpa using HROW2.out, HR2.out, HNE.out, HB2.out⟩
              case round =>
                obtain ⟨k, hk, rfl, hrow, hr2, hne, hbz⟩ := hrel
                obtain ⟨A3, c3, rfl⟩ := hrow.shape
                have hzz := hbz.size
                clear HROW2 HR2 HB2 HNE
                by_cases hlk : k < R.length
                · obtain ⟨g, c4, hv, _, _⟩ := hr2.form' rfl (by omega)
                  injection hv with hv1 hv2 hv3
                  subst hv1
                  have e2 := hr2.cell hlk
                  have hxs : (R.getD k ByteArray.empty).size = n := HSZ.out _ (by rw [List.getD_eq_getElem?_getD, List.getElem?_eq_getElem hlk]; exact List.getElem_mem hlk)
                  have HFX := Lib.hid (HF.out (R.getD k ByteArray.empty))
                  have HTK := Lib.hid (take_map_succ (akP 1) R k ByteArray.empty hlk)
                  have hlen : (T ++ (R.take k).map (akP 1)).length ≤ 1099511627776 := by
                    rw [List.length_append, List.length_map, List.length_take]
                    have h1 := HTN.out
                    have h2 := HLN.out
                    have h3 := HP.out
                    have h4 : 1 * 3 ^ n ≤ 3 * 531441 := Nat.mul_le_mul (by omega) h3
                    omega
                  have i2 : (k : Int) < (R.length : Int) := by omega
                  have hRl : R.length ≤ 531441 := Nat.le_trans HLN.out HP.out
                  have HROW3 := Lib.hid hrow
                  have HR3 := Lib.hid hr2
                  have HNE3 := Lib.hid hne
                  have HBZ := Lib.hid hbz
                  have HJN : Hid (∀ w : World, Calls Try.prog 100 #[.slice (some ⟨w.heap.size, 0, none⟩) 2 2] (w.alloc (.cells #[.string ⟨#[70]⟩, .string (R.getD k ByteArray.empty)] 9)) fun e w' => e = .returned (.string ((⟨#[70]⟩ : ByteArray) ++ R.getD k ByteArray.empty)) ∧ Below w.heap.size w w') := Lib.hid fun w => join_two _ _ (by decide) (by omega) w
                  clear hr2 hne hbz hv2 hv3 hrow hxs
                  generalize R.getD k ByteArray.empty = x at *
                  generalize hLL : T ++ (R.take k).map (akP 1) = LL at *
                  have HLL := Lib.hid hLL
                  clear hLL
                  obtain ⟨y, hy⟩ : ∃ y, y = (⟨#[70]⟩ : ByteArray) ++ x := ⟨_, rfl⟩
                  rw [← hy] at HJN HFX
                  clear hy
                  have hdf := dfu1
                  obtain ⟨w1, rfl⟩ : ∃ w1, w1 = wr := ⟨_, rfl⟩
                  go_wp2_with (first
                    | (go_at_call 100; refine (HJN.out _).mono ?_; rintro e w3 ⟨rfl, hbj⟩; have hrow4 := HROW3.out.below hbj; have hz4 : w.heap.size ≤ w3.heap.size := Nat.le_trans hzz hbj.size; have HBJ := Lib.hid hbj; clear hbj)
                    | (at_builtin; refine wpList_pushS (.tmp 35) (.tmp 43) rfl rfl w.heap.size _ LL rfl hrow4 rfl hlen hz4 ?_; intro v' w' hrow' hg' hat'))
                  have HR3b := HR3.out.below HBJ.out
                  have HK3 := Lib.hid (srow_kept2 HR3b hg' HNE3.out)
                  have HN4 : Hid (∀ q, v'.ownBlock = some q → (Value.slice (some ⟨g, 0, none⟩) R.length c2).ownBlock ≠ some q) := Lib.hid fun q hq e => by
                    rcases hat' with h | ⟨g', h, hg2⟩
                    · exact HNE3.out q (h.symm.trans hq) e
                    · rw [h] at hq
                      injection hq with hq
                      have := (HR3b.blk q e).2
                      omega
                  have HB4 := Lib.hid ((HBZ.out.trans (HBJ.out.mono hzz)).grown hg' hz4 (fun q hq => (hrow4.blk q hq).1))
                  have hr5 : SRow w' w.heap.size v' (LL ++ [y]) := hrow'
                  rw [HFX.out, ← HLL.out, List.append_assoc, ← HTK.out] at hr5
                  have HR5 := Lib.hid hr5
                  clear hr5 hrow' hrow4 hg' hat' HR3b
                  go_roundw
                  case rel => exact ⟨k + 1, by omega, by go_num, HR5.out, HK3.out, HN4.out, HB4.out⟩
                  case measure => simp [intOf]; omega
                · have HKK : Hid (R.take k = R) := Lib.hid (List.take_of_length_le (by omega))
                  rw [HKK.out, ← HS.out] at hrow
                  rw [HKK.out, ← HS.out]
                  have i2 : ¬ (k : Int) < (R.length : Int) := by omega
                  have HRX := Lib.hid hrow
                  have HBX := Lib.hid hbz
                  clear hr2 hne hbz hrow
                  go_wp2_with fail
                  go_roundw
                  case rel => exact ⟨1 + 1, by omega, by go_num, HRX.out, HBX.out⟩
                  case measure => simp [intOf]
            · obtain ⟨r, hr⟩ : ∃ r : Int, r = 2 - 1 := ⟨_, rfl⟩
              have HR : Hid (∀ w, Calls Try.prog 76 #[.int .u8 85] w fun e w' => e = .returned (.int .i64 r) ∧ w = w') := Lib.hid fun w => by rw [hr]; exact rise_any 85 w
              have hrb : -1 ≤ r ∧ r ≤ 1 := by omega
              have HI : Hid (∀ (w : World), Calls Try.prog 80 #[.int .i64 (h + r), .int .i64 (n : Nat)] w fun e w' => ∃ v, e = .returned v ∧ SRow w' w.heap.size v (akL n (h + r)) ∧ Below w.heap.size w w') := Lib.hid fun w => by
                have := IH.out 2 w hlt
                rwa [show h + ((2 : Nat) : Int) - 1 = h + r by omega] at this
              have HS : Hid (akT n h (2 + 1) = akT n h 2 ++ (akL n (h + r)).map (akP 2)) := Lib.hid (by
                show akT n h 2 ++ (akL n (h + ((2 : Nat) : Int) - 1)).map (akP 2) = _
                rw [show h + ((2 : Nat) : Int) - 1 = h + r by omega])
              have HLN := Lib.hid (akL_len n (h + r))
              have HTN := Lib.hid (akT_len n h 2)
              have HSZ := Lib.hid (fun x => akL_size n (h + r) x)
              have HF : Hid (∀ x, (⟨#[85]⟩ : ByteArray) ++ x = akP 2 x) := Lib.hid fun x => rfl
              have hsz0 := hbb.size
              have HROW := Lib.hid hrow
              have HB := Lib.hid hbb
              clear hrow hbb hr
              generalize akL n (h + r) = R at *
              generalize hT : akT n h 2 = T at *
              have HTE := Lib.hid hT
              clear hT
              go_wp2_with (first | (go_at_call 76; refine (HR.out _).mono ?_; rintro e w' ⟨rfl, rfl⟩) | (go_at_call 80; refine (HI.out _).mono ?_; rintro e w2 ⟨v2, rfl, hr2, hb2⟩; obtain ⟨A2, c2, rfl⟩ := hr2.shape))
              have HROW2 := Lib.hid (HROW.out.below hb2)
              have HR2 := Lib.hid hr2
              have HB2 := Lib.hid (HB.out.trans (hb2.mono hsz0))
              have hsz2 := hb2.size
              have HNE : Hid (∀ q, (Value.slice A T.length c).ownBlock = some q → (Value.slice A2 R.length c2).ownBlock ≠ some q) := Lib.hid fun q hq e => by
                have h1 := (HROW.out.blk q hq).2
                have h2 := (hr2.blk q e).1
                omega
              clear hr2 hb2
              go_loopw [5, 31] (fun v i wz => ∃ k : Nat, k ≤ R.length ∧ i = .int .i64 (k : Int) ∧ SRow wz w.heap.size v (T ++ (R.take k).map (akP 2)) ∧ SRow wz w0.heap.size (.slice A2 R.length c2) R ∧ (∀ q, v.ownBlock = some q → (Value.slice A2 R.length c2).ownBlock ≠ some q) ∧ Below w.heap.size w wz) (fun _ i _ => R.length - (intOf i).toNat)
              case atStart => exact ⟨0, Nat.zero_le _, rfl, by simpa using HROW2.out, HR2.out, HNE.out, HB2.out⟩
              case round =>
                obtain ⟨k, hk, rfl, hrow, hr2, hne, hbz⟩ := hrel
                obtain ⟨A3, c3, rfl⟩ := hrow.shape
                have hzz := hbz.size
                clear HROW2 HR2 HB2 HNE
                by_cases hlk : k < R.length
                · obtain ⟨g, c4, hv, _, _⟩ := hr2.form' rfl (by omega)
                  injection hv with hv1 hv2 hv3
                  subst hv1
                  have e2 := hr2.cell hlk
                  have hxs : (R.getD k ByteArray.empty).size = n := HSZ.out _ (by rw [List.getD_eq_getElem?_getD, List.getElem?_eq_getElem hlk]; exact List.getElem_mem hlk)
                  have HFX := Lib.hid (HF.out (R.getD k ByteArray.empty))
                  have HTK := Lib.hid (take_map_succ (akP 2) R k ByteArray.empty hlk)
                  have hlen : (T ++ (R.take k).map (akP 2)).length ≤ 1099511627776 := by
                    rw [List.length_append, List.length_map, List.length_take]
                    have h1 := HTN.out
                    have h2 := HLN.out
                    have h3 := HP.out
                    have h4 : 2 * 3 ^ n ≤ 3 * 531441 := Nat.mul_le_mul (by omega) h3
                    omega
                  have i2 : (k : Int) < (R.length : Int) := by omega
                  have hRl : R.length ≤ 531441 := Nat.le_trans HLN.out HP.out
                  have HROW3 := Lib.hid hrow
                  have HR3 := Lib.hid hr2
                  have HNE3 := Lib.hid hne
                  have HBZ := Lib.hid hbz
                  have HJN : Hid (∀ w : World, Calls Try.prog 100 #[.slice (some ⟨w.heap.size, 0, none⟩) 2 2] (w.alloc (.cells #[.string ⟨#[85]⟩, .string (R.getD k ByteArray.empty)] 9)) fun e w' => e = .returned (.string ((⟨#[85]⟩ : ByteArray) ++ R.getD k ByteArray.empty)) ∧ Below w.heap.size w w') := Lib.hid fun w => join_two _ _ (by decide) (by omega) w
                  clear hr2 hne hbz hv2 hv3 hrow hxs
                  generalize R.getD k ByteArray.empty = x at *
                  generalize hLL : T ++ (R.take k).map (akP 2) = LL at *
                  have HLL := Lib.hid hLL
                  clear hLL
                  obtain ⟨y, hy⟩ : ∃ y, y = (⟨#[85]⟩ : ByteArray) ++ x := ⟨_, rfl⟩
                  rw [← hy] at HJN HFX
                  clear hy
                  have hdf := dfu2
                  obtain ⟨w1, rfl⟩ : ∃ w1, w1 = wr := ⟨_, rfl⟩
                  go_wp2_with (first
                    | (go_at_call 100; refine (HJN.out _).mono ?_; rintro e w3 ⟨rfl, hbj⟩; have hrow4 := HROW3.out.below hbj; have hz4 : w.heap.size ≤ w3.heap.size := Nat.le_trans hzz hbj.size; have HBJ := Lib.hid hbj; clear hbj)
                    | (at_builtin; refine wpList_pushS (.tmp 35) (.tmp 43) rfl rfl w.heap.size _ LL rfl hrow4 rfl hlen hz4 ?_; intro v' w' hrow' hg' hat'))
                  have HR3b := HR3.out.below HBJ.out
                  have HK3 := Lib.hid (srow_kept2 HR3b hg' HNE3.out)
                  have HN4 : Hid (∀ q, v'.ownBlock = some q → (Value.slice (some ⟨g, 0, none⟩) R.length c2).ownBlock ≠ some q) := Lib.hid fun q hq e => by
                    rcases hat' with h | ⟨g', h, hg2⟩
                    · exact HNE3.out q (h.symm.trans hq) e
                    · rw [h] at hq
                      injection hq with hq
                      have := (HR3b.blk q e).2
                      omega
                  have HB4 := Lib.hid ((HBZ.out.trans (HBJ.out.mono hzz)).grown hg' hz4 (fun q hq => (hrow4.blk q hq).1))
                  have hr5 : SRow w' w.heap.size v' (LL ++ [y]) := hrow'
                  rw [HFX.out, ← HLL.out, List.append_assoc, ← HTK.out] at hr5
                  have HR5 := Lib.hid hr5
                  clear hr5 hrow' hrow4 hg' hat' HR3b
                  go_roundw
                  case rel => exact ⟨k + 1, by omega, by go_num, HR5.out, HK3.out, HN4.out, HB4.out⟩
                  case measure => simp [intOf]; omega
                · have HKK : Hid (R.take k = R) := Lib.hid (List.take_of_length_le (by omega))
                  rw [HKK.out, ← HS.out] at hrow
                  rw [HKK.out, ← HS.out]
                  have i2 : ¬ (k : Int) < (R.length : Int) := by omega
                  have HRX := Lib.hid hrow
                  have HBX := Lib.hid hbz
                  clear hr2 hne hbz hrow
                  go_wp2_with fail
                  go_roundw
                  case rel => exact ⟨2 + 1, by omega, by go_num, HRX.out, HBX.out⟩
                  case measure => simp [intOf]
          · obtain rfl : j = 3 := by omega
            go_wp2_with fail
            go_ret
            exact ⟨_, rfl, hrow, hbb⟩
set_option maxRecDepth 100000 in
set_option maxHeartbeats 1600000 in
theorem allMixed_ret (n : Int) (w : World) : Calls Try.prog 32 #[.int .i64 n] w (StrsRet w (amOk n) (amV n)) := by
  have hb1 : Below w.heap.size w (w.alloc (.cells #[.int .i64 n] 3)) := (Below.refl _ _).alloc (Nat.le_refl _) _
  have HI : Hid (∀ w : World, Calls Try.prog 68 #[.int .i64 0, .int .i64 6, .slice (some ⟨w.heap.size, 0, none⟩) 1 1] (w.alloc (.cells #[.int .i64 n] 3)) fun e w' => e = .returned (.bool (amOk n)) ∧ (w.alloc (.cells #[.int .i64 n] 3)) = w') := Lib.hid fun w => lit_within n 0 6 w
  rcases Bool.eq_false_or_eq_true (amOk n) with ho | ho
  · have h := inB_iff ho
    have e2 : amV n = akL n.toNat 0 := by rw [amV, if_pos ho]
    obtain ⟨N, rfl⟩ := Int.eq_ofNat_of_zero_le h.1
    simp only [Int.toNat_natCast] at e2
    have HM : Hid (∀ w, Calls Try.prog 80 #[.int .i64 0, .int .i64 (N : Int)] w fun e w' => ∃ v, e = .returned v ∧ SRow w' w.heap.size v (amV N) ∧ Below w.heap.size w w') := Lib.hid fun w => by
      rw [e2]
      exact endings_any N 0 w (by omega) (by omega)
    rw [ho] at HI ⊢
    clear e2 ho h
    generalize amV N = L at *
    go_enter Try.func32, Try.ntmps32
    go_wp2_with (first | (go_at_call 68; refine (HI.out _).mono ?_; rintro e w' ⟨rfl, rfl⟩) | (go_at_call 80; refine (HM.out _).mono ?_; rintro e w2 ⟨v, rfl, hr2, hb2⟩; obtain ⟨A2, c2, rfl⟩ := hr2.shape))
    go_ret2
    exact ⟨_, rfl, hr2.mono (by simp), hb1.trans (hb2.mono (by simp))⟩
  · have e2 : amV n = [] := by rw [amV, ho]; rfl
    rw [ho] at HI ⊢
    rw [e2]
    clear e2 ho
    go_enter Try.func32, Try.ntmps32
    go_wp2_with (go_at_call 68; refine (HI.out _).mono ?_; rintro e w' ⟨rfl, rfl⟩)
    go_ret2
    exact ⟨_, rfl, SRow.nil _ _, hb1⟩
end Go.Proofs.Ytnmmgpmhpjjehaa
