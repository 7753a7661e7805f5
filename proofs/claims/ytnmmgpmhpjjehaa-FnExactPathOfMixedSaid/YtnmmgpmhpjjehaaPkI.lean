/- pairOfKind, PathOfMixed, kindOfPair, MixedOfPath of the program. -/
import Derived.Test.YtnmmgpmhpjjehaaKindI
import Derived.Test.YtnmmgpmhpjjehaaMopS
import Derived.Test.YtnmmgpmhpjjehaaJoinS
import Derived.Test.YtnmmgpmhpjjehaaBytes
namespace Go.Proofs.Ytnmmgpmhpjjehaa
open Go.RowKit
set_option linter.unusedVariables false
def pkB (c : UInt8) : ByteArray := if c = 85 then ⟨#[85, 85]⟩ else if c = 70 then ⟨#[85, 68]⟩ else ⟨#[68, 68]⟩
theorem pkB_pm {c : UInt8} (h : isK c = true) : pkB c = pmB c := by
  unfold isK at h
  simp only [Bool.or_eq_true, beq_iff_eq] at h
  rcases h with (rfl | rfl) | rfl <;> rfl
theorem pair_any (c : UInt8) (w : World) : Calls Try.prog 99 #[.int .u8 (c.toNat : Int)] w fun e w' => e = .returned (.string (pkB c)) ∧ w = w' := by
  by_cases h1 : c = 85
  · subst h1
    go_enter Try.func99, Try.ntmps99
    go_wp2
    go_ret
    exact ⟨rfl, rfl⟩
  · have q1 : ((c.toNat : Int) == 85) = false := u8_int h1
    by_cases h2 : c = 70
    · subst h2
      go_enter Try.func99, Try.ntmps99
      go_wp2
      go_ret
      exact ⟨rfl, rfl⟩
    · have q2 : ((c.toNat : Int) == 70) = false := u8_int h2
      have e : pkB c = ⟨#[68, 68]⟩ := by unfold pkB; rw [if_neg h1, if_neg h2]
      rw [e]
      clear e
      go_enter Try.func99, Try.ntmps99
      go_wp2
      go_ret
      exact ⟨rfl, rfl⟩
theorem mix_all : ∀ (l : List UInt8) (h : Int), mixGo l h = true → ∀ c, c ∈ l → isK c = true
  | c :: l, h, e, d, hd => by
    rw [mixGo, Bool.and_eq_true, Bool.and_eq_true] at e
    rcases List.mem_cons.1 hd with rfl | hd
    · exact e.1.1
    · exact mix_all l _ e.2 d hd
theorem mixB_all {s : ByteArray} (h : mixB s = true) (k : Nat) (hk : k < s.size) : isK s[k] = true := by
  unfold mixB at h
  rw [Bool.and_eq_true] at h
  exact mix_all _ _ h.2 _ (Array.mem_toList_iff.2 (Array.getElem_mem _))
/-- the pairs of the first k steps -/
def pkL (s : ByteArray) (k : Nat) : List ByteArray := (List.range k).map fun j => pmB (s.data.toList.getD j 0)
theorem pkL_length (s : ByteArray) (k : Nat) : (pkL s k).length = k := by simp [pkL]
theorem pkL_succ (s : ByteArray) (k : Nat) : pkL s (k + 1) = pkL s k ++ [pmB (s.data.toList.getD k 0)] := by
  unfold pkL
  rw [List.range_succ, List.map_append]
  rfl
theorem pmB_size (c : UInt8) : (pmB c).size = 2 := by
  unfold pmB
  split
  · rfl
  · split <;> rfl
theorem pkL_size {s : ByteArray} {k : Nat} : ∀ x, x ∈ pkL s k → x.size ≤ 100 := fun x hx => by
  unfold pkL at hx
  rw [List.mem_map] at hx
  obtain ⟨j, _, rfl⟩ := hx
  rw [pmB_size]
  omega
theorem pkL_cat (s : ByteArray) : ∀ k, strOf (catB (pkL s k)) = pmTo s k
  | 0 => rfl
  | k + 1 => by
    rw [pkL_succ, catB_snoc, pmTo, ← pkL_cat s k]
    apply ByteArray.ext
    apply Array.toList_inj.1
    simp [strOf]
set_option maxRecDepth 100000 in
set_option maxHeartbeats 1600000 in
theorem pathOfMixed_ret (s : ByteArray) (w : World) (hs : s.size ≤ maxLen) : Calls Try.prog 64 #[.string s] w (Ret w (.tuple #[.string (pmV s), .bool (mixB s)])) := by
  rcases Bool.eq_false_or_eq_true (mixB s) with hm | hm
  · have h12 := mixB_size hm
    have e : pmV s = pmTo s s.size := by unfold pmV; rw [if_pos hm]
    have HM := Lib.hid hm
    have HK := Lib.hid (mixB_all hm)
    rw [hm, e]
    clear e hm
    go_enter Try.func64, Try.ntmps64
    go_wp2_with (go_at_call 28; refine (isMixed_ret s _ hs).mono ?_; rintro e w' ⟨rfl, rfl⟩; rw [HM.out])
    go_loopw [4, 11] (fun v i wr => ∃ k : Nat, k ≤ s.size ∧ i = .int .i64 (k : Int) ∧ SRow wr w.heap.size v (pkL s k) ∧ Below w.heap.size w wr) (fun _ i _ => s.size - (intOf i).toNat)
    case atStart => exact ⟨0, Nat.zero_le _, rfl, SRow.nil _ _, Below.refl _ _⟩
    case round =>
      obtain ⟨k, hk, rfl, hrow, hb⟩ := hrel
      obtain ⟨A1, c1, rfl⟩ := hrow.shape
      by_cases hlt : k < s.size
      · have HP : Hid (∀ w, Calls Try.prog 99 #[.int .u8 (s[k].toNat : Int)] w fun e w' => e = .returned (.string (pmB (s.data.toList.getD k 0))) ∧ w = w') := Lib.hid fun w => by
          have := pair_any s[k] w
          rw [pkB_pm (HK.out k hlt)] at this
          rw [at_getD s k hlt]
          exact this
        have HS := Lib.hid (pkL_succ s k)
        have hl := pkL_length s k
        have hlen : (pkL s k).length ≤ 1099511627776 := by omega
        have hz := hb.size
        have HB := Lib.hid hb
        clear hl hb
        generalize pmB (s.data.toList.getD k 0) = u at *
        generalize pkL s k = L at *
        go_wp2_with (first | (go_at_call 99; refine (HP.out _).mono ?_; rintro e w' ⟨rfl, rfl⟩) | (at_builtin; refine wpList_pushS (.tmp 14) (.tmp 19) rfl rfl w.heap.size _ L rfl hrow rfl hlen hz ?_; intro v' w' hrow' hg' hat'))
        have HR2 : Hid (SRow w' w.heap.size v' (pkL s (k + 1))) := Lib.hid (by rw [HS.out]; exact hrow')
        have HB2 := Lib.hid (HB.out.grown hg' hz (fun q hq => (hrow.blk q hq).1))
        clear hrow hrow' hg' hat'
        go_roundw
        case rel => exact ⟨k + 1, by omega, by go_num, HR2.out, HB2.out⟩
        case measure => simp [intOf]; omega
      · obtain rfl : k = s.size := by omega
        have HJ := Lib.hid (joinSteps_any (pkL s s.size) _ w.heap.size wr hrow (by rw [pkL_length]; omega) pkL_size)
        rw [pkL_cat] at HJ
        have HB := Lib.hid hb
        clear hrow hb
        go_wp2_with (go_at_call 100; refine HJ.out.mono ?_; rintro e w2 ⟨rfl, hb2⟩)
        go_ret2
        exact ⟨rfl, HB.out.trans (hb2.mono HB.out.size)⟩
  · have e : pmV s = ⟨#[]⟩ := by unfold pmV; rw [hm]; rfl
    have HM := Lib.hid hm
    rw [hm, e]
    clear e hm
    go_enter Try.func64, Try.ntmps64
    go_wp2_with (go_at_call 28; refine (isMixed_ret s _ hs).mono ?_; rintro e w' ⟨rfl, rfl⟩; rw [HM.out])
    go_ret2
    exact ⟨rfl, Below.refl _ _⟩
/-! ### back -/
def kpC (a b : UInt8) : UInt8 := if a = 85 ∧ b = 85 then 85 else if a = 68 ∧ b = 68 then 68 else if a = 85 ∧ b = 68 then 70 else 0
def kpOk (a b : UInt8) : Bool := !(a == 68 && b == 85)
def two (a b : UInt8) : ByteArray := ⟨#[a, b]⟩
set_option maxRecDepth 100000 in
set_option maxHeartbeats 1600000 in
theorem kindOf_any (a b : UInt8) (ha : a = 85 ∨ a = 68) (hb : b = 85 ∨ b = 68) (w : World) :
    Calls Try.prog 103 #[.string (two a b)] w fun e w' => e = .returned (.tuple #[.int .u8 ((kpC a b).toNat : Int), .bool (kpOk a b)]) ∧ w = w' := by
  have HP : Hid (∀ (c : UInt8) w, Calls Try.prog 99 #[.int .u8 (c.toNat : Int)] w fun e w' => e = .returned (.string (pkB c)) ∧ w = w') := Lib.hid fun c w => pair_any c w
  have H1 : Hid (∀ w, Calls Try.prog 99 #[.int .u8 68] w fun e w' => e = .returned (.string ⟨#[68, 68]⟩) ∧ w = w') := Lib.hid fun w => HP.out 68 w
  have H2 : Hid (∀ w, Calls Try.prog 99 #[.int .u8 70] w fun e w' => e = .returned (.string ⟨#[85, 68]⟩) ∧ w = w') := Lib.hid fun w => HP.out 70 w
  have H3 : Hid (∀ w, Calls Try.prog 99 #[.int .u8 85] w fun e w' => e = .returned (.string ⟨#[85, 85]⟩) ∧ w = w') := Lib.hid fun w => HP.out 85 w
  rcases ha with rfl | rfl <;> rcases hb with rfl | rfl
  · simp only [two]
    go_enter Try.func103, Try.ntmps103
    go_wp2
    refine wp_loop_rounds 4 ?_
    rw [rounds_succ]
    go_wp2_with (go_at_call 99; refine (H1.out _).mono ?_; rintro e w' ⟨rfl, rfl⟩)
    rw [rounds_succ]
    go_wp2_with (go_at_call 99; refine (H2.out _).mono ?_; rintro e w' ⟨rfl, rfl⟩)
    rw [rounds_succ]
    go_wp2_with (go_at_call 99; refine (H3.out _).mono ?_; rintro e w' ⟨rfl, rfl⟩)
    go_ret2
    exact ⟨rfl, rfl⟩
  · simp only [two]
    go_enter Try.func103, Try.ntmps103
    go_wp2
    refine wp_loop_rounds 4 ?_
    rw [rounds_succ]
    go_wp2_with (go_at_call 99; refine (H1.out _).mono ?_; rintro e w' ⟨rfl, rfl⟩)
    rw [rounds_succ]
    go_wp2_with (go_at_call 99; refine (H2.out _).mono ?_; rintro e w' ⟨rfl, rfl⟩)
    go_ret2
    exact ⟨rfl, rfl⟩
  · simp only [two]
    go_enter Try.func103, Try.ntmps103
    go_wp2
    refine wp_loop_rounds 4 ?_
    rw [rounds_succ]
    go_wp2_with (go_at_call 99; refine (H1.out _).mono ?_; rintro e w' ⟨rfl, rfl⟩)
    rw [rounds_succ]
    go_wp2_with (go_at_call 99; refine (H2.out _).mono ?_; rintro e w' ⟨rfl, rfl⟩)
    rw [rounds_succ]
    go_wp2_with (go_at_call 99; refine (H3.out _).mono ?_; rintro e w' ⟨rfl, rfl⟩)
    rw [rounds_succ]
    go_wp2
    go_ret2
    exact ⟨rfl, rfl⟩
  · simp only [two]
    go_enter Try.func103, Try.ntmps103
    go_wp2
    refine wp_loop_rounds 4 ?_
    rw [rounds_succ]
    go_wp2_with (go_at_call 99; refine (H1.out _).mono ?_; rintro e w' ⟨rfl, rfl⟩)
    go_ret2
    exact ⟨rfl, rfl⟩
theorem kpOk_no {a b : UInt8} (h : kpOk a b = false) : a = 68 ∧ b = 85 := by
  unfold kpOk at h
  simpa using h
theorem kp_mp {a b : UInt8} (ha : a = 85 ∨ a = 68) (hb : b = 85 ∨ b = 68) (h : kpOk a b = true) : strOf [kpC a b] = mpB a b := by
  rcases ha with rfl | rfl <;> rcases hb with rfl | rfl <;> first | rfl | cases h
theorem two_ext (s : ByteArray) (k : Nat) (h : k + 2 ≤ s.size) : s.extract k (k + 2) = two s[k] s[k + 1] := by
  have h1 := ext2_list s k h
  apply ByteArray.ext
  apply Array.toList_inj.1
  rw [ByteArray.toList_eq] at h1
  exact h1
theorem mpTo_list (s : ByteArray) (j : Nat) : mpTo s (j + 1) = strOf ((mpTo s j).data.toList ++ (mpB (s.data.toList.getD (2 * j) 0) (s.data.toList.getD (2 * j + 1) 0)).data.toList) := by
  rw [mpTo]
  apply ByteArray.ext
  apply Array.toList_inj.1
  simp [strOf]
set_option maxRecDepth 100000 in
set_option maxHeartbeats 1600000 in
theorem mixedOfPath_ret (s : ByteArray) (w : World) (hs : s.size ≤ maxLen) : Calls Try.prog 66 #[.string s] w (Ret w (.tuple #[.string (moV s), .bool (moOk s)])) := by
  rcases Bool.eq_false_or_eq_true (pathB s) with hp | hp
  case inr =>
    have e1 : moOk s = false := by unfold moOk; rw [hp]; rfl
    have e2 : moV s = ⟨#[]⟩ := by unfold moV; rw [e1]; rfl
    rw [e1, e2]
    clear e1 e2
    go_enter Try.func66, Try.ntmps66
    go_wp2_with (go_at_call 102; refine (isPath_any s _ hs).mono ?_; rintro e w' ⟨rfl, rfl⟩)
    go_ret2
    exact ⟨rfl, Below.refl _ _⟩
  have h40 := ((pathB_iff s).1 hp).1
  have HPP := Lib.hid hp
  by_cases hev : s.size % 2 = 0
  case neg =>
    have e1 : moOk s = false := by unfold moOk; rw [decide_eq_false hev, Bool.and_false]; rfl
    have e2 : moV s = ⟨#[]⟩ := by unfold moV; rw [e1]; rfl
    have t0 : ((s.size : Int) % 2 == 0) = false := by simp; omega
    rw [e1, e2]
    clear e1 e2 hev
    go_enter Try.func66, Try.ntmps66
    go_wp2_with (go_at_call 102; refine (isPath_any s _ hs).mono ?_; rintro e w' ⟨rfl, rfl⟩)
    go_ret2
    exact ⟨rfl, Below.refl _ _⟩
  have t0 : ((s.size : Int) % 2 == 0) = true := by simp; omega
  obtain ⟨m, hm⟩ : ∃ m, s.size = 2 * m := ⟨s.size / 2, by omega⟩
  have em : s.size / 2 = m := by omega
  have eo : moOk s = (mpOk s m 0 && mixB (mpTo s m)) := by unfold moOk; rw [hp, decide_eq_true hev, em]; rfl
  have HV : Hid (moV s = if moOk s = true then mpTo s m else ⟨#[]⟩) := Lib.hid (by unfold moV; rw [em])
  have HO := Lib.hid eo
  have HM := Lib.hid hm
  clear eo em hev
  go_enter Try.func66, Try.ntmps66
  go_wp2_with (go_at_call 102; refine (isPath_any s _ hs).mono ?_; rintro e w' ⟨rfl, rfl⟩)
  go_loopw [4, 5] (fun v i wr => ∃ j : Nat, j ≤ m ∧ i = .int .i64 ((2 * j : Nat) : Int) ∧ BOwn wr w.heap.size v (mpTo s j).data.toList ∧ Below w.heap.size w wr ∧ Hid (mpOk s (m - j) j = mpOk s m 0)) (fun _ i _ => s.size - (intOf i).toNat)
  case atStart => exact ⟨0, Nat.zero_le _, rfl, BOwn.nil _ _, Below.refl _ _, Lib.hid rfl⟩
  case round =>
    obtain ⟨j, hj, rfl, hrow, hb, HF⟩ := hrel
    clear hp
    obtain ⟨A1, c1, rfl⟩ := hrow.shape
    have hsz := mpTo_size s j
    have hlen : (mpTo s j).data.toList.length ≤ 1099511627776 := by
      rw [show (mpTo s j).data.toList.length = (mpTo s j).size by simp]; omega
    by_cases hlt : j < m
    · have hk1 : 2 * j + 1 < s.size := by omega
      have HE := two_ext s (2 * j) (by omega)
      have HS : Hid ((mpTo s (j + 1)).data.toList = (mpTo s j).data.toList ++ (mpB s[2 * j] s[2 * j + 1]).data.toList) := Lib.hid (by rw [mpTo_list, at_getD s _ (by omega), at_getD s _ hk1, strOf_list])
      have hu0 := ud_two (((pathB_iff s).1 HPP.out).2 (2 * j) (by omega))
      have hu1 := ud_two (((pathB_iff s).1 HPP.out).2 (2 * j + 1) hk1)
      have HF1 := HF.out
      rw [show m - j = (m - (j + 1)) + 1 by omega] at HF1
      have HN : Hid (s[2 * j] = 68 ∧ s[2 * j + 1] = 85 → mpOk s m 0 = false) := Lib.hid fun e => by
        rw [← HF1]
        exact mpOk_no ⟨by rw [at_getD s _ (by omega)]; exact e.1, by rw [at_getD s _ hk1]; exact e.2⟩
      have HG : Hid (¬ (s[2 * j] = 68 ∧ s[2 * j + 1] = 85) → mpOk s (m - (j + 1)) (j + 1) = mpOk s m 0) := Lib.hid fun e => by
        rw [← HF1]
        exact (mpOk_go (by rw [at_getD s _ (by omega), at_getD s _ hk1]; exact e)).symm
      clear HF1 HF
      have i1 : (2 * (j : Int)) < (s.size : Int) := by omega
      have i2 : (2 * (j : Int)) + 2 ≤ (s.size : Int) := by omega
      have HK : Hid (∀ w, Calls Try.prog 103 #[.string (s.extract (2 * j) (2 * j + 2))] w fun e w' => e = .returned (.tuple #[.int .u8 ((kpC s[2 * j] s[2 * j + 1]).toNat : Int), .bool (kpOk s[2 * j] s[2 * j + 1])]) ∧ w = w') := Lib.hid fun w => by
        rw [HE]
        exact kindOf_any _ _ hu0 hu1 w
      have hz := hb.size
      have HB := Lib.hid hb
      clear HE hb
      rcases Bool.eq_false_or_eq_true (kpOk s[2 * j] s[2 * j + 1]) with hk | hk
      · have HL : Hid (strOf [kpC s[2 * j] s[2 * j + 1]] = mpB s[2 * j] s[2 * j + 1]) := Lib.hid (kp_mp hu0 hu1 hk)
        have HGG := Lib.hid (HG.out (by
          rintro ⟨e1, e2⟩
          rw [e1, e2] at hk
          cases hk))
        rw [hk] at HK
        clear HN HG hk hu0 hu1
        rw [← HL.out, strOf_list] at HS
        clear HL
        generalize kpC s[2 * j] s[2 * j + 1] = u at *
        generalize (mpTo s j).data.toList = L at *
        clear hsz
        go_wp2_with (first | (go_at_call 103; refine (HK.out _).mono ?_; rintro e w' ⟨rfl, rfl⟩) | (at_builtin; refine wpList_pushB u (.tmp 34) (.tmp 36) rfl rfl w.heap.size _ L rfl hrow rfl hlen hz ?_; intro v' w' hrow' hg' hat'))
        have HR2 : Hid (BOwn w' w.heap.size v' (mpTo s (j + 1)).data.toList) := Lib.hid (by rw [HS.out]; exact hrow')
        have HB2 := Lib.hid (HB.out.grown hg' hz (fun q hq => (hrow.blk q hq).1))
        clear hrow hrow' hg' hat'
        go_roundw
        case rel => exact ⟨j + 1, by omega, by go_num, HR2.out, HB2.out, HGG⟩
        case measure => simp [intOf]; omega
      · have HGG := Lib.hid (HN.out (kpOk_no hk))
        have e1 : Hid (moOk s = false) := Lib.hid (by rw [HO.out, HGG.out]; rfl)
        have e2 : Hid (moV s = ⟨#[]⟩) := Lib.hid (by rw [HV.out, e1.out]; rfl)
        rw [hk] at HK
        clear HN HG hk hu0 hu1
        generalize kpC s[2 * j] s[2 * j + 1] = u at *
        clear hrow hlen
        go_wp2_with (go_at_call 103; refine (HK.out _).mono ?_; rintro e w' ⟨rfl, rfl⟩)
        go_ret2
        exact ⟨by rw [e1.out, e2.out]; rfl, HB.out⟩
    · obtain rfl : j = m := by omega
      have HKK : Hid (mpOk s j 0 = true) := Lib.hid (by rw [← HF.out, Nat.sub_self]; rfl)
      obtain ⟨L, hL⟩ : ∃ L, L = (mpTo s j).data.toList := ⟨_, rfl⟩
      have hst : strOf L = mpTo s j := by rw [hL]; exact strOf_self _
      rw [← hL] at hrow
      rw [← hL]
      have hcv := run_str_own hrow
      have HMX := Lib.hid (fun w => isMixed_ret (strOf L) w (by rw [hst, hsz]; unfold maxLen; omega))
      have HB := Lib.hid hb
      have HOO : Hid (moOk s = mixB (strOf L)) := Lib.hid (by rw [HO.out, HKK.out, Bool.true_and, hst])
      have HVV : Hid (moV s = if moOk s = true then strOf L else ⟨#[]⟩) := Lib.hid (by rw [hst]; exact HV.out)
      clear hst hb hrow HF hL hlen hsz
      rcases Bool.eq_false_or_eq_true (mixB (strOf L)) with hm2 | hm2
      · rw [hm2] at HMX
        have e1 : Hid (moOk s = true) := Lib.hid (by rw [HOO.out, hm2])
        have e2 : Hid (moV s = strOf L) := Lib.hid (by rw [HVV.out, if_pos e1.out])
        clear hm2 HOO HVV HV
        generalize strOf L = T at *
        go_wp2_with (go_at_call 28; refine (HMX.out _).mono ?_; rintro e w' ⟨rfl, rfl⟩)
        go_ret2
        exact ⟨by rw [e1.out, e2.out]; rfl, HB.out⟩
      · rw [hm2] at HMX
        have e1 : Hid (moOk s = false) := Lib.hid (by rw [HOO.out, hm2])
        have e2 : Hid (moV s = ⟨#[]⟩) := Lib.hid (by rw [HVV.out, e1.out]; rfl)
        clear hm2 HOO HVV HV
        generalize strOf L = T at *
        go_wp2_with (go_at_call 28; refine (HMX.out _).mono ?_; rintro e w' ⟨rfl, rfl⟩)
        go_ret2
        exact ⟨by rw [e1.out, e2.out]; rfl, HB.out⟩
theorem pomS_ret (s : ByteArray) (w : World) (hs : s.size ≤ maxLen) : Calls Try.prog 63 #[.string s] w (Ret w (.tuple #[.string (pmV s), .bool (mixB s)])) :=
  (specPathOfMixed_ret s w hs).mono fun e w' ⟨h1, h2⟩ => ⟨h1, by subst h2; exact Below.refl _ _⟩
theorem mopS_ret (s : ByteArray) (w : World) (hs : s.size ≤ maxLen) : Calls Try.prog 65 #[.string s] w (Ret w (.tuple #[.string (moV s), .bool (moOk s)])) :=
  (specMixedOfPath_ret s w hs).mono fun e w' ⟨h1, h2⟩ => ⟨h1, by subst h2; exact Below.refl _ _⟩
end Go.Proofs.Ytnmmgpmhpjjehaa
