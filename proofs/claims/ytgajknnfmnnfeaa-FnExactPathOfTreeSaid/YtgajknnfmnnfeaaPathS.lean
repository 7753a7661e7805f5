/- The model's PathOfTree. -/
import Derived.Test.YtgajknnfmnnfeaaDepS
import Derived.Test.YtgajknnfmnnfeaaForDep
import Derived.Test.YtgajknnfmnnfeaaPathT
namespace Go.Proofs.Ytgajknnfmnnfeaa
open Go.RowKit
set_option linter.unusedVariables false
theorem strOf_snocT (l : List UInt8) (c : UInt8) : strOf l ++ (⟨#[c]⟩ : ByteArray) = strOf (l ++ [c]) := by
  apply ByteArray.ext
  rw [ByteArray.data_append]
  simp [strOf]
theorem rep_snoc (l : List UInt8) (t : Nat) (c : UInt8) : (l ++ List.replicate t c) ++ [c] = l ++ List.replicate (t + 1) c := by
  rw [List.append_assoc, List.replicate_succ']
set_option maxHeartbeats 4000000 in
theorem specPathOfTree_yes (A : Option Addr) (cap : Nat) (xs : List Int) (w : World) (h : RInts w (.slice A xs.length cap) xs) (hl : xs.length ≤ 1048576) (hv : treeB xs = true) (c : For) (hf : (For.node c For.nil).enc = xs) (hv2 : forV xs = true) :
    Calls Try.prog 44 #[.slice A xs.length cap] w (Ret w (.tuple #[.string (strOf c.pb), .bool true])) := by
  have hd : degB xs = true := by unfold forV at hv2; rw [Bool.and_eq_true] at hv2; exact hv2.1
  have hn := (degB_of hd).1
  have hs : xs.length = c.size + 1 := by rw [← hf, For.enc, For.enc, List.append_nil, List.length_cons, c.enc_length]
  have he : exc xs = 1 := by unfold treeB at hv; rw [Bool.and_eq_true, decide_eq_true_iff] at hv; exact hv.2
  have HI : Hid (Calls Try.prog 66 #[.slice A xs.length cap] w fun e w' => e = .returned (.bool true) ∧ w = w') := Lib.hid (by rw [← hv2]; exact cyIs_any _ xs w h hl)
  have HX : Hid (Calls Try.prog 61 #[.slice A xs.length cap] w fun e w' => e = .returned (.int .i64 1) ∧ w = w') := Lib.hid (by rw [← he]; exact cyExcess_any _ xs w h hd)
  have hdep : depV xs = 0 :: c.dep 1 := by
    rw [depV_dep hv2 hf, For.dep, For.dep, List.append_nil]
    rfl
  have HD : Hid (Calls Try.prog 73 #[.slice A xs.length cap] w (IntsNew w (0 :: c.dep 1))) := Lib.hid (by rw [← hdep]; exact cyDepths_ret _ xs w h hv2)
  have hbd : ∀ d ∈ c.dep 1, 1 ≤ d ∧ d ≤ 16 := fun d hm => by
    refine ⟨For.dep_ge c 1 d hm, ?_⟩
    obtain ⟨i, hi, rfl⟩ := List.mem_iff_getElem.1 hm
    have h1 := dSt_bd (parV xs) xs.length xs.length (i + 1)
    rw [← depV_yes hv2, hdep, List.getD_cons_succ, List.getD_eq_getElem?_getD, List.getElem?_eq_getElem hi] at h1
    have h2 := h1.2
    simp only [Option.getD_some] at h2
    omega
  obtain ⟨hpt, hpt0⟩ := pt_tree c
  have HPT := Lib.hid hpt
  have hdl : (c.dep 1).length = c.size := c.dep_length 1
  generalize hds : c.dep 1 = ds at *
  have HSN := Lib.hid (fun k hk => ptRun_snoc ds k hk ([], 0))
  have HBD : Hid (∀ k, k < ds.length → 1 ≤ ds.getD k 0 ∧ ds.getD k 0 ≤ 16) := Lib.hid fun k hk => hbd _ (by rw [List.getD_eq_getElem?_getD, List.getElem?_eq_getElem hk]; exact List.getElem_mem _)
  have HLE : Hid (∀ k, 0 ≤ (ptRun (ds.take k) ([], 0)).2 ∧ (ptRun (ds.take k) ([], 0)).2 ≤ 16) := Lib.hid fun k => ptRun_le _ 16 _ (fun d hm => by have := hbd d (List.mem_of_mem_take hm); omega) ⟨Int.le_refl _, by decide⟩
  have HFULL : Hid (ptRun (ds.take ds.length) ([], 0) = ptRun ds ([], 0)) := Lib.hid (by rw [List.take_length])
  clear h hv hf hv2 hd he hdep hbd hds hpt hpt0
  have hn16 : ds.length ≤ 15 := by omega
  clear hdl hs hn
  go_enter Try.func44, Try.ntmps44
  go_wp2_with (first | (go_at_call 66; refine HI.out.mono ?_; rintro e w' ⟨rfl, rfl⟩) | (go_at_call 61; refine HX.out.mono ?_; rintro e w' ⟨rfl, rfl⟩) | (go_at_call 73; refine HD.out.mono ?_; rintro e w1 ⟨v1, rfl, hr1, hb1⟩; obtain ⟨g1, c1, rfl, hg1B, hg1⟩ := hr1.form' (n := ds.length + 1) (by simp) (by omega)))
  have HC : Hid (∀ k, k ≤ ds.length → w1.cell? ⟨g1, k, none⟩ = some (.int .i64 ((0 :: ds).getD k 0))) := Lib.hid fun k hk => hr1.cell (j := k) (by simp; omega)
  clear hr1
  go_loop [4, 5, 6, 7, 19] (fun so de q1 q2 i => ∃ (k : Nat) (S : List UInt8) (e : Int), k ≤ ds.length + 1 ∧ i = .int .i64 (k : Int) ∧ so = .string (strOf S) ∧ de = .int .i64 e ∧ Hid (ptRun (ds.take (k - 1)) ([], 0) = (S, e)) ∧ (0 ≤ e ∧ e ≤ 16) ∧ S.length ≤ 20 * k) (fun _ _ _ _ i => ds.length + 1 - (intOf i).toNat)
  case atStart => exact ⟨0, [], 0, by omega, rfl, rfl, rfl, Lib.hid rfl, by omega, by simp⟩
  case round =>
    obtain ⟨k, S, e, hk, rfl, rfl, rfl, HP, ⟨he1, he2⟩, hSl⟩ := hrel
    by_cases hlt : k < ds.length + 1
    · have e1 := HC.out k (by omega)
      cases k with
      | zero =>
        rw [List.getD_cons_zero] at e1
        have hz : e = 0 := by have := congrArg Prod.snd HP.out; exact this.symm
        subst hz
        go_wp2_with fail
        refine wp_loop_rounds 1 ?_; rw [rounds_succ]
        go_wp2_with fail
        go_round
        case rel => exact ⟨1, S, 0, by omega, rfl, rfl, rfl, HP, by omega, by omega⟩
        case measure => first | (simp [intOf]; done) | (simp [intOf]; omega)
      | succ k =>
        rw [List.getD_cons_succ] at e1
        have hd := HBD.out k (by omega)
        have HS1 : Hid (ptRun (ds.take (k + 1)) ([], 0) = ptStep (S, e) (ds.getD k 0)) := Lib.hid (by rw [HSN.out k (by omega)]; rw [show k = k + 1 - 1 from rfl, HP.out])
        clear HP HSN
        generalize ds.getD k 0 = d at *
        have hkp : 0 < (k : Int) + 1 := by omega
        go_wp2_with fail
        go_loop [4, 5] (fun so de => ∃ t : Nat, t ≤ (e + 1 - d).toNat ∧ so = .string (strOf (S ++ List.replicate t 68)) ∧ de = .int .i64 (e - (t : Int))) (fun _ de => (intOf de + 1).toNat)
        case atStart => exact ⟨0, by omega, by simp, by go_num⟩
        case round =>
          obtain ⟨t, ht, rfl, rfl⟩ := hrel
          by_cases hlt2 : d ≤ e - (t : Int)
          · have HCAT : Hid (strOf (S ++ List.replicate t 68) ++ (⟨#[68]⟩ : ByteArray) = strOf (S ++ List.replicate (t + 1) 68)) := Lib.hid (by rw [strOf_snocT, rep_snoc])
            have hS1 : (strOf (S ++ List.replicate t 68)).size ≤ 1000 := by rw [strOf_size, List.length_append, List.length_replicate]; omega
            generalize strOf (S ++ List.replicate t 68) = S1 at *
            go_wp2_with fail
            go_round
            case rel => exact ⟨t + 1, by omega, by rw [← HCAT.out], by go_num⟩
            case measure => simp [intOf]; omega
          · have hte : t = (e + 1 - d).toNat := by omega
            have HCAT : Hid (strOf (S ++ List.replicate t 68) ++ (⟨#[85]⟩ : ByteArray) = strOf (S ++ List.replicate t 68 ++ [85])) := Lib.hid (strOf_snocT _ _)
            have HS2 : Hid (ptRun (ds.take (k + 1)) ([], 0) = (S ++ List.replicate t 68 ++ [85], d)) := Lib.hid (by rw [HS1.out, ptStep, ← hte])
            have hS1 : (strOf (S ++ List.replicate t 68)).size ≤ 1000 := by rw [strOf_size, List.length_append, List.length_replicate]; omega
            have HS0 : Hid ((S ++ List.replicate t 68 ++ [85]).length ≤ 20 * (k + 2)) := Lib.hid (by simp; omega)
            generalize S ++ List.replicate t 68 = S0 at *
            generalize hS2 : strOf S0 = S1 at *
            clear hS2 hte
            go_wp2_with fail
            go_round
            case rel => exact ⟨k + 2, S0 ++ [85], d, by omega, by go_num, by rw [← HCAT.out], rfl, HS2, by omega, HS0.out⟩
            case measure => first | (simp [intOf]; done) | (simp [intOf]; omega)
    · have hk2 : k = ds.length + 1 := by omega
      subst hk2
      have HE : Hid (S ++ List.replicate e.toNat 68 = c.pb) := Lib.hid (by
        have h1 := HP.out
        rw [show ds.length + 1 - 1 = ds.length from rfl, HFULL.out] at h1
        have h2 := HPT.out
        rw [h1] at h2
        exact h2)
      clear HP HSN
      obtain ⟨E, rfl⟩ := Int.eq_ofNat_of_zero_le he1
      rw [Int.toNat_natCast] at HE
      go_wp2_with fail
      go_loop [4, 5] (fun so de => ∃ t : Nat, t ≤ E ∧ so = .string (strOf (S ++ List.replicate t 68)) ∧ de = .int .i64 ((E : Int) - (t : Int))) (fun _ de => (intOf de).toNat)
      case atStart => exact ⟨0, by omega, by simp, by go_num⟩
      case round =>
        obtain ⟨t, ht, rfl, rfl⟩ := hrel
        by_cases hlt2 : t < E
        · have HCAT : Hid (strOf (S ++ List.replicate t 68) ++ (⟨#[68]⟩ : ByteArray) = strOf (S ++ List.replicate (t + 1) 68)) := Lib.hid (by rw [strOf_snocT, rep_snoc])
          have hp : 0 < (E : Int) - (t : Int) := by omega
          have hS1 : (strOf (S ++ List.replicate t 68)).size ≤ 1000 := by rw [strOf_size, List.length_append, List.length_replicate]; omega
          generalize strOf (S ++ List.replicate t 68) = S1 at *
          go_wp2_with fail
          go_round
          case rel => exact ⟨t + 1, by omega, by rw [← HCAT.out], by go_num⟩
          case measure => simp [intOf]; omega
        · have hte : t = E := by omega
          subst hte
          have hp : ¬ 0 < (t : Int) - (t : Int) := by omega
          go_wp2_with fail
          go_ret2
          rw [HE.out]
          exact ⟨rfl, hb1⟩
theorem specPathOfTree_ret (v : Value) (xs : List Int) (w : World) (h : RInts w v xs) (hl : xs.length ≤ 1048576) :
    Calls Try.prog 44 #[v] w (Ret w (.tuple #[.string (ptV xs), .bool (treeB xs)])) := by
  obtain ⟨A, cap, rfl⟩ := h.shape
  rcases Bool.eq_false_or_eq_true (treeB xs) with hv | hv
  · obtain ⟨hf, hv2⟩ := (tree_ex hv).choose_spec
    have e : ptV xs = strOf (tree_ex hv).choose.pb := by unfold ptV; rw [dif_pos hv]
    rw [e, hv]
    exact specPathOfTree_yes A cap xs w h hl hv _ hf hv2
  · have HI := Lib.hid (cyIs_any _ xs w h hl)
    rw [ptV_no hv, hv]
    rcases Bool.eq_false_or_eq_true (forV xs) with hf | hf
    · have hd : degB xs = true := by unfold forV at hf; rw [Bool.and_eq_true] at hf; exact hf.1
      have HX := Lib.hid (cyExcess_any _ xs w h hd)
      have he : exc xs ≠ 1 := fun he => by unfold treeB at hv; rw [hf, decide_eq_true he] at hv; cases hv
      have hn := (degB_of hd).1
      have hbb := sumT_bd hd xs.length (Nat.le_refl _)
      have hbd : -240 ≤ exc xs ∧ exc xs ≤ 16 := by unfold exc; omega
      have hq : (exc xs == 1) = false := beq_eq_false_iff_ne.2 he
      rw [hf] at HI
      clear h hf hd hv hn hbb
      generalize exc xs = r at *
      go_enter Try.func44, Try.ntmps44
      go_wp2_with (first | (go_at_call 66; refine HI.out.mono ?_; rintro e w' ⟨rfl, rfl⟩) | (go_at_call 61; refine HX.out.mono ?_; rintro e w' ⟨rfl, rfl⟩))
      go_ret2
      exact ⟨rfl, Below.refl _ _⟩
    · rw [hf] at HI
      clear h hf hv
      go_enter Try.func44, Try.ntmps44
      go_wp2_with (go_at_call 66; refine HI.out.mono ?_; rintro e w' ⟨rfl, rfl⟩)
      go_ret2
      exact ⟨rfl, Below.refl _ _⟩
end Go.Proofs.Ytgajknnfmnnfeaa
