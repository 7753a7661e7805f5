/- The program's GoodRotations. -/
import Derived.Test.YtgajknnfmnnfeaaRotI
import Derived.Test.YtgajknnfmnnfeaaGoodRot
namespace Go.Proofs.Ytgajknnfmnnfeaa
open Go.RowKit
set_option linter.unusedVariables false
set_option maxHeartbeats 1600000 in
theorem goodRotations_ret (v : Value) (xs : List Int) (w : World) (h : RInts w v xs) (hl : xs.length ≤ 1048576) :
    Calls Try.prog 28 #[v] w (IntsRet w (degB xs) (goodV xs)) := by
  obtain ⟨A, c, rfl⟩ := h.shape
  have H := Lib.hid h
  have HG : Hid (Calls Try.prog 21 #[.slice A xs.length c] w fun e w' => e = .returned (.bool (degB xs)) ∧ w = w') := Lib.hid (isDegrees_any _ xs w h hl)
  rcases Bool.eq_false_or_eq_true (degB xs) with hd | hd
  · have hn := (degB_of hd).1
    have e2 : goodV xs = goods xs xs.length := by unfold goodV; rw [hd]; rfl
    have HD := Lib.hid hd
    have HR : Hid (∀ w1 k, Below w.heap.size w w1 → k < xs.length → Calls Try.prog 32 #[.slice A xs.length c, .int .i64 (k : Int)] w1 (IntsRet w1 true (rot xs k))) :=
      Lib.hid fun w1 k hb hk => by
        have r := rotateList_ret _ xs (k : Int) w1 (H.out.below hb) hl
        have e1 : rotOk xs (k : Int) = true := by unfold rotOk; rw [HD.out, inB_yes (by omega)]; rfl
        have e2 : rotV xs (k : Int) = rot xs k := by unfold rotV; rw [e1]; rfl
        rwa [e1, e2] at r
    have HF : Hid (∀ w1 B v1 k, k < xs.length → IRow w1 B v1 (rot xs k) → Calls Try.prog 26 #[v1] w1 fun e w' => e = .returned (.tuple #[.bool (forB (rot xs k)), .bool true]) ∧ w1 = w') :=
      Lib.hid fun w1 B v1 k hk hr => by
        have r := isForest_any v1 (rot xs k) w1 (RInts.of_row hr) (by rw [rot_length xs k (by omega)]; exact hl)
        unfold forV at r
        rwa [degB_rot HD.out (by omega), Bool.true_and] at r
    have HGS : Hid (∀ k, goods xs (k + 1) = if forB (rot xs k) then goods xs k ++ [(k : Int)] else goods xs k) := Lib.hid fun k => rfl
    have HGL : Hid (∀ k, (goods xs k).length ≤ k) := Lib.hid (goods_length xs)
    rw [hd, e2]
    rw [hd] at HG
    clear h e2 hd
    go_enter Try.func28, Try.ntmps28
    go_wp2_with (go_at_call 21; refine HG.out.mono ?_; rintro e w' ⟨rfl, rfl⟩)
    go_loopw [4, 5, 6, 7, 8, 9, 15] (fun v q1 q2 q3 q4 q5 i wr => ∃ k : Nat, k ≤ xs.length ∧ i = .int .i64 (k : Int) ∧ IRow wr w.heap.size v (goods xs k) ∧ Below w.heap.size w wr) (fun _ _ _ _ _ _ i _ => xs.length - (intOf i).toNat)
    case atStart => exact ⟨0, by omega, rfl, IRow.nil _ _, Below.refl _ _⟩
    case round =>
      obtain ⟨k, hk, rfl, hrow, hb⟩ := hrel
      have hgl := HGL.out k
      have hsz := hb.size
      by_cases hlt : k < xs.length
      · have HR1 := Lib.hid (HR.out wr k hb hlt)
        have HF1 := Lib.hid (HF.out · · · k hlt)
        have HG1 := Lib.hid (HGS.out k)
        clear HR HF HGS HGL
        generalize goods xs k = L at *
        by_cases hf : forB (rot xs k) = true
        · rw [hf] at HF1
          rw [if_pos hf] at HG1
          clear hf
          go_wp2_with (first
            | (go_at_call 32; refine HR1.out.mono ?_; rintro e w1 ⟨v1, rfl, hr1, hb1⟩; have hrow1 := hrow.below hb1; have hb01 : Below w.heap.size w w1 := hb.trans (hb1.mono hsz); have hsz1 : w.heap.size ≤ w1.heap.size := hb01.size; obtain ⟨A1, c1, rfl⟩ := hr1.shape)
            | (go_at_call 26; refine (HF1.out _ _ _ hr1).mono ?_; rintro e w' ⟨rfl, rfl⟩)
            | (at_builtin; refine wpList_push (.tmp 30) (.tmp 32) rfl rfl w.heap.size _ L rfl hrow1 rfl (by omega) hsz1 ?_; intro v' w' hrow' hg' hat'))
          go_roundw
          case rel =>
            exact ⟨k + 1, by omega, by go_num, by rw [HG1.out]; exact hrow', hb01.grown hg' hsz1 (fun q hq => (hrow1.blk q hq).1)⟩
          case measure => first | (simp [intOf]; done) | (simp [intOf]; omega)
        · rw [Bool.not_eq_true] at hf
          rw [if_neg (by rw [hf]; simp)] at HG1
          rw [hf] at HF1
          clear hf
          go_wp2_with (first
            | (go_at_call 32; refine HR1.out.mono ?_; rintro e w1 ⟨v1, rfl, hr1, hb1⟩; have hrow1 := hrow.below hb1; have hb01 : Below w.heap.size w w1 := hb.trans (hb1.mono hsz); obtain ⟨A1, c1, rfl⟩ := hr1.shape)
            | (go_at_call 26; refine (HF1.out _ _ _ hr1).mono ?_; rintro e w' ⟨rfl, rfl⟩))
          go_roundw
          case rel =>
            exact ⟨k + 1, by omega, by go_num, by rw [HG1.out]; exact hrow1, hb01⟩
          case measure => first | (simp [intOf]; done) | (simp [intOf]; omega)
      · have hk2 : k = xs.length := by omega
        subst hk2
        go_wp2
        go_ret2
        exact ⟨_, rfl, hrow, hb⟩
  · have e2 : goodV xs = [] := by unfold goodV; rw [hd]; rfl
    rw [hd, e2]
    rw [hd] at HG
    clear h e2 hd
    go_enter Try.func28, Try.ntmps28
    go_wp2_with (go_at_call 21; refine HG.out.mono ?_; rintro e w' ⟨rfl, rfl⟩)
    go_ret2
    exact ⟨_, rfl, IRow.nil _ _, Below.refl _ _⟩
end Go.Proofs.Ytgajknnfmnnfeaa
