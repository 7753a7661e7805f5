/- GoodRotations. -/
import Derived.Test.YtgajknnfmnnfeaaRot
namespace Go.Proofs.Ytgajknnfmnnfeaa
open Go.RowKit
set_option linter.unusedVariables false
theorem degB_rot {xs : List Int} {k : Nat} (h : degB xs = true) (hk : k ≤ xs.length) : degB (rot xs k) = true := by
  unfold degB at *
  rw [rot_length xs k hk]
  rw [Bool.and_eq_true] at h ⊢
  refine ⟨h.1, ?_⟩
  have h2 := h.2
  unfold allB at *
  rw [List.all_eq_true] at *
  intro x hx
  unfold rot at hx
  rw [List.mem_append] at hx
  rcases hx with hx | hx
  · exact h2 x (List.mem_of_mem_drop hx)
  · exact h2 x (List.mem_of_mem_take hx)
/-- the good ones among the first k rotations -/
def goods (xs : List Int) : Nat → List Int
  | 0 => []
  | k + 1 => if forB (rot xs k) then goods xs k ++ [(k : Int)] else goods xs k
theorem goods_length (xs : List Int) : ∀ k, (goods xs k).length ≤ k
  | 0 => by simp [goods]
  | k + 1 => by
    have := goods_length xs k
    rw [goods]
    split
    · rw [List.length_append]; simp; omega
    · omega
def goodV (xs : List Int) : List Int := if degB xs then goods xs xs.length else []
theorem goodV_len (xs : List Int) (hl : xs.length ≤ 1048576) : (goodV xs).length ≤ 1048577 := by
  unfold goodV
  split
  · have := goods_length xs xs.length
    omega
  · simp
set_option maxHeartbeats 1600000 in
theorem specGoodRotations_ret (v : Value) (xs : List Int) (w : World) (h : RInts w v xs) (hl : xs.length ≤ 1048576) :
    Calls Try.prog 27 #[v] w (IntsRet w (degB xs) (goodV xs)) := by
  obtain ⟨A, c, rfl⟩ := h.shape
  obtain ⟨hc, hm⟩ := h.room _ _ _ rfl
  have H := Lib.hid h
  have HG : Hid (∀ w, RInts w (.slice A xs.length c) xs → Calls Try.prog 58 #[.slice A xs.length c] w fun e w' => e = .returned (.bool (degB xs)) ∧ w = w') := Lib.hid fun w h => cyGood_any _ xs w h hl
  rcases Bool.eq_false_or_eq_true (degB xs) with hd | hd
  · have hn := (degB_of hd).1
    have e2 : goodV xs = goods xs xs.length := by unfold goodV; rw [hd]; rfl
    have HD := Lib.hid hd
    obtain ⟨g, o, rfl, hg, hcells⟩ := degB_cells h hd
    have HR : Hid (∀ w1 k, Below w.heap.size w w1 → k < xs.length → Calls Try.prog 63 #[.slice (some ⟨g, o, none⟩) xs.length c, .int .i64 (k : Int)] w1 (IntsNew w1 (rot xs k))) :=
      Lib.hid fun w1 k hb hk => cyRotate_any g o c k xs w1 (Nat.lt_of_lt_of_le hg hb.size) (fun j hj => (hb.cell (p := ⟨g, o + j, none⟩) hg).trans (hcells j hj)) hl hc hm hk
    have HF : Hid (∀ w1 B v1 k, k < xs.length → IRow w1 B v1 (rot xs k) → Calls Try.prog 62 #[v1] w1 fun e w' => e = .returned (.bool (forB (rot xs k))) ∧ w1 = w') :=
      Lib.hid fun w1 B v1 k hk hr => cyForest_any v1 (rot xs k) w1 (RInts.of_row hr) (degB_rot HD.out (by omega))
    have HGS : Hid (∀ k, goods xs (k + 1) = if forB (rot xs k) then goods xs k ++ [(k : Int)] else goods xs k) := Lib.hid fun k => rfl
    have HGL : Hid (∀ k, (goods xs k).length ≤ k) := Lib.hid (goods_length xs)
    rw [hd, e2]
    rw [hd] at HG
    clear h hcells e2 hd
    go_enter Try.func27, Try.ntmps27
    go_wp2_with (go_at_call 58; refine (HG.out _ H.out).mono ?_; rintro e w' ⟨rfl, rfl⟩)
    go_loopw [4, 11] (fun v i wr => ∃ k : Nat, k ≤ xs.length ∧ i = .int .i64 (k : Int) ∧ IRow wr w.heap.size v (goods xs k) ∧ Below w.heap.size w wr) (fun _ i _ => xs.length - (intOf i).toNat)
    case atStart => exact ⟨0, by omega, rfl, IRow.nil _ _, Below.refl _ _⟩
    case round =>
      obtain ⟨k, hk, rfl, hrow, hb⟩ := hrel
      have hgl := HGL.out k
      have hsz := hb.size
      by_cases hlt : k < xs.length
      · have HR1 := Lib.hid (HR.out wr k hb hlt)
        have HF1 := Lib.hid (HF.out · · · k hlt)
        have HG1 := Lib.hid (HGS.out k)
        clear HR HF HGS HGL
        generalize goods xs k = L at *
        by_cases hf : forB (rot xs k) = true
        · rw [hf] at HF1
          rw [if_pos hf] at HG1
          clear hf
          go_wp2_with (first
            | (go_at_call 63; refine HR1.out.mono ?_; rintro e w1 ⟨v1, rfl, hr1, hb1⟩; have hrow1 := hrow.below hb1; have hb01 : Below w.heap.size w w1 := hb.trans (hb1.mono hsz); have hsz1 : w.heap.size ≤ w1.heap.size := hb01.size)
            | (go_at_call 62; refine (HF1.out _ _ _ hr1).mono ?_; rintro e w' ⟨rfl, rfl⟩)
            | (at_builtin; refine wpList_push (.tmp 18) (.tmp 20) rfl rfl w.heap.size _ L rfl hrow1 rfl (by omega) hsz1 ?_; intro v' w' hrow' hg' hat'))
          go_roundw
          case rel =>
            exact ⟨k + 1, by omega, by go_num, by rw [HG1.out]; exact hrow', hb01.grown hg' hsz1 (fun q hq => (hrow1.blk q hq).1)⟩
          case measure => first | (simp [intOf]; done) | (simp [intOf]; omega)
        · rw [Bool.not_eq_true] at hf
          rw [if_neg (by rw [hf]; simp)] at HG1
          rw [hf] at HF1
          clear hf
          go_wp2_with (first
            | (go_at_call 63; refine HR1.out.mono ?_; rintro e w1 ⟨v1, rfl, hr1, hb1⟩; have hrow1 := hrow.below hb1; have hb01 : Below w.heap.size w w1 := hb.trans (hb1.mono hsz))
            | (go_at_call 62; refine (HF1.out _ _ _ hr1).mono ?_; rintro e w' ⟨rfl, rfl⟩))
          go_roundw
          case rel =>
            exact ⟨k + 1, by omega, by go_num, by rw [HG1.out]; exact hrow1, hb01⟩
          case measure => first | (simp [intOf]; done) | (simp [intOf]; omega)
      · have hk2 : k = xs.length := by omega
        subst hk2
        go_wp2
        go_ret2
        exact ⟨_, rfl, hrow, hb⟩
  · have e2 : goodV xs = [] := by unfold goodV; rw [hd]; rfl
    rw [hd, e2]
    rw [hd] at HG
    clear h e2 hd
    go_enter Try.func27, Try.ntmps27
    go_wp2_with (go_at_call 58; refine (HG.out _ H.out).mono ?_; rintro e w' ⟨rfl, rfl⟩)
    go_ret2
    exact ⟨_, rfl, IRow.nil _ _, Below.refl _ _⟩
end Go.Proofs.Ytgajknnfmnnfeaa
