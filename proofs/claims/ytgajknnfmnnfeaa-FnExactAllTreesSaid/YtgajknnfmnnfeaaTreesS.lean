/- The model's cyTrees, TreesOf; the program's TreesOf. -/
import Derived.Test.YtgajknnfmnnfeaaTOwn
import Derived.Test.YtgajknnfmnnfeaaForV
namespace Go.Proofs.Ytgajknnfmnnfeaa
open Go.RowKit
set_option linter.unusedVariables false
def trsL (xs : List Int) : List (List Int) := (ctRun xs ([], [], 1)).1
theorem trsL_of {xs : List Int} {f : For} (h : f.enc = xs) : trsL xs = f.trs := by
  unfold trsL
  rw [← h, ctRun_trs]
  simp
theorem hat_alloc {v v' : Value} {w : World} {o : Obj} (h : v'.ownBlock = v.ownBlock ∨ ∃ g, v'.ownBlock = some g ∧ (w.alloc o).heap.size ≤ g) : v'.ownBlock = v.ownBlock ∨ ∃ g, v'.ownBlock = some g ∧ w.heap.size ≤ g := by
  rcases h with h | ⟨g, h1, h2⟩
  · exact .inl h
  · exact .inr ⟨g, h1, by simp at h2; omega⟩
set_option maxHeartbeats 1600000 in
theorem cyTrees_ret (v : Value) (xs : List Int) (w : World) (h : RInts w v xs) (hd : ∀ k, k < xs.length → 0 ≤ xs.getD k 0 ∧ xs.getD k 0 ≤ 16) (hl : xs.length ≤ 16) :
    Calls Try.prog 67 #[v] w (TabsNew w (trsL xs)) := by
  obtain ⟨A0, cap, rfl⟩ := h.shape
  have H := Lib.hid h
  have HD := Lib.hid hd
  have HS := Lib.hid (fun k hk => ctRun_snoc xs k hk ([], [], 1))
  have HB := Lib.hid (ctRun_bd xs hd)
  have HE : Hid ((ctRun (xs.take xs.length) ([], [], 1)).1 = trsL xs) := Lib.hid (by rw [List.take_length]; rfl)
  clear h hd
  go_enter Try.func67, Try.ntmps67
  go_wp2_with fail
  go_loopw [3, 4, 5, 7, 10] (fun vo vt op q1 i wr => ∃ (k M : Nat) (vs : List Value) (O : List (List Int)) (T : List Int) (o : Int), k ≤ xs.length ∧ i = .int .i64 (k : Int) ∧ op = .int .i64 o ∧ Hid (ctRun (xs.take k) ([], [], 1) = (O, T, o)) ∧ TRow wr w.heap.size M vo vs O ∧ IRow wr M vt T ∧ w.heap.size ≤ M ∧ Below w.heap.size w wr) (fun _ _ _ _ i _ => xs.length - (intOf i).toNat)
  case atStart => exact ⟨0, w.heap.size, [], [], [], 1, by omega, rfl, rfl, Lib.hid rfl, TRow.nil (Nat.le_refl _), IRow.nil _ _, Nat.le_refl _, Below.refl _ _⟩
  case round =>
    obtain ⟨k, M, vs, O, T, o, hk, rfl, rfl, HR, hto, htr, hBM, hb⟩ := hrel
    have hbd := HB.out k hk
    rw [HR.out] at hbd
    simp only at hbd
    by_cases hlt : k < xs.length
    · obtain ⟨g, p, cc, hv, hg, hcells⟩ := H.out.cells (by omega)
      have hA : A0 = some ⟨g, p, none⟩ := by injection hv
      subst hA
      clear hv
      have e1 : wr.cell? ⟨g, p + k, none⟩ = some (.int .i64 (xs.getD k 0)) := (hb.cell (p := ⟨g, p + k, none⟩) hg).trans (hcells k hlt)
      clear hcells
      have hx := HD.out k hlt
      have HS1 : Hid (ctRun (xs.take (k + 1)) ([], [], 1) = ctStep (O, T, o) (xs.getD k 0)) := Lib.hid (by rw [HS.out k hlt, HR.out])
      clear HS HB HR
      generalize xs.getD k 0 = d at *
      have hMs := hto.size
      have hTl : T.length ≤ 16 := by omega
      have hOl := hto.len
      have hvl : vs.length ≤ 16 := by omega
      by_cases c0 : o + (d - 1) = 0
      · have HS2 : Hid (ctRun (xs.take (k + 1)) ([], [], 1) = (O ++ [T ++ [d]], [], 1)) := Lib.hid (by rw [HS1.out, ctStep]; simp only; rw [if_pos c0])
        clear HS1
        go_wp2_with (first
          | (at_builtin; refine wpList_push (.tmp 14) (.tmp 16) rfl rfl M _ T rfl htr rfl (by omega) hMs ?_; intro v1 w1 htr1 hg1 hat1; obtain ⟨A1, c1, rfl⟩ := htr1.shape; have hto1 := hto.keep hg1 (fun q hq => .inr (htr.blk q hq).1); have hb1 := hb.grown hg1 (by omega) (fun q hq => by have := (htr.blk q hq).1; omega); have hMs1 : M ≤ w1.heap.size := Nat.le_trans hMs hg1.size; have hws1 := hb1.size)
          | (at_builtin; refine wpList_pushV (.tmp 24) (.tmp 26) rfl rfl w.heap.size _ vs rfl (hto1.out.alloc _) w1.heap.size (.slice A1 (T ++ [d]).length c1) rfl (by simp) rfl (by omega) (by simp; omega) ?_; intro v2 w2 hr2 hg2 hat2))
        have hg3 := grown_alloc_left hg2
        have HTO := Lib.hid (hto1.push htr1 hBM hr2 hg3 (hat_alloc hat2))
        have HB3 := Lib.hid (hb1.grown hg3 hws1 (fun q hq => (hto1.outB q hq).1))
        have hz := HB3.out.size
        clear hto1 htr1 hr2 hg2 hat2 hg3 hto htr hg1 hat1
        go_roundw
        case rel => exact ⟨k + 1, w2.heap.size, _, O ++ [T ++ [d]], [], 1, by omega, by go_num, rfl, HS2, HTO.out, IRow.nil _ _, hz, HB3.out⟩
        case measure => first | (simp [intOf]; done) | (simp [intOf]; omega)
      · have HS2 : Hid (ctRun (xs.take (k + 1)) ([], [], 1) = (O, T ++ [d], o + (d - 1))) := Lib.hid (by rw [HS1.out, ctStep]; simp only; rw [if_neg c0])
        have c1 : (o + (d - 1) == 0) = false := beq_eq_false_iff_ne.2 c0
        clear HS1
        go_wp2_with (at_builtin; refine wpList_push (.tmp 14) (.tmp 16) rfl rfl M _ T rfl htr rfl (by omega) hMs ?_; intro v1 w1 htr1 hg1 hat1)
        have HTO := Lib.hid (hto.keep hg1 (fun q hq => .inr (htr.blk q hq).1))
        have HB1 := Lib.hid (hb.grown hg1 (by omega) (fun q hq => by have := (htr.blk q hq).1; omega))
        have HTR := Lib.hid htr1
        clear hto htr hb htr1 hg1 hat1
        go_roundw
        case rel => exact ⟨k + 1, M, vs, O, T ++ [d], o + (d - 1), by omega, by go_num, by go_num, HS2, HTO.out, HTR.out, hBM, HB1.out⟩
        case measure => first | (simp [intOf]; done) | (simp [intOf]; omega)
    · have hk2 : k = xs.length := by omega
      have HO : Hid (O = trsL xs) := Lib.hid (by rw [← HE.out, ← hk2, HR.out])
      go_wp2_with fail
      go_ret
      rw [HO.out] at hto
      exact ⟨_, vs, rfl, hto.mono (Nat.le_refl _) hto.size (Nat.le_refl _), hb⟩
def trsV (xs : List Int) : List (List Int) := if forV xs = true then trsL xs else []
theorem trs_flat : ∀ f : For, f.trs.flatten = f.enc
  | For.nil => rfl
  | For.node c r => by rw [For.trs, For.enc, List.flatten_cons, trs_flat r]; simp
theorem trsV_len (xs : List Int) (hl : xs.length ≤ 1048576) : (trsV xs).length ≤ 1048576 := by
  unfold trsV
  split
  · rename_i h
    obtain ⟨f, hf, _⟩ := forest_ex h
    rw [trsL_of hf, f.trs_length]
    have := f.cnt_le
    rw [← f.enc_length, hf] at this
    omega
  · simp
theorem trsV_flat (xs : List Int) (hl : xs.length ≤ 1048576) : (trsV xs).flatten.length ≤ 1048576 := by
  unfold trsV
  split
  · rename_i h
    obtain ⟨f, hf, _⟩ := forest_ex h
    rw [trsL_of hf, trs_flat, hf]
    exact hl
  · simp
theorem specTreesOf_ret (v : Value) (xs : List Int) (w : World) (h : RInts w v xs) (hl : xs.length ≤ 1048576) :
    Calls Try.prog 33 #[v] w (TabsRet w (forV xs) (trsV xs)) := by
  have HI := Lib.hid (cyIs_any v xs w h hl)
  rcases Bool.eq_false_or_eq_true (forV xs) with hv | hv
  · have hd : degB xs = true := by unfold forV at hv; rw [Bool.and_eq_true] at hv; exact hv.1
    have hn := degB_of hd
    have HP := Lib.hid (cyTrees_ret v xs w h hn.2 hn.1.2)
    have e : trsV xs = trsL xs := by unfold trsV; rw [if_pos hv]
    rw [hv] at HI
    rw [hv, e]
    clear h hv hd e hn
    go_enter Try.func33, Try.ntmps33
    go_wp2_with (first | (go_at_call 66; refine HI.out.mono ?_; rintro e w' ⟨rfl, rfl⟩) | (go_at_call 67; refine HP.out.mono ?_; rintro e w1 ⟨v1, vs1, rfl, hr1, hb1⟩))
    go_ret2
    exact ⟨_, _, rfl, hr1, hb1⟩
  · have e : trsV xs = [] := by unfold trsV; rw [hv]; rfl
    rw [hv] at HI
    rw [hv, e]
    clear h hv e
    go_enter Try.func33, Try.ntmps33
    go_wp2_with (go_at_call 66; refine HI.out.mono ?_; rintro e w' ⟨rfl, rfl⟩)
    go_ret2
    exact ⟨_, [], rfl, TRow.nil (Nat.le_refl _), Below.refl _ _⟩
end Go.Proofs.Ytgajknnfmnnfeaa
