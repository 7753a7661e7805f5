/- HooksOf: the model's public function; facts on the hooks of a result. -/
import Derived.Test.YtnlcainfkchieaaHkS9
namespace Go.Proofs.Ytnlcainfkchieaa
open Go.RowKit
set_option linter.unusedVariables false
theorem specHooks_ret (v : Value) (xs : List Int) (w : World) (h : RInts w v xs) (hl : xs.length ≤ 1048576) : Calls Try.prog 17 #[v] w (TabsRet w (resB xs) (hkV xs)) := by
  have HV := Lib.hid (voResult_any v xs w h hl)
  unfold hkV
  rcases Bool.eq_false_or_eq_true (resB xs) with hr | hr
  · have h4 := (res_at hr).1
    obtain ⟨g0, o0, cc0, rfl, hg0, hcells0⟩ := h.cells (by omega)
    have hroom := h.room _ _ _ rfl
    rw [h4] at hroom hcells0
    have HVH : Hid (∀ w1, Below w.heap.size w w1 → Calls Try.prog 45 #[.slice (some ⟨g0, o0, none⟩) 4 cc0] w1 (TabsNew w1 (hksTo xs 4))) := Lib.hid fun w1 hb => voHooks_any g0 o0 cc0 xs w1 hr (Nat.lt_of_lt_of_le hg0 hb.size) hroom (fun j hj => (hb.cell (p := ⟨g0, o0 + j, none⟩) hg0).trans (hcells0 j hj))
    rw [hr] at HV
    rw [hr, if_pos rfl]
    rw [h4] at HV ⊢
    clear h hr hcells0 h4 hroom
    go_enter Try.func17, Try.ntmps17
    go_wp2_with (first | (go_at_call 42; refine HV.out.mono ?_; rintro e w1 ⟨rfl, hb1⟩) | (go_at_call 45; refine (HVH.out _ hb1).mono ?_; rintro e w2 ⟨v2, vs2, rfl, hr2, hb2⟩))
    go_ret2
    exact ⟨_, _, rfl, hr2.mono hb1.size (Nat.le_refl _) (Nat.le_refl _), hb1.trans (hb2.mono hb1.size)⟩
  · rw [hr] at HV
    rw [hr]
    obtain ⟨A0, cap, rfl⟩ := h.shape
    clear h hr
    go_enter Try.func17, Try.ntmps17
    go_wp2_with (go_at_call 42; refine HV.out.mono ?_; rintro e w1 ⟨rfl, hb1⟩)
    go_ret2
    exact ⟨_, _, rfl, TRow.nil (Nat.le_refl _), hb1⟩
theorem res_q4 {xs : List Int} (h : resB xs = true) : ∃ a b c d : Nat, xs = q4 a b c d ∧ b ≤ a ∧ c ≤ b ∧ d ≤ c ∧ a + b + c + d ≤ 16 := (resB_iff xs).1 h
theorem hk_facts {xs : List Int} (h : resB xs = true) : (hkL xs).length ≤ 16 ∧ (∀ x, x ∈ hkL xs → 1 ≤ x) ∧ pd (hkL xs) ≤ 100000000000000 ∧ ((hkL xs).length : Int) = xs.sum := by
  obtain ⟨a, b, c, d, rfl, h1, h2, h3, h4⟩ := res_q4 h
  obtain ⟨p1, p2, p3, _, _⟩ := resP_of h1 h2 h3 h4
  refine ⟨by omega, p2, p3, ?_⟩
  rw [p1]
  simp [q4]
  omega
theorem hkV_len (xs : List Int) : (hkV xs).length ≤ 4 := by
  unfold hkV
  split
  · rw [hksTo_len]; exact Nat.le_refl _
  · simp
theorem hkV_flat (xs : List Int) : (hkV xs).flatten.length ≤ 16 := by
  unfold hkV
  split
  · rename_i h
    exact (hk_facts h).1
  · simp
theorem hkRow_16 {xs : List Int} (h : resB xs = true) (j : Nat) (hj : j < 4) : ((hksTo xs 4).getD j []).length ≤ 16 := by
  have h1 : ((hksTo xs 4).getD j []).length ≤ (hksTo xs 4).flatten.length := by
    rw [List.getD_eq_getElem?_getD, List.getElem?_eq_getElem (by rw [hksTo_len]; exact hj)]
    show ((hksTo xs 4)[j]'_).length ≤ _
    exact (List.sublist_flatten_of_mem (List.getElem_mem _)).length_le
  have := (hk_facts h).1
  unfold hkL at this
  omega
theorem pd_take {l : List Int} {k : Nat} (h : k < l.length) : pd (l.take (k + 1)) = pd (l.take k) * l.getD k 0 := by
  rw [List.take_succ_eq_append_getElem h, pd_snoc, List.getD_eq_getElem?_getD, List.getElem?_eq_getElem h]
  rfl
theorem pd_takeB {l : List Int} (h : ∀ x, x ∈ l → 1 ≤ x) (k : Nat) : 1 ≤ pd (l.take k) ∧ pd (l.take k) ≤ pd l := by
  have := pd_pre (l := l.take k) (r := l.drop k) (by rw [List.take_append_drop]; exact h)
  rwa [List.take_append_drop] at this
def coW (xs : List Int) : Int := if resB xs = true then coV xs else 0
end Go.Proofs.Ytnlcainfkchieaa
