/- The model's WaysMatrix. -/
import Derived.Test.YtahnknbggacndaaMxS
namespace Go.Proofs.Ytahnknbggacndaa
open Go.RowKit
set_option linter.unusedVariables false
theorem gdB_of {n m : Nat} {xs ys : List Int} (h : gdB n xs m ys = true) : m = n ∧ n ≤ 4 ∧ (∀ i, i < n → gdC xs i = true) ∧ ∀ j, j < m → gdC ys j = true := by
  unfold gdB at h
  rw [Bool.and_eq_true, Bool.and_eq_true, beq_iff_eq, List.all_eq_true] at h
  obtain ⟨⟨h1, rfl⟩, h2⟩ := h
  have h3 := inBd_if6 h1
  have h4 : ∀ i, i < m → gdC xs i = true ∧ gdC ys i = true := fun i hi => by
    have := h2 i (List.mem_range.mpr hi)
    rwa [Bool.and_eq_true] at this
  exact ⟨rfl, by omega, fun i hi => (h4 i hi).1, fun i hi => (h4 i hi).2⟩
theorem wmR_get (xs ys : List Int) (m n k : Nat) : ((wmT xs ys m n).getD k []).length ≤ m := by
  rw [List.getD_eq_getElem?_getD]
  rcases Nat.lt_or_ge k n with h | h
  · rw [List.getElem?_eq_getElem (by rw [wmT_length]; exact h)]
    simp [wmT, wmR]
  · rw [List.getElem?_eq_none (by rw [wmT_length]; exact h)]
    simp
def wyT (n : Nat) (xs : List Int) (m : Nat) (ys : List Int) : List (List Int) := if gdB n xs m ys = true then wmT xs ys m n else []
set_option maxRecDepth 100000 in
set_option maxHeartbeats 1000000 in
theorem specWaysMatrix_ret (v1 v2 : Value) (n m : Nat) (xs ys : List Int) (w : World) (h1 : RCels w v1 n xs) (h2 : RCels w v2 m ys) (hn : n ≤ 1048576) (hm : m ≤ 1048576) :
    Calls Try.prog 54 #[v1, v2] w (TabsRet w (gdB n xs m ys) (wyT n xs m ys)) := by
  have HG := Lib.hid (ncGood_any v1 v2 n m xs ys w h1 h2 hn hm)
  rcases Bool.eq_false_or_eq_true (gdB n xs m ys) with a1 | a1
  · obtain ⟨rfl, h4, hx, hy⟩ := gdB_of a1
    have HM := Lib.hid fun w' (hb : Below w.heap.size w w') => ncMatrix_any v1 v2 m m xs ys w' (h1.below hb) (h2.below hb) h4 (by omega) hx hy
    have e1 : wyT m xs m ys = wmT xs ys m m := by unfold wyT; rw [if_pos a1]
    rw [a1, e1]
    rw [a1] at HG
    obtain ⟨A1, p1, rfl⟩ := h1.shape
    obtain ⟨A2, p2, rfl⟩ := h2.shape
    clear h1 h2 a1 e1 hx hy
    go_enter Try.func54, Try.ntmps54
    go_wp2_with fail
    refine HG.out.mono ?_
    rintro e w1 ⟨rfl, hb1⟩
    go_wp2_with fail
    refine (HM.out _ hb1).mono ?_
    rintro e w2 ⟨v, vs, rfl, ht, hb2⟩
    have HT := Lib.hid (ht.mono hb1.size (Nat.le_refl _) (Nat.le_refl _))
    have HB := Lib.hid (hb1.trans (hb2.mono hb1.size))
    clear ht hb1 hb2
    go_wp2_with fail
    go_ret2
    exact ⟨_, vs, rfl, HT.out, HB.out⟩
  · have e1 : wyT n xs m ys = [] := by unfold wyT; rw [a1]; rfl
    rw [a1, e1]
    rw [a1] at HG
    obtain ⟨A1, p1, rfl⟩ := h1.shape
    obtain ⟨A2, p2, rfl⟩ := h2.shape
    clear h1 h2 a1 e1
    go_enter Try.func54, Try.ntmps54
    go_wp2_with fail
    refine HG.out.mono ?_
    rintro e w1 ⟨rfl, hb1⟩
    have HB := Lib.hid hb1
    clear hb1
    go_wp2_with fail
    go_ret2
    exact ⟨_, [], rfl, TRow.nil (Nat.le_refl _), HB.out⟩
end Go.Proofs.Ytahnknbggacndaa
