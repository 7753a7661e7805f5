/- The model's WaysMatrix, ncAsked, CountApart. -/
import Derived.Test.YtahnknbggacndaaMxS
import Derived.Test.YtahnknbggacndaaDtmS
import Derived.Test.YtahnknbggacndaaWyS
namespace Go.Proofs.Ytahnknbggacndaa
open Go.RowKit
set_option linter.unusedVariables false
def askC (n : Nat) (xs : List Int) (m : Nat) (ys : List Int) : Bool := ((gdB n xs m ys && tdB n xs) && tdB m ys) && smT (wmT xs ys m n)
set_option maxRecDepth 100000 in
set_option maxHeartbeats 2000000 in
theorem ncAsked_any (v1 v2 : Value) (n m : Nat) (xs ys : List Int) (w : World) (h1 : RCels w v1 n xs) (h2 : RCels w v2 m ys) (hn : n ≤ 1048576) (hm : m ≤ 1048576) :
    Calls Try.prog 105 #[v1, v2] w (Ret w (.bool (askC n xs m ys))) := by
  have HG := Lib.hid (ncGood_any v1 v2 n m xs ys w h1 h2 hn hm)
  have HT1 := Lib.hid fun w' (hb : Below w.heap.size w w') => ncTied_any v1 n xs w' (h1.below hb) hn
  have HT2 := Lib.hid fun w' (hb : Below w.heap.size w w') => ncTied_any v2 m ys w' (h2.below hb) hm
  have HS : Hid (∀ v vs w', TRow w' w.heap.size w'.heap.size v vs (wmT xs ys m n) → Calls Try.prog 100 #[v] w' (Ret w' (.bool (smT (wmT xs ys m n))))) := Lib.hid fun v vs w' ht =>
    ncSmall_any v _ w' ht.mrows.rows (fun k _ => Nat.le_trans (wmR_get xs ys m n k) hm) (by rw [wmT_length]; exact hn)
  have HM : Hid (gdB n xs m ys = true → ∀ w', Below w.heap.size w w' → Calls Try.prog 94 #[v1, v2] w' (TabsNew w' (wmT xs ys m n))) := Lib.hid fun a1 w' hb => by
    obtain ⟨e, h4, hx, hy⟩ := gdB_of a1
    exact ncMatrix_any v1 v2 n m xs ys w' (h1.below hb) (h2.below hb) h4 (by omega) hx hy
  obtain ⟨A1, p1, rfl⟩ := h1.shape
  obtain ⟨A2, p2, rfl⟩ := h2.shape
  clear h1 h2
  unfold askC
  generalize smT (wmT xs ys m n) = b4 at *
  generalize wmT xs ys m n = TT at *
  generalize tdB n xs = b2 at *
  generalize tdB m ys = b3 at *
  rcases Bool.eq_false_or_eq_true (gdB n xs m ys) with a1 | a1
  case inr =>
    rw [a1] at HG ⊢
    clear a1 HM
    go_enter Try.func105, Try.ntmps105
    go_wp2_with fail
    refine HG.out.mono ?_
    rintro e w1 ⟨rfl, hb1⟩
    have HB := Lib.hid hb1
    clear hb1
    go_wp2_with fail
    go_ret
    exact ⟨by simp, HB.out⟩
  have HMM := Lib.hid (HM.out a1)
  rw [a1] at HG ⊢
  clear a1 HM
  go_enter Try.func105, Try.ntmps105
  go_wp2_with fail
  refine HG.out.mono ?_
  rintro e w1 ⟨rfl, hb1⟩
  have HB1 := Lib.hid hb1
  clear hb1
  go_wp2_with fail
  refine (HT1.out _ HB1.out).mono ?_
  rintro e w2 ⟨rfl, hb2⟩
  have HB2 := Lib.hid (HB1.out.trans (hb2.mono HB1.out.size))
  clear hb2
  rcases b2 with _ | _
  · go_wp2_with fail
    go_ret
    exact ⟨by simp, HB2.out⟩
  go_wp2_with fail
  refine (HT2.out _ HB2.out).mono ?_
  rintro e w3 ⟨rfl, hb3⟩
  have HB3 := Lib.hid (HB2.out.trans (hb3.mono HB2.out.size))
  clear hb3
  rcases b3 with _ | _
  · go_wp2_with fail
    go_ret
    exact ⟨by simp, HB3.out⟩
  go_wp2_with fail
  refine (HMM.out _ HB3.out).mono ?_
  rintro e w4 ⟨v, vs, rfl, ht, hb4⟩
  have HT := Lib.hid (ht.mono HB3.out.size (Nat.le_refl _) (Nat.le_refl _))
  have HB4 := Lib.hid (HB3.out.trans (hb4.mono HB3.out.size))
  clear ht hb4
  go_wp2_with fail
  refine (HS.out _ _ _ HT.out).mono ?_
  rintro e w5 ⟨rfl, hb5⟩
  have HB5 := Lib.hid (HB4.out.trans (hb5.mono HB4.out.size))
  clear hb5
  go_wp2_with fail
  go_ret
  exact ⟨by simp, HB5.out⟩
def cpV (n : Nat) (xs : List Int) (m : Nat) (ys : List Int) : Int := if askC n xs m ys = true then detF n (wmT xs ys m n) else 0
set_option maxRecDepth 100000 in
set_option maxHeartbeats 1000000 in
theorem specCountApart_ret (v1 v2 : Value) (n m : Nat) (xs ys : List Int) (w : World) (h1 : RCels w v1 n xs) (h2 : RCels w v2 m ys) (hn : n ≤ 1048576) (hm : m ≤ 1048576) :
    Calls Try.prog 64 #[v1, v2] w (Ret w (.tuple #[.int .i64 (cpV n xs m ys), .bool (askC n xs m ys)])) := by
  have HA := Lib.hid (ncAsked_any v1 v2 n m xs ys w h1 h2 hn hm)
  rcases Bool.eq_false_or_eq_true (askC n xs m ys) with a1 | a1
  · have HM : Hid (∀ w', Below w.heap.size w w' → Calls Try.prog 94 #[v1, v2] w' (TabsNew w' (wmT xs ys m n))) := Lib.hid fun w' hb => by
      unfold askC at a1
      rw [Bool.and_eq_true, Bool.and_eq_true, Bool.and_eq_true] at a1
      obtain ⟨e, h4, hx, hy⟩ := gdB_of a1.1.1.1
      exact ncMatrix_any v1 v2 n m xs ys w' (h1.below hb) (h2.below hb) h4 (by omega) hx hy
    have HD : Hid (∀ v vs w', TRow w' w.heap.size w'.heap.size v vs (wmT xs ys m n) → Calls Try.prog 101 #[v] w' (Ret w' (.int .i64 (detF n (wmT xs ys m n))))) := Lib.hid fun v vs w' ht => by
      unfold askC at a1
      rw [Bool.and_eq_true] at a1
      have hq := smT_sq a1.2
      rw [wmT_length] at hq
      exact kiDet_any n v _ w' hq.1 hq.2 ht.mrows
    have e1 : cpV n xs m ys = detF n (wmT xs ys m n) := by unfold cpV; rw [if_pos a1]
    rw [a1, e1]
    rw [a1] at HA
    obtain ⟨A1, p1, rfl⟩ := h1.shape
    obtain ⟨A2, p2, rfl⟩ := h2.shape
    clear h1 h2 a1 e1
    generalize detF n (wmT xs ys m n) = D at *
    generalize wmT xs ys m n = TT at *
    go_enter Try.func64, Try.ntmps64
    go_wp2_with fail
    refine HA.out.mono ?_
    rintro e w1 ⟨rfl, hb1⟩
    have HB1 := Lib.hid hb1
    clear hb1
    go_wp2_with fail
    refine (HM.out _ HB1.out).mono ?_
    rintro e w2 ⟨v, vs, rfl, ht, hb2⟩
    have HT := Lib.hid (ht.mono HB1.out.size (Nat.le_refl _) (Nat.le_refl _))
    have HB2 := Lib.hid (HB1.out.trans (hb2.mono HB1.out.size))
    clear ht hb2
    go_wp2_with fail
    refine (HD.out _ _ _ HT.out).mono ?_
    rintro e w3 ⟨rfl, hb3⟩
    have HB3 := Lib.hid (HB2.out.trans (hb3.mono HB2.out.size))
    clear hb3
    go_wp2_with fail
    go_ret2
    exact ⟨rfl, HB3.out⟩
  · have e1 : cpV n xs m ys = 0 := by unfold cpV; rw [a1]; rfl
    rw [a1, e1]
    rw [a1] at HA
    obtain ⟨A1, p1, rfl⟩ := h1.shape
    obtain ⟨A2, p2, rfl⟩ := h2.shape
    clear h1 h2 a1 e1
    go_enter Try.func64, Try.ntmps64
    go_wp2_with fail
    refine HA.out.mono ?_
    rintro e w1 ⟨rfl, hb1⟩
    have HB := Lib.hid hb1
    clear hb1
    go_wp2_with fail
    go_ret2
    exact ⟨rfl, HB.out⟩
end Go.Proofs.Ytahnknbggacndaa
