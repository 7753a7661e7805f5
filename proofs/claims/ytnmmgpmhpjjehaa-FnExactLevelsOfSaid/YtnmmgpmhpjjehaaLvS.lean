/- The model's kiLevels, WeightOf. -/
import Derived.Test.YtnmmgpmhpjjehaaMixS
import Derived.Test.YtnmmgpmhpjjehaaDeg
import Derived.Test.YtnmmgpmhpjjehaaInB
import Derived.Test.YtnmmgpmhpjjehaaKmS
namespace Go.Proofs.Ytnmmgpmhpjjehaa
open Go.RowKit
set_option linter.unusedVariables false
def lvB (fs ds : List Int) : Bool := (inB (fs.length : Nat) 1 6 && ((ds.length : Nat) : Int) == ((fs.length : Nat) : Int)) && allB fs (-5) 5 && allB ds 1 5
set_option maxRecDepth 100000 in
set_option maxHeartbeats 1600000 in
theorem kiLevels_any (v u : Value) (fs ds : List Int) (w : World) (hF : RInts w v fs) (hD : RInts w u ds) (h1 : fs.length ≤ 1048576) (h2 : ds.length ≤ 1048576) :
    Calls Try.prog 86 #[.agg #[v, u]] w (Ret w (.bool (lvB fs ds))) := by
  obtain ⟨A, c, rfl⟩ := hF.shape
  obtain ⟨A2, c2, rfl⟩ := hD.shape
  have HI := Lib.hid (in_any (fs.length : Nat) 1 6)
  have hb : Below w.heap.size w (w.alloc (.cells #[.slice A fs.length c, .slice A2 ds.length c2] 45)) := (Below.refl _ _).alloc (Nat.le_refl _) _
  have HA := Lib.hid (l1All_any _ fs (-5) 5 _ (hF.below hb) h1)
  have HB := Lib.hid (l1All_any _ ds 1 5 _ (hD.below hb) h2)
  have tok1 : True := trivial
  clear hF hD
  unfold lvB
  generalize allB fs (-5) 5 = bF at *
  generalize allB ds 1 5 = bD at *
  rcases Bool.eq_false_or_eq_true (inB (fs.length : Nat) 1 6) with hi | hi
  · rw [hi] at HI ⊢
    rcases Bool.eq_false_or_eq_true (((ds.length : Nat) : Int) == ((fs.length : Nat) : Int)) with hq | hq
    · rw [hq]
      cases bF with
      | true =>
        go_enter Try.func86, Try.ntmps86
        go_wp2_with (first | (go_at_call 71; refine (HI.out _).mono ?_; rintro e w' ⟨rfl, rfl⟩) | (have _t := tok1; go_at_call 90; clear _t tok1; refine HA.out.mono ?_; rintro e w' ⟨rfl, rfl⟩) | (go_at_call 90; refine HB.out.mono ?_; rintro e w' ⟨rfl, rfl⟩))
        go_ret
        exact ⟨by simp, hb⟩
      | false =>
        go_enter Try.func86, Try.ntmps86
        go_wp2_with (first | (go_at_call 71; refine (HI.out _).mono ?_; rintro e w' ⟨rfl, rfl⟩) | (have _t := tok1; go_at_call 90; clear _t tok1; refine HA.out.mono ?_; rintro e w' ⟨rfl, rfl⟩))
        go_ret
        exact ⟨by simp, hb⟩
    · rw [hq]
      go_enter Try.func86, Try.ntmps86
      go_wp2_with (go_at_call 71; refine (HI.out _).mono ?_; rintro e w' ⟨rfl, rfl⟩)
      go_ret
      exact ⟨by simp, hb⟩
  · rw [hi] at HI ⊢
    go_enter Try.func86, Try.ntmps86
    go_wp2_with (go_at_call 71; refine (HI.out _).mono ?_; rintro e w' ⟨rfl, rfl⟩)
    go_ret
    exact ⟨by simp, hb⟩
theorem specIsLevels_ret (v u : Value) (fs ds : List Int) (w : World) (hF : RInts w v fs) (hD : RInts w u ds) (h1 : fs.length ≤ 1048576) (h2 : ds.length ≤ 1048576) :
    Calls Try.prog 41 #[.agg #[v, u]] w (Ret w (.bool (lvB fs ds))) := by
  have hb : Below w.heap.size w (w.alloc (.cells #[v, u] 45)) := (Below.refl _ _).alloc (Nat.le_refl _) _
  have HK : Hid (Calls Try.prog 86 #[.agg #[v, u]] (w.alloc (.cells #[v, u] 45)) (Ret (w.alloc (.cells #[v, u] 45)) (.bool (lvB fs ds)))) := Lib.hid (kiLevels_any v u fs ds _ (hF.below hb) (hD.below hb) h1 h2)
  obtain ⟨A, c, rfl⟩ := hF.shape
  obtain ⟨A2, c2, rfl⟩ := hD.shape
  clear hF hD
  go_enter Try.func41, Try.ntmps41
  go_wp2_with (go_at_call 86; refine HK.out.mono ?_; rintro e w1 ⟨rfl, hb1⟩)
  go_ret
  exact ⟨rfl, hb.trans (hb1.mono (by simp))⟩
theorem lvB_of {fs ds : List Int} (h : lvB fs ds = true) : (1 ≤ fs.length ∧ fs.length ≤ 6) ∧ ds.length = fs.length ∧ (∀ k, k < fs.length → -5 ≤ fs.getD k 0 ∧ fs.getD k 0 ≤ 5) ∧ (∀ k, k < ds.length → 1 ≤ ds.getD k 0 ∧ ds.getD k 0 ≤ 5) := by
  unfold lvB allB at h
  rw [Bool.and_eq_true, Bool.and_eq_true, Bool.and_eq_true, List.all_eq_true, List.all_eq_true, beq_iff_eq] at h
  have hn := inB_iff h.1.1.1
  refine ⟨by omega, by have := h.1.1.2; omega, fun k hk => ?_, fun k hk => ?_⟩
  · rw [List.getD_eq_getElem?_getD, List.getElem?_eq_getElem hk]
    exact inBd_iff (h.1.2 _ (List.getElem_mem hk))
  · rw [List.getD_eq_getElem?_getD, List.getElem?_eq_getElem hk]
    exact inBd_iff (h.2 _ (List.getElem_mem hk))
/-- the product of the weights of a mixed path, from a height on -/
def wgG (fs ds : List Int) : List UInt8 → Nat → Int → Option Int
  | [], _, x => some x
  | c :: l, h, x => if c = 85 then wgG fs ds l (h + 1) x else if c = 70 then (if fs.length ≤ h then none else wgG fs ds l h (x * fs.getD h 0)) else (if ds.length ≤ h - 1 then none else wgG fs ds l (h - 1) (x * ds.getD (h - 1) 0))
def wgOk (fs ds : List Int) (s : ByteArray) : Bool := lvB fs ds && mixB s && (wgG fs ds s.data.toList 0 1).isSome
def wgV (fs ds : List Int) (s : ByteArray) : Int := if wgOk fs ds s = true then (wgG fs ds s.data.toList 0 1).getD 0 else 0
end Go.Proofs.Ytnmmgpmhpjjehaa
