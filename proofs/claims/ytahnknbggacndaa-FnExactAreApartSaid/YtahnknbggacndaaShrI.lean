/- slices.Contains over places; firstShared. -/
import Derived.Test.YtahnknbggacndaaIxI
namespace Go.Proofs.Ytahnknbggacndaa
open Go.RowKit
set_option linter.unusedVariables false
theorem pxZ_bd {xs : List Int} {x y : Int} {n : Nat} (hn : n ≤ 1048576) : -1 ≤ pxZ (pxF xs x y n 0) ∧ pxZ (pxF xs x y n 0) ≤ 1048576 := by
  cases h : pxF xs x y n 0 with
  | none => simp [pxZ]
  | some k =>
    have := pxF_lt h
    simp only [pxZ]
    omega
theorem pxZ_some (R : Option Nat) : decide (0 ≤ pxZ R) = R.isSome := by
  cases R with
  | none => rfl
  | some k => simp [pxZ]
set_option maxRecDepth 100000 in
theorem containsP_any (v : Value) (n : Nat) (xs : List Int) (x y : Int) (w : World) (h : RPls w v n xs) (hl : n ≤ 1048576) :
    Calls Try.prog 127 #[v, celV x y] w (Ret w (.bool (hasF n xs x y))) := by
  have hb : Below w.heap.size w (w.alloc (.cells #[.int .i64 x, .int .i64 y] 93)) := (Below.refl _ _).alloc (Nat.le_refl _) _
  have HI : Hid (Calls Try.prog 116 #[v, celV x y] (w.alloc (.cells #[.int .i64 x, .int .i64 y] 93)) (Ret (w.alloc (.cells #[.int .i64 x, .int .i64 y] 93)) (.int .i64 (pxZ (pxF xs x y n 0))))) := Lib.hid (indexP_any v n xs x y _ (h.below hb) hl)
  rw [← pxF_has]
  rw [← pxZ_some]
  obtain ⟨A, c, rfl⟩ := h.shape
  have h1 := pxZ_bd (xs := xs) (x := x) (y := y) hl
  generalize pxZ (pxF xs x y n 0) = z at *
  have h2 := h1.1
  have h3 := h1.2
  clear h1 h
  have q : (decide (z ≥ 0)) = decide (0 ≤ z) := rfl
  go_enter Try.func127, Try.ntmps127
  go_wp2_with (go_at_call 116; refine HI.out.mono ?_; rintro e w' ⟨rfl, hb1⟩)
  go_ret
  exact ⟨by simp, hb.trans (hb1.mono hb.size)⟩
/-- the places, and what has been gone through -/
structure FsB (w : World) (v1 v2 : Value) (n m : Nat) (xs ys : List Int) (X : World) : Prop where
  a : RPls X v1 n xs
  b : RPls X v2 m ys
  below : Below w.heap.size w X
theorem FsB.kept {w X X' : World} {v1 v2 : Value} {n m : Nat} {xs ys : List Int} (h : FsB w v1 v2 n m xs ys X) (hb : Below X.heap.size X X') : FsB w v1 v2 n m xs ys X' := ⟨h.a.below hb, h.b.below hb, h.below.trans (hb.mono h.below.size)⟩
set_option maxRecDepth 100000 in
set_option maxHeartbeats 1000000 in
theorem firstShared_any (v1 v2 : Value) (n m : Nat) (xs ys : List Int) (w : World) (h1 : RPls w v1 n xs) (h2 : RPls w v2 m ys) (hn : n ≤ 1048576) (hm : m ≤ 1048576) :
    Calls Try.prog 92 #[v1, v2] w (Ret w (mtV (mtI xs ys m n 0))) := by
  have HF := Lib.hid (show FsB w v1 v2 n m xs ys w from ⟨h1, h2, Below.refl _ _⟩)
  obtain ⟨A1, c1, rfl⟩ := h1.shape
  obtain ⟨A2, c2, rfl⟩ := h2.shape
  obtain ⟨R, hR⟩ : ∃ R, mtI xs ys m n 0 = R := ⟨_, rfl⟩
  rw [hR]
  have HR := Lib.hid hR
  have HX : Hid (∀ (x y : Int) (X : World), RPls X (.slice A2 m c2) m ys → Calls Try.prog 116 #[.slice A2 m c2, celV x y] X (Ret X (.int .i64 (pxZ (pxF ys x y m 0))))) := Lib.hid fun x y X h => indexP_any _ m ys x y X h hm
  have HMB : Hid (m ≤ 1048576) := Lib.hid hm
  clear hR h1 h2
  go_enter Try.func92, Try.ntmps92
  go_wp2_with fail
  go_loopw [12] (fun i wr => ∃ k : Nat, k ≤ n ∧ i = .int .i64 (k : Int) ∧ mtI xs ys m (n - k) k = R ∧ FsB w (.slice A1 n c1) (.slice A2 m c2) n m xs ys wr) (fun i _ => n - (intOf i).toNat)
  case atStart => exact ⟨0, Nat.zero_le _, rfl, HR.out, HF.out⟩
  case round =>
    obtain ⟨k, hk, rfl, hf, hib⟩ := hrel
    clear HF HR
    by_cases hlt : k < n
    · obtain ⟨g, o, cc, hv, -, -⟩ := hib.a.cells (by omega)
      injection hv with hA _ hcc
      subst hA
      subst hcc
      have i1 : (k : Int) < (n : Int) := by omega
      have i2 : 0 ≤ (k : Int) := by omega
      have hr := hib.a.at hlt
      have e0 := hr.1
      have e1 := hr.2
      have hf1 := hf
      rw [show n - k = (n - (k + 1)) + 1 by omega, mtI, ← pxF_mtJ] at hf1
      obtain ⟨p, hp⟩ : ∃ p, xs.getD (k * 2) 0 = p := ⟨_, rfl⟩
      obtain ⟨q, hq⟩ : ∃ q, xs.getD (k * 2 + 1) 0 = q := ⟨_, rfl⟩
      rw [hp, hq] at hf1
      rw [hp] at e0
      rw [hq] at e1
      have hb : Below wr.heap.size wr (wr.alloc (.cells #[.int .i64 p, .int .i64 q] 93)) := (Below.refl _ _).alloc (Nat.le_refl _) _
      have HIB := Lib.hid (hib.kept hb)
      have HXP := Lib.hid (HX.out p q _ HIB.out.b)
      have hzb := pxZ_bd (xs := ys) (x := p) (y := q) HMB.out
      obtain ⟨T, hT⟩ : ∃ T, pxF ys p q m 0 = T := ⟨_, rfl⟩
      rw [hT] at hf1 HXP hzb
      have HFF := Lib.hid hf1
      clear hf hf1 hib hr hp hq hb hT
      cases T with
      | none =>
        have HR2 : Hid (mtI xs ys m (n - (k + 1)) (k + 1) = R) := Lib.hid HFF.out
        unfold pxZ at HXP
        clear HFF hzb
        go_wp2_with (go_at_call 116; refine HXP.out.mono ?_; rintro e w1 ⟨rfl, hb1⟩; have HIB1 := Lib.hid (HIB.out.kept hb1); clear hb1)
        go_roundw
        case rel => exact ⟨k + 1, by omega, by go_num, HR2.out, HIB1.out⟩
        case measure => first | (simp [intOf]; done) | (simp [intOf]; omega)
      | some j =>
        have HR2 : Hid (R = some (k, j)) := Lib.hid HFF.out.symm
        unfold pxZ at HXP hzb
        have j0 : 0 ≤ (j : Int) := by omega
        clear HFF hzb
        go_wp2_with (go_at_call 116; refine HXP.out.mono ?_; rintro e w1 ⟨rfl, hb1⟩; have HIB1 := Lib.hid (HIB.out.kept hb1); clear hb1)
        refine bodyPost_ret (v := .tuple #[.int .i64 (k : Int), .int .i64 (j : Int), .bool true]) (by simp [results, Try.f92, go_sem]) rfl ⟨by rw [HR2.out]; rfl, HIB1.out.below⟩
    · obtain rfl : k = n := by omega
      have HRR : Hid (R = none) := Lib.hid (by rw [← hf, Nat.sub_self]; rfl)
      have HIB := Lib.hid hib
      clear hf hib
      go_wp2_with fail
      refine bodyPost_ret (v := .tuple #[.int .i64 0, .int .i64 0, .bool false]) (by simp [results, Try.f92, go_sem]) rfl ⟨by rw [HRR.out]; rfl, HIB.out.below⟩
end Go.Proofs.Ytahnknbggacndaa
