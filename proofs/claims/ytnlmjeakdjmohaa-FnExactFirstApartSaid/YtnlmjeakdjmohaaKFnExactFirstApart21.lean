/- Pack 21 of what FnExactFirstApart needs: ShrI, JoinS. -/
import Derived.Test.YtnlmjeakdjmohaaKFnExactFirstApart20
import Derived.Lib.AppendStr
/- slices.Index, slices.Contains over places; firstShared. -/
namespace Go.Proofs.Ytnlmjeakdjmohaa
open Go.RowKit
set_option linter.unusedVariables false
/-- a slice of places that is only read: X, Y, X, Y, .. -/
structure RPls (w : World) (v : Value) (n : Nat) (xs : List Int) : Prop where
  shape : ∃ A c, v = .slice A n c
  cells : 0 < n → ∃ g o c, v = .slice (some ⟨g, o, none⟩) n c ∧ g < w.heap.size ∧ ∀ j, j < n * 2 → w.cell? ⟨g, o + j, none⟩ = some (.int .i64 (xs.getD j 0))
theorem RPls.below {w w' : World} {v : Value} {n : Nat} {xs : List Int} (h : RPls w v n xs) (hb : Below w.heap.size w w') : RPls w' v n xs :=
  ⟨h.shape, fun hx => by
    obtain ⟨g, o, c, hv, hg, hc⟩ := h.cells hx
    exact ⟨g, o, c, hv, Nat.lt_of_lt_of_le hg hb.size, fun j hj => (hb.cell (p := ⟨g, o + j, none⟩) hg).trans (hc j hj)⟩⟩
theorem RPls.of_row {w : World} {B n : Nat} {v : Value} {xs : List Int} (h : PRow w B v n xs) : RPls w v n xs :=
  ⟨h.shape, fun hx => by
    obtain ⟨g, c, hv, _, hg⟩ := h.form hx
    subst hv
    exact ⟨g, 0, c, rfl, hg, fun j hj => by rw [Nat.zero_add]; exact h.cell hj⟩⟩
theorem RPls.nil (w : World) (c : Nat) : RPls w (.slice none 0 c) 0 [] := ⟨⟨_, _, rfl⟩, fun h => absurd h (by omega)⟩
theorem RPls.at {w : World} {n : Nat} {xs : List Int} {g o c : Nat} (h : RPls w (.slice (some ⟨g, o, none⟩) n c) n xs) {j : Nat} (hj : j < n) : w.cell? ⟨g, o + j * 2, none⟩ = some (.int .i64 (xs.getD (j * 2) 0)) ∧ w.cell? ⟨g, o + j * 2 + 1, none⟩ = some (.int .i64 (xs.getD (j * 2 + 1) 0)) := by
  obtain ⟨g', o', c', e, _, hc⟩ := h.cells (by omega)
  injection e with e _ e3
  injection e with e
  injection e with e1 e2
  subst e1 e2
  exact ⟨hc (j * 2) (by omega), hc (j * 2 + 1) (by omega)⟩
/-- the first index of a cell, or -1 -/
def pxF (xs : List Int) (x y : Int) : Nat → Nat → Option Nat
  | 0, _ => none
  | f + 1, j => if x = xs.getD (j * 2) 0 ∧ y = xs.getD (j * 2 + 1) 0 then some j else pxF xs x y f (j + 1)
def pxZ : Option Nat → Int
  | none => -1
  | some j => (j : Int)
theorem pxF_mtJ (xs ys : List Int) (i : Nat) : ∀ f j, pxF ys (xs.getD (i * 2) 0) (xs.getD (i * 2 + 1) 0) f j = mtJ xs ys i f j
  | 0, _ => rfl
  | f + 1, j => by rw [pxF, mtJ, pxF_mtJ xs ys i f (j + 1)]
theorem pxF_yes {xs : List Int} {x y : Int} {f j : Nat} (h : x = xs.getD (j * 2) 0 ∧ y = xs.getD (j * 2 + 1) 0) : pxF xs x y (f + 1) j = some j := if_pos h
theorem pxF_no {xs : List Int} {x y : Int} {f j : Nat} (h : ¬ (x = xs.getD (j * 2) 0 ∧ y = xs.getD (j * 2 + 1) 0)) : pxF xs x y (f + 1) j = pxF xs x y f (j + 1) := if_neg h
theorem pxF_isSome (xs : List Int) (x y : Int) : ∀ f j, (pxF xs x y f j).isSome = true ↔ ∃ k, j ≤ k ∧ k < j + f ∧ xs.getD (k * 2) 0 = x ∧ xs.getD (k * 2 + 1) 0 = y
  | 0, j => by simp [pxF]; omega
  | f + 1, j => by
    by_cases h : x = xs.getD (j * 2) 0 ∧ y = xs.getD (j * 2 + 1) 0
    · rw [pxF_yes h]
      exact ⟨fun _ => ⟨j, Nat.le_refl _, by omega, h.1.symm, h.2.symm⟩, fun _ => rfl⟩
    · rw [pxF_no h, pxF_isSome xs x y f (j + 1)]
      constructor
      · rintro ⟨k, h1, h2, h3⟩
        exact ⟨k, by omega, by omega, h3⟩
      · rintro ⟨k, h1, h2, h3, h4⟩
        by_cases e : k = j
        · subst e
          exact absurd ⟨h3.symm, h4.symm⟩ h
        · exact ⟨k, by omega, by omega, h3, h4⟩
theorem pxF_has (xs : List Int) (x y : Int) (n : Nat) : (pxF xs x y n 0).isSome = hasF n xs x y := by
  rw [Bool.eq_iff_iff, pxF_isSome, hasF_iff]
  constructor
  · rintro ⟨k, _, h2, h3⟩
    exact ⟨k, by omega, h3⟩
  · rintro ⟨k, h2, h3⟩
    exact ⟨k, by omega, by omega, h3⟩
theorem pxF_lt {xs : List Int} {x y : Int} : ∀ {f j k : Nat}, pxF xs x y f j = some k → j ≤ k ∧ k < j + f
  | 0, _, _, h => by cases h
  | f + 1, j, k, h => by
    rw [pxF] at h
    split at h
    · injection h with h
      omega
    · have := pxF_lt h
      omega
/-- the place sought in its box, and the places -/
structure IxB (w : World) (x y : Int) (v : Value) (n : Nat) (xs : List Int) (X : World) : Prop where
  c0 : X.cell? ⟨w.heap.size, 0, none⟩ = some (.int .i64 x)
  c1 : X.cell? ⟨w.heap.size, 1, none⟩ = some (.int .i64 y)
  r : RPls X v n xs
  lt : w.heap.size < X.heap.size
  below : Below w.heap.size w X
theorem IxB.kept {w X X' : World} {x y : Int} {v : Value} {n : Nat} {xs : List Int} (h : IxB w x y v n xs X) (hb : Below X.heap.size X X') : IxB w x y v n xs X' :=
  ⟨(hb.cell (p := ⟨w.heap.size, 0, none⟩) h.lt).trans h.c0, (hb.cell (p := ⟨w.heap.size, 1, none⟩) h.lt).trans h.c1, h.r.below hb, Nat.lt_of_lt_of_le h.lt hb.size, h.below.trans (hb.mono h.below.size)⟩
theorem IxB.start {w : World} {x y : Int} {v : Value} {n : Nat} {xs : List Int} (h : RPls w v n xs) : IxB w x y v n xs (w.alloc (.cells #[.int .i64 x, .int .i64 y] 103)) := by
  have hb : Below w.heap.size w (w.alloc (.cells #[.int .i64 x, .int .i64 y] 103)) := (Below.refl _ _).alloc (Nat.le_refl _) _
  exact ⟨by simp [go_sem], by simp [go_sem], h.below hb, by simp, hb⟩
set_option maxRecDepth 100000 in
set_option maxHeartbeats 1000000 in
theorem indexP_any (v : Value) (n : Nat) (xs : List Int) (x y : Int) (w : World) (h : RPls w v n xs) (hl : n ≤ 1048576) :
    Calls Try.prog 157 #[v, celV x y] w (Ret w (.int .i64 (pxZ (pxF xs x y n 0)))) := by
  have HI := Lib.hid (IxB.start (x := x) (y := y) h)
  have HE := eq_place
  obtain ⟨A, c, rfl⟩ := h.shape
  obtain ⟨R, hR⟩ : ∃ R, pxF xs x y n 0 = R := ⟨_, rfl⟩
  rw [hR]
  have HR := Lib.hid hR
  clear hR h
  go_enter Try.func157, Try.ntmps157
  go_wp2_with fail
  go_loopw [8] (fun i wr => ∃ k : Nat, k ≤ n ∧ i = .int .i64 (k : Int) ∧ pxF xs x y (n - k) k = R ∧ IxB w x y (.slice A n c) n xs wr) (fun i _ => n - (intOf i).toNat)
  case atStart => exact ⟨0, Nat.zero_le _, rfl, HR.out, HI.out⟩
  case round =>
    obtain ⟨k, hk, rfl, hf, hib⟩ := hrel
    clear HI HR
    by_cases hlt : k < n
    · obtain ⟨g, o, cc, hv, -, -⟩ := hib.r.cells (by omega)
      injection hv with hA _ hcc
      subst hA
      subst hcc
      have i1 : (k : Int) < (n : Int) := by omega
      have i2 : 0 ≤ (k : Int) := by omega
      have hr := hib.r.at hlt
      have e0 := hr.1
      have e1 := hr.2
      have b0 := hib.c0
      have b1 := hib.c1
      have HIB := Lib.hid hib
      have HS : Hid (∀ f, n - k = f + 1 → True) := Lib.hid fun _ _ => trivial
      have hf1 := hf
      rw [show n - k = (n - (k + 1)) + 1 by omega] at hf1
      have HF := Lib.hid hf1
      obtain ⟨p, hp⟩ : ∃ p, xs.getD (k * 2) 0 = p := ⟨_, rfl⟩
      obtain ⟨q, hq⟩ : ∃ q, xs.getD (k * 2 + 1) 0 = q := ⟨_, rfl⟩
      rw [hp] at e0
      rw [hq] at e1
      have HP := Lib.hid hp
      have HQ := Lib.hid hq
      clear hf hf1 hib hr hp hq HS
      by_cases hx : x = p
      · by_cases hy : y = q
        · have HRR : Hid (R = some k) := Lib.hid (by rw [← HF.out, pxF_yes ⟨by rw [HP.out]; exact hx, by rw [HQ.out]; exact hy⟩])
          have t0 : (x == p) = true := by rw [hx]; simp
          have t1 : (y == q) = true := by rw [hy]; simp
          clear HF HP HQ hx hy
          go_wp2_with fail
          go_quiet (fail)
          go_wp2_with fail
          go_ret
          exact ⟨by rw [HRR.out]; rfl, HIB.out.below.trans (below_drewN (Below.refl _ _) _)⟩
        · have HRR : Hid (pxF xs x y (n - (k + 1)) (k + 1) = R) := Lib.hid (by rw [← HF.out, pxF_no (by rw [HP.out, HQ.out]; exact fun h => hy h.2)])
          have t0 : (x == p) = true := by rw [hx]; simp
          have t1 : (y == q) = false := beq_eq_false_iff_ne.2 hy
          clear HF HP HQ hx hy
          go_wp2_with fail
          go_quiet (fail)
          go_wp2_with fail
          go_roundw
          case rel => exact ⟨k + 1, by omega, by go_num, HRR.out, HIB.out.kept (below_drewN (Below.refl _ _) _)⟩
          case measure => first | (simp [intOf]; done) | (simp [intOf]; omega)
      · have HRR : Hid (pxF xs x y (n - (k + 1)) (k + 1) = R) := Lib.hid (by rw [← HF.out, pxF_no (by rw [HP.out, HQ.out]; exact fun h => hx h.1)])
        have t0 : (x == p) = false := beq_eq_false_iff_ne.2 hx
        clear HF HP HQ hx
        go_wp2_with fail
        go_quiet (fail)
        go_wp2_with fail
        go_roundw
        case rel => exact ⟨k + 1, by omega, by go_num, HRR.out, HIB.out.kept (below_drewN (Below.refl _ _) _)⟩
        case measure => first | (simp [intOf]; done) | (simp [intOf]; omega)
    · obtain rfl : k = n := by omega
      have HRR : Hid (R = none) := Lib.hid (by rw [← hf, Nat.sub_self]; rfl)
      have HIB := Lib.hid hib
      clear hf hib
      go_wp2_with fail
      go_ret
      exact ⟨by rw [HRR.out]; rfl, HIB.out.below⟩
theorem pxZ_bd {xs : List Int} {x y : Int} {n : Nat} (hn : n ≤ 1048576) : -1 ≤ pxZ (pxF xs x y n 0) ∧ pxZ (pxF xs x y n 0) ≤ 1048576 := by
  cases h : pxF xs x y n 0 with
  | none => simp [pxZ]
  | some k =>
    have := pxF_lt h
    simp only [pxZ]
    omega
theorem pxZ_some (R : Option Nat) : decide (0 ≤ pxZ R) = R.isSome := by
  cases R with
  | none => rfl
  | some k => simp [pxZ]
set_option maxRecDepth 100000 in
theorem containsP_any (v : Value) (n : Nat) (xs : List Int) (x y : Int) (w : World) (h : RPls w v n xs) (hl : n ≤ 1048576) :
    Calls Try.prog 146 #[v, celV x y] w (Ret w (.bool (hasF n xs x y))) := by
  have hb : Below w.heap.size w (w.alloc (.cells #[.int .i64 x, .int .i64 y] 103)) := (Below.refl _ _).alloc (Nat.le_refl _) _
  have HI : Hid (Calls Try.prog 157 #[v, celV x y] (w.alloc (.cells #[.int .i64 x, .int .i64 y] 103)) (Ret (w.alloc (.cells #[.int .i64 x, .int .i64 y] 103)) (.int .i64 (pxZ (pxF xs x y n 0))))) := Lib.hid (indexP_any v n xs x y _ (h.below hb) hl)
  rw [← pxF_has]
  rw [← pxZ_some]
  obtain ⟨A, c, rfl⟩ := h.shape
  have h1 := pxZ_bd (xs := xs) (x := x) (y := y) hl
  generalize pxZ (pxF xs x y n 0) = z at *
  have h2 := h1.1
  have h3 := h1.2
  clear h1 h
  have q : (decide (z ≥ 0)) = decide (0 ≤ z) := rfl
  go_enter Try.func146, Try.ntmps146
  go_wp2_with (go_at_call 157; refine HI.out.mono ?_; rintro e w' ⟨rfl, hb1⟩)
  go_ret
  exact ⟨by simp, hb.trans (hb1.mono hb.size)⟩
/-- the places, and what has been gone through -/
structure FsB (w : World) (v1 v2 : Value) (n m : Nat) (xs ys : List Int) (X : World) : Prop where
  a : RPls X v1 n xs
  b : RPls X v2 m ys
  below : Below w.heap.size w X
theorem FsB.kept {w X X' : World} {v1 v2 : Value} {n m : Nat} {xs ys : List Int} (h : FsB w v1 v2 n m xs ys X) (hb : Below X.heap.size X X') : FsB w v1 v2 n m xs ys X' := ⟨h.a.below hb, h.b.below hb, h.below.trans (hb.mono h.below.size)⟩
end Go.Proofs.Ytnlmjeakdjmohaa

/- joinSteps; WithFirstVote. -/
namespace Go.Proofs.Ytnlmjeakdjmohaa
open Go.RowKit
theorem strCells_bv (s : ByteArray) : Lib.strCells s = s.data.toList.map bv := rfl
/-- append of a string's bytes to a slice of the call's own -/
theorem wpList_pushT {ops : Array Oper} {rest : List Oper} {o : Oper} {a : Act} {Q : Exit → Act → World → Prop} {w : World} (sl x : Operand) (hgd : o.guard = none)
    (ho : o.op = .call { callee := .builtin .append, args := #[sl, x], argTypes := #[109, 9] })
    (B : Nat) (v : Value) (xs : List UInt8) (hs : a.eval sl = v) (hown : BOwn w B v xs) (s : ByteArray) (hx : a.eval x = .string s)
    (hlen : xs.length ≤ 1000000) (hsl : s.size ≤ 1000000) (hB : B ≤ w.heap.size)
    (h : ∀ v' w', BOwn w' B v' (xs ++ s.data.toList) → w.grownBy w' v.ownBlock → wpList Try.prog ops Q rest (a.put o.dst v') w') :
    wpList Try.prog ops Q (o :: rest) a w := by
  obtain ⟨i0, hi, hz0, hz1, hz2⟩ := info_parts bytInfo
  refine Lib.wpList_append_own_string w hgd sl x 109 9 ho B 5 i0 Try.underlying109 Try.underlying9 hi hz0 hz1 hz2 v xs.length (xs.map bv) hs hown s hx (by unfold maxLen; omega) (by omega) hB ?_
  intro v' w' h1 h2 _
  refine h v' w' ?_ h2
  unfold BOwn
  rw [List.length_append, List.map_append, ← strCells_bv]
  have e : s.data.toList.length = s.size := by simp
  rw [e]
  exact h1
/-- the bytes of all parts -/
def catB (xs : List ByteArray) : List UInt8 := xs.flatMap fun x => x.data.toList
theorem catB_snoc (xs : List ByteArray) (x : ByteArray) : catB (xs ++ [x]) = catB xs ++ x.data.toList := by simp [catB]
theorem catB_len {xs : List ByteArray} (h : ∀ x, x ∈ xs → x.size ≤ 100) : (catB xs).length ≤ 100 * xs.length := by
  induction xs with
  | nil => simp [catB]
  | cons x r ih =>
    have h1 := ih (fun y hy => h y (by simp [hy]))
    have h2 := h x (by simp)
    have e : x.data.toList.length = x.size := by simp
    have e2 : catB (x :: r) = x.data.toList ++ catB r := by simp [catB]
    rw [e2, List.length_append, List.length_cons]
    omega
set_option maxHeartbeats 1000000 in
theorem joinSteps_any (xs : List ByteArray) (v : Value) (B : Nat) (w : World) (h : SRow w B v xs) (hn : xs.length ≤ 1000) (hs : ∀ x, x ∈ xs → x.size ≤ 100) :
    Calls Try.prog 147 #[v] w (Ret w (.string (strOf (catB xs)))) := by
  by_cases h0 : xs.length = 0
  · obtain ⟨A1, c1, rfl⟩ := h.shape
    obtain rfl : xs = [] := List.eq_nil_of_length_eq_zero h0
    have hcv := run_str_nil
    clear h h0 hs
    go_enter Try.func147, Try.ntmps147
    go_wp2
    refine wp_loop_rounds 1 ?_; rw [rounds_succ]
    go_wp2
    go_ret
    exact ⟨rfl, Below.refl _ _⟩
  · obtain ⟨g1, c1, rfl, _, _⟩ := h.form' rfl (by omega)
    have H1 := Lib.hid h
    have HS := Lib.hid hs
    have HT : Hid (∀ k (hk : k < xs.length), catB (xs.take (k + 1)) = catB (xs.take k) ++ (xs.getD k ByteArray.empty).data.toList ∧ (xs.getD k ByteArray.empty).size ≤ 100 ∧ (catB (xs.take k)).length ≤ 100 * k) := Lib.hid fun k hk => by
      refine ⟨?_, ?_, ?_⟩
      · rw [List.take_succ_eq_append_getElem hk, catB_snoc, List.getD_eq_getElem?_getD, List.getElem?_eq_getElem hk]; rfl
      · rw [List.getD_eq_getElem?_getD, List.getElem?_eq_getElem hk]
        exact hs _ (List.getElem_mem hk)
      · have := catB_len (xs := xs.take k) (fun x hx => hs x (List.mem_of_mem_take hx))
        rw [List.length_take] at this
        omega
    have HE : Hid (xs.take xs.length = xs) := Lib.hid (List.take_length)
    clear h h0 hs
    generalize hnn : xs.length = n at *
    have HN := Lib.hid hnn
    clear hnn
    go_enter Try.func147, Try.ntmps147
    go_wp2
    go_loopw [3, 8] (fun b i wr => ∃ k : Nat, k ≤ n ∧ i = .int .i64 k ∧ BOwn wr w.heap.size b (catB (xs.take k)) ∧ Below w.heap.size w wr) (fun _ i _ => n - (intOf i).toNat)
    case atStart => exact ⟨0, Nat.zero_le _, rfl, BOwn.nil _ _, Below.refl _ _⟩
    case round =>
      obtain ⟨k, hk, rfl, hrow, hb⟩ := hrel
      by_cases hlt : k < n
      · have e1 := (H1.out.below hb).cell (j := k) (by rw [HN.out]; omega)
        obtain ⟨hT1, hT2, hT3⟩ := HT.out k hlt
        have HT1 := Lib.hid hT1
        clear hT1
        generalize xs.getD k ByteArray.empty = x at *
        have hsz := hb.size
        go_wp2_with (at_builtin; refine wpList_pushT (.tmp 12) (.tmp 13) rfl rfl w.heap.size _ (catB (xs.take k)) rfl hrow x rfl (by omega) (by omega) hsz ?_; intro v' w' hrow' hg')
        go_roundw
        case rel => exact ⟨k + 1, by omega, by go_num, by rw [HT1.out]; exact hrow', hb.grown hg' hsz (fun i hi => (hrow.blk i hi).1)⟩
        case measure => first | (simp [intOf]; done) | (simp [intOf]; omega)
      · have HK : Hid (k = n) := by unfold Hid; omega
        have hcv := run_str_own hrow
        go_wp2
        go_ret
        exact ⟨ret_s (by rw [HK.out, HE.out]), hb⟩
def fvOk (s : ByteArray) : Bool := pathB s && decide (s.size < 40)
def fvV (s : ByteArray) : ByteArray := if fvOk s then (⟨#[85]⟩ : ByteArray) ++ s else strOf []
theorem fvOk_1 {s : ByteArray} (h : pathB s = false) : fvOk s = false := by simp [fvOk, h]
theorem fvOk_2 {s : ByteArray} (h : ¬ s.size < 40) : fvOk s = false := by simp [fvOk]; omega
theorem fvOk_3 {s : ByteArray} (h1 : pathB s = true) (h : s.size < 40) : fvOk s = true := by simp [fvOk, h1, h]
theorem cat_first (s : ByteArray) : strOf (catB [⟨#[85]⟩, s]) = (⟨#[85]⟩ : ByteArray) ++ s := by
  apply ByteArray.ext
  simp [strOf, catB]
end Go.Proofs.Ytnlmjeakdjmohaa
