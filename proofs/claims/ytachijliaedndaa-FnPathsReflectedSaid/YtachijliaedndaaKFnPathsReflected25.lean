/- Pack 25 of what FnPathsReflected needs: JoinS, JoinTwo. -/
import Derived.Test.YtachijliaedndaaKFnPathsReflected24
import Derived.Lib.AppendStr
/- joinSteps; WithFirstVote. -/
namespace Go.Proofs.Ytachijliaedndaa
open Go.RowKit
theorem strCells_bv (s : ByteArray) : Lib.strCells s = s.data.toList.map bv := rfl
/-- append of a string's bytes to a slice of the call's own -/
theorem wpList_pushT {ops : Array Oper} {rest : List Oper} {o : Oper} {a : Act} {Q : Exit → Act → World → Prop} {w : World} (sl x : Operand) (hgd : o.guard = none)
    (ho : o.op = .call { callee := .builtin .append, args := #[sl, x], argTypes := #[22, 9] })
    (B : Nat) (v : Value) (xs : List UInt8) (hs : a.eval sl = v) (hown : BOwn w B v xs) (s : ByteArray) (hx : a.eval x = .string s)
    (hlen : xs.length ≤ 1000000) (hsl : s.size ≤ 1000000) (hB : B ≤ w.heap.size)
    (h : ∀ v' w', BOwn w' B v' (xs ++ s.data.toList) → w.grownBy w' v.ownBlock → wpList Try.prog ops Q rest (a.put o.dst v') w') :
    wpList Try.prog ops Q (o :: rest) a w := by
  obtain ⟨i0, hi, hz0, hz1, hz2⟩ := info_parts bytInfo
  refine Lib.wpList_append_own_string w hgd sl x 22 9 ho B 5 i0 Try.underlying22 Try.underlying9 hi hz0 hz1 hz2 v xs.length (xs.map bv) hs hown s hx (by unfold maxLen; omega) (by omega) hB ?_
  intro v' w' h1 h2 _
  refine h v' w' ?_ h2
  unfold BOwn
  rw [List.length_append, List.map_append, ← strCells_bv]
  have e : s.data.toList.length = s.size := by simp
  rw [e]
  exact h1
/-- the bytes of all parts -/
def catB (xs : List ByteArray) : List UInt8 := xs.flatMap fun x => x.data.toList
theorem catB_snoc (xs : List ByteArray) (x : ByteArray) : catB (xs ++ [x]) = catB xs ++ x.data.toList := by simp [catB]
theorem catB_len {xs : List ByteArray} (h : ∀ x, x ∈ xs → x.size ≤ 100) : (catB xs).length ≤ 100 * xs.length := by
  induction xs with
  | nil => simp [catB]
  | cons x r ih =>
    have h1 := ih (fun y hy => h y (by simp [hy]))
    have h2 := h x (by simp)
    have e : x.data.toList.length = x.size := by simp
    have e2 : catB (x :: r) = x.data.toList ++ catB r := by simp [catB]
    rw [e2, List.length_append, List.length_cons]
    omega
set_option maxHeartbeats 1000000 in
theorem joinSteps_any (xs : List ByteArray) (v : Value) (B : Nat) (w : World) (h : SRow w B v xs) (hn : xs.length ≤ 1000) (hs : ∀ x, x ∈ xs → x.size ≤ 100) :
    Calls Try.prog 225 #[v] w (Ret w (.string (strOf (catB xs)))) := by
  by_cases h0 : xs.length = 0
  · obtain ⟨A1, c1, rfl⟩ := h.shape
    obtain rfl : xs = [] := List.eq_nil_of_length_eq_zero h0
    have hcv := run_str_nil
    clear h h0 hs
    go_enter Try.func225, Try.ntmps225
    go_wp2
    refine wp_loop_rounds 1 ?_; rw [rounds_succ]
    go_wp2
    go_ret
    exact ⟨rfl, Below.refl _ _⟩
  · obtain ⟨g1, c1, rfl, _, _⟩ := h.form' rfl (by omega)
    have H1 := Lib.hid h
    have HS := Lib.hid hs
    have HT : Hid (∀ k (hk : k < xs.length), catB (xs.take (k + 1)) = catB (xs.take k) ++ (xs.getD k ByteArray.empty).data.toList ∧ (xs.getD k ByteArray.empty).size ≤ 100 ∧ (catB (xs.take k)).length ≤ 100 * k) := Lib.hid fun k hk => by
      refine ⟨?_, ?_, ?_⟩
      · rw [List.take_succ_eq_append_getElem hk, catB_snoc, List.getD_eq_getElem?_getD, List.getElem?_eq_getElem hk]; rfl
      · rw [List.getD_eq_getElem?_getD, List.getElem?_eq_getElem hk]
        exact hs _ (List.getElem_mem hk)
      · have := catB_len (xs := xs.take k) (fun x hx => hs x (List.mem_of_mem_take hx))
        rw [List.length_take] at this
        omega
    have HE : Hid (xs.take xs.length = xs) := Lib.hid (List.take_length)
    clear h h0 hs
    generalize hnn : xs.length = n at *
    have HN := Lib.hid hnn
    clear hnn
    go_enter Try.func225, Try.ntmps225
    go_wp2
    go_loopw [3, 8] (fun b i wr => ∃ k : Nat, k ≤ n ∧ i = .int .i64 k ∧ BOwn wr w.heap.size b (catB (xs.take k)) ∧ Below w.heap.size w wr) (fun _ i _ => n - (intOf i).toNat)
    case atStart => exact ⟨0, Nat.zero_le _, rfl, BOwn.nil _ _, Below.refl _ _⟩
    case round =>
      obtain ⟨k, hk, rfl, hrow, hb⟩ := hrel
      by_cases hlt : k < n
      · have e1 := (H1.out.below hb).cell (j := k) (by rw [HN.out]; omega)
        obtain ⟨hT1, hT2, hT3⟩ := HT.out k hlt
        have HT1 := Lib.hid hT1
        clear hT1
        generalize xs.getD k ByteArray.empty = x at *
        have hsz := hb.size
        go_wp2_with (at_builtin; refine wpList_pushT (.tmp 12) (.tmp 13) rfl rfl w.heap.size _ (catB (xs.take k)) rfl hrow x rfl (by omega) (by omega) hsz ?_; intro v' w' hrow' hg')
        go_roundw
        case rel => exact ⟨k + 1, by omega, by go_num, by rw [HT1.out]; exact hrow', hb.grown hg' hsz (fun i hi => (hrow.blk i hi).1)⟩
        case measure => first | (simp [intOf]; done) | (simp [intOf]; omega)
      · have HK : Hid (k = n) := by unfold Hid; omega
        have hcv := run_str_own hrow
        go_wp2
        go_ret
        exact ⟨ret_s (by rw [HK.out, HE.out]), hb⟩
def fvOk (s : ByteArray) : Bool := pathB s && decide (s.size < 40)
def fvV (s : ByteArray) : ByteArray := if fvOk s then (⟨#[85]⟩ : ByteArray) ++ s else strOf []
theorem fvOk_1 {s : ByteArray} (h : pathB s = false) : fvOk s = false := by simp [fvOk, h]
theorem fvOk_2 {s : ByteArray} (h : ¬ s.size < 40) : fvOk s = false := by simp [fvOk]; omega
theorem fvOk_3 {s : ByteArray} (h1 : pathB s = true) (h : s.size < 40) : fvOk s = true := by simp [fvOk, h1, h]
theorem cat_first (s : ByteArray) : strOf (catB [⟨#[85]⟩, s]) = (⟨#[85]⟩ : ByteArray) ++ s := by
  apply ByteArray.ext
  simp [strOf, catB]
set_option maxHeartbeats 400000 in
theorem withFirst_ret (s : ByteArray) (w : World) (hs : s.size ≤ maxLen) : Calls Try.prog 113 #[.string s] w (Ret w (.tuple #[.string (fvV s), .bool (fvOk s)])) := by
  unfold fvV
  rcases Bool.eq_false_or_eq_true (pathB s) with h1 | h1
  · have s40 := ((pathB_iff s).1 h1).1
    by_cases h3 : s.size < 40
    · rw [fvOk_3 h1 h3, if_pos rfl]
      have i3 : ((s.size : Int) == 40) = false := by simp; omega
      have HR : Hid (∀ w : World, SRow (w.alloc (.cells #[.string ⟨#[85]⟩, .string s] 9)) w.heap.size (.slice (some ⟨w.heap.size, 0, none⟩) 2 2) [⟨#[85]⟩, s]) :=
        Lib.hid fun w => SRow.of_own (World.ownsRow_lit w #[.string ⟨#[85]⟩, .string s] 2 (Nat.le_refl _) (by simp [maxLen]) rfl) rfl rfl
      have HJ : Hid (∀ (v : Value) (B : Nat) (w : World), SRow w B v [⟨#[85]⟩, s] → Calls Try.prog 225 #[v] w (Ret w (.string ((⟨#[85]⟩ : ByteArray) ++ s)))) := Lib.hid fun v B w h => by
        have h2 : ∀ x, x ∈ [(⟨#[85]⟩ : ByteArray), s] → x.size ≤ 100 := by
          intro x hx
          simp at hx
          rcases hx with rfl | rfl
          · decide
          · omega
        have := joinSteps_any [⟨#[85]⟩, s] v B w h (by simp) h2
        rw [cat_first] at this
        exact this
      generalize (⟨#[85]⟩ : ByteArray) ++ s = z at *
      clear h3
      go_enter Try.func113, Try.ntmps113
      go_wp2_with (first | (go_at_call 58; refine (isPath_any s _ hs).mono ?_; rintro e w' ⟨rfl, rfl⟩) | (go_at_call 225; refine (HJ.out _ _ _ (HR.out _)).mono ?_; rintro e w1 ⟨rfl, hb⟩))
      go_ret2
      exact ⟨rfl, ((Below.refl _ _).alloc (Nat.le_refl _) _).trans (hb.mono (by simp))⟩
    · rw [fvOk_2 h3]
      obtain hz : s.size = 40 := by omega
      have i3 : ((s.size : Int) == 40) = true := by simp; omega
      clear hz h3
      go_enter Try.func113, Try.ntmps113
      go_wp2_with (go_at_call 58; refine (isPath_any s _ hs).mono ?_; rintro e w' ⟨rfl, rfl⟩)
      go_ret2
      exact ⟨rfl, Below.refl _ _⟩
  · rw [fvOk_1 h1]
    go_enter Try.func113, Try.ntmps113
    go_wp2_with (go_at_call 58; refine (isPath_any s _ hs).mono ?_; rintro e w' ⟨rfl, rfl⟩)
    go_ret2
    exact ⟨rfl, Below.refl _ _⟩
set_option maxHeartbeats 400000 in
theorem specWithFirst_ret (s : ByteArray) (w : World) (hs : s.size ≤ maxLen) : Calls Try.prog 124 #[.string s] w (Ret w (.tuple #[.string (fvV s), .bool (fvOk s)])) := by
  unfold fvV
  rcases Bool.eq_false_or_eq_true (pathB s) with h1 | h1
  · have s40 := ((pathB_iff s).1 h1).1
    by_cases h3 : s.size < 40
    · rw [fvOk_3 h1 h3, if_pos rfl]
      go_enter Try.func124, Try.ntmps124
      go_wp2_with (go_at_call 143; refine (paGood_any s _ hs).mono ?_; rintro e w' ⟨rfl, rfl⟩)
      go_ret2
      exact ⟨rfl, Below.refl _ _⟩
    · rw [fvOk_2 h3]
      have i3 : 40 ≤ (s.size : Int) := by omega
      go_enter Try.func124, Try.ntmps124
      go_wp2_with (go_at_call 143; refine (paGood_any s _ hs).mono ?_; rintro e w' ⟨rfl, rfl⟩)
      go_ret2
      exact ⟨rfl, Below.refl _ _⟩
  · rw [fvOk_1 h1]
    go_enter Try.func124, Try.ntmps124
    go_wp2_with (go_at_call 143; refine (paGood_any s _ hs).mono ?_; rintro e w' ⟨rfl, rfl⟩)
    go_ret2
    exact ⟨rfl, Below.refl _ _⟩
end Go.Proofs.Ytachijliaedndaa

/- joinSteps of two parts. -/
namespace Go.Proofs.Ytachijliaedndaa
open Go.RowKit
set_option linter.unusedVariables false
theorem two_cat (x y : ByteArray) : strOf (catB [x, y]) = x ++ y := by
  apply ByteArray.ext
  apply Array.toList_inj.1
  simp [strOf, catB]
theorem join_two (x y : ByteArray) (hx : x.size ≤ 100) (hy : y.size ≤ 100) (w : World) :
    Calls Try.prog 225 #[.slice (some ⟨w.heap.size, 0, none⟩) 2 2] (w.alloc (.cells #[.string x, .string y] 9)) fun e w' => e = .returned (.string (x ++ y)) ∧ Below w.heap.size w w' := by
  have hr : SRow (w.alloc (.cells #[.string x, .string y] 9)) w.heap.size (.slice (some ⟨w.heap.size, 0, none⟩) 2 2) [x, y] :=
    SRow.of_own (World.ownsRow_lit w #[.string x, .string y] 2 (Nat.le_refl _) (by simp [maxLen]) rfl) rfl rfl
  refine (joinSteps_any [x, y] _ _ _ hr (by simp) (by intro z hz; simp at hz; rcases hz with rfl | rfl <;> omega)).mono fun e w' ⟨h1, h2⟩ => ⟨by rw [h1, two_cat], ((Below.refl _ _).alloc (Nat.le_refl _) _).trans (h2.mono (by simp))⟩

end Go.Proofs.Ytachijliaedndaa
