/- Pack 24 of what FnRotationsGood needs: JoinS, RatioI. -/
import Derived.Test.YtmfcknlpbliehabKFnRotationsGood23
import Derived.Lib.AppendStr
import Derived.Deep.RegionLaw
/- joinSteps; WithFirstVote. -/
namespace Go.Proofs.Ytmfcknlpbliehab
open Go.RowKit
theorem strCells_bv (s : ByteArray) : Lib.strCells s = s.data.toList.map bv := rfl
/-- append of a string's bytes to a slice of the call's own -/
theorem wpList_pushT {ops : Array Oper} {rest : List Oper} {o : Oper} {a : Act} {Q : Exit → Act → World → Prop} {w : World} (sl x : Operand) (hgd : o.guard = none)
    (ho : o.op = .call { callee := .builtin .append, args := #[sl, x], argTypes := #[22, 9] })
    (B : Nat) (v : Value) (xs : List UInt8) (hs : a.eval sl = v) (hown : BOwn w B v xs) (s : ByteArray) (hx : a.eval x = .string s)
    (hlen : xs.length ≤ 1000000) (hsl : s.size ≤ 1000000) (hB : B ≤ w.heap.size)
    (h : ∀ v' w', BOwn w' B v' (xs ++ s.data.toList) → w.grownBy w' v.ownBlock → wpList Try.prog ops Q rest (a.put o.dst v') w') :
    wpList Try.prog ops Q (o :: rest) a w := by
  obtain ⟨i0, hi, hz0, hz1, hz2⟩ := info_parts bytInfo
  refine Lib.wpList_append_own_string w hgd sl x 22 9 ho B 5 i0 Try.underlying22 Try.underlying9 hi hz0 hz1 hz2 v xs.length (xs.map bv) hs hown s hx (by unfold maxLen; omega) (by omega) hB ?_
  intro v' w' h1 h2 _
  refine h v' w' ?_ h2
  unfold BOwn
  rw [List.length_append, List.map_append, ← strCells_bv]
  have e : s.data.toList.length = s.size := by simp
  rw [e]
  exact h1
/-- the bytes of all parts -/
def catB (xs : List ByteArray) : List UInt8 := xs.flatMap fun x => x.data.toList
theorem catB_snoc (xs : List ByteArray) (x : ByteArray) : catB (xs ++ [x]) = catB xs ++ x.data.toList := by simp [catB]
theorem catB_len {xs : List ByteArray} (h : ∀ x, x ∈ xs → x.size ≤ 100) : (catB xs).length ≤ 100 * xs.length := by
  induction xs with
  | nil => simp [catB]
  | cons x r ih =>
    have h1 := ih (fun y hy => h y (by simp [hy]))
    have h2 := h x (by simp)
    have e : x.data.toList.length = x.size := by simp
    have e2 : catB (x :: r) = x.data.toList ++ catB r := by simp [catB]
    rw [e2, List.length_append, List.length_cons]
    omega
set_option maxHeartbeats 1000000 in
theorem joinSteps_any (xs : List ByteArray) (v : Value) (B : Nat) (w : World) (h : SRow w B v xs) (hn : xs.length ≤ 1000) (hs : ∀ x, x ∈ xs → x.size ≤ 100) :
    Calls Try.prog 44 #[v] w (Ret w (.string (strOf (catB xs)))) := by
  by_cases h0 : xs.length = 0
  · obtain ⟨A1, c1, rfl⟩ := h.shape
    obtain rfl : xs = [] := List.eq_nil_of_length_eq_zero h0
    have hcv := run_str_nil
    clear h h0 hs
    go_enter Try.func44, Try.ntmps44
    go_wp2
    refine wp_loop_rounds 1 ?_; rw [rounds_succ]
    go_wp2
    go_ret
    exact ⟨rfl, Below.refl _ _⟩
  · obtain ⟨g1, c1, rfl, _, _⟩ := h.form' rfl (by omega)
    have H1 := Lib.hid h
    have HS := Lib.hid hs
    have HT : Hid (∀ k (hk : k < xs.length), catB (xs.take (k + 1)) = catB (xs.take k) ++ (xs.getD k ByteArray.empty).data.toList ∧ (xs.getD k ByteArray.empty).size ≤ 100 ∧ (catB (xs.take k)).length ≤ 100 * k) := Lib.hid fun k hk => by
      refine ⟨?_, ?_, ?_⟩
      · rw [List.take_succ_eq_append_getElem hk, catB_snoc, List.getD_eq_getElem?_getD, List.getElem?_eq_getElem hk]; rfl
      · rw [List.getD_eq_getElem?_getD, List.getElem?_eq_getElem hk]
        exact hs _ (List.getElem_mem hk)
      · have := catB_len (xs := xs.take k) (fun x hx => hs x (List.mem_of_mem_take hx))
        rw [List.length_take] at this
        omega
    have HE : Hid (xs.take xs.length = xs) := Lib.hid (List.take_length)
    clear h h0 hs
    generalize hnn : xs.length = n at *
    have HN := Lib.hid hnn
    clear hnn
    go_enter Try.func44, Try.ntmps44
    go_wp2
    go_loopw [3, 8] (fun b i wr => ∃ k : Nat, k ≤ n ∧ i = .int .i64 k ∧ BOwn wr w.heap.size b (catB (xs.take k)) ∧ Below w.heap.size w wr) (fun _ i _ => n - (intOf i).toNat)
    case atStart => exact ⟨0, Nat.zero_le _, rfl, BOwn.nil _ _, Below.refl _ _⟩
    case round =>
      obtain ⟨k, hk, rfl, hrow, hb⟩ := hrel
      by_cases hlt : k < n
      · have e1 := (H1.out.below hb).cell (j := k) (by rw [HN.out]; omega)
        obtain ⟨hT1, hT2, hT3⟩ := HT.out k hlt
        have HT1 := Lib.hid hT1
        clear hT1
        generalize xs.getD k ByteArray.empty = x at *
        have hsz := hb.size
        go_wp2_with (at_builtin; refine wpList_pushT (.tmp 12) (.tmp 13) rfl rfl w.heap.size _ (catB (xs.take k)) rfl hrow x rfl (by omega) (by omega) hsz ?_; intro v' w' hrow' hg')
        go_roundw
        case rel => exact ⟨k + 1, by omega, by go_num, by rw [HT1.out]; exact hrow', hb.grown hg' hsz (fun i hi => (hrow.blk i hi).1)⟩
        case measure => first | (simp [intOf]; done) | (simp [intOf]; omega)
      · have HK : Hid (k = n) := by unfold Hid; omega
        have hcv := run_str_own hrow
        go_wp2
        go_ret
        exact ⟨ret_s (by rw [HK.out, HE.out]), hb⟩
def fvOk (s : ByteArray) : Bool := pathB s && decide (s.size < 40)
def fvV (s : ByteArray) : ByteArray := if fvOk s then (⟨#[85]⟩ : ByteArray) ++ s else strOf []
theorem fvOk_1 {s : ByteArray} (h : pathB s = false) : fvOk s = false := by simp [fvOk, h]
theorem fvOk_2 {s : ByteArray} (h : ¬ s.size < 40) : fvOk s = false := by simp [fvOk]; omega
theorem fvOk_3 {s : ByteArray} (h1 : pathB s = true) (h : s.size < 40) : fvOk s = true := by simp [fvOk, h1, h]
theorem cat_first (s : ByteArray) : strOf (catB [⟨#[85]⟩, s]) = (⟨#[85]⟩ : ByteArray) ++ s := by
  apply ByteArray.ext
  simp [strOf, catB]
end Go.Proofs.Ytmfcknlpbliehab

/- leadsBy, the program's RatioRotations. -/
namespace Go.Proofs.Ytmfcknlpbliehab
open Go.RowKit
set_option linter.unusedVariables false
theorem ext_listR (s : ByteArray) (i j : Nat) : (s.extract i j).data.toList = (s.data.toList.drop i).take (j - i) := by
  rw [ByteArray.data_extract, Array.toList_extract]
set_option maxHeartbeats 2000000 in
theorem ratioRot_ret (s : ByteArray) (k : Int) (w : World) (hs : s.size ≤ maxLen) :
    Calls Try.prog 19 #[.string s, .int .i64 k] w (IntsRet w (raOk s k) (raV s k)) := by
  have HP : Hid (∀ w, Calls Try.prog 42 #[.string s] w fun e w' => e = .returned (.bool (pathB s)) ∧ w = w') := Lib.hid fun w => isPath_any s w hs
  rcases Bool.eq_false_or_eq_true (pathB s) with hp | hp
  · have h40 := ((pathB_iff s).1 hp).1
    by_cases hk0 : k < 0
    · have e1 : raOk s k = false := by unfold raOk; rw [decide_eq_false (by omega), Bool.false_and, Bool.and_false]
      have e2 : raV s k = [] := by unfold raV; rw [e1]; rfl
      rw [e1, e2]
      rw [hp] at HP
      clear e1 e2 hp
      go_enter Try.func19, Try.ntmps19
      go_wp2_with (go_at_call 42; refine (HP.out _).mono ?_; rintro e w' ⟨rfl, rfl⟩)
      go_ret2
      exact ⟨_, rfl, IRow.nil _ _, Below.refl _ _⟩
    · by_cases hk40 : 40 < k
      · have e1 : raOk s k = false := by unfold raOk; rw [decide_eq_false (p := k ≤ 40) (by omega), Bool.and_false, Bool.and_false]
        have e2 : raV s k = [] := by unfold raV; rw [e1]; rfl
        rw [e1, e2]
        rw [hp] at HP
        clear e1 e2 hp
        go_enter Try.func19, Try.ntmps19
        go_wp2_with (go_at_call 42; refine (HP.out _).mono ?_; rintro e w' ⟨rfl, rfl⟩)
        go_ret2
        exact ⟨_, rfl, IRow.nil _ _, Below.refl _ _⟩
      · have e1 : raOk s k = true := by unfold raOk; rw [hp, decide_eq_true (show 0 ≤ k by omega), decide_eq_true (show k ≤ 40 by omega)]; rfl
        have e2 : raV s k = rgs s k s.size := by unfold raV; rw [e1]; rfl
        rw [e1, e2]
        rw [hp] at HP
        have HJ : Hid (∀ i, i < s.size → ∀ w1 g, w1.cell? ⟨g, 0, none⟩ = some (.string (s.extract i s.size)) → w1.cell? ⟨g, 1, none⟩ = some (.string (s.extract 0 i)) → (∃ cur, w1.heap[g]? = some (.cells cur 9 (0, 0)) ∧ cur.size = 2) → Calls Try.prog 44 #[.slice (some ⟨g, 0, none⟩) 2 2] w1 (Ret w1 (.string (rotS s i)))) := Lib.hid fun i hi w1 g h1 h2 ⟨cur, h3, h4⟩ => by
          have hrow : SRow w1 g (.slice (some ⟨g, 0, none⟩) 2 2) [s.extract i s.size, s.extract 0 i] := by
            refine ⟨rfl, .inr ⟨g, 2, cur, rfl, Nat.le_refl _, h3, Nat.le_refl _, by simp [maxLen], h4, ?_⟩⟩
            rw [cell_of_row w1 g 0 cur _ (0, 0) h3] at h1
            rw [cell_of_row w1 g 1 cur _ (0, 0) h3] at h2
            have e3 : cur.toList = [.string (s.extract i s.size), .string (s.extract 0 i)] := by
              apply List.ext_getElem?
              intro j
              match j with
              | 0 => simpa using h1
              | 1 => simpa using h2
              | j + 2 => rw [List.getElem?_eq_none (by simp [h4]), List.getElem?_eq_none (by simp)]
            rw [e3]
            rfl
          have r := joinSteps_any _ _ _ w1 hrow (by simp) (fun x hx => by
            have hx2 : x.data.toList.length ≤ 40 := by
              simp at hx
              rcases hx with rfl | rfl
              · rw [ext_listR, List.length_take, List.length_drop]; simp; omega
              · rw [ext_listR, List.length_take, List.length_drop]; simp; omega
            simp at hx2
            omega)
          have e4 : strOf (catB [s.extract i s.size, s.extract 0 i]) = rotS s i := by
            unfold strOf rotS rotL
            congr 2
            have hl : s.data.toList.length = s.size := by simp
            simp only [catB, List.flatMap_cons, List.flatMap_nil, List.append_nil, ext_listR, List.drop_zero, Nat.sub_zero]
            rw [List.take_of_length_le (l := s.data.toList.drop i) (by rw [List.length_drop]; omega)]
          rwa [e4] at r
        have HLB : Hid (∀ i, i < s.size → ∀ w1, Calls Try.prog 43 #[.string (rotS s i), .int .i64 k] w1 (IntsNew w1 (fr (mg (rotS s i) k) (s.size + 1)))) := Lib.hid fun i hi w1 => by
          have hz := rotS_size s i (by omega)
          have r := leadsBy_ret (rotS s i) k w1 (by omega) (by omega)
          unfold mgs at r
          rwa [hz] at r
        have HSU : Hid (∀ i, rgs s k (i + 1) = if rgB s k i then rgs s k i ++ [(i : Int)] else rgs s k i) := Lib.hid fun _ => rfl
        have HLN := Lib.hid (rgs_length s k)
        clear e1 e2 hp
        go_enter Try.func19, Try.ntmps19
        go_wp2_with (go_at_call 42; refine (HP.out _).mono ?_; rintro e w' ⟨rfl, rfl⟩)
        go_loopw [6, 7, 8, 9, 10, 24] (fun v q1 q2 q3 q4 i wr => ∃ j : Nat, j ≤ s.size ∧ i = .int .i64 (j : Int) ∧ IRow wr w.heap.size v (rgs s k j) ∧ Below w.heap.size w wr) (fun _ _ _ _ _ i _ => s.size - (intOf i).toNat)
        case atStart => exact ⟨0, by omega, rfl, IRow.nil _ _, Below.refl _ _⟩
        case round =>
          obtain ⟨j, hj, rfl, hrow, hb⟩ := hrel
          by_cases hlt : j < s.size
          · have HJ1 := Lib.hid (HJ.out j hlt)
            have HL1 := Lib.hid (HLB.out j hlt)
            have HS1 := Lib.hid (HSU.out j)
            have hln := HLN.out j
            have hbs := hb.size
            have HGB : Hid (rgB s k j = true → fbB (mg (rotS s j) k) 1 (s.size + 1) = false) := Lib.hid fun h => by unfold rgB at h; simpa using h
            have HGN : Hid (¬ rgB s k j = true → fbB (mg (rotS s j) k) 1 (s.size + 1) = true) := Lib.hid fun h => by unfold rgB at h; simpa using h
            have b1 : (j : Int) ≤ (s.size : Int) := by omega
            have b2 : (0 : Int) ≤ (j : Int) := by omega
            have HJ2 : Hid (Calls Try.prog 44 #[.slice (some ⟨wr.heap.size, 0, none⟩) 2 2] (wr.alloc (.cells #[.string (s.extract j s.size), .string (s.extract 0 j)] 9)).drew fun e w' => e = .returned (.string (rotS s j)) ∧ Below wr.heap.size wr w') := Lib.hid (by
              have hbw : Below wr.heap.size wr (wr.alloc (.cells #[.string (s.extract j s.size), .string (s.extract 0 j)] 9)).drew := ((Below.refl _ _).alloc (Nat.le_refl _) _).drew
              refine (HJ1.out (wr.alloc (.cells #[.string (s.extract j s.size), .string (s.extract 0 j)] 9)).drew wr.heap.size (by simp) (by simp) ⟨#[.string (s.extract j s.size), .string (s.extract 0 j)], heap_alloc_new wr _, rfl⟩).mono fun e w' h => ?_
              exact ⟨h.1, hbw.trans (h.2.mono hbw.size)⟩)
            clear HJ HLB HSU HLN HJ1
            generalize mg (rotS s j) k = F at *
            generalize rotS s j = R at *
            by_cases hgd : rgB s k j = true
            · rw [if_pos hgd] at HS1
              have HFB : Hid (∀ w1 B v1, IRow w1 B v1 (fr F (s.size + 1)) → Calls Try.prog 45 #[v1, .int .i64 1] w1 fun e w' => e = .returned (.tuple #[.int .i64 (fbV F 1 (s.size + 1)), .bool false]) ∧ w1 = w') := Lib.hid fun w1 B v1 h => by
                rw [← HGB.out hgd]
                exact firstBelow_any F (s.size + 1) 1 v1 B w1 h (by omega)
              generalize fbV F 1 (s.size + 1) = fv at *
              generalize rgs s k j = L at *
              go_wp2_with fail
              go_region_law (first
                | (go_simp; go_at_call 44; refine HJ2.out.mono ?_; rintro e w1 ⟨rfl, hb1⟩)
                | (go_simp; go_at_call 43; refine (HL1.out _).mono ?_; rintro e w2 ⟨v2, rfl, hr2, hb2⟩; have hb12 := hb1.trans (hb2.mono hb1.size); have hrow2 := hrow.below hb12; have hbw2 := hb.trans (hb12.mono hbs); have hbs2 := hbw2.size; obtain ⟨A2, c2, rfl⟩ := hr2.shape))
              go_wp2_with (first
                | (go_at_call 45; refine (HFB.out _ _ _ hr2).mono ?_; rintro e w' ⟨rfl, rfl⟩)
                | (at_builtin; refine wpList_push (.tmp 44) (.tmp 46) rfl rfl w.heap.size _ L rfl hrow2 rfl (by omega) hbs2 ?_; intro v3 w3 hr3 hg3 hat3))
              have HB3 := Lib.hid (hbw2.grown hg3 hbs2 (fun q hq => (hrow2.blk q hq).1))
              have HR3 := Lib.hid hr3
              rw [← HS1.out] at HR3
              clear hr3 hg3 hat3 hrow2 hrow hr2 hb2 hb1 hb12 hbw2 hb
              go_roundw
              case rel => exact ⟨j + 1, by omega, by go_num, HR3.out, HB3.out⟩
              case measure => first | (simp [intOf]; done) | (simp [intOf]; omega)
            · rw [if_neg hgd] at HS1
              have HFB : Hid (∀ w1 B v1, IRow w1 B v1 (fr F (s.size + 1)) → Calls Try.prog 45 #[v1, .int .i64 1] w1 fun e w' => e = .returned (.tuple #[.int .i64 (fbV F 1 (s.size + 1)), .bool true]) ∧ w1 = w') := Lib.hid fun w1 B v1 h => by
                rw [← HGN.out hgd]
                exact firstBelow_any F (s.size + 1) 1 v1 B w1 h (by omega)
              generalize fbV F 1 (s.size + 1) = fv at *
              go_wp2_with fail
              go_region_law (first
                | (go_simp; go_at_call 44; refine HJ2.out.mono ?_; rintro e w1 ⟨rfl, hb1⟩)
                | (go_simp; go_at_call 43; refine (HL1.out _).mono ?_; rintro e w2 ⟨v2, rfl, hr2, hb2⟩; have hb12 := hb1.trans (hb2.mono hb1.size); have hrow2 := hrow.below hb12; have hbw2 := hb.trans (hb12.mono hbs); obtain ⟨A2, c2, rfl⟩ := hr2.shape))
              go_wp2_with (go_at_call 45; refine (HFB.out _ _ _ hr2).mono ?_; rintro e w' ⟨rfl, rfl⟩)
              have HB3 := Lib.hid hbw2
              have HR3 := Lib.hid hrow2
              rw [← HS1.out] at HR3
              clear hrow2 hrow hr2 hb2 hb1 hb12 hbw2 hb
              go_roundw
              case rel => exact ⟨j + 1, by omega, by go_num, HR3.out, HB3.out⟩
              case measure => first | (simp [intOf]; done) | (simp [intOf]; omega)
          · have hk2 : j = s.size := by omega
            subst hk2
            go_wp2_with fail
            go_ret2
            exact ⟨_, rfl, hrow, hb⟩
  · have e1 : raOk s k = false := by unfold raOk; rw [hp, Bool.false_and]
    have e2 : raV s k = [] := by unfold raV; rw [e1]; rfl
    rw [e1, e2]
    rw [hp] at HP
    clear e1 e2 hp
    go_enter Try.func19, Try.ntmps19
    go_wp2_with (go_at_call 42; refine (HP.out _).mono ?_; rintro e w' ⟨rfl, rfl⟩)
    go_ret2
    exact ⟨_, rfl, IRow.nil _ _, Below.refl _ _⟩
end Go.Proofs.Ytmfcknlpbliehab
