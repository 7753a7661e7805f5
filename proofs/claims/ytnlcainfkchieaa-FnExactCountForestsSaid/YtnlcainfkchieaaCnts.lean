/- cyCounts. -/
import Derived.Test.YtnlcainfkchieaaDeg
namespace Go.Proofs.Ytnlcainfkchieaa
open Go.RowKit
set_option linter.unusedVariables false
/-- the degrees that the first k counts tell -/
def cts (xs : List Int) : Nat → List Int
  | 0 => []
  | k + 1 => cts xs k ++ List.replicate (xs.getD k 0).toNat (k : Int)
def cntL (xs : List Int) : List Int := cts xs xs.length
def ctB (xs : List Int) : Bool := decide (xs.length ≤ 17) && allB xs 0 16
def ctOk (xs : List Int) : Bool := ctB xs && (decide ((cntL xs).length ≤ 16) && decide (0 < (cntL xs).length))
def ctV (xs : List Int) : List Int := if ctOk xs then cntL xs else []
theorem cts_mono (xs : List Int) (k : Nat) : ∀ m, (cts xs k).length ≤ (cts xs (k + m)).length
  | 0 => Nat.le_refl _
  | m + 1 => by
    have := cts_mono xs k m
    rw [← Nat.add_assoc, cts, List.length_append]
    omega
theorem ctOk_long {xs : List Int} {k : Nat} (hk : k ≤ xs.length) (h : 16 < (cts xs k).length) : ctOk xs = false := by
  have := cts_mono xs k (xs.length - k)
  rw [show k + (xs.length - k) = xs.length by omega] at this
  unfold ctOk cntL
  rw [decide_eq_false (p := (cts xs xs.length).length ≤ 16) (by omega), Bool.false_and, Bool.and_false]
theorem ctV_no {xs : List Int} (h : ctOk xs = false) : ctV xs = [] := by unfold ctV; rw [h]; rfl
theorem ctB_at {xs : List Int} (h : ctB xs = true) : xs.length ≤ 17 ∧ ∀ k, k < xs.length → 0 ≤ xs.getD k 0 ∧ xs.getD k 0 ≤ 16 := by
  unfold ctB at h
  rw [Bool.and_eq_true, decide_eq_true_iff] at h
  refine ⟨h.1, fun k hk => ?_⟩
  have h2 := h.2
  unfold allB at h2
  rw [List.all_eq_true] at h2
  have := h2 (xs.getD k 0) (by rw [List.getD_eq_getElem?_getD, List.getElem?_eq_getElem hk]; exact List.getElem_mem hk)
  simpa [inBd] using this
set_option maxHeartbeats 2000000 in
theorem cyCounts_ret (v : Value) (xs : List Int) (w : World) (h : RInts w v xs) (hl : xs.length ≤ 1048576) :
    Calls Try.prog 37 #[v] w (IntsRet w (ctOk xs) (ctV xs)) := by
  obtain ⟨A0, cap, rfl⟩ := h.shape
  have H := Lib.hid h
  clear h
  have HA : Hid (∀ w, RInts w (.slice A0 xs.length cap) xs → Calls Try.prog 60 #[.slice A0 xs.length cap, .int .i64 0, .int .i64 16] w fun e w' => e = .returned (.bool (allB xs 0 16)) ∧ w = w') := Lib.hid fun w h => l1All_any _ xs 0 16 w h hl
  by_cases h17 : xs.length ≤ 17
  · rcases Bool.eq_false_or_eq_true (allB xs 0 16) with ha | ha
    · have HB : Hid (∀ k, k < xs.length → 0 ≤ xs.getD k 0 ∧ xs.getD k 0 ≤ 16) := Lib.hid (ctB_at (by unfold ctB; rw [ha, decide_eq_true h17]; rfl)).2
      have hB : ctB xs = true := by unfold ctB; rw [ha, decide_eq_true h17]; rfl
      have HLONG : Hid (∀ k, k ≤ xs.length → 16 < (cts xs k).length → ctOk xs = false ∧ ctV xs = []) := Lib.hid fun k hk h => ⟨ctOk_long hk h, ctV_no (ctOk_long hk h)⟩
      have HEND : Hid ((cts xs xs.length).length ≤ 16 → ctOk xs = decide (0 < (cts xs xs.length).length) ∧ ctV xs = cts xs xs.length) := Lib.hid fun h => by
        have e : ctOk xs = decide (0 < (cts xs xs.length).length) := by unfold ctOk cntL; rw [hB, decide_eq_true h, Bool.true_and, Bool.true_and]
        refine ⟨e, ?_⟩
        unfold ctV
        rw [e]
        split
        · rfl
        · rename_i h2
          rw [decide_eq_true_iff] at h2
          exact (List.eq_nil_of_length_eq_zero (by omega)).symm
      have HSUC : Hid (∀ k, cts xs (k + 1) = cts xs k ++ List.replicate (xs.getD k 0).toNat (k : Int)) := Lib.hid fun k => rfl
      rw [ha] at HA
      clear ha hB
      generalize ctOk xs = ok at *
      generalize ctV xs = R at *
      go_enter Try.func37, Try.ntmps37
      go_wp2_with (go_at_call 60; refine (HA.out _ H.out).mono ?_; rintro e w' ⟨rfl, rfl⟩)
      go_loopw [4, 17] (fun v i wr => ∃ k : Nat, k ≤ xs.length ∧ i = .int .i64 (k : Int) ∧ IRow wr w.heap.size v (cts xs k) ∧ (cts xs k).length ≤ 16 ∧ Below w.heap.size w wr) (fun _ i _ => xs.length - (intOf i).toNat)
      case atStart => exact ⟨0, by omega, rfl, IRow.nil _ _, by simp [cts], Below.refl _ _⟩
      case round =>
        obtain ⟨k, hk, rfl, hrow, hl16, hb⟩ := hrel
        have hsz := hb.size
        by_cases hlt : k < xs.length
        · obtain ⟨g, o, cc, hv, hg, hcells⟩ := H.out.cells (by omega)
          have hA : A0 = some ⟨g, o, none⟩ := by injection hv
          subst hA
          clear hv
          have e1 : wr.cell? ⟨g, o + k, none⟩ = some (.int .i64 (xs.getD k 0)) := (hb.cell (p := ⟨g, o + k, none⟩) hg).trans (hcells k hlt)
          clear hcells
          have hx := HB.out k hlt
          have HS1 := Lib.hid (HSUC.out k)
          have HL1 := Lib.hid (HLONG.out (k + 1) (by omega))
          clear HSUC HLONG HEND
          generalize cts xs k = L at *
          generalize xs.getD k 0 = x at *
          obtain ⟨n, rfl⟩ := Int.eq_ofNat_of_zero_le hx.1
          rw [Int.toNat_natCast] at HS1
          have HROW := Lib.hid hrow
          have HBEL := Lib.hid hb
          clear hrow hb
          go_wp2_with fail
          go_loopw [4, 6] (fun v c ws => ∃ m : Nat, m ≤ n ∧ c = .int .i64 (m : Int) ∧ IRow ws w.heap.size v (L ++ List.replicate (n - m) (k : Int)) ∧ Below w.heap.size w ws) (fun _ c _ => (intOf c).toNat)
          case atStart => exact ⟨n, Nat.le_refl _, rfl, by rw [Nat.sub_self, List.replicate_zero, List.append_nil]; exact HROW.out, HBEL.out⟩
          case round =>
            obtain ⟨m, hm, rfl, hrow, hb⟩ := hrel
            have hsz2 := hb.size
            clear e1
            by_cases hpos : 0 < m
            · have HE : Hid (L ++ List.replicate (n - (m - 1)) (k : Int) = L ++ List.replicate (n - m) (k : Int) ++ [(k : Int)]) := by
                unfold Hid
                rw [show n - (m - 1) = (n - m) + 1 by omega, List.replicate_succ', List.append_assoc]
              have hlen : (L ++ List.replicate (n - m) (k : Int)).length ≤ 40 := by rw [List.length_append, List.length_replicate]; omega
              go_wp2_with (at_builtin; refine wpList_push (.tmp 26) (.tmp 28) rfl rfl w.heap.size _ (L ++ List.replicate (n - m) (k : Int)) rfl hrow rfl (by omega) hsz2 ?_; intro v' w' hrow' hg' hat')
              go_roundw
              case rel => exact ⟨m - 1, by omega, by go_num, by rw [HE.out]; exact hrow', hb.grown hg' hsz2 (fun q hq => (hrow.blk q hq).1)⟩
              case measure => first | (simp [intOf]; done) | (simp [intOf]; omega)
            · have hm0 : m = 0 := by omega
              subst hm0
              rw [Nat.sub_zero, ← HS1.out] at hrow
              have hL1 : (cts xs (k + 1)).length ≤ 40 := by rw [HS1.out, List.length_append, List.length_replicate]; omega
              obtain ⟨A1, c1, rfl⟩ := hrow.shape
              by_cases h16 : 16 < (cts xs (k + 1)).length
              · obtain ⟨rfl, rfl⟩ := HL1.out h16
                go_wp2_with fail
                go_ret2
                exact ⟨_, rfl, IRow.nil _ _, hb⟩
              · go_wp2_with fail
                go_roundw
                case rel => exact ⟨k + 1, by omega, by go_num, hrow, by omega, hb⟩
                case measure => first | (simp [intOf]; done) | (simp [intOf]; omega)
        · have hk2 : k = xs.length := by omega
          subst hk2
          obtain ⟨hok, rfl⟩ := HEND.out hl16
          clear HEND HLONG HSUC HB
          generalize cts xs xs.length = L at *
          obtain ⟨A1, c1, rfl⟩ := hrow.shape
          by_cases hz : 0 < L.length
          · rw [decide_eq_true hz] at hok
            subst hok
            go_wp2_with fail
            go_ret2
            exact ⟨_, rfl, hrow, hb⟩
          · rw [decide_eq_false hz] at hok
            subst hok
            go_wp2_with fail
            go_ret2
            exact ⟨_, rfl, hrow, hb⟩
    · have e1 : ctOk xs = false := by unfold ctOk ctB; rw [ha, Bool.and_false, Bool.false_and]
      rw [ctV_no e1, e1]
      rw [ha] at HA
      clear e1 ha
      go_enter Try.func37, Try.ntmps37
      go_wp2_with (go_at_call 60; refine (HA.out _ H.out).mono ?_; rintro e w' ⟨rfl, rfl⟩)
      go_ret2
      exact ⟨_, rfl, IRow.nil _ _, Below.refl _ _⟩
  · have e1 : ctOk xs = false := by unfold ctOk ctB; rw [decide_eq_false h17, Bool.false_and, Bool.false_and]
    rw [ctV_no e1, e1]
    clear e1 HA
    go_enter Try.func37, Try.ntmps37
    go_wp2_with fail
    go_ret2
    exact ⟨_, rfl, IRow.nil _ _, Below.refl _ _⟩
end Go.Proofs.Ytnlcainfkchieaa
