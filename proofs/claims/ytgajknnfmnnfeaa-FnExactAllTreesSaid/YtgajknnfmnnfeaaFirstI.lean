/- slices.Clone of ints; the program's FirstForest. -/
import Derived.Test.YtgajknnfmnnfeaaCountForI
import Derived.Test.YtgajknnfmnnfeaaRotI
import Derived.Test.YtgajknnfmnnfeaaFfMath
import Derived.Lib.SliceRun
namespace Go.Proofs.Ytgajknnfmnnfeaa
open Go.RowKit
set_option linter.unusedVariables false
def sliceLenI : Value → Nat | .slice _ n _ => n | _ => 0
theorem IRow.slenI {w : World} {B : Nat} {v : Value} {xs : List Int} (h : IRow w B v xs) : sliceLenI v = xs.length := by
  obtain ⟨A, c, rfl⟩ := h.shape
  rfl
set_option maxHeartbeats 800000 in
theorem cloneI_any (v : Value) (xs : List Int) (w : World) (h : RInts w v xs) (hl : xs.length ≤ 1048576) :
    Calls Try.prog 69 #[v] w (IntsNew w xs) := by
  obtain ⟨A0, cap, rfl⟩ := h.shape
  have q22 : ∀ (w : World) (a : Option Addr) (n c n' c' : Nat), (binOp .eql 22 (.slice a n c) (.slice none n' c')).run Try.prog w = .ok (.bool a.isNone) w := fun w a n c n' c' => Lib.run_eql_slice_nil w _ _ a n c n' c' Try.underlying22
  cases A0 with
  | none =>
    have h0 : xs.length = 0 := by
      rcases Nat.eq_zero_or_pos xs.length with h1 | h1
      · exact h1
      · obtain ⟨g, o, cc, hv, _⟩ := h.cells h1
        cases hv
    obtain rfl := List.eq_nil_of_length_eq_zero h0
    clear h
    go_enter Try.func69, Try.ntmps69
    go_wp2
    go_ret
    exact ⟨_, rfl, IRow.nil _ _, Below.refl _ _⟩
  | some ad =>
    have hb0 := (Below.refl w.heap.size w).alloc (Nat.le_refl _) (.cells #[] 3)
    have H := Lib.hid (h.below hb0)
    have HE := Lib.hid (IRow.empty w)
    clear h
    go_enter Try.func69, Try.ntmps69
    go_wp2_with (at_builtin; refine wpList_extendR (.tmp 5) (.tmp 6) rfl rfl w.heap.size _ _ [] xs rfl HE.out rfl H.out (by simp; omega) (by simp) ?_; intro v' w' hrow' hg')
    go_ret
    exact ⟨_, rfl, hrow', hb0.grown hg' (by simp) (fun q hq => (HE.out.blk q hq).1)⟩
theorem cts_sums (xs : List Int) (h : ∀ k, k < xs.length → 0 ≤ xs.getD k 0 ∧ xs.getD k 0 ≤ 16) : ∀ k, k ≤ xs.length → ((cts xs k).length : Int) = (xs.take k).sum ∧ (cts xs k).sum = wsum 0 (xs.take k)
  | 0, _ => by simp [cts, wsum]
  | k + 1, hk => by
    obtain ⟨h1, h2⟩ := cts_sums xs h k (by omega)
    have h3 := h k (by omega)
    have h4 : xs.take (k + 1) = xs.take k ++ [xs.getD k 0] := by
      rw [List.take_succ_eq_append_getElem (show k < xs.length by omega), List.getD_eq_getElem?_getD, List.getElem?_eq_getElem (show k < xs.length by omega)]
      rfl
    rw [cts_len, h4, List.sum_append, wsum_app, cts, List.sum_append, sum_rep, h2, Int.natCast_add, h1, List.length_take, Nat.min_eq_left (by omega)]
    obtain ⟨n, hn⟩ := Int.eq_ofNat_of_zero_le h3.1
    rw [hn]
    simp [wsum, Int.mul_comm]
theorem ct_left {xs : List Int} (hok : ctOk xs = true) (h1 : ¬ exc (cntL xs) < 1) : Lft xs (exc (cntL xs)) (cntL xs).length := by
  obtain ⟨hB, h16, hp⟩ := ctOk_of hok
  obtain ⟨h17, hbd⟩ := ctB_at hB
  obtain ⟨a, b⟩ := cts_sums xs hbd xs.length (Nat.le_refl _)
  rw [List.take_length] at a b
  refine ⟨fun j hj => (hbd j hj).1, a.symm, ?_, fun _ => by omega⟩
  have : exc (cntL xs) = ((cntL xs).length : Int) - (cntL xs).sum := exc_eq _
  rw [this, ← b]
  show (cts xs xs.length).sum = _
  unfold cntL
  omega
def ffOk (xs : List Int) : Bool := ctOk xs && decide (1 ≤ exc (cntL xs))
def ffV (xs : List Int) : List Int := if ffOk xs then ffF (cntL xs).length xs (exc (cntL xs)) else []
theorem ffV_len (xs : List Int) : (ffV xs).length ≤ 1048577 := by
  unfold ffV
  split
  · rename_i h
    unfold ffOk at h
    rw [Bool.and_eq_true] at h
    have := (ctOk_of h.1).2.1
    rw [ffF_length]
    omega
  · simp
theorem ffOk_no {xs : List Int} (h : ctOk xs = false ∨ exc (cntL xs) < 1) : ffOk xs = false := by
  unfold ffOk
  rw [Bool.and_eq_false_iff, decide_eq_false_iff_not]
  rcases h with h | h
  · exact .inl h
  · exact .inr (by omega)
set_option maxHeartbeats 4000000 in
theorem firstForest_ret (v : Value) (xs : List Int) (w : World) (h : RInts w v xs) (hl : xs.length ≤ 1048576) :
    Calls Try.prog 51 #[v] w (IntsRet w (ffOk xs) (ffV xs)) := by
  obtain ⟨A0, cap, rfl⟩ := h.shape
  have HN := Lib.hid (nodesOf_any _ xs w h hl)
  have HCL := Lib.hid (cloneI_any _ xs w h hl)
  clear h
  rcases Bool.eq_false_or_eq_true (ctOk xs) with hok | hok
  · obtain ⟨hB, h16, hp⟩ := ctOk_of hok
    obtain ⟨h17, hbd⟩ := ctB_at hB
    have hd := cntL_deg hok
    have hr := exc_bd hd
    have HNN : Hid (Calls Try.prog 86 #[.slice A0 xs.length cap] w fun e w' => e = .returned (.tuple #[.int .i64 ((cntL xs).length : Nat), .int .i64 (exc (cntL xs)), .bool true]) ∧ w = w') :=
      Lib.hid (HN.out.mono fun e w' ⟨N, E, he, hh, hw⟩ => by
        obtain ⟨h1, h2⟩ := hh hok
        rw [he, h1, h2, hok]
        exact ⟨rfl, hw⟩)
    clear HN
    by_cases h1 : exc (cntL xs) < 1
    · have e1 := ffOk_no (.inr h1)
      have e2 : ffV xs = [] := by unfold ffV; rw [e1]; rfl
      rw [e1, e2]
      clear hd hB hok e1 e2
      generalize exc (cntL xs) = r at *
      go_enter Try.func51, Try.ntmps51
      go_wp2_with (go_at_call 86; refine HNN.out.mono ?_; rintro e w1 ⟨rfl, rfl⟩)
      go_ret2
      exact ⟨_, rfl, IRow.nil _ _, Below.refl _ _⟩
    · have e1 : ffOk xs = true := by unfold ffOk; rw [hok, decide_eq_true (show 1 ≤ exc (cntL xs) by omega)]; rfl
      have e2 : ffV xs = ffF (cntL xs).length xs (exc (cntL xs)) := by unfold ffV; rw [e1]; rfl
      have hlf := ct_left hok h1
      have hx0 : 0 < xs.length := by
        obtain ⟨j, _, hj, _⟩ := hlf.some hp
        omega
      rw [e1, e2]
      have HLF := Lib.hid hlf
      have HR : Hid (ffF (cntL xs).length xs (exc (cntL xs)) = ffF (cntL xs).length xs (exc (cntL xs))) := Lib.hid rfl
      clear hd hB hok hbd e1 e2 hlf
      generalize hRR : ffF (cntL xs).length xs (exc (cntL xs)) = R at *
      have HRR := Lib.hid hRR
      clear hRR HR
      generalize exc (cntL xs) = r at *
      generalize (cntL xs).length = N at *
      go_enter Try.func51, Try.ntmps51
      go_wp2_with (first | (go_at_call 86; refine HNN.out.mono ?_; rintro e w1 ⟨rfl, rfl⟩) | (go_at_call 69; refine HCL.out.mono ?_; rintro e w1 ⟨v1, rfl, hr1, hb1⟩; obtain ⟨gL, cL, rfl, hgB, hgl⟩ := hr1.form' rfl hx0))
      go_loopw [8, 9, 10] (fun a l dd wr => ∃ (n : Nat) (A : Int) (L out : List Int), a = .int .i64 A ∧ Lft L A n ∧ L.length = xs.length ∧ IRow wr w.heap.size (.slice (some ⟨gL, 0, none⟩) xs.length cL) L ∧ IRow wr w1.heap.size l out ∧ out.length + n = N ∧ Hid (out ++ ffF n L A = R) ∧ Below w.heap.size w wr ∧ w1.heap.size ≤ wr.heap.size) (fun _ l _ _ => N - sliceLenI l)
      case atStart => exact ⟨N, r, xs, [], rfl, HLF.out, rfl, hr1, IRow.nil _ _, by simp, HRR, hb1, Nat.le_refl _⟩
      case round =>
        obtain ⟨n, A, L, out, rfl, hlf, hLl, hrow, hout, hon, HO, hb, hs1⟩ := hrel
        obtain ⟨A1, c1, rfl⟩ := hout.shape
        clear hr1 hb1
        cases n with
        | zero =>
          have hoN : out.length = N := by omega
          rw [hoN] at hout ⊢
          clear hlf
          go_wp2
          go_ret2
          rw [ffF, List.append_nil] at HO
          rw [← HO.out]
          exact ⟨_, rfl, hout.mono (by omega), hb⟩
        | succ n =>
          obtain ⟨p1, p2, p3, p4⟩ := hlf.pick (by omega)
          have hA1 := hlf.aw (by omega)
          have hA2 := hlf.le
          have hA3 : A ≤ 32 := by omega
          have HNX := Lib.hid hlf.next
          rw [ffF_succ] at HO
          have hz : ∀ i, d0 A (n + 1) ≤ i → i < pk L A (n + 1) → wr.cell? ⟨gL, i, none⟩ = some (.int .i64 0) := fun i h1 h2 => by
            rw [hrow.cell (j := i) (by omega), p4 i h1 h2]
          have HZ := Lib.hid hz
          have e1 := hrow.cell (j := pk L A (n + 1)) (by omega)
          have f1 := hrow.free (pk L A (n + 1))
          have HSET := Lib.hid (hrow.set (pk L A (n + 1)) (L.getD (pk L A (n + 1)) 0 - 1))
          rw [hLl] at p2
          have HLL : Hid ((L.set (pk L A (n + 1)) (L.getD (pk L A (n + 1)) 0 - 1)).length = xs.length) := Lib.hid (by rw [List.length_set]; exact hLl)
          have hout2 : IRow (wr.setCell ⟨gL, pk L A (n + 1), none⟩ (.int .i64 (L.getD (pk L A (n + 1)) 0 - 1))) w1.heap.size (.slice A1 out.length c1) out :=
            hout.grown_over (v2 := .slice (some ⟨gL, 0, none⟩) xs.length cL) HSET.out.2 (fun k hk => (hout.blk k hk).1) (fun k hk => by have : some gL = some k := hk; injection this with this; omega)
          have hb2 : Below w.heap.size w (wr.setCell ⟨gL, pk L A (n + 1), none⟩ (.int .i64 (L.getD (pk L A (n + 1)) 0 - 1))) := hb.setCell hgB _
          have hs2 : w1.heap.size ≤ (wr.setCell ⟨gL, pk L A (n + 1), none⟩ (.int .i64 (L.getD (pk L A (n + 1)) 0 - 1))).heap.size := Nat.le_trans hs1 HSET.out.2.size
          have hD : pk L A (n + 1) ≤ 16 := by omega
          have hx2 : L.getD (pk L A (n + 1)) 0 ≤ 1000 := by have := hlf.elt (pk L A (n + 1)); omega
          generalize L.set (pk L A (n + 1)) (L.getD (pk L A (n + 1)) 0 - 1) = L2 at *
          generalize L.getD (pk L A (n + 1)) 0 = x at *
          generalize pk L A (n + 1) = D at *
          have hx1 : (x == 0) = false := beq_eq_false_iff_ne.2 (by omega)
          clear hlf hz p4 hrow hout hb
          have hcase : (A = 1 ∧ (out.length : Int) < (N : Int) - 1 ∧ d0 A (n + 1) = 1) ∨ (A = 1 ∧ ¬ (out.length : Int) < (N : Int) - 1 ∧ d0 A (n + 1) = 0) ∨ (A ≠ 1 ∧ True ∧ d0 A (n + 1) = 0) := by
            unfold d0
            by_cases c1 : A = 1
            · by_cases c2 : 1 < n + 1
              · exact .inl ⟨c1, by omega, if_pos ⟨c1, c2⟩⟩
              · exact .inr (.inl ⟨c1, by omega, if_neg (by omega)⟩)
            · exact .inr (.inr ⟨c1, trivial, if_neg (by omega)⟩)
          have hlN : (out.length : Int) < (N : Int) := by omega
          have HON := Lib.hid hon
          clear hon
          rcases hcase with ⟨hA, hn2, hd0⟩ | ⟨hA, hn2, hd0⟩ | ⟨hA, hn2, hd0⟩
          · rw [hd0] at p1 HZ
            subst hA
            clear hd0
            go_wp2_with fail
            go_loop [10] (fun dd => ∃ i : Nat, 1 ≤ i ∧ i ≤ D ∧ dd = .int .i64 (i : Int)) (fun dd => D - (intOf dd).toNat)
            case atStart => exact ⟨1, by omega, p1, rfl⟩
            case round =>
              obtain ⟨i, hi1, hi2, rfl⟩ := hrel
              by_cases hiD : i < D
              · have e0 := HZ.out i hi1 hiD
                clear e1 f1
                go_wp2_with fail
                go_round
                case rel => exact ⟨i + 1, by omega, by omega, by go_num⟩
                case measure => first | (simp [intOf]; done) | (simp [intOf]; omega)
              · obtain rfl : i = D := by omega
                go_wp2_with (at_builtin; refine wpList_pushG (.tmp 56) (.tmp 58) rfl rfl w1.heap.size _ out rfl hout2 _ (by simp [World.setCell]) rfl (by omega) hs2 ?_; intro v' w' hrow' hg' hat')
                go_roundw
                case rel => exact ⟨n, 1 + ((i : Int) - 1), L2, out ++ [(i : Int)], by go_num, HNX.out, HLL.out, HSET.out.1.grown_other hg' (fun k hk => by have : some gL = some k := hk; injection this with this; omega) (fun k hk => (hout2.blk k hk).1), hrow', by have := HON.out; simp; omega, Lib.hid (by rw [List.append_assoc]; exact HO.out), hb2.grown hg' (by omega) (fun q hq => by have := (hout2.blk q hq).1; omega), by have := hg'.size; omega⟩
                case measure => rw [hrow'.slenI, List.length_append]; simp [sliceLenI]; omega
          · rw [hd0] at p1 HZ
            subst hA
            clear hd0
            go_wp2_with fail
            go_loop [10] (fun dd => ∃ i : Nat, 0 ≤ i ∧ i ≤ D ∧ dd = .int .i64 (i : Int)) (fun dd => D - (intOf dd).toNat)
            case atStart => exact ⟨0, by omega, by omega, rfl⟩
            case round =>
              obtain ⟨i, hi1, hi2, rfl⟩ := hrel
              by_cases hiD : i < D
              · have e0 := HZ.out i hi1 hiD
                clear e1 f1
                go_wp2_with fail
                go_round
                case rel => exact ⟨i + 1, by omega, by omega, by go_num⟩
                case measure => first | (simp [intOf]; done) | (simp [intOf]; omega)
              · obtain rfl : i = D := by omega
                go_wp2_with (at_builtin; refine wpList_pushG (.tmp 56) (.tmp 58) rfl rfl w1.heap.size _ out rfl hout2 _ (by simp [World.setCell]) rfl (by omega) hs2 ?_; intro v' w' hrow' hg' hat')
                go_roundw
                case rel => exact ⟨n, 1 + ((i : Int) - 1), L2, out ++ [(i : Int)], by go_num, HNX.out, HLL.out, HSET.out.1.grown_other hg' (fun k hk => by have : some gL = some k := hk; injection this with this; omega) (fun k hk => (hout2.blk k hk).1), hrow', by have := HON.out; simp; omega, Lib.hid (by rw [List.append_assoc]; exact HO.out), hb2.grown hg' (by omega) (fun q hq => by have := (hout2.blk q hq).1; omega), by have := hg'.size; omega⟩
                case measure => rw [hrow'.slenI, List.length_append]; simp [sliceLenI]; omega
          · rw [hd0] at p1 HZ
            have hA' : (A == 1) = false := beq_eq_false_iff_ne.2 hA
            clear hd0
            go_wp2_with fail
            go_loop [10] (fun dd => ∃ i : Nat, 0 ≤ i ∧ i ≤ D ∧ dd = .int .i64 (i : Int)) (fun dd => D - (intOf dd).toNat)
            case atStart => exact ⟨0, by omega, by omega, rfl⟩
            case round =>
              obtain ⟨i, hi1, hi2, rfl⟩ := hrel
              by_cases hiD : i < D
              · have e0 := HZ.out i hi1 hiD
                clear e1 f1
                go_wp2_with fail
                go_round
                case rel => exact ⟨i + 1, by omega, by omega, by go_num⟩
                case measure => first | (simp [intOf]; done) | (simp [intOf]; omega)
              · obtain rfl : i = D := by omega
                go_wp2_with (at_builtin; refine wpList_pushG (.tmp 56) (.tmp 58) rfl rfl w1.heap.size _ out rfl hout2 _ (by simp [World.setCell]) rfl (by omega) hs2 ?_; intro v' w' hrow' hg' hat')
                go_roundw
                case rel => exact ⟨n, A + ((i : Int) - 1), L2, out ++ [(i : Int)], by go_num, HNX.out, HLL.out, HSET.out.1.grown_other hg' (fun k hk => by have : some gL = some k := hk; injection this with this; omega) (fun k hk => (hout2.blk k hk).1), hrow', by have := HON.out; simp; omega, Lib.hid (by rw [List.append_assoc]; exact HO.out), hb2.grown hg' (by omega) (fun q hq => by have := (hout2.blk q hq).1; omega), by have := hg'.size; omega⟩
                case measure => rw [hrow'.slenI, List.length_append]; simp [sliceLenI]; omega
  · have e1 := ffOk_no (.inl hok)
    have e2 : ffV xs = [] := by unfold ffV; rw [e1]; rfl
    rw [e1, e2]
    have HNN : Hid (Calls Try.prog 86 #[.slice A0 xs.length cap] w fun e w' => ∃ N E : Int, e = .returned (.tuple #[.int .i64 N, .int .i64 E, .bool false]) ∧ w = w') :=
      Lib.hid (HN.out.mono fun e w' ⟨N, E, he, hh, hw⟩ => ⟨N, E, by rw [he, hok], hw⟩)
    clear HN hok e1 e2
    go_enter Try.func51, Try.ntmps51
    go_wp2_with (go_at_call 86; refine HNN.out.mono ?_; rintro e w1 ⟨N, E, rfl, rfl⟩)
    go_ret2
    exact ⟨_, rfl, IRow.nil _ _, Below.refl _ _⟩
end Go.Proofs.Ytgajknnfmnnfeaa
