/- The model's FirstForest. -/
import Derived.Test.YtgajknnfmnnfeaaFirstI
namespace Go.Proofs.Ytgajknnfmnnfeaa
open Go.RowKit
set_option linter.unusedVariables false
set_option maxHeartbeats 4000000 in
theorem specFirstForest_ret (v : Value) (xs : List Int) (w : World) (h : RInts w v xs) (hl : xs.length ≤ 1048576) :
    Calls Try.prog 50 #[v] w (IntsRet w (ffOk xs) (ffV xs)) := by
  obtain ⟨A0, cap, rfl⟩ := h.shape
  have HC := Lib.hid (cyCounts_ret _ xs w h hl)
  have H := Lib.hid h
  clear h
  rcases Bool.eq_false_or_eq_true (ctOk xs) with hok | hok
  · obtain ⟨hB, h16, hp⟩ := ctOk_of hok
    obtain ⟨h17, hbd⟩ := ctB_at hB
    have hd := cntL_deg hok
    have hr := exc_bd hd
    have HX : Hid (∀ w B v1, IRow w B v1 (cntL xs) → Calls Try.prog 61 #[v1] w fun e w' => e = .returned (.int .i64 (exc (cntL xs))) ∧ w = w') := Lib.hid fun w B v1 h => cyExcess_any v1 _ w (RInts.of_row h) hd
    rw [ctV_yes hok] at HC
    by_cases h1 : exc (cntL xs) < 1
    · have e1 := ffOk_no (.inr h1)
      have e2 : ffV xs = [] := by unfold ffV; rw [e1]; rfl
      rw [e1, e2]
      rw [hok] at HC
      clear hd hB hok e1 e2
      generalize exc (cntL xs) = r at *
      go_enter Try.func50, Try.ntmps50
      go_wp2_with (first | (go_at_call 84; refine HC.out.mono ?_; rintro e w1 ⟨v1, rfl, hr1, hb1⟩) | (go_at_call 61; refine (HX.out _ _ _ hr1).mono ?_; rintro e w' ⟨rfl, rfl⟩))
      go_ret2
      exact ⟨_, rfl, IRow.nil _ _, hb1⟩
    · have e1 : ffOk xs = true := by unfold ffOk; rw [hok, decide_eq_true (show 1 ≤ exc (cntL xs) by omega)]; rfl
      have e2 : ffV xs = ffF (cntL xs).length xs (exc (cntL xs)) := by unfold ffV; rw [e1]; rfl
      have hlf := ct_left hok h1
      have hx0 : 0 < xs.length := by
        obtain ⟨j, _, hj, _⟩ := hlf.some hp
        omega
      rw [e1, e2]
      rw [hok] at HC
      have HLF := Lib.hid hlf
      have HOWN : Hid (∀ w1, Below w.heap.size w w1 → Calls Try.prog 88 #[.slice A0 xs.length cap] w1 (IntsNew w1 xs)) := Lib.hid fun w1 hb => by
        obtain ⟨g, o, c, hv, hg, hcells⟩ := (H.out.below hb).cells hx0
        rw [hv]
        exact l1Own_any g o c xs w1 hg hcells hl
      clear hd hB hok hbd e1 e2 hlf
      generalize hRR : ffF (cntL xs).length xs (exc (cntL xs)) = R at *
      have HRR := Lib.hid hRR
      clear hRR
      generalize exc (cntL xs) = r at *
      generalize cntL xs = CL at *
      generalize hNN : CL.length = N at *
      have HNN := Lib.hid hNN
      clear hNN
      go_enter Try.func50, Try.ntmps50
      go_wp2_with (first | (go_at_call 84; refine HC.out.mono ?_; rintro e w0 ⟨v0, rfl, hr0, hb0⟩; obtain ⟨g0, c0, rfl, hg0, hg0'⟩ := hr0.form' HNN.out hp) | (go_at_call 61; refine (HX.out _ _ _ hr0).mono ?_; rintro e w' ⟨rfl, rfl⟩) | (go_at_call 88; refine (HOWN.out _ hb0).mono ?_; rintro e w1 ⟨v1, rfl, hr1, hb1⟩; obtain ⟨gL, cL, rfl, hgB, hgl⟩ := hr1.form' rfl hx0))
      have hz01 := hb0.size
      have hz02 := hb1.size
      have hb01 := hb0.trans (hb1.mono hz01)
      go_loopw [8, 9, 10, 11] (fun l sm nn dd wr => ∃ (n : Nat) (A : Int) (L out : List Int), nn = .int .i64 (n : Int) ∧ sm = .int .i64 (A - r) ∧ Lft L A n ∧ L.length = xs.length ∧ IRow wr w0.heap.size (.slice (some ⟨gL, 0, none⟩) xs.length cL) L ∧ IRow wr w1.heap.size l out ∧ out.length + n = N ∧ Hid (out ++ ffF n L A = R) ∧ Below w.heap.size w wr ∧ w1.heap.size ≤ wr.heap.size) (fun _ _ nn _ _ => (intOf nn).toNat)
      case atStart => exact ⟨N, r, xs, [], rfl, by go_num, HLF.out, rfl, hr1, IRow.nil _ _, by simp, HRR, hb01, Nat.le_refl _⟩
      case round =>
        obtain ⟨n, A, L, out, rfl, rfl, hlf, hLl, hrow, hout, hon, HO, hb, hs1⟩ := hrel
        obtain ⟨A1, c1, rfl⟩ := hout.shape
        clear hr1 hb1 hr0 hb0 hb01
        cases n with
        | zero =>
          clear hlf
          go_wp2
          go_ret2
          rw [ffF, List.append_nil] at HO
          rw [← HO.out]
          exact ⟨_, rfl, hout.mono (by omega), hb⟩
        | succ n =>
          obtain ⟨p1, p2, p3, p4⟩ := hlf.pick (by omega)
          have hA1 := hlf.aw (by omega)
          have hA2 := hlf.le
          have hA3 : A ≤ 32 := by omega
          have HNX := Lib.hid hlf.next
          rw [ffF_succ] at HO
          have HZ : Hid (∀ i, i < pk L A (n + 1) → ∃ y, wr.cell? ⟨gL, i, none⟩ = some (.int .i64 y) ∧ (y = 0 ∨ (0 ≤ y ∧ i = 0 ∧ A = 1 ∧ 1 < n + 1))) := Lib.hid fun i h2 => by
            refine ⟨_, hrow.cell (j := i) (by omega), ?_⟩
            by_cases c : d0 A (n + 1) ≤ i
            · exact .inl (p4 i c h2)
            · right
              unfold d0 at c
              by_cases c1 : A = 1 ∧ 1 < n + 1
              · rw [if_pos c1] at c
                exact ⟨hlf.pos i (by omega), by omega, c1⟩
              · rw [if_neg c1] at c
                omega
          have HPK : Hid (A ≠ 1 ∨ n + 1 = 1 ∨ 1 ≤ pk L A (n + 1)) := Lib.hid (by
            by_cases c1 : A = 1 ∧ 1 < n + 1
            · unfold d0 at p1
              rw [if_pos c1] at p1
              exact .inr (.inr p1)
            · omega)
          have e1 := hrow.cell (j := pk L A (n + 1)) (by omega)
          have f1 := hrow.free (pk L A (n + 1))
          have HSET := Lib.hid (hrow.set (pk L A (n + 1)) (L.getD (pk L A (n + 1)) 0 - 1))
          rw [hLl] at p2
          have HLL : Hid ((L.set (pk L A (n + 1)) (L.getD (pk L A (n + 1)) 0 - 1)).length = xs.length) := Lib.hid (by rw [List.length_set]; exact hLl)
          have hout2 : IRow (wr.setCell ⟨gL, pk L A (n + 1), none⟩ (.int .i64 (L.getD (pk L A (n + 1)) 0 - 1))) w1.heap.size (.slice A1 out.length c1) out :=
            hout.grown_over (v2 := .slice (some ⟨gL, 0, none⟩) xs.length cL) HSET.out.2 (fun k hk => (hout.blk k hk).1) (fun k hk => by have : some gL = some k := hk; injection this with this; omega)
          have hb2 : Below w.heap.size w (wr.setCell ⟨gL, pk L A (n + 1), none⟩ (.int .i64 (L.getD (pk L A (n + 1)) 0 - 1))) := hb.setCell (show w.heap.size ≤ gL by omega) _
          have hs2 : w1.heap.size ≤ (wr.setCell ⟨gL, pk L A (n + 1), none⟩ (.int .i64 (L.getD (pk L A (n + 1)) 0 - 1))).heap.size := Nat.le_trans hs1 HSET.out.2.size
          have hD : pk L A (n + 1) ≤ 16 := by omega
          have hx2 : L.getD (pk L A (n + 1)) 0 ≤ 1000 := by have := hlf.elt (pk L A (n + 1)); omega
          generalize L.set (pk L A (n + 1)) (L.getD (pk L A (n + 1)) 0 - 1) = L2 at *
          generalize L.getD (pk L A (n + 1)) 0 = x at *
          generalize pk L A (n + 1) = D at *
          clear hlf p4 hrow hout hb
          have ho16 : out.length ≤ 16 := by omega
          have HON := Lib.hid hon
          clear hon p1
          obtain ⟨m, hm⟩ : ∃ m, m = n + 1 := ⟨_, rfl⟩
          have hm0 : 0 < m := by omega
          have hm1 : m ≤ 17 := by have := HON.out; omega
          have HM := Lib.hid hm
          rw [← hm] at HZ HPK ⊢
          clear hm hA2
          go_wp2_with fail
          go_loop [8, 9, 11, 36] (fun l sm dd ix => l = .slice A1 out.length c1 ∧ sm = .int .i64 (A - r) ∧ ∃ i : Nat, i ≤ D ∧ ix = .int .i64 (i : Int)) (fun _ _ _ ix => D - (intOf ix).toNat)
          case atStart => exact ⟨rfl, rfl, 0, by omega, rfl⟩
          case round =>
            obtain ⟨rfl, rfl, i, hi2, rfl⟩ := hrel
            by_cases hiD : i < D
            · obtain ⟨y, e0, hy⟩ := HZ.out i hiD
              have i1 : i < xs.length := by omega
              clear e1 f1 p2
              rcases hy with rfl | ⟨hy, rfl, rfl, hm2⟩
              · go_wp2_with fail
                go_round
                case rel => exact ⟨rfl, rfl, i + 1, by omega, by go_num⟩
                case measure => first | (simp [intOf]; done) | (simp [intOf]; omega)
              · by_cases hy0 : y = 0
                · subst hy0
                  go_wp2_with fail
                  go_round
                  case rel => exact ⟨rfl, rfl, 1, by omega, rfl⟩
                  case measure => first | (simp [intOf]; done) | (simp [intOf]; omega)
                · have hy1 : 0 < y := by omega
                  have hm3 : ((m : Int) == 1) = false := beq_eq_false_iff_ne.2 (by omega)
                  go_wp2_with fail
                  go_round
                  case rel => exact ⟨rfl, rfl, 1, by omega, rfl⟩
                  case measure => first | (simp [intOf]; done) | (simp [intOf]; omega)
            · obtain rfl : i = D := by omega
              by_cases c1 : A = 1
              · subst c1
                by_cases c2 : 0 < i
                · go_wp2_with (at_builtin; refine wpList_pushG (.tmp 67) (.tmp 69) rfl rfl w1.heap.size _ out rfl hout2 _ (by simp [World.setCell]) rfl (by omega) hs2 ?_; intro v' w' hrow' hg' hat')
                  go_roundw
                  case rel => exact ⟨n, 1 + ((i : Int) - 1), L2, out ++ [(i : Int)], by have := HM.out; subst this; go_num, by go_num, HNX.out, HLL.out, HSET.out.1.grown_other hg' (fun k hk => by have : some gL = some k := hk; injection this with this; omega) (fun k hk => (hout2.blk k hk).1), hrow', by have := HON.out; simp; omega, Lib.hid (by rw [List.append_assoc]; exact HO.out), hb2.grown hg' (by omega) (fun q hq => by have := (hout2.blk q hq).1; omega), by have := hg'.size; omega⟩
                  case measure => simp [intOf]; omega
                · obtain rfl : i = 0 := by omega
                  obtain rfl : m = 1 := by have := HPK.out; have := HM.out; omega
                  go_wp2_with (at_builtin; refine wpList_pushG (.tmp 67) (.tmp 69) rfl rfl w1.heap.size _ out rfl hout2 _ (by simp [World.setCell]) rfl (by omega) hs2 ?_; intro v' w' hrow' hg' hat')
                  go_roundw
                  case rel => exact ⟨n, 0, L2, out ++ [0], by have := HM.out; (obtain rfl : n = 0 := by omega); go_num, by go_num, HNX.out, HLL.out, HSET.out.1.grown_other hg' (fun k hk => by have : some gL = some k := hk; injection this with this; omega) (fun k hk => (hout2.blk k hk).1), hrow', by have := HON.out; simp; omega, Lib.hid (by rw [List.append_assoc]; exact HO.out), hb2.grown hg' (by omega) (fun q hq => by have := (hout2.blk q hq).1; omega), by have := hg'.size; omega⟩
                  case measure => simp [intOf]
              · go_wp2_with (at_builtin; refine wpList_pushG (.tmp 67) (.tmp 69) rfl rfl w1.heap.size _ out rfl hout2 _ (by simp [World.setCell]) rfl (by omega) hs2 ?_; intro v' w' hrow' hg' hat')
                go_roundw
                case rel => exact ⟨n, A + ((i : Int) - 1), L2, out ++ [(i : Int)], by have := HM.out; subst this; go_num, by go_num, HNX.out, HLL.out, HSET.out.1.grown_other hg' (fun k hk => by have : some gL = some k := hk; injection this with this; omega) (fun k hk => (hout2.blk k hk).1), hrow', by have := HON.out; simp; omega, Lib.hid (by rw [List.append_assoc]; exact HO.out), hb2.grown hg' (by omega) (fun q hq => by have := (hout2.blk q hq).1; omega), by have := hg'.size; omega⟩
                case measure => simp [intOf]; omega
  · have e1 := ffOk_no (.inl hok)
    have e2 : ffV xs = [] := by unfold ffV; rw [e1]; rfl
    rw [e1, e2]
    rw [hok] at HC
    clear hok e1 e2
    go_enter Try.func50, Try.ntmps50
    go_wp2_with (go_at_call 84; refine HC.out.mono ?_; rintro e w1 ⟨v1, rfl, hr1, hb1⟩; obtain ⟨A1, c1, rfl⟩ := hr1.shape)
    go_ret2
    exact ⟨_, rfl, IRow.nil _ _, hb1⟩
end Go.Proofs.Ytgajknnfmnnfeaa
