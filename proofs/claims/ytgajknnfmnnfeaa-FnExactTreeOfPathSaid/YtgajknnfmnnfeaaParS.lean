/- The model's cyParents, ParentsOf. -/
import Derived.Test.YtgajknnfmnnfeaaForMath2
import Derived.Test.YtgajknnfmnnfeaaDeg
import Derived.Test.YtgajknnfmnnfeaaShrink
import Derived.Test.YtgajknnfmnnfeaaLists
namespace Go.Proofs.Ytgajknnfmnnfeaa
open Go.RowKit
set_option linter.unusedVariables false
theorem IRow.tail {w : World} {B g c n : Nat} {T : List (Int × Int)} {f : Int × Int → Int} (h : IRow w B (.slice (some ⟨g, 0, none⟩) n c) (T.reverse.map f)) (m : Nat) (hm : m ≤ T.length) :
    IRow w B (.slice (some ⟨g, 0, none⟩) m c) ((T.drop (T.length - m)).reverse.map f) := by
  have := h.shrink m (by simpa using hm)
  rwa [← List.map_take, List.take_reverse] at this
theorem drop_top {T : List (Int × Int)} {j : Nat} (hj : j < T.length) : T.drop j = T.getD j (0, 0) :: T.drop (j + 1) := by
  rw [List.getD_eq_getElem?_getD, List.getElem?_eq_getElem hj, List.drop_eq_getElem_cons hj]
  rfl
theorem rev_get (T : List (Int × Int)) (f : Int × Int → Int) (m : Nat) (hm : m < T.length) : (T.reverse.map f).getD m 0 = f (T.getD (T.length - 1 - m) (0, 0)) := by
  rw [List.getD_eq_getElem?_getD, List.getElem?_map, List.getElem?_reverse (by omega), List.getD_eq_getElem?_getD, List.getElem?_eq_getElem (by omega)]
  rfl
theorem norm_mem {T : List (Int × Int)} : ∀ e ∈ norm T, e ∈ T := by
  induction T with
  | nil => simp [norm]
  | cons e S ih =>
    obtain ⟨n, l⟩ := e
    intro x hx
    rw [norm] at hx
    split at hx
    · exact List.mem_cons_of_mem _ (ih x hx)
    · exact hx
theorem norm_drop (T : List (Int × Int)) (j : Nat) (h : norm (T.drop j) = norm T) (hj : j < T.length) (hz : (T.getD j (0, 0)).2 = 0) : norm (T.drop (j + 1)) = norm T := by
  rw [← h, drop_top hj]
  generalize T.getD j (0, 0) = e at *
  obtain ⟨n, l⟩ := e
  simp only at hz
  subst hz
  rw [norm_zero]
theorem norm_stop (T : List (Int × Int)) (j : Nat) (h : norm (T.drop j) = norm T) (hz : j < T.length → (T.getD j (0, 0)).2 ≠ 0) : T.drop j = norm T := by
  rw [← h]
  by_cases hj : j < T.length
  · have := hz hj
    rw [drop_top hj]
    generalize T.getD j (0, 0) = e at *
    obtain ⟨n, l⟩ := e
    rw [norm_pos this]
  · rw [List.drop_eq_nil_of_le (by omega)]
    rfl
theorem ne_push {v v' u : Value} {W : World} (hat : v'.ownBlock = v.ownBlock ∨ ∃ g, v'.ownBlock = some g ∧ W.heap.size ≤ g) (hne : ∀ a b, v.ownBlock = some a → u.ownBlock = some b → a ≠ b) (hu : ∀ b, u.ownBlock = some b → b < W.heap.size) :
    ∀ a b, v'.ownBlock = some a → u.ownBlock = some b → a ≠ b := by
  intro a b h1 h2 e
  rcases hat with h3 | ⟨g3, h3, h4⟩
  · rw [h3] at h1; exact hne a b h1 h2 e
  · rw [h3] at h1
    injection h1 with h1
    have := hu b h2
    omega
theorem out_far {A q B1 c n : Nat} (h1 : B1 ≤ q) (h2 : A < B1) (hq : (Value.slice (some ⟨A, 0, none⟩) n c).ownBlock = some q) : False := by
  have hq' : some A = some q := hq
  injection hq' with hq'
  omega
theorem ne_heads {g1 g2 n1 c1 n2 c2 : Nat} (h : g1 ≠ g2) : ∀ a b, (Value.slice (some ⟨g1, 0, none⟩) n1 c1).ownBlock = some a → (Value.slice (some ⟨g2, 0, none⟩) n2 c2).ownBlock = some b → a ≠ b := fun a b h1 h2 e => by
  have h3 : some g1 = some a := h1
  have h4 : some g2 = some b := h2
  injection h3 with h3
  injection h4 with h4
  omega
def pOut (O : List Int) (n : Nat) : List Int := O ++ List.replicate (n - O.length) 0
theorem pOut_length {O : List Int} {n : Nat} (h : O.length ≤ n) : (pOut O n).length = n := by unfold pOut; rw [List.length_append, List.length_replicate]; omega
theorem pOut_set {O : List Int} {n : Nat} (h : O.length < n) (y : Int) : (pOut O n).set O.length y = pOut (O ++ [y]) n := by
  unfold pOut
  rw [List.set_append, if_neg (by omega), Nat.sub_self, show n - O.length = (n - (O ++ [y]).length) + 1 by simp; omega, List.replicate_succ, List.set_cons_zero]
  simp
set_option maxHeartbeats 4000000 in
theorem cyParents_ret (v : Value) (xs : List Int) (w : World) (h : RInts w v xs) (hd : degB xs = true) :
    Calls Try.prog 70 #[v] w (IntsNew w (cpRun xs ([], [])).1) := by
  obtain ⟨A0, cap, rfl⟩ := h.shape
  obtain ⟨i0, hi, hz0, hz1, hz2⟩ := info_parts intInfo
  have hn := (degB_of hd).1
  have H := Lib.hid h
  have HD := Lib.hid (degB_of hd).2
  have HS := Lib.hid (fun k hk => cpRun_snoc xs k hk ([], []))
  have HT : Hid (cpRun (xs.take xs.length) ([], []) = cpRun xs ([], [])) := Lib.hid (by rw [List.take_length])
  clear h hd
  go_enter Try.func70, Try.ntmps70
  go_wp2_with (refine wpList_make_full _ rfl (.tmp 11) (.tmp 11) 22 rfl w.heap.size 3 i0 (.int .i64 0) 1 Try.underlying22 hi hz0 hz1 .i64 .i64 _ _ xs.length rfl rfl (by omega) (by omega) (by rw [hz2]; omega) (by unfold maxLen; omega) (Nat.le_refl _) ?_; intro w1 hown1 hgrow1)
  have hrow1 : IRow w1 w.heap.size (.slice (some ⟨w.heap.size, 0, none⟩) xs.length xs.length) (pOut [] xs.length) :=
    IRow.of_own hown1 (by simp [pOut]) (by rw [madeOne _ rfl]; simp [pOut])
  have hb1 : Below w.heap.size w w1 := (Below.refl _ _).grown hgrow1 (Nat.le_refl _) (by simp)
  have hlt1 := hrow1.lt.2
  clear hown1 hgrow1
  go_loopw [4, 5, 6, 7, 8, 9, 15] (fun nd lf q1 q2 q3 q4 i wr => ∃ (k : Nat) (O : List Int) (S : List (Int × Int)), k ≤ xs.length ∧ i = .int .i64 (k : Int) ∧ Hid (cpRun (xs.take k) ([], []) = (O, S)) ∧ O.length = k ∧ S.length ≤ k ∧ (∀ e ∈ S, -(k : Int) ≤ e.2 ∧ e.2 ≤ 16) ∧
      IRow wr w.heap.size (.slice (some ⟨w.heap.size, 0, none⟩) xs.length xs.length) (pOut O xs.length) ∧ IRow wr w1.heap.size nd (S.reverse.map (·.1)) ∧ IRow wr w1.heap.size lf (S.reverse.map (·.2)) ∧ (∀ a b, nd.ownBlock = some a → lf.ownBlock = some b → a ≠ b) ∧ Below w.heap.size w wr ∧ w1.heap.size ≤ wr.heap.size) (fun _ _ _ _ _ _ i _ => xs.length - (intOf i).toNat)
  case atStart => exact ⟨0, [], [], by omega, rfl, Lib.hid rfl, rfl, by simp, by simp, hrow1, IRow.nil _ _, IRow.nil _ _, (fun a b h => by cases h), hb1, Nat.le_refl _⟩
  case round =>
    obtain ⟨k, O, S, hk, rfl, HR, hO, hS, hSb, hout, hnd, hlf, hne, hb, hsz⟩ := hrel
    by_cases hlt : k < xs.length
    · obtain ⟨g, o, cc, hv, hg, hcells⟩ := H.out.cells (by omega)
      have hA : A0 = some ⟨g, o, none⟩ := by injection hv
      subst hA
      clear hv
      have e1 : wr.cell? ⟨g, o + k, none⟩ = some (.int .i64 (xs.getD k 0)) := (hb.cell (p := ⟨g, o + k, none⟩) hg).trans (hcells k hlt)
      clear hcells
      have hx := HD.out k hlt
      have HS1 : Hid (cpRun (xs.take (k + 1)) ([], []) = (O ++ [cpOut S], norm (((k : Int), xs.getD k 0) :: cpTake S))) := Lib.hid (by rw [HS.out k hlt, HR.out, cpStep, hO])
      clear HS HR hrow1 hb1
      generalize xs.getD k 0 = d at *
      have eo := hout.cell (j := k) (by rw [pOut_length (by omega)]; exact hlt)
      have fo := hout.free k
      generalize hyy : (pOut O xs.length).getD k 0 = yo at *
      clear hyy
      have hs1 := hout.set k (-1)
      have hblk : ∀ q, some q = some w.heap.size → q = w.heap.size := fun q h => by injection h
      cases S with
      | nil =>
        obtain ⟨A1, c1', rfl⟩ := hnd.shape
        obtain ⟨A2, c2', rfl⟩ := hlf.shape
        have hndX : IRow (wr.setCell ⟨w.heap.size, k, none⟩ (.int .i64 (-1))) w1.heap.size (.slice A1 0 c1') [] := hnd.apart (r := some w.heap.size) hs1.2 (fun q hq e => by have q1 := (hnd.blk q hq).1; have := hblk q e; omega)
        have hlfX : IRow (wr.setCell ⟨w.heap.size, k, none⟩ (.int .i64 (-1))) w1.heap.size (.slice A2 0 c2') [] := hlf.apart (r := some w.heap.size) hs1.2 (fun q hq e => by have q1 := (hlf.blk q hq).1; have := hblk q e; omega)
        have houtX : IRow (wr.setCell ⟨w.heap.size, k, none⟩ (.int .i64 (-1))) w.heap.size (.slice (some ⟨w.heap.size, 0, none⟩) xs.length xs.length) (pOut (O ++ [-1]) xs.length) := by have := hs1.1; rw [← hO, pOut_set (by omega)] at this; rw [hO] at this; exact this
        have hneX : ∀ a b, (Value.slice A1 0 c1').ownBlock = some a → (Value.slice A2 0 c2').ownBlock = some b → a ≠ b := hne
        have hbX : Below w.heap.size w (wr.setCell ⟨w.heap.size, k, none⟩ (.int .i64 (-1))) := hb.setCell (Nat.le_refl _) _
        have hszX : w1.heap.size ≤ ((wr.setCell ⟨w.heap.size, k, none⟩ (.int .i64 (-1)))).heap.size := Nat.le_trans hsz hs1.2.size
        have hszB : w.heap.size ≤ ((wr.setCell ⟨w.heap.size, k, none⟩ (.int .i64 (-1)))).heap.size := hbX.size
        obtain ⟨T, hT⟩ : ∃ T, T = ((k : Int), d) :: cpTake ([] : List (Int × Int)) := ⟨_, rfl⟩
        obtain ⟨Y, hY⟩ : ∃ Y, Y = cpOut ([] : List (Int × Int)) := ⟨_, rfl⟩
        have HTN : Hid (([] : List Int) ++ [(k : Int)] = T.reverse.map (·.1)) := Lib.hid (by rw [hT]; rfl)
        have HTL : Hid (([] : List Int) ++ [d] = T.reverse.map (·.2)) := Lib.hid (by rw [hT]; rfl)
        have hTp : 0 < T.length := by rw [hT]; simp
        have hTk : T.length ≤ k + 1 := by rw [hT]; simp [cpTake]
        have HBD : Hid (∀ e ∈ norm T, -((k + 1 : Nat) : Int) ≤ e.2 ∧ e.2 ≤ 16) := Lib.hid fun e he => by
          have := norm_mem e he
          rw [hT] at this
          simp [cpTake] at this
          subst this
          simp
          omega
        rw [← hT, ← hY] at HS1
        have hY1 : Y = -1 := hY
        subst hY1
        have HX := Lib.hid hO
        clear hT hY hnd hlf hout hs1 hne hb hsz hSb
        go_wp2_with (first
          | (at_builtin; (refine wpList_pushG (.tmp 41) (.tmp 43) rfl rfl w1.heap.size _ _ rfl hndX wr.heap.size (by simp [World.setCell]) rfl (by simp <;> omega) hszX ?_; intro v2 w2 hnd2 hg2 hat2; have hlf2 := hlfX.apart hg2 (fun q hq e => hneX _ _ e.symm hq rfl); have hout2 := houtX.apart hg2 (fun q hq e => out_far (hndX.blk _ e.symm).1 hlt1 hq); have hne2 := ne_push hat2 hneX (fun b h => (hlfX.blk b h).2); have hb2 := hbX.grown hg2 hszB (fun q hq => Nat.le_trans (Nat.le_of_lt hlt1) (hndX.blk q hq).1); have hsz2 : w1.heap.size ≤ w2.heap.size := Nat.le_trans hszX hg2.size; clear hg2 hat2))
          | (at_builtin; refine wpList_push (.tmp 45) (.tmp 47) rfl rfl w1.heap.size _ _ rfl hlf2 rfl (by simp [cpTake] <;> omega) hsz2 ?_; intro v3 w3 hlf3 hg3 hat3; have hnd3 := hnd2.apart hg3 (fun q hq e => hne2 _ _ hq e.symm rfl); have hout3 := hout2.apart hg3 (fun q hq e => out_far (hlf2.blk _ e.symm).1 hlt1 hq); have hne4 := ne_push hat3 (fun a b h1 h2 e => hne2 b a h2 h1 e.symm) (fun b h => (hnd2.blk b h).2); have hb3 := hb2.grown hg3 (Nat.le_trans (Nat.le_of_lt hlt1) hsz2) (fun q hq => Nat.le_trans (Nat.le_of_lt hlt1) (hlf2.blk q hq).1); have hsz3 : w1.heap.size ≤ w3.heap.size := Nat.le_trans hsz2 hg3.size; clear hg3 hat3; rw [HTN.out] at hnd3; rw [HTL.out] at hlf3; obtain ⟨g1, c1, rfl, hg1B, hg1⟩ := hnd3.form' (n := T.length) (by simp) hTp; obtain ⟨g2, c2, rfl, hg2B, hg2⟩ := hlf3.form' (n := T.length) (by simp) hTp))
        have hne3 : g1 ≠ g2 := fun e => hne4 g2 g1 rfl rfl e.symm
        clear hne4
        have hc1 : T.length ≤ c1 ∧ c1 ≤ maxLen := by
          obtain ⟨g', c', hv', _, _, h5, h6⟩ := hnd3.form (by simpa using hTp)
          injection hv' with _ _ h7
          rw [h7]
          exact ⟨by simpa using h5, h6⟩
        have hc2 : T.length ≤ c2 ∧ c2 ≤ maxLen := by
          obtain ⟨g', c', hv', _, _, h5, h6⟩ := hlf3.form (by simpa using hTp)
          injection hv' with _ _ h7
          rw [h7]
          exact ⟨by simpa using h5, h6⟩
        have HLFC : Hid (∀ m, m < T.length → w3.cell? ⟨g2, m, none⟩ = some (.int .i64 (T.getD (T.length - 1 - m) (0, 0)).2)) := Lib.hid fun m hm => by
          rw [hlf3.cell (j := m) (by simpa using hm), rev_get T (·.2) m hm]
        have H1 := Lib.hid hnd3
        have H2 := Lib.hid hlf3
        have H3 := Lib.hid hout3
        have H4 := Lib.hid hne3
        have H5 := Lib.hid hb3
        have hT17 : T.length ≤ 17 := by omega
        clear hnd3 hlf3 hout3 hne3 hb3
        go_wp2_with fail
        go_loop [4, 5, 9] (fun nd lf kk => ∃ m : Nat, m ≤ T.length ∧ kk = .int .i64 ((m : Int) - 1) ∧ nd = .slice (some ⟨g1, 0, none⟩) m c1 ∧ lf = .slice (some ⟨g2, 0, none⟩) m c2 ∧ Hid (norm (T.drop (T.length - m)) = norm T)) (fun _ _ kk => (intOf kk + 1).toNat)
        case atStart => exact ⟨T.length, Nat.le_refl _, by go_num, rfl, rfl, Lib.hid (by rw [Nat.sub_self]; rfl)⟩
        case round =>
          obtain ⟨m, hm, rfl, rfl, rfl, HNM⟩ := hrel
          cases m with
          | zero =>
            have HF : Hid (T.drop (T.length - 0) = norm T) := Lib.hid (norm_stop T _ HNM.out (fun h => absurd h (by omega)))
            go_wp2_with fail
            go_roundw
            case rel => exact ⟨k + 1, O ++ [-1], norm T, by omega, by go_num, HS1, by simp [hO], by have := norm_length T; omega, HBD.out, H3.out, by rw [← HF.out]; exact H1.out.tail 0 hm, by rw [← HF.out]; exact H2.out.tail 0 hm, ne_heads H4.out, H5.out, hsz3⟩
            case measure => first | (simp [intOf]; done) | (simp [intOf]; omega)
          | succ m =>
            have e4 := HLFC.out m (by omega)
            have HST := Lib.hid (fun hz => norm_stop T (T.length - (m + 1)) HNM.out (fun _ => hz))
            have HDR := Lib.hid (fun hz => norm_drop T (T.length - (m + 1)) HNM.out (by omega) hz)
            rw [show T.length - 1 - m = T.length - (m + 1) by omega] at e4
            rw [show T.length - (m + 1) + 1 = T.length - m by omega] at HDR
            have HM := Lib.hid hm
            have b1 : (m : Int) ≤ (c1 : Int) := by omega
            have b2 : (m : Int) ≤ (c2 : Int) := by omega
            generalize (T.getD (T.length - (m + 1)) (0, 0)).2 = l4 at *
            by_cases hz : l4 = 0
            · have HF := Lib.hid (HDR.out hz)
              subst hz
              clear HST HDR
              go_wp2_with fail
              go_round
              case rel => exact ⟨m, by omega, by go_num, rfl, rfl, HF⟩
              case measure => simp [intOf]
            · have HF := Lib.hid (HST.out hz)
              have hz2 : (l4 == 0) = false := beq_eq_false_iff_ne.2 hz
              clear HST HDR
              go_wp2_with fail
              go_roundw
              case rel => exact ⟨k + 1, O ++ [-1], norm T, by omega, by go_num, HS1, by simp [hO], by have := norm_length T; omega, HBD.out, H3.out, by rw [← HF.out]; exact H1.out.tail (m + 1) HM.out, by rw [← HF.out]; exact H2.out.tail (m + 1) HM.out, ne_heads H4.out, H5.out, hsz3⟩
              case measure => first | (simp [intOf]; done) | (simp [intOf]; omega)
      | cons e S =>
        obtain ⟨p, l⟩ := e
        have hl := hSb (p, l) (by simp)
        simp only at hl
        obtain ⟨M, hM⟩ : ∃ M, M = S.length := ⟨_, rfl⟩
        have hMS : M + 1 ≤ k := by rw [hM]; simpa using hS
        obtain ⟨ga, ca, rfl, hgaB, hga⟩ := hnd.form' (n := M + 1) (by simp [hM]) (by omega)
        obtain ⟨gb, cb, rfl, hgbB, hgb⟩ := hlf.form' (n := M + 1) (by simp [hM]) (by omega)
        have hab : ga ≠ gb := hne ga gb rfl rfl
        have hSl : S.length ≤ 16 := by omega
        have hndA : IRow (wr.setCell ⟨w.heap.size, k, none⟩ (.int .i64 (-1))) w1.heap.size (.slice (some ⟨ga, 0, none⟩) (M + 1) ca) _ := hnd.apart (r := some w.heap.size) hs1.2 (fun q hq e => by have q1 := (hnd.blk q hq).1; have := hblk q e; omega)
        have hlfA : IRow (wr.setCell ⟨w.heap.size, k, none⟩ (.int .i64 (-1))) w1.heap.size (.slice (some ⟨gb, 0, none⟩) (M + 1) cb) _ := hlf.apart (r := some w.heap.size) hs1.2 (fun q hq e => by have q1 := (hlf.blk q hq).1; have := hblk q e; omega)
        have en : ((wr.setCell ⟨w.heap.size, k, none⟩ (.int .i64 (-1)))).cell? ⟨ga, M, none⟩ = some (.int .i64 p) := by
          rw [hndA.cell (j := M) (by simp [hM]), rev_get _ (·.1) M (by simp [hM])]
          simp [hM]
        have hsB := hs1.1.set k p
        have eo1 : ((wr.setCell ⟨w.heap.size, k, none⟩ (.int .i64 (-1)))).cell? ⟨w.heap.size, k, none⟩ = some (.int .i64 (-1)) := World.cell?_setCell_same wr ⟨w.heap.size, k, none⟩ _ eo
        have fo1 : ((wr.setCell ⟨w.heap.size, k, none⟩ (.int .i64 (-1)))).frozen? ⟨w.heap.size, k, none⟩ = false := by rw [World.frozen?_setCell]; exact fo
        have hndB : IRow ((wr.setCell ⟨w.heap.size, k, none⟩ (.int .i64 (-1))).setCell ⟨w.heap.size, k, none⟩ (.int .i64 p)) w1.heap.size (.slice (some ⟨ga, 0, none⟩) (M + 1) ca) _ := hndA.apart (r := some w.heap.size) hsB.2 (fun q hq e => by have q1 := (hndA.blk q hq).1; have := hblk q e; omega)
        have hlfB : IRow ((wr.setCell ⟨w.heap.size, k, none⟩ (.int .i64 (-1))).setCell ⟨w.heap.size, k, none⟩ (.int .i64 p)) w1.heap.size (.slice (some ⟨gb, 0, none⟩) (M + 1) cb) _ := hlfA.apart (r := some w.heap.size) hsB.2 (fun q hq e => by have q1 := (hlfA.blk q hq).1; have := hblk q e; omega)
        have el : (((wr.setCell ⟨w.heap.size, k, none⟩ (.int .i64 (-1))).setCell ⟨w.heap.size, k, none⟩ (.int .i64 p))).cell? ⟨gb, M, none⟩ = some (.int .i64 l) := by
          rw [hlfB.cell (j := M) (by simp [hM]), rev_get _ (·.2) M (by simp [hM])]
          simp [hM]
        have fl : (((wr.setCell ⟨w.heap.size, k, none⟩ (.int .i64 (-1))).setCell ⟨w.heap.size, k, none⟩ (.int .i64 p))).frozen? ⟨gb, M, none⟩ = false := hlfB.free M
        have hsC := hlfB.set M (l - 1)
        have hndX : IRow (((wr.setCell ⟨w.heap.size, k, none⟩ (.int .i64 (-1))).setCell ⟨w.heap.size, k, none⟩ (.int .i64 p)).setCell ⟨gb, M, none⟩ (.int .i64 (l - 1))) w1.heap.size (.slice (some ⟨ga, 0, none⟩) (M + 1) ca) _ := hndB.apart (r := some gb) hsC.2 (fun q hq e => by have q2 : some ga = some q := hq; injection q2 with q2; injection e with e; omega)
        have hlfX : IRow (((wr.setCell ⟨w.heap.size, k, none⟩ (.int .i64 (-1))).setCell ⟨w.heap.size, k, none⟩ (.int .i64 p)).setCell ⟨gb, M, none⟩ (.int .i64 (l - 1))) w1.heap.size (.slice (some ⟨gb, 0, none⟩) (M + 1) cb) ((cpTake ((p, l) :: S)).reverse.map (·.2)) := by
          have := hsC.1
          have e : (((p, l) :: S).reverse.map (·.2)).set M (l - 1) = (cpTake ((p, l) :: S)).reverse.map (·.2) := by
            simp [cpTake, hM]
          rwa [e] at this
        have houtX : IRow (((wr.setCell ⟨w.heap.size, k, none⟩ (.int .i64 (-1))).setCell ⟨w.heap.size, k, none⟩ (.int .i64 p)).setCell ⟨gb, M, none⟩ (.int .i64 (l - 1))) w.heap.size (.slice (some ⟨w.heap.size, 0, none⟩) xs.length xs.length) (pOut (O ++ [p]) xs.length) := by
          have h1 := hsB.1
          rw [List.set_set, ← hO, pOut_set (by omega)] at h1
          rw [hO] at h1
          exact h1.apart (r := some gb) hsC.2 (fun q hq e => by have q2 : some w.heap.size = some q := hq; injection q2 with q2; injection e with e; omega)
        have hneX : ∀ a b, (Value.slice (some ⟨ga, 0, none⟩) (M + 1) ca).ownBlock = some a → (Value.slice (some ⟨gb, 0, none⟩) (M + 1) cb).ownBlock = some b → a ≠ b := hne
        have hbX : Below w.heap.size w (((wr.setCell ⟨w.heap.size, k, none⟩ (.int .i64 (-1))).setCell ⟨w.heap.size, k, none⟩ (.int .i64 p)).setCell ⟨gb, M, none⟩ (.int .i64 (l - 1))) := ((hb.setCell (Nat.le_refl _) _).setCell (Nat.le_refl _) _).setCell (show w.heap.size ≤ gb by omega) _
        have hszX : w1.heap.size ≤ ((((wr.setCell ⟨w.heap.size, k, none⟩ (.int .i64 (-1))).setCell ⟨w.heap.size, k, none⟩ (.int .i64 p)).setCell ⟨gb, M, none⟩ (.int .i64 (l - 1)))).heap.size := Nat.le_trans hsz (Nat.le_trans hs1.2.size (Nat.le_trans hsB.2.size hsC.2.size))
        have hszB : w.heap.size ≤ ((((wr.setCell ⟨w.heap.size, k, none⟩ (.int .i64 (-1))).setCell ⟨w.heap.size, k, none⟩ (.int .i64 p)).setCell ⟨gb, M, none⟩ (.int .i64 (l - 1)))).heap.size := hbX.size
        obtain ⟨T, hT⟩ : ∃ T, T = ((k : Int), d) :: cpTake ((p, l) :: S) := ⟨_, rfl⟩
        obtain ⟨Y, hY⟩ : ∃ Y, Y = cpOut ((p, l) :: S) := ⟨_, rfl⟩
        have HTN : Hid (((p, l) :: S).reverse.map (·.1) ++ [(k : Int)] = T.reverse.map (·.1)) := Lib.hid (by rw [hT]; simp [cpTake])
        have HTL : Hid ((cpTake ((p, l) :: S)).reverse.map (·.2) ++ [d] = T.reverse.map (·.2)) := Lib.hid (by rw [hT]; simp)
        have hTp : 0 < T.length := by rw [hT]; simp
        have hTk : T.length ≤ k + 1 := by rw [hT]; simp [cpTake]; omega
        have HBD : Hid (∀ e ∈ norm T, -((k + 1 : Nat) : Int) ≤ e.2 ∧ e.2 ≤ 16) := Lib.hid fun e he => by
          have h1 := norm_mem e he
          rw [hT] at h1
          simp only [cpTake, List.mem_cons] at h1
          rcases h1 with rfl | rfl | h1
          · simp; omega
          · simp; omega
          · have := hSb e (List.mem_cons_of_mem _ h1)
            omega
        rw [← hT, ← hY] at HS1
        have hY1 : Y = p := hY
        subst hY1
        have hlS : (((Y, l) :: S).reverse.map (fun x : Int × Int => x.1)).length = M + 1 := by simp [hM]
        have HX := Lib.hid hO
        have HHM := Lib.hid hM
        clear hT hY hnd hlf hout hs1 hne hb hsz hSb hndA hlfA hsB hndB hlfB hsC hM hlS
        go_wp2_with (first
          | (at_builtin; (refine wpList_pushG (.tmp 41) (.tmp 43) rfl rfl w1.heap.size _ _ rfl hndX wr.heap.size (by simp [World.setCell]) rfl (by simp <;> omega) hszX ?_; intro v2 w2 hnd2 hg2 hat2; have hlf2 := hlfX.apart hg2 (fun q hq e => hneX _ _ e.symm hq rfl); have hout2 := houtX.apart hg2 (fun q hq e => out_far (hndX.blk _ e.symm).1 hlt1 hq); have hne2 := ne_push hat2 hneX (fun b h => (hlfX.blk b h).2); have hb2 := hbX.grown hg2 hszB (fun q hq => Nat.le_trans (Nat.le_of_lt hlt1) (hndX.blk q hq).1); have hsz2 : w1.heap.size ≤ w2.heap.size := Nat.le_trans hszX hg2.size; clear hg2 hat2))
          | (at_builtin; refine wpList_push (.tmp 45) (.tmp 47) rfl rfl w1.heap.size _ _ rfl hlf2 rfl (by simp [cpTake] <;> omega) hsz2 ?_; intro v3 w3 hlf3 hg3 hat3; have hnd3 := hnd2.apart hg3 (fun q hq e => hne2 _ _ hq e.symm rfl); have hout3 := hout2.apart hg3 (fun q hq e => out_far (hlf2.blk _ e.symm).1 hlt1 hq); have hne4 := ne_push hat3 (fun a b h1 h2 e => hne2 b a h2 h1 e.symm) (fun b h => (hnd2.blk b h).2); have hb3 := hb2.grown hg3 (Nat.le_trans (Nat.le_of_lt hlt1) hsz2) (fun q hq => Nat.le_trans (Nat.le_of_lt hlt1) (hlf2.blk q hq).1); have hsz3 : w1.heap.size ≤ w3.heap.size := Nat.le_trans hsz2 hg3.size; clear hg3 hat3; rw [HTN.out] at hnd3; rw [HTL.out] at hlf3; obtain ⟨g1, c1, rfl, hg1B, hg1⟩ := hnd3.form' (n := T.length) (by simp) hTp; obtain ⟨g2, c2, rfl, hg2B, hg2⟩ := hlf3.form' (n := T.length) (by simp) hTp))
        have hne3 : g1 ≠ g2 := fun e => hne4 g2 g1 rfl rfl e.symm
        clear hne4
        have hc1 : T.length ≤ c1 ∧ c1 ≤ maxLen := by
          obtain ⟨g', c', hv', _, _, h5, h6⟩ := hnd3.form (by simpa using hTp)
          injection hv' with _ _ h7
          rw [h7]
          exact ⟨by simpa using h5, h6⟩
        have hc2 : T.length ≤ c2 ∧ c2 ≤ maxLen := by
          obtain ⟨g', c', hv', _, _, h5, h6⟩ := hlf3.form (by simpa using hTp)
          injection hv' with _ _ h7
          rw [h7]
          exact ⟨by simpa using h5, h6⟩
        have HLFC : Hid (∀ m, m < T.length → w3.cell? ⟨g2, m, none⟩ = some (.int .i64 (T.getD (T.length - 1 - m) (0, 0)).2)) := Lib.hid fun m hm => by
          rw [hlf3.cell (j := m) (by simpa using hm), rev_get T (·.2) m hm]
        have H1 := Lib.hid hnd3
        have H2 := Lib.hid hlf3
        have H3 := Lib.hid hout3
        have H4 := Lib.hid hne3
        have H5 := Lib.hid hb3
        have hT17 : T.length ≤ 17 := by omega
        clear hnd3 hlf3 hout3 hne3 hb3
        go_wp2_with fail
        go_loop [4, 5, 9] (fun nd lf kk => ∃ m : Nat, m ≤ T.length ∧ kk = .int .i64 ((m : Int) - 1) ∧ nd = .slice (some ⟨g1, 0, none⟩) m c1 ∧ lf = .slice (some ⟨g2, 0, none⟩) m c2 ∧ Hid (norm (T.drop (T.length - m)) = norm T)) (fun _ _ kk => (intOf kk + 1).toNat)
        case atStart => exact ⟨T.length, Nat.le_refl _, by go_num, rfl, rfl, Lib.hid (by rw [Nat.sub_self]; rfl)⟩
        case round =>
          obtain ⟨m, hm, rfl, rfl, rfl, HNM⟩ := hrel
          cases m with
          | zero =>
            have HF : Hid (T.drop (T.length - 0) = norm T) := Lib.hid (norm_stop T _ HNM.out (fun h => absurd h (by omega)))
            go_wp2_with fail
            go_roundw
            case rel => exact ⟨k + 1, O ++ [Y], norm T, by omega, by go_num, HS1, by simp [hO], by have := norm_length T; omega, HBD.out, H3.out, by rw [← HF.out]; exact H1.out.tail 0 hm, by rw [← HF.out]; exact H2.out.tail 0 hm, ne_heads H4.out, H5.out, hsz3⟩
            case measure => first | (simp [intOf]; done) | (simp [intOf]; omega)
          | succ m =>
            have e4 := HLFC.out m (by omega)
            have HST := Lib.hid (fun hz => norm_stop T (T.length - (m + 1)) HNM.out (fun _ => hz))
            have HDR := Lib.hid (fun hz => norm_drop T (T.length - (m + 1)) HNM.out (by omega) hz)
            rw [show T.length - 1 - m = T.length - (m + 1) by omega] at e4
            rw [show T.length - (m + 1) + 1 = T.length - m by omega] at HDR
            have HM := Lib.hid hm
            have b1 : (m : Int) ≤ (c1 : Int) := by omega
            have b2 : (m : Int) ≤ (c2 : Int) := by omega
            generalize (T.getD (T.length - (m + 1)) (0, 0)).2 = l4 at *
            by_cases hz : l4 = 0
            · have HF := Lib.hid (HDR.out hz)
              subst hz
              clear HST HDR
              go_wp2_with fail
              go_round
              case rel => exact ⟨m, by omega, by go_num, rfl, rfl, HF⟩
              case measure => simp [intOf]
            · have HF := Lib.hid (HST.out hz)
              have hz2 : (l4 == 0) = false := beq_eq_false_iff_ne.2 hz
              clear HST HDR
              go_wp2_with fail
              go_roundw
              case rel => exact ⟨k + 1, O ++ [Y], norm T, by omega, by go_num, HS1, by simp [hO], by have := norm_length T; omega, HBD.out, H3.out, by rw [← HF.out]; exact H1.out.tail (m + 1) HM.out, by rw [← HF.out]; exact H2.out.tail (m + 1) HM.out, ne_heads H4.out, H5.out, hsz3⟩
              case measure => first | (simp [intOf]; done) | (simp [intOf]; omega)
    · have hk2 : k = xs.length := by omega
      have HE : Hid ((cpRun xs ([], [])).1 = pOut O xs.length) := Lib.hid (by rw [← HT.out, ← hk2, HR.out]; unfold pOut; simp [hO])
      clear HS HR hrow1 hb1
      go_wp2_with fail
      go_ret
      rw [HE.out]
      exact ⟨_, rfl, hout, hb⟩
end Go.Proofs.Ytgajknnfmnnfeaa
