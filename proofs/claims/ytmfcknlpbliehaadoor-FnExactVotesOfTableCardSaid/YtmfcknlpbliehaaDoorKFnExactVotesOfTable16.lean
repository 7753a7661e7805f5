/- Pack 16 of what FnExactVotesOfTable needs: VoS2, VotS. -/
import Derived.Test.YtmfcknlpbliehaaDoorKFnExactVotesOfTable15
import Derived.IntWalk
/- The model: winners, first overtaken. -/
namespace Go.Proofs.YtmfcknlpbliehaaDoor
open Go.RowKit
set_option linter.unusedVariables false
theorem abcd_at (k : Nat) (h : k < 4) : (⟨#[97, 98, 99, 100]⟩ : ByteArray).extract k (k + 1) = ⟨#[UInt8.ofNat (97 + k)]⟩ := by
  have : k = 0 ∨ k = 1 ∨ k = 2 ∨ k = 3 := by omega
  rcases this with e | e | e | e <;> subst e <;> rfl
theorem wi_yes {xs : List Int} {m : Int} {k : Nat} (h : (xs.getD k 0 == m) = true) : wiTo xs m (k + 1) = wiTo xs m k ++ ⟨#[UInt8.ofNat (97 + k)]⟩ := by rw [wiTo, if_pos (by simpa using h)]
theorem wi_no {xs : List Int} {m : Int} {k : Nat} (h : (xs.getD k 0 == m) = false) : wiTo xs m (k + 1) = wiTo xs m k := by rw [wiTo, if_neg (by simpa using h)]
def foI (s : ByteArray) : Int := if foTo s s.size = 0 then -1 else ((foTo s s.size : Nat) : Int)
theorem fa_f4 (s : ByteArray) (k : Nat) : f4 ((vc s 0 k : Nat) : Int) ((vc s 1 k : Nat) : Int) ((vc s 2 k : Nat) : Int) ((vc s 3 k : Nat) : Int) = faB s k := by
  unfold f4 faB
  simp
set_option maxRecDepth 100000 in
set_option maxHeartbeats 1600000 in
theorem voFirst_any (s : ByteArray) (w : World) (hv : votB s = true) : Calls Tryd.prog 13 #[.string s] w (Ret w (.int .i64 (foI s))) := by
  have h16 := ((votB_iff s).1 hv).1
  have HCN : Hid (∀ (k : Nat) (w : World), k ≤ s.size → Calls Tryd.prog 14 #[.string (s.extract 0 k)] w fun e w' => ∃ v, e = .returned v ∧ RInts w' v [((vc s 0 k : Nat) : Int), ((vc s 1 k : Nat) : Int), ((vc s 2 k : Nat) : Int), ((vc s 3 k : Nat) : Int)] ∧ Below w.heap.size w w') := Lib.hid fun k w hk => by
    refine (voCounts_any (s.extract 0 k) w (votB_pre hv hk)).mono ?_
    rintro e w' ⟨v, he, hr, hb⟩
    rw [pre_size s k hk, vcL_pre s k k (Nat.le_refl _)] at hr
    exact ⟨v, he, RInts.of_row hr, hb⟩
  have HFL : Hid (∀ (k : Nat) (v : Value) (w : World), RInts w v [((vc s 0 k : Nat) : Int), ((vc s 1 k : Nat) : Int), ((vc s 2 k : Nat) : Int), ((vc s 3 k : Nat) : Int)] → Calls Tryd.prog 29 #[v] w fun e w' => e = .returned (.bool (faB s k)) ∧ Below w.heap.size w w') := Lib.hid fun k v w h => by
    have := voFalls_any v _ _ _ _ w h
    rwa [fa_f4] at this
  have HI : Hid (∀ k, foTo s k = 0 → k = s.size → foI s = -1) := Lib.hid fun k h e => by unfold foI; rw [← e, if_pos h]
  have HJ : Hid (∀ k, foTo s k = 0 → k < s.size → faB s (k + 1) = false → foI s = (k : Int) + 1) := Lib.hid fun k h hk hf => by
    have h1 := fo_no h hf
    have h2 := fo_stay (n := s.size) (k := k + 1) (show ¬ foTo s (k + 1) = 0 by omega) s.size (by omega)
    unfold foI
    rw [if_neg (by omega), h2, h1]
    omega
  have HY : Hid (∀ k, foTo s k = 0 → faB s (k + 1) = true → foTo s (k + 1) = 0) := Lib.hid fun k h hf => fo_yes h hf
  generalize foI s = F at *
  clear hv
  go_enter Tryd.func13, Tryd.ntmps13
  go_wp2
  go_loopw [3] (fun i wr => ∃ k : Nat, k ≤ s.size ∧ i = .int .i64 ((k : Int) + 1) ∧ Hid (foTo s k = 0) ∧ Below w.heap.size w wr) (fun i _ => s.size + 1 - (intOf i).toNat)
  case atStart => exact ⟨0, Nat.zero_le _, rfl, Lib.hid rfl, Below.refl _ _⟩
  case round =>
    obtain ⟨k, hk, rfl, HF, hb⟩ := hrel
    by_cases hlt : k < s.size
    · have hsz := hb.size
      have HCK := Lib.hid (fun w => HCN.out (k + 1) w (by omega))
      have HFK := Lib.hid (fun v w => HFL.out (k + 1) v w)
      have i1 : (k : Int) + 1 ≤ (s.size : Int) := by omega
      have HJ1 := Lib.hid (HJ.out k HF.out hlt)
      have HY1 := Lib.hid (HY.out k HF.out)
      clear HCN HFL HI HJ HY
      generalize faB s (k + 1) = fb at *
      cases fb with
      | true =>
        have HY2 := Lib.hid (HY1.out rfl)
        go_wp2_with (first | (go_at_call 14; refine (HCK.out _).mono ?_; rintro e w1 ⟨v, rfl, hr, hb1⟩; have HR := Lib.hid hr; have HB1 := Lib.hid (hb.trans (hb1.mono hsz)); clear hr) | (go_at_call 29; refine (HFK.out _ _ HR.out).mono ?_; rintro e w2 ⟨rfl, hb2⟩; have HB2 := Lib.hid (HB1.out.trans (hb2.mono HB1.out.size))))
        go_roundw
        case rel => exact ⟨k + 1, by omega, by go_num, HY2, HB2.out⟩
        case measure => first | (simp [intOf]; done) | (simp [intOf]; omega)
      | false =>
        have HJ2 := Lib.hid (HJ1.out rfl)
        go_wp2_with (first | (go_at_call 14; refine (HCK.out _).mono ?_; rintro e w1 ⟨v, rfl, hr, hb1⟩; have HR := Lib.hid hr; have HB1 := Lib.hid (hb.trans (hb1.mono hsz)); clear hr) | (go_at_call 29; refine (HFK.out _ _ HR.out).mono ?_; rintro e w2 ⟨rfl, hb2⟩; have HB2 := Lib.hid (HB1.out.trans (hb2.mono HB1.out.size))))
        go_ret
        exact ⟨by rw [HJ2.out]; rfl, HB2.out⟩
    · have i1 : ¬ (k : Int) + 1 ≤ (s.size : Int) := by omega
      have HI2 := Lib.hid (HI.out k HF.out (by omega))
      go_wp2
      go_ret
      exact ⟨by rw [HI2.out]; rfl, hb⟩
end Go.Proofs.YtmfcknlpbliehaaDoor

/- The model's VotesOfTable. -/
namespace Go.Proofs.YtmfcknlpbliehaaDoor
open Go.RowKit
set_option linter.unusedVariables false
/-- how many numbers the first k rows hold -/
def totK (xss : List (List Int)) : Nat → Nat
  | 0 => 0
  | k + 1 => totK xss k + (xss.getD k []).length
theorem totK_le (xss : List (List Int)) {j : Nat} : ∀ k, j ≤ k → totK xss j ≤ totK xss k
  | 0, h => by obtain rfl : j = 0 := by omega
               exact Nat.le_refl _
  | k + 1, h => by
    by_cases e : j = k + 1
    · rw [e]; exact Nat.le_refl _
    · have := totK_le xss (j := j) k (by omega)
      rw [totK]; omega
def votR (xss : List (List Int)) : Option (List UInt8) := mRows (totK xss 4) 0 (List.replicate (totK xss 4) 0) xss
def votO (xss : List (List Int)) : Option (List UInt8) :=
  if xss.length = 4 ∧ totK xss 4 ≤ 16 then (votR xss).bind fun O => if foTo (strOf O) (strOf O).size = 0 then some O else none else none
def votV (xss : List (List Int)) : ByteArray := strOf ((votO xss).getD [])
def votOk (xss : List (List Int)) : Bool := (votO xss).isSome
theorem vot_none {xss : List (List Int)} (h : votO xss = none) : votV xss = strOf [] ∧ votOk xss = false := by unfold votV votOk; rw [h]; exact ⟨rfl, rfl⟩
theorem vot_some {xss : List (List Int)} {O : List UInt8} (h : votO xss = some O) : votV xss = strOf O ∧ votOk xss = true := by unfold votV votOk; rw [h]; exact ⟨rfl, rfl⟩
theorem four_rows {xss : List (List Int)} (h : xss.length = 4) : xss = [xss.getD 0 [], xss.getD 1 [], xss.getD 2 [], xss.getD 3 []] := by
  obtain ⟨a, b, c, d, rfl⟩ : ∃ a b c d, xss = [a, b, c, d] := by
    match xss, h with
    | [a, b, c, d], _ => exact ⟨a, b, c, d, rfl⟩
  rfl
theorem vot_tab {xss : List (List Int)} (h4 : xss.length = 4) (h16 : totK xss 4 ≤ 16) {O : List UInt8} (h : votR xss = some O) : votB (strOf O) = true ∧ (strOf O).size = totK xss 4 ∧ tbS (strOf O) (totK xss 4) = xss := by
  unfold votR at h
  have e := four_rows h4
  have h2 : mRows (totK xss 4) 0 (List.replicate (totK xss 4) 0) [xss.getD 0 [], xss.getD 1 [], xss.getD 2 [], xss.getD 3 []] = some O := by rw [← e]; exact h
  have := mRows_tab h16 h2 (by have : totK xss 4 = 0 + (xss.getD 0 []).length + (xss.getD 1 []).length + (xss.getD 2 []).length + (xss.getD 3 []).length := rfl; omega)
  exact ⟨this.1, this.2.1, this.2.2.trans e.symm⟩
theorem vot_big {xss : List (List Int)} (h : 16 < totK xss 4) : votO xss = none := by unfold votO; rw [if_neg (by omega)]
theorem vot_far {xss : List (List Int)} (h : ¬ xss.length = 4) : votO xss = none := by unfold votO; rw [if_neg (by omega)]
theorem vot_bad {xss : List (List Int)} (h : votR xss = none) : votO xss = none := by unfold votO; rw [h]; split <;> rfl
theorem vot_over {xss : List (List Int)} {O : List UInt8} (h : votR xss = some O) (h2 : ¬ foTo (strOf O) (strOf O).size = 0) : votO xss = none := by unfold votO; rw [h, Option.bind_some, if_neg h2]; split <;> rfl
theorem vot_good {xss : List (List Int)} (h4 : xss.length = 4) (h16 : totK xss 4 ≤ 16) {O : List UInt8} (h : votR xss = some O) (h2 : foTo (strOf O) (strOf O).size = 0) : votO xss = some O := by unfold votO; rw [h, Option.bind_some, if_pos h2, if_pos ⟨h4, h16⟩]
theorem mStep_yes {n i : Nat} {z : Int} {O : List UInt8} {x : Int} (h1 : 1 ≤ x ∧ x ≤ n) (h2 : O.getD (x.toNat - 1) 0 = 0) (h3 : z < x) : mStep n i (z, O) x = some (x, O.set (x.toNat - 1) (ltr i)) := by unfold mStep; rw [if_pos ⟨h1.1, h1.2, h2, h3⟩]
theorem mStep_no {n i : Nat} {z : Int} {O : List UInt8} {x : Int} (h : ¬ (1 ≤ x ∧ x ≤ n) ∨ O.getD (x.toNat - 1) 0 ≠ 0 ∨ ¬ z < x) : mStep n i (z, O) x = none := by
  unfold mStep
  rw [if_neg]
  rintro ⟨h1, h2, h3, h4⟩
  rcases h with h | h | h
  · exact h ⟨h1, h2⟩
  · exact h h3
  · exact h h4
/-- the letters under way -/
structure VtL (w : World) (b n : Nat) (O : List UInt8) (W : World) : Prop where
  ln : O.length = n
  r : BOwn W w.heap.size (.slice (some ⟨b, 0, none⟩) n n) O
  l : Below w.heap.size w W
theorem VtL.below {w W W' : World} {b n : Nat} {O : List UInt8} (h : VtL w b n O W) (hb : Below W.heap.size W W') : VtL w b n O W' := ⟨h.ln, h.r.below hb, h.l.trans (hb.mono h.l.size)⟩
theorem VtL.set {w W : World} {b n : Nat} {O : List UInt8} (h : VtL w b n O W) (j : Nat) (u : UInt8) : VtL w b n (O.set j u) (W.setCell ⟨b, j, none⟩ (.int .u8 (u.toNat : Int))) :=
  ⟨by rw [List.length_set]; exact h.ln, (h.r.set j u).1, h.l.grown (h.r.set j u).2 h.l.size (fun k e => by injection e with e; have := (h.r.blk b rfl).1; omega)⟩
theorem VtL.cell {w W : World} {b n : Nat} {O : List UInt8} (h : VtL w b n O W) {j : Nat} (hj : j < n) : W.cell? ⟨b, j, none⟩ = some (.int .u8 ((O.getD j 0).toNat : Int)) := by
  have hl : j < O.length := by rw [h.ln]; exact hj
  rw [h.r.cell hl, List.getD_eq_getElem?_getD, List.getElem?_eq_getElem hl]
  rfl
set_option maxRecDepth 100000 in
set_option maxHeartbeats 8000000 in
theorem specVotesOfTable_ret (v : Value) (xss : List (List Int)) (w : World) (h : MRows w v xss) (hl : ∀ k, k < xss.length → (xss.getD k []).length ≤ 1048576) (hl2 : xss.length ≤ 1048576) :
    Calls Tryd.prog 8 #[v] w (Ret w (.tuple #[.string (votV xss), .bool (votOk xss)])) := by
  obtain ⟨i0, hi0, hz0, hz1, hz2⟩ := info_parts bytInfo
  by_cases h4 : xss.length = 4
  case neg =>
    obtain ⟨e1, e2⟩ := vot_none (vot_far h4)
    obtain ⟨A, c, rfl⟩ := h.rows.shape
    rw [e1, e2]
    have q : (((xss.length : Nat) : Int) == 4) = false := by simp; omega
    clear e1 e2 h hl h4
    go_enter Tryd.func8, Tryd.ntmps8
    go_wp2
    go_ret2
    exact ⟨rfl, Below.refl _ _⟩
  obtain ⟨g, o, c, rfl, hg, hc⟩ := h.rows.cells (by omega)
  rw [h4] at hc ⊢
  have HC := Lib.hid hc
  have H4 := Lib.hid h4
  have HL : Hid (∀ k, k < 4 → (xss.getD k []).length ≤ 1048576) := Lib.hid fun k hk => hl k (by omega)
  have HNO : Hid (votO xss = none → Ret w (.tuple #[.string (votV xss), .bool (votOk xss)]) = Ret w (.tuple #[.string (strOf []), .bool false])) := Lib.hid fun hx => by rw [(vot_none hx).1, (vot_none hx).2]
  have HTL : Hid (∀ j, j ≤ 4 → totK xss j ≤ totK xss 4) := Lib.hid fun j hj => totK_le xss 4 hj
  have HTS : Hid (∀ j, totK xss (j + 1) = totK xss j + (xss.getD j []).length) := Lib.hid fun j => rfl
  clear h hc hl hl2 h4
  by_cases hbig : 16 < totK xss 4
  · rw [HNO.out (vot_big hbig)]
    have HB := Lib.hid hbig
    clear hbig HNO
    go_enter Tryd.func8, Tryd.ntmps8
    go_wp2
    go_loopw [4, 18] (fun nv iv wr => ∃ j : Nat, j ≤ 4 ∧ iv = .int .i64 (j : Int) ∧ nv = .int .i64 ((totK xss j : Nat) : Int) ∧ totK xss j ≤ 16 * j ∧ Below w.heap.size w wr) (fun _ iv _ => 4 - (intOf iv).toNat)
    case atStart => exact ⟨0, Nat.zero_le _, rfl, rfl, Nat.le_refl _, Below.refl _ _⟩
    case round =>
      obtain ⟨j, hj, rfl, rfl, htj, hb⟩ := hrel
      by_cases hlt : j < 4
      · obtain ⟨u, hu1, hu2⟩ := HC.out j hlt
        have e1 := (hb.cell (p := ⟨g, o + j, none⟩) hg).trans hu1
        obtain ⟨A1, c1, rfl⟩ := hu2.shape
        have hll := HL.out j hlt
        have HS := Lib.hid (HTS.out j)
        have HBB := Lib.hid hb
        clear hu1 hu2 hb
        generalize totK xss j = tj at *
        generalize hr : (xss.getD j []).length = lr at *
        by_cases hgt : 16 < lr
        · clear hr
          go_wp2
          go_ret2
          exact ⟨rfl, HBB.out⟩
        · have hgt2 : decide (16 < lr) = false := decide_eq_false hgt
          clear hr
          go_wp2
          go_roundw
          case rel => exact ⟨j + 1, by omega, by go_num, by rw [HS.out]; go_num, by rw [HS.out]; omega, HBB.out⟩
          first | (simp [intOf]; done) | (simp [intOf]; omega)
      · obtain rfl : j = 4 := by omega
        have hB := HB.out
        have HBB := Lib.hid hb
        clear hb
        generalize totK xss 4 = n at *
        go_wp2
        go_ret2
        exact ⟨rfl, HBB.out⟩
  have HN16 : Hid (totK xss 4 ≤ 16) := Lib.hid (by omega)
  have HRL : Hid (∀ j, j < 4 → (xss.getD j []).length ≤ 16) := Lib.hid fun j hj => by have h1 := HTS.out j; have h2 := HTL.out (j + 1) (by omega); omega
  have HTB : Hid (∀ j, j ≤ 4 → totK xss j ≤ 16) := Lib.hid fun j hj => by have h2 := HTL.out j hj; omega
  clear hbig HTL
  go_enter Tryd.func8, Tryd.ntmps8
  go_wp2
  go_loopw [4, 18] (fun nv iv wr => ∃ j : Nat, j ≤ 4 ∧ iv = .int .i64 (j : Int) ∧ nv = .int .i64 ((totK xss j : Nat) : Int) ∧ Below w.heap.size w wr) (fun _ iv _ => 4 - (intOf iv).toNat)
  case atStart => exact ⟨0, Nat.zero_le _, rfl, rfl, Below.refl _ _⟩
  case round =>
    obtain ⟨j, hj, rfl, rfl, hb⟩ := hrel
    by_cases hlt : j < 4
    · obtain ⟨u, hu1, hu2⟩ := HC.out j hlt
      have e1 := (hb.cell (p := ⟨g, o + j, none⟩) hg).trans hu1
      obtain ⟨A1, c1, rfl⟩ := hu2.shape
      have hll := HRL.out j hlt
      have hts := HTB.out j (by omega)
      have HS := Lib.hid (HTS.out j)
      have HBB := Lib.hid hb
      clear hu1 hu2 hb
      generalize totK xss j = tj at *
      generalize hr : (xss.getD j []).length = lr at *
      have hgt2 : decide (16 < lr) = false := decide_eq_false (by omega)
      clear hr
      go_wp2
      go_roundw
      case rel => exact ⟨j + 1, by omega, by go_num, by rw [HS.out]; go_num, HBB.out⟩
      first | (simp [intOf]; done) | (simp [intOf]; omega)
    · obtain rfl : j = 4 := by omega
      have HBB := Lib.hid hb
      have hn := HN16.out
      clear hb
      obtain ⟨n, hnn⟩ : ∃ n, totK xss 4 = n := ⟨_, rfl⟩
      rw [hnn] at hn ⊢
      have HNN := Lib.hid hnn
      have hgt2 : decide (16 < n) = false := decide_eq_false (by omega)
      have hgt3 : decide ((16 : Int) < (n : Int)) = false := decide_eq_false (by omega)
      clear hnn
      have HVF : Hid (∀ (O : List UInt8), votB (strOf O) = true → ∀ W, Calls Tryd.prog 13 #[.string (strOf O)] W (Ret W (.int .i64 (foI (strOf O))))) := Lib.hid fun O hv W => voFirst_any (strOf O) W hv
      have HIN : Hid (∀ (x : Int) W, Calls Tryd.prog 22 #[.int .i64 x, .int .i64 1, .int .i64 (n : Int)] W fun e w' => e = .returned (.bool (inB x 1 (n : Int))) ∧ W = w') := Lib.hid fun x W => in_any x 1 (n : Int) W
      have HBAD : Hid (votR xss = none → Ending.returned (.tuple #[.string ⟨#[]⟩, .bool false]) = Ending.returned (.tuple #[.string (votV xss), .bool (votOk xss)])) := Lib.hid fun hx => by
        rw [(vot_none (vot_bad hx)).1, (vot_none (vot_bad hx)).2]; rfl
      have HR0 : Hid (mRows n 0 (List.replicate n 0) (xss.drop 0) = votR xss) := Lib.hid (by unfold votR; rw [HNN.out]; rfl)
      have HDR : Hid (∀ i, i < 4 → xss.drop i = xss.getD i [] :: xss.drop (i + 1)) := Lib.hid fun i hi => by
        have hl : i < xss.length := by rw [H4.out]; exact hi
        rw [List.drop_eq_getElem_cons hl, List.getD_eq_getElem?_getD, List.getElem?_eq_getElem hl]; rfl
      have HD4 : Hid (xss.drop 4 = []) := Lib.hid (List.drop_eq_nil_of_le (by rw [H4.out]; exact Nat.le_refl _))
      have HTABF : Hid (∀ O, votR xss = some O → votB (strOf O) = true) := Lib.hid fun O hO => (vot_tab H4.out HN16.out hO).1
      have HFIN1 : Hid (∀ O, votR xss = some O → foI (strOf O) < 0 → Ending.returned (.tuple #[.string (strOf O), .bool true]) = Ending.returned (.tuple #[.string (votV xss), .bool (votOk xss)])) := Lib.hid fun O hO hf => by
        have h0 : foTo (strOf O) (strOf O).size = 0 := by
          unfold foI at hf
          split at hf
          · assumption
          · omega
        rw [(vot_some (vot_good H4.out HN16.out hO h0)).1, (vot_some (vot_good H4.out HN16.out hO h0)).2]
      have HFIN2 : Hid (∀ O, votR xss = some O → 0 ≤ foI (strOf O) → Ending.returned (.tuple #[.string ⟨#[]⟩, .bool false]) = Ending.returned (.tuple #[.string (votV xss), .bool (votOk xss)])) := Lib.hid fun O hO hf => by
        have h0 : ¬ foTo (strOf O) (strOf O).size = 0 := fun h0 => by unfold foI at hf; rw [if_pos h0] at hf; omega
        rw [(vot_none (vot_over hO h0)).1, (vot_none (vot_over hO h0)).2]; rfl
      clear HNO HTS HN16 HTB HNN H4
      generalize votR xss = RES at *
      generalize votV xss = VV at *
      generalize votOk xss = VO at *
      go_wp2_with (refine wpList_make_full _ rfl (.tmp 32) (.tmp 32) 46 rfl wr.heap.size 5 i0 (.int .u8 0) 1 Tryd.underlying46 hi0 hz0 hz1 .i64 .i64 _ _ n rfl rfl (by omega) (by omega) (by rw [hz2]; omega) (by unfold maxLen; omega) (Nat.le_refl _) ?_; intro w2 hown2 hgrow2)
      have HL0 : Hid (VtL w wr.heap.size n (List.replicate n 0) w2) := Lib.hid ⟨by simp, (BOwn.of_own hown2 (by simp) (by rw [madeOne _ rfl]; simp [bv])).mono HBB.out.size, HBB.out.trans (((Below.refl _ _).grown hgrow2 (Nat.le_refl _) (by simp)).mono HBB.out.size)⟩
      obtain ⟨b, hbq⟩ : ∃ b, wr.heap.size = b := ⟨_, rfl⟩
      rw [hbq] at HL0 ⊢
      clear hbq hown2 hgrow2 HBB hgt2
      go_loopw [36] (fun iv wr => ∃ (i : Nat) (O : List UInt8), i ≤ 4 ∧ iv = .int .i64 (i : Int) ∧ mRows n i O (xss.drop i) = RES ∧ VtL w b n O wr) (fun iv _ => 4 - (intOf iv).toNat)
      case atStart => exact ⟨0, _, Nat.zero_le _, rfl, HR0.out, HL0.out⟩
      case round =>
        obtain ⟨i, O, hi, rfl, hR, hL⟩ := hrel
        clear HR0 HL0
        have HLL := Lib.hid hL
        have HRR := Lib.hid hR
        clear hL hR
        by_cases hlt : i < 4
        case neg =>
          obtain rfl : i = 4 := by omega
          have hR := HRR.out
          rw [HD4.out] at hR
          have hR2 : RES = some O := hR.symm
          have HRS := Lib.hid hR2
          have HV := Lib.hid (HVF.out O (HTABF.out O hR2))
          have hcv := run_str_own HLL.out.r
          clear hR hR2 HRR HVF HTABF
          by_cases hf : foI (strOf O) < 0
          · have HE := Lib.hid (HFIN1.out O HRS.out hf)
            generalize foI (strOf O) = f at *
            generalize strOf O = sO at *
            clear HFIN1 HFIN2 HBAD
            have hf2 : decide (0 ≤ f) = false := decide_eq_false (by omega)
            go_wp2_with (go_at_call 13; refine (HV.out _).mono ?_; rintro e w5 ⟨rfl, hb5⟩)
            go_ret2
            exact ⟨HE.out, HLL.out.l.trans (hb5.mono HLL.out.l.size)⟩
          · have HE := Lib.hid (HFIN2.out O HRS.out (by omega))
            generalize foI (strOf O) = f at *
            generalize strOf O = sO at *
            clear HFIN1 HFIN2 HBAD
            have hf2 : 0 ≤ f := by omega
            go_wp2_with (go_at_call 13; refine (HV.out _).mono ?_; rintro e w5 ⟨rfl, hb5⟩)
            go_ret2
            exact ⟨HE.out, HLL.out.l.trans (hb5.mono HLL.out.l.size)⟩
        obtain ⟨u, hu1, hu2⟩ := HC.out i hlt
        have e1 := (HLL.out.l.cell (p := ⟨g, o + i, none⟩) hg).trans hu1
        have HUW := Lib.hid hu2
        have hR := HRR.out
        rw [HDR.out i hlt] at hR
        have hrl := HRL.out i hlt
        generalize hrw : xss.getD i [] = r at *
        clear hrw
        obtain ⟨A1, c1, rfl⟩ := hu2.shape
        have HR1 : Hid ((mRow n i (0, O) (r.drop 0)).bind (fun q => mRows n (i + 1) q.2 (xss.drop (i + 1))) = RES) := Lib.hid hR
        clear hu1 hu2 hR HRR HFIN1 HFIN2 HVF HTABF HRL HD4
        have hi4d : decide ((i : Int) < 4) = true := decide_eq_true (by omega)
        have hi4e : decide (i < 4) = true := decide_eq_true (by omega)
        go_wp2
        go_loopw [43] (fun jv wq => ∃ (j : Nat) (z : Int) (O : List UInt8), j ≤ r.length ∧ jv = .int .i64 (j : Int) ∧ (mRow n i (z, O) (r.drop j)).bind (fun q => mRows n (i + 1) q.2 (xss.drop (i + 1))) = RES ∧ (j = 0 → z = 0) ∧ (∀ j', j = j' + 1 → z = r.getD j' 0) ∧ VtL w b n O wq) (fun jv _ => r.length - (intOf jv).toNat)
        case atStart => exact ⟨0, 0, O, Nat.zero_le _, rfl, HR1.out, fun _ => rfl, fun j' e => by omega, HLL.out⟩
        case round =>
          obtain ⟨j, z, O2, hj, rfl, hR, hz0, hzs, hL⟩ := hrel
          clear HR1 HLL
          have HLL := Lib.hid hL
          have HU := Lib.hid (HUW.out.below hL.l)
          have HRR := Lib.hid hR
          have HZ0 := Lib.hid hz0
          have HZS := Lib.hid hzs
          clear hL hR hz0 hzs
          by_cases hlt2 : j < r.length
          case neg =>
            obtain rfl : j = r.length := by omega
            have hR := HRR.out
            rw [List.drop_length] at hR
            have HRN : Hid (mRows n (i + 1) O2 (xss.drop (i + 1)) = RES) := Lib.hid hR
            clear hR HRR HZ0 HZS HDR HC
            go_wp2
            go_roundw
            case rel => exact ⟨i + 1, O2, by omega, by go_num, HRN.out, HLL.out⟩
            first | (simp [intOf]; done) | (simp [intOf]; omega)
          obtain ⟨g1, o1, cc1, hv1, hg1, hcc⟩ := HU.out.cells (by omega)
          have hA : A1 = some ⟨g1, o1, none⟩ := by injection hv1
          subst hA
          clear hv1
          have ej := hcc j hlt2
          have hRD : r.drop j = r.getD j 0 :: r.drop (j + 1) := by
            rw [List.drop_eq_getElem_cons hlt2, List.getD_eq_getElem?_getD, List.getElem?_eq_getElem hlt2]; rfl
          have hR := HRR.out
          rw [hRD] at hR
          have HCC := Lib.hid hcc
          clear hRD HRR HDR HC hcc
          generalize hx9 : r.getD j 0 = x at *
          have HX9 := Lib.hid hx9
          clear hx9
          have hR2 : ((mStep n i (z, O2) x).bind fun q' => mRow n i q' (r.drop (j + 1))).bind (fun q => mRows n (i + 1) q.2 (xss.drop (i + 1))) = RES := hR
          have HBD : Hid (mStep n i (z, O2) x = none → RES = none) := Lib.hid fun h => by rw [h] at hR2; exact hR2.symm
          have HGO : Hid (∀ q', mStep n i (z, O2) x = some q' → (mRow n i q' (r.drop (j + 1))).bind (fun q => mRows n (i + 1) q.2 (xss.drop (i + 1))) = RES) := Lib.hid fun q' h => by rw [h] at hR2; exact hR2
          clear hR hR2
          have HIX := Lib.hid fun W => HIN.out x W
          by_cases hx : 1 ≤ x ∧ x ≤ (n : Int)
          case neg =>
            have hib : inB x 1 (n : Int) = false := by unfold inB; rw [Bool.and_eq_false_iff, decide_eq_false_iff_not, decide_eq_false_iff_not]; omega
            have HE := Lib.hid (HBAD.out (HBD.out (mStep_no (.inl hx))))
            rw [hib] at HIX
            clear hib hx HBD HGO HBAD HIN HZ0 HZS
            go_wp2_with (go_at_call 22; refine (HIX.out _).mono ?_; rintro e w5 ⟨rfl, rfl⟩)
            go_ret2
            exact ⟨HE.out, HLL.out.l⟩
          obtain ⟨p, rfl⟩ : ∃ p : Nat, x = (p : Int) + 1 := ⟨x.toNat - 1, by omega⟩
          have hpn : p < n := by omega
          have hp2 : (p : Int) < (n : Int) := by omega
          have hpx : ((p : Int) + 1).toNat - 1 = p := by omega
          have hib : inB ((p : Int) + 1) 1 (n : Int) = true := by unfold inB; rw [Bool.and_eq_true, decide_eq_true_iff, decide_eq_true_iff]; omega
          rw [hib] at HIX
          have hcb := HLL.out.cell hpn
          have hfb := HLL.out.r.free p
          have hlb := HLL.out.r.blk b rfl
          have HPX := Lib.hid hpx
          clear hib hpx HIN
          by_cases hz : O2.getD p 0 = 0
          case neg =>
            have HE := Lib.hid (HBAD.out (HBD.out (mStep_no (.inr (.inl (by rw [HPX.out]; exact hz))))))
            have hby : (O2.getD p 0).toNat ≠ 0 := fun e => hz (UInt8.toNat.inj e)
            have q1 : (((O2.getD p 0).toNat : Int) == 0) = false := by simpa using hby
            have q2 : ((O2.getD p 0).toNat == 0) = false := by simpa using hby
            have q3 : (((O2.getD p 0).toNat : Int) != 0) = true := by simpa using hby
            generalize (O2.getD p 0).toNat = y at *
            clear hz HBD HGO HBAD HZ0 HZS hx
            go_wp2_with (go_at_call 22; refine (HIX.out _).mono ?_; rintro e w5 ⟨rfl, rfl⟩)
            go_ret2
            exact ⟨HE.out, HLL.out.l⟩
          rw [hz] at hcb
          have hcb : wr.cell? ⟨b, p, none⟩ = some (.int .u8 0) := hcb
          have HSET : Hid (VtL w b n (O2.set p (ltr i)) (wr.setCell ⟨b, p, none⟩ (.int .u8 (97 + (i : Int))))) := Lib.hid (by
            have := HLL.out.set p (ltr i)
            rw [ltr_nat hlt] at this
            exact this)
          have u9 : IntKind.u8.wrap (97 + (i : Int)) = 97 + (i : Int) := IntWalk.u8_in _ (by omega)
          by_cases hj0 : j = 0
          · have hzz := HZ0.out hj0
            have HST := Lib.hid (mStep_yes (i := i) (z := z) hx (by rw [HPX.out]; exact hz) (by omega))
            have HG := Lib.hid (HGO.out _ HST.out)
            subst hj0
            rw [Nat.add_zero] at ej
            clear hz hzz HST HBD HGO HBAD HZ0 HZS hx
            go_wp2_with (go_at_call 22; refine (HIX.out _).mono ?_; rintro e w5 ⟨rfl, rfl⟩)
            go_roundw
            case rel => exact ⟨0 + 1, (p : Int) + 1, O2.set p (ltr i), by omega, by go_num, by have := HG.out; rw [HPX.out] at this; exact this, fun e => by omega, fun j' e => (by rw [show j' = 0 by omega]; exact HX9.out.symm), HSET.out⟩
            first | (simp [intOf]; done) | (simp [intOf]; omega)
          · obtain ⟨j1, rfl⟩ : ∃ j1, j = j1 + 1 := ⟨j - 1, by omega⟩
            have hzj := HZS.out j1 rfl
            have ej1 := HCC.out j1 (by omega)
            rw [← hzj] at ej1
            have i5 : j1 < r.length := by omega
            have i6 : (0 : Int) < ((j1 + 1 : Nat) : Int) := by omega
            by_cases hzx : z < (p : Int) + 1
            · have HST := Lib.hid (mStep_yes (i := i) (z := z) hx (by rw [HPX.out]; exact hz) hzx)
              have HG := Lib.hid (HGO.out _ HST.out)
              have h5 : decide ((p : Int) + 1 ≤ z) = false := decide_eq_false (by omega)
              have h6 : decide (z ≥ (p : Int) + 1) = false := decide_eq_false (by omega)
              clear hz hzj HST HBD HGO HBAD HZ0 HZS hx hzx hj0
              go_wp2_with (go_at_call 22; refine (HIX.out _).mono ?_; rintro e w5 ⟨rfl, rfl⟩)
              go_roundw
              case rel => exact ⟨j1 + 1 + 1, (p : Int) + 1, O2.set p (ltr i), by omega, by go_num, by have := HG.out; rw [HPX.out] at this; exact this, fun e => by omega, fun j' e => (by rw [show j' = j1 + 1 by omega]; exact HX9.out.symm), HSET.out⟩
              first | (simp [intOf]; done) | (simp [intOf]; omega)
            · have HE := Lib.hid (HBAD.out (HBD.out (mStep_no (.inr (.inr hzx)))))
              have h5 : (p : Int) + 1 ≤ z := by omega
              clear hz hzj HBD HGO HBAD HZ0 HZS hx hzx hj0
              go_wp2_with (go_at_call 22; refine (HIX.out _).mono ?_; rintro e w5 ⟨rfl, rfl⟩)
              go_ret2
              exact ⟨HE.out, HLL.out.l⟩
end Go.Proofs.YtmfcknlpbliehaaDoor
