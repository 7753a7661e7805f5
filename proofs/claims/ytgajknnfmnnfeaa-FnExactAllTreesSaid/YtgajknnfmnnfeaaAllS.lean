/- The model's cyAll, AllTrees. -/
import Derived.Test.YtgajknnfmnnfeaaAllMath
import Derived.Test.YtgajknnfmnnfeaaTOwn
import Derived.Test.YtgajknnfmnnfeaaTreesS
import Derived.Test.YtgajknnfmnnfeaaInB
namespace Go.Proofs.Ytgajknnfmnnfeaa
open Go.RowKit
set_option linter.unusedVariables false
/-- [][]int{nil} -/
theorem TRow.litNil (w : World) : TRow (w.alloc (.cells #[.slice none 0 0] 22)) w.heap.size (w.alloc (.cells #[.slice none 0 0] 22)).heap.size (.slice (some ⟨w.heap.size, 0, none⟩) 1 1) [.slice none 0 0] [[]] := by
  have r2 : VRow (w.alloc (.cells #[.slice none 0 0] 22)) w.heap.size (.slice (some ⟨w.heap.size, 0, none⟩) 1 1) [.slice none 0 0] :=
    World.ownsRow_lit (base := w.heap.size) (e := 22) (size := 1) w #[.slice none 0 0] 1 (Nat.le_refl _) (by simp [maxLen]) rfl
  refine ⟨rfl, r2, fun k hk => (r2.blk k hk).2, fun j hj => ?_, fun j hj k hk => ?_, fun i j hi hj hne => ?_, fun j hj a b ha hb => ?_, Nat.le_refl _⟩
  · have : j = 0 := by simpa using hj
    subst this
    exact IRow.nil _ _
  · have : j = 0 := by simpa using hj
    subst this
    cases hk
  · simp at hi hj; omega
  · have : j = 0 := by simpa using hj
    subst this
    cases hb
set_option maxHeartbeats 3000000 in
theorem cyAll_ret : ∀ (n t : Nat), n ≤ 7 → t ≤ 20 → ∀ (w : World), Calls Try.prog 89 #[.int .i64 (n : Int), .int .i64 (t : Int)] w (TabsNew w (allF n t)) := by
  intro n
  induction n with
  | zero =>
    intro t hn ht w
    by_cases h0 : t = 0
    · subst h0
      have hb := (Below.refl w.heap.size w).alloc (Nat.le_refl _) (.cells #[.slice none 0 0] 22)
      have H := Lib.hid (TRow.litNil w)
      go_enter Try.func89, Try.ntmps89
      go_wp2_with fail
      go_ret
      exact ⟨_, _, rfl, H.out, hb⟩
    · have e : allF 0 t = [] := by rw [allF, if_neg h0]
      have q : ((t : Int) == 0) = false := beq_eq_false_iff_ne.2 (by omega)
      rw [e]
      go_enter Try.func89, Try.ntmps89
      go_wp2_with fail
      go_ret
      exact ⟨_, [], rfl, TRow.nil (Nat.le_refl _), Below.refl _ _⟩
  | succ n ih =>
    intro t hn ht w
    have q0 : (((n : Int) + 1) == 0) = false := beq_eq_false_iff_ne.2 (by omega)
    by_cases hbad : t = 0 ∨ n + 1 < t
    · have e : allF (n + 1) t = [] := by rw [allF, if_pos hbad]
      rw [e, Int.natCast_add, Int.natCast_one]
      by_cases h0 : t = 0
      · subst h0
        go_enter Try.func89, Try.ntmps89
        go_wp2_with fail
        go_ret
        exact ⟨_, [], rfl, TRow.nil (Nat.le_refl _), Below.refl _ _⟩
      · have c1 : ¬ (t : Int) < 1 := by omega
        have c2 : (n : Int) + 1 < (t : Int) := by omega
        go_enter Try.func89, Try.ntmps89
        go_wp2_with fail
        go_ret
        exact ⟨_, [], rfl, TRow.nil (Nat.le_refl _), Below.refl _ _⟩
    · have e : allF (n + 1) t = allD (allF n) t (n + 1) := by rw [allF, if_neg hbad]
      rw [e, Int.natCast_add, Int.natCast_one]
      have c1 : ¬ (t : Int) < 1 := by omega
      have c2 : ¬ (n : Int) + 1 < (t : Int) := by omega
      have HREC : Hid (∀ d, d < n + 1 → ∀ w1, Calls Try.prog 89 #[.int .i64 (n : Int), .int .i64 ((t : Int) - 1 + (d : Int))] w1 (TabsNew w1 (allF n (t - 1 + d)))) := Lib.hid fun d hd w1 => by
        have := ih (t - 1 + d) (by omega) (by omega) w1
        rwa [show ((t - 1 + d : Nat) : Int) = (t : Int) - 1 + (d : Int) by omega] at this
      have HDS : Hid (∀ d, allD (allF n) t (d + 1) = allD (allF n) t d ++ preD d (allF n (t - 1 + d))) := Lib.hid fun _ => rfl
      have HDL := Lib.hid (fun D hD => allD_le n t D (by omega) hD)
      have HFL : Hid (∀ u, (allF n u).length ≤ 823543) := Lib.hid fun u => by
        have h1 := allF_len n u (by omega)
        have h2 : 7 ^ n ≤ 7 ^ 7 := Nat.pow_le_pow_right (by omega) (by omega)
        have h3 : 7 ^ 7 = 823543 := by decide
        omega
      have HFM : Hid (∀ u k, k < (allF n u).length → ((allF n u).getD k []).length = n) := Lib.hid fun u k hk => allF_mem n u _ (by rw [List.getD_eq_getElem?_getD, List.getElem?_eq_getElem hk]; exact List.getElem_mem _)
      clear ih hbad e
      go_enter Try.func89, Try.ntmps89
      go_wp2_with fail
      go_loopw [5, 6, 8] (fun vo di q1 wr => ∃ (d M : Nat) (vs : List Value), d ≤ n + 1 ∧ di = .int .i64 (d : Int) ∧ TRow wr w.heap.size M vo vs (allD (allF n) t d) ∧ w.heap.size ≤ M ∧ Below w.heap.size w wr) (fun _ di _ _ => n + 1 - (intOf di).toNat)
      case atStart => exact ⟨0, w.heap.size, [], by omega, rfl, TRow.nil (Nat.le_refl _), Nat.le_refl _, Below.refl _ _⟩
      case round =>
        obtain ⟨d, M, vs, hd, rfl, hto, hBM, hb⟩ := hrel
        have hbs := hb.size
        have hMs := hto.size
        by_cases hlt : d < n + 1
        · have HR1 := Lib.hid (HREC.out d hlt wr)
          have HS1 := Lib.hid (HDS.out d)
          have hdl := HDL.out (d + 1) (by omega)
          rw [HS1.out, List.length_append, preD_length] at hdl
          have HFM1 := Lib.hid (HFM.out (t - 1 + d))
          have hfl := HFL.out (t - 1 + d)
          clear HREC HDS HDL HFM HFL
          generalize allD (allF n) t d = AD at *
          generalize allF n (t - 1 + d) = L at *
          go_wp2_with (go_at_call 89; refine HR1.out.mono ?_; rintro e w1 ⟨v1, vs1, rfl, hr1, hb1⟩; obtain ⟨A1, c1, rfl⟩ := hr1.out.shape; rw [hr1.len])
          have hto1 := hto.below hb1
          have hb2 := hb.trans (hb1.mono hbs)
          have hbs1 := hb1.size
          rw [hr1.len] at hr1
          have HR := Lib.hid hr1
          clear hr1 hto hb
          obtain ⟨wo, rfl⟩ : ∃ wo, wo = wr := ⟨_, rfl⟩
          have HFP := Lib.hid (preD_snoc d L)
          go_loopw [5, 8, 34] (fun vo q1 i wr2 => ∃ (k M2 : Nat) (vs2 : List Value), k ≤ L.length ∧ i = .int .i64 (k : Int) ∧ TRow wr2 w.heap.size M2 vo vs2 (AD ++ preD d (L.take k)) ∧ w.heap.size ≤ M2 ∧ Below w.heap.size w wr2 ∧ TRow wr2 wo.heap.size w1.heap.size (.slice A1 L.length c1) vs1 L ∧ (∀ q, vo.ownBlock = some q → q < wo.heap.size ∨ w1.heap.size ≤ q)) (fun _ _ i _ => L.length - (intOf i).toNat)
          case atStart => exact ⟨0, M, vs, by omega, rfl, by simpa [preD] using hto1, hBM, hb2, HR.out, fun q hq => .inl (Nat.lt_of_lt_of_le (hto1.outM q hq) hMs)⟩
          case round =>
            clear hto1 hb2 HR hb1
            obtain ⟨k, M2, vs2, hk, rfl, hto2, hBM2, hb3, hr3, hap⟩ := hrel
            have hs2 := hto2.size
            have hs3 := hr3.size
            by_cases hlt2 : k < L.length
            · obtain ⟨g1, c1', hv1, hg1B, hg1, hc1⟩ := hr3.form rfl (by omega)
              obtain ⟨rfl, rfl⟩ : A1 = some ⟨g1, 0, none⟩ ∧ c1 = c1' := by
                injection hv1 with h1 h2 h3
                exact ⟨h1, h3⟩
              clear hv1
              have HQ1 := hc1 k hlt2
              have HU := Lib.hid (RInts.of_row (hr3.row k hlt2))
              have HM1 := Lib.hid (HFM1.out k hlt2)
              have HF1 := Lib.hid (HFP.out k hlt2)
              have hl2 : (AD ++ preD d (L.take k)).length ≤ 823543 := by rw [List.length_append, preD_length, List.length_take]; omega
              have hl3 := hto2.len
              have HE : IRow (wr.alloc (.cells #[.int .i64 (d : Int)] 3)) wr.heap.size (.slice (some ⟨wr.heap.size, 0, none⟩) 1 1) [(d : Int)] :=
                IRow.of_own (World.ownsRow_lit (base := wr.heap.size) wr #[.int .i64 (d : Int)] 1 (Nat.le_refl _) (by simp [maxLen]) rfl) rfl rfl
              have HA := (Below.refl wr.heap.size wr).alloc (Nat.le_refl _) (.cells #[.int .i64 (d : Int)] 3)
              have hto3 := hto2.below HA
              have hr4 := hr3.below HA
              have hb4 := hb3.trans (HA.mono (by have := hb3.size; omega))
              clear hc1 HFP HR1 HS1 HFM1
              generalize preD d (L.take k) = PK at *
              generalize L.getD k [] = ys at *
              go_wp2_with (first
                | (at_builtin; refine wpList_extendR (.tmp 40) (.tmp 41) rfl rfl wr.heap.size _ _ [(d : Int)] ys rfl HE rfl (HU.out.below HA) (by have := HM1.out; simp; omega) (by simp) ?_; intro v3 w3 hx3 hg3; obtain ⟨A3, c3, rfl⟩ := hx3.shape)
                | (at_builtin; refine wpList_pushV (.tmp 38) (.tmp 43) rfl rfl w.heap.size _ vs2 rfl ((hto3.keep hg3 (fun q hq => .inr (by cases hq; exact hs2))).out.alloc _) w3.heap.size (.slice A3 ([(d : Int)] ++ ys).length c3) rfl (by simp) rfl (by omega) (by have := hg3.size; have := hb4.size; simp; omega) ?_; intro v4 w4 hr5 hg4 hat4))
              have hg5 := grown_alloc_left hg4
              have hto4 := hto3.keep hg3 (fun q hq => .inr (by cases hq; exact hs2))
              have hr6 := (hr4.keep hg3 (fun q hq => .inr (by cases hq; exact hs3))).keep hg5 hap
              have hb5 := hb4.grown hg3 (by have := hb4.size; omega) (fun q hq => by cases hq; exact hb3.size)
              have HB6 := Lib.hid (hb5.grown hg5 hb5.size (fun q hq => (hto4.outB q hq).1))
              have HTO := Lib.hid (hto4.push (hx3.mono hs2) hBM2 hr5 hg5 (hat_alloc hat4))
              have hz := HB6.out.size
              have HR6 := Lib.hid hr6
              have HAP : Hid (∀ q, v4.ownBlock = some q → q < wo.heap.size ∨ w1.heap.size ≤ q) := Lib.hid fun q hq => by
                rcases hat_alloc hat4 with e | ⟨g, e, hge⟩
                · rw [e] at hq; exact hap q hq
                · rw [e] at hq; injection hq with hq; have := hg3.size; simp at this; omega
              clear hto4 hr6 hb5 hto3 hto2 hr3 hr4 hb3 hb4 hr5 hg5 hg4 hat4 hx3 hg3 HE HA HU hap
              go_roundw
              case rel => exact ⟨k + 1, _, _, by omega, by go_num, by rw [HF1.out, ← List.append_assoc]; exact HTO.out, hz, HB6.out, HR6.out, HAP.out⟩
              case measure => first | (simp [intOf]; done) | (simp [intOf]; omega)
            · have HK : Hid (L.take k = L) := Lib.hid (List.take_of_length_le (by omega))
              go_wp2_with fail
              go_roundw
              case rel => exact ⟨d + 1, M2, vs2, by omega, by go_num, by rw [HS1.out]; have := hto2; rw [HK.out] at this; exact this, hBM2, hb3⟩
              case measure => first | (simp [intOf]; done) | (simp [intOf]; omega)
        · have hd2 : d = n + 1 := by omega
          subst hd2
          go_wp2_with fail
          go_ret
          exact ⟨_, vs, rfl, hto.mono (Nat.le_refl _) hMs (Nat.le_refl _), hb⟩
/-- the trees of n nodes -/
def allOk (n : Int) : Bool := decide (1 ≤ n ∧ n ≤ 7)
def allV (n : Int) : List (List Int) := if allOk n = true then allF n.toNat 1 else []
end Go.Proofs.Ytgajknnfmnnfeaa
