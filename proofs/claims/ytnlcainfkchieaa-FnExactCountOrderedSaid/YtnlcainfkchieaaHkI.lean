/- HooksOf: the program's closure; a push at a drawn step. -/
import Derived.Test.YtnlcainfkchieaaResI
import Derived.Test.YtnlcainfkchieaaTPut
namespace Go.Proofs.Ytnlcainfkchieaa
open Go.RowKit
set_option linter.unusedVariables false
set_option maxRecDepth 100000 in
theorem run_pushI (w : World) (ty : TypeId) (B : Nat) (v : Value) (u : Int) (xs : List Int) (hown : IRow w B v xs) (gb : Nat) (hc : w.cell? ⟨gb, 0, none⟩ = some (.int .i64 u)) (hlen : xs.length ≤ 2000000) (hB : B ≤ w.heap.size) :
    ∃ v' w', (Builtin.append_ #[22, 22] ty #[v, .slice (some ⟨gb, 0, none⟩) 1 1]).run Try.prog w = .ok v' w' ∧ IRow w' B v' (xs ++ [u]) ∧ w.grownBy w' v.ownBlock ∧ (v'.ownBlock = v.ownBlock ∨ ∃ g, v'.ownBlock = some g ∧ w.heap.size ≤ g) := by
  obtain ⟨i0, hi, hz0, hz1, hz2⟩ := info_parts intInfo
  obtain ⟨v', w', hr, h2, h3, h4, h5⟩ := run_append_own_at (P := Try.prog) w B 22 ty 3 i0 (.int .i64 0) 1 8 Try.underlying22 hi hz0 hz1 hz2 rfl (by decide) v xs.length (xs.map (Value.int .i64)) hown
    ⟨gb, 0, none⟩ 1 1 [.int .i64 u] rfl (by
      intro j y hj
      match j, hj with
      | 0, hj => simp at hj; subst hj; simpa [Addr.add] using hc) (by intro y hy; simp at hy; subst hy; rfl) (by unfold maxLen; omega) (by omega) hB
  refine ⟨v', w', hr, ?_, h3, ?_⟩
  · unfold IRow
    simpa using h2
  · rcases h5 with h5 | h5
    · exact .inl h5
    · exact .inr ⟨_, h5, Nat.le_refl _⟩
set_option maxRecDepth 100000 in
theorem step_pushI {ops : Array Oper} {o : Oper} {a : Act} {K : Act → World → Prop} {Q : Exit → Act → World → Prop} {E : Prop} {w : World} (s x : Operand) (hgd : o.guard = none)
    (ho : o.op = .call { callee := .builtin .append, args := #[s, x], argTypes := #[22, 22] })
    (B : Nat) (v : Value) (xs : List Int) (hs : a.eval s = v) (hown : IRow w B v xs) (gb : Nat) (u : Int) (hx : a.eval x = .slice (some ⟨gb, 0, none⟩) 1 1)
    (hc : w.cell? ⟨gb, 0, none⟩ = some (.int .i64 u)) (hlen : xs.length ≤ 2000000) (hB : B ≤ w.heap.size)
    (h : ∀ v' w', IRow w' B v' (xs ++ [u]) → w.grownBy w' v.ownBlock → (v'.ownBlock = v.ownBlock ∨ ∃ g, v'.ownBlock = some g ∧ w.heap.size ≤ g) → K (a.put o.dst v') w') :
    if Region.wanted o (yielded ops a.tmps) = true then Oper.wp Try.prog o a w K Q else E := by
  have hw : Region.wanted o (yielded ops a.tmps) = true := by simp [Region.wanted, hgd]
  rw [if_pos hw]
  obtain ⟨v', w', hr, h2, h3, h4⟩ := run_pushI w o.type B v u xs hown gb hc hlen hB
  unfold Oper.wp execOp
  simp only [ho, resolve, invoke, builtin, Sem.run_bind, Sem.run_pure, Result.andThen_ok, List.map_toArray, List.map_cons, List.map_nil, hs, hx, hr]
  exact h v' w' h2 h3 h4
theorem res_at {xs : List Int} (h : resB xs = true) : xs.length = 4 ∧ ∀ k, k < 4 → ∃ m : Nat, xs.getD k 0 = (m : Int) ∧ m ≤ 16 := by
  obtain ⟨a, b, c, d, rfl, h1, h2, h3, h4⟩ := (resB_iff xs).1 h
  refine ⟨rfl, fun k hk => ?_⟩
  have : k = 0 ∨ k = 1 ∨ k = 2 ∨ k = 3 := by omega
  rcases this with e | e | e | e <;> subst e
  · exact ⟨a, rfl, by omega⟩
  · exact ⟨b, rfl, by omega⟩
  · exact ⟨c, rfl, by omega⟩
  · exact ⟨d, rfl, by omega⟩
theorem drop_getD (xs : List Int) (i k : Nat) : (xs.drop i).getD k 0 = xs.getD (i + k) 0 := by
  rw [List.getD_eq_getElem?_getD, List.getD_eq_getElem?_getD, List.getElem?_drop]
theorem hk_start (xs : List Int) (i : Nat) (j : Int) : laN j ((xs.drop (i + 1)).take 0) = 0 := by simp [laN]
theorem hk_yes {xs : List Int} {i k : Nat} {j : Int} (hk : i + 1 + k < xs.length) (h : j < xs.getD (i + 1 + k) 0) : laN j ((xs.drop (i + 1)).take (k + 1)) = laN j ((xs.drop (i + 1)).take k) + 1 := by
  rw [laN_take j _ k (by rw [List.length_drop]; omega), drop_getD, if_pos h]
theorem hk_no {xs : List Int} {i k : Nat} {j : Int} (hk : i + 1 + k < xs.length) (h : ¬ j < xs.getD (i + 1 + k) 0) : laN j ((xs.drop (i + 1)).take (k + 1)) = laN j ((xs.drop (i + 1)).take k) := by
  rw [laN_take j _ k (by rw [List.length_drop]; omega), drop_getD, if_neg h]; rfl
theorem hk_end (xs : List Int) (i : Nat) (j : Int) {k : Nat} (h : xs.length ≤ i + 1 + k) : hkN xs i j = xs.getD i 0 - j + (laN j ((xs.drop (i + 1)).take k) : Nat) := by
  unfold hkN
  rw [List.take_of_length_le (by rw [List.length_drop]; omega)]
set_option maxRecDepth 100000 in
set_option maxHeartbeats 1600000 in
theorem hook_any (b g0 o0 cc0 : Nat) (xs : List Int) (i m j : Nat) (W : World) (h4 : xs.length = 4) (hi : i < 4) (hm : xs.getD i 0 = (m : Int)) (hm16 : m ≤ 16) (hj : j < m) (hcc : 4 ≤ cc0 ∧ cc0 ≤ maxLen)
    (hbx : W.cell? ⟨b, 0, none⟩ = some (.slice (some ⟨g0, o0, none⟩) 4 cc0)) (hcells : ∀ k, k < 4 → W.cell? ⟨g0, o0 + k, none⟩ = some (.int .i64 (xs.getD k 0))) :
    Calls Try.prog 46 #[.int .i64 (i : Int), .int .i64 (j : Int), .pointer (some ⟨b, 0, none⟩)] W fun e w' => e = .returned (.int .i64 (hkN xs i (j : Int))) ∧ W = w' := by
  unfold maxLen at hcc
  have HC := Lib.hid hcells
  have e1 := hcells i hi
  rw [hm] at e1
  have HY := Lib.hid (fun k => hk_yes (xs := xs) (i := i) (k := k) (j := (j : Int)))
  have HN := Lib.hid (fun k => hk_no (xs := xs) (i := i) (k := k) (j := (j : Int)))
  have HE := Lib.hid (fun k => hk_end xs i (j : Int) (k := k))
  have HS0 := Lib.hid (hk_start xs i (j : Int))
  have HLE : Hid (∀ k, laN (j : Int) ((xs.drop (i + 1)).take k) ≤ 4) := Lib.hid fun k => by
    have := laN_le (j : Int) ((xs.drop (i + 1)).take k)
    rw [List.length_take, List.length_drop] at this
    omega
  rw [hm] at HE
  rw [h4] at HY HN HE
  generalize hkN xs i (j : Int) = H at *
  generalize hF : (fun k => laN (j : Int) ((xs.drop (i + 1)).take k)) = F at *
  have hFk : ∀ k, laN (j : Int) ((xs.drop (i + 1)).take k) = F k := fun k => by rw [← hF]
  simp only [hFk] at HY HN HE HS0 HLE
  clear hcells hF hFk hm h4
  by_cases hi3 : i < 3
  · have hne : ¬ cc0 = i + 1 := by omega
    go_enter Try.func46, Try.ntmps46
    go_wp2
    go_loop [6, 20] (fun s q => ∃ k : Nat, i + 1 + k ≤ 4 ∧ q = .int .i64 (k : Int) ∧ s = .int .i64 ((m : Int) - (j : Int) + (F k : Nat))) (fun _ q => 4 - (intOf q).toNat)
    case atStart => exact ⟨0, by omega, rfl, by rw [HS0.out]; go_num⟩
    case round =>
      obtain ⟨k, hk, rfl, rfl⟩ := hrel
      by_cases hlt : i + 1 + k < 4
      · have e2 := HC.out (i + 1 + k) (by omega)
        rw [← Nat.add_assoc] at e2
        have HY1 := Lib.hid (HY.out k hlt)
        have HN1 := Lib.hid (HN.out k hlt)
        have hle := HLE.out k
        clear HY HN HE HS0 HLE HC
        generalize xs.getD (i + 1 + k) 0 = x at *
        generalize hF1 : F (k + 1) = F1 at *
        have HF1 := Lib.hid hF1
        clear hF1
        generalize F k = F0 at *
        have i1 : (k : Int) < 4 - ((i : Int) + 1) := by omega
        by_cases hx : (j : Int) < x
        · have HQ := Lib.hid (HY1.out hx)
          go_wp2
          refine ⟨⟨k + 1, by omega, by go_num, ?_⟩, ?_⟩
          · rw [HF1.out, HQ.out] <;> go_num
          · first | (simp [intOf]; done) | (simp [intOf]; omega)
        · have HQ := Lib.hid (HN1.out (by omega))
          go_wp2
          refine ⟨⟨k + 1, by omega, by go_num, ?_⟩, ?_⟩
          · rw [HF1.out, HQ.out] <;> go_num
          · first | (simp [intOf]; done) | (simp [intOf]; omega)
      · have HE1 := Lib.hid (HE.out k (by omega))
        have i1 : ¬ (k : Int) < 4 - ((i : Int) + 1) := by omega
        go_wp2
        go_ret
        exact ⟨by rw [HE1.out]; rfl, rfl⟩
  · obtain rfl : i = 3 := by omega
    have HE1 := Lib.hid (HE.out 0 (by omega))
    rw [HS0.out] at HE1
    clear HY HN HE HS0 HLE HC hi3
    by_cases h4 : cc0 = 4
    · subst h4
      go_enter Try.func46, Try.ntmps46
      go_wp2
      refine wp_loop_rounds 1 ?_
      rw [rounds_succ]
      go_wp2
      go_ret
      exact ⟨ret_int (by rw [HE1.out]; simp), rfl⟩
    · have hne : ¬ cc0 = 3 + 1 := by omega
      go_enter Try.func46, Try.ntmps46
      go_wp2
      refine wp_loop_rounds 1 ?_
      rw [rounds_succ]
      go_wp2
      go_ret
      exact ⟨ret_int (by rw [HE1.out]; simp), rfl⟩
end Go.Proofs.Ytnlcainfkchieaa
