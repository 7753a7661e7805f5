/- Pack 14 of what FnFansAndCubes needs: NcN, VOwn, Deg. -/
import Derived.Test.YtmfcknlpbliehabKFnFansAndCubes13
import Derived.Deep.QuietTactic
import Derived.BigQuiet
import Derived.Deep.RegionLaw
/- The model's ncCount, CountWays. -/
namespace Go.Proofs.Ytmfcknlpbliehab
open Go.RowKit
set_option linter.unusedVariables false
def ncV (x y u v : Int) : Int := if u - x < 0 ∨ v - y < 0 then 0 else chZ ((u - x) + (v - y)) (u - x)
/-- two cells in their boxes -/
structure C2 (w : World) (x y u v : Int) (X : World) : Prop where
  a0 : X.cell? ⟨w.heap.size, 0, none⟩ = some (.int .i64 x)
  a1 : X.cell? ⟨w.heap.size, 1, none⟩ = some (.int .i64 y)
  b0 : X.cell? ⟨w.heap.size + 1, 0, none⟩ = some (.int .i64 u)
  b1 : X.cell? ⟨w.heap.size + 1, 1, none⟩ = some (.int .i64 v)
  lt : w.heap.size + 1 < X.heap.size
  below : Below w.heap.size w X
theorem C2.kept {w X X' : World} {x y u v : Int} (h : C2 w x y u v X) (hb : Below X.heap.size X X') : C2 w x y u v X' :=
  ⟨(hb.cell (p := ⟨w.heap.size, 0, none⟩) (Nat.lt_of_succ_lt h.lt)).trans h.a0, (hb.cell (p := ⟨w.heap.size, 1, none⟩) (Nat.lt_of_succ_lt h.lt)).trans h.a1, (hb.cell (p := ⟨w.heap.size + 1, 0, none⟩) h.lt).trans h.b0, (hb.cell (p := ⟨w.heap.size + 1, 1, none⟩) h.lt).trans h.b1, Nat.lt_of_lt_of_le h.lt hb.size, h.below.trans (hb.mono h.below.size)⟩
theorem C2.start (w : World) (x y u v : Int) : C2 w x y u v ((w.alloc (.cells #[.int .i64 x, .int .i64 y] 54)).alloc (.cells #[.int .i64 u, .int .i64 v] 54)) :=
  ⟨by simp [go_sem], by simp [go_sem], by simp [go_sem], by simp [go_sem], by simp, ((Below.refl _ _).alloc (Nat.le_refl _) _).alloc (by simp) _⟩
def cyOk (x y u v : Int) : Bool := cellB x y && cellB u v
def cyV (x y u v : Int) : Int := if cyOk x y u v = true then ncV x y u v else 0
end Go.Proofs.Ytmfcknlpbliehab

/- Words for memory: a slice of slices that the call owns. -/
namespace Go.Proofs.Ytmfcknlpbliehab
open Go.RowKit
set_option linter.unusedVariables false
theorem vecInfo : (Try.prog.info? 24).map (fun i => (i.zero, i.size, i.bytes)) = some (some (.slice none 0 0), 1, 24) := by kernel_rfl
/-- the slice value v owns the values xs (slices of ints), in a block from B on -/
def VRow (w : World) (B : Nat) (v : Value) (xs : List Value) : Prop := w.ownsRow B 24 1 v xs.length xs
section
variable {w w' : World} {B : Nat} {v : Value} {xs : List Value}
theorem VRow.nil (w : World) (B : Nat) : VRow w B (.slice none 0 0) [] := World.ownsRow_nil _ _ _ _
theorem VRow.mono (h : VRow w B v xs) {B' : Nat} (hb : B' ≤ B) : VRow w B' v xs := by
  refine ⟨h.1, ?_⟩
  rcases h.2 with h2 | ⟨g, cap, cur, hv, hg, r⟩
  · exact .inl h2
  · exact .inr ⟨g, cap, cur, hv, Nat.le_trans hb hg, r⟩
theorem VRow.alloc (h : VRow w B v xs) (o : Obj) : VRow (w.alloc o) B v xs := World.ownsRow.alloc h o
theorem VRow.drew (h : VRow w B v xs) : VRow w.drew B v xs := h
theorem VRow.drewN (h : VRow w B v xs) (n : Nat) : VRow (w.drewN n) B v xs := h
theorem VRow.below (h : VRow w B v xs) (hb : Below w.heap.size w w') : VRow w' B v xs :=
  World.ownsRow.kept (row := none) h ⟨hb.os, hb.tape, hb.output, hb.size, fun k hk _ => hb.block k hk⟩ (by cases v.ownBlock <;> simp)
theorem VRow.shape (h : VRow w B v xs) : ∃ A c, v = .slice A xs.length c := by
  rcases h.2 with ⟨h1, h0⟩ | ⟨g, cap, cur, hv, _⟩
  · exact ⟨none, 0, by rw [h1, h0]⟩
  · exact ⟨_, cap, hv⟩
theorem VRow.form {n : Nat} (h : VRow w B v xs) (hn : xs.length = n) (hx : 0 < n) : ∃ g c, v = .slice (some ⟨g, 0, none⟩) n c ∧ B ≤ g ∧ g < w.heap.size ∧ n ≤ c ∧ c ≤ maxLen := by
  subst hn
  rcases h.2 with ⟨_, h0⟩ | ⟨g, cap, cur, hv, hg, hh, hc, hm, _⟩
  · omega
  · exact ⟨g, cap, hv, hg, (Array.getElem?_eq_some_iff.1 hh).1, hc, hm⟩
theorem VRow.len {g c n : Nat} (h : VRow w B (.slice (some ⟨g, 0, none⟩) n c) xs) : n = xs.length := by
  rcases h.2 with ⟨h0, _⟩ | ⟨g', cap, cur, hv, _⟩
  · simp at h0
  · simp at hv; exact hv.2.1
theorem VRow.cell {g c n : Nat} (h : VRow w B (.slice (some ⟨g, 0, none⟩) n c) xs) {j : Nat} (hj : j < xs.length) : w.cell? ⟨g, j, none⟩ = some (xs.getD j (.slice none 0 0)) := by
  have hn := h.len
  subst hn
  rw [World.ownsRow.cellAt h j (by omega)]
  simp [hj]
theorem VRow.free {g c n : Nat} (h : VRow w B (.slice (some ⟨g, 0, none⟩) n c) xs) (j : Nat) : w.frozen? ⟨g, j, none⟩ = false := by
  have hn := h.len
  subst hn
  exact World.ownsRow.frozenAt h j
theorem VRow.set {g c n : Nat} (h : VRow w B (.slice (some ⟨g, 0, none⟩) n c) xs) (j : Nat) (u : Value) :
    VRow (w.setCell ⟨g, j, none⟩ u) B (.slice (some ⟨g, 0, none⟩) n c) (xs.set j u) ∧ w.grownBy (w.setCell ⟨g, j, none⟩ u) (some g) := by
  have hn := h.len
  subst hn
  have := World.ownsRow.stored h j u
  refine ⟨?_, this.2⟩
  have h1 := this.1
  unfold VRow
  rw [List.length_set]
  exact h1
theorem VRow.blk (h : VRow w B v xs) : ∀ k, v.ownBlock = some k → B ≤ k ∧ k < w.heap.size := World.ownsRow.lt h
theorem VRow.apart {r : Option Nat} (h : VRow w B v xs) (hg : w.grownBy w' r) (hne : ∀ k, v.ownBlock = some k → some k ≠ r) : VRow w' B v xs :=
  World.ownsRow.kept h hg (by
    cases e : v.ownBlock with
    | none => exact .inl rfl
    | some k => exact .inr (hne k e))
theorem VRow.same (h : VRow w B v xs) (e : ∀ k, v.ownBlock = some k → w'.heap[k]? = w.heap[k]?) : VRow w' B v xs := by
  refine ⟨h.1, ?_⟩
  rcases h.2 with h2 | ⟨g, cap, cur, hv, hB, hg, r⟩
  · exact .inl h2
  · subst hv
    exact .inr ⟨g, cap, cur, rfl, hB, by rw [e g rfl]; exact hg, r⟩
end
set_option maxRecDepth 100000 in
theorem run_pushV (w : World) (ty : TypeId) (B : Nat) (v u : Value) (xs : List Value) (hown : VRow w B v xs) (gb : Nat) (hc : w.cell? ⟨gb, 0, none⟩ = some u) (hu : u.oneCell' = true) (hlen : xs.length ≤ 2000000) (hB : B ≤ w.heap.size) :
    ∃ v' w', (Builtin.append_ #[46, 46] ty #[v, .slice (some ⟨gb, 0, none⟩) 1 1]).run Try.prog w = .ok v' w' ∧ VRow w' B v' (xs ++ [u]) ∧ w.grownBy w' v.ownBlock ∧ (v'.ownBlock = v.ownBlock ∨ ∃ g, v'.ownBlock = some g ∧ w.heap.size ≤ g) := by
  obtain ⟨i0, hi, hz0, hz1, hz2⟩ := info_parts vecInfo
  obtain ⟨v', w', hr, h2, h3, h4, h5⟩ := run_append_own_at (P := Try.prog) w B 46 ty 24 i0 (.slice none 0 0) 1 24 Try.underlying46 hi hz0 hz1 hz2 rfl (by decide) v xs.length xs hown
    ⟨gb, 0, none⟩ 1 1 [u] rfl (by
      intro j y hj
      match j, hj with
      | 0, hj => simp at hj; subst hj; simpa [Addr.add] using hc) (by intro y hy; simp at hy; subst hy; exact hu) (by unfold maxLen; omega) (by omega) hB
  refine ⟨v', w', hr, ?_, h3, ?_⟩
  · unfold VRow
    simpa using h2
  · rcases h5 with h5 | h5
    · exact .inl h5
    · exact .inr ⟨_, h5, Nat.le_refl _⟩
set_option maxRecDepth 100000 in
/-- append of one slice to a slice of slices of the call's own -/
theorem wpList_pushV {ops : Array Oper} {rest : List Oper} {o : Oper} {a : Act} {Q : Exit → Act → World → Prop} {w : World} (s x : Operand) (hgd : o.guard = none)
    (ho : o.op = .call { callee := .builtin .append, args := #[s, x], argTypes := #[46, 46] })
    (B : Nat) (v : Value) (xs : List Value) (hs : a.eval s = v) (hown : VRow w B v xs) (gb : Nat) (u : Value) (hx : a.eval x = .slice (some ⟨gb, 0, none⟩) 1 1)
    (hc : w.cell? ⟨gb, 0, none⟩ = some u) (hu : u.oneCell' = true) (hlen : xs.length ≤ 2000000) (hB : B ≤ w.heap.size)
    (h : ∀ v' w', VRow w' B v' (xs ++ [u]) → w.grownBy w' v.ownBlock → (v'.ownBlock = v.ownBlock ∨ ∃ g, v'.ownBlock = some g ∧ w.heap.size ≤ g) → wpList Try.prog ops Q rest (a.put o.dst v') w') :
    wpList Try.prog ops Q (o :: rest) a w := by
  refine wpList_plain hgd fun K hK => ?_
  obtain ⟨v', w', hr, h2, h3, h4⟩ := run_pushV w o.type B v u xs hown gb hc hu hlen hB
  unfold Oper.wp execOp
  simp only [ho, resolve, invoke, builtin, Sem.run_bind, Sem.run_pure, Result.andThen_ok, List.map_toArray, List.map_cons, List.map_nil, hs, hx, hr]
  exact hK _ _ (h v' w' h2 h3 h4)
set_option maxRecDepth 100000 in
/-- the same at a step of a region that draws its order -/
theorem step_pushV {ops : Array Oper} {o : Oper} {a : Act} {K : Act → World → Prop} {Q : Exit → Act → World → Prop} {E : Prop} {w : World} (s x : Operand) (hgd : o.guard = none)
    (ho : o.op = .call { callee := .builtin .append, args := #[s, x], argTypes := #[46, 46] })
    (B : Nat) (v : Value) (xs : List Value) (hs : a.eval s = v) (hown : VRow w B v xs) (gb : Nat) (u : Value) (hx : a.eval x = .slice (some ⟨gb, 0, none⟩) 1 1)
    (hc : w.cell? ⟨gb, 0, none⟩ = some u) (hu : u.oneCell' = true) (hlen : xs.length ≤ 2000000) (hB : B ≤ w.heap.size)
    (h : ∀ v' w', VRow w' B v' (xs ++ [u]) → w.grownBy w' v.ownBlock → (v'.ownBlock = v.ownBlock ∨ ∃ g, v'.ownBlock = some g ∧ w.heap.size ≤ g) → K (a.put o.dst v') w') :
    if Region.wanted o (yielded ops a.tmps) = true then Oper.wp Try.prog o a w K Q else E := by
  have hw : Region.wanted o (yielded ops a.tmps) = true := by simp [Region.wanted, hgd]
  rw [if_pos hw]
  obtain ⟨v', w', hr, h2, h3, h4⟩ := run_pushV w o.type B v u xs hown gb hc hu hlen hB
  unfold Oper.wp execOp
  simp only [ho, resolve, invoke, builtin, Sem.run_bind, Sem.run_pure, Result.andThen_ok, List.map_toArray, List.map_cons, List.map_nil, hs, hx, hr]
  exact h v' w' h2 h3 h4
end Go.Proofs.Ytmfcknlpbliehab

/- l1All, cyGood, IsDegrees, cyExcess, cyForest. -/
namespace Go.Proofs.Ytmfcknlpbliehab
open Go.RowKit
set_option linter.unusedVariables false
set_option maxHeartbeats 800000 in
theorem l1All_any (v : Value) (xs : List Int) (lo hi : Int) (w : World) (h : RInts w v xs) (hl : xs.length ≤ 1048576) :
    Calls Try.prog 59 #[v, .int .i64 lo, .int .i64 hi] w fun e w' => e = .returned (.bool (allB xs lo hi)) ∧ w = w' := by
  obtain ⟨A0, cap, rfl⟩ := h.shape
  have H := Lib.hid h
  clear h
  go_enter Try.func59, Try.ntmps59
  go_wp2
  go_loop [11] (fun i => ∃ k : Nat, k ≤ xs.length ∧ i = .int .i64 (k : Int) ∧ Hid (allB (xs.take k) lo hi = true)) (fun i => xs.length - (intOf i).toNat)
  case atStart => exact ⟨0, by omega, rfl, Lib.hid (by simp [allB])⟩
  case round =>
    obtain ⟨k, hk, rfl, HA⟩ := hrel
    by_cases hlt : k < xs.length
    · obtain ⟨g, o, cc, hv, hg, hcells⟩ := H.out.cells (by omega)
      have hA : A0 = some ⟨g, o, none⟩ := by injection hv
      subst hA
      clear hv
      have e1 := hcells k hlt
      clear hcells
      have HB := Lib.hid (allB_take HA.out hlt)
      have HN := Lib.hid (fun hx => allB_no (xs := xs) (lo := lo) (hi := hi) hlt hx)
      generalize xs.getD k 0 = x at *
      by_cases hin : inBd lo hi x = true
      · have HI : Hid (inB x lo hi = true) := Lib.hid hin
        rw [hin] at HB
        clear HN hin HA
        go_wp2_with (go_at_call 47; refine (in_any _ _ _ _).mono ?_; rintro e w' ⟨rfl, rfl⟩; rw [HI.out])
        go_round
        case rel => exact ⟨k + 1, by omega, by go_num, HB⟩
        case measure => first | (simp [intOf]; done) | (simp [intOf]; omega)
      · rw [Bool.not_eq_true] at hin
        have HI : Hid (inB x lo hi = false) := Lib.hid hin
        have HF := Lib.hid (HN.out hin)
        clear HN hin HA HB
        go_wp2_with (go_at_call 47; refine (in_any _ _ _ _).mono ?_; rintro e w' ⟨rfl, rfl⟩; rw [HI.out])
        go_ret
        exact ⟨ret_bool HF.out.symm, rfl⟩
    · have HK : Hid (allB xs lo hi = true) := by
        have := HA.out
        rwa [List.take_of_length_le (by omega)] at this
      go_wp2
      go_ret
      exact ⟨ret_bool HK.out.symm, rfl⟩
theorem cyGood_any (v : Value) (xs : List Int) (w : World) (h : RInts w v xs) (hl : xs.length ≤ 1048576) :
    Calls Try.prog 33 #[v] w fun e w' => e = .returned (.bool (degB xs)) ∧ w = w' := by
  obtain ⟨A0, cap, rfl⟩ := h.shape
  have H := Lib.hid h
  clear h
  by_cases hin : inBd 1 16 (xs.length : Nat) = true
  · have HI : Hid (inB (xs.length : Nat) 1 16 = true) := Lib.hid hin
    have e : degB xs = allB xs 0 16 := by unfold degB; rw [hin, Bool.true_and]
    rw [e]
    clear e hin
    go_enter Try.func33, Try.ntmps33
    go_wp2_with (first | (go_at_call 47; refine (in_any _ _ _ _).mono ?_; rintro e w' ⟨rfl, rfl⟩; rw [HI.out]) | (go_at_call 59; refine (l1All_any _ xs _ _ _ H.out hl).mono ?_; rintro e w' ⟨rfl, rfl⟩))
    go_ret
    exact ⟨rfl, rfl⟩
  · rw [Bool.not_eq_true] at hin
    have HI : Hid (inB (xs.length : Nat) 1 16 = false) := Lib.hid hin
    have e : degB xs = false := by unfold degB; rw [hin, Bool.false_and]
    rw [e]
    clear e hin
    go_enter Try.func33, Try.ntmps33
    go_wp2_with (first | (go_at_call 47; refine (in_any _ _ _ _).mono ?_; rintro e w' ⟨rfl, rfl⟩; rw [HI.out]) | (go_at_call 59; refine (l1All_any _ xs _ _ _ H.out hl).mono ?_; rintro e w' ⟨rfl, rfl⟩))
    go_ret
    exact ⟨rfl, rfl⟩
theorem specIsDegrees_ret (v : Value) (xs : List Int) (w : World) (h : RInts w v xs) (hl : xs.length ≤ 1048576) :
    Calls Try.prog 13 #[v] w (Ret w (.bool (degB xs))) := by
  have H := Lib.hid h
  clear h
  go_enter Try.func13, Try.ntmps13
  go_wp2_with (go_at_call 33; refine (cyGood_any _ xs _ H.out hl).mono ?_; rintro e w' ⟨rfl, rfl⟩)
  go_ret
  exact ⟨rfl, Below.refl _ _⟩
set_option maxHeartbeats 800000 in
theorem cyExcess_any (v : Value) (xs : List Int) (w : World) (h : RInts w v xs) (hd : degB xs = true) :
    Calls Try.prog 36 #[v] w fun e w' => e = .returned (.int .i64 (exc xs)) ∧ w = w' := by
  obtain ⟨A0, cap, rfl⟩ := h.shape
  have H := Lib.hid h
  have hn := (degB_of hd).1
  have HD := Lib.hid hd
  clear h hd
  go_enter Try.func36, Try.ntmps36
  go_wp2
  go_loop [3, 10] (fun r i => ∃ k : Nat, k ≤ xs.length ∧ i = .int .i64 (k : Int) ∧ ∃ S : Int, r = .int .i64 ((xs.length : Int) - S) ∧ S = sumT xs k) (fun _ i => xs.length - (intOf i).toNat)
  case atStart => exact ⟨0, by omega, rfl, 0, by go_num, (sumT_0 xs).symm⟩
  case round =>
    obtain ⟨k, hk, rfl, S, rfl, hS⟩ := hrel
    have hS1 := sumT_bd HD.out k hk
    rw [← hS] at hS1
    by_cases hlt : k < xs.length
    · obtain ⟨g, o, cc, hv, hg, hcells⟩ := H.out.cells (by omega)
      have hA : A0 = some ⟨g, o, none⟩ := by injection hv
      subst hA
      clear hv
      have e1 := hcells k hlt
      clear hcells
      have hx := (degB_of HD.out).2 k hlt
      have HS := Lib.hid (sumT_succ xs k hlt)
      rw [← hS] at HS
      generalize xs.getD k 0 = x at *
      clear hS
      go_wp2
      go_round
      case rel => exact ⟨k + 1, by omega, by go_num, S + x, by go_num, HS.out.symm⟩
      case measure => first | (simp [intOf]; done) | (simp [intOf]; omega)
    · have hk2 : k = xs.length := by omega
      have HE : Hid ((xs.length : Int) - S = exc xs) := by unfold Hid exc; rw [hS, hk2]
      clear hS
      go_wp2
      go_ret
      rw [HE.out]
      exact ⟨rfl, rfl⟩
def excV (xs : List Int) : Int := if degB xs then exc xs else 0
theorem specExcessOf_ret (v : Value) (xs : List Int) (w : World) (h : RInts w v xs) (hl : xs.length ≤ 1048576) :
    Calls Try.prog 10 #[v] w (Ret w (.tuple #[.int .i64 (excV xs), .bool (degB xs)])) := by
  have H := Lib.hid h
  clear h
  rcases Bool.eq_false_or_eq_true (degB xs) with hd | hd
  · have HD := Lib.hid hd
    have HG : Hid (∀ w, RInts w v xs → Calls Try.prog 33 #[v] w fun e w' => e = .returned (.bool true) ∧ w = w') := Lib.hid fun w h => by rw [← hd]; exact cyGood_any v xs w h hl
    unfold excV
    rw [hd, if_pos rfl]
    clear hd
    go_enter Try.func10, Try.ntmps10
    go_wp2_with (first | (go_at_call 33; refine (HG.out _ H.out).mono ?_; rintro e w' ⟨rfl, rfl⟩) | (go_at_call 36; refine (cyExcess_any _ xs _ H.out HD.out).mono ?_; rintro e w' ⟨rfl, rfl⟩))
    go_ret2
    exact ⟨rfl, Below.refl _ _⟩
  · have HG : Hid (∀ w, RInts w v xs → Calls Try.prog 33 #[v] w fun e w' => e = .returned (.bool false) ∧ w = w') := Lib.hid fun w h => by rw [← hd]; exact cyGood_any v xs w h hl
    unfold excV
    rw [hd, if_neg (by simp)]
    clear hd
    go_enter Try.func10, Try.ntmps10
    go_wp2_with (go_at_call 33; refine (HG.out _ H.out).mono ?_; rintro e w' ⟨rfl, rfl⟩)
    go_ret2
    exact ⟨rfl, Below.refl _ _⟩
set_option maxHeartbeats 1600000 in
theorem cyForest_any (v : Value) (xs : List Int) (w : World) (h : RInts w v xs) (hd : degB xs = true) :
    Calls Try.prog 34 #[v] w fun e w' => e = .returned (.bool (forB xs)) ∧ w = w' := by
  obtain ⟨A0, cap, rfl⟩ := h.shape
  have H := Lib.hid h
  have hn := (degB_of hd).1
  have HD := Lib.hid hd
  have hb := sumT_bd hd xs.length (Nat.le_refl _)
  have HX : Hid (∀ w, RInts w (.slice A0 xs.length cap) xs → Calls Try.prog 36 #[.slice A0 xs.length cap] w fun e w' => e = .returned (.int .i64 (exc xs)) ∧ w = w') := Lib.hid fun w h => cyExcess_any _ xs w h hd
  have hbd : -240 ≤ exc xs ∧ exc xs ≤ 16 := by unfold exc; omega
  have HLOW := Lib.hid (forB_low (xs := xs))
  have HNO := Lib.hid (fun k => forB_no (xs := xs) (k := k))
  have HYES := Lib.hid (forB_yes (xs := xs))
  have HST := Lib.hid (fun k => upB_step (xs := xs) (r := exc xs) (k := k))
  have H0 : Hid (upB xs (exc xs) 0 = true) := Lib.hid rfl
  clear h hd hb
  generalize exc xs = r at *
  generalize forB xs = R at *
  by_cases hr1 : r < 1
  · have e := HLOW.out hr1
    subst e
    clear HLOW HNO HYES HST
    go_enter Try.func34, Try.ntmps34
    go_wp2_with (go_at_call 36; refine (HX.out _ H.out).mono ?_; rintro e w' ⟨rfl, rfl⟩)
    go_ret
    exact ⟨rfl, rfl⟩
  · go_enter Try.func34, Try.ntmps34
    go_wp2_with (go_at_call 36; refine (HX.out _ H.out).mono ?_; rintro e w' ⟨rfl, rfl⟩)
    go_loop [4, 13] (fun t i => ∃ k : Nat, k ≤ xs.length ∧ i = .int .i64 (k : Int) ∧ ∃ T : Int, t = .int .i64 T ∧ T = sumT xs k - (k : Int) ∧ Hid (upB xs r k = true)) (fun _ i => xs.length - (intOf i).toNat)
    case atStart => exact ⟨0, by omega, rfl, 0, rfl, by rw [sumT_0]; rfl, H0⟩
    case round =>
      obtain ⟨k, hk, rfl, T, rfl, hT, HU⟩ := hrel
      have hT1 := sumT_bd HD.out k hk
      have hT2 : -16 ≤ T ∧ T ≤ 256 := by omega
      by_cases hlt : k < xs.length
      · obtain ⟨g, o, cc, hv, hg, hcells⟩ := H.out.cells (by omega)
        have hA : A0 = some ⟨g, o, none⟩ := by injection hv
        subst hA
        clear hv
        have e1 := hcells k hlt
        clear hcells
        have hx := (degB_of HD.out).2 k hlt
        have HS := Lib.hid (sumT_succ xs k hlt)
        have HN2 := Lib.hid (HNO.out k)
        have HS2 := Lib.hid (HST.out k HU.out)
        have HT3 : Hid (T + (xs.getD k 0 - 1) = sumT xs (k + 1) - ((k + 1 : Nat) : Int)) := by have := HS.out; unfold Hid; omega
        clear HNO HST HYES HLOW hT hT1 HS
        generalize xs.getD k 0 = x at *
        rw [← HT3.out] at HN2 HS2
        by_cases c1 : T + (x - 1) ≤ -r
        · by_cases c2 : k + 1 < xs.length
          · have HF := Lib.hid (HN2.out c1 c2)
            clear HN2 HS2 HU
            go_wp2
            go_ret
            exact ⟨ret_bool HF.out.symm, rfl⟩
          · have HU2 := Lib.hid (HS2.out (fun h => c2 h.2))
            clear HN2 HS2 HU
            go_wp2
            go_round
            case rel => exact ⟨k + 1, by omega, by go_num, T + (x - 1), by go_num, HT3.out, HU2⟩
            case measure => first | (simp [intOf]; done) | (simp [intOf]; omega)
        · have HU2 := Lib.hid (HS2.out (fun h => c1 h.1))
          clear HN2 HS2 HU
          go_wp2
          go_round
          case rel => exact ⟨k + 1, by omega, by go_num, T + (x - 1), by go_num, HT3.out, HU2⟩
          case measure => first | (simp [intOf]; done) | (simp [intOf]; omega)
      · have hk2 : k = xs.length := by omega
        have HE : Hid (R = true) := by
          have := HU.out
          rw [hk2] at this
          exact Lib.hid (HYES.out (by omega) this)
        clear HNO HST HYES HLOW hT hT1
        go_wp2
        go_ret
        exact ⟨ret_bool HE.out.symm, rfl⟩
def forV (xs : List Int) : Bool := degB xs && forB xs
end Go.Proofs.Ytmfcknlpbliehab
