/- Pack 19 of what FnExactRankOrdered needs: SOwn, VoS2. -/
import Derived.Test.YtmfcknlpbliehaaDoorKFnExactRankOrdered18
/- Words for memory: a slice of strings that the call owns. -/
namespace Go.Proofs.YtmfcknlpbliehaaDoor
open Go.RowKit
theorem strInfo : (Tryd.prog.info? 9).map (fun i => (i.zero, i.size, i.bytes)) = some (some (.string ⟨#[]⟩), 1, 16) := by kernel_rfl
/-- the slice value v owns the strings xs, in a block from B on -/
def SRow (w : World) (B : Nat) (v : Value) (xs : List ByteArray) : Prop := w.ownsRow B 9 1 v xs.length (xs.map Value.string)
section
variable {w w' : World} {B : Nat} {v : Value} {xs : List ByteArray}
theorem SRow.nil (w : World) (B : Nat) : SRow w B (.slice none 0 0) [] := World.ownsRow_nil _ _ _ _
theorem SRow.mono (h : SRow w B v xs) {B' : Nat} (hb : B' ≤ B) : SRow w B' v xs := by
  refine ⟨h.1, ?_⟩
  rcases h.2 with h2 | ⟨g, cap, cur, hv, hg, r⟩
  · exact .inl h2
  · exact .inr ⟨g, cap, cur, hv, Nat.le_trans hb hg, r⟩
theorem SRow.alloc (h : SRow w B v xs) (o : Obj) : SRow (w.alloc o) B v xs := World.ownsRow.alloc h o
theorem SRow.drew (h : SRow w B v xs) : SRow w.drew B v xs := h
theorem SRow.drewN (h : SRow w B v xs) (n : Nat) : SRow (w.drewN n) B v xs := h
/-- what is owned stays owned in a world in which nothing below its heap has turned -/
theorem SRow.below (h : SRow w B v xs) (hb : Below w.heap.size w w') : SRow w' B v xs :=
  World.ownsRow.kept (row := none) h ⟨hb.os, hb.tape, hb.output, hb.size, fun k hk _ => hb.block k hk⟩ (by cases v.ownBlock <;> simp)
/-- a row that is not empty has a head -/
theorem SRow.form (h : SRow w B v xs) (hx : 0 < xs.length) : ∃ g c, v = .slice (some ⟨g, 0, none⟩) xs.length c ∧ B ≤ g ∧ g < w.heap.size ∧ xs.length ≤ c ∧ c ≤ maxLen := by
  rcases h.2 with ⟨_, h0⟩ | ⟨g, cap, cur, hv, hg, hh, hc, hm, _⟩
  · omega
  · exact ⟨g, cap, hv, hg, (Array.getElem?_eq_some_iff.1 hh).1, hc, hm⟩
theorem SRow.shape (h : SRow w B v xs) : ∃ A c, v = .slice A xs.length c := by
  rcases h.2 with ⟨h1, h0⟩ | ⟨g, cap, cur, hv, _⟩
  · exact ⟨none, 0, by rw [h1, h0]⟩
  · exact ⟨_, cap, hv⟩
theorem SRow.form' {n : Nat} (h : SRow w B v xs) (hn : xs.length = n) (hx : 0 < n) : ∃ g c, v = .slice (some ⟨g, 0, none⟩) n c ∧ B ≤ g ∧ g < w.heap.size := by
  subst hn
  obtain ⟨g, c, h1, h2, h3, _⟩ := h.form hx
  exact ⟨g, c, h1, h2, h3⟩
theorem SRow.cell {g c n : Nat} (h : SRow w B (.slice (some ⟨g, 0, none⟩) n c) xs) {j : Nat} (hj : j < xs.length) : w.cell? ⟨g, j, none⟩ = some (.string (xs.getD j ByteArray.empty)) := by
  have hn : n = xs.length := by
    rcases h.2 with ⟨h0, _⟩ | ⟨g', cap, cur, hv, _⟩
    · simp at h0
    · simp at hv; exact hv.2.1
  subst hn
  rw [World.ownsRow.cellAt h j (by omega)]
  simp [hj]
theorem SRow.free {g c n : Nat} (h : SRow w B (.slice (some ⟨g, 0, none⟩) n c) xs) (j : Nat) : w.frozen? ⟨g, j, none⟩ = false := by
  have hn : n = xs.length := by
    rcases h.2 with ⟨h0, _⟩ | ⟨g', cap, cur, hv, _⟩
    · simp at h0
    · simp at hv; exact hv.2.1
  subst hn
  exact World.ownsRow.frozenAt h j
theorem SRow.set {g c n : Nat} (h : SRow w B (.slice (some ⟨g, 0, none⟩) n c) xs) (j : Nat) (u : ByteArray) :
    SRow (w.setCell ⟨g, j, none⟩ (.string u)) B (.slice (some ⟨g, 0, none⟩) n c) (xs.set j u) ∧ w.grownBy (w.setCell ⟨g, j, none⟩ (.string u)) (some g) := by
  have hn : n = xs.length := by
    rcases h.2 with ⟨h0, _⟩ | ⟨g', cap, cur, hv, _⟩
    · simp at h0
    · simp at hv; exact hv.2.1
  subst hn
  have := World.ownsRow.stored h j (.string u)
  refine ⟨?_, this.2⟩
  have h1 := this.1
  unfold SRow
  rw [List.length_set, List.map_set]
  exact h1
theorem SRow.lt {g c n : Nat} (h : SRow w B (.slice (some ⟨g, 0, none⟩) n c) xs) : B ≤ g ∧ g < w.heap.size := World.ownsRow.lt h g rfl
theorem SRow.of_own {n : Nat} {ys : List Value} (h : w.ownsRow B 9 1 v n ys) (hn : n = xs.length) (hy : ys = xs.map Value.string) : SRow w B v xs := by subst hn hy; exact h
end

/-- A call that hands back a slice of strings of its own and a bool. -/
def StrsRet (w : World) (ok : Bool) (xs : List ByteArray) (e : Ending) (w' : World) : Prop :=
  ∃ v, e = .returned (.tuple #[v, .bool ok]) ∧ SRow w' w.heap.size v xs ∧ Below w.heap.size w w'
/-- two rows: the one below, the other new -/
theorem SRow.grown_other {w w' : World} {B B2 : Nat} {v v2 : Value} {xs : List ByteArray} (h : SRow w B v xs) (hg : w.grownBy w' v2.ownBlock) (hv : ∀ k, v.ownBlock = some k → k < B2) (hv2 : ∀ k, v2.ownBlock = some k → B2 ≤ k) : SRow w' B v xs :=
  World.ownsRow.kept h hg (by
    cases e : v.ownBlock with
    | none => exact .inl rfl
    | some k =>
      right
      intro e2
      have a := hv k e
      have b := hv2 k e2.symm
      omega)
theorem SRow.blk {w : World} {B : Nat} {v : Value} {xs : List ByteArray} (h : SRow w B v xs) : ∀ k, v.ownBlock = some k → B ≤ k ∧ k < w.heap.size := World.ownsRow.lt h
end Go.Proofs.YtmfcknlpbliehaaDoor

/- The model: winners, first overtaken. -/
namespace Go.Proofs.YtmfcknlpbliehaaDoor
open Go.RowKit
set_option linter.unusedVariables false
theorem abcd_at (k : Nat) (h : k < 4) : (⟨#[97, 98, 99, 100]⟩ : ByteArray).extract k (k + 1) = ⟨#[UInt8.ofNat (97 + k)]⟩ := by
  have : k = 0 ∨ k = 1 ∨ k = 2 ∨ k = 3 := by omega
  rcases this with e | e | e | e <;> subst e <;> rfl
theorem wi_yes {xs : List Int} {m : Int} {k : Nat} (h : (xs.getD k 0 == m) = true) : wiTo xs m (k + 1) = wiTo xs m k ++ ⟨#[UInt8.ofNat (97 + k)]⟩ := by rw [wiTo, if_pos (by simpa using h)]
theorem wi_no {xs : List Int} {m : Int} {k : Nat} (h : (xs.getD k 0 == m) = false) : wiTo xs m (k + 1) = wiTo xs m k := by rw [wiTo, if_neg (by simpa using h)]
def foI (s : ByteArray) : Int := if foTo s s.size = 0 then -1 else ((foTo s s.size : Nat) : Int)
theorem fa_f4 (s : ByteArray) (k : Nat) : f4 ((vc s 0 k : Nat) : Int) ((vc s 1 k : Nat) : Int) ((vc s 2 k : Nat) : Int) ((vc s 3 k : Nat) : Int) = faB s k := by
  unfold f4 faB
  simp
set_option maxRecDepth 100000 in
set_option maxHeartbeats 1600000 in
theorem voFirst_any (s : ByteArray) (w : World) (hv : votB s = true) : Calls Tryd.prog 13 #[.string s] w (Ret w (.int .i64 (foI s))) := by
  have h16 := ((votB_iff s).1 hv).1
  have HCN : Hid (∀ (k : Nat) (w : World), k ≤ s.size → Calls Tryd.prog 14 #[.string (s.extract 0 k)] w fun e w' => ∃ v, e = .returned v ∧ RInts w' v [((vc s 0 k : Nat) : Int), ((vc s 1 k : Nat) : Int), ((vc s 2 k : Nat) : Int), ((vc s 3 k : Nat) : Int)] ∧ Below w.heap.size w w') := Lib.hid fun k w hk => by
    refine (voCounts_any (s.extract 0 k) w (votB_pre hv hk)).mono ?_
    rintro e w' ⟨v, he, hr, hb⟩
    rw [pre_size s k hk, vcL_pre s k k (Nat.le_refl _)] at hr
    exact ⟨v, he, RInts.of_row hr, hb⟩
  have HFL : Hid (∀ (k : Nat) (v : Value) (w : World), RInts w v [((vc s 0 k : Nat) : Int), ((vc s 1 k : Nat) : Int), ((vc s 2 k : Nat) : Int), ((vc s 3 k : Nat) : Int)] → Calls Tryd.prog 29 #[v] w fun e w' => e = .returned (.bool (faB s k)) ∧ Below w.heap.size w w') := Lib.hid fun k v w h => by
    have := voFalls_any v _ _ _ _ w h
    rwa [fa_f4] at this
  have HI : Hid (∀ k, foTo s k = 0 → k = s.size → foI s = -1) := Lib.hid fun k h e => by unfold foI; rw [← e, if_pos h]
  have HJ : Hid (∀ k, foTo s k = 0 → k < s.size → faB s (k + 1) = false → foI s = (k : Int) + 1) := Lib.hid fun k h hk hf => by
    have h1 := fo_no h hf
    have h2 := fo_stay (n := s.size) (k := k + 1) (show ¬ foTo s (k + 1) = 0 by omega) s.size (by omega)
    unfold foI
    rw [if_neg (by omega), h2, h1]
    omega
  have HY : Hid (∀ k, foTo s k = 0 → faB s (k + 1) = true → foTo s (k + 1) = 0) := Lib.hid fun k h hf => fo_yes h hf
  generalize foI s = F at *
  clear hv
  go_enter Tryd.func13, Tryd.ntmps13
  go_wp2
  go_loopw [3] (fun i wr => ∃ k : Nat, k ≤ s.size ∧ i = .int .i64 ((k : Int) + 1) ∧ Hid (foTo s k = 0) ∧ Below w.heap.size w wr) (fun i _ => s.size + 1 - (intOf i).toNat)
  case atStart => exact ⟨0, Nat.zero_le _, rfl, Lib.hid rfl, Below.refl _ _⟩
  case round =>
    obtain ⟨k, hk, rfl, HF, hb⟩ := hrel
    by_cases hlt : k < s.size
    · have hsz := hb.size
      have HCK := Lib.hid (fun w => HCN.out (k + 1) w (by omega))
      have HFK := Lib.hid (fun v w => HFL.out (k + 1) v w)
      have i1 : (k : Int) + 1 ≤ (s.size : Int) := by omega
      have HJ1 := Lib.hid (HJ.out k HF.out hlt)
      have HY1 := Lib.hid (HY.out k HF.out)
      clear HCN HFL HI HJ HY
      generalize faB s (k + 1) = fb at *
      cases fb with
      | true =>
        have HY2 := Lib.hid (HY1.out rfl)
        go_wp2_with (first | (go_at_call 14; refine (HCK.out _).mono ?_; rintro e w1 ⟨v, rfl, hr, hb1⟩; have HR := Lib.hid hr; have HB1 := Lib.hid (hb.trans (hb1.mono hsz)); clear hr) | (go_at_call 29; refine (HFK.out _ _ HR.out).mono ?_; rintro e w2 ⟨rfl, hb2⟩; have HB2 := Lib.hid (HB1.out.trans (hb2.mono HB1.out.size))))
        go_roundw
        case rel => exact ⟨k + 1, by omega, by go_num, HY2, HB2.out⟩
        case measure => first | (simp [intOf]; done) | (simp [intOf]; omega)
      | false =>
        have HJ2 := Lib.hid (HJ1.out rfl)
        go_wp2_with (first | (go_at_call 14; refine (HCK.out _).mono ?_; rintro e w1 ⟨v, rfl, hr, hb1⟩; have HR := Lib.hid hr; have HB1 := Lib.hid (hb.trans (hb1.mono hsz)); clear hr) | (go_at_call 29; refine (HFK.out _ _ HR.out).mono ?_; rintro e w2 ⟨rfl, hb2⟩; have HB2 := Lib.hid (HB1.out.trans (hb2.mono HB1.out.size))))
        go_ret
        exact ⟨by rw [HJ2.out]; rfl, HB2.out⟩
    · have i1 : ¬ (k : Int) + 1 ≤ (s.size : Int) := by omega
      have HI2 := Lib.hid (HI.out k HF.out (by omega))
      go_wp2
      go_ret
      exact ⟨by rw [HI2.out]; rfl, hb⟩
end Go.Proofs.YtmfcknlpbliehaaDoor
