/- Pack 28 of what FnExactOrderedOfRank needs: OrI, SOwn. -/
import Derived.Test.YtmfcknlpbliehaaKFnExactOrderedOfRank27
/- OrderedOfRank. -/
namespace Go.Proofs.Ytmfcknlpbliehaa
open Go.RowKit
set_option linter.unusedVariables false
/-- the votes of rank k of four numbers -/
def orL (a b c d k : Nat) : List Nat := uw (rr a b c d) (tot (rr a b c d)) (fun _ => 0) k
def orB (xs : List Int) (k : Int) : Bool := resB xs && (decide (0 ≤ k) && decide (k < coV xs))
def orV (xs : List Int) (k : Int) : ByteArray := if orB xs k = true then strOf (lett (orL (xs.getD 0 0).toNat (xs.getD 1 0).toNat (xs.getD 2 0).toNat (xs.getD 3 0).toNat k.toNat)) else ⟨#[]⟩
theorem coV_W {a b c d : Nat} (h1 : b ≤ a) (h2 : c ≤ b) (h3 : d ≤ c) (h : a + b + c + d ≤ 16) : (coV (q4 a b c d)).toNat = W (rr a b c d) (fun _ => 0) := hook_wy _ h1 h2 h3 h rfl
theorem coV_eq {a b c d : Nat} (h1 : b ≤ a) (h2 : c ≤ b) (h3 : d ≤ c) (h : a + b + c + d ≤ 16) : coV (q4 a b c d) = ((W (rr a b c d) (fun _ => 0) : Nat) : Int) := by
  rw [← coV_W h1 h2 h3 h, (resP_of h1 h2 h3 h).2.2.2.1]
  rfl
set_option maxRecDepth 100000 in
set_option maxHeartbeats 4000000 in
theorem orderedOfRank_ret (v : Value) (xs : List Int) (k : Int) (w : World) (h : RInts w v xs) (hl : xs.length ≤ 1048576) (hk : -9223372036854775808 ≤ k ∧ k ≤ 9223372036854775807) :
    Calls Try.prog 6 #[v, .int .i64 k] w (Ret w (.tuple #[.string (orV xs k), .bool (orB xs k)])) := by
  have hkk := hk.1
  have hkk2 := hk.2
  rcases Bool.eq_false_or_eq_true (resB xs) with hr | hr
  · obtain ⟨a, b, c, d, rfl, h1, h2, h3, h16⟩ := (resB_iff xs).1 hr
    have hcw := coV_eq h1 h2 h3 h16
    have HC : Hid (∀ w1, w1 = w → Calls Try.prog 15 #[v] w1 fun e w' => ∃ mb, e = .returned (.tuple #[.agg (rCells (rr a b c d) mb), .int .i64 (coV (q4 a b c d)), .bool true]) ∧ MapW w' mb (W (rr a b c d)) ∧ w1.heap.size ≤ mb ∧ Below w1.heap.size w1 w') := Lib.hid fun w1 e => by subst e; exact raceTo_yes v a b c d w1 h h1 h2 h3 h16
    have HV : Hid (∀ mb k0 w1, MapW w1 mb (W (rr a b c d)) → k0 < W (rr a b c d) (fun _ => 0) → Calls Try.prog 16 #[.agg (rCells (rr a b c d) mb), .int .i64 ((k0 : Nat) : Int)] w1 fun e w' => e = .returned (.string (strOf (lett (orL a b c d k0)))) ∧ MapW w' mb (W (rr a b c d)) ∧ w1.grownBy w' (some mb)) := Lib.hid fun mb k0 w1 hm hk0 => votesOfRank_any (rr a b c d) mb k0 w1 (rr_sm h1 h2 h3 h16) (rr_tot h16) hm hk0
    have hb : orB (q4 a b c d) k = (decide (0 ≤ k) && decide (k < coV (q4 a b c d))) := by
      unfold orB
      rw [show resB (q4 a b c d) = true from hr, Bool.true_and]
    have HX : Hid (orV (q4 a b c d) k = if orB (q4 a b c d) k = true then strOf (lett (orL a b c d k.toNat)) else ⟨#[]⟩) := Lib.hid rfl
    have HWB : Hid (W (rr a b c d) (fun _ => 0) ≤ 4294967296) := Lib.hid (W_bd (rr_tot h16))
    have hsh := h.shape
    show Calls _ _ _ _ (Ret w (.tuple #[.string (orV (q4 a b c d) k), .bool (orB (q4 a b c d) k)]))
    rw [HX.out, hb]
    rw [hcw] at HC ⊢
    clear HX hb hr h hcw hk
    generalize orL a b c d = L at *
    generalize rr a b c d = R at *
    obtain ⟨A, cc, rfl⟩ := hsh
    generalize hM : W R (fun _ => 0) = M at *
    unfold rCells at HC HV
    by_cases k0 : k < 0
    · have hd : (decide (0 ≤ k) && decide (k < (M : Int))) = false := by rw [decide_eq_false (by omega)]; rfl
      rw [hd]
      go_enter Try.func6, Try.ntmps6
      go_wp2_with (first | (go_at_call 15; refine (HC.out _ rfl).mono ?_; rintro e w1 ⟨mb, rfl, hm1, hmb1, hb1⟩))
      go_ret2
      exact ⟨rfl, hb1.alloc hb1.size _⟩
    · by_cases k1 : (M : Int) ≤ k
      · have hd : (decide (0 ≤ k) && decide (k < (M : Int))) = false := by rw [decide_eq_false (show ¬ k < (M : Int) by omega), Bool.and_false]
        rw [hd]
        have q0 : decide (k < 0) = false := decide_eq_false k0
        have q1 : decide ((M : Int) ≤ k) = true := decide_eq_true k1
        go_enter Try.func6, Try.ntmps6
        go_wp2_with (first | (go_at_call 15; refine (HC.out _ rfl).mono ?_; rintro e w1 ⟨mb, rfl, hm1, hmb1, hb1⟩))
        go_ret2
        exact ⟨rfl, hb1.alloc hb1.size _⟩
      · have hd : (decide (0 ≤ k) && decide (k < (M : Int))) = true := by rw [decide_eq_true (by omega), decide_eq_true (by omega)]; rfl
        rw [hd]
        have q0 : decide (k < 0) = false := decide_eq_false k0
        have q1 : decide ((M : Int) ≤ k) = false := decide_eq_false k1
        obtain ⟨k9, rfl⟩ : ∃ k9 : Nat, k = (k9 : Int) := ⟨k.toNat, by omega⟩
        have HK9 : Hid (k9 < M) := Lib.hid (by omega)
        rw [if_pos rfl, Int.toNat_natCast]
        go_enter Try.func6, Try.ntmps6
        go_wp2_with (first | (go_at_call 15; refine (HC.out _ rfl).mono ?_; rintro e w1 ⟨mb, rfl, hm1, hmb1, hb1⟩) | (go_at_call 16; refine (HV.out mb k9 _ (hm1.below ((Below.refl _ _).alloc (Nat.le_refl _) _)) HK9.out).mono ?_; rintro e w2 ⟨rfl, hm2, hg2⟩))
        go_ret2
        exact ⟨rfl, (hb1.alloc hb1.size _).grown hg2 (by have := hb1.size; simp; omega) (fun j hj => by injection hj with e; omega)⟩
  · have hob : orB xs k = false := by unfold orB; rw [hr]; rfl
    have hov : orV xs k = ⟨#[]⟩ := by unfold orV; rw [hob]; rfl
    have HC : Hid (∀ w1, w1 = w → Calls Try.prog 15 #[v] w1 fun e w' => e = .returned (.tuple #[.agg #[.int .i64 0, .int .i64 0, .int .i64 0, .int .i64 0, .map none], .int .i64 0, .bool false]) ∧ Below w1.heap.size w1 w') := Lib.hid fun w1 e => by subst e; exact raceTo_no v xs w1 h hl hr
    rw [hob, hov]
    obtain ⟨A, cc, rfl⟩ := h.shape
    clear h hr hob hov hk
    go_enter Try.func6, Try.ntmps6
    go_wp2_with (first | (go_at_call 15; refine (HC.out _ rfl).mono ?_; rintro e w1 ⟨rfl, hb1⟩))
    go_ret2
    exact ⟨rfl, hb1.alloc hb1.size _⟩
end Go.Proofs.Ytmfcknlpbliehaa

/- Words for memory: a slice of strings that the call owns. -/
namespace Go.Proofs.Ytmfcknlpbliehaa
open Go.RowKit
theorem strInfo : (Try.prog.info? 9).map (fun i => (i.zero, i.size, i.bytes)) = some (some (.string ⟨#[]⟩), 1, 16) := by kernel_rfl
/-- the slice value v owns the strings xs, in a block from B on -/
def SRow (w : World) (B : Nat) (v : Value) (xs : List ByteArray) : Prop := w.ownsRow B 9 1 v xs.length (xs.map Value.string)
section
variable {w w' : World} {B : Nat} {v : Value} {xs : List ByteArray}
theorem SRow.nil (w : World) (B : Nat) : SRow w B (.slice none 0 0) [] := World.ownsRow_nil _ _ _ _
theorem SRow.mono (h : SRow w B v xs) {B' : Nat} (hb : B' ≤ B) : SRow w B' v xs := by
  refine ⟨h.1, ?_⟩
  rcases h.2 with h2 | ⟨g, cap, cur, hv, hg, r⟩
  · exact .inl h2
  · exact .inr ⟨g, cap, cur, hv, Nat.le_trans hb hg, r⟩
theorem SRow.alloc (h : SRow w B v xs) (o : Obj) : SRow (w.alloc o) B v xs := World.ownsRow.alloc h o
theorem SRow.drew (h : SRow w B v xs) : SRow w.drew B v xs := h
theorem SRow.drewN (h : SRow w B v xs) (n : Nat) : SRow (w.drewN n) B v xs := h
/-- what is owned stays owned in a world in which nothing below its heap has turned -/
theorem SRow.below (h : SRow w B v xs) (hb : Below w.heap.size w w') : SRow w' B v xs :=
  World.ownsRow.kept (row := none) h ⟨hb.os, hb.tape, hb.output, hb.size, fun k hk _ => hb.block k hk⟩ (by cases v.ownBlock <;> simp)
/-- a row that is not empty has a head -/
theorem SRow.form (h : SRow w B v xs) (hx : 0 < xs.length) : ∃ g c, v = .slice (some ⟨g, 0, none⟩) xs.length c ∧ B ≤ g ∧ g < w.heap.size ∧ xs.length ≤ c ∧ c ≤ maxLen := by
  rcases h.2 with ⟨_, h0⟩ | ⟨g, cap, cur, hv, hg, hh, hc, hm, _⟩
  · omega
  · exact ⟨g, cap, hv, hg, (Array.getElem?_eq_some_iff.1 hh).1, hc, hm⟩
theorem SRow.shape (h : SRow w B v xs) : ∃ A c, v = .slice A xs.length c := by
  rcases h.2 with ⟨h1, h0⟩ | ⟨g, cap, cur, hv, _⟩
  · exact ⟨none, 0, by rw [h1, h0]⟩
  · exact ⟨_, cap, hv⟩
theorem SRow.form' {n : Nat} (h : SRow w B v xs) (hn : xs.length = n) (hx : 0 < n) : ∃ g c, v = .slice (some ⟨g, 0, none⟩) n c ∧ B ≤ g ∧ g < w.heap.size := by
  subst hn
  obtain ⟨g, c, h1, h2, h3, _⟩ := h.form hx
  exact ⟨g, c, h1, h2, h3⟩
theorem SRow.cell {g c n : Nat} (h : SRow w B (.slice (some ⟨g, 0, none⟩) n c) xs) {j : Nat} (hj : j < xs.length) : w.cell? ⟨g, j, none⟩ = some (.string (xs.getD j ByteArray.empty)) := by
  have hn : n = xs.length := by
    rcases h.2 with ⟨h0, _⟩ | ⟨g', cap, cur, hv, _⟩
    · simp at h0
    · simp at hv; exact hv.2.1
  subst hn
  rw [World.ownsRow.cellAt h j (by omega)]
  simp [hj]
theorem SRow.free {g c n : Nat} (h : SRow w B (.slice (some ⟨g, 0, none⟩) n c) xs) (j : Nat) : w.frozen? ⟨g, j, none⟩ = false := by
  have hn : n = xs.length := by
    rcases h.2 with ⟨h0, _⟩ | ⟨g', cap, cur, hv, _⟩
    · simp at h0
    · simp at hv; exact hv.2.1
  subst hn
  exact World.ownsRow.frozenAt h j
theorem SRow.set {g c n : Nat} (h : SRow w B (.slice (some ⟨g, 0, none⟩) n c) xs) (j : Nat) (u : ByteArray) :
    SRow (w.setCell ⟨g, j, none⟩ (.string u)) B (.slice (some ⟨g, 0, none⟩) n c) (xs.set j u) ∧ w.grownBy (w.setCell ⟨g, j, none⟩ (.string u)) (some g) := by
  have hn : n = xs.length := by
    rcases h.2 with ⟨h0, _⟩ | ⟨g', cap, cur, hv, _⟩
    · simp at h0
    · simp at hv; exact hv.2.1
  subst hn
  have := World.ownsRow.stored h j (.string u)
  refine ⟨?_, this.2⟩
  have h1 := this.1
  unfold SRow
  rw [List.length_set, List.map_set]
  exact h1
theorem SRow.lt {g c n : Nat} (h : SRow w B (.slice (some ⟨g, 0, none⟩) n c) xs) : B ≤ g ∧ g < w.heap.size := World.ownsRow.lt h g rfl
theorem SRow.of_own {n : Nat} {ys : List Value} (h : w.ownsRow B 9 1 v n ys) (hn : n = xs.length) (hy : ys = xs.map Value.string) : SRow w B v xs := by subst hn hy; exact h
end

/-- A call that hands back a slice of strings of its own and a bool. -/
def StrsRet (w : World) (ok : Bool) (xs : List ByteArray) (e : Ending) (w' : World) : Prop :=
  ∃ v, e = .returned (.tuple #[v, .bool ok]) ∧ SRow w' w.heap.size v xs ∧ Below w.heap.size w w'
/-- two rows: the one below, the other new -/
theorem SRow.grown_other {w w' : World} {B B2 : Nat} {v v2 : Value} {xs : List ByteArray} (h : SRow w B v xs) (hg : w.grownBy w' v2.ownBlock) (hv : ∀ k, v.ownBlock = some k → k < B2) (hv2 : ∀ k, v2.ownBlock = some k → B2 ≤ k) : SRow w' B v xs :=
  World.ownsRow.kept h hg (by
    cases e : v.ownBlock with
    | none => exact .inl rfl
    | some k =>
      right
      intro e2
      have a := hv k e
      have b := hv2 k e2.symm
      omega)
theorem SRow.blk {w : World} {B : Nat} {v : Value} {xs : List ByteArray} (h : SRow w B v xs) : ∀ k, v.ownBlock = some k → B ≤ k ∧ k < w.heap.size := World.ownsRow.lt h
end Go.Proofs.Ytmfcknlpbliehaa
