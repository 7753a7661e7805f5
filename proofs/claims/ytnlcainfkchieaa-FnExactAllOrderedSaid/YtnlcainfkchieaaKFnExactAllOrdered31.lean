/- Pack 31 of what FnExactAllOrdered needs: OrI, AoI. -/
import Derived.Test.YtnlcainfkchieaaKFnExactAllOrdered30
/- OrderedOfRank. -/
namespace Go.Proofs.Ytnlcainfkchieaa
open Go.RowKit
set_option linter.unusedVariables false
/-- the votes of rank k of four numbers -/
def orL (a b c d k : Nat) : List Nat := uw (rr a b c d) (tot (rr a b c d)) (fun _ => 0) k
def orB (xs : List Int) (k : Int) : Bool := resB xs && (decide (0 ≤ k) && decide (k < coV xs))
def orV (xs : List Int) (k : Int) : ByteArray := if orB xs k = true then strOf (lett (orL (xs.getD 0 0).toNat (xs.getD 1 0).toNat (xs.getD 2 0).toNat (xs.getD 3 0).toNat k.toNat)) else ⟨#[]⟩
theorem coV_W {a b c d : Nat} (h1 : b ≤ a) (h2 : c ≤ b) (h3 : d ≤ c) (h : a + b + c + d ≤ 16) : (coV (q4 a b c d)).toNat = W (rr a b c d) (fun _ => 0) := hook_wy _ h1 h2 h3 h rfl
theorem coV_eq {a b c d : Nat} (h1 : b ≤ a) (h2 : c ≤ b) (h3 : d ≤ c) (h : a + b + c + d ≤ 16) : coV (q4 a b c d) = ((W (rr a b c d) (fun _ => 0) : Nat) : Int) := by
  rw [← coV_W h1 h2 h3 h, (resP_of h1 h2 h3 h).2.2.2.1]
  rfl
set_option maxRecDepth 100000 in
set_option maxHeartbeats 4000000 in
theorem orderedOfRank_ret (v : Value) (xs : List Int) (k : Int) (w : World) (h : RInts w v xs) (hl : xs.length ≤ 1048576) (hk : -9223372036854775808 ≤ k ∧ k ≤ 9223372036854775807) :
    Calls Try.prog 33 #[v, .int .i64 k] w (Ret w (.tuple #[.string (orV xs k), .bool (orB xs k)])) := by
  have hkk := hk.1
  have hkk2 := hk.2
  rcases Bool.eq_false_or_eq_true (resB xs) with hr | hr
  · obtain ⟨a, b, c, d, rfl, h1, h2, h3, h16⟩ := (resB_iff xs).1 hr
    have hcw := coV_eq h1 h2 h3 h16
    have HC : Hid (∀ w1, w1 = w → Calls Try.prog 51 #[v] w1 fun e w' => ∃ mb, e = .returned (.tuple #[.agg (rCells (rr a b c d) mb), .int .i64 (coV (q4 a b c d)), .bool true]) ∧ MapW w' mb (W (rr a b c d)) ∧ w1.heap.size ≤ mb ∧ Below w1.heap.size w1 w') := Lib.hid fun w1 e => by subst e; exact raceTo_yes v a b c d w1 h h1 h2 h3 h16
    have HV : Hid (∀ mb k0 w1, MapW w1 mb (W (rr a b c d)) → k0 < W (rr a b c d) (fun _ => 0) → Calls Try.prog 52 #[.agg (rCells (rr a b c d) mb), .int .i64 ((k0 : Nat) : Int)] w1 fun e w' => e = .returned (.string (strOf (lett (orL a b c d k0)))) ∧ MapW w' mb (W (rr a b c d)) ∧ w1.grownBy w' (some mb)) := Lib.hid fun mb k0 w1 hm hk0 => votesOfRank_any (rr a b c d) mb k0 w1 (rr_sm h1 h2 h3 h16) (rr_tot h16) hm hk0
    have hb : orB (q4 a b c d) k = (decide (0 ≤ k) && decide (k < coV (q4 a b c d))) := by
      unfold orB
      rw [show resB (q4 a b c d) = true from hr, Bool.true_and]
    have HX : Hid (orV (q4 a b c d) k = if orB (q4 a b c d) k = true then strOf (lett (orL a b c d k.toNat)) else ⟨#[]⟩) := Lib.hid rfl
    have HWB : Hid (W (rr a b c d) (fun _ => 0) ≤ 4294967296) := Lib.hid (W_bd (rr_tot h16))
    have hsh := h.shape
    show Calls _ _ _ _ (Ret w (.tuple #[.string (orV (q4 a b c d) k), .bool (orB (q4 a b c d) k)]))
    rw [HX.out, hb]
    rw [hcw] at HC ⊢
    clear HX hb hr h hcw hk
    generalize orL a b c d = L at *
    generalize rr a b c d = R at *
    obtain ⟨A, cc, rfl⟩ := hsh
    generalize hM : W R (fun _ => 0) = M at *
    unfold rCells at HC HV
    by_cases k0 : k < 0
    · have hd : (decide (0 ≤ k) && decide (k < (M : Int))) = false := by rw [decide_eq_false (by omega)]; rfl
      rw [hd]
      go_enter Try.func33, Try.ntmps33
      go_wp2_with (first | (go_at_call 51; refine (HC.out _ rfl).mono ?_; rintro e w1 ⟨mb, rfl, hm1, hmb1, hb1⟩))
      go_ret2
      exact ⟨rfl, hb1.alloc hb1.size _⟩
    · by_cases k1 : (M : Int) ≤ k
      · have hd : (decide (0 ≤ k) && decide (k < (M : Int))) = false := by rw [decide_eq_false (show ¬ k < (M : Int) by omega), Bool.and_false]
        rw [hd]
        have q0 : decide (k < 0) = false := decide_eq_false k0
        have q1 : decide ((M : Int) ≤ k) = true := decide_eq_true k1
        go_enter Try.func33, Try.ntmps33
        go_wp2_with (first | (go_at_call 51; refine (HC.out _ rfl).mono ?_; rintro e w1 ⟨mb, rfl, hm1, hmb1, hb1⟩))
        go_ret2
        exact ⟨rfl, hb1.alloc hb1.size _⟩
      · have hd : (decide (0 ≤ k) && decide (k < (M : Int))) = true := by rw [decide_eq_true (by omega), decide_eq_true (by omega)]; rfl
        rw [hd]
        have q0 : decide (k < 0) = false := decide_eq_false k0
        have q1 : decide ((M : Int) ≤ k) = false := decide_eq_false k1
        obtain ⟨k9, rfl⟩ : ∃ k9 : Nat, k = (k9 : Int) := ⟨k.toNat, by omega⟩
        have HK9 : Hid (k9 < M) := Lib.hid (by omega)
        rw [if_pos rfl, Int.toNat_natCast]
        go_enter Try.func33, Try.ntmps33
        go_wp2_with (first | (go_at_call 51; refine (HC.out _ rfl).mono ?_; rintro e w1 ⟨mb, rfl, hm1, hmb1, hb1⟩) | (go_at_call 52; refine (HV.out mb k9 _ (hm1.below ((Below.refl _ _).alloc (Nat.le_refl _) _)) HK9.out).mono ?_; rintro e w2 ⟨rfl, hm2, hg2⟩))
        go_ret2
        exact ⟨rfl, (hb1.alloc hb1.size _).grown hg2 (by have := hb1.size; simp; omega) (fun j hj => by injection hj with e; omega)⟩
  · have hob : orB xs k = false := by unfold orB; rw [hr]; rfl
    have hov : orV xs k = ⟨#[]⟩ := by unfold orV; rw [hob]; rfl
    have HC : Hid (∀ w1, w1 = w → Calls Try.prog 51 #[v] w1 fun e w' => e = .returned (.tuple #[.agg #[.int .i64 0, .int .i64 0, .int .i64 0, .int .i64 0, .map none], .int .i64 0, .bool false]) ∧ Below w1.heap.size w1 w') := Lib.hid fun w1 e => by subst e; exact raceTo_no v xs w1 h hl hr
    rw [hob, hov]
    obtain ⟨A, cc, rfl⟩ := h.shape
    clear h hr hob hov hk
    go_enter Try.func33, Try.ntmps33
    go_wp2_with (first | (go_at_call 51; refine (HC.out _ rfl).mono ?_; rintro e w1 ⟨rfl, hb1⟩))
    go_ret2
    exact ⟨rfl, hb1.alloc hb1.size _⟩
end Go.Proofs.Ytnlcainfkchieaa

/- AllOrdered: the program. -/
namespace Go.Proofs.Ytnlcainfkchieaa
open Go.RowKit
set_option linter.unusedVariables false
/-- all votes of the ranks below n -/
def aoL (a b c d n : Nat) : List ByteArray := (List.range n).map fun k => strOf (lett (orL a b c d k))
def aoB (xs : List Int) : Bool := resB xs && decide (coV xs ≤ 300)
def aoV (xs : List Int) : List ByteArray := if aoB xs = true then aoL (xs.getD 0 0).toNat (xs.getD 1 0).toNat (xs.getD 2 0).toNat (xs.getD 3 0).toNat (coV xs).toNat else []
theorem SRow.map9 {W9 W8 : World} {mb B : Nat} {v : Value} {xs : List ByteArray} (h : SRow W9 B v xs) (hg : W9.grownBy W8 (some mb)) (hm : mb < B) : SRow W8 B v xs :=
  World.ownsRow.kept h hg (by
    cases e : v.ownBlock with
    | none => exact .inl rfl
    | some k => exact .inr (fun he => by injection he with he; have := (h.blk k e).1; omega))
theorem aoL_len (a b c d n : Nat) : (aoL a b c d n).length = n := by simp [aoL]
theorem aoL_succ (a b c d n : Nat) : aoL a b c d (n + 1) = aoL a b c d n ++ [strOf (lett (orL a b c d n))] := by
  unfold aoL
  rw [List.range_succ, List.map_append]
  rfl
theorem aoV_len (xs : List Int) : (aoV xs).length ≤ 300 := by
  unfold aoV
  split
  · rename_i h
    unfold aoB at h
    simp only [Bool.and_eq_true, decide_eq_true_eq] at h
    rw [aoL_len]
    omega
  · simp
set_option maxRecDepth 100000 in
set_option maxHeartbeats 4000000 in
theorem allOrdered_ret (v : Value) (xs : List Int) (w : World) (h : RInts w v xs) (hl : xs.length ≤ 1048576) :
    Calls Try.prog 28 #[v] w (StrsRet w (aoB xs) (aoV xs)) := by
  rcases Bool.eq_false_or_eq_true (resB xs) with hr | hr
  · obtain ⟨a, b, c, d, rfl, h1, h2, h3, h16⟩ := (resB_iff xs).1 hr
    have hcw := coV_eq h1 h2 h3 h16
    have HC : Hid (∀ w1, w1 = w → Calls Try.prog 51 #[v] w1 fun e w' => ∃ mb, e = .returned (.tuple #[.agg (rCells (rr a b c d) mb), .int .i64 (coV (q4 a b c d)), .bool true]) ∧ MapW w' mb (W (rr a b c d)) ∧ w1.heap.size ≤ mb ∧ Below w1.heap.size w1 w') := Lib.hid fun w1 e => by subst e; exact raceTo_yes v a b c d w1 h h1 h2 h3 h16
    have HV : Hid (∀ mb k0 w1, MapW w1 mb (W (rr a b c d)) → k0 < W (rr a b c d) (fun _ => 0) → Calls Try.prog 52 #[.agg (rCells (rr a b c d) mb), .int .i64 ((k0 : Nat) : Int)] w1 fun e w' => e = .returned (.string (strOf (lett (orL a b c d k0)))) ∧ MapW w' mb (W (rr a b c d)) ∧ w1.grownBy w' (some mb)) := Lib.hid fun mb k0 w1 hm hk0 => votesOfRank_any (rr a b c d) mb k0 w1 (rr_sm h1 h2 h3 h16) (rr_tot h16) hm hk0
    have hb : aoB (q4 a b c d) = decide (coV (q4 a b c d) ≤ 300) := by
      unfold aoB
      rw [show resB (q4 a b c d) = true from hr, Bool.true_and]
    have HX : Hid (aoV (q4 a b c d) = if aoB (q4 a b c d) = true then aoL a b c d (coV (q4 a b c d)).toNat else []) := Lib.hid rfl
    have hsh := h.shape
    show Calls _ _ _ _ (StrsRet w (aoB (q4 a b c d)) (aoV (q4 a b c d)))
    rw [HX.out, hb]
    rw [hcw] at HC ⊢
    rw [Int.toNat_natCast]
    clear HX hb hr h hcw
    have HL1 := Lib.hid (aoL_succ a b c d)
    have HLL := Lib.hid (aoL_len a b c d)
    have HL0 : Hid (aoL a b c d 0 = []) := Lib.hid rfl
    generalize aoL a b c d = F at *
    generalize orL a b c d = L at *
    generalize rr a b c d = R at *
    obtain ⟨A, cc, rfl⟩ := hsh
    generalize hM : W R (fun _ => 0) = M at *
    unfold rCells at HC HV
    by_cases k1 : (300 : Int) < (M : Int)
    · have hd : decide ((M : Int) ≤ 300) = false := decide_eq_false (by omega)
      rw [hd]
      have q1 : decide ((300 : Int) < (M : Int)) = true := decide_eq_true k1
      go_enter Try.func28, Try.ntmps28
      go_wp2_with (first | (go_at_call 51; refine (HC.out _ rfl).mono ?_; rintro e w1 ⟨mb, rfl, hm1, hmb1, hb1⟩))
      go_ret2
      exact ⟨_, rfl, SRow.nil _ _, hb1.alloc hb1.size _⟩
    · have hd : decide ((M : Int) ≤ 300) = true := decide_eq_true (by omega)
      rw [hd, if_pos rfl]
      have q1 : decide ((300 : Int) < (M : Int)) = false := decide_eq_false k1
      have HM : Hid (M ≤ 300) := Lib.hid (by omega)
      go_enter Try.func28, Try.ntmps28
      go_wp2_with (first | (go_at_call 51; refine (HC.out _ rfl).mono ?_; rintro e w1 ⟨mb, rfl, hm1, hmb1, hb1⟩))
      have hmlt := hm1.lt
      have HMB : Hid (mb < w1.heap.size ∧ w.heap.size ≤ mb) := Lib.hid ⟨hmlt, hmb1⟩
      have HZ1 : Hid (w.heap.size ≤ w1.heap.size) := Lib.hid hb1.size
      have HI0 : Hid (MapW (w1.alloc (.cells (rCells R mb) 58)) mb (W R) ∧ (w1.alloc (.cells (rCells R mb) 58)).heap[w1.heap.size]? = some (.cells (rCells R mb) 58 (0, 0)) ∧ Below w.heap.size w (w1.alloc (.cells (rCells R mb) 58)) ∧ w1.heap.size + 1 ≤ (w1.alloc (.cells (rCells R mb) 58)).heap.size) := Lib.hid ⟨hm1.below ((Below.refl _ _).alloc (Nat.le_refl _) _), heap_alloc_new _ _, hb1.alloc hb1.size _, by simp⟩
      clear hm1 hmb1 hb1 hmlt HC
      go_loopw [7, 22] (fun v i wr => ∃ k : Nat, k ≤ M ∧ i = .int .i64 (k : Int) ∧ SRow wr (w1.heap.size + 1) v (F k) ∧ MapW wr mb (W R) ∧ wr.heap[w1.heap.size]? = some (.cells (rCells R mb) 58 (0, 0)) ∧ Below w.heap.size w wr) (fun _ i _ => M - (intOf i).toNat)
      case atStart => exact ⟨0, Nat.zero_le _, rfl, by rw [HL0.out]; exact SRow.nil _ _, HI0.out.1, HI0.out.2.1, HI0.out.2.2.1⟩
      case round =>
        obtain ⟨k, hk, rfl, hrow, hmp, hbx, hb⟩ := hrel
        clear HI0
        by_cases hlt : k < M
        · have HVK : Hid (∀ w1, MapW w1 mb (W R) → Calls Try.prog 52 #[.agg #[.int .i64 ((R 0 : Nat) : Int), .int .i64 ((R 1 : Nat) : Int), .int .i64 ((R 2 : Nat) : Int), .int .i64 ((R 3 : Nat) : Int), .map (some mb)], .int .i64 ((k : Nat) : Int)] w1 fun e w' => e = .returned (.string (strOf (lett (L k)))) ∧ MapW w' mb (W R) ∧ w1.grownBy w' (some mb)) := Lib.hid fun w1 hm => HV.out mb k w1 hm hlt
          have HLK := Lib.hid (HL1.out k)
          have HLN := Lib.hid (HLL.out k)
          have hwz : w1.heap.size + 1 ≤ wr.heap.size := (Array.getElem?_eq_some_iff.1 hbx).1
          have HWZ := Lib.hid hwz
          unfold rCells at hbx
          have z0 : wr.cell? ⟨w1.heap.size, 0, none⟩ = some (.int .i64 ((R 0 : Nat) : Int)) := by simp [World.cell?, hbx]
          have z1 : wr.cell? ⟨w1.heap.size, 1, none⟩ = some (.int .i64 ((R 1 : Nat) : Int)) := by simp [World.cell?, hbx]
          have z2 : wr.cell? ⟨w1.heap.size, 2, none⟩ = some (.int .i64 ((R 2 : Nat) : Int)) := by simp [World.cell?, hbx]
          have z3 : wr.cell? ⟨w1.heap.size, 3, none⟩ = some (.int .i64 ((R 3 : Nat) : Int)) := by simp [World.cell?, hbx]
          have z4 : wr.cell? ⟨w1.heap.size, 4, none⟩ = some (.map (some mb)) := by simp [World.cell?, hbx]
          have HP := Lib.hid (And.intro hmp (And.intro hbx hb))
          have HROW := Lib.hid hrow
          have q2 : decide ((k : Int) < (M : Int)) = true := decide_eq_true (by omega)
          obtain ⟨A7, c7, rfl⟩ := hrow.shape
          rw [HLN.out] at HROW
          rw [HLN.out]
          clear hrow hmp hbx hb HV HL1 HLL HL0
          generalize strOf (lett (L k)) = T at *
          generalize F k = Fk at *
          go_wp2_with (first
            | (go_at_call 52; refine (HVK.out _ HP.out.1).mono ?_; rintro e w5 ⟨rfl, hm5, hg5⟩
               have HROW5 := Lib.hid (HROW.out.map9 hg5 (by have := HMB.out; omega))
               have HP5 := Lib.hid (And.intro hm5 (And.intro ((hg5.block _ (by have := HWZ.out; omega) (by intro he; injection he with he; have := HMB.out; omega)).trans HP.out.2.1) (HP.out.2.2.grown hg5 (by have := HWZ.out; have := HZ1.out; omega) (fun j hj => by injection hj with e; have := HMB.out; omega))))
               have hz5 : w1.heap.size + 1 ≤ w5.heap.size := Nat.le_trans HWZ.out hg5.size
               clear hm5 hg5 z0 z1 z2 z3 z4)
            | (at_builtin; refine wpList_pushS (.tmp 25) (.tmp 29) rfl rfl (w1.heap.size + 1) _ Fk rfl HROW5.out rfl (by rw [HLN.out]; have := HM.out; omega) hz5 ?_; intro v' w6 hrow' hg' hat'))
          go_roundw
          case rel => exact ⟨k + 1, by omega, by go_num, by rw [HLK.out]; exact hrow', HP5.out.1.kept hg' (by intro he; have := (HROW5.out.blk mb he.symm).1; have := HMB.out; omega), (hg'.block _ (by omega) (by intro he; have := (HROW5.out.blk _ he.symm).1; omega)).trans HP5.out.2.1, HP5.out.2.2.grown hg' (by have := HZ1.out; omega) (fun j hj => by have := (HROW5.out.blk j hj).1; have := HZ1.out; omega)⟩
          case measure => first | (simp [intOf]; done) | (simp [intOf]; omega)
        · obtain rfl : k = M := by omega
          have HR := Lib.hid (And.intro hrow hb)
          have q2 : decide ((k : Int) < (k : Int)) = false := decide_eq_false (by omega)
          clear hrow hmp hbx hb
          go_wp2
          go_ret2
          exact ⟨_, rfl, HR.out.1.mono (by have := HZ1.out; omega), HR.out.2⟩
  · have hob : aoB xs = false := by unfold aoB; rw [hr]; rfl
    have hov : aoV xs = [] := by unfold aoV; rw [hob]; rfl
    have HC : Hid (∀ w1, w1 = w → Calls Try.prog 51 #[v] w1 fun e w' => e = .returned (.tuple #[.agg #[.int .i64 0, .int .i64 0, .int .i64 0, .int .i64 0, .map none], .int .i64 0, .bool false]) ∧ Below w1.heap.size w1 w') := Lib.hid fun w1 e => by subst e; exact raceTo_no v xs w1 h hl hr
    rw [hob, hov]
    obtain ⟨A, cc, rfl⟩ := h.shape
    clear h hr hob hov
    go_enter Try.func28, Try.ntmps28
    go_wp2_with (first | (go_at_call 51; refine (HC.out _ rfl).mono ?_; rintro e w1 ⟨rfl, hb1⟩))
    go_ret2
    exact ⟨_, rfl, SRow.nil _ _, hb1.alloc hb1.size _⟩
end Go.Proofs.Ytnlcainfkchieaa
