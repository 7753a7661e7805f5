/- PathOfRuns: a list of lengths that came in. -/
import Derived.Test.YtdekjmbbogddgabTurn
import Derived.Test.YtdekjmbbogddgabChoose
namespace Go.Proofs.Ytdekjmbbogddgab
open Go.RowKit
/-- a slice of ints that came in: nil, or a row of cap numbers of which the first len are its elements -/
def IsInts (w : World) (a : Option Addr) (len cap : Nat) (zs : List Int) : Prop :=
  (a = none ∧ len = 0 ∧ cap = 0 ∧ zs = []) ∨
  ∃ x, a = some x ∧ len ≤ cap ∧ cap ≤ maxLen ∧ zs.length = cap ∧ (∀ i, i < zs.length → w.cell? (x.add i) = some (.int .i64 (zs.getD i 0))) ∧ ∀ n ∈ zs, (Lit.int .i64 n).wf = true
/-- a slice of ints that is only read: its elements are xs -/
structure RInts (w : World) (v : Value) (xs : List Int) : Prop where
  shape : ∃ A c, v = .slice A xs.length c
  cells : 0 < xs.length → ∃ g o c, v = .slice (some ⟨g, o, none⟩) xs.length c ∧ g < w.heap.size ∧ ∀ j, j < xs.length → w.cell? ⟨g, o + j, none⟩ = some (.int .i64 (xs.getD j 0))
theorem RInts.below {w w' : World} {v : Value} {xs : List Int} (h : RInts w v xs) (hb : Below w.heap.size w w') : RInts w' v xs :=
  ⟨h.shape, fun hx => by
    obtain ⟨g, o, c, hv, hg, hc⟩ := h.cells hx
    exact ⟨g, o, c, hv, Nat.lt_of_lt_of_le hg hb.size, fun j hj => (hb.cell (p := ⟨g, o + j, none⟩) hg).trans (hc j hj)⟩⟩
theorem RInts.of_row {w : World} {B : Nat} {v : Value} {xs : List Int} (h : IRow w B v xs) : RInts w v xs :=
  ⟨h.shape, fun hx => by
    obtain ⟨g, c, hv, _, hg⟩ := h.form' rfl hx
    subst hv
    exact ⟨g, 0, c, rfl, hg, fun j hj => by rw [Nat.zero_add]; exact h.cell hj⟩⟩
theorem RInts.of_in {w : World} {a : Option Addr} {len cap : Nat} {zs : List Int} (h : IsInts w a len cap zs) : RInts w (.slice a len cap) (zs.take len) := by
  rcases h with ⟨rfl, rfl, rfl, rfl⟩ | ⟨x, rfl, hl, hm, hz, hcell, _⟩
  · exact ⟨⟨_, _, rfl⟩, fun h => absurd h (by simp)⟩
  · have hlen : (zs.take len).length = len := by rw [List.length_take]; omega
    refine ⟨⟨some x, cap, by rw [hlen]⟩, fun hx => ?_⟩
    rw [hlen] at hx
    obtain ⟨b, off, spot⟩ := x
    have h0 := hcell 0 (by omega)
    have hspot : spot = none := by simpa [Addr.add] using World.cell?_spot h0
    subst hspot
    refine ⟨b, off, cap, by rw [hlen], World.block_lt_of_cell? w _ h0, fun j hj => ?_⟩
    rw [hlen] at hj
    have := hcell j (by omega)
    have e : (⟨b, off, none⟩ : Addr).add j = ⟨b, off + j, none⟩ := by unfold Addr.add; split <;> simp_all
    rw [e] at this
    rw [this, List.getD_eq_getElem?_getD, List.getD_eq_getElem?_getD, List.getElem?_take, if_pos hj]
/-- are these lengths of runs, with so much room left; first: is the next one the first of all -/
def runsOk : Bool → Nat → List Int → Bool
  | _, _, [] => true
  | first, left, x :: r => if x < 0 ∨ (x = 0 ∧ first = false) ∨ (left : Int) < x then false else runsOk false (left - x.toNat) r
def areRunsB (l : List Int) : Bool := !(l.length == 1 && l.getD 0 0 == 0) && runsOk true 40 l
/-- the steps of runs -/
def runL : UInt8 → List Int → List UInt8
  | _, [] => []
  | c, x :: r => List.replicate x.toNat c ++ runL (turnC c) r
set_option maxHeartbeats 800000 in
theorem areRuns_any (v : Value) (xs : List Int) (w : World) (h : RInts w v xs) (hl : xs.length ≤ 1048576) :
    Calls Try.prog 64 #[v] w fun e w' => e = .returned (.bool (areRunsB xs)) ∧ w = w' := by
  by_cases h0 : xs.length = 0
  · obtain ⟨A, c, rfl⟩ := h.shape
    obtain rfl : xs = [] := List.eq_nil_of_length_eq_zero h0
    clear h h0
    go_enter Try.func64, Try.ntmps64
    go_wp2
    refine wp_loop_rounds 1 ?_; rw [rounds_succ]
    go_wp2
    go_ret
    exact ⟨rfl, rfl⟩
  · obtain ⟨g, o, c, rfl, hg, hc⟩ := h.cells (by omega)
    have HC := Lib.hid hc
    clear hc h
    have e0 := HC.out 0 (by omega)
    rw [Nat.add_zero] at e0
    generalize hx0 : xs.getD 0 0 = x0 at e0
    have HX0 := Lib.hid hx0
    clear hx0
    generalize hn : xs.length = n at *
    have HN := Lib.hid hn
    clear hn
    by_cases h1 : n = 1 ∧ x0 = 0
    · obtain ⟨rfl, rfl⟩ := h1
      have hr : areRunsB xs = false := by unfold areRunsB; rw [HN.out, HX0.out]; rfl
      rw [hr]
      go_enter Try.func64, Try.ntmps64
      go_wp2
      go_ret
      exact ⟨rfl, rfl⟩
    · have hr : areRunsB xs = runsOk true 40 xs := by
        unfold areRunsB
        rw [HN.out, HX0.out]
        have : (n == 1 && x0 == 0) = false := by
          rw [Bool.eq_false_iff]; intro e; simp at e; exact h1 e
        rw [this]; rfl
      rw [hr]
      have HRUN : ∀ R : Bool, Hid (runsOk true 40 xs = R) → (R = runsOk true 40 xs) := fun R h => h.out.symm
      generalize hR : runsOk true 40 xs = R
      have HR := Lib.hid hR
      clear hR HRUN
      have h1' : n = 1 → (x0 == 0) = false := fun e => beq_eq_false_iff_ne.2 (fun e2 => h1 ⟨e, e2⟩)
      have HJ : Hid (n = 1 → (x0 == 0) = false) := h1'
      clear h1 h1' hr
      by_cases hn1 : n = 1
      all_goals
        first
        | (have j1 := HJ.out hn1
           have j2 : ((n : Int) == 1) = true := beq_iff_eq.2 (by omega))
        | (have j2 : ((n : Int) == 1) = false := beq_eq_false_iff_ne.2 (by omega))
        have HN1 := Lib.hid hn1
        clear hn1
        go_enter Try.func64, Try.ntmps64
        go_wp2
        go_loop [3, 17] (fun l i => ∃ k L : Nat, k ≤ n ∧ L ≤ 40 ∧ i = .int .i64 (k : Int) ∧ l = .int .i64 (L : Int) ∧ Hid (runsOk (decide (k = 0)) L (xs.drop k) = R)) (fun _ i => n - (intOf i).toNat)
        case atStart => exact ⟨0, 40, by omega, by omega, rfl, rfl, HR⟩
        case round =>
          obtain ⟨k, L, hk, hL, rfl, rfl, HA⟩ := hrel
          clear HR
          by_cases hlt : k < n
          · have e1 := HC.out k hlt
            have HD : Hid (xs.drop k = xs.getD k 0 :: xs.drop (k + 1)) := by
              unfold Hid
              have hk' : k < xs.length := by rw [HN.out]; exact hlt
              rw [List.drop_eq_getElem_cons hk', List.getD_eq_getElem?_getD, List.getElem?_eq_getElem hk']; rfl
            generalize xs.getD k 0 = x at *
            clear e0
            by_cases c1 : x < 0
            · have HR0 : Hid (R = false) := by
                have := HA.out; rw [HD.out, runsOk, if_pos (.inl c1)] at this; exact this.symm
              go_wp2
              go_ret
              exact ⟨ret_bool HR0.out.symm, rfl⟩
            · by_cases c2 : x = 0
              · subst c2
                by_cases c3 : 0 < k
                · have HR0 : Hid (R = false) := by
                    have := HA.out; rw [HD.out, runsOk, if_pos (.inr (.inl ⟨rfl, by simp; omega⟩))] at this; exact this.symm
                  go_wp2
                  go_ret
                  exact ⟨ret_bool HR0.out.symm, rfl⟩
                · have HR0 : Hid (runsOk false L (xs.drop (k + 1)) = R) := by
                    have := HA.out; rw [HD.out, runsOk, if_neg (by simp; omega)] at this; exact Lib.hid (by simpa using this)
                  go_wp2
                  go_round
                  case rel => exact ⟨k + 1, L, by omega, hL, by go_num, by go_num, HR0⟩
                  case measure => first | (simp [intOf]; done) | (simp [intOf]; omega)
              · have c2' : (x == 0) = false := beq_eq_false_iff_ne.2 c2
                by_cases c4 : (L : Int) < x
                · have HR0 : Hid (R = false) := by
                    have := HA.out; rw [HD.out, runsOk, if_pos (.inr (.inr c4))] at this; exact this.symm
                  go_wp2
                  go_ret
                  exact ⟨ret_bool HR0.out.symm, rfl⟩
                · have HR0 : Hid (runsOk false (L - x.toNat) (xs.drop (k + 1)) = R) := by
                    have := HA.out; rw [HD.out, runsOk, if_neg (by omega)] at this; exact this
                  go_wp2
                  go_round
                  case rel => exact ⟨k + 1, L - x.toNat, by omega, by omega, by go_num, by go_num, HR0⟩
                  case measure => first | (simp [intOf]; done) | (simp [intOf]; omega)
          · go_wp2
            go_ret
            have := HA.out
            rw [List.drop_of_length_le (by rw [HN.out]; omega)] at this
            exact ⟨ret_bool (by rw [← this]; rfl), rfl⟩
theorem runL_len : ∀ (xs : List Int) (f : Bool) (L : Nat) (c : UInt8), runsOk f L xs = true → (runL c xs).length ≤ L
  | [], _, _, _, _ => by simp [runL]
  | x :: r, f, L, c, h => by
    rw [runsOk] at h
    split at h
    · cases h
    · rename_i hn
      have := runL_len r false (L - x.toNat) (turnC c) h
      rw [runL, List.length_append, List.length_replicate]
      omega
theorem runL_drop {xs : List Int} {k : Nat} {x : Int} {c : UInt8} (h : xs.drop k = x :: xs.drop (k + 1)) : runL c (xs.drop k) = List.replicate x.toNat c ++ runL (turnC c) (xs.drop (k + 1)) := by rw [h, runL]
theorem rep_snoc (j : Nat) (c : UInt8) : List.replicate j c ++ [c] = List.replicate (j + 1) c := by rw [List.replicate_succ']
def runsV (xs : List Int) : ByteArray := if areRunsB xs then strOf (runL 85 xs) else strOf []
set_option maxHeartbeats 1000000 in
theorem pathOfRuns_yes (v : Value) (xs : List Int) (w : World) (h : RInts w v xs) (hl : xs.length ≤ 1048576) (hok : areRunsB xs = true) :
    Calls Try.prog 42 #[v] w (Ret w (.tuple #[.string (strOf (runL 85 xs)), .bool true])) := by
  have hrl : runsOk true 40 xs = true := by
    unfold areRunsB at hok; rw [Bool.and_eq_true] at hok; exact hok.2
  have hN := runL_len xs true 40 85 hrl
  obtain ⟨A0, cap, rfl⟩ := h.shape
  have H := Lib.hid h
  have HRL := Lib.hid hrl
  clear hrl
  go_enter Try.func42, Try.ntmps42
  go_wp2_with (go_at_call 64; refine (areRuns_any _ xs _ h hl).mono ?_; rintro e w' ⟨rfl, rfl⟩; rw [hok])
  clear h hok
  generalize hNN : runL 85 xs = N at *
  have HNN : Hid ([] ++ runL 85 (xs.drop 0) = N) := by unfold Hid; simpa using hNN
  clear hNN
  go_loopw [4, 5, 13] (fun b st i wr => ∃ (k L : Nat) (c : UInt8) (out : List UInt8), k ≤ xs.length ∧ i = .int .i64 (k : Int) ∧ st = .int .u8 (c.toNat : Int) ∧ BOwn wr w.heap.size b out ∧ Hid (out ++ runL c (xs.drop k) = N) ∧ Hid (runsOk (decide (k = 0)) L (xs.drop k) = true) ∧ Below w.heap.size w wr) (fun _ _ i _ => xs.length - (intOf i).toNat)
  case atStart => exact ⟨0, 40, 85, [], by omega, rfl, rfl, BOwn.nil _ _, HNN, Lib.hid (by simpa using HRL.out), Below.refl _ _⟩
  case round =>
    obtain ⟨k, L, c, out, hk, rfl, rfl, hrow, HO, HR, hb⟩ := hrel
    clear HNN HRL
    have hol : out.length ≤ 40 := by
      have := congrArg List.length HO.out
      rw [List.length_append] at this
      omega
    by_cases hlt : k < xs.length
    · obtain ⟨g, o, cc, hv, hg, hcells⟩ := H.out.cells (by omega)
      have hA : A0 = some ⟨g, o, none⟩ := by injection hv
      subst hA
      clear hv
      have e1 : wr.cell? ⟨g, o + k, none⟩ = some (.int .i64 (xs.getD k 0)) := (hb.cell (p := ⟨g, o + k, none⟩) hg).trans (hcells k hlt)
      clear hcells
      have HD : Hid (xs.drop k = xs.getD k 0 :: xs.drop (k + 1)) := by
        unfold Hid
        rw [List.drop_eq_getElem_cons hlt, List.getD_eq_getElem?_getD, List.getElem?_eq_getElem hlt]; rfl
      generalize xs.getD k 0 = x at *
      have HR2 : Hid (¬ x < 0 ∧ runsOk false (L - x.toNat) (xs.drop (k + 1)) = true) := by
        have := HR.out
        rw [HD.out, runsOk] at this
        split at this
        · cases this
        · rename_i hn; exact ⟨by omega, this⟩
      have hx0 : 0 ≤ x := by have := HR2.out.1; omega
      obtain ⟨m, rfl⟩ := Int.eq_ofNat_of_zero_le hx0
      have HO2 : Hid ((out ++ List.replicate m c) ++ runL (turnC c) (xs.drop (k + 1)) = N) := by
        have := HO.out
        rw [runL_drop HD.out, Int.toNat_natCast, ← List.append_assoc] at this
        exact this
      have hol2 : out.length + m ≤ 40 := by
        have := congrArg List.length HO2.out
        rw [List.length_append, List.length_append, List.length_replicate] at this
        omega
      obtain ⟨wo, rfl⟩ : ∃ wo : World, wo = wr := ⟨_, rfl⟩
      go_wp2
      go_loopw [4, 18] (fun b j wr => ∃ q : Nat, q ≤ m ∧ j = .int .i64 (q : Int) ∧ BOwn wr w.heap.size b (out ++ List.replicate q c) ∧ Below w.heap.size w wr) (fun _ j _ => m - (intOf j).toNat)
      case atStart => exact ⟨0, by omega, rfl, by simpa using hrow, hb⟩
      case round =>
        obtain ⟨q, hq, rfl, hrow2, hb2⟩ := hrel
        clear hrow hb e1
        have hsz := hb2.size
        have hq40 : (out ++ List.replicate q c).length ≤ 40 := by simp; omega
        by_cases hql : q < m
        · go_wp2_with (at_builtin; refine wpList_pushB c (.tmp 20) (.tmp 22) rfl rfl w.heap.size _ _ rfl hrow2 rfl (by omega) hsz ?_; intro v' w' hrow' hg' hat')
          rw [List.append_assoc, rep_snoc] at hrow'
          go_roundw
          case rel => exact ⟨q + 1, by omega, by go_num, hrow', hb2.grown hg' hsz (fun j hj => (hrow2.blk j hj).1)⟩
          case measure => first | (simp [intOf]; done) | (simp [intOf]; omega)
        · have HQ : Hid (q = m) := by unfold Hid; omega
          go_wp2_with (go_at_call 48; refine (other_any _ _).mono ?_; rintro e w' ⟨rfl, rfl⟩)
          rw [← turnC_int]
          go_roundw
          case rel => exact ⟨k + 1, L - m, turnC c, out ++ List.replicate m c, by omega, by go_num, rfl, by rw [← HQ.out]; exact hrow2, HO2, Lib.hid (by have := HR2.out.2; simpa using this), hb2⟩
          case measure => first | (simp [intOf]; done) | (simp [intOf]; omega)
    · have HX : Hid (out = N) := by
        have := HO.out
        rw [List.drop_of_length_le (by omega)] at this
        unfold Hid; simpa [runL] using this
      have hcv := run_str_own hrow
      go_wp2
      go_ret2
      exact ⟨ret_sb (by rw [HX.out]) rfl, hb⟩
set_option maxHeartbeats 400000 in
theorem pathOfRuns_ret (v : Value) (xs : List Int) (w : World) (h : RInts w v xs) (hl : xs.length ≤ 1048576) :
    Calls Try.prog 42 #[v] w (Ret w (.tuple #[.string (runsV xs), .bool (areRunsB xs)])) := by
  unfold runsV
  rcases Bool.eq_false_or_eq_true (areRunsB xs) with hok | hok
  · rw [hok, if_pos rfl]; exact pathOfRuns_yes v xs w h hl hok
  · rw [hok]
    have H := Lib.hid h
    clear h
    go_enter Try.func42, Try.ntmps42
    go_wp2_with (go_at_call 64; refine (areRuns_any _ xs _ H.out hl).mono ?_; rintro e w' ⟨rfl, rfl⟩; rw [hok])
    go_ret2
    exact ⟨rfl, Below.refl _ _⟩

/-! ### the model -/
def allB (lo hi : Int) (xs : List Int) : Bool := xs.all fun x => inB x lo hi
set_option maxHeartbeats 400000 in
theorem all_any (v : Value) (xs : List Int) (lo hi : Int) (w : World) (h : RInts w v xs) (hl : xs.length ≤ 1048576) :
    Calls Try.prog 63 #[v, .int .i64 lo, .int .i64 hi] w fun e w' => e = .returned (.bool (allB lo hi xs)) ∧ w = w' := by
  obtain ⟨A0, cap, rfl⟩ := h.shape
  have H := Lib.hid h
  clear h
  generalize hR : allB lo hi xs = R
  have HR : Hid (allB lo hi (xs.drop 0) = R) := Lib.hid hR
  clear hR
  go_enter Try.func63, Try.ntmps63
  go_wp2
  go_loop [11] (fun i => ∃ k : Nat, k ≤ xs.length ∧ i = .int .i64 (k : Int) ∧ Hid (allB lo hi (xs.drop k) = R)) (fun i => xs.length - (intOf i).toNat)
  case atStart => exact ⟨0, by omega, rfl, HR⟩
  case round =>
    obtain ⟨k, hk, rfl, HA⟩ := hrel
    clear HR
    by_cases hlt : k < xs.length
    · obtain ⟨g, o, cc, hv, hg, hcells⟩ := H.out.cells (by omega)
      have hA : A0 = some ⟨g, o, none⟩ := by injection hv
      subst hA
      clear hv
      have e1 := hcells k hlt
      clear hcells
      have HD : Hid (xs.drop k = xs.getD k 0 :: xs.drop (k + 1)) := by
        unfold Hid
        rw [List.drop_eq_getElem_cons hlt, List.getD_eq_getElem?_getD, List.getElem?_eq_getElem hlt]; rfl
      generalize xs.getD k 0 = x at *
      rcases Bool.eq_false_or_eq_true (inB x lo hi) with hi' | hi'
      · have HR2 : Hid (allB lo hi (xs.drop (k + 1)) = R) := by
          have := HA.out; rw [HD.out, allB, List.all_cons, hi'] at this; exact this
        go_wp2_with (go_at_call 60; refine (in_any _ _ _ _).mono ?_; rintro e w' ⟨rfl, rfl⟩)
        go_round
        case rel => exact ⟨k + 1, by omega, by go_num, HR2⟩
        case measure => first | (simp [intOf]; done) | (simp [intOf]; omega)
      · have HR2 : Hid (R = false) := by
          have := HA.out; rw [HD.out, allB, List.all_cons, hi'] at this; exact this.symm
        go_wp2_with (go_at_call 60; refine (in_any _ _ _ _).mono ?_; rintro e w' ⟨rfl, rfl⟩)
        go_ret
        exact ⟨ret_bool HR2.out.symm, rfl⟩
    · go_wp2
      go_ret
      have := HA.out
      rw [List.drop_of_length_le (by omega)] at this
      exact ⟨ret_bool (by rw [← this]; rfl), rfl⟩
theorem runsOk_len : ∀ (xs : List Int) (L : Nat), runsOk false L xs = true → xs.length ≤ L
  | [], _, _ => by simp
  | x :: r, L, h => by
    rw [runsOk] at h
    split at h
    · cases h
    · rename_i hn
      have := runsOk_len r _ h
      simp at hn ⊢
      omega
theorem runsOk_len1 (xs : List Int) (L : Nat) (h : runsOk true L xs = true) : xs.length ≤ L + 1 := by
  cases xs with
  | nil => simp
  | cons x r =>
    rw [runsOk] at h
    split at h
    · cases h
    · have := runsOk_len r _ h
      simp; omega
theorem runsOk_all : ∀ (xs : List Int) (f : Bool) (L : Nat), L ≤ 40 → runsOk f L xs = true → allB 0 40 xs = true
  | [], _, _, _, _ => rfl
  | x :: r, f, L, hL, h => by
    rw [runsOk] at h
    split at h
    · cases h
    · rename_i hn
      have := runsOk_all r false (L - x.toNat) (by omega) h
      unfold allB at *
      rw [List.all_cons, this, Bool.and_true]
      exact inB_yes (by omega)
theorem areRunsB_long {xs : List Int} (h : 41 < xs.length) : areRunsB xs = false := by
  rw [Bool.eq_false_iff]; intro e
  unfold areRunsB at e; rw [Bool.and_eq_true] at e
  have := runsOk_len1 xs 40 e.2
  omega
theorem areRunsB_one {xs : List Int} (h : xs.length = 1) (h0 : xs.getD 0 0 = 0) : areRunsB xs = false := by
  unfold areRunsB; rw [h, h0]; rfl
theorem areRunsB_all {xs : List Int} (h : allB 0 40 xs = false) : areRunsB xs = false := by
  rw [Bool.eq_false_iff]; intro e
  unfold areRunsB at e; rw [Bool.and_eq_true] at e
  rw [runsOk_all xs true 40 (by omega) e.2] at h
  cases h
theorem areRunsB_run {xs : List Int} (h : ¬ (xs.length = 1 ∧ xs.getD 0 0 = 0)) : areRunsB xs = runsOk true 40 xs := by
  unfold areRunsB
  have : (xs.length == 1 && xs.getD 0 0 == 0) = false := by
    rw [Bool.eq_false_iff]; intro e; simp at e; exact h (by simpa using e)
  rw [this]; rfl
theorem allB_at {xs : List Int} {lo hi : Int} (h : allB lo hi xs = true) (k : Nat) (hk : k < xs.length) : lo ≤ xs.getD k 0 ∧ xs.getD k 0 ≤ hi := by
  have := List.all_eq_true.1 h xs[k] (List.getElem_mem hk)
  rw [List.getD_eq_getElem?_getD, List.getElem?_eq_getElem hk]
  simpa [inB] using this
theorem turn_sub {c : UInt8} (h : c = 85 ∨ c = 68) : (153 : Int) - (c.toNat : Int) = ((turnC c).toNat : Int) := by
  rcases h with rfl | rfl <;> rfl
theorem turn_ud {c : UInt8} (h : c = 85 ∨ c = 68) : turnC c = 85 ∨ turnC c = 68 := by
  rcases h with rfl | rfl
  · right; rfl
  · left; rfl
theorem ud_bd {c : UInt8} (h : c = 85 ∨ c = 68) : 68 ≤ (c.toNat : Int) ∧ (c.toNat : Int) ≤ 85 := by
  rcases h with rfl | rfl <;> decide
def resR (R : Bool) (N : List UInt8) : Value := .tuple #[.string (if R then strOf N else strOf []), .bool R]
theorem BOwn.empty (w : World) : BOwn (w.alloc (.cells #[] 5)) w.heap.size (.slice (some ⟨w.heap.size, 0, none⟩) 0 0) [] :=
  BOwn.of_own (World.ownsRow_lit w #[] 0 (Nat.le_refl _) (by simp [maxLen]) rfl) rfl rfl
set_option maxHeartbeats 2000000 in
theorem specRuns_loop (v : Value) (xs : List Int) (w : World) (h : RInts w v xs) (hl : xs.length ≤ 41) (h1 : ¬ (xs.length = 1 ∧ xs.getD 0 0 = 0)) (hall : allB 0 40 xs = true) :
    Calls Try.prog 40 #[v] w (Ret w (resR (runsOk true 40 xs) (runL 85 xs))) := by
  obtain ⟨A0, cap, rfl⟩ := h.shape
  have H := Lib.hid h
  have HALL := Lib.hid hall
  have j3 : ((xs.length : Int) == 1) = false ∨ (((xs.length : Int) == 1) = true ∧ ∃ (g o : Nat) (x0 : Int), A0 = some ⟨g, o, none⟩ ∧ w.cell? ⟨g, o, none⟩ = some (.int .i64 x0) ∧ (x0 == 0) = false ∧ 0 < xs.length) := by
    by_cases e : xs.length = 1
    · right
      obtain ⟨g, o, cc, hv, hg, hcells⟩ := h.cells (by omega)
      have hA : A0 = some ⟨g, o, none⟩ := by injection hv
      have := hcells 0 (by omega)
      rw [Nat.add_zero] at this
      exact ⟨beq_iff_eq.2 (by omega), g, o, _, hA, this, beq_eq_false_iff_ne.2 (fun e2 => h1 ⟨e, e2⟩), by omega⟩
    · left; exact beq_eq_false_iff_ne.2 (by omega)
  clear h h1
  generalize hRR : runsOk true 40 xs = R
  generalize hNN : runL 85 xs = N
  have HNN : Hid ([] ++ runL 85 (xs.drop 0) = N) := by unfold Hid; simpa using hNN
  have HRR : Hid (runsOk (decide (0 = 0)) (40 - 0) (xs.drop 0) = R) := by unfold Hid; simpa using hRR
  clear hNN hRR
  generalize hn : xs.length = n at *
  have HN := Lib.hid hn
  clear hn
  have j4 : decide (41 < n) = false := decide_eq_false (by omega)
  have j5 : ¬ (41 : Int) < (n : Int) := by omega
  rcases j3 with j3 | ⟨j3, g0, o0, x0, rfl, e0, j6, j7⟩
  all_goals
    go_enter Try.func40, Try.ntmps40
    go_wp2_with fail
    refine (all_any _ xs 0 40 _ H.out (by rw [HN.out]; omega)).mono ?_
    rintro e w' ⟨rfl, rfl⟩
    rw [hall]
    go_wp2_with fail
    have hb0 := (Below.refl w.heap.size w).alloc (Nat.le_refl _) (.cells #[] 5)
    have hr0 := BOwn.empty w
    generalize w.alloc (.cells #[] 5) = w0 at *
    go_loopw [4, 5, 30] (fun b st i wr => ∃ (k : Nat) (c : UInt8) (out : List UInt8), k ≤ n ∧ i = .int .i64 (k : Int) ∧ st = .int .u8 (c.toNat : Int) ∧ (c = 85 ∨ c = 68) ∧ BOwn wr w.heap.size b out ∧ out.length ≤ 40 ∧ Hid (out ++ runL c (xs.drop k) = N) ∧ Hid (runsOk (decide (k = 0)) (40 - out.length) (xs.drop k) = R) ∧ Below w.heap.size w wr) (fun _ _ i _ => n - (intOf i).toNat)
    case atStart => exact ⟨0, 85, [], by omega, rfl, rfl, .inl rfl, hr0, by simp, HNN, HRR, hb0⟩
    case round =>
      obtain ⟨k, c, out, hk, rfl, rfl, hcud, hrow, hol, HO, HR, hb⟩ := hrel
      clear HNN HRR hr0 hb0
      have HCU := Lib.hid hcud
      have hcb := ud_bd hcud
      clear hcud
      by_cases hlt : k < n
      · have hlt' : k < xs.length := by rw [HN.out]; exact hlt
        obtain ⟨g, o, cc, hv, hg, hcells⟩ := H.out.cells (by omega)
        have e1 : wr.cell? ⟨g, o + k, none⟩ = some (.int .i64 (xs.getD k 0)) := (hb.cell (p := ⟨g, o + k, none⟩) hg).trans (hcells k hlt')
        clear hcells
        first
          | (have hA : A0 = some ⟨g, o, none⟩ := by injection hv
             subst hA)
          | (have hA : (⟨g0, o0, none⟩ : Addr) = ⟨g, o, none⟩ := by injection hv with hv; injection hv
             injection hA with hA1 hA2
             subst hA1 hA2)
        clear hv
        have HD : Hid (xs.drop k = xs.getD k 0 :: xs.drop (k + 1)) := by
          unfold Hid
          rw [List.drop_eq_getElem_cons hlt', List.getD_eq_getElem?_getD, List.getElem?_eq_getElem hlt']; rfl
        have hxb := allB_at HALL.out k hlt'
        clear hlt'
        generalize xs.getD k 0 = x at *
        obtain ⟨m, rfl⟩ := Int.eq_ofNat_of_zero_le hxb.1
        have hm40 : m ≤ 40 := by omega
        clear hxb
        by_cases c1 : 0 < k ∧ m = 0
        · obtain ⟨c1, rfl⟩ := c1
          have HR0 : Hid (R = false) := by
            have := HR.out; rw [HD.out, runsOk, if_pos (.inr (.inl ⟨rfl, by simp; omega⟩))] at this; exact this.symm
          go_wp2
          go_ret2
          exact ⟨by rw [HR0.out]; rfl, hb⟩
        · have c1' : 0 < k → ((m : Int) == 0) = false := fun h => beq_eq_false_iff_ne.2 (by omega)
          obtain ⟨A1, cc1, rfl⟩ := hrow.shape
          by_cases c4 : 40 < out.length + m
          · have HR0 : Hid (R = false) := by
              have := HR.out; rw [HD.out, runsOk, if_pos (.inr (.inr (by omega)))] at this; exact this.symm
            rcases Nat.eq_zero_or_pos k with hk0 | hk0
            all_goals
              first | (have c2 := c1' hk0) | (have c3 : ¬ 0 < k := (by omega); clear hk0)
              clear c1'
              go_wp2
              go_ret2
              exact ⟨by rw [HR0.out]; rfl, hb⟩
          · have HR0 : Hid (runsOk false (40 - (out.length + m)) (xs.drop (k + 1)) = R) := by
              have := HR.out; rw [HD.out, runsOk, if_neg (by simp; omega)] at this
              rw [show 40 - (out.length + m) = 40 - out.length - m by omega]; exact this
            have HO2 : Hid ((out ++ List.replicate m c) ++ runL (turnC c) (xs.drop (k + 1)) = N) := by
              have := HO.out
              rw [runL_drop HD.out, Int.toNat_natCast, ← List.append_assoc] at this
              exact this
            obtain ⟨wo, rfl⟩ : ∃ wo : World, wo = wr := ⟨_, rfl⟩
            rcases Nat.eq_zero_or_pos k with hk0 | hk0
            all_goals
              first | (have c2 := c1' hk0) | (have c3 : ¬ 0 < k := (by omega); clear hk0)
              clear c1'
              go_wp2
              go_loopw [4, 7] (fun b q wr => ∃ r : Nat, r ≤ m ∧ q = .int .i64 (r : Int) ∧ BOwn wr w.heap.size b (out ++ List.replicate (m - r) c) ∧ Below w.heap.size w wr) (fun _ q _ => (intOf q).toNat)
              case atStart => exact ⟨m, by omega, rfl, by simpa using hrow, hb⟩
              case round =>
                obtain ⟨r, hr, rfl, hrow2, hb2⟩ := hrel
                clear hrow hb e1
                have hsz := hb2.size
                have hq40 : (out ++ List.replicate (m - r) c).length ≤ 40 := by simp; omega
                by_cases hrp : 0 < r
                · have HRS : Hid (m - r + 1 = m - (r - 1)) := by unfold Hid; omega
                  go_wp2_with (at_builtin; refine wpList_pushB c (.tmp 52) (.tmp 54) rfl rfl w.heap.size _ _ rfl hrow2 rfl (by omega) hsz ?_; intro v' w' hrow' hg' hat')
                  rw [List.append_assoc, rep_snoc, HRS.out] at hrow'
                  go_roundw
                  case rel => exact ⟨r - 1, by omega, by go_num, hrow', hb2.grown hg' hsz (fun j hj => (hrow2.blk j hj).1)⟩
                  case measure => first | (simp [intOf]; done) | (simp [intOf]; omega)
                · obtain rfl : r = 0 := by omega
                  have HT := Lib.hid (turn_sub HCU.out)
                  rw [Nat.sub_zero] at hrow2
                  go_wp2
                  go_roundw
                  case rel => exact ⟨k + 1, turnC c, out ++ List.replicate m c, by omega, by go_num, by have := HT.out; go_num, turn_ud HCU.out, hrow2, by simp; omega, HO2, Lib.hid (by have := HR0.out; simpa using this), hb2⟩
                  case measure => first | (simp [intOf]; done) | (simp [intOf]; omega)
      · have HX : Hid (out = N ∧ true = R) := by
          have h1 := HO.out
          have h2 := HR.out
          rw [List.drop_of_length_le (by rw [HN.out]; omega)] at h1 h2
          exact ⟨by simpa [runL] using h1, h2⟩
        have hcv := run_str_own hrow
        go_wp2
        go_ret2
        obtain ⟨rfl, rfl⟩ := HX.out
        exact ⟨rfl, hb⟩
set_option maxHeartbeats 400000 in
theorem specPathOfRuns_ret (v : Value) (xs : List Int) (w : World) (h : RInts w v xs) (hl : xs.length ≤ 1048576) :
    Calls Try.prog 40 #[v] w (Ret w (.tuple #[.string (runsV xs), .bool (areRunsB xs)])) := by
  unfold runsV
  by_cases c1 : 41 < xs.length
  · rw [areRunsB_long c1]
    obtain ⟨A0, cap, rfl⟩ := h.shape
    clear h
    go_enter Try.func40, Try.ntmps40
    go_wp2
    go_ret2
    exact ⟨rfl, Below.refl _ _⟩
  · by_cases c2 : xs.length = 1 ∧ xs.getD 0 0 = 0
    · rw [areRunsB_one c2.1 c2.2]
      obtain ⟨g, o, cc, rfl, hg, hcells⟩ := h.cells (by omega)
      have e0 := hcells 0 (by omega)
      rw [Nat.add_zero, c2.2] at e0
      have j1 : ((xs.length : Int) == 1) = true := beq_iff_eq.2 (by omega)
      have j2 : 0 < xs.length := by omega
      clear h hcells c2
      generalize xs.length = n at *
      go_enter Try.func40, Try.ntmps40
      go_wp2
      go_ret2
      exact ⟨rfl, Below.refl _ _⟩
    · rcases Bool.eq_false_or_eq_true (allB 0 40 xs) with c3 | c3
      · rw [areRunsB_run c2]
        exact specRuns_loop v xs w h (by omega) c2 c3
      · rw [areRunsB_all c3]
        have H := Lib.hid h
        by_cases hn : xs.length = 1
        · obtain ⟨g, o, cc, rfl, hg, hcells⟩ := h.cells (by omega)
          have e0 := hcells 0 (by omega)
          rw [Nat.add_zero] at e0
          have j1 : ((xs.length : Int) == 1) = true := beq_iff_eq.2 (by omega)
          have j2 : 0 < xs.length := by omega
          have j3 : (xs.getD 0 0 == 0) = false := beq_eq_false_iff_ne.2 (fun e2 => c2 ⟨hn, e2⟩)
          clear h hcells c2 hn
          generalize xs.getD 0 0 = x0 at *
          have j4 : ¬ (41 : Int) < (xs.length : Int) := by omega
          have HL := Lib.hid hl
          go_enter Try.func40, Try.ntmps40
          go_wp2_with fail
          refine (all_any _ xs 0 40 _ H.out HL.out).mono ?_
          rintro e w' ⟨rfl, rfl⟩
          rw [c3]
          go_wp2_with fail
          go_ret2
          exact ⟨rfl, Below.refl _ _⟩
        · obtain ⟨A0, cap, rfl⟩ := h.shape
          have j1 : ((xs.length : Int) == 1) = false := beq_eq_false_iff_ne.2 (by omega)
          have j4 : ¬ (41 : Int) < (xs.length : Int) := by omega
          have HL := Lib.hid hl
          clear h c2 hn
          go_enter Try.func40, Try.ntmps40
          go_wp2_with fail
          refine (all_any _ xs 0 40 _ H.out HL.out).mono ?_
          rintro e w' ⟨rfl, rfl⟩
          rw [c3]
          go_wp2_with fail
          go_ret2
          exact ⟨rfl, Below.refl _ _⟩
end Go.Proofs.Ytdekjmbbogddgab
