/- Pack 30 of what FnFansAndCubes needs: RankI, AllI, AllJ. -/
import Derived.Test.YtmfcknlpbliehabKFnFansAndCubes29
import Derived.Laws.EntriesVeiled
/- countOfForests, the program's RankOfTree. -/
namespace Go.Proofs.Ytmfcknlpbliehab
open Go.RowKit
set_option linter.unusedVariables false
theorem numN_alt (n t : Nat) (hn : 0 < n) (ht : t ≤ n) : numN n t = chs ((n - t) + (n - 1)) (n - 1) * t / n := by
  unfold numN
  by_cases h0 : t = 0
  · subst h0
    rw [if_pos (.inr rfl), if_neg (by omega), Nat.mul_zero, Nat.zero_div]
  · rw [if_neg (by omega), if_neg (by omega)]
    have h1 := chs_absorb ((n - t) + (n - 1)) (n - 1)
    rw [show n - 1 + 1 = n by omega, show n - t + (n - 1) + 1 = 2 * n - t by omega] at h1
    generalize chs (2 * n - t) n = C1 at *
    generalize chs ((n - t) + (n - 1)) (n - 1) = C0 at *
    have hM : 0 < 2 * n - t := by omega
    generalize 2 * n - t = M at *
    rw [← Nat.mul_div_mul_left (C1 * t) M hn, ← Nat.mul_div_mul_left (C0 * t) n hM, ← Nat.mul_assoc, h1, Nat.mul_assoc, Nat.mul_comm n M]
theorem numN_far (n t : Nat) (hn : 0 < n) (ht : n < t) : numN n t = 0 := by
  unfold numN
  rw [if_neg (by omega), if_pos ht]
set_option maxHeartbeats 800000 in
theorem countOf_any (n t : Nat) (w : World) (hn : n ≤ 16) (ht : t ≤ 1000) :
    Calls Try.prog 55 #[.int .i64 t, .int .i64 n] w fun e w' => e = .returned (.int .i64 (numN n t : Nat)) ∧ w = w' := by
  by_cases h0 : n = 0
  · subst h0
    by_cases h1 : t = 0
    · subst h1
      go_enter Try.func55, Try.ntmps55
      go_wp2
      go_ret
      exact ⟨rfl, rfl⟩
    · have e : numN 0 t = 0 := by unfold numN; rw [if_pos (.inl rfl), if_neg (by omega)]
      have q : ((t : Int) == 0) = false := beq_eq_false_iff_ne.2 (by omega)
      rw [e]
      go_enter Try.func55, Try.ntmps55
      go_wp2
      go_ret
      exact ⟨rfl, rfl⟩
  · have q0 : ((n : Int) == 0) = false := beq_eq_false_iff_ne.2 (by omega)
    by_cases h2 : n < t
    · rw [numN_far n t (by omega) h2]
      have HC : Hid (∀ w, Calls Try.prog 67 #[.int .i64 ((n : Int) - 1), .int .i64 ((n : Int) - (t : Int))] w fun e w' => e = .returned (.tuple #[.int .i64 0, .bool false]) ∧ w = w') := Lib.hid fun w => count_no _ _ w (by omega)
      have m3 : (0 : Int) < (n : Int) := by omega
      have HZ : Hid ((0 : Int).tdiv (n : Int) = 0) := Lib.hid (Int.zero_tdiv _)
      go_enter Try.func55, Try.ntmps55
      go_wp2_with (go_at_call 67; refine (HC.out _).mono ?_; rintro e w1 ⟨rfl, rfl⟩)
      go_ret
      exact ⟨by simp, rfl⟩
    · rw [numN_alt n t (by omega) (by omega)]
      have HC : Hid (∀ w, Calls Try.prog 67 #[.int .i64 ((n : Int) - 1), .int .i64 ((n : Int) - (t : Int))] w fun e w' => e = .returned (.tuple #[.int .i64 (chs ((n - t) + (n - 1)) (n - 1) : Nat), .bool true]) ∧ w = w') := Lib.hid fun w => by
        have := count_yes (n - 1) (n - t) w (by omega)
        rwa [show ((n - 1 : Nat) : Int) = (n : Int) - 1 by omega, show ((n - t : Nat) : Int) = (n : Int) - (t : Int) by omega] at this
      have hc := chs_small40 ((n - t) + (n - 1)) (n - 1) (by omega)
      have HD : Hid (((chs ((n - t) + (n - 1)) (n - 1) * t / n : Nat) : Int) = ((chs ((n - t) + (n - 1)) (n - 1) : Nat) : Int) * (t : Int) / (n : Int)) := by
        unfold Hid
        rw [Int.natCast_ediv, Int.natCast_mul]
      rw [HD.out]
      clear HD
      generalize chs ((n - t) + (n - 1)) (n - 1) = C at *
      have m0 : C * t ≤ 1099511627776 * 16 := Nat.mul_le_mul hc (by omega)
      have m1 : (C : Int) * (t : Int) ≤ 17592186044416 := by
        rw [← Int.natCast_mul]
        exact Int.ofNat_le.2 m0
      have m2 : (0 : Int) ≤ (C : Int) * (t : Int) := by
        rw [← Int.natCast_mul]
        exact Int.natCast_nonneg _
      have m3 : (0 : Int) < (n : Int) := by omega
      clear m0
      go_enter Try.func55, Try.ntmps55
      go_wp2_with (go_at_call 67; refine (HC.out _).mono ?_; rintro e w1 ⟨rfl, rfl⟩)
      go_ret
      exact ⟨rfl, rfl⟩
end Go.Proofs.Ytmfcknlpbliehab

/- The program's AllTrees: grow, the closure. -/
namespace Go.Proofs.Ytmfcknlpbliehab
open Go.RowKit
set_option linter.unusedVariables false
theorem cell_sameA {w w' : World} {g j : Nat} (h : w'.heap[g]? = w.heap[g]?) : w'.cell? ⟨g, j, none⟩ = w.cell? ⟨g, j, none⟩ := World.cell?_of_block (a := ⟨g, j, none⟩) h
theorem frozen_sameA {w w' : World} {g j : Nat} (h : w'.heap[g]? = w.heap[g]?) : w'.frozen? ⟨g, j, none⟩ = w.frozen? ⟨g, j, none⟩ := World.frozen?_of_block (a := ⟨g, j, none⟩) h
abbrev UnitA : Value := .tuple #[]
abbrev growV (B D : Nat) : Value := .func (.func 53) #[] #[.pointer (some ⟨B, 0, none⟩), .pointer (some ⟨B + 1, 0, none⟩), .pointer (some ⟨D, 0, none⟩), .pointer (some ⟨D + 1, 0, none⟩)]
/-- the variables of AllTrees that grow holds: n, the trees so far, the list, grow itself -/
structure GInv (B g D n c : Nat) (w : World) (xs : List Int) (AA : List (List Int)) : Prop where
  size : D + 2 ≤ w.heap.size
  pos : B + 2 ≤ g ∧ g < D
  hn : w.cell? ⟨B, 0, none⟩ = some (.int .i64 (n : Int))
  row : IRow w (B + 2) (.slice (some ⟨g, 0, none⟩) n c) xs
  len : xs.length = n
  ld : w.cell? ⟨D, 0, none⟩ = some (.slice (some ⟨g, 0, none⟩) n c)
  fn : w.cell? ⟨D + 1, 0, none⟩ = some (growV B D)
  fz : w.frozen? ⟨B + 1, 0, none⟩ = false
  all : ∃ v vs M, w.cell? ⟨B + 1, 0, none⟩ = some v ∧ D + 2 ≤ M ∧ TRow w (D + 2) M v vs AA
theorem GInv.set {B g D n c : Nat} {w : World} {xs : List Int} {AA : List (List Int)} (h : GInv B g D n c w xs AA) (p : Nat) (d : Int) :
    GInv B g D n c (w.setCell ⟨g, p, none⟩ (.int .i64 d)) (xs.set p d) AA ∧ Below B w (w.setCell ⟨g, p, none⟩ (.int .i64 d)) := by
  have hs := h.row.set p d
  have hp := h.pos
  have hz := h.size
  have hk : ∀ k, k ≠ g → (w.setCell ⟨g, p, none⟩ (.int .i64 d)).heap[k]? = w.heap[k]? := fun k hk => Below.heap_setCell _ _ _ _ (by simpa using hk)
  obtain ⟨v, vs, M, h1, h2, h3⟩ := h.all
  refine ⟨⟨by simp [World.setCell]; exact hz, hp, (cell_sameA (hk _ (by omega))).trans h.hn, hs.1, by rw [List.length_set]; exact h.len, (cell_sameA (hk _ (by omega))).trans h.ld, (cell_sameA (hk _ (by omega))).trans h.fn,
    by rw [World.frozen?_setCell]; exact h.fz, v, vs, M, (cell_sameA (hk _ (by omega))).trans h1, h2, h3.keep hs.2 (fun k e => .inl (by injection e with e; omega))⟩,
    ⟨rfl, rfl, rfl, by simp [World.setCell], fun k hkb => hk k (by omega)⟩⟩
theorem GInv.more {B g D n c : Nat} {w w1 w2 : World} {xs : List Int} {AA : List (List Int)} {v v' u : Value} {vs : List Value} {M : Nat} {o : Obj} (h : GInv B g D n c w xs AA)
    (h1 : w.cell? ⟨B + 1, 0, none⟩ = some v) (h2 : D + 2 ≤ M) (h3 : TRow w (D + 2) M v vs AA) (hb1 : Below w.heap.size w w1) (hu : IRow w1 w.heap.size u xs)
    (hr : VRow w2 (D + 2) v' (vs ++ [u])) (hg : (w1.alloc o).grownBy w2 v.ownBlock) (hat : v'.ownBlock = v.ownBlock ∨ ∃ g, v'.ownBlock = some g ∧ (w1.alloc o).heap.size ≤ g) :
    GInv B g D n c (w2.setCell ⟨B + 1, 0, none⟩ v') xs (AA ++ [xs]) ∧ Below B w (w2.setCell ⟨B + 1, 0, none⟩ v') := by
  have hg2 := grown_alloc_left hg
  have hp := h.pos
  have hz := h.size
  have hz1 := hb1.size
  have hz2 := hg2.size
  have hM := h3.size
  have k1 : ∀ k, k < D + 2 → w2.heap[k]? = w.heap[k]? := fun k hk => (hg2.block k (by omega) (fun e => by have := h3.outB k e.symm; omega)).trans (hb1.block k (by omega))
  have hk : ∀ k, k ≠ B + 1 → (w2.setCell ⟨B + 1, 0, none⟩ v').heap[k]? = w2.heap[k]? := fun k hk => Below.heap_setCell _ _ _ _ (by simpa using hk)
  have ht := (h3.below hb1).push (hu.mono hM) h2 hr hg2 (hat_alloc hat)
  have hsc : w2.grownBy (w2.setCell ⟨B + 1, 0, none⟩ v') (some (B + 1)) := ⟨rfl, rfl, rfl, by simp [World.setCell], fun k _ hne => hk k (fun e => hne (by rw [e]))⟩
  have e1 : w2.cell? ⟨B + 1, 0, none⟩ = some v := (cell_sameA (k1 _ (by omega))).trans h1
  refine ⟨⟨by simp [World.setCell]; omega, hp, (cell_sameA ((hk _ (by omega)).trans (k1 _ (by omega)))).trans h.hn, ?_, h.len, (cell_sameA ((hk _ (by omega)).trans (k1 _ (by omega)))).trans h.ld, (cell_sameA ((hk _ (by omega)).trans (k1 _ (by omega)))).trans h.fn,
    by rw [World.frozen?_setCell, frozen_sameA (k1 _ (by omega))]; exact h.fz, v', vs ++ [u], w2.heap.size, World.cell?_setCell_same w2 ⟨B + 1, 0, none⟩ _ e1, by omega, ht.keep hsc (fun k e => .inl (by injection e with e; omega))⟩,
    ⟨hg2.os.trans hb1.os, hg2.tape.trans hb1.tape, hg2.output.trans hb1.output, by simp [World.setCell]; omega, fun k hkb => (hk k (by omega)).trans (k1 k (by omega))⟩⟩
  have r1 : IRow w1 (B + 2) (.slice (some ⟨g, 0, none⟩) n c) xs := h.row.below hb1
  have r2 : IRow w2 (B + 2) (.slice (some ⟨g, 0, none⟩) n c) xs := World.ownsRow.kept r1 hg2 (.inr (fun e => by have := h3.outB g e.symm; omega))
  exact World.ownsRow.kept r2 hsc (.inr (fun e => by injection e with e; exact absurd (show g = B + 1 from e) (by omega)))
set_option maxHeartbeats 1600000 in
theorem grow_any (B g D n c : Nat) (hn7 : n ≤ 7) (hc : n ≤ c ∧ c ≤ maxLen) : ∀ (q p a : Nat), p + q = n → a ≤ q → (0 < q → 1 ≤ a) → ∀ (w : World) (xs : List Int) (AA : List (List Int)), AA.length + 7 ^ q ≤ 2000000 → GInv B g D n c w xs AA →
    Calls Try.prog 53 #[.int .i64 (p : Int), .int .i64 (a : Int), .pointer (some ⟨B, 0, none⟩), .pointer (some ⟨B + 1, 0, none⟩), .pointer (some ⟨D, 0, none⟩), .pointer (some ⟨D + 1, 0, none⟩)] w
      fun e w' => e = .returned UnitA ∧ ∃ xs', xs'.take p = xs.take p ∧ GInv B g D n c w' xs' (AA ++ behind (xs.take p) (allF q a)) ∧ Below B w w' := by
  intro q
  induction q with
  | zero =>
    intro p a hpq ha ha1 w xs AA hlen hi
    have ha0 : a = 0 := by omega
    have hpn : p = n := by omega
    subst ha0 hpn
    have e1 := hi.hn
    have e2 := hi.ld
    have e3 := hi.fz
    have hz := hi.size
    have hps := hi.pos
    obtain ⟨v, vs, M, h1, h2, h3⟩ := hi.all
    have HL3 := Lib.hid h3.len
    have hl3 := h3.len
    obtain ⟨A, cv, rfl⟩ := h3.out.shape
    rw [hl3] at h1 h3
    clear hl3
    have hHC : Hid (∀ W, (∃ m, W = w.drewN m) → Calls Try.prog 54 #[.slice (some ⟨g, 0, none⟩) p c] W (IntsNew W xs)) := Lib.hid fun W hW => by
      obtain ⟨m, rfl⟩ := hW
      exact cloneI_any _ _ _ (RInts.of_row (hi.row.drewN m)) (by have := hi.len; omega)
    have HI := Lib.hid hi
    have H3 := Lib.hid h3
    have HQ : Hid (∀ w1 w2 o, Below w.heap.size w w1 → (w1.alloc o).grownBy w2 (Value.slice A AA.length cv).ownBlock → w2.heap[B + 1]? = w.heap[B + 1]?) := Lib.hid fun w1 w2 o hb hg => by
      have hg2 := grown_alloc_left hg
      have := hb.size
      exact (hg2.block _ (by omega) (fun e => by have := h3.outB _ e.symm; omega)).trans (hb.block _ (by omega))
    have HB0 : Hid (AA ++ behind (xs.take p) (allF 0 0) = AA ++ [xs]) := Lib.hid (by rw [List.take_of_length_le (by have := hi.len; omega)]; simp [behind, allF])
    clear hi h3
    have hbd : Below w.heap.size w w.drew := (Below.refl _ _).drew
    have eL : ∀ w1, Below w.heap.size w w1 → w1.cell? ⟨B + 1, 0, none⟩ = some (.slice A AA.length cv) := fun w1 hb => (hb.cell (p := ⟨B + 1, 0, none⟩) (by show B + 1 < _; omega)).trans h1
    have eF : ∀ w1, Below w.heap.size w w1 → w1.frozen? ⟨B + 1, 0, none⟩ = false := fun w1 hb => (frozen_sameA (hb.block _ (by omega))).trans e3
    go_enter Try.func53, Try.ntmps53
    go_wp2_with fail
    go_region_law (first
      | (go_simp; go_at_call 54; refine (hHC.out w.drew ⟨1, rfl⟩).mono ?_; rintro e w1 ⟨u, rfl, hu, hb1⟩; obtain ⟨Au, cu, rfl⟩ := hu.shape; have hbb1 := hbd.trans hb1; have eL1 := eL w1 hbb1; have eL2 := fun o => eL (w1.alloc o) (hbb1.alloc hbb1.size o))
      | (refine step_pushV (.tmp 12) (.tmp 15) rfl rfl (D + 2) _ vs (by rfl) ((H3.out.below hbb1).out.alloc _) w1.heap.size _ (by rfl) (by simp; rfl) rfl (by rw [HL3.out]; omega) (by have := hbb1.size; simp; omega) ?_; intro v2 w2 hr2 hg2 hat2; obtain ⟨A2, c2, rfl⟩ := hr2.shape; rw [List.length_append, List.length_singleton, HL3.out] at hr2 hat2 ⊢; have HR2 := Lib.hid hr2; have HM := Lib.hid (HI.out.more h1 h2 H3.out hbb1 hu hr2 hg2 hat2); have f2 : w2.frozen? ⟨B + 1, 0, none⟩ = false := (frozen_sameA (HQ.out w1 w2 _ hbb1 hg2)).trans e3; have e22 := (cell_sameA (j := 0) (HQ.out w1 w2 _ hbb1 hg2)).trans h1))
    all_goals (try go_wp2_with fail)
    all_goals (refine bodyPost_ret (results_none rfl _ _ _) rfl ?_)
    all_goals exact ⟨rfl, xs, rfl, by rw [HB0.out]; exact HM.out.1, HM.out.2⟩
  | succ m ih =>
    intro p a hpq ha ha1 w xs AA hlen hi
    have hp : p < n := by omega
    have h1a : 1 ≤ a := ha1 (by omega)
    have hAll := Lib.hid (allD_all m a n h1a ha (by omega))
    have hx := hi.len
    have HCT : Hid (∀ d, d < n → ∀ W, Calls Try.prog 55 #[.int .i64 ((a : Int) - 1 + (d : Int)), .int .i64 ((n : Int) - (p : Int) - 1)] W fun e w' => e = .returned (.int .i64 (numN m (a - 1 + d) : Nat)) ∧ W = w') := Lib.hid fun d hd W => by
      have := countOf_any m (a - 1 + d) W (by omega) (by omega)
      rwa [show ((a - 1 + d : Nat) : Int) = (a : Int) - 1 + (d : Int) by omega, show ((m : Nat) : Int) = (n : Int) - (p : Int) - 1 by omega] at this
    have HREC : Hid (∀ d, numN m (a - 1 + d) ≠ 0 → ∀ (W : World) (ys : List Int) (BB : List (List Int)), BB.length + 7 ^ m ≤ 2000000 → GInv B g D n c W ys BB →
        Calls Try.prog 53 #[.int .i64 ((p : Int) + 1), .int .i64 ((a : Int) - 1 + (d : Int)), .pointer (some ⟨B, 0, none⟩), .pointer (some ⟨B + 1, 0, none⟩), .pointer (some ⟨D, 0, none⟩), .pointer (some ⟨D + 1, 0, none⟩)] W
          fun e w' => e = .returned UnitA ∧ ∃ xs', xs'.take (p + 1) = ys.take (p + 1) ∧ GInv B g D n c w' xs' (BB ++ behind (ys.take (p + 1)) (allF m (a - 1 + d))) ∧ Below B W w') := Lib.hid fun d hd W ys BB hB hi => by
      obtain ⟨q1, q2⟩ := num_pos _ _ hd
      have := ih (p + 1) (a - 1 + d) (by omega) q1 q2 W ys BB hB hi
      rwa [show ((a - 1 + d : Nat) : Int) = (a : Int) - 1 + (d : Int) by omega, Int.natCast_add, Int.natCast_one] at this
    have HLN : Hid (∀ d, d < n → (AA ++ behind (xs.take p) (allD (allF m) a d)).length + 7 ^ m ≤ 2000000) := Lib.hid fun d hd => by
      have h1 := allD_len (allF m) a (7 ^ m) (fun u => allF_len m u (by omega)) d
      have h2 : (d + 1) * 7 ^ m ≤ 7 * 7 ^ m := Nat.mul_le_mul_right _ (by omega)
      rw [List.length_append, behind_length]
      rw [Nat.pow_succ, Nat.mul_comm (7 ^ m)] at hlen
      rw [Nat.add_mul, Nat.one_mul] at h2
      omega
    have HST : Hid (∀ d, allD (allF m) a (d + 1) = allD (allF m) a d ++ preD d (allF m (a - 1 + d))) := Lib.hid fun _ => rfl
    have e1 := hi.hn
    have HI := Lib.hid hi
    have HLEN := Lib.hid hlen
    have HX := Lib.hid hx
    have hmn : m < n := by omega
    have ha7 : a ≤ 7 := by omega
    clear ih hi hlen hx ha1 ha hpq
    go_enter Try.func53, Try.ntmps53
    have c0 : ((p : Int) == (n : Int)) = false := beq_eq_false_iff_ne.2 (by omega)
    go_wp2_with fail
    go_loopw [8, 18] (fun q1 i wr => ∃ (d : Nat) (ys : List Int), d ≤ n ∧ i = .int .i64 (d : Int) ∧ Hid (ys.take p = xs.take p) ∧ GInv B g D n c wr ys (AA ++ behind (xs.take p) (allD (allF m) a d)) ∧ Below B w wr) (fun _ i _ => n - (intOf i).toNat)
    case atStart => exact ⟨0, xs, by omega, rfl, Lib.hid rfl, by simpa [allD, behind] using HI.out, Below.refl _ _⟩
    case round =>
      obtain ⟨d, ys, hd, rfl, HYS, hgi, hb⟩ := hrel
      clear e1
      by_cases hlt : d < n
      · have HC1 := Lib.hid (HCT.out d hlt)
        have HS1 := Lib.hid (HST.out d)
        have e1 := hgi.hn
        have e2 := hgi.ld
        by_cases hnum : numN m (a - 1 + d) = 0
        · have HG := Lib.hid hgi
          have HB := Lib.hid hb
          have hz := Lib.hid (num_zero m (a - 1 + d) (by omega) hnum)
          rw [hnum] at HC1
          clear hgi hb hnum HREC HLN HCT
          go_wp2_with (go_at_call 55; refine (HC1.out _).mono ?_; rintro e w1 ⟨rfl, rfl⟩)
          go_roundw
          case rel => exact ⟨d + 1, ys, by omega, by go_num, HYS, by rw [HS1.out, hz.out]; simpa [preD] using HG.out, HB.out⟩
          case measure => first | (simp [intOf]; done) | (simp [intOf]; omega)
        · have hpos : (0 : Int) < ((numN m (a - 1 + d) : Nat) : Int) := by omega
          obtain ⟨hset, hsb⟩ := hgi.set p (d : Int)
          have e3 := hgi.row.free p
          have e4 := hgi.row.cell (j := p) (by rw [hgi.len]; exact hp)
          have e5 := hset.fn
          have hR := Lib.hid (HREC.out d hnum _ _ _ (HLN.out d hlt) hset)
          have hyl := hgi.len
          have HTK : Hid ((ys.set p (d : Int)).take (p + 1) = xs.take p ++ [(d : Int)]) := Lib.hid (by rw [take_set_next _ _ _ (by omega), HYS.out])
          have HB := Lib.hid (hb.trans hsb)
          clear hgi hb hnum HREC HLN HCT hset hsb hyl
          generalize numN m (a - 1 + d) = N at *
          go_wp2_with (first
            | (go_at_call 55; refine (HC1.out _).mono ?_; rintro e w1 ⟨rfl, rfl⟩)
            | (go_at_call 53; refine hR.out.mono ?_; rintro e w2 ⟨rfl, zs, hzs, hg2, hb2⟩))
          have HZ : Hid (zs.take p = xs.take p) := Lib.hid (by
            have h := congrArg (List.take p) (hzs.trans HTK.out)
            rw [List.take_take, Nat.min_eq_left (by omega)] at h
            rw [h, List.take_append_of_le_length (by rw [List.length_take, HX.out]; omega), List.take_take, Nat.min_self])
          have HG := Lib.hid hg2
          have HB2 := Lib.hid (HB.out.trans hb2)
          clear hzs hg2 hb2 hR
          go_roundw
          case rel => exact ⟨d + 1, zs, by omega, by go_num, HZ, by rw [HS1.out, behind_app, ← behind_pre, ← HTK.out, ← List.append_assoc]; exact HG.out, HB2.out⟩
          case measure => first | (simp [intOf]; done) | (simp [intOf]; omega)
      · have hdn : d = n := by omega
        subst hdn
        go_wp2_with fail
        go_end0
        rw [← hAll.out]
        exact ⟨rfl, ys, HYS.out, hgi, hb⟩
end Go.Proofs.Ytmfcknlpbliehab

/- The program's AllTrees, and the model's. -/
namespace Go.Proofs.Ytmfcknlpbliehab
open Go.RowKit
set_option linter.unusedVariables false
theorem GInv.start {w w1 : World} {n : Nat} {xs : List Int} (t1 t2 t3 t4 : TypeId) (hr : IRow w1 (w.heap.size + 2) (.slice (some ⟨w.heap.size + 2, 0, none⟩) n n) xs) (hl : xs.length = n)
    (hb : Below (w.heap.size + 2) ((w.alloc (.cells #[.int .i64 (n : Int)] t1)).alloc (.cells #[.slice none 0 0] t2)) w1) :
    GInv w.heap.size (w.heap.size + 2) w1.heap.size n n ((w1.alloc (.cells #[.slice (some ⟨w.heap.size + 2, 0, none⟩) n n] t3)).alloc (.cells #[growV w.heap.size w1.heap.size] t4)) xs [] := by
  have hg := hr.blk _ rfl
  have k2 : ∀ k, k < w1.heap.size → ((w1.alloc (.cells #[.slice (some ⟨w.heap.size + 2, 0, none⟩) n n] t3)).alloc (.cells #[growV w.heap.size w1.heap.size] t4)).heap[k]? = w1.heap[k]? := fun k hk =>
    (Below.heap_alloc _ _ _ (by simp; omega)).trans (Below.heap_alloc _ _ _ hk)
  have k1 : ∀ k, k < w.heap.size + 2 → ((w1.alloc (.cells #[.slice (some ⟨w.heap.size + 2, 0, none⟩) n n] t3)).alloc (.cells #[growV w.heap.size w1.heap.size] t4)).heap[k]? = ((w.alloc (.cells #[.int .i64 (n : Int)] t1)).alloc (.cells #[.slice none 0 0] t2)).heap[k]? := fun k hk =>
    (k2 k (by omega)).trans (hb.block k hk)
  refine ⟨by simp, ⟨Nat.le_refl _, hg.2⟩, ?_, (hr.alloc _).alloc _, hl, ?_, ?_, ?_, .slice none 0 0, [], w1.heap.size + 2, ?_, Nat.le_refl _, TRow.nil (by simp)⟩
  · rw [cell_sameA (k1 _ (by omega)), World.cell?_alloc_past _ _ _ (by simp), World.cell?_alloc_at _ _ _ _ rfl]; rfl
  · rw [World.cell?_alloc_past _ _ _ (by simp), World.cell?_alloc_at _ _ _ _ rfl]; rfl
  · rw [World.cell?_alloc_at _ _ _ _ (by simp)]; rfl
  · rw [frozen_sameA (k1 _ (by omega)), World.frozen?_alloc_at _ _ _ _ (by simp)]
  · rw [cell_sameA (k1 _ (by omega)), World.cell?_alloc_at _ _ _ _ (by simp)]; rfl
set_option maxRecDepth 100000 in
set_option maxHeartbeats 800000 in
theorem allTrees_yes (m : Nat) (h1 : 1 ≤ m) (h7 : m ≤ 7) (w : World) : Calls Try.prog 27 #[.int .i64 (m : Int)] w (TabsRet w true (allF m 1)) := by
  obtain ⟨i0, hi, hz0, hz1, hz2⟩ := info_parts intInfo
  have hmf : ∀ (fn : Fn) (first cap : Array Value) (w : World), (Instr.makeFunc fn first cap).run Try.prog w = .ok (.func fn first cap) w := fun _ _ _ _ => rfl
  go_enter Try.func27, Try.ntmps27
  go_wp2_with (refine wpList_make_full _ rfl (.tmp 13) (.tmp 13) 24 rfl (w.heap.size + 2) 3 i0 (.int .i64 0) 1 Try.underlying24 hi hz0 hz1 .i64 .i64 _ _ m rfl rfl (by omega) (by omega) (by rw [hz2]; omega) (by unfold maxLen; omega) (by simp) ?_; intro w1 hown1 hgrow1)
  have hbs : Below w.heap.size w ((w.alloc (.cells #[.int .i64 (m : Int)] 3)).alloc (.cells #[.slice none 0 0] 46)) := ((Below.refl _ _).alloc (Nat.le_refl _) _).alloc (by simp) _
  have hb1 : Below w.heap.size w w1 := hbs.grown hgrow1 (by simp; omega) (by simp)
  have hb0 : Below (w.heap.size + 2) ((w.alloc (.cells #[.int .i64 (m : Int)] 3)).alloc (.cells #[.slice none 0 0] 46)) w1 :=
    ⟨hgrow1.os, hgrow1.tape, hgrow1.output, hgrow1.size, fun k hk => hgrow1.block k (by simp; omega) (by simp)⟩
  have hrow1 : IRow w1 (w.heap.size + 2) (.slice (some ⟨w.heap.size + 2, 0, none⟩) m m) (List.replicate m 0) := by
    have := IRow.of_own (xs := List.replicate m 0) hown1 (by simp) (by rw [madeOne _ rfl]; simp)
    simpa using this
  have hgi := GInv.start 3 46 24 77 hrow1 (by simp) hb0
  have hz1 := hb1.size
  have hbb : Below w.heap.size w ((w1.alloc (.cells #[.slice (some ⟨w.heap.size + 2, 0, none⟩) m m] 24)).alloc (.cells #[growV w.heap.size w1.heap.size] 77)) := (hb1.alloc hz1 _).alloc (by simp; omega) _
  have HG := Lib.hid (grow_any w.heap.size (w.heap.size + 2) w1.heap.size m m h7 ⟨Nat.le_refl _, by unfold maxLen; omega⟩ m 0 1 (by omega) h1 (fun _ => Nat.le_refl _) _ _ [] (by
    have h2 : 7 ^ m ≤ 7 ^ 7 := Nat.pow_le_pow_right (by omega) h7
    have h3 : 7 ^ 7 = 823543 := by decide
    simp only [List.length_nil]
    omega) hgi)
  refine HG.out.mono ?_
  rintro e w2 ⟨rfl, ys, _, hg2, hb2⟩
  have hB2 := Lib.hid (hbb.trans hb2)
  obtain ⟨v, vs, M, e1, hM, ht⟩ := hg2.all
  have HT := Lib.hid ht
  have hlt := ht.len
  obtain ⟨A, c, rfl⟩ := ht.out.shape
  have hD := hg2.size
  clear hgi hbb hb1 hb0 hbs hrow1 hown1 hgrow1 hb2 hg2 HG ht hlt
  go_wp2_with fail
  go_ret2
  have hx := HT.out
  rw [List.take_zero, behind_nil, List.nil_append] at hx
  exact ⟨_, vs, rfl, hx.mono (by omega) hx.size (Nat.le_refl _), hB2.out⟩
set_option maxRecDepth 100000 in
set_option maxHeartbeats 400000 in
theorem allTrees_no (n : Int) (h : ¬ (1 ≤ n ∧ n ≤ 7)) (w : World) : Calls Try.prog 27 #[.int .i64 n] w (TabsRet w false []) := by
  have hb := (Below.refl w.heap.size w).alloc (Nat.le_refl _) (.cells #[.int .i64 n] 3)
  by_cases h1 : n < 1
  · go_enter Try.func27, Try.ntmps27
    go_wp2_with fail
    go_ret2
    exact ⟨_, [], rfl, TRow.nil (by simp), hb⟩
  · have h2 : 7 < n := by omega
    go_enter Try.func27, Try.ntmps27
    go_wp2_with fail
    go_ret2
    exact ⟨_, [], rfl, TRow.nil (by simp), hb⟩
theorem allTrees_ret (n : Int) (w : World) : Calls Try.prog 27 #[.int .i64 n] w (TabsRet w (allOk n) (allV n)) := by
  by_cases h : 1 ≤ n ∧ n ≤ 7
  · have e1 : allOk n = true := by simp [allOk, h]
    have e2 : allV n = allF n.toNat 1 := by rw [allV, if_pos e1]
    obtain ⟨m, rfl⟩ : ∃ m : Nat, n = m := ⟨n.toNat, by omega⟩
    rw [e1, e2, Int.toNat_natCast]
    exact allTrees_yes m (by omega) (by omega) w
  · have e1 : allOk n = false := by simp [allOk]; omega
    have e2 : allV n = [] := by rw [allV, e1]; rfl
    rw [e1, e2]
    exact allTrees_no n h w
theorem allV_flat (n : Int) : (allV n).flatten.length ≤ 1048576 := by
  unfold allV
  split
  · rename_i h
    have h' : 1 ≤ n ∧ n ≤ 7 := by simpa [allOk] using h
    exact allF_small n.toNat (by omega)
  · simp
theorem allV_len (n : Int) : (allV n).length ≤ 1048576 := by
  unfold allV
  split
  · rename_i h
    have h' : 1 ≤ n ∧ n ≤ 7 := by simpa [allOk] using h
    have h1 := allF_len n.toNat 1 (by omega)
    have h2 : 7 ^ n.toNat ≤ 7 ^ 7 := Nat.pow_le_pow_right (by omega) (by omega)
    have h3 : 7 ^ 7 = 823543 := by decide
    omega
  · simp
end Go.Proofs.Ytmfcknlpbliehab
