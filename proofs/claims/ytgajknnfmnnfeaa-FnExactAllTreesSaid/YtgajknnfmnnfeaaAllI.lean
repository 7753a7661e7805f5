/- The program's AllTrees: grow, the closure. -/
import Derived.Test.YtgajknnfmnnfeaaAllNum
import Derived.Test.YtgajknnfmnnfeaaAllS
import Derived.Test.YtgajknnfmnnfeaaFirstI
import Derived.Test.YtgajknnfmnnfeaaRankI
import Derived.Laws.EntriesVeiled
namespace Go.Proofs.Ytgajknnfmnnfeaa
open Go.RowKit
set_option linter.unusedVariables false
theorem cell_sameA {w w' : World} {g j : Nat} (h : w'.heap[g]? = w.heap[g]?) : w'.cell? ⟨g, j, none⟩ = w.cell? ⟨g, j, none⟩ := World.cell?_of_block (a := ⟨g, j, none⟩) h
theorem frozen_sameA {w w' : World} {g j : Nat} (h : w'.heap[g]? = w.heap[g]?) : w'.frozen? ⟨g, j, none⟩ = w.frozen? ⟨g, j, none⟩ := World.frozen?_of_block (a := ⟨g, j, none⟩) h
abbrev UnitA : Value := .tuple #[]
abbrev growV (B D : Nat) : Value := .func (.func 90) #[] #[.pointer (some ⟨B, 0, none⟩), .pointer (some ⟨B + 1, 0, none⟩), .pointer (some ⟨D, 0, none⟩), .pointer (some ⟨D + 1, 0, none⟩)]
/-- the variables of AllTrees that grow holds: n, the trees so far, the list, grow itself -/
structure GInv (B g D n c : Nat) (w : World) (xs : List Int) (AA : List (List Int)) : Prop where
  size : D + 2 ≤ w.heap.size
  pos : B + 2 ≤ g ∧ g < D
  hn : w.cell? ⟨B, 0, none⟩ = some (.int .i64 (n : Int))
  row : IRow w (B + 2) (.slice (some ⟨g, 0, none⟩) n c) xs
  len : xs.length = n
  ld : w.cell? ⟨D, 0, none⟩ = some (.slice (some ⟨g, 0, none⟩) n c)
  fn : w.cell? ⟨D + 1, 0, none⟩ = some (growV B D)
  fz : w.frozen? ⟨B + 1, 0, none⟩ = false
  all : ∃ v vs M, w.cell? ⟨B + 1, 0, none⟩ = some v ∧ D + 2 ≤ M ∧ TRow w (D + 2) M v vs AA
theorem GInv.set {B g D n c : Nat} {w : World} {xs : List Int} {AA : List (List Int)} (h : GInv B g D n c w xs AA) (p : Nat) (d : Int) :
    GInv B g D n c (w.setCell ⟨g, p, none⟩ (.int .i64 d)) (xs.set p d) AA ∧ Below B w (w.setCell ⟨g, p, none⟩ (.int .i64 d)) := by
  have hs := h.row.set p d
  have hp := h.pos
  have hz := h.size
  have hk : ∀ k, k ≠ g → (w.setCell ⟨g, p, none⟩ (.int .i64 d)).heap[k]? = w.heap[k]? := fun k hk => Below.heap_setCell _ _ _ _ (by simpa using hk)
  obtain ⟨v, vs, M, h1, h2, h3⟩ := h.all
  refine ⟨⟨by simp [World.setCell]; exact hz, hp, (cell_sameA (hk _ (by omega))).trans h.hn, hs.1, by rw [List.length_set]; exact h.len, (cell_sameA (hk _ (by omega))).trans h.ld, (cell_sameA (hk _ (by omega))).trans h.fn,
    by rw [World.frozen?_setCell]; exact h.fz, v, vs, M, (cell_sameA (hk _ (by omega))).trans h1, h2, h3.keep hs.2 (fun k e => .inl (by injection e with e; omega))⟩,
    ⟨rfl, rfl, rfl, by simp [World.setCell], fun k hkb => hk k (by omega)⟩⟩
theorem GInv.more {B g D n c : Nat} {w w1 w2 : World} {xs : List Int} {AA : List (List Int)} {v v' u : Value} {vs : List Value} {M : Nat} {o : Obj} (h : GInv B g D n c w xs AA)
    (h1 : w.cell? ⟨B + 1, 0, none⟩ = some v) (h2 : D + 2 ≤ M) (h3 : TRow w (D + 2) M v vs AA) (hb1 : Below w.heap.size w w1) (hu : IRow w1 w.heap.size u xs)
    (hr : VRow w2 (D + 2) v' (vs ++ [u])) (hg : (w1.alloc o).grownBy w2 v.ownBlock) (hat : v'.ownBlock = v.ownBlock ∨ ∃ g, v'.ownBlock = some g ∧ (w1.alloc o).heap.size ≤ g) :
    GInv B g D n c (w2.setCell ⟨B + 1, 0, none⟩ v') xs (AA ++ [xs]) ∧ Below B w (w2.setCell ⟨B + 1, 0, none⟩ v') := by
  have hg2 := grown_alloc_left hg
  have hp := h.pos
  have hz := h.size
  have hz1 := hb1.size
  have hz2 := hg2.size
  have hM := h3.size
  have k1 : ∀ k, k < D + 2 → w2.heap[k]? = w.heap[k]? := fun k hk => (hg2.block k (by omega) (fun e => by have := h3.outB k e.symm; omega)).trans (hb1.block k (by omega))
  have hk : ∀ k, k ≠ B + 1 → (w2.setCell ⟨B + 1, 0, none⟩ v').heap[k]? = w2.heap[k]? := fun k hk => Below.heap_setCell _ _ _ _ (by simpa using hk)
  have ht := (h3.below hb1).push (hu.mono hM) h2 hr hg2 (hat_alloc hat)
  have hsc : w2.grownBy (w2.setCell ⟨B + 1, 0, none⟩ v') (some (B + 1)) := ⟨rfl, rfl, rfl, by simp [World.setCell], fun k _ hne => hk k (fun e => hne (by rw [e]))⟩
  have e1 : w2.cell? ⟨B + 1, 0, none⟩ = some v := (cell_sameA (k1 _ (by omega))).trans h1
  refine ⟨⟨by simp [World.setCell]; omega, hp, (cell_sameA ((hk _ (by omega)).trans (k1 _ (by omega)))).trans h.hn, ?_, h.len, (cell_sameA ((hk _ (by omega)).trans (k1 _ (by omega)))).trans h.ld, (cell_sameA ((hk _ (by omega)).trans (k1 _ (by omega)))).trans h.fn,
    by rw [World.frozen?_setCell, frozen_sameA (k1 _ (by omega))]; exact h.fz, v', vs ++ [u], w2.heap.size, World.cell?_setCell_same w2 ⟨B + 1, 0, none⟩ _ e1, by omega, ht.keep hsc (fun k e => .inl (by injection e with e; omega))⟩,
    ⟨hg2.os.trans hb1.os, hg2.tape.trans hb1.tape, hg2.output.trans hb1.output, by simp [World.setCell]; omega, fun k hkb => (hk k (by omega)).trans (k1 k (by omega))⟩⟩
  have r1 : IRow w1 (B + 2) (.slice (some ⟨g, 0, none⟩) n c) xs := h.row.below hb1
  have r2 : IRow w2 (B + 2) (.slice (some ⟨g, 0, none⟩) n c) xs := World.ownsRow.kept r1 hg2 (.inr (fun e => by have := h3.outB g e.symm; omega))
  exact World.ownsRow.kept r2 hsc (.inr (fun e => by injection e with e; exact absurd (show g = B + 1 from e) (by omega)))
set_option maxHeartbeats 1600000 in
theorem grow_any (B g D n c : Nat) (hn7 : n ≤ 7) (hc : n ≤ c ∧ c ≤ maxLen) : ∀ (q p a : Nat), p + q = n → a ≤ q → (0 < q → 1 ≤ a) → ∀ (w : World) (xs : List Int) (AA : List (List Int)), AA.length + 7 ^ q ≤ 2000000 → GInv B g D n c w xs AA →
    Calls Try.prog 90 #[.int .i64 (p : Int), .int .i64 (a : Int), .pointer (some ⟨B, 0, none⟩), .pointer (some ⟨B + 1, 0, none⟩), .pointer (some ⟨D, 0, none⟩), .pointer (some ⟨D + 1, 0, none⟩)] w
      fun e w' => e = .returned UnitA ∧ ∃ xs', xs'.take p = xs.take p ∧ GInv B g D n c w' xs' (AA ++ behind (xs.take p) (allF q a)) ∧ Below B w w' := by
  intro q
  induction q with
  | zero =>
    intro p a hpq ha ha1 w xs AA hlen hi
    have ha0 : a = 0 := by omega
    have hpn : p = n := by omega
    subst ha0 hpn
    have e1 := hi.hn
    have e2 := hi.ld
    have e3 := hi.fz
    have hz := hi.size
    have hps := hi.pos
    obtain ⟨v, vs, M, h1, h2, h3⟩ := hi.all
    have HL3 := Lib.hid h3.len
    have hl3 := h3.len
    obtain ⟨A, cv, rfl⟩ := h3.out.shape
    rw [hl3] at h1 h3
    clear hl3
    have hHC : Hid (∀ W, (∃ m, W = w.drewN m) → Calls Try.prog 69 #[.slice (some ⟨g, 0, none⟩) p c] W (IntsNew W xs)) := Lib.hid fun W hW => by
      obtain ⟨m, rfl⟩ := hW
      exact cloneI_any _ _ _ (RInts.of_row (hi.row.drewN m)) (by have := hi.len; omega)
    have HI := Lib.hid hi
    have H3 := Lib.hid h3
    have HQ : Hid (∀ w1 w2 o, Below w.heap.size w w1 → (w1.alloc o).grownBy w2 (Value.slice A AA.length cv).ownBlock → w2.heap[B + 1]? = w.heap[B + 1]?) := Lib.hid fun w1 w2 o hb hg => by
      have hg2 := grown_alloc_left hg
      have := hb.size
      exact (hg2.block _ (by omega) (fun e => by have := h3.outB _ e.symm; omega)).trans (hb.block _ (by omega))
    have HB0 : Hid (AA ++ behind (xs.take p) (allF 0 0) = AA ++ [xs]) := Lib.hid (by rw [List.take_of_length_le (by have := hi.len; omega)]; simp [behind, allF])
    clear hi h3
    have hbd : Below w.heap.size w w.drew := (Below.refl _ _).drew
    have eL : ∀ w1, Below w.heap.size w w1 → w1.cell? ⟨B + 1, 0, none⟩ = some (.slice A AA.length cv) := fun w1 hb => (hb.cell (p := ⟨B + 1, 0, none⟩) (by show B + 1 < _; omega)).trans h1
    have eF : ∀ w1, Below w.heap.size w w1 → w1.frozen? ⟨B + 1, 0, none⟩ = false := fun w1 hb => (frozen_sameA (hb.block _ (by omega))).trans e3
    go_enter Try.func90, Try.ntmps90
    go_wp2_with fail
    go_region_law (first
      | (go_simp; go_at_call 69; refine (hHC.out w.drew ⟨1, rfl⟩).mono ?_; rintro e w1 ⟨u, rfl, hu, hb1⟩; obtain ⟨Au, cu, rfl⟩ := hu.shape; have hbb1 := hbd.trans hb1; have eL1 := eL w1 hbb1; have eL2 := fun o => eL (w1.alloc o) (hbb1.alloc hbb1.size o))
      | (refine step_pushV (.tmp 12) (.tmp 15) rfl rfl (D + 2) _ vs (by rfl) ((H3.out.below hbb1).out.alloc _) w1.heap.size _ (by rfl) (by simp; rfl) rfl (by rw [HL3.out]; omega) (by have := hbb1.size; simp; omega) ?_; intro v2 w2 hr2 hg2 hat2; obtain ⟨A2, c2, rfl⟩ := hr2.shape; rw [List.length_append, List.length_singleton, HL3.out] at hr2 hat2 ⊢; have HR2 := Lib.hid hr2; have HM := Lib.hid (HI.out.more h1 h2 H3.out hbb1 hu hr2 hg2 hat2); have f2 : w2.frozen? ⟨B + 1, 0, none⟩ = false := (frozen_sameA (HQ.out w1 w2 _ hbb1 hg2)).trans e3; have e22 := (cell_sameA (j := 0) (HQ.out w1 w2 _ hbb1 hg2)).trans h1))
    all_goals (try go_wp2_with fail)
    all_goals (refine bodyPost_ret (results_none rfl _ _ _) rfl ?_)
    all_goals exact ⟨rfl, xs, rfl, by rw [HB0.out]; exact HM.out.1, HM.out.2⟩
  | succ m ih =>
    intro p a hpq ha ha1 w xs AA hlen hi
    have hp : p < n := by omega
    have h1a : 1 ≤ a := ha1 (by omega)
    have hAll := Lib.hid (allD_all m a n h1a ha (by omega))
    have hx := hi.len
    have HCT : Hid (∀ d, d < n → ∀ W, Calls Try.prog 91 #[.int .i64 ((a : Int) - 1 + (d : Int)), .int .i64 ((n : Int) - (p : Int) - 1)] W fun e w' => e = .returned (.int .i64 (numN m (a - 1 + d) : Nat)) ∧ W = w') := Lib.hid fun d hd W => by
      have := countOf_any m (a - 1 + d) W (by omega) (by omega)
      rwa [show ((a - 1 + d : Nat) : Int) = (a : Int) - 1 + (d : Int) by omega, show ((m : Nat) : Int) = (n : Int) - (p : Int) - 1 by omega] at this
    have HREC : Hid (∀ d, numN m (a - 1 + d) ≠ 0 → ∀ (W : World) (ys : List Int) (BB : List (List Int)), BB.length + 7 ^ m ≤ 2000000 → GInv B g D n c W ys BB →
        Calls Try.prog 90 #[.int .i64 ((p : Int) + 1), .int .i64 ((a : Int) - 1 + (d : Int)), .pointer (some ⟨B, 0, none⟩), .pointer (some ⟨B + 1, 0, none⟩), .pointer (some ⟨D, 0, none⟩), .pointer (some ⟨D + 1, 0, none⟩)] W
          fun e w' => e = .returned UnitA ∧ ∃ xs', xs'.take (p + 1) = ys.take (p + 1) ∧ GInv B g D n c w' xs' (BB ++ behind (ys.take (p + 1)) (allF m (a - 1 + d))) ∧ Below B W w') := Lib.hid fun d hd W ys BB hB hi => by
      obtain ⟨q1, q2⟩ := num_pos _ _ hd
      have := ih (p + 1) (a - 1 + d) (by omega) q1 q2 W ys BB hB hi
      rwa [show ((a - 1 + d : Nat) : Int) = (a : Int) - 1 + (d : Int) by omega, Int.natCast_add, Int.natCast_one] at this
    have HLN : Hid (∀ d, d < n → (AA ++ behind (xs.take p) (allD (allF m) a d)).length + 7 ^ m ≤ 2000000) := Lib.hid fun d hd => by
      have h1 := allD_len (allF m) a (7 ^ m) (fun u => allF_len m u (by omega)) d
      have h2 : (d + 1) * 7 ^ m ≤ 7 * 7 ^ m := Nat.mul_le_mul_right _ (by omega)
      rw [List.length_append, behind_length]
      rw [Nat.pow_succ, Nat.mul_comm (7 ^ m)] at hlen
      rw [Nat.add_mul, Nat.one_mul] at h2
      omega
    have HST : Hid (∀ d, allD (allF m) a (d + 1) = allD (allF m) a d ++ preD d (allF m (a - 1 + d))) := Lib.hid fun _ => rfl
    have e1 := hi.hn
    have HI := Lib.hid hi
    have HLEN := Lib.hid hlen
    have HX := Lib.hid hx
    have hmn : m < n := by omega
    have ha7 : a ≤ 7 := by omega
    clear ih hi hlen hx ha1 ha hpq
    go_enter Try.func90, Try.ntmps90
    have c0 : ((p : Int) == (n : Int)) = false := beq_eq_false_iff_ne.2 (by omega)
    go_wp2_with fail
    go_loopw [8, 18] (fun q1 i wr => ∃ (d : Nat) (ys : List Int), d ≤ n ∧ i = .int .i64 (d : Int) ∧ Hid (ys.take p = xs.take p) ∧ GInv B g D n c wr ys (AA ++ behind (xs.take p) (allD (allF m) a d)) ∧ Below B w wr) (fun _ i _ => n - (intOf i).toNat)
    case atStart => exact ⟨0, xs, by omega, rfl, Lib.hid rfl, by simpa [allD, behind] using HI.out, Below.refl _ _⟩
    case round =>
      obtain ⟨d, ys, hd, rfl, HYS, hgi, hb⟩ := hrel
      clear e1
      by_cases hlt : d < n
      · have HC1 := Lib.hid (HCT.out d hlt)
        have HS1 := Lib.hid (HST.out d)
        have e1 := hgi.hn
        have e2 := hgi.ld
        by_cases hnum : numN m (a - 1 + d) = 0
        · have HG := Lib.hid hgi
          have HB := Lib.hid hb
          have hz := Lib.hid (num_zero m (a - 1 + d) (by omega) hnum)
          rw [hnum] at HC1
          clear hgi hb hnum HREC HLN HCT
          go_wp2_with (go_at_call 91; refine (HC1.out _).mono ?_; rintro e w1 ⟨rfl, rfl⟩)
          go_roundw
          case rel => exact ⟨d + 1, ys, by omega, by go_num, HYS, by rw [HS1.out, hz.out]; simpa [preD] using HG.out, HB.out⟩
          case measure => first | (simp [intOf]; done) | (simp [intOf]; omega)
        · have hpos : (0 : Int) < ((numN m (a - 1 + d) : Nat) : Int) := by omega
          obtain ⟨hset, hsb⟩ := hgi.set p (d : Int)
          have e3 := hgi.row.free p
          have e4 := hgi.row.cell (j := p) (by rw [hgi.len]; exact hp)
          have e5 := hset.fn
          have hR := Lib.hid (HREC.out d hnum _ _ _ (HLN.out d hlt) hset)
          have hyl := hgi.len
          have HTK : Hid ((ys.set p (d : Int)).take (p + 1) = xs.take p ++ [(d : Int)]) := Lib.hid (by rw [take_set_next _ _ _ (by omega), HYS.out])
          have HB := Lib.hid (hb.trans hsb)
          clear hgi hb hnum HREC HLN HCT hset hsb hyl
          generalize numN m (a - 1 + d) = N at *
          go_wp2_with (first
            | (go_at_call 91; refine (HC1.out _).mono ?_; rintro e w1 ⟨rfl, rfl⟩)
            | (go_at_call 90; refine hR.out.mono ?_; rintro e w2 ⟨rfl, zs, hzs, hg2, hb2⟩))
          have HZ : Hid (zs.take p = xs.take p) := Lib.hid (by
            have h := congrArg (List.take p) (hzs.trans HTK.out)
            rw [List.take_take, Nat.min_eq_left (by omega)] at h
            rw [h, List.take_append_of_le_length (by rw [List.length_take, HX.out]; omega), List.take_take, Nat.min_self])
          have HG := Lib.hid hg2
          have HB2 := Lib.hid (HB.out.trans hb2)
          clear hzs hg2 hb2 hR
          go_roundw
          case rel => exact ⟨d + 1, zs, by omega, by go_num, HZ, by rw [HS1.out, behind_app, ← behind_pre, ← HTK.out, ← List.append_assoc]; exact HG.out, HB2.out⟩
          case measure => first | (simp [intOf]; done) | (simp [intOf]; omega)
      · have hdn : d = n := by omega
        subst hdn
        go_wp2_with fail
        go_end0
        rw [← hAll.out]
        exact ⟨rfl, ys, HYS.out, hgi, hb⟩
end Go.Proofs.Ytgajknnfmnnfeaa
