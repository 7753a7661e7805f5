/- Pack 12 of what FnExactAllPairsApart needs: WMark, UOwn. -/
import Derived.Test.YtnlmjeakdjmohaaKFnExactAllPairsApart11
import Derived.Deep.RegionHeld3
/- The laws' eqWayS, markWayS, heldWayS. -/
namespace Go.Proofs.Ytnlmjeakdjmohaa
open Go.RowKit
set_option linter.unusedVariables false
/-- the marks of a way -/
def wmk (m k : Nat) : Wy := (((m + k * 3 : Nat) : Int), ((m + k * 3 + 1 : Nat) : Int), mt (m + k * 3 + 2))
def wmks (m n : Nat) : List Wy := (List.range n).map (wmk m)
theorem wmks_length (m n : Nat) : (wmks m n).length = n := by simp [wmks]
theorem wmks_get (m : Nat) {n j : Nat} (h : j < n) : wg (wmks m n) j = wmk m j := by simp [wg, wmks, h]
/-- the first k marked -/
def wmP (m : Nat) (L : List Wy) (k : Nat) : List Wy := wmks m k ++ L.drop k
theorem wmP_zero (m : Nat) (L : List Wy) : wmP m L 0 = L := by simp [wmP, wmks]
theorem wmP_length (m : Nat) (L : List Wy) {k : Nat} (h : k ≤ L.length) : (wmP m L k).length = L.length := by simp [wmP, wmks]; omega
theorem wmP_full (m : Nat) (L : List Wy) : wmP m L L.length = wmks m L.length := by simp [wmP]
theorem wmP_set (m : Nat) (L : List Wy) {k : Nat} (h : k < L.length) : (wmP m L k).set k (wmk m k) = wmP m L (k + 1) := by
  unfold wmP
  rw [List.set_append, wmks_length, if_neg (by omega), Nat.sub_self, List.drop_eq_getElem_cons h, List.set_cons_zero]
  unfold wmks
  rw [List.range_succ, List.map_append, List.append_assoc]
  rfl
/-- the three stores -/
theorem wmP_steps (m : Nat) (L : List Wy) {k : Nat} (h : k < L.length) (A : Wy) : ((((wmP m L k).set k (((m + k * 3 : Nat) : Int), A.2.1, A.2.2)).set k (((m + k * 3 : Nat) : Int), ((m + k * 3 + 1 : Nat) : Int), A.2.2)).set k (((m + k * 3 : Nat) : Int), ((m + k * 3 + 1 : Nat) : Int), mt (m + k * 3 + 2))) = wmP m L (k + 1) := by
  rw [List.set_set, List.set_set]
  exact wmP_set m L h
theorem wg_set {L : List Wy} {k : Nat} (h : k < L.length) (t : Wy) : wg (L.set k t) k = t := by
  unfold wg
  rw [List.getD_eq_getElem?_getD, List.getElem?_set_self h]
  rfl
structure WQ2 (w : World) (B1 B2 : Nat) (v1 v2 : Value) (L : List Wy) (X : World) : Prop where
  a : WRow X B1 v1 L
  b : WRow X B2 v2 L
  below : Below w.heap.size w X
theorem WQ2.kept {w X X' : World} {B1 B2 : Nat} {v1 v2 : Value} {L : List Wy} (h : WQ2 w B1 B2 v1 v2 L X) (hb : Below X.heap.size X X') : WQ2 w B1 B2 v1 v2 L X' := ⟨h.a.below hb, h.b.below hb, h.below.trans (hb.mono h.below.size)⟩
theorem weMk {w X : World} {B1 B2 g1 g2 c1 c2 n k : Nat} {L : List Wy} {x y : Int} {s : ByteArray} (h : WQ2 w B1 B2 (.slice (some ⟨g1, 0, none⟩) n c1) (.slice (some ⟨g2, 0, none⟩) n c2) L X) (hk : k < L.length) (hw : wg L k = (x, y, s)) :
    X.cell? ⟨g1, k * 3, none⟩ = some (.int .i64 x) ∧ X.cell? ⟨g1, k * 3 + 1, none⟩ = some (.int .i64 y) ∧ X.cell? ⟨g1, k * 3 + 2, none⟩ = some (.string s) ∧ X.cell? ⟨g2, k * 3, none⟩ = some (.int .i64 x) ∧ X.cell? ⟨g2, k * 3 + 1, none⟩ = some (.int .i64 y) ∧ X.cell? ⟨g2, k * 3 + 2, none⟩ = some (.string s) ∧ WQ2 w B1 B2 (.slice (some ⟨g1, 0, none⟩) n c1) (.slice (some ⟨g2, 0, none⟩) n c2) L X := by
  have h1 := h.a.cell hk
  have h2 := h.b.cell hk
  rw [hw] at h1 h2
  exact ⟨h1.1, h1.2.1, h1.2.2, h2.1, h2.2.1, h2.2.2, h⟩
theorem weOf {w X : World} {B1 B2 g1 g2 c1 c2 n k : Nat} {L : List Wy} {x y : Int} {s : ByteArray} (h : X.cell? ⟨g1, k * 3, none⟩ = some (.int .i64 x) ∧ X.cell? ⟨g1, k * 3 + 1, none⟩ = some (.int .i64 y) ∧ X.cell? ⟨g1, k * 3 + 2, none⟩ = some (.string s) ∧ X.cell? ⟨g2, k * 3, none⟩ = some (.int .i64 x) ∧ X.cell? ⟨g2, k * 3 + 1, none⟩ = some (.int .i64 y) ∧ X.cell? ⟨g2, k * 3 + 2, none⟩ = some (.string s) ∧ WQ2 w B1 B2 (.slice (some ⟨g1, 0, none⟩) n c1) (.slice (some ⟨g2, 0, none⟩) n c2) L X) : WQ2 w B1 B2 (.slice (some ⟨g1, 0, none⟩) n c1) (.slice (some ⟨g2, 0, none⟩) n c2) L X := h.2.2.2.2.2.2
theorem weKeep {w X X' : World} {B1 B2 g1 g2 c1 c2 n k : Nat} {L : List Wy} {x y : Int} {s : ByteArray} (h : X.cell? ⟨g1, k * 3, none⟩ = some (.int .i64 x) ∧ X.cell? ⟨g1, k * 3 + 1, none⟩ = some (.int .i64 y) ∧ X.cell? ⟨g1, k * 3 + 2, none⟩ = some (.string s) ∧ X.cell? ⟨g2, k * 3, none⟩ = some (.int .i64 x) ∧ X.cell? ⟨g2, k * 3 + 1, none⟩ = some (.int .i64 y) ∧ X.cell? ⟨g2, k * 3 + 2, none⟩ = some (.string s) ∧ WQ2 w B1 B2 (.slice (some ⟨g1, 0, none⟩) n c1) (.slice (some ⟨g2, 0, none⟩) n c2) L X) (hk : Hid (k < L.length ∧ wg L k = (x, y, s))) (hb : Below X.heap.size X X') :
    X'.cell? ⟨g1, k * 3, none⟩ = some (.int .i64 x) ∧ X'.cell? ⟨g1, k * 3 + 1, none⟩ = some (.int .i64 y) ∧ X'.cell? ⟨g1, k * 3 + 2, none⟩ = some (.string s) ∧ X'.cell? ⟨g2, k * 3, none⟩ = some (.int .i64 x) ∧ X'.cell? ⟨g2, k * 3 + 1, none⟩ = some (.int .i64 y) ∧ X'.cell? ⟨g2, k * 3 + 2, none⟩ = some (.string s) ∧ WQ2 w B1 B2 (.slice (some ⟨g1, 0, none⟩) n c1) (.slice (some ⟨g2, 0, none⟩) n c2) L X' := weMk ((weOf h).kept hb) hk.out.1 hk.out.2
set_option maxRecDepth 100000 in
set_option maxHeartbeats 1000000 in
theorem eqWays_same (v1 v2 : Value) (L : List Wy) (B1 B2 : Nat) (w : World) (h1 : WRow w B1 v1 L) (h2 : WRow w B2 v2 L) (hl : L.length ≤ 1048576) :
    Calls Try.prog 25 #[v1, v2] w (Ret w (.bool true)) := by
  obtain ⟨n, hn⟩ : ∃ n, L.length = n := ⟨_, rfl⟩
  by_cases h0 : n = 0
  · obtain ⟨A1, c1, rfl⟩ := h1.shape
    obtain ⟨A2, c2, rfl⟩ := h2.shape
    rw [hn]
    subst h0
    clear h1 h2 hn hl
    go_enter Try.func25, Try.ntmps25
    go_wp2
    refine wp_loop_rounds 1 ?_; rw [rounds_succ]
    go_wp2
    go_ret
    exact ⟨rfl, Below.refl _ _⟩
  · obtain ⟨g1, c1, rfl, _, _⟩ := h1.form hn (by omega)
    obtain ⟨g2, c2, rfl, _, _⟩ := h2.form hn (by omega)
    have HE0 : Hid (WQ2 w B1 B2 (.slice (some ⟨g1, 0, none⟩) n c1) (.slice (some ⟨g2, 0, none⟩) n c2) L w) := Lib.hid ⟨h1, h2, Below.refl _ _⟩
    have HR : Hid (∀ (x y : Int) (s : ByteArray) (w : World), Calls Try.prog 77 #[wayV x y s, wayV x y s] w (Ret w (.bool true))) := Lib.hid eqWay_any
    rw [hn] at hl
    have HNL := Lib.hid hn
    clear h1 h2 h0 hn
    go_enter Try.func25, Try.ntmps25
    go_wp2_with fail
    go_loopw [5] (fun i wr => ∃ k : Nat, k ≤ n ∧ i = .int .i64 (k : Int) ∧ WQ2 w B1 B2 (.slice (some ⟨g1, 0, none⟩) n c1) (.slice (some ⟨g2, 0, none⟩) n c2) L wr) (fun i _ => n - (intOf i).toNat)
    case atStart => exact ⟨0, Nat.zero_le _, rfl, HE0.out⟩
    case round =>
      obtain ⟨k, hk, rfl, heq⟩ := hrel
      clear HE0
      by_cases hlt : k < n
      · have i1 : (k : Int) < (n : Int) := by omega
        have i2 : (0 : Int) ≤ (k : Int) := by omega
        obtain ⟨x, y, s, hw⟩ : ∃ x y s, wg L k = (x, y, s) := ⟨_, _, _, rfl⟩
        have HK : Hid (k < L.length ∧ wg L k = (x, y, s)) := Lib.hid ⟨by rw [HNL.out]; exact hlt, hw⟩
        have HE := Lib.hid (weMk (heq.kept (Below.refl _ _).drew) HK.out.1 HK.out.2)
        clear hw heq
        go_wp2_with fail
        go_region_held3 (fun X => X.cell? ⟨g1, k * 3, none⟩ = some (.int .i64 x) ∧ X.cell? ⟨g1, k * 3 + 1, none⟩ = some (.int .i64 y) ∧ X.cell? ⟨g1, k * 3 + 2, none⟩ = some (.string s) ∧ X.cell? ⟨g2, k * 3, none⟩ = some (.int .i64 x) ∧ X.cell? ⟨g2, k * 3 + 1, none⟩ = some (.int .i64 y) ∧ X.cell? ⟨g2, k * 3 + 2, none⟩ = some (.string s) ∧ WQ2 w B1 B2 (.slice (some ⟨g1, 0, none⟩) n c1) (.slice (some ⟨g2, 0, none⟩) n c2) L X) (first | exact HE.out | assumption | exact weKeep (by assumption) HK (by assumption)) (first | (go_at_call 77; refine (HR.out _ _ _ _).mono ?_; rintro e w4 ⟨rfl, hb4⟩; have HE4 := Lib.hid ((weOf (by assumption)).kept hb4)))
        go_wp2_with fail
        go_roundw
        case rel => exact ⟨k + 1, by omega, by go_num, HE4.out⟩
        case measure => simp [intOf]; omega
      · go_wp2_with fail
        go_ret
        exact ⟨rfl, heq.below⟩
set_option maxRecDepth 100000 in
set_option maxHeartbeats 1000000 in
theorem markWays_any (v : Value) (L : List Wy) (B : Nat) (m : Nat) (w : World) (h1 : WRow w B v L) (hl : L.length ≤ 1048576) (hm : 0 < m ∧ m ≤ 1073741824) :
    Calls Try.prog 28 #[v, .int .i64 (m : Nat)] w fun e w' => e = .returned (.int .i64 ((m + L.length * 3 : Nat) : Int)) ∧ WRow w' B v (wmks m L.length) ∧ w.grownBy w' v.ownBlock := by
  obtain ⟨n, hn⟩ : ∃ n, L.length = n := ⟨_, rfl⟩
  by_cases h0 : n = 0
  · obtain ⟨A1, c1, rfl⟩ := h1.shape
    obtain rfl : L = [] := List.eq_nil_of_length_eq_zero (hn.trans h0)
    have H1 := Lib.hid h1
    clear h1 hn
    go_enter Try.func28, Try.ntmps28
    go_wp2
    refine wp_loop_rounds 1 ?_; rw [rounds_succ]
    go_wp2
    go_ret
    exact ⟨ret_int (by simp), H1.out, grown_refl' _ _⟩
  · obtain ⟨g1, c1, rfl, _, _⟩ := h1.form hn (by omega)
    have HS : Hid (∀ k, k < n → ∀ A : Wy, ((((wmP m L k).set k (((m + k * 3 : Nat) : Int), A.2.1, A.2.2)).set k (((m + k * 3 : Nat) : Int), ((m + k * 3 + 1 : Nat) : Int), A.2.2)).set k (((m + k * 3 : Nat) : Int), ((m + k * 3 + 1 : Nat) : Int), mt (m + k * 3 + 2))) = wmP m L (k + 1)) := Lib.hid fun k hk A => wmP_steps m L (by omega) A
    have HLN : Hid (∀ k, k ≤ n → (wmP m L k).length = n) := Lib.hid fun k hk => by rw [wmP_length m L (by omega), hn]
    have HF : Hid (wmP m L n = wmks m n) := Lib.hid (by rw [← hn]; exact wmP_full m L)
    have H0 : Hid (WRow w B (.slice (some ⟨g1, 0, none⟩) n c1) (wmP m L 0)) := Lib.hid (by rw [wmP_zero]; exact h1)
    rw [hn] at hl ⊢
    clear h1 hn
    go_enter Try.func28, Try.ntmps28
    go_wp2
    go_loopw [1, 5] (fun q i wr => ∃ k : Nat, k ≤ n ∧ i = .int .i64 k ∧ q = .int .i64 ((m + k * 3 : Nat) : Int) ∧ WRow wr B (.slice (some ⟨g1, 0, none⟩) n c1) (wmP m L k) ∧ w.grownBy wr (some g1)) (fun _ i _ => n - (intOf i).toNat)
    case atStart => exact ⟨0, Nat.zero_le _, rfl, by go_num, H0.out, grown_refl' _ _⟩
    case round =>
      obtain ⟨k, hk, rfl, rfl, hrow, hg⟩ := hrel
      clear H0
      by_cases hlt : k < n
      · have HSK := Lib.hid (HS.out k hlt (wg (wmP m L k) k))
        have hlen := HLN.out k hk
        obtain ⟨q, hq⟩ : ∃ q, q = m + k * 3 := ⟨_, rfl⟩
        rw [← hq] at HSK ⊢
        have HM : Hid (∀ w, Calls Try.prog 79 #[.int .i64 ((q : Int) + 1 + 1)] w (Ret w (.string (mt (q + 2))))) := Lib.hid fun w => by
          have := markText_any (q + 2) w (by omega) (by omega)
          rwa [show ((q + 2 : Nat) : Int) = (q : Int) + 1 + 1 by omega] at this
        have hqb : 0 < q ∧ q ≤ 2147483648 := by omega
        have HQ := Lib.hid hq
        have e0 := (hrow.cell (j := k) (by omega)).1
        have e1 := (hrow.cell (j := k) (by omega)).2.1
        have f0 := hrow.free (k * 3)
        have f1 := hrow.free (k * 3 + 1)
        have f2 := hrow.free (k * 3 + 2)
        have s0 := hrow.set0 (j := k) (by omega) (q : Int)
        have s1 := s0.1.set1 (j := k) (by rw [List.length_set]; omega) ((q + 1 : Nat) : Int)
        rw [wg_set (by omega)] at s1
        have hgg := grown_trans' (grown_trans' hg s0.2) s1.2
        have hln2 : ((((wmP m L k).set k ((q : Int), (wg (wmP m L k) k).2.1, (wg (wmP m L k) k).2.2))).set k ((q : Int), ((q + 1 : Nat) : Int), (wg (wmP m L k) k).2.2)).length = n := by rw [List.length_set, List.length_set]; exact hlen
        have HLN2 := Lib.hid hln2
        have HWG : Hid (wg ((((wmP m L k).set k ((q : Int), (wg (wmP m L k) k).2.1, (wg (wmP m L k) k).2.2))).set k ((q : Int), ((q + 1 : Nat) : Int), (wg (wmP m L k) k).2.2)) k = ((q : Int), ((q + 1 : Nat) : Int), (wg (wmP m L k) k).2.2)) := Lib.hid (wg_set (by rw [List.length_set]; omega) _)
        generalize mt (q + 2) = x at *
        generalize (((wmP m L k).set k ((q : Int), (wg (wmP m L k) k).2.1, (wg (wmP m L k) k).2.2))).set k ((q : Int), ((q + 1 : Nat) : Int), (wg (wmP m L k) k).2.2) = L2 at *
        have HR1 := Lib.hid s1.1
        have HG := Lib.hid hgg
        rw [show ((q + 1 : Nat) : Int) = (q : Int) + 1 by omega] at HR1 HG HWG HSK
        clear hq s0 s1 hgg hln2 hlen hrow hg
        go_wp2_with (go_at_call 79; refine (HM.out _).mono ?_; rintro e w3 ⟨rfl, hb3⟩; have hrow3 := HR1.out.below hb3; have e3 := (hrow3.cell (j := k) (by rw [HLN2.out]; exact hlt)).2.2; have e4 := hrow3.free (k * 3 + 2); have hst := hrow3.set2 (j := k) (by rw [HLN2.out]; exact hlt) x; have HST := Lib.hid hst; have HG3 := Lib.hid (grown_trans' (grown_trans' HG.out (below_grown hb3 _)) hst.2); clear hrow3 hst hb3)
        go_roundw
        case rel => exact ⟨k + 1, by omega, by go_num, by rw [show m + (k + 1) * 3 = q + 3 by rw [HQ.out]; omega]; go_num, by
          have := HST.out.1
          rw [HWG.out, HSK.out] at this
          exact this, HG3.out⟩
        case measure => simp [intOf]; omega
      · go_wp2
        obtain rfl : k = n := by omega
        go_ret
        exact ⟨rfl, by rw [← HF.out]; exact hrow, hg⟩
theorem whKeep {w X X' : World} {g1 k : Nat} {x : ByteArray} (h : X.cell? ⟨g1, k * 3 + 2, none⟩ = some (.string x) ∧ Below w.heap.size w X) (hg : g1 < w.heap.size) (hb : Below X.heap.size X X') :
    X'.cell? ⟨g1, k * 3 + 2, none⟩ = some (.string x) ∧ Below w.heap.size w X' :=
  ⟨(hb.cell (p := ⟨g1, k * 3 + 2, none⟩) (Nat.lt_of_lt_of_le hg h.2.size)).trans h.1, h.2.trans (hb.mono h.2.size)⟩
theorem whB {w X : World} {g1 k : Nat} {x : ByteArray} (h : X.cell? ⟨g1, k * 3 + 2, none⟩ = some (.string x) ∧ Below w.heap.size w X) : Below w.heap.size w X := h.2
set_option maxRecDepth 100000 in
set_option maxHeartbeats 1000000 in
theorem heldWays_any (v : Value) (n : Nat) (B : Nat) (m : Nat) (w : World) (h1 : WRow w B v (wmks m n)) (hl : n ≤ 1048576) (hm : 0 < m ∧ m ≤ 1073741824) :
    Calls Try.prog 29 #[v, .int .i64 (m : Nat)] w (Ret w (.int .i64 ((m + n * 3 : Nat) : Int))) := by
  by_cases h0 : n = 0
  · subst h0
    obtain ⟨A1, c1, rfl⟩ := h1.shape
    rw [wmks_length] at *
    clear h1
    go_enter Try.func29, Try.ntmps29
    go_wp2
    refine wp_loop_rounds 1 ?_; rw [rounds_succ]
    go_wp2
    go_ret
    exact ⟨ret_int (by simp), Below.refl _ _⟩
  · obtain ⟨g1, c1, rfl, _, hgl⟩ := h1.form (wmks_length m n) (by omega)
    have H1 := Lib.hid h1
    clear h1 h0
    go_enter Try.func29, Try.ntmps29
    go_wp2
    go_loopw [1, 5] (fun q i wr => ∃ k : Nat, k ≤ n ∧ i = .int .i64 k ∧ q = .int .i64 ((m + k * 3 : Nat) : Int) ∧ Below w.heap.size w wr) (fun _ i _ => n - (intOf i).toNat)
    case atStart => exact ⟨0, Nat.zero_le _, rfl, by go_num, Below.refl _ _⟩
    case round =>
      obtain ⟨k, hk, rfl, rfl, hb⟩ := hrel
      by_cases hlt : k < n
      · have hc := (H1.out.below hb).cell (j := k) (by rw [wmks_length]; omega)
        rw [wmks_get m hlt] at hc
        obtain ⟨q, hq⟩ : ∃ q, q = m + k * 3 := ⟨_, rfl⟩
        unfold wmk at hc
        rw [← hq] at hc ⊢
        rw [show ((q + 1 : Nat) : Int) = (q : Int) + 1 by omega] at hc
        have HM : Hid (∀ w, Calls Try.prog 79 #[.int .i64 ((q : Int) + 1 + 1)] w (Ret w (.string (mt (q + 2))))) := Lib.hid fun w => by
          have := markText_any (q + 2) w (by omega) (by omega)
          rwa [show ((q + 2 : Nat) : Int) = (q : Int) + 1 + 1 by omega] at this
        have hqb : 0 < q ∧ q ≤ 2147483648 := by omega
        have HQ := Lib.hid hq
        clear hq
        generalize mt (q + 2) = x at *
        have i1 : (k : Int) < (n : Int) := by omega
        have e0 := hc.1
        have e1 := hc.2.1
        have HS0 : Hid (wr.drew.cell? ⟨g1, k * 3 + 2, none⟩ = some (.string x) ∧ Below w.heap.size w wr.drew) := Lib.hid ⟨hc.2.2, below_drewN hb 1⟩
        clear hc
        go_wp2
        go_region_held3 (fun W => W.cell? ⟨g1, k * 3 + 2, none⟩ = some (.string x) ∧ Below w.heap.size w W) (first | exact HS0.out | assumption | exact whKeep (by assumption) hgl (by assumption)) (first | (go_at_call 79; refine (HM.out _).mono ?_; rintro e w' ⟨rfl, hb'⟩))
        go_wp2
        go_roundw
        case rel => exact ⟨k + 1, by omega, by go_num, by rw [show m + (k + 1) * 3 = q + 3 by rw [HQ.out]; omega]; go_num, whB (g1 := g1) (k := k) (x := x) (by assumption)⟩
        case measure => simp [intOf]; omega
      · go_wp2
        obtain rfl : k = n := by omega
        go_ret
        exact ⟨rfl, hb⟩
end Go.Proofs.Ytnlmjeakdjmohaa

/- A slice of slices of ways that the call owns, each of them in a block of its own. -/
namespace Go.Proofs.Ytnlmjeakdjmohaa
open Go.RowKit
set_option linter.unusedVariables false
abbrev NilU : Value := .slice none 0 0
structure URow (w : World) (B M : Nat) (v : Value) (vs : List Value) (xss : List (List Wy)) : Prop where
  len : vs.length = xss.length
  out : XRow w B v vs
  outM : ∀ k, v.ownBlock = some k → k < M
  row : ∀ j, j < xss.length → WRow w B (vs.getD j NilU) (xss.getD j [])
  rowM : ∀ j, j < xss.length → ∀ k, (vs.getD j NilU).ownBlock = some k → k < M
  apart : ∀ i j, i < xss.length → j < xss.length → i ≠ j → ∀ a b, (vs.getD i NilU).ownBlock = some a → (vs.getD j NilU).ownBlock = some b → a ≠ b
  off : ∀ j, j < xss.length → ∀ a b, v.ownBlock = some a → (vs.getD j NilU).ownBlock = some b → a ≠ b
  size : M ≤ w.heap.size
namespace URow
variable {w w' : World} {B M : Nat} {v : Value} {vs : List Value} {xss : List (List Wy)}
theorem nil (hM : M ≤ w.heap.size) : URow w B M (.slice none 0 0) [] [] :=
  ⟨rfl, XRow.nil _ _, (fun k h => by cases h), (fun j h => absurd h (by simp)), (fun j h => absurd h (by simp)), (fun i j h => absurd h (by simp)), (fun j h => absurd h (by simp)), hM⟩
theorem outB (h : URow w B M v vs xss) : ∀ k, v.ownBlock = some k → B ≤ k ∧ k < M := fun k hk => ⟨(h.out.blk k hk).1, h.outM k hk⟩
theorem rowB (h : URow w B M v vs xss) {j : Nat} (hj : j < xss.length) : ∀ k, (vs.getD j NilU).ownBlock = some k → B ≤ k ∧ k < M := fun k hk => ⟨((h.row j hj).blk k hk).1, h.rowM j hj k hk⟩
/-- something else turned: a block that is none of its own -/
theorem keep {r : Option Nat} (h : URow w B M v vs xss) (hg : w.grownBy w' r) (hr : ∀ k, r = some k → k < B ∨ M ≤ k) : URow w' B M v vs xss where
  len := h.len
  out := h.out.apart hg (fun k hk e => by have := hr k e.symm; have := h.outB k hk; omega)
  outM := h.outM
  row j hj := World.ownsRow.kept (h.row j hj) hg (by
    cases e : (vs.getD j NilU).ownBlock with
    | none => exact .inl rfl
    | some k => exact .inr (fun e2 => by have := hr k e2.symm; have := h.rowB hj k e; omega))
  rowM := h.rowM
  apart := h.apart
  off := h.off
  size := Nat.le_trans h.size hg.size
theorem below (h : URow w B M v vs xss) (hb : Below w.heap.size w w') : URow w' B M v vs xss :=
  h.keep (r := none) ⟨hb.os, hb.tape, hb.output, hb.size, fun k hk _ => hb.block k hk⟩ (fun k e => by cases e)
theorem drewN (h : URow w B M v vs xss) (n : Nat) : URow (w.drewN n) B M v vs xss := ⟨h.len, h.out, h.outM, h.row, h.rowM, h.apart, h.off, h.size⟩
theorem mono (h : URow w B M v vs xss) {B' M' : Nat} (hB : B' ≤ B) (hM : M ≤ M') (hs : M' ≤ w.heap.size) : URow w B' M' v vs xss :=
  ⟨h.len, h.out.mono hB, fun k hk => Nat.lt_of_lt_of_le (h.outM k hk) hM, fun j hj => (h.row j hj).mono hB, fun j hj k hk => Nat.lt_of_lt_of_le (h.rowM j hj k hk) hM, h.apart, h.off, hs⟩
theorem getD_appU {α : Type} (a : List α) (u d : α) (j : Nat) : (a ++ [u]).getD j d = if j < a.length then a.getD j d else if j = a.length then u else d := by
  rw [List.getD_eq_getElem?_getD]
  by_cases h1 : j < a.length
  · rw [if_pos h1, List.getElem?_append_left h1, ← List.getD_eq_getElem?_getD]
  · rw [if_neg h1]
    by_cases h2 : j = a.length
    · subst h2; rw [if_pos rfl]; simp
    · rw [if_neg h2, List.getElem?_eq_none (by simp; omega)]; rfl
/-- one more slice appended -/
theorem push {v' u : Value} {t : List Wy} (h : URow w B M v vs xss) (hu : WRow w M u t) (hBM : B ≤ M) (hr : XRow w' B v' (vs ++ [u])) (hg : w.grownBy w' v.ownBlock) (hat : v'.ownBlock = v.ownBlock ∨ ∃ g, v'.ownBlock = some g ∧ w.heap.size ≤ g) :
    URow w' B w'.heap.size v' (vs ++ [u]) (xss ++ [t]) := by
  have k1 : ∀ j, j < xss.length → WRow w' B (vs.getD j NilU) (xss.getD j []) := fun j hj => World.ownsRow.kept (h.row j hj) hg (by
    cases e : (vs.getD j NilU).ownBlock with
    | none => exact .inl rfl
    | some k => exact .inr (fun e2 => h.off j hj k k e2.symm e rfl))
  have k3 : WRow w' M u t := World.ownsRow.kept hu hg (by
    cases e : u.ownBlock with
    | none => exact .inl rfl
    | some k => exact .inr (fun e2 => by have := h.outM k e2.symm; have := (hu.blk k e).1; omega))
  have k2 : WRow w' B u t := k3.mono hBM
  have hl := h.len
  have hs := hg.size
  have o1 : ∀ a, v'.ownBlock = some a → (∀ j, j < xss.length → ∀ b, (vs.getD j NilU).ownBlock = some b → a ≠ b) ∧ (∀ b, u.ownBlock = some b → a ≠ b) := fun a ha => by
    rcases hat with e | ⟨g, e, hge⟩
    · rw [e] at ha
      exact ⟨fun j hj b hb => h.off j hj a b ha hb, fun b hb => by have := h.outM a ha; have := (hu.blk b hb).1; omega⟩
    · rw [e] at ha
      injection ha with ha
      exact ⟨fun j hj b hb => by have := h.rowM j hj b hb; have := h.size; omega, fun b hb => by have := (hu.blk b hb).2; omega⟩
  have gv : ∀ j, (vs ++ [u]).getD j NilU = if j < xss.length then vs.getD j NilU else if j = xss.length then u else NilU := fun j => by rw [getD_appU, hl]
  have gx : ∀ j, (xss ++ [t]).getD j [] = if j < xss.length then xss.getD j [] else if j = xss.length then t else [] := fun j => getD_appU _ _ _ _
  refine ⟨by simp [hl], hr, fun k hk => (hr.blk k hk).2, fun j hj => ?_, fun j hj k hk => ?_, fun i j hi hj hne a b ha hb => ?_, fun j hj a b ha hb => ?_, Nat.le_refl _⟩
  · rw [gv, gx]
    by_cases c : j < xss.length
    · rw [if_pos c, if_pos c]; exact k1 j c
    · have : j = xss.length := by simp at hj; omega
      rw [if_neg c, if_neg c, if_pos this, if_pos this]; exact k2
  · rw [gv] at hk
    by_cases c : j < xss.length
    · rw [if_pos c] at hk; exact ((k1 j c).blk k hk).2
    · have : j = xss.length := by simp at hj; omega
      rw [if_neg c, if_pos this] at hk; exact (k2.blk k hk).2
  · rw [gv] at ha hb
    by_cases c1 : i < xss.length <;> by_cases c2 : j < xss.length
    · rw [if_pos c1] at ha; rw [if_pos c2] at hb; exact h.apart i j c1 c2 hne a b ha hb
    · have : j = xss.length := by simp at hj; omega
      rw [if_pos c1] at ha; rw [if_neg c2, if_pos this] at hb
      have := h.rowM i c1 a ha
      have := (hu.blk b hb).1
      omega
    · have : i = xss.length := by simp at hi; omega
      rw [if_pos c2] at hb; rw [if_neg c1, if_pos this] at ha
      have := h.rowM j c2 b hb
      have := (hu.blk a ha).1
      omega
    · simp at hi hj; omega
  · rw [gv] at hb
    by_cases c : j < xss.length
    · rw [if_pos c] at hb; exact (o1 a ha).1 j c b hb
    · have : j = xss.length := by simp at hj; omega
      rw [if_neg c, if_pos this] at hb; exact (o1 a ha).2 b hb
/-- one of its rows turned -/
theorem turn {j : Nat} {ys : List Wy} (h : URow w B M v vs xss) (hj : j < xss.length) (hg : w.grownBy w' (vs.getD j NilU).ownBlock) (hy : WRow w' B (vs.getD j NilU) ys) : URow w' B M v vs (xss.set j ys) := by
  refine ⟨by rw [List.length_set]; exact h.len, h.out.apart hg (fun k hk e => h.off j hj k k hk e.symm rfl), h.outM, fun i hi => ?_, fun i hi => h.rowM i (by simpa using hi), fun i i' hi hi' => h.apart i i' (by simpa using hi) (by simpa using hi'), fun i hi => h.off i (by simpa using hi), Nat.le_trans h.size hg.size⟩
  rw [List.length_set] at hi
  by_cases e : i = j
  · subst e
    have : (xss.set i ys).getD i [] = ys := by rw [List.getD_eq_getElem?_getD, List.getElem?_set, if_pos rfl, if_pos hi]; rfl
    rw [this]
    exact hy
  · have : (xss.set j ys).getD i [] = xss.getD i [] := by rw [List.getD_eq_getElem?_getD, List.getElem?_set, if_neg (fun e2 => e e2.symm), ← List.getD_eq_getElem?_getD]
    rw [this]
    exact World.ownsRow.kept (h.row i hi) hg (by
      cases e3 : (vs.getD i NilU).ownBlock with
      | none => exact .inl rfl
      | some k => exact .inr (fun e2 => h.apart i j hi hj e k k e3 e2.symm rfl))
end URow
theorem URow.form {w : World} {B M : Nat} {v : Value} {vs : List Value} {xss : List (List Wy)} {n : Nat} (h : URow w B M v vs xss) (hn : xss.length = n) (hx : 0 < n) : ∃ g c, v = .slice (some ⟨g, 0, none⟩) n c ∧ B ≤ g ∧ g < M ∧ ∀ j, j < n → w.cell? ⟨g, j, none⟩ = some (vs.getD j NilU) := by
  obtain ⟨g, c, hv, h1, h2, _⟩ := h.out.form (h.len.trans hn) hx
  subst hv
  exact ⟨g, c, rfl, h1, h.outM g rfl, fun j hj => h.out.cell (by rw [h.len, hn]; exact hj)⟩
def WtsRet (w : World) (ok : Bool) (xss : List (List Wy)) (e : Ending) (w' : World) : Prop :=
  ∃ v vs, e = .returned (.tuple #[v, .bool ok]) ∧ URow w' w.heap.size w'.heap.size v vs xss ∧ Below w.heap.size w w'
def WtsNew (w : World) (xss : List (List Wy)) (e : Ending) (w' : World) : Prop :=
  ∃ v vs, e = .returned v ∧ URow w' w.heap.size w'.heap.size v vs xss ∧ Below w.heap.size w w'
/-- nothing turned but in blocks from B up to M -/
structure MidU (B M : Nat) (w w' : World) : Prop where
  os : w'.os = w.os
  tape : w'.tape = w.tape
  output : w'.output = w.output
  size : w.heap.size ≤ w'.heap.size
  block : ∀ k, k < w.heap.size → (k < B ∨ M ≤ k) → w'.heap[k]? = w.heap[k]?
theorem MidU.refl (B M : Nat) (w : World) : MidU B M w w := ⟨rfl, rfl, rfl, Nat.le_refl _, fun _ _ _ => rfl⟩
theorem MidU.step {B M : Nat} {w w1 w2 : World} {r : Option Nat} (h : MidU B M w w1) (hg : w1.grownBy w2 r) (hr : ∀ k, r = some k → B ≤ k ∧ k < M) : MidU B M w w2 :=
  ⟨hg.os.trans h.os, hg.tape.trans h.tape, hg.output.trans h.output, Nat.le_trans h.size hg.size, fun k hk hc => (hg.block k (Nat.lt_of_lt_of_le hk h.size) (fun e => by have := hr k e.symm; omega)).trans (h.block k hk hc)⟩
theorem MidU.below {B M : Nat} {w0 w w' : World} {C : Nat} (h : MidU B M w w') (hb : Below C w0 w) (hC : C ≤ B) (hs : C ≤ w.heap.size) : Below C w0 w' :=
  ⟨h.os.trans hb.os, h.tape.trans hb.tape, h.output.trans hb.output, Nat.le_trans hb.size h.size, fun k hk => (h.block k (by omega) (.inl (by omega))).trans (hb.block k hk)⟩
theorem WRow.midU {w w' : World} {B M B1 : Nat} {v : Value} {xs : List Wy} (h : WRow w B1 v xs) (hm : MidU B M w w') (hk : ∀ k, v.ownBlock = some k → k < B ∨ M ≤ k) : WRow w' B1 v xs := by
  refine ⟨h.1, ?_⟩
  rcases h.2 with h2 | ⟨g, cap, cur, hv, hB, hg, r⟩
  · exact .inl h2
  · subst hv
    exact .inr ⟨g, cap, cur, rfl, hB, by rw [hm.block g (Array.getElem?_eq_some_iff.1 hg).1 (hk g rfl)]; exact hg, r⟩
theorem URow.midU {w w' : World} {B M B1 M1 : Nat} {v : Value} {vs : List Value} {xss : List (List Wy)} (h : URow w B1 M1 v vs xss) (hm : MidU B M w w') (hk : M1 ≤ B ∨ M ≤ B1) : URow w' B1 M1 v vs xss where
  len := h.len
  out := h.out.same fun k hk2 => hm.block k (h.out.blk k hk2).2 (by have := h.outB k hk2; omega)
  outM := h.outM
  row j hj := (h.row j hj).midU hm (fun k hk2 => by have := h.rowB hj k hk2; omega)
  rowM := h.rowM
  apart := h.apart
  off := h.off
  size := Nat.le_trans h.size hm.size
/-- every list is of two -/
def twos (xss : List (List Wy)) : Prop := ∀ j, j < xss.length → (xss.getD j []).length = 2
def umk (m : Nat) (xss : List (List Wy)) (i : Nat) : List (List Wy) := (List.range xss.length).map fun j => if j < i then wmks (m + 6 * j) 2 else xss.getD j []
theorem umk_length (m : Nat) (xss : List (List Wy)) (i : Nat) : (umk m xss i).length = xss.length := by simp [umk]
theorem umk_get (m : Nat) (xss : List (List Wy)) (i j : Nat) (h : j < xss.length) : (umk m xss i).getD j [] = if j < i then wmks (m + 6 * j) 2 else xss.getD j [] := by
  unfold umk
  rw [List.getD_eq_getElem?_getD, List.getElem?_map, List.getElem?_range h]
  rfl
theorem ext_getDU {a b : List (List Wy)} (hl : a.length = b.length) (h : ∀ j, j < a.length → a.getD j [] = b.getD j []) : a = b := by
  apply List.ext_getElem hl
  intro j h1 h2
  have := h j h1
  rw [List.getD_eq_getElem?_getD, List.getD_eq_getElem?_getD, List.getElem?_eq_getElem h1, List.getElem?_eq_getElem h2] at this
  simpa using this
theorem umk_0 (m : Nat) (xss : List (List Wy)) : umk m xss 0 = xss := ext_getDU (umk_length _ _ _) (fun j hj => by rw [umk_get _ _ _ _ (by rw [umk_length] at hj; exact hj), if_neg (by omega)])
theorem umk_set (m : Nat) (xss : List (List Wy)) (i : Nat) (hi : i < xss.length) : (umk m xss i).set i (wmks (m + 6 * i) 2) = umk m xss (i + 1) := by
  refine ext_getDU (by rw [List.length_set, umk_length, umk_length]) (fun j hj => ?_)
  rw [List.length_set, umk_length] at hj
  rw [umk_get _ _ _ _ hj, List.getD_eq_getElem?_getD, List.getElem?_set]
  by_cases e : i = j
  · subst e
    rw [if_pos rfl, if_pos (by rw [umk_length]; exact hi), if_pos (by omega)]
    rfl
  · rw [if_neg e, ← List.getD_eq_getElem?_getD, umk_get _ _ _ _ hj]
    by_cases c : j < i
    · rw [if_pos c, if_pos (by omega)]
    · rw [if_neg c, if_neg (by omega)]
theorem ueKeep {w X X' : World} {g1 g2 k : Nat} {u1 u2 : Value} (h : X.cell? ⟨g1, k, none⟩ = some u1 ∧ X.cell? ⟨g2, k, none⟩ = some u2 ∧ Below w.heap.size w X) (hg : Hid (g1 < w.heap.size ∧ g2 < w.heap.size)) (hb : Below X.heap.size X X') :
    X'.cell? ⟨g1, k, none⟩ = some u1 ∧ X'.cell? ⟨g2, k, none⟩ = some u2 ∧ Below w.heap.size w X' :=
  ⟨(hb.cell (p := ⟨g1, k, none⟩) (Nat.lt_of_lt_of_le hg.out.1 h.2.2.size)).trans h.1, (hb.cell (p := ⟨g2, k, none⟩) (Nat.lt_of_lt_of_le hg.out.2 h.2.2.size)).trans h.2.1, h.2.2.trans (hb.mono h.2.2.size)⟩
theorem ueB {w X : World} {g1 g2 k : Nat} {u1 u2 : Value} (h : X.cell? ⟨g1, k, none⟩ = some u1 ∧ X.cell? ⟨g2, k, none⟩ = some u2 ∧ Below w.heap.size w X) : Below w.heap.size w X := h.2.2
set_option maxRecDepth 100000 in
set_option maxHeartbeats 1000000 in
theorem eqWss_same (v1 v2 : Value) (vs1 vs2 : List Value) (xss : List (List Wy)) (B1 B2 M1 M2 : Nat) (w : World) (h1 : URow w B1 M1 v1 vs1 xss) (h2 : URow w B2 M2 v2 vs2 xss) (hl : xss.length ≤ 1048576) (ht : twos xss) :
    Calls Try.prog 33 #[v1, v2] w (Ret w (.bool true)) := by
  by_cases h0 : xss.length = 0
  · obtain ⟨A1, c1, rfl⟩ := h1.out.shape
    obtain ⟨A2, c2, rfl⟩ := h2.out.shape
    rw [h1.len, h2.len, h0]
    clear h1 h2
    go_enter Try.func33, Try.ntmps33
    go_wp2
    refine wp_loop_rounds 1 ?_; rw [rounds_succ]
    go_wp2
    go_ret
    exact ⟨rfl, Below.refl _ _⟩
  · obtain ⟨g1, c1, rfl, _, hg1, q1⟩ := h1.form rfl (by omega)
    obtain ⟨g2, c2, rfl, _, hg2, q2⟩ := h2.form rfl (by omega)
    have HH1 := Lib.hid h1
    have HH2 := Lib.hid h2
    have HQ1 : Hid (∀ j, j < xss.length → ∀ W, Below w.heap.size w W → W.cell? ⟨g1, j, none⟩ = some (vs1.getD j NilU)) := Lib.hid fun j hj W hW => (hW.cell (p := ⟨g1, j, none⟩) (Nat.lt_of_lt_of_le hg1 h1.size)).trans (q1 j hj)
    have HQ2 : Hid (∀ j, j < xss.length → ∀ W, Below w.heap.size w W → W.cell? ⟨g2, j, none⟩ = some (vs2.getD j NilU)) := Lib.hid fun j hj W hW => (hW.cell (p := ⟨g2, j, none⟩) (Nat.lt_of_lt_of_le hg2 h2.size)).trans (q2 j hj)
    have HE : Hid (∀ j, j < xss.length → ∀ W, Below w.heap.size w W → Calls Try.prog 25 #[vs1.getD j NilU, vs2.getD j NilU] W (Ret W (.bool true))) := Lib.hid fun j hj W hW =>
      eqWays_same _ _ _ _ _ W ((h1.row j hj).below hW) ((h2.row j hj).below hW) (by rw [ht j hj]; omega)
    have HGG : Hid (g1 < w.heap.size ∧ g2 < w.heap.size) := Lib.hid ⟨Nat.lt_of_lt_of_le hg1 h1.size, Nat.lt_of_lt_of_le hg2 h2.size⟩
    have HS1 : Hid (∀ j, j < xss.length → ∃ A c, vs1.getD j NilU = .slice A 2 c) := Lib.hid fun j hj => by have := (h1.row j hj).shape; rwa [ht j hj] at this
    have HS2 : Hid (∀ j, j < xss.length → ∃ A c, vs2.getD j NilU = .slice A 2 c) := Lib.hid fun j hj => by have := (h2.row j hj).shape; rwa [ht j hj] at this
    clear q1 q2 h1 h2 hg1 hg2 ht HH1 HH2
    generalize xss.length = n at *
    go_enter Try.func33, Try.ntmps33
    go_wp2
    go_loopw [5] (fun i wr => ∃ k : Nat, k ≤ n ∧ i = .int .i64 k ∧ Below w.heap.size w wr) (fun i _ => n - (intOf i).toNat)
    case atStart => exact ⟨0, Nat.zero_le _, rfl, Below.refl _ _⟩
    case round =>
      obtain ⟨k, hk, rfl, hb⟩ := hrel
      by_cases hlt : k < n
      · have HBX := Lib.hid hb
        have i1 : (k : Int) < (n : Int) := by omega
        obtain ⟨A1, d1, p1⟩ := HS1.out k hlt
        obtain ⟨A2, d2, p2⟩ := HS2.out k hlt
        have HE0 : Hid (wr.drew.cell? ⟨g1, k, none⟩ = some (.slice A1 2 d1) ∧ wr.drew.cell? ⟨g2, k, none⟩ = some (.slice A2 2 d2) ∧ Below w.heap.size w wr.drew) := Lib.hid ⟨by rw [← p1]; exact HQ1.out k hlt _ hb.drew, by rw [← p2]; exact HQ2.out k hlt _ hb.drew, hb.drew⟩
        have HR := Lib.hid (HE.out k hlt)
        rw [p1, p2] at HR
        clear p1 p2 hb HBX
        go_wp2_with fail
        go_region_held3 (fun X => X.cell? ⟨g1, k, none⟩ = some (.slice A1 2 d1) ∧ X.cell? ⟨g2, k, none⟩ = some (.slice A2 2 d2) ∧ Below w.heap.size w X) (first | exact HE0.out | assumption | exact ueKeep (by assumption) HGG (by assumption)) (first | (go_at_call 25; refine (HR.out _ (ueB (by assumption))).mono ?_; rintro e w4 ⟨rfl, hb4⟩; have HE4 := Lib.hid ((ueB (by assumption)).trans (hb4.mono (ueB (by assumption)).size))))
        go_wp2_with fail
        go_roundw
        case rel => exact ⟨k + 1, by omega, by go_num, HE4.out⟩
        case measure => simp [intOf]; omega
      · obtain rfl : k = n := by omega
        go_wp2
        go_ret
        exact ⟨rfl, hb⟩
set_option maxRecDepth 100000 in
set_option maxHeartbeats 1000000 in
theorem markWss_any (v : Value) (vs : List Value) (xss : List (List Wy)) (B M : Nat) (m : Nat) (w : World) (h : URow w B M v vs xss) (hl : xss.length ≤ 1000) (ht : twos xss) (hm : 0 < m ∧ m ≤ 1048576) :
    Calls Try.prog 34 #[v, .int .i64 (m : Nat)] w fun e w' => e = .returned (.int .i64 ((m + 6 * xss.length : Nat) : Int)) ∧ URow w' B M v vs (umk m xss xss.length) ∧ MidU B M w w' := by
  by_cases h0 : xss.length = 0
  · obtain ⟨A1, c1, rfl⟩ := h.out.shape
    have hx : xss = [] := List.eq_nil_of_length_eq_zero h0
    subst hx
    have H := Lib.hid h
    rw [h.len]
    have hl2 := h.len
    clear h h0
    rw [hl2] at H
    go_enter Try.func34, Try.ntmps34
    go_wp2
    refine wp_loop_rounds 1 ?_; rw [rounds_succ]
    go_wp2
    go_ret
    exact ⟨rfl, by rw [umk_0]; exact H.out, MidU.refl _ _ _⟩
  · obtain ⟨g1, c1, rfl, _, _, q1⟩ := h.form rfl (by omega)
    have HT := Lib.hid (umk_set m xss)
    have HG := Lib.hid (umk_get m xss)
    have H0 := Lib.hid (umk_0 m xss)
    have HL := Lib.hid (umk_length m xss)
    have HTW := Lib.hid ht
    have HH := Lib.hid h
    generalize hT : umk m xss = T at *
    generalize hn : xss.length = n at *
    have HTW2 : Hid (∀ j, j < n → (xss.getD j []).length = 2) := Lib.hid fun j hj => HTW.out j (by rw [hn]; exact hj)
    clear hT q1 hn ht h HTW
    go_enter Try.func34, Try.ntmps34
    go_wp2
    go_loopw [1, 5] (fun q i wr => ∃ k : Nat, k ≤ n ∧ i = .int .i64 k ∧ q = .int .i64 ((m + 6 * k : Nat) : Int) ∧ URow wr B M (.slice (some ⟨g1, 0, none⟩) n c1) vs (T k) ∧ MidU B M w wr) (fun _ i _ => n - (intOf i).toNat)
    case atStart => exact ⟨0, Nat.zero_le _, rfl, rfl, by rw [H0.out]; exact HH.out, MidU.refl _ _ _⟩
    case round =>
      obtain ⟨k, hk, rfl, rfl, hrow, hmd⟩ := hrel
      by_cases hlt : k < n
      · obtain ⟨g2, c2, hgv, _, _, q2⟩ := hrow.form (HL.out k) (by omega)
        injection hgv with hgv _ hcv
        injection hgv with hgv
        injection hgv with hgv
        subst hgv hcv
        have e1 := q2 k hlt
        have hr := hrow.row k (by rw [HL.out]; exact hlt)
        rw [HG.out k k hlt, if_neg (by omega)] at hr
        have hl2 := HTW2.out k hlt
        have HT1 := Lib.hid (HT.out k hlt)
        have HLK := Lib.hid (HL.out k)
        obtain ⟨A1, d1, p1⟩ := hr.shape
        rw [hl2] at p1
        have HMK : Hid (Calls Try.prog 28 #[vs.getD k NilU, .int .i64 ((m + 6 * k : Nat) : Int)] wr fun e w' => e = .returned (.int .i64 ((m + 6 * (k + 1) : Nat) : Int)) ∧ URow w' B M (.slice (some ⟨g1, 0, none⟩) n c1) vs (T (k + 1)) ∧ MidU B M w w') := Lib.hid (by
          refine (markWays_any _ _ _ (m + 6 * k) wr hr (by omega) (by omega)).mono fun e w' ⟨h1, h2, h3⟩ => ?_
          rw [hl2] at h1 h2
          refine ⟨by rw [h1, show m + 6 * k + 2 * 3 = m + 6 * (k + 1) by omega], ?_, hmd.step h3 (fun q hq => hrow.rowB (by rw [HLK.out]; exact hlt) q hq)⟩
          have := hrow.turn (by rw [HLK.out]; exact hlt) h3 h2
          rwa [HT1.out] at this)
        rw [p1] at e1 HMK
        clear hrow hr hmd p1 q2 HT HG hl2
        have hmk : m + 6 * k ≤ 2097152 := by omega
        have hmk1 : m + 6 * (k + 1) ≤ 2097152 := by omega
        generalize m + 6 * k = ok at *
        generalize ho1 : m + 6 * (k + 1) = ok1 at *
        have HO1 := Lib.hid ho1
        clear ho1
        have i1 : (k : Int) < (n : Int) := by omega
        go_wp2_with (go_at_call 28; refine HMK.out.mono ?_; rintro e w' ⟨rfl, hrow2, hmd2⟩)
        go_roundw
        case rel => exact ⟨k + 1, by omega, by go_num, by rw [HO1.out], hrow2, hmd2⟩
        case measure => simp [intOf]; omega
      · obtain rfl : k = n := by omega
        go_wp2
        go_ret
        exact ⟨rfl, hrow, hmd⟩
set_option maxRecDepth 100000 in
set_option maxHeartbeats 1000000 in
theorem heldWss_any (v : Value) (vs : List Value) (xss : List (List Wy)) (B M : Nat) (m : Nat) (w : World) (h : URow w B M v vs (umk m xss xss.length)) (hl : xss.length ≤ 1000) (hm : 0 < m ∧ m ≤ 1048576) :
    Calls Try.prog 35 #[v, .int .i64 (m : Nat)] w (Ret w (.int .i64 ((m + 6 * xss.length : Nat) : Int))) := by
  by_cases h0 : xss.length = 0
  · obtain ⟨A1, c1, rfl⟩ := h.out.shape
    have hx : xss = [] := List.eq_nil_of_length_eq_zero h0
    subst hx
    rw [h.len, umk_length]
    clear h h0
    go_enter Try.func35, Try.ntmps35
    go_wp2
    refine wp_loop_rounds 1 ?_; rw [rounds_succ]
    go_wp2
    go_ret
    exact ⟨rfl, Below.refl _ _⟩
  · obtain ⟨g1, c1, rfl, _, hg1, q1⟩ := h.form (umk_length m xss xss.length) (by omega)
    have HROW : Hid (∀ k, k < xss.length → WRow w B (vs.getD k NilU) (wmks (m + 6 * k) 2)) := Lib.hid fun k hk => by
      have := h.row k (by rw [umk_length]; exact hk)
      rwa [umk_get _ _ _ _ hk, if_pos hk] at this
    have HQ1 : Hid (∀ j, j < xss.length → ∀ W, Below w.heap.size w W → W.cell? ⟨g1, j, none⟩ = some (vs.getD j NilU)) := Lib.hid fun j hj W hW => (hW.cell (p := ⟨g1, j, none⟩) (Nat.lt_of_lt_of_le hg1 h.size)).trans (q1 j hj)
    clear h q1 hg1
    generalize hn : xss.length = n at *
    clear hn
    go_enter Try.func35, Try.ntmps35
    go_wp2
    go_loopw [1, 5] (fun q i wr => ∃ k : Nat, k ≤ n ∧ i = .int .i64 k ∧ q = .int .i64 ((m + 6 * k : Nat) : Int) ∧ Below w.heap.size w wr) (fun _ i _ => n - (intOf i).toNat)
    case atStart => exact ⟨0, Nat.zero_le _, rfl, rfl, Below.refl _ _⟩
    case round =>
      obtain ⟨k, hk, rfl, rfl, hb⟩ := hrel
      by_cases hlt : k < n
      · have e1 := HQ1.out k hlt _ hb
        have hr := HROW.out k hlt
        obtain ⟨A1, d1, p1⟩ := hr.shape
        rw [wmks_length] at p1
        have HMK : Hid (Calls Try.prog 29 #[vs.getD k NilU, .int .i64 ((m + 6 * k : Nat) : Int)] wr (Ret wr (.int .i64 ((m + 6 * (k + 1) : Nat) : Int)))) := Lib.hid (by
          have := heldWays_any _ 2 _ (m + 6 * k) wr (hr.below hb) (by omega) (by omega)
          rwa [show m + 6 * k + 2 * 3 = m + 6 * (k + 1) by omega] at this)
        rw [p1] at e1 HMK
        have HB := Lib.hid hb
        clear hr p1 hb
        have hmk : m + 6 * k ≤ 2097152 := by omega
        have hmk1 : m + 6 * (k + 1) ≤ 2097152 := by omega
        generalize m + 6 * k = ok at *
        generalize ho1 : m + 6 * (k + 1) = ok1 at *
        have HO1 := Lib.hid ho1
        clear ho1
        have i1 : (k : Int) < (n : Int) := by omega
        have i2 : ¬ (ok1 : Int) < 0 := by omega
        go_wp2_with (go_at_call 29; refine HMK.out.mono ?_; rintro e w' ⟨rfl, hb2⟩)
        go_roundw
        case rel => exact ⟨k + 1, by omega, by go_num, by rw [HO1.out], HB.out.trans (hb2.mono HB.out.size)⟩
        case measure => simp [intOf]; omega
      · obtain rfl : k = n := by omega
        go_wp2
        go_ret
        exact ⟨rfl, hb⟩
end Go.Proofs.Ytnlmjeakdjmohaa
