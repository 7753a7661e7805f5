/- The laws' eqWayS, markWayS, heldWayS. -/
import Derived.Test.YtahnknbggacndaaWOwn
import Derived.Test.YtahnknbggacndaaMarkText
namespace Go.Proofs.Ytahnknbggacndaa
open Go.RowKit
set_option linter.unusedVariables false
/-- the marks of a way -/
def wmk (m k : Nat) : Wy := (((m + k * 3 : Nat) : Int), ((m + k * 3 + 1 : Nat) : Int), mt (m + k * 3 + 2))
def wmks (m n : Nat) : List Wy := (List.range n).map (wmk m)
theorem wmks_length (m n : Nat) : (wmks m n).length = n := by simp [wmks]
theorem wmks_get (m : Nat) {n j : Nat} (h : j < n) : wg (wmks m n) j = wmk m j := by simp [wg, wmks, h]
/-- the first k marked -/
def wmP (m : Nat) (L : List Wy) (k : Nat) : List Wy := wmks m k ++ L.drop k
theorem wmP_zero (m : Nat) (L : List Wy) : wmP m L 0 = L := by simp [wmP, wmks]
theorem wmP_length (m : Nat) (L : List Wy) {k : Nat} (h : k ≤ L.length) : (wmP m L k).length = L.length := by simp [wmP, wmks]; omega
theorem wmP_full (m : Nat) (L : List Wy) : wmP m L L.length = wmks m L.length := by simp [wmP]
theorem wmP_set (m : Nat) (L : List Wy) {k : Nat} (h : k < L.length) : (wmP m L k).set k (wmk m k) = wmP m L (k + 1) := by
  unfold wmP
  rw [List.set_append, wmks_length, if_neg (by omega), Nat.sub_self, List.drop_eq_getElem_cons h, List.set_cons_zero]
  unfold wmks
  rw [List.range_succ, List.map_append, List.append_assoc]
  rfl
/-- the three stores -/
theorem wmP_steps (m : Nat) (L : List Wy) {k : Nat} (h : k < L.length) (A : Wy) : ((((wmP m L k).set k (((m + k * 3 : Nat) : Int), A.2.1, A.2.2)).set k (((m + k * 3 : Nat) : Int), ((m + k * 3 + 1 : Nat) : Int), A.2.2)).set k (((m + k * 3 : Nat) : Int), ((m + k * 3 + 1 : Nat) : Int), mt (m + k * 3 + 2))) = wmP m L (k + 1) := by
  rw [List.set_set, List.set_set]
  exact wmP_set m L h
theorem wg_set {L : List Wy} {k : Nat} (h : k < L.length) (t : Wy) : wg (L.set k t) k = t := by
  unfold wg
  rw [List.getD_eq_getElem?_getD, List.getElem?_set_self h]
  rfl
structure WQ2 (w : World) (B1 B2 : Nat) (v1 v2 : Value) (L : List Wy) (X : World) : Prop where
  a : WRow X B1 v1 L
  b : WRow X B2 v2 L
  below : Below w.heap.size w X
theorem WQ2.kept {w X X' : World} {B1 B2 : Nat} {v1 v2 : Value} {L : List Wy} (h : WQ2 w B1 B2 v1 v2 L X) (hb : Below X.heap.size X X') : WQ2 w B1 B2 v1 v2 L X' := ⟨h.a.below hb, h.b.below hb, h.below.trans (hb.mono h.below.size)⟩
theorem weMk {w X : World} {B1 B2 g1 g2 c1 c2 n k : Nat} {L : List Wy} {x y : Int} {s : ByteArray} (h : WQ2 w B1 B2 (.slice (some ⟨g1, 0, none⟩) n c1) (.slice (some ⟨g2, 0, none⟩) n c2) L X) (hk : k < L.length) (hw : wg L k = (x, y, s)) :
    X.cell? ⟨g1, k * 3, none⟩ = some (.int .i64 x) ∧ X.cell? ⟨g1, k * 3 + 1, none⟩ = some (.int .i64 y) ∧ X.cell? ⟨g1, k * 3 + 2, none⟩ = some (.string s) ∧ X.cell? ⟨g2, k * 3, none⟩ = some (.int .i64 x) ∧ X.cell? ⟨g2, k * 3 + 1, none⟩ = some (.int .i64 y) ∧ X.cell? ⟨g2, k * 3 + 2, none⟩ = some (.string s) ∧ WQ2 w B1 B2 (.slice (some ⟨g1, 0, none⟩) n c1) (.slice (some ⟨g2, 0, none⟩) n c2) L X := by
  have h1 := h.a.cell hk
  have h2 := h.b.cell hk
  rw [hw] at h1 h2
  exact ⟨h1.1, h1.2.1, h1.2.2, h2.1, h2.2.1, h2.2.2, h⟩
theorem weOf {w X : World} {B1 B2 g1 g2 c1 c2 n k : Nat} {L : List Wy} {x y : Int} {s : ByteArray} (h : X.cell? ⟨g1, k * 3, none⟩ = some (.int .i64 x) ∧ X.cell? ⟨g1, k * 3 + 1, none⟩ = some (.int .i64 y) ∧ X.cell? ⟨g1, k * 3 + 2, none⟩ = some (.string s) ∧ X.cell? ⟨g2, k * 3, none⟩ = some (.int .i64 x) ∧ X.cell? ⟨g2, k * 3 + 1, none⟩ = some (.int .i64 y) ∧ X.cell? ⟨g2, k * 3 + 2, none⟩ = some (.string s) ∧ WQ2 w B1 B2 (.slice (some ⟨g1, 0, none⟩) n c1) (.slice (some ⟨g2, 0, none⟩) n c2) L X) : WQ2 w B1 B2 (.slice (some ⟨g1, 0, none⟩) n c1) (.slice (some ⟨g2, 0, none⟩) n c2) L X := h.2.2.2.2.2.2
theorem weKeep {w X X' : World} {B1 B2 g1 g2 c1 c2 n k : Nat} {L : List Wy} {x y : Int} {s : ByteArray} (h : X.cell? ⟨g1, k * 3, none⟩ = some (.int .i64 x) ∧ X.cell? ⟨g1, k * 3 + 1, none⟩ = some (.int .i64 y) ∧ X.cell? ⟨g1, k * 3 + 2, none⟩ = some (.string s) ∧ X.cell? ⟨g2, k * 3, none⟩ = some (.int .i64 x) ∧ X.cell? ⟨g2, k * 3 + 1, none⟩ = some (.int .i64 y) ∧ X.cell? ⟨g2, k * 3 + 2, none⟩ = some (.string s) ∧ WQ2 w B1 B2 (.slice (some ⟨g1, 0, none⟩) n c1) (.slice (some ⟨g2, 0, none⟩) n c2) L X) (hk : Hid (k < L.length ∧ wg L k = (x, y, s))) (hb : Below X.heap.size X X') :
    X'.cell? ⟨g1, k * 3, none⟩ = some (.int .i64 x) ∧ X'.cell? ⟨g1, k * 3 + 1, none⟩ = some (.int .i64 y) ∧ X'.cell? ⟨g1, k * 3 + 2, none⟩ = some (.string s) ∧ X'.cell? ⟨g2, k * 3, none⟩ = some (.int .i64 x) ∧ X'.cell? ⟨g2, k * 3 + 1, none⟩ = some (.int .i64 y) ∧ X'.cell? ⟨g2, k * 3 + 2, none⟩ = some (.string s) ∧ WQ2 w B1 B2 (.slice (some ⟨g1, 0, none⟩) n c1) (.slice (some ⟨g2, 0, none⟩) n c2) L X' := weMk ((weOf h).kept hb) hk.out.1 hk.out.2
set_option maxRecDepth 100000 in
set_option maxHeartbeats 1000000 in
theorem eqWays_same (v1 v2 : Value) (L : List Wy) (B1 B2 : Nat) (w : World) (h1 : WRow w B1 v1 L) (h2 : WRow w B2 v2 L) (hl : L.length ≤ 1048576) :
    Calls Try.prog 39 #[v1, v2] w (Ret w (.bool true)) := by
  obtain ⟨n, hn⟩ : ∃ n, L.length = n := ⟨_, rfl⟩
  by_cases h0 : n = 0
  · obtain ⟨A1, c1, rfl⟩ := h1.shape
    obtain ⟨A2, c2, rfl⟩ := h2.shape
    rw [hn]
    subst h0
    clear h1 h2 hn hl
    go_enter Try.func39, Try.ntmps39
    go_wp2
    refine wp_loop_rounds 1 ?_; rw [rounds_succ]
    go_wp2
    go_ret
    exact ⟨rfl, Below.refl _ _⟩
  · obtain ⟨g1, c1, rfl, _, _⟩ := h1.form hn (by omega)
    obtain ⟨g2, c2, rfl, _, _⟩ := h2.form hn (by omega)
    have HE0 : Hid (WQ2 w B1 B2 (.slice (some ⟨g1, 0, none⟩) n c1) (.slice (some ⟨g2, 0, none⟩) n c2) L w) := Lib.hid ⟨h1, h2, Below.refl _ _⟩
    have HR : Hid (∀ (x y : Int) (s : ByteArray) (w : World), Calls Try.prog 48 #[wayV x y s, wayV x y s] w (Ret w (.bool true))) := Lib.hid eqWay_any
    rw [hn] at hl
    have HNL := Lib.hid hn
    clear h1 h2 h0 hn
    go_enter Try.func39, Try.ntmps39
    go_wp2_with fail
    go_loopw [5] (fun i wr => ∃ k : Nat, k ≤ n ∧ i = .int .i64 (k : Int) ∧ WQ2 w B1 B2 (.slice (some ⟨g1, 0, none⟩) n c1) (.slice (some ⟨g2, 0, none⟩) n c2) L wr) (fun i _ => n - (intOf i).toNat)
    case atStart => exact ⟨0, Nat.zero_le _, rfl, HE0.out⟩
    case round =>
      obtain ⟨k, hk, rfl, heq⟩ := hrel
      clear HE0
      by_cases hlt : k < n
      · have i1 : (k : Int) < (n : Int) := by omega
        have i2 : (0 : Int) ≤ (k : Int) := by omega
        obtain ⟨x, y, s, hw⟩ : ∃ x y s, wg L k = (x, y, s) := ⟨_, _, _, rfl⟩
        have HK : Hid (k < L.length ∧ wg L k = (x, y, s)) := Lib.hid ⟨by rw [HNL.out]; exact hlt, hw⟩
        have HE := Lib.hid (weMk (heq.kept (Below.refl _ _).drew) HK.out.1 HK.out.2)
        clear hw heq
        go_wp2_with fail
        go_region_held3 (fun X => X.cell? ⟨g1, k * 3, none⟩ = some (.int .i64 x) ∧ X.cell? ⟨g1, k * 3 + 1, none⟩ = some (.int .i64 y) ∧ X.cell? ⟨g1, k * 3 + 2, none⟩ = some (.string s) ∧ X.cell? ⟨g2, k * 3, none⟩ = some (.int .i64 x) ∧ X.cell? ⟨g2, k * 3 + 1, none⟩ = some (.int .i64 y) ∧ X.cell? ⟨g2, k * 3 + 2, none⟩ = some (.string s) ∧ WQ2 w B1 B2 (.slice (some ⟨g1, 0, none⟩) n c1) (.slice (some ⟨g2, 0, none⟩) n c2) L X) (first | exact HE.out | assumption | exact weKeep (by assumption) HK (by assumption)) (first | (go_at_call 48; refine (HR.out _ _ _ _).mono ?_; rintro e w4 ⟨rfl, hb4⟩; have HE4 := Lib.hid ((weOf (by assumption)).kept hb4)))
        go_wp2_with fail
        go_roundw
        case rel => exact ⟨k + 1, by omega, by go_num, HE4.out⟩
        case measure => simp [intOf]; omega
      · go_wp2_with fail
        go_ret
        exact ⟨rfl, heq.below⟩
set_option maxRecDepth 100000 in
set_option maxHeartbeats 1000000 in
theorem markWays_any (v : Value) (L : List Wy) (B : Nat) (m : Nat) (w : World) (h1 : WRow w B v L) (hl : L.length ≤ 1048576) (hm : 0 < m ∧ m ≤ 1073741824) :
    Calls Try.prog 40 #[v, .int .i64 (m : Nat)] w fun e w' => e = .returned (.int .i64 ((m + L.length * 3 : Nat) : Int)) ∧ WRow w' B v (wmks m L.length) ∧ w.grownBy w' v.ownBlock := by
  obtain ⟨n, hn⟩ : ∃ n, L.length = n := ⟨_, rfl⟩
  by_cases h0 : n = 0
  · obtain ⟨A1, c1, rfl⟩ := h1.shape
    obtain rfl : L = [] := List.eq_nil_of_length_eq_zero (hn.trans h0)
    have H1 := Lib.hid h1
    clear h1 hn
    go_enter Try.func40, Try.ntmps40
    go_wp2
    refine wp_loop_rounds 1 ?_; rw [rounds_succ]
    go_wp2
    go_ret
    exact ⟨ret_int (by simp), H1.out, grown_refl' _ _⟩
  · obtain ⟨g1, c1, rfl, _, _⟩ := h1.form hn (by omega)
    have HS : Hid (∀ k, k < n → ∀ A : Wy, ((((wmP m L k).set k (((m + k * 3 : Nat) : Int), A.2.1, A.2.2)).set k (((m + k * 3 : Nat) : Int), ((m + k * 3 + 1 : Nat) : Int), A.2.2)).set k (((m + k * 3 : Nat) : Int), ((m + k * 3 + 1 : Nat) : Int), mt (m + k * 3 + 2))) = wmP m L (k + 1)) := Lib.hid fun k hk A => wmP_steps m L (by omega) A
    have HLN : Hid (∀ k, k ≤ n → (wmP m L k).length = n) := Lib.hid fun k hk => by rw [wmP_length m L (by omega), hn]
    have HF : Hid (wmP m L n = wmks m n) := Lib.hid (by rw [← hn]; exact wmP_full m L)
    have H0 : Hid (WRow w B (.slice (some ⟨g1, 0, none⟩) n c1) (wmP m L 0)) := Lib.hid (by rw [wmP_zero]; exact h1)
    rw [hn] at hl ⊢
    clear h1 hn
    go_enter Try.func40, Try.ntmps40
    go_wp2
    go_loopw [1, 5] (fun q i wr => ∃ k : Nat, k ≤ n ∧ i = .int .i64 k ∧ q = .int .i64 ((m + k * 3 : Nat) : Int) ∧ WRow wr B (.slice (some ⟨g1, 0, none⟩) n c1) (wmP m L k) ∧ w.grownBy wr (some g1)) (fun _ i _ => n - (intOf i).toNat)
    case atStart => exact ⟨0, Nat.zero_le _, rfl, by go_num, H0.out, grown_refl' _ _⟩
    case round =>
      obtain ⟨k, hk, rfl, rfl, hrow, hg⟩ := hrel
      clear H0
      by_cases hlt : k < n
      · have HSK := Lib.hid (HS.out k hlt (wg (wmP m L k) k))
        have hlen := HLN.out k hk
        obtain ⟨q, hq⟩ : ∃ q, q = m + k * 3 := ⟨_, rfl⟩
        rw [← hq] at HSK ⊢
        have HM : Hid (∀ w, Calls Try.prog 86 #[.int .i64 ((q : Int) + 1 + 1)] w (Ret w (.string (mt (q + 2))))) := Lib.hid fun w => by
          have := markText_any (q + 2) w (by omega) (by omega)
          rwa [show ((q + 2 : Nat) : Int) = (q : Int) + 1 + 1 by omega] at this
        have hqb : 0 < q ∧ q ≤ 2147483648 := by omega
        have HQ := Lib.hid hq
        have e0 := (hrow.cell (j := k) (by omega)).1
        have e1 := (hrow.cell (j := k) (by omega)).2.1
        have f0 := hrow.free (k * 3)
        have f1 := hrow.free (k * 3 + 1)
        have f2 := hrow.free (k * 3 + 2)
        have s0 := hrow.set0 (j := k) (by omega) (q : Int)
        have s1 := s0.1.set1 (j := k) (by rw [List.length_set]; omega) ((q + 1 : Nat) : Int)
        rw [wg_set (by omega)] at s1
        have hgg := grown_trans' (grown_trans' hg s0.2) s1.2
        have hln2 : ((((wmP m L k).set k ((q : Int), (wg (wmP m L k) k).2.1, (wg (wmP m L k) k).2.2))).set k ((q : Int), ((q + 1 : Nat) : Int), (wg (wmP m L k) k).2.2)).length = n := by rw [List.length_set, List.length_set]; exact hlen
        have HLN2 := Lib.hid hln2
        have HWG : Hid (wg ((((wmP m L k).set k ((q : Int), (wg (wmP m L k) k).2.1, (wg (wmP m L k) k).2.2))).set k ((q : Int), ((q + 1 : Nat) : Int), (wg (wmP m L k) k).2.2)) k = ((q : Int), ((q + 1 : Nat) : Int), (wg (wmP m L k) k).2.2)) := Lib.hid (wg_set (by rw [List.length_set]; omega) _)
        generalize mt (q + 2) = x at *
        generalize (((wmP m L k).set k ((q : Int), (wg (wmP m L k) k).2.1, (wg (wmP m L k) k).2.2))).set k ((q : Int), ((q + 1 : Nat) : Int), (wg (wmP m L k) k).2.2) = L2 at *
        have HR1 := Lib.hid s1.1
        have HG := Lib.hid hgg
        rw [show ((q + 1 : Nat) : Int) = (q : Int) + 1 by omega] at HR1 HG HWG HSK
        clear hq s0 s1 hgg hln2 hlen hrow hg
        go_wp2_with (go_at_call 86; refine (HM.out _).mono ?_; rintro e w3 ⟨rfl, hb3⟩; have hrow3 := HR1.out.below hb3; have e3 := (hrow3.cell (j := k) (by rw [HLN2.out]; exact hlt)).2.2; have e4 := hrow3.free (k * 3 + 2); have hst := hrow3.set2 (j := k) (by rw [HLN2.out]; exact hlt) x; have HST := Lib.hid hst; have HG3 := Lib.hid (grown_trans' (grown_trans' HG.out (below_grown hb3 _)) hst.2); clear hrow3 hst hb3)
        go_roundw
        case rel => exact ⟨k + 1, by omega, by go_num, by rw [show m + (k + 1) * 3 = q + 3 by rw [HQ.out]; omega]; go_num, by
          have := HST.out.1
          rw [HWG.out, HSK.out] at this
          exact this, HG3.out⟩
        case measure => simp [intOf]; omega
      · go_wp2
        obtain rfl : k = n := by omega
        go_ret
        exact ⟨rfl, by rw [← HF.out]; exact hrow, hg⟩
theorem whKeep {w X X' : World} {g1 k : Nat} {x : ByteArray} (h : X.cell? ⟨g1, k * 3 + 2, none⟩ = some (.string x) ∧ Below w.heap.size w X) (hg : g1 < w.heap.size) (hb : Below X.heap.size X X') :
    X'.cell? ⟨g1, k * 3 + 2, none⟩ = some (.string x) ∧ Below w.heap.size w X' :=
  ⟨(hb.cell (p := ⟨g1, k * 3 + 2, none⟩) (Nat.lt_of_lt_of_le hg h.2.size)).trans h.1, h.2.trans (hb.mono h.2.size)⟩
theorem whB {w X : World} {g1 k : Nat} {x : ByteArray} (h : X.cell? ⟨g1, k * 3 + 2, none⟩ = some (.string x) ∧ Below w.heap.size w X) : Below w.heap.size w X := h.2
set_option maxRecDepth 100000 in
set_option maxHeartbeats 1000000 in
theorem heldWays_any (v : Value) (n : Nat) (B : Nat) (m : Nat) (w : World) (h1 : WRow w B v (wmks m n)) (hl : n ≤ 1048576) (hm : 0 < m ∧ m ≤ 1073741824) :
    Calls Try.prog 41 #[v, .int .i64 (m : Nat)] w (Ret w (.int .i64 ((m + n * 3 : Nat) : Int))) := by
  by_cases h0 : n = 0
  · subst h0
    obtain ⟨A1, c1, rfl⟩ := h1.shape
    rw [wmks_length] at *
    clear h1
    go_enter Try.func41, Try.ntmps41
    go_wp2
    refine wp_loop_rounds 1 ?_; rw [rounds_succ]
    go_wp2
    go_ret
    exact ⟨ret_int (by simp), Below.refl _ _⟩
  · obtain ⟨g1, c1, rfl, _, hgl⟩ := h1.form (wmks_length m n) (by omega)
    have H1 := Lib.hid h1
    clear h1 h0
    go_enter Try.func41, Try.ntmps41
    go_wp2
    go_loopw [1, 5] (fun q i wr => ∃ k : Nat, k ≤ n ∧ i = .int .i64 k ∧ q = .int .i64 ((m + k * 3 : Nat) : Int) ∧ Below w.heap.size w wr) (fun _ i _ => n - (intOf i).toNat)
    case atStart => exact ⟨0, Nat.zero_le _, rfl, by go_num, Below.refl _ _⟩
    case round =>
      obtain ⟨k, hk, rfl, rfl, hb⟩ := hrel
      by_cases hlt : k < n
      · have hc := (H1.out.below hb).cell (j := k) (by rw [wmks_length]; omega)
        rw [wmks_get m hlt] at hc
        obtain ⟨q, hq⟩ : ∃ q, q = m + k * 3 := ⟨_, rfl⟩
        unfold wmk at hc
        rw [← hq] at hc ⊢
        rw [show ((q + 1 : Nat) : Int) = (q : Int) + 1 by omega] at hc
        have HM : Hid (∀ w, Calls Try.prog 86 #[.int .i64 ((q : Int) + 1 + 1)] w (Ret w (.string (mt (q + 2))))) := Lib.hid fun w => by
          have := markText_any (q + 2) w (by omega) (by omega)
          rwa [show ((q + 2 : Nat) : Int) = (q : Int) + 1 + 1 by omega] at this
        have hqb : 0 < q ∧ q ≤ 2147483648 := by omega
        have HQ := Lib.hid hq
        clear hq
        generalize mt (q + 2) = x at *
        have i1 : (k : Int) < (n : Int) := by omega
        have e0 := hc.1
        have e1 := hc.2.1
        have HS0 : Hid (wr.drew.cell? ⟨g1, k * 3 + 2, none⟩ = some (.string x) ∧ Below w.heap.size w wr.drew) := Lib.hid ⟨hc.2.2, below_drewN hb 1⟩
        clear hc
        go_wp2
        go_region_held3 (fun W => W.cell? ⟨g1, k * 3 + 2, none⟩ = some (.string x) ∧ Below w.heap.size w W) (first | exact HS0.out | assumption | exact whKeep (by assumption) hgl (by assumption)) (first | (go_at_call 86; refine (HM.out _).mono ?_; rintro e w' ⟨rfl, hb'⟩))
        go_wp2
        go_roundw
        case rel => exact ⟨k + 1, by omega, by go_num, by rw [show m + (k + 1) * 3 = q + 3 by rw [HQ.out]; omega]; go_num, whB (g1 := g1) (k := k) (x := x) (by assumption)⟩
        case measure => simp [intOf]; omega
      · go_wp2
        obtain rfl : k = n := by omega
        go_ret
        exact ⟨rfl, hb⟩
end Go.Proofs.Ytahnknbggacndaa
