/- (ballot).list. -/
import Derived.Test.YtcnggafbdjhagaaPathB2
import Derived.Test.YtcnggafbdjhagaaLstMath
import Derived.Deep.LoopGhost
namespace Go.Proofs.Ytcnggafbdjhagaa
open Go.RowKit
/-- the list that is handed back: none if there are more than 300 -/
def lsOk (a b : Nat) (k l : Int) : Bool := decide (WV a b k l a b ≤ 300)
def lsV (a b : Nat) (k l : Int) : List ByteArray := if lsOk a b k l then byRank (WV a b k l) (a + b) a b (WV a b k l a b).toNat else []
def ListRet (w : World) (mb : Nat) (V : Int → Int → Int) (ok : Bool) (xs : List ByteArray) (e : Ending) (w' : World) : Prop := ∃ v, e = .returned (.tuple #[v, .bool ok]) ∧ SRow w' w.heap.size v xs ∧ MapOk w' mb V ∧ w.grownBy w' (some mb)
/-- the box of the ballot and the paths so far -/
def LX (a b mb : Nat) (k l : Int) (v : Value) (xs : List ByteArray) (w W : World) : Prop :=
  (W.cell? ⟨w.heap.size, 0, none⟩ = some (.int .i64 a) ∧ W.cell? ⟨w.heap.size, 1, none⟩ = some (.int .i64 b) ∧ W.cell? ⟨w.heap.size, 2, none⟩ = some (.int .i64 k) ∧ W.cell? ⟨w.heap.size, 3, none⟩ = some (.int .i64 l) ∧ W.cell? ⟨w.heap.size, 4, none⟩ = some (.map (some mb))) ∧ w.heap.size + 1 ≤ W.heap.size ∧ mb < w.heap.size ∧ Stays w mb (WV a b k l) W ∧ SRow W (w.heap.size + 1) v xs
section
variable {a b mb : Nat} {k l : Int} {v v' : Value} {xs xs' : List ByteArray} {w W W' : World}
theorem LX.grow {row : Option Nat} (h : LX a b mb k l v xs w W) (hg : W.grownBy W' row) (hr : ∀ q, row = some q → q = mb ∨ w.heap.size + 1 ≤ q) (hm : MapOk W' mb (WV a b k l)) (hx : SRow W' (w.heap.size + 1) v' xs') : LX a b mb k l v' xs' w W' := by
  obtain ⟨⟨h0, h1, h2, h3, h4⟩, hz, hmb, hs, hrow⟩ := h
  have e : ∀ o, W'.cell? ⟨w.heap.size, o, none⟩ = W.cell? ⟨w.heap.size, o, none⟩ := fun o => cell_grown hg (by omega) (by intro he; rcases hr _ he.symm with h | h <;> omega) o
  refine ⟨⟨(e _).trans h0, (e _).trans h1, (e _).trans h2, (e _).trans h3, (e _).trans h4⟩, Nat.le_trans hz hg.size, hmb, ⟨hm, ?_⟩, hx⟩
  refine ⟨hg.os.trans hs.2.os, hg.tape.trans hs.2.tape, hg.output.trans hs.2.output, Nat.le_trans hs.2.size hg.size, fun i hi hne => (hg.block i (Nat.lt_of_lt_of_le hi hs.2.size) ?_).trans (hs.2.block i hi hne)⟩
  intro he
  rcases hr i he.symm with h | h
  · exact hne (by rw [h])
  · omega
theorem LX.map (h : LX a b mb k l v xs w W) : MapOk W mb (WV a b k l) := h.2.2.2.1.1
theorem LX.row (h : LX a b mb k l v xs w W) : SRow W (w.heap.size + 1) v xs := h.2.2.2.2
theorem LX.low (h : LX a b mb k l v xs w W) : w.heap.size + 1 ≤ W.heap.size := h.2.1
theorem LX.step (h : LX a b mb k l v xs w W) (hm : MapOk W' mb (WV a b k l)) (hg : W.grownBy W' (some mb)) : LX a b mb k l v xs w W' :=
  h.grow hg (fun q hq => .inl (by injection hq with hq; exact hq.symm)) hm (srow_keep h.row (by have := h.2.2.1; omega) hg)
theorem LX.push (h : LX a b mb k l v xs w W) (hg : W.grownBy W' v.ownBlock) (hx : SRow W' (w.heap.size + 1) v' xs') : LX a b mb k l v' xs' w W' :=
  have hlow : ∀ q, v.ownBlock = some q → w.heap.size + 1 ≤ q := fun q hq => (h.row.blk q hq).1
  have hmb := h.2.2.1
  h.grow hg (fun q hq => .inr (hlow q hq)) (h.map.kept hg (fun e => by have := hlow mb e.symm; omega)) hx
theorem LX.fin (h : LX a b mb k l v xs w W) {ys : List ByteArray} (e : xs = ys) : ListRet w mb (WV a b k l) true ys (.returned (.tuple #[v, .bool true])) W := by
  subst e
  exact ⟨_, rfl, h.row.mono (by omega), h.map, h.2.2.2.1.2⟩
theorem LX.fin2 (h : LX a b mb k l v xs w W) {ys : List ByteArray} {ok : Bool} (e : xs = ys) (ho : ok = true) : ListRet w mb (WV a b k l) ok ys (.returned (.tuple #[v, .bool true])) W := by
  subst ho
  exact h.fin e
theorem LX.finNo2 (h : LX a b mb k l v xs w W) {ys : List ByteArray} {ok : Bool} (e : ys = []) (ho : ok = false) : ListRet w mb (WV a b k l) ok ys (.returned (.tuple #[.slice none 0 0, .bool false])) W := by
  subst ho e
  exact ⟨_, rfl, SRow.nil _ _, h.map, h.2.2.2.1.2⟩
theorem LX.finNo (h : LX a b mb k l v xs w W) : ListRet w mb (WV a b k l) false [] (.returned (.tuple #[.slice none 0 0, .bool false])) W :=
  ⟨_, rfl, SRow.nil _ _, h.map, h.2.2.2.1.2⟩
theorem LX.start (h : MapOk w mb (WV a b k l)) : LX a b mb k l (.slice none 0 0) [] w (w.alloc (.cells #[.int .i64 a, .int .i64 b, .int .i64 k, .int .i64 l, .map (some mb)] 65)) :=
  ⟨by simp [go_sem], by simp, h.lt, ⟨h.alloc _, World.grownBy_alloc w _ (some mb)⟩, SRow.nil _ _⟩
end
set_option maxRecDepth 100000 in
set_option maxHeartbeats 2000000 in
theorem list_any (a b mb : Nat) (k l : Int) (w : World) (hab : a + b ≤ 40) (hk : 1 ≤ k ∧ k ≤ 5) (h : MapOk w mb (WV a b k l)) :
    Calls Try.prog 72 #[.agg #[.int .i64 a, .int .i64 b, .int .i64 k, .int .i64 l, .map (some mb)]] w (ListRet w mb (WV a b k l) (lsOk a b k l) (lsV a b k l)) := by
  have HX0 := Lib.hid (LX.start h)
  go_enter Try.func72, Try.ntmps72
  go_wp2; go_step3
  go_wp2; go_step3
  go_wp2
  have HP : Hid (∀ (r : Nat) W v xs, LX a b mb k l v xs w W → Calls Try.prog 79 #[.agg #[.int .i64 a, .int .i64 b, .int .i64 k, .int .i64 l, .map (some mb)], .int .i64 (r : Int)] W fun e w' => e = .returned (.tuple #[.string (rkS a b k l r), .bool (rkOk a b k l r)]) ∧ LX a b mb k l v xs w w') :=
    Lib.hid fun r W v xs hX => (pathBal_ret a b mb k l r W hab hk hX.map).mono fun _ _ ⟨h1, h2, h3⟩ => ⟨h1, hX.step h2 h3⟩
  have hwn := WV_nn a b k l a b
  go_loopw [4] (fun st wr => ∃ (j : Nat), j ≤ 300 ∧ (j : Int) ≤ WV a b k l a b ∧ Hid (LX a b mb k l st (byRank (WV a b k l) (a + b) a b j) w wr)) (fun st _ => 301 - sliceLenS st)
  case atStart => exact ⟨0, by omega, by omega, HX0⟩
  case round =>
    obtain ⟨j, hj, hjW, HX⟩ := hrel
    clear HX0
    obtain ⟨A, c, hv⟩ := HX.out.row.shape
    rw [byRank_len] at hv
    subst hv
    obtain ⟨⟨p0, p1, p2, p3, p4⟩, hrest⟩ := HX.out
    clear hrest
    by_cases hlt : (j : Int) < WV a b k l a b
    · have hok : rkOk a b k l (j : Int) = true := by unfold rkOk; simp; omega
      have HS : Hid (byRank (WV a b k l) (a + b) a b j ++ [rkS a b k l (j : Int)] = byRank (WV a b k l) (a + b) a b (j + 1)) := by
        unfold Hid rkS
        rw [hok, if_pos rfl]
        exact byRank_snoc _ _ _ _ _
      have HP' := HP.out j
      rw [hok] at HP'
      have HP2 := Lib.hid HP'
      clear HP' hok HP
      generalize rkS a b k l (j : Int) = z at *
      by_cases h300 : j = 300
      · subst h300
        have HNO : Hid (lsOk a b k l = false ∧ lsV a b k l = []) := by
          unfold Hid lsV lsOk
          rw [decide_eq_false (by omega)]
          exact ⟨rfl, rfl⟩
        go_wp2_with (go_at_call 79; refine (HP2.out _ _ _ HX.out).mono ?_; rintro e w2 ⟨rfl, hX2⟩)
        try rw [Exit.noGoto_ret]
        go_ret2
        exact hX2.finNo2 HNO.out.2 HNO.out.1
      · have hb3 : ((j : Int) == 300) = false := by simp; omega
        go_wp2_with (first | (go_at_call 79; refine (HP2.out _ _ _ HX.out).mono ?_; rintro e w2 ⟨rfl, hX2⟩) | (at_builtin; refine wpList_pushS (.tmp 21) (.tmp 23) rfl rfl (w.heap.size + 1) _ (byRank (WV a b k l) (a + b) a b j) rfl hX2.row rfl (by rw [byRank_len]; omega) hX2.low ?_; intro v3 w3 hrow3 hg3 hat3; have hX3 := hX2.push hg3 hrow3))
        go_roundw
        case rel => exact ⟨j + 1, by omega, by omega, Lib.hid (by rw [← HS.out]; exact hX3)⟩
        case measure => rw [SRow.slen hrow3, List.length_append, byRank_len]; simp [sliceLenS]; omega
    · have hje : (j : Int) = WV a b k l a b := by omega
      have hok : rkOk a b k l (j : Int) = false := by unfold rkOk; simp; omega
      have HYES : Hid (lsOk a b k l = true ∧ byRank (WV a b k l) (a + b) a b j = lsV a b k l) := by
        unfold Hid lsV lsOk
        rw [decide_eq_true (by omega), if_pos rfl, ← hje, Int.toNat_natCast]
        exact ⟨rfl, rfl⟩
      have HP' := HP.out j
      rw [hok] at HP'
      have HP2 := Lib.hid HP'
      clear HP' hok HP hje
      generalize rkS a b k l (j : Int) = z at *
      go_wp2_with (go_at_call 79; refine (HP2.out _ _ _ HX.out).mono ?_; rintro e w2 ⟨rfl, hX2⟩)
      try rw [Exit.noGoto_ret]
      go_ret2
      exact hX2.fin2 HYES.out.2 HYES.out.1
end Go.Proofs.Ytcnggafbdjhagaa
