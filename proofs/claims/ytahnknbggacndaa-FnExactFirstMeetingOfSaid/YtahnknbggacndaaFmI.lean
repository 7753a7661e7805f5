/- The program's FirstMeetingOf. -/
import Derived.Test.YtahnknbggacndaaDmI
import Derived.Test.YtahnknbggacndaaEwI
import Derived.Test.YtahnknbggacndaaFmS
namespace Go.Proofs.Ytahnknbggacndaa
open Go.RowKit
set_option linter.unusedVariables false
/-- the first steps of a text -/
theorem bt_cut (s : ByteArray) {i k : Nat} (hi : i ≤ s.size) (hk : k < i) : bt (s.extract 0 i) k = bt s k := by
  have hs : (s.extract 0 i).size = i := by rw [ByteArray.size_extract]; omega
  rw [bt_at _ (show k < (s.extract 0 i).size by omega), bt_at _ (show k < s.size by omega)]
  have e : (s.extract 0 i)[k]'(by omega) = s[k]'(by omega) := by
    rw [ByteArray.getElem_extract]
    congr 1
    omega
  rw [e]
theorem cX_cut (s : ByteArray) (x : Int) {i : Nat} (hi : i ≤ s.size) : ∀ k, k ≤ i → cX (s.extract 0 i) x k = cX s x k
  | 0, _ => rfl
  | k + 1, h => by
    show cX (s.extract 0 i) x k + (if bt (s.extract 0 i) k = 69 then 1 else 0) = _
    rw [bt_cut s hi (by omega), cX_cut s x hi k (by omega)]
    rfl
theorem cY_cut (s : ByteArray) (y : Int) {i : Nat} (hi : i ≤ s.size) : ∀ k, k ≤ i → cY (s.extract 0 i) y k = cY s y k
  | 0, _ => rfl
  | k + 1, h => by
    show cY (s.extract 0 i) y k + (if bt (s.extract 0 i) k = 78 then 1 else 0) = _
    rw [bt_cut s hi (by omega), cY_cut s y hi k (by omega)]
    rfl
theorem okW_cut (s : ByteArray) (x y : Int) {i : Nat} (hi : i ≤ s.size) : ∀ k, k ≤ i → okW (s.extract 0 i) x y k = okW s x y k
  | 0, _ => rfl
  | k + 1, h => by
    show (okW (s.extract 0 i) x y k && ((bt (s.extract 0 i) k == 69 || bt (s.extract 0 i) k == 78) && cellB (cX (s.extract 0 i) x (k + 1)) (cY (s.extract 0 i) y (k + 1)))) = _
    rw [bt_cut s hi (by omega), okW_cut s x y hi k (by omega), cX_cut s x hi (k + 1) h, cY_cut s y hi (k + 1) h]
    rfl
theorem way_cut {x y : Int} {s : ByteArray} {i : Nat} (h : wayB x y s = true) (hi : i ≤ s.size) : wayB x y (s.extract 0 i) = true ∧ ewX x y (s.extract 0 i) = (ncX x y s).getD (i * 2) 0 ∧ ewY x y (s.extract 0 i) = (ncX x y s).getD (i * 2 + 1) 0 := by
  obtain ⟨h1, h2, h3⟩ := wayB_of h
  have hs : (s.extract 0 i).size = i := by rw [ByteArray.size_extract]; omega
  have hw : wayB x y (s.extract 0 i) = true := by
    unfold wayB
    rw [hs, okW_cut s x y hi i (Nat.le_refl _), h1, okW_le h3 hi, decide_eq_true (by omega)]
    rfl
  refine ⟨hw, ?_, ?_⟩
  · unfold ewX ncX
    rw [if_pos hw, if_pos h, hs, cX_cut s x hi i (Nat.le_refl _), clF_x _ _ _ hi]
  · unfold ewY ncX
    rw [if_pos hw, if_pos h, hs, cY_cut s y hi i (Nat.le_refl _), clF_y _ _ _ hi]
/-- a meeting is one of ways -/
theorem mtR_of {x y u v : Int} {s t : ByteArray} {i j : Nat} (h : mtR x y s u v t = some (i, j)) : (wayB x y s = true ∧ i ≤ s.size) ∧ wayB u v t = true ∧ j ≤ t.size := by
  have h1 : (mtR x y s u v t).isSome = true := by rw [h]; rfl
  have hi := mtI_lt h
  have key : ∀ (a b : Int) (r : ByteArray) (k : Nat), k < ncN a b r → wayB a b r = true ∧ k ≤ r.size := fun a b r k hk => by
    unfold ncN at hk
    split at hk
    · next hh => exact ⟨hh, by omega⟩
    · omega
  have hj : j < ncN u v t := by
    have gj : ∀ (xs ys : List Int) (m f i p q : Nat), mtI xs ys m f i = some (p, q) → q < m := by
      intro xs ys m f
      induction f with
      | zero => intro i p q h; cases h
      | succ f ih =>
        intro i p q h
        unfold mtI at h
        split at h
        · next j' hj' =>
          injection h with h
          injection h with h1 h2
          subst h2
          rw [← pxF_mtJ] at hj'
          have := pxF_lt hj'
          omega
        · exact ih _ _ _ h
    exact gj _ _ _ _ _ _ _ h
  exact ⟨key _ _ _ _ (by omega), key _ _ _ _ hj⟩
/-- a way in its box, and a cell behind the second one, whatever it holds -/
structure W3A (w : World) (x y : Int) (s : ByteArray) (X : World) : Prop where
  a : WB w.heap.size x y s X
  c0 : ∃ u : Int, X.cell? ⟨w.heap.size + 1 + 1, 0, none⟩ = some (.int .i64 u)
  c1 : ∃ u : Int, X.cell? ⟨w.heap.size + 1 + 1, 1, none⟩ = some (.int .i64 u)
  f0 : X.frozen? ⟨w.heap.size + 1 + 1, 0, none⟩ = false
  f1 : X.frozen? ⟨w.heap.size + 1 + 1, 1, none⟩ = false
  lt : w.heap.size + 1 + 1 < X.heap.size
  below : Below w.heap.size w X
theorem W3A.kept {w X X' : World} {x y : Int} {s : ByteArray} (h : W3A w x y s X) (hb : Below X.heap.size X X') : W3A w x y s X' := by
  obtain ⟨u, hu⟩ := h.c0
  obtain ⟨v, hv⟩ := h.c1
  exact ⟨h.a.below hb, ⟨u, (hb.cell (p := ⟨w.heap.size + 1 + 1, 0, none⟩) h.lt).trans hu⟩, ⟨v, (hb.cell (p := ⟨w.heap.size + 1 + 1, 1, none⟩) h.lt).trans hv⟩, (hb.frozen (p := ⟨w.heap.size + 1 + 1, 0, none⟩) h.lt).trans h.f0, (hb.frozen (p := ⟨w.heap.size + 1 + 1, 1, none⟩) h.lt).trans h.f1, Nat.lt_of_lt_of_le h.lt hb.size, h.below.trans (hb.mono h.below.size)⟩
theorem W3A.of {w X : World} {x y u v : Int} {s t : ByteArray} (h : W3 w x y u v s t X) : W3A w x y s X := ⟨h.a, ⟨_, h.z.c0⟩, ⟨_, h.z.c1⟩, h.f0, h.f1, h.z.lt, h.below⟩
theorem W3A.done {w X : World} {x y : Int} {s : ByteArray} (h : W3A w x y s X) (p q : Int) :
    ((X.setCell ⟨w.heap.size + 1 + 1, 0, none⟩ (.int .i64 p)).setCell ⟨w.heap.size + 1 + 1, 1, none⟩ (.int .i64 q)).cell? ⟨w.heap.size + 1 + 1, 0, none⟩ = some (.int .i64 p) ∧ ((X.setCell ⟨w.heap.size + 1 + 1, 0, none⟩ (.int .i64 p)).setCell ⟨w.heap.size + 1 + 1, 1, none⟩ (.int .i64 q)).cell? ⟨w.heap.size + 1 + 1, 1, none⟩ = some (.int .i64 q) ∧
    W3A w x y s ((X.setCell ⟨w.heap.size + 1 + 1, 0, none⟩ (.int .i64 p)).setCell ⟨w.heap.size + 1 + 1, 1, none⟩ (.int .i64 q)) := by
  obtain ⟨u, hu⟩ := h.c0
  obtain ⟨v, hv⟩ := h.c1
  have a0 : ((X.setCell ⟨w.heap.size + 1 + 1, 0, none⟩ (.int .i64 p)).setCell ⟨w.heap.size + 1 + 1, 1, none⟩ (.int .i64 q)).cell? ⟨w.heap.size + 1 + 1, 0, none⟩ = some (.int .i64 p) := (World.cell?_setCell_other _ _ _ _ (by simp)).trans (World.cell?_setCell_same' _ _ _ (by rw [hu]; rfl))
  have a1 : ((X.setCell ⟨w.heap.size + 1 + 1, 0, none⟩ (.int .i64 p)).setCell ⟨w.heap.size + 1 + 1, 1, none⟩ (.int .i64 q)).cell? ⟨w.heap.size + 1 + 1, 1, none⟩ = some (.int .i64 q) := World.cell?_setCell_same' _ _ _ (by rw [World.cell?_setCell_other _ _ _ _ (by simp), hv]; rfl)
  have e : ∀ o, ((X.setCell ⟨w.heap.size + 1 + 1, 0, none⟩ (.int .i64 p)).setCell ⟨w.heap.size + 1 + 1, 1, none⟩ (.int .i64 q)).cell? ⟨w.heap.size, o, none⟩ = X.cell? ⟨w.heap.size, o, none⟩ := fun o => by
    rw [World.cell?_setCell_other _ _ _ _ (by intro e; injection e with e; omega), World.cell?_setCell_other _ _ _ _ (by intro e; injection e with e; omega)]
  refine ⟨a0, a1, ⟨(e 0).trans h.a.c0, (e 1).trans h.a.c1, (e 2).trans h.a.c2, by simpa [World.setCell] using h.a.lt⟩, ⟨p, a0⟩, ⟨q, a1⟩, by rw [World.frozen?_setCell, World.frozen?_setCell]; exact h.f0, by rw [World.frozen?_setCell, World.frozen?_setCell]; exact h.f1, by simpa [World.setCell] using h.lt, ?_⟩
  exact (h.below.setCell (p := ⟨w.heap.size + 1 + 1, 0, none⟩) (by show w.heap.size ≤ w.heap.size + 1 + 1; omega) _).setCell (p := ⟨w.heap.size + 1 + 1, 1, none⟩) (by show w.heap.size ≤ w.heap.size + 1 + 1; omega) _
theorem w3Mk {w X : World} {x y : Int} {s : ByteArray} (h : W3A w x y s X) : (X.cell? ⟨w.heap.size, 0, none⟩ = some (.int .i64 x) ∧ X.cell? ⟨w.heap.size, 1, none⟩ = some (.int .i64 y) ∧ X.cell? ⟨w.heap.size, 2, none⟩ = some (.string s) ∧ W3A w x y s X) := ⟨h.a.c0, h.a.c1, h.a.c2, h⟩
theorem w3Of {w X : World} {x y : Int} {s : ByteArray} (h : (X.cell? ⟨w.heap.size, 0, none⟩ = some (.int .i64 x) ∧ X.cell? ⟨w.heap.size, 1, none⟩ = some (.int .i64 y) ∧ X.cell? ⟨w.heap.size, 2, none⟩ = some (.string s) ∧ W3A w x y s X)) : W3A w x y s X := h.2.2.2
theorem w3Keep {w X Y : World} {x y : Int} {s : ByteArray} (h : (X.cell? ⟨w.heap.size, 0, none⟩ = some (.int .i64 x) ∧ X.cell? ⟨w.heap.size, 1, none⟩ = some (.int .i64 y) ∧ X.cell? ⟨w.heap.size, 2, none⟩ = some (.string s) ∧ W3A w x y s X)) (hb : Below X.heap.size X Y) : Y.cell? ⟨w.heap.size, 0, none⟩ = some (.int .i64 x) ∧ Y.cell? ⟨w.heap.size, 1, none⟩ = some (.int .i64 y) ∧ Y.cell? ⟨w.heap.size, 2, none⟩ = some (.string s) ∧ W3A w x y s Y := w3Mk ((w3Of h).kept hb)
theorem w3Store {w X : World} {x y : Int} {s : ByteArray} (p q : Int) (h : (X.cell? ⟨w.heap.size, 0, none⟩ = some (.int .i64 x) ∧ X.cell? ⟨w.heap.size, 1, none⟩ = some (.int .i64 y) ∧ X.cell? ⟨w.heap.size, 2, none⟩ = some (.string s) ∧ W3A w x y s X)) : ((X.setCell ⟨w.heap.size + 1 + 1, 0, none⟩ (.int .i64 p)).setCell ⟨w.heap.size + 1 + 1, 1, none⟩ (.int .i64 q)).cell? ⟨w.heap.size, 0, none⟩ = some (.int .i64 x) ∧ ((X.setCell ⟨w.heap.size + 1 + 1, 0, none⟩ (.int .i64 p)).setCell ⟨w.heap.size + 1 + 1, 1, none⟩ (.int .i64 q)).cell? ⟨w.heap.size, 1, none⟩ = some (.int .i64 y) ∧ ((X.setCell ⟨w.heap.size + 1 + 1, 0, none⟩ (.int .i64 p)).setCell ⟨w.heap.size + 1 + 1, 1, none⟩ (.int .i64 q)).cell? ⟨w.heap.size, 2, none⟩ = some (.string s) ∧ W3A w x y s ((X.setCell ⟨w.heap.size + 1 + 1, 0, none⟩ (.int .i64 p)).setCell ⟨w.heap.size + 1 + 1, 1, none⟩ (.int .i64 q)) := w3Mk ((w3Of h).done p q).2.2
set_option maxRecDepth 100000 in
set_option maxHeartbeats 4000000 in
theorem firstMeetingI_ret (x y u v : Int) (s t : ByteArray) (w : World) (hs : s.size ≤ maxLen) (ht : t.size ≤ maxLen) :
    Calls Try.prog 45 #[wayV x y s, wayV u v t] w (Ret w (.tuple #[celV (fmX x y s u v t).1 (fmX x y s u v t).2, .bool (dmV x y s u v t)])) := by
  have HX := Lib.hid (W3.start w x y u v s t)
  have H3 : Hid (∀ w, Calls Try.prog 88 #[wayV x y s, wayV u v t] w (Ret w (mtV (mtR x y s u v t)))) := Lib.hid fun w => firstMeet_any x y u v s t w hs ht
  have hmt := fun i j (h : mtR x y s u v t = some (i, j)) => mtR_of h
  have hx := HX.out
  have r0 := hx.a.c0; have r1 := hx.a.c1; have r2 := hx.a.c2; have r3 := hx.b.c0; have r4 := hx.b.c1; have r5 := hx.b.c2; have r6 := hx.z.c0; have r7 := hx.z.c1; have r8 := hx.f0; have r9 := hx.f1
  clear hx
  obtain ⟨R, hR⟩ : ∃ R, mtR x y s u v t = R := ⟨_, rfl⟩
  rw [hR] at H3 hmt
  rcases R with _ | ⟨i, j⟩
  · have e1 : dmV x y s u v t = false := by unfold dmV; rw [hR]; simp
    have e2 : fmX x y s u v t = (0, 0) := by unfold fmX; rw [hR]; split <;> rfl
    rw [e1, e2]
    unfold mtV at H3
    clear e1 e2 hmt hR
    go_enter Try.func45, Try.ntmps45
    go_wp2_with fail
    refine (H3.out _).mono ?_
    rintro e w1 ⟨rfl, hb1⟩
    have hx := HX.out.kept hb1
    clear r0 r1 r2 r3 r4 r5 r6 r7 r8 r9
    have r0 := hx.a.c0; have r1 := hx.a.c1; have r2 := hx.a.c2; have r3 := hx.b.c0; have r4 := hx.b.c1; have r5 := hx.b.c2; have r6 := hx.z.c0; have r7 := hx.z.c1; have r8 := hx.f0; have r9 := hx.f1
    have HX1 := Lib.hid hx
    clear hx hb1
    go_wp2_with fail
    obtain ⟨z0, z1, hzb⟩ := HX1.out.done 0 0
    refine bodyPost_ret (v := .tuple #[celV 0 0, .bool false]) ?_ rfl ⟨rfl, hzb⟩
    clear hzb
    generalize (w1.setCell ⟨w.heap.size + 1 + 1, 0, none⟩ (.int .i64 0)).setCell ⟨w.heap.size + 1 + 1, 1, none⟩ (.int .i64 0) = WF at *
    simp [results, Try.f45, go_sem, z0, z1]
  · obtain ⟨⟨m1, m2⟩, m3, m4⟩ := hmt i j rfl
    have e0 : dmOk x y s u v t = true := by unfold dmOk; rw [m1, m3]; rfl
    have e1 : dmV x y s u v t = true := by unfold dmV; rw [e0, hR]; rfl
    obtain ⟨k1, k2, k3⟩ := way_cut m1 m2
    have e2 : fmX x y s u v t = (ewX x y (s.extract 0 i), ewY x y (s.extract 0 i)) := by
      unfold fmX
      rw [if_pos e0, hR, k2, k3]
    rw [e1, e2]
    have HE : Hid (∀ w, Calls Try.prog 33 #[wayV x y (s.extract 0 i)] w (Ret w (.tuple #[celV (ewX x y (s.extract 0 i)) (ewY x y (s.extract 0 i)), .bool true]))) := Lib.hid fun w => by
      have := endWI_ret x y (s.extract 0 i) w (by rw [ByteArray.size_extract]; omega)
      rwa [k1] at this
    unfold mtV at H3
    have i1 : (i : Int) ≤ (s.size : Int) := by omega
    have i0 : 0 ≤ (i : Int) := by omega
    clear e0 e1 e2 hmt hR k1 k2 k3 m1 m2 m3 m4
    generalize ewX x y (s.extract 0 i) = p at *
    generalize ewY x y (s.extract 0 i) = q at *
    go_enter Try.func45, Try.ntmps45
    go_wp2_with fail
    refine (H3.out _).mono ?_
    rintro e w1 ⟨rfl, hb1⟩
    have HA := Lib.hid (W3A.of (HX.out.kept hb1))
    have hx := (HA.out.kept (Below.refl _ _).drew)
    clear r0 r1 r2 r3 r4 r5 r6 r7 r8 r9
    have HA1 := Lib.hid hx
    clear hx hb1
    go_wp2_with fail
    go_region_held3 (fun X => (X.cell? ⟨w.heap.size, 0, none⟩ = some (.int .i64 x) ∧ X.cell? ⟨w.heap.size, 1, none⟩ = some (.int .i64 y) ∧ X.cell? ⟨w.heap.size, 2, none⟩ = some (.string s) ∧ W3A w x y s X)) (first | exact w3Mk HA1.out | assumption | exact w3Keep (by assumption) (by assumption) | exact w3Store _ _ (by assumption)) (first | (go_at_call 33; refine (HE.out _).mono ?_; rintro e wz ⟨rfl, hbz⟩; have hz := (W3A.kept (w3Of (by assumption)) hbz); obtain ⟨u0, s0⟩ := hz.c0; obtain ⟨u1, s1⟩ := hz.c1; have s2 := hz.f0; have s3 := hz.f1; have HZ := Lib.hid hz; clear hz))
    go_wp2_with fail
    obtain ⟨z0, z1, hzb⟩ := HZ.out.done p q
    refine bodyPost_ret (v := .tuple #[celV p q, .bool true]) ?_ rfl ⟨rfl, hzb.below⟩
    clear hzb
    generalize (wz.setCell ⟨w.heap.size + 1 + 1, 0, none⟩ (.int .i64 p)).setCell ⟨w.heap.size + 1 + 1, 1, none⟩ (.int .i64 q) = WF at *
    simp [results, Try.f45, go_sem, z0, z1]
end Go.Proofs.Ytahnknbggacndaa
