/- Pack 18 of what FnExactFirstApart needs: PlMath, NcC. -/
import Derived.Test.YtnlmjeakdjmohaaKFnExactFirstApart17
import Derived.Deep.CutBlock
import Derived.Deep.DeepCutAuto
/- The cells of a way as pairs, and what is on a list of cells. -/
namespace Go.Proofs.Ytnlmjeakdjmohaa
open Go.RowKit
set_option linter.unusedVariables false
theorem bt_txT0 (c : UInt8) (p : List UInt8) : bt (txT (c :: p)) 0 = (c.toNat : Int) := by
  rw [bt_at _ (by rw [txT_size]; simp)]
  rfl
theorem bt_txTs (c : UInt8) (p : List UInt8) (k : Nat) : bt (txT (c :: p)) (k + 1) = bt (txT p) k := by
  unfold bt
  by_cases h : k < (txT p).size
  · have h2 : k + 1 < (txT (c :: p)).size := by rw [txT_size] at h ⊢; simp; omega
    rw [dif_pos h, dif_pos h2]
    rfl
  · have h2 : ¬ k + 1 < (txT (c :: p)).size := by rw [txT_size] at h ⊢; simp; omega
    rw [dif_neg h, dif_neg h2]
theorem cX_txTs (c : UInt8) (p : List UInt8) (x : Int) : ∀ k, cX (txT (c :: p)) x (k + 1) = cX (txT p) (x + (if (c.toNat : Int) = 69 then 1 else 0)) k
  | 0 => by
    show cX _ x 0 + (if bt (txT (c :: p)) 0 = 69 then 1 else 0) = _
    rw [bt_txT0]
    rfl
  | k + 1 => by
    show cX _ x (k + 1) + (if bt (txT (c :: p)) (k + 1) = 69 then 1 else 0) = _
    rw [bt_txTs, cX_txTs c p x k]
    rfl
theorem cY_txTs (c : UInt8) (p : List UInt8) (y : Int) : ∀ k, cY (txT (c :: p)) y (k + 1) = cY (txT p) (y + (if (c.toNat : Int) = 78 then 1 else 0)) k
  | 0 => by
    show cY _ y 0 + (if bt (txT (c :: p)) 0 = 78 then 1 else 0) = _
    rw [bt_txT0]
    rfl
  | k + 1 => by
    show cY _ y (k + 1) + (if bt (txT (c :: p)) (k + 1) = 78 then 1 else 0) = _
    rw [bt_txTs, cY_txTs c p y k]
    rfl
def enB (p : List UInt8) : Prop := ∀ c ∈ p, c = 69 ∨ c = 78
theorem pcs_range : ∀ (p : List UInt8) (x y : Int), enB p → pcs x y p = (List.range (p.length + 1)).map fun k => (cX (txT p) x k, cY (txT p) y k)
  | [], x, y, _ => by simp [pcs, List.range_succ, cX, cY]
  | c :: p, x, y, h => by
    rw [pcs, List.length_cons, List.range_succ_eq_map, List.map_cons, List.map_map]
    congr 1
    have hc := h c List.mem_cons_self
    have hp : enB p := fun d hd => h d (List.mem_cons_of_mem _ hd)
    have e : (List.range (p.length + 1)).map ((fun k => (cX (txT (c :: p)) x k, cY (txT (c :: p)) y k)) ∘ Nat.succ) = (List.range (p.length + 1)).map fun k => (cX (txT p) (x + (if (c.toNat : Int) = 69 then 1 else 0)) k, cY (txT p) (y + (if (c.toNat : Int) = 78 then 1 else 0)) k) := by
      refine List.map_congr_left fun k _ => ?_
      simp only [Function.comp_def]
      rw [show k.succ = k + 1 from rfl, cX_txTs, cY_txTs]
    rw [e]
    rcases hc with rfl | rfl
    · rw [if_pos rfl, pcs_range p _ _ hp, if_pos (by decide), if_neg (by decide), Int.add_zero]
    · rw [if_neg (by decide), pcs_range p _ _ hp, if_neg (by decide), if_pos (by decide), Int.add_zero]
/-- a cell that is on a list of cells -/
def hasF (n : Nat) (xs : List Int) (a b : Int) : Bool := (List.range n).any fun j => xs.getD (j * 2) 0 == a && xs.getD (j * 2 + 1) 0 == b
theorem hasF_zero (xs : List Int) (a b : Int) : hasF 0 xs a b = false := rfl
theorem hasF_congr {n : Nat} {xs ys : List Int} (h : ∀ j, j < n * 2 → xs.getD j 0 = ys.getD j 0) (a b : Int) : hasF n xs a b = hasF n ys a b := by
  unfold hasF
  rw [Bool.eq_iff_iff, List.any_eq_true, List.any_eq_true]
  constructor
  · rintro ⟨j, hj, h2⟩
    have := List.mem_range.1 hj
    exact ⟨j, hj, by rw [← h (j * 2) (by omega), ← h (j * 2 + 1) (by omega)]; exact h2⟩
  · rintro ⟨j, hj, h2⟩
    have := List.mem_range.1 hj
    exact ⟨j, hj, by rw [h (j * 2) (by omega), h (j * 2 + 1) (by omega)]; exact h2⟩
theorem hasF_iff {n : Nat} {xs : List Int} {a b : Int} : hasF n xs a b = true ↔ ∃ j, j < n ∧ xs.getD (j * 2) 0 = a ∧ xs.getD (j * 2 + 1) 0 = b := by
  unfold hasF
  rw [List.any_eq_true]
  constructor
  · rintro ⟨j, hj, h⟩
    rw [Bool.and_eq_true, beq_iff_eq, beq_iff_eq] at h
    exact ⟨j, List.mem_range.1 hj, h.1, h.2⟩
  · rintro ⟨j, hj, h1, h2⟩
    exact ⟨j, List.mem_range.2 hj, by rw [h1, h2]; simp⟩
theorem hasF_app {n m : Nat} {xs ys : List Int} (hx : xs.length = n * 2) (a b : Int) : hasF (n + m) (xs ++ ys) a b = (hasF n xs a b || hasF m ys a b) := by
  have g1 : ∀ k, k < n * 2 → (xs ++ ys).getD k 0 = xs.getD k 0 := fun k hk => by
    rw [List.getD_eq_getElem?_getD, List.getD_eq_getElem?_getD, List.getElem?_append_left (by omega)]
  have g2 : ∀ k, (xs ++ ys).getD (n * 2 + k) 0 = ys.getD k 0 := fun k => by
    rw [List.getD_eq_getElem?_getD, List.getD_eq_getElem?_getD, List.getElem?_append_right (by omega), hx, show n * 2 + k - n * 2 = k by omega]
  rw [Bool.eq_iff_iff, Bool.or_eq_true, hasF_iff, hasF_iff, hasF_iff]
  constructor
  · rintro ⟨j, hj, h1, h2⟩
    by_cases h : j < n
    · rw [g1 _ (by omega)] at h1
      rw [g1 _ (by omega)] at h2
      exact .inl ⟨j, h, h1, h2⟩
    · rw [show j * 2 = n * 2 + (j - n) * 2 by omega, g2] at h1
      rw [show j * 2 + 1 = n * 2 + ((j - n) * 2 + 1) by omega, g2] at h2
      exact .inr ⟨j - n, by omega, h1, h2⟩
  · rintro (⟨j, hj, h1, h2⟩ | ⟨j, hj, h1, h2⟩)
    · exact ⟨j, by omega, by rw [g1 _ (by omega)]; exact h1, by rw [g1 _ (by omega)]; exact h2⟩
    · exact ⟨n + j, by omega, by rw [show (n + j) * 2 = n * 2 + j * 2 by omega, g2]; exact h1, by rw [show (n + j) * 2 + 1 = n * 2 + (j * 2 + 1) by omega, g2]; exact h2⟩
theorem hasF_pcs {p : List UInt8} {x y : Int} (h : enB p) (a b : Int) : hasF (p.length + 1) (clF (txT p) x y p.length) a b = (pcs x y p).contains (a, b) := by
  rw [Bool.eq_iff_iff, hasF_iff, List.contains_iff_mem, pcs_range p x y h, List.mem_map]
  constructor
  · rintro ⟨j, hj, h1, h2⟩
    rw [clF_x _ _ _ (by omega)] at h1
    rw [clF_y _ _ _ (by omega)] at h2
    exact ⟨j, List.mem_range.2 hj, by rw [h1, h2]⟩
  · rintro ⟨j, hj, h1⟩
    have := List.mem_range.1 hj
    injection h1 with h1 h2
    exact ⟨j, this, by rw [clF_x _ _ _ (by omega)]; exact h1, by rw [clF_y _ _ _ (by omega)]; exact h2⟩
/-- the cells of a way of the list lie between its ends, and are not taken -/
theorem spF_cells {tk : Int → Int → Bool} {u v : Int} : ∀ (f : Nat) (x y : Int) (p : List UInt8), p ∈ spF tk u v f x y → ∀ c ∈ pcs x y p, c.1 ≤ u ∧ c.2 ≤ v ∧ tk c.1 c.2 = false
  | 0, x, y, p, h => by cases h
  | f + 1, x, y, p, h => by
    rw [spF] at h
    split at h
    · cases h
    · next h0 =>
      have h00 : x ≤ u ∧ y ≤ v ∧ tk x y = false := by
        refine ⟨by omega, by omega, ?_⟩
        rcases hh : tk x y with _ | _
        · rfl
        · exact absurd (.inr (.inr hh)) h0
      split at h
      · rw [List.mem_singleton] at h
        subst h
        intro c hc
        rw [pcs, List.mem_singleton] at hc
        subst hc
        exact h00
      · rw [List.mem_append] at h
        rcases h with h | h
        · rw [List.mem_map] at h
          obtain ⟨q, hq, rfl⟩ := h
          intro c hc
          rw [pcs, if_pos rfl] at hc
          rcases List.mem_cons.1 hc with rfl | hc
          · exact h00
          · exact spF_cells f _ _ q hq c hc
        · rw [List.mem_map] at h
          obtain ⟨q, hq, rfl⟩ := h
          intro c hc
          rw [pcs, if_neg (by decide)] at hc
          rcases List.mem_cons.1 hc with rfl | hc
          · exact h00
          · exact spF_cells f _ _ q hq c hc
theorem enB_bt {p : List UInt8} (h : enB p) {k : Nat} (hk : k < p.length) : bt (txT p) k = 69 ∨ bt (txT p) k = 78 := by
  rw [bt_at _ (by rw [txT_size]; exact hk)]
  rcases h (p[k]) (List.getElem_mem hk) with e | e
  · left
    have : (txT p)[k]'(by rw [txT_size]; exact hk) = p[k] := rfl
    rw [this, e]
    rfl
  · right
    have : (txT p)[k]'(by rw [txT_size]; exact hk) = p[k] := rfl
    rw [this, e]
    rfl
theorem okW_of {p : List UInt8} {x y : Int} (h : enB p) (hc : ∀ c ∈ pcs x y p, cellB c.1 c.2 = true) : ∀ k, k ≤ p.length → okW (txT p) x y k = true
  | 0, _ => rfl
  | k + 1, hk => by
    have h1 := okW_of h hc k (by omega)
    have h2 := hc (cX (txT p) x (k + 1), cY (txT p) y (k + 1)) (by
      rw [pcs_range p x y h]
      exact List.mem_map.2 ⟨k + 1, List.mem_range.2 (by omega), rfl⟩)
    have h3 := enB_bt h (k := k) (by omega)
    show (okW (txT p) x y k && ((bt (txT p) k == 69 || bt (txT p) k == 78) && cellB (cX (txT p) x (k + 1)) (cY (txT p) y (k + 1)))) = true
    rw [h1, h2]
    rcases h3 with e | e <;> rw [e] <;> rfl
/-- the ways of the list are ways -/
theorem spF_way {tk : Int → Int → Bool} {u v x y : Int} {f : Nat} {p : List UInt8} (h : p ∈ spF tk u v f x y) (h1 : cellB x y = true) (h2 : cellB u v = true) : wayB x y (txT p) = true := by
  obtain ⟨m1, m2, m3, m4⟩ := spF_mem f x y p h
  have a1 := (cellB_iff _ _).1 h1
  have a2 := (cellB_iff _ _).1 h2
  unfold wayB
  rw [txT_size, h1, okW_of m4 (fun c hc => by
    have := spF_cells f x y p h c hc
    have := pcs_ge p x y (show (c.1, c.2) ∈ _ from hc)
    exact (cellB_iff _ _).2 (by omega)) _ (Nat.le_refl _), decide_eq_true (by omega)]
  rfl
theorem txT_list (s : ByteArray) : txT s.data.toList = s := by
  apply ByteArray.ext
  apply Array.toList_inj.1
  simp [txT]
theorem ok_sum {s : ByteArray} {x y : Int} : ∀ {k : Nat}, okW s x y k = true → cX s x k + cY s y k = x + y + k
  | 0, _ => by simp [cX, cY]
  | k + 1, h => by
    have h1 := okW_le h (Nat.le_succ k)
    have ih := ok_sum h1
    unfold okW at h
    rw [Bool.and_eq_true, Bool.and_eq_true, Bool.or_eq_true, beq_iff_eq, beq_iff_eq] at h
    have hb := h.2.1
    show (cX s x k + if bt s k = 69 then 1 else 0) + (cY s y k + if bt s k = 78 then 1 else 0) = _
    rcases hb with e | e
    · rw [if_pos e, if_neg (by omega)]
      omega
    · rw [if_neg (by omega), if_pos e]
      omega
theorem ok_24 {s : ByteArray} {x y : Int} {k : Nat} (h0 : cellB x y = true) (h : okW s x y k = true) : k ≤ 24 := by
  have h1 := (cellB_iff _ _).1 (okW_cell h0 h)
  have h2 := ok_sum h
  have h3 := (cellB_iff _ _).1 h0
  omega
theorem wayB_alt (x y : Int) (s : ByteArray) : (cellB x y && okW s x y s.size) = wayB x y s := by
  unfold wayB
  cases h0 : cellB x y with
  | false => rfl
  | true =>
    cases h : okW s x y s.size with
    | false => simp
    | true =>
      rw [decide_eq_true (ok_24 h0 h)]
      rfl
theorem way_en {x y : Int} {s : ByteArray} (h : wayB x y s = true) : enB s.data.toList := by
  intro c hc
  obtain ⟨h1, h2, h3⟩ := wayB_of h
  obtain ⟨k, hk, rfl⟩ := List.getElem_of_mem hc
  have hk2 : k < s.size := by simpa using hk
  have h4 := okW_le h3 (show k + 1 ≤ s.size by omega)
  unfold okW at h4
  rw [Bool.and_eq_true, Bool.and_eq_true, Bool.or_eq_true, beq_iff_eq, beq_iff_eq, bt_at _ hk2] at h4
  have e : s.data.toList[k] = s[k] := rfl
  rw [e]
  have hb := h4.2.1
  rcases hb with hb | hb
  · left
    apply UInt8.toNat_inj.1
    show (s[k]).toNat = 69
    omega
  · right
    apply UInt8.toNat_inj.1
    show (s[k]).toNat = 78
    omega
/-- the cells of a way, as pairs -/
theorem way_has {x y : Int} {s : ByteArray} (h : wayB x y s = true) (a b : Int) : hasF (s.size + 1) (clF s x y s.size) a b = (pcs x y s.data.toList).contains (a, b) := by
  have := hasF_pcs (x := x) (y := y) (way_en h) a b
  rw [txT_list, show s.data.toList.length = s.size by simp] at this
  exact this
end Go.Proofs.Ytnlmjeakdjmohaa

/- The model's ncCells. -/
namespace Go.Proofs.Ytnlmjeakdjmohaa
open Go.RowKit
set_option linter.unusedVariables false
def ncN (x y : Int) (s : ByteArray) : Nat := if wayB x y s = true then s.size + 1 else 0
def ncX (x y : Int) (s : ByteArray) : List Int := if wayB x y s = true then clF s x y s.size else []
theorem wp_nameN {P : Program} {c : Code} {Q : Exit → Act → World → Prop} {a : Act} {w : World} (S : World → Prop) (h : S w) (k : ∀ W, S W → c.wp P Q a W) : c.wp P Q a w := k w h
set_option maxRecDepth 100000 in
set_option maxHeartbeats 4000000 in
theorem ncCells_any (x y : Int) (s : ByteArray) (w : World) (hs : s.size ≤ maxLen) : Calls Try.prog 73 #[wayV x y s] w (CsRet w (wayB x y s) (ncN x y s) (ncX x y s)) := by
  have HX := Lib.hid (WBox.start w x y s)
  have c0 := HX.out.c0
  have c1 := HX.out.c1
  have c2 := HX.out.c2
  have HC : Hid (∀ x y w, Calls Try.prog 80 #[celV x y] w (Ret w (.bool (cellB x y)))) := Lib.hid ncCell_any
  have HS := Lib.hid hs
  rcases Bool.eq_false_or_eq_true (cellB x y) with a1 | a1
  · by_cases hlen : s.size ≤ 24
    · have h24 : ¬ (24 : Int) < (s.size : Int) := by omega
      have HW : Hid (∀ j : Nat, okW s x y j = false → j ≤ s.size → wayB x y s = false) := Lib.hid (by
        intro j h hk
        unfold wayB
        rw [okW_no h hk, Bool.and_false])
      have HY : Hid (okW s x y s.size = true → wayB x y s = true) := Lib.hid (by
        intro h
        unfold wayB
        rw [h, a1, decide_eq_true hlen]
        rfl)
      have HC0 : Hid (∀ w, Calls Try.prog 80 #[celV x y] w (Ret w (.bool true))) := Lib.hid fun w => by rw [← a1]; exact ncCell_any x y w
      go_enter Try.func73, Try.ntmps73
      go_upto_region 4 with (go_at_call 80; refine (HC0.out _).mono ?_; rintro e wa ⟨rfl, hba⟩; have hx := HX.out.kept hba; have r0 := hx.c0; have r1 := hx.c1; have r2 := hx.c2; have HX2 := Lib.hid hx; clear hx hba)
      refine wp_nameN (fun X => WBox w x y s X ∧ CRow X wa.heap.size (.slice (some ⟨wa.heap.size, 0, none⟩) 1 1) 1 [x, y] ∧ X.heap.size = wa.heap.size + 1) ⟨HX2.out.kept ((Below.refl _ _).alloc (Nat.le_refl _) _), one_cell wa x y, by simp⟩ ?_
      rintro X ⟨hx, hrow, hsz⟩
      clear r0 r1 r2
      have r0 := hx.c0
      have r1 := hx.c1
      have HN0 : Hid (NcAt w wa x y s X.heap.size (.slice (some ⟨wa.heap.size, 0, none⟩) 1 1) 1 (clF s x y 0) x y (X.alloc (.cells #[.int .i64 x, .int .i64 y] 39))) := Lib.hid (by
        have hb : Below X.heap.size X (X.alloc (.cells #[.int .i64 x, .int .i64 y] 39)) := (Below.refl _ _).alloc (Nat.le_refl _) _
        refine ⟨hx.kept hb, by rw [clF_zero]; exact hrow.below hb, fun q hq e => ?_, by simp [go_sem], by simp [go_sem], by simp [go_sem], by simp [go_sem], by simp, by omega, HX2.out.lt⟩
        have := (hrow.blk q hq).2
        omega)
      have HWL : Hid (Below w.heap.size w wa) := Lib.hid HX2.out.below
      clear hx hrow hsz HX2
      go_wp2_with fail
      go_loopw [4, 6] (fun o q wq => ∃ k : Nat, k ≤ s.size ∧ q = .int .i64 (k : Int) ∧ okW s x y k = true ∧ NcAt w wa x y s X.heap.size o (k + 1) (clF s x y k) (cX s x k) (cY s y k) wq) (fun _ q _ => s.size - (intOf q).toNat)
      case atStart => exact ⟨0, Nat.zero_le _, rfl, rfl, HN0.out⟩
      case round =>
        obtain ⟨k, hk, rfl, hok, hat⟩ := hrel
        clear HN0
        obtain ⟨A1, cc, rfl⟩ := hat.row.shape
        have b2 := hat.box.c2
        by_cases hlt : k < s.size
        · have i1 : (k : Int) < (s.size : Int) := by omega
          have d0 := hat.c0
          have d1 := hat.c1
          have d2 := hat.f0
          have d3 := hat.f1
          have hcell := (cellB_iff _ _).1 (okW_cell a1 hok)
          have HBT := Lib.hid (bt_at s hlt)
          by_cases hE : bt s k = 69
          · have hE0 := hE
            clear hE0
            have ex : cX s x (k + 1) = cX s x k + 1 := by
              show cX s x k + (if bt s k = 69 then 1 else 0) = _
              rw [if_pos hE]
            have ey : cY s y (k + 1) = cY s y k := by
              show cY s y k + (if bt s k = 78 then 1 else 0) = _
              rw [if_neg (by omega)]
              omega
            have q1 : ((s[k]).toNat : Int) = 69 := by rw [← HBT.out]; exact hE
            have HOK : Hid (okW s x y (k + 1) = cellB (cX s x k + 1) (cY s y k)) := Lib.hid (by
              rw [← ex, ← ey]
              show (okW s x y k && ((bt s k == 69 || bt s k == 78) && cellB (cX s x (k + 1)) (cY s y (k + 1)))) = _
              rw [hok, hE]
              rfl)
            have HSN := Lib.hid (clF_snoc s x y k)
            rw [ex, ey] at HSN
            have HP := Lib.hid (hat.put0 (cX s x k + 1))
            have HX' := Lib.hid ex
            have HY' := Lib.hid ey
            clear hat hE ex ey HBT
            generalize cX s x k = px at *
            generalize cY s y k = py at *
            go_upto_region 14 with fail
            refine wp_nameN (fun X2 => NcAt w wa x y s X.heap.size (.slice A1 (k + 1) cc) (k + 1) (clF s x y k) (px + 1) (py) X2) HP.out ?_
            clear HP d0 d1 d2 d3 b2
            rintro X2 hat
            have d0 := hat.c0
            have d1 := hat.c1
            have HAT := Lib.hid hat
            clear hat
            have HCC : Hid (∀ w, Calls Try.prog 80 #[celV (px + 1) (py)] w (Ret w (.bool (cellB (px + 1) (py))))) := Lib.hid fun w => ncCell_any _ _ w
            rcases Bool.eq_false_or_eq_true (cellB (px + 1) (py)) with a2 | a2
            · rw [a2] at HCC HOK
              clear a2
              go_wp2_with (first | (go_at_call 80; refine (HCC.out _).mono ?_; rintro e w3 ⟨rfl, hb3⟩; have hx := HAT.out.kept0 hb3; have f0 := hx.c0; have f1 := hx.c1; have HAT3 := Lib.hid hx; clear hx hb3 d0 d1) | (refine wpList_pushC (px + 1) (py) (.tmp 48) (.tmp 50) rfl rfl wa.heap.size _ (k + 1) _ rfl HAT3.out.row w3.heap.size rfl rfl (by omega) (Nat.le_trans HAT3.out.lo (Nat.le_of_lt HAT3.out.lt)) ?_; intro v' w' hr' hg' hat'))
              rw [HSN.out] at hr'
              have HAT4 := Lib.hid (HAT3.out.push hr' hg' hat')
              obtain ⟨A2, c5, rfl⟩ := hr'.shape
              clear hr' hg' hat'
              go_wp2_with fail
              go_roundw
              case rel => exact ⟨k + 1, by omega, by go_num, HOK.out, by rw [HX'.out, HY'.out]; exact HAT4.out⟩
              case measure => first | (simp [intOf]; done) | (simp [intOf]; omega)
            · rw [a2] at HCC HOK
              clear a2
              have hno := HW.out (k + 1) HOK.out (by omega)
              have HNO := Lib.hid hno; have E1 : Hid (ncN x y s = 0) := Lib.hid (by simp [ncN, hno]); have E2 : Hid (ncX x y s = []) := Lib.hid (by simp [ncX, hno])
              clear hno
              go_wp2_with (go_at_call 80; refine (HCC.out _).mono ?_; rintro e w3 ⟨rfl, hb3⟩; have HAT3 := Lib.hid (HAT.out.kept0 hb3); clear hb3)
              go_ret2
              exact ⟨.slice none 0 0, by rw [HNO.out]; rfl, by rw [E1.out, E2.out]; exact CRow.nil _ _, HAT3.out.box.below⟩
          · by_cases hN : bt s k = 78
            · have hE := hN
              have ex : cX s x (k + 1) = cX s x k := by
                show cX s x k + (if bt s k = 69 then 1 else 0) = _
                rw [if_neg (by omega)]
                omega
              have ey : cY s y (k + 1) = cY s y k + 1 := by
                show cY s y k + (if bt s k = 78 then 1 else 0) = _
                rw [if_pos hE]
              have q1 : ((s[k]).toNat : Int) = 78 := by rw [← HBT.out]; exact hE
              have HOK : Hid (okW s x y (k + 1) = cellB (cX s x k) (cY s y k + 1)) := Lib.hid (by
                rw [← ex, ← ey]
                show (okW s x y k && ((bt s k == 69 || bt s k == 78) && cellB (cX s x (k + 1)) (cY s y (k + 1)))) = _
                rw [hok, hE]
                rfl)
              have HSN := Lib.hid (clF_snoc s x y k)
              rw [ex, ey] at HSN
              have HP := Lib.hid (hat.put1 (cY s y k + 1))
              have HX' := Lib.hid ex
              have HY' := Lib.hid ey
              clear hat hE ex ey HBT
              generalize cX s x k = px at *
              generalize cY s y k = py at *
              go_upto_region 14 with fail
              refine wp_nameN (fun X2 => NcAt w wa x y s X.heap.size (.slice A1 (k + 1) cc) (k + 1) (clF s x y k) (px) (py + 1) X2) HP.out ?_
              clear HP d0 d1 d2 d3 b2
              rintro X2 hat
              have d0 := hat.c0
              have d1 := hat.c1
              have HAT := Lib.hid hat
              clear hat
              have HCC : Hid (∀ w, Calls Try.prog 80 #[celV (px) (py + 1)] w (Ret w (.bool (cellB (px) (py + 1))))) := Lib.hid fun w => ncCell_any _ _ w
              rcases Bool.eq_false_or_eq_true (cellB (px) (py + 1)) with a2 | a2
              · rw [a2] at HCC HOK
                clear a2
                go_wp2_with (first | (go_at_call 80; refine (HCC.out _).mono ?_; rintro e w3 ⟨rfl, hb3⟩; have hx := HAT.out.kept0 hb3; have f0 := hx.c0; have f1 := hx.c1; have HAT3 := Lib.hid hx; clear hx hb3 d0 d1) | (refine wpList_pushC (px) (py + 1) (.tmp 48) (.tmp 50) rfl rfl wa.heap.size _ (k + 1) _ rfl HAT3.out.row w3.heap.size rfl rfl (by omega) (Nat.le_trans HAT3.out.lo (Nat.le_of_lt HAT3.out.lt)) ?_; intro v' w' hr' hg' hat'))
                rw [HSN.out] at hr'
                have HAT4 := Lib.hid (HAT3.out.push hr' hg' hat')
                obtain ⟨A2, c5, rfl⟩ := hr'.shape
                clear hr' hg' hat'
                go_wp2_with fail
                go_roundw
                case rel => exact ⟨k + 1, by omega, by go_num, HOK.out, by rw [HX'.out, HY'.out]; exact HAT4.out⟩
                case measure => first | (simp [intOf]; done) | (simp [intOf]; omega)
              · rw [a2] at HCC HOK
                clear a2
                have hno := HW.out (k + 1) HOK.out (by omega)
                have HNO := Lib.hid hno; have E1 : Hid (ncN x y s = 0) := Lib.hid (by simp [ncN, hno]); have E2 : Hid (ncX x y s = []) := Lib.hid (by simp [ncX, hno])
                clear hno
                go_wp2_with (go_at_call 80; refine (HCC.out _).mono ?_; rintro e w3 ⟨rfl, hb3⟩; have HAT3 := Lib.hid (HAT.out.kept0 hb3); clear hb3)
                go_ret2
                exact ⟨.slice none 0 0, by rw [HNO.out]; rfl, by rw [E1.out, E2.out]; exact CRow.nil _ _, HAT3.out.box.below⟩
            · have q1 : (((s[k]).toNat : Int) == 69) = false := by rw [← HBT.out]; exact beq_eq_false_iff_ne.2 hE
              have q2 : (((s[k]).toNat : Int) == 78) = false := by rw [← HBT.out]; exact beq_eq_false_iff_ne.2 hN
              have hno : wayB x y s = false := HW.out (k + 1) (by
                show (okW s x y k && ((bt s k == 69 || bt s k == 78) && cellB (cX s x (k + 1)) (cY s y (k + 1)))) = _
                rw [beq_eq_false_iff_ne.2 hE, beq_eq_false_iff_ne.2 hN]
                cases okW s x y k <;> rfl) (by omega)
              have HNO := Lib.hid hno; have E1 : Hid (ncN x y s = 0) := Lib.hid (by simp [ncN, hno]); have E2 : Hid (ncX x y s = []) := Lib.hid (by simp [ncX, hno])
              have HAT := Lib.hid hat
              clear hno hat hE hN
              go_wp2_with fail
              go_ret2
              exact ⟨.slice none 0 0, by rw [HNO.out]; rfl, by rw [E1.out, E2.out]; exact CRow.nil _ _, HAT.out.box.below⟩
        · obtain rfl : k = s.size := by omega
          have hyes := HY.out hok
          have e1 : ncN x y s = s.size + 1 := by unfold ncN; rw [if_pos hyes]
          have e2 : ncX x y s = clF s x y s.size := by unfold ncX; rw [if_pos hyes]
          have HYE := Lib.hid hyes
          have E1 := Lib.hid e1
          have E2 := Lib.hid e2
          have HAT := Lib.hid hat
          clear e1 e2 hyes hat
          go_wp2_with fail
          go_ret2
          exact ⟨.slice A1 (s.size + 1) cc, by rw [HYE.out]; rfl, by rw [E1.out, E2.out]; exact HAT.out.row.mono HWL.out.size, HAT.out.box.below⟩
    · have hno : wayB x y s = false := by unfold wayB; rw [decide_eq_false hlen, Bool.and_false, Bool.false_and]
      have h24 : (24 : Int) < (s.size : Int) := by omega
      have HC0 : Hid (∀ w, Calls Try.prog 80 #[celV x y] w (Ret w (.bool true))) := Lib.hid fun w => by rw [← a1]; exact ncCell_any x y w
      have HNO := Lib.hid hno; have E1 : Hid (ncN x y s = 0) := Lib.hid (by simp [ncN, hno]); have E2 : Hid (ncX x y s = []) := Lib.hid (by simp [ncX, hno])
      clear hno
      go_enter Try.func73, Try.ntmps73
      go_wp2_with (go_at_call 80; refine (HC0.out _).mono ?_; rintro e wa ⟨rfl, hba⟩; have hx := HX.out.kept hba; have r2 := hx.c2; have HX2 := Lib.hid hx; clear hx hba)
      go_ret2
      exact ⟨.slice none 0 0, by rw [HNO.out]; rfl, by rw [E1.out, E2.out]; exact CRow.nil _ _, HX2.out.below⟩
  · have hno : wayB x y s = false := by unfold wayB; rw [a1, Bool.false_and, Bool.false_and]
    have HC0 : Hid (∀ w, Calls Try.prog 80 #[celV x y] w (Ret w (.bool false))) := Lib.hid fun w => by rw [← a1]; exact ncCell_any x y w
    have HNO := Lib.hid hno; have E1 : Hid (ncN x y s = 0) := Lib.hid (by simp [ncN, hno]); have E2 : Hid (ncX x y s = []) := Lib.hid (by simp [ncX, hno])
    clear hno
    go_enter Try.func73, Try.ntmps73
    go_wp2_with (go_at_call 80; refine (HC0.out _).mono ?_; rintro e wa ⟨rfl, hba⟩; have HX2 := Lib.hid (HX.out.kept hba); clear hba)
    go_ret2
    exact ⟨.slice none 0 0, by rw [HNO.out]; rfl, by rw [E1.out, E2.out]; exact CRow.nil _ _, HX2.out.below⟩
end Go.Proofs.Ytnlmjeakdjmohaa
