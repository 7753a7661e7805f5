/- baLook: all paths of a ballot, by looking. -/
import Derived.Test.YtcnggafbdjhagaaSOwn
import Derived.Test.YtcnggafbdjhagaaLstMath
import Derived.Test.YtcnggafbdjhagaaBalCount
namespace Go.Proofs.Ytcnggafbdjhagaa
open Go.RowKit
/-- texts behind a beginning -/
def behind (s : ByteArray) (L : List (List UInt8)) : List ByteArray := L.map fun t => s ++ (⟨t.toArray⟩ : ByteArray)
def lstL (V : Int → Int → Int) (n : Nat) (u d : Int) : List (List UInt8) := if 0 < V u d then lstB V n u d else []
theorem behind_cons (s : ByteArray) (c : UInt8) (L : List (List UInt8)) : behind s (L.map fun t => c :: t) = behind (s ++ (⟨#[c]⟩ : ByteArray)) L := by
  unfold behind
  rw [List.map_map]
  apply List.map_congr_left
  intro t _
  apply ByteArray.ext
  simp
theorem behind_app (s : ByteArray) (L M : List (List UInt8)) : behind s (L ++ M) = behind s L ++ behind s M := by simp [behind]
theorem behind_nil (s : ByteArray) : behind s [[]] = [s] := by
  show [s ++ (⟨#[]⟩ : ByteArray)] = [s]
  congr 1
  apply ByteArray.ext
  simp
theorem behind_none (L : List (List UInt8)) : behind ByteArray.empty L = L.map fun t => ⟨t.toArray⟩ := by
  unfold behind
  apply List.map_congr_left
  intro t _
  apply ByteArray.ext
  simp
theorem lstL_no {V : Int → Int → Int} {n : Nat} {u d : Int} (h : V u d = 0) : lstL V n u d = [] := by unfold lstL; rw [if_neg (by omega)]
theorem lstL_step {x y : Nat} {k l : Int} {n : Nat} {u d : Int} (h : WV x y k l u d = WV x y k l u (d - 1) + WV x y k l (u - 1) d) (s : ByteArray) :
    behind s (lstL (WV x y k l) (n + 1) u d) = behind (s ++ (⟨#[68]⟩ : ByteArray)) (lstL (WV x y k l) n u (d - 1)) ++ behind (s ++ (⟨#[85]⟩ : ByteArray)) (lstL (WV x y k l) n (u - 1) d) := by
  have n1 := WV_nn x y k l u (d - 1)
  have n2 := WV_nn x y k l (u - 1) d
  by_cases hp : 0 < WV x y k l u d
  · unfold lstL
    rw [if_pos hp, lstB, behind_app]
    congr 1
    · split
      · exact behind_cons _ _ _
      · rfl
    · split
      · exact behind_cons _ _ _
      · rfl
  · rw [lstL_no (by omega), lstL_no (by omega), lstL_no (by omega)]; rfl
theorem WV_sum {x y : Nat} {k l u d : Int} (hu : 0 ≤ u ∧ u ≤ x) (hd : 0 ≤ d ∧ d ≤ y) (h0 : ¬ (u = 0 ∧ d = 0)) (hg : ¬ (u = x ∧ d = y) → ¬ leadV x y k u d < l) : WV x y k l u d = WV x y k l u (d - 1) + WV x y k l (u - 1) d := by
  unfold WV
  rw [wv_step hu.1 hd.1 hu.2 hd.2 h0 hg]
  simp
theorem WV_here {x y : Nat} {k l u d : Int} (h : u = 0 ∧ d = 0) (hg : ¬ (u = x ∧ d = y) → ¬ leadV x y k u d < l) : 0 < WV x y k l u d := by
  obtain ⟨rfl, rfl⟩ := h
  unfold WV
  rw [wv_one (by simpa using hg)]
  omega
/-- the end decides -/
theorem WV_end {x y : Nat} {k l u d : Int} (hu : 0 ≤ u) (hd : 0 ≤ d) (hua : u ≤ x) (hdy : d ≤ y) (hne : ¬ (u = x ∧ d = y)) (h : leadV x y k u d < l ∨ leadV x y k u d + u - k * d < l) : WV x y k l u d = 0 := by
  obtain ⟨a, rfl⟩ := Int.eq_ofNat_of_zero_le hu
  obtain ⟨b, rfl⟩ := Int.eq_ofNat_of_zero_le hd
  unfold WV wv
  rw [if_neg (by omega), if_neg hne, Int.toNat_natCast, Int.toNat_natCast]
  rcases h with h | h
  · rw [rs_low h]; rfl
  · rw [rs_end rfl h]; rfl
theorem cell_grownL {w w' : World} {row : Option Nat} (h : w.grownBy w' row) {b : Nat} (hb : b < w.heap.size) (hne : some b ≠ row) (o : Nat) : w'.cell? ⟨b, o, none⟩ = w.cell? ⟨b, o, none⟩ := by
  unfold World.cell?
  rw [h.block b hb hne]
theorem frozen_grownL {w w' : World} {row : Option Nat} (h : w.grownBy w' row) {b : Nat} (hb : b < w.heap.size) (hne : some b ≠ row) (o : Nat) : w'.frozen? ⟨b, o, none⟩ = w.frozen? ⟨b, o, none⟩ := by
  unfold World.frozen?
  rw [h.block b hb hne]
/-- a slice variable at p that holds such texts, its row behind it -/
def LK (p : Nat) (v : Value) (xs : List ByteArray) (W : World) : Prop := W.cell? ⟨p, 0, none⟩ = some v ∧ W.frozen? ⟨p, 0, none⟩ = false ∧ p < W.heap.size ∧ SRow W (p + 1) v xs
def LookRet (p : Nat) (xs : List ByteArray) (W : World) (e : Ending) (W' : World) : Prop := e = .returned (.tuple #[]) ∧ ∃ v', LK p v' xs W' ∧ Below p W W'
theorem LK.push {p : Nat} {v v' : Value} {xs ys : List ByteArray} {W W' : World} (h : LK p v xs W) (hg : W.grownBy W' v.ownBlock) (hr : SRow W' (p + 1) v' ys) :
    LK p v' ys (W'.setCell ⟨p, 0, none⟩ v') ∧ Below p W (W'.setCell ⟨p, 0, none⟩ v') := by
  obtain ⟨h1, h2, h3, h4⟩ := h
  have hlow : ∀ q, v.ownBlock = some q → p + 1 ≤ q := fun q hq => (h4.blk q hq).1
  have hnp : some p ≠ v.ownBlock := fun e => by have := hlow p e.symm; omega
  have hc : W'.cell? ⟨p, 0, none⟩ = some v := (cell_grownL hg h3 hnp 0).trans h1
  have hf : W'.frozen? ⟨p, 0, none⟩ = false := (frozen_grownL hg h3 hnp 0).trans h2
  have hsz : (W'.setCell ⟨p, 0, none⟩ v').heap.size = W'.heap.size := by simp [World.setCell]
  have hgr : W'.grownBy (W'.setCell ⟨p, 0, none⟩ v') (some p) := by
    refine ⟨rfl, rfl, rfl, by rw [hsz]; omega, fun i hi hne => ?_⟩
    unfold World.setCell
    simp only [Array.getElem?_modify]
    rw [if_neg (fun e => hne (by rw [e]))]
  refine ⟨⟨World.cell?_setCell_same W' ⟨p, 0, none⟩ v' hc, by rw [World.frozen?_setCell]; exact hf, by rw [hsz]; exact Nat.lt_of_lt_of_le h3 hg.size, ?_⟩, ?_⟩
  · exact World.ownsRow.kept hr hgr (by
      cases e : v'.ownBlock with
      | none => exact .inl rfl
      | some q =>
        right
        intro e2
        have := (hr.blk q e).1
        injection e2 with e3
        omega)
  · exact ((Below.refl p W).grown hg (by omega) (fun q hq => by have := hlow q hq; omega)).setCell (Nat.le_refl _) _
set_option maxRecDepth 100000 in
set_option maxHeartbeats 4000000 in
theorem look_any (x y p : Nat) (k l : Int) (hxy : x + y ≤ 40) (hk : 1 ≤ k ∧ k ≤ 5) (hl : 0 ≤ l ∧ l ≤ 1) : ∀ (n : Nat) (u d : Int) (s : ByteArray) (v : Value) (xs : List ByteArray) (W : World),
    (n : Int) = u + d → 0 ≤ u ∧ u ≤ x → 0 ≤ d ∧ d ≤ y → (¬ (u = x ∧ d = y) → ¬ leadV x y k u d < l) → s.size + n ≤ 40 → (xs.length : Int) + WV x y k l u d ≤ 300 → LK p v xs W →
    Calls Try.prog 70 #[.string s, .int .i64 u, .int .i64 d, .int .i64 k, .int .i64 (leadV x y k u d), .int .i64 l, .pointer (some ⟨p, 0, none⟩)] W (LookRet p (xs ++ behind s (lstL (WV x y k l) n u d)) W) := by
  intro n
  induction n with
  | zero =>
    intro u d s v xs W hn hu hd h0 hsz hlen hLK
    have hz : (u + d == 0) = true := by simp; omega
    have hpos := WV_here (show u = 0 ∧ d = 0 by omega) h0
    have HB : Hid (behind s (lstL (WV x y k l) 0 u d) = [s]) := by
      unfold Hid lstL
      rw [if_pos hpos]
      exact behind_nil s
    rw [HB.out]
    have hxl : xs.length ≤ 300 := by omega
    obtain ⟨A, c, rfl⟩ := hLK.2.2.2.shape
    have hc := hLK.1
    have hf := hLK.2.1
    have hps := hLK.2.2.1
    have HLK := Lib.hid hLK
    have hls : ¬ 300 < (xs.length : Int) := by omega
    clear hLK hlen hpos h0
    generalize leadV x y k u d = m at *
    generalize hxn : xs.length = q at *
    have HXN := Lib.hid hxn
    clear hxn
    go_enter Try.func70, Try.ntmps70
    go_wp2_with (at_builtin; refine wpList_pushS (.tmp 26) (.tmp 28) rfl rfl (p + 1) _ xs rfl HLK.out.2.2.2 rfl (by rw [HXN.out]; omega) (by omega) ?_; intro v' w' hrow' hg' hat'; obtain ⟨A2, c2, rfl⟩ := hrow'.shape; have hcc := (cell_grownL hg' hps (fun e => by have := (HLK.out.2.2.2.blk p e.symm).1; omega) 0).trans hc; have hff := (frozen_grownL hg' hps (fun e => by have := (HLK.out.2.2.2.blk p e.symm).1; omega) 0).trans hf)
    have hfin := HLK.out.push hg' hrow'
    have hln : (xs ++ [s]).length = xs.length + 1 := by simp
    rw [hln] at hfin
    go_end0
    exact ⟨rfl, _, hfin.1, hfin.2⟩
  | succ n ih =>
    intro u d s v xs W hn hu hd h0 hsz hlen hLK
    have hz : (u + d == 0) = false := by simp; omega
    have hsum := WV_sum hu hd (by omega) h0
    have hn1 := WV_nn x y k l u (d - 1)
    have hn2 := WV_nn x y k l (u - 1) d
    have HST := Lib.hid (lstL_step (n := n) hsum s)
    have hlb := lead_bd (x := x) (y := y) (u := u) (d := d) hk hxy hu hd
    have hkb := kmul_bd hk.1 hk.2 (show 0 ≤ d by omega) (by omega)
    have hk1 := hk.1
    have hk5 := hk.2
    have hl0 := hl.1
    have hl1 := hl.2
    obtain ⟨A, c, rfl⟩ := hLK.2.2.2.shape
    have hxl : xs.length ≤ 300 := by omega
    have hc := hLK.1
    have hls : ¬ 300 < (xs.length : Int) := by omega
    have hss : s.size ≤ 40 := by omega
    have hld : leadV x y k u (d - 1) = leadV x y k u d - k := lead_down x y k u d
    have hlu : leadV x y k (u - 1) d = leadV x y k u d + 1 := lead_up x y k u d
    have hkd : k * (d - 1) = k * d - k := by rw [Int.mul_sub]; omega
    have IHD : Hid (0 < d → l ≤ leadV x y k u d - k → l ≤ leadV x y k u d + u - k * d → Calls Try.prog 70 #[.string (s ++ (⟨#[68]⟩ : ByteArray)), .int .i64 u, .int .i64 (d - 1), .int .i64 k, .int .i64 (leadV x y k u d - k), .int .i64 l, .pointer (some ⟨p, 0, none⟩)] W (LookRet p (xs ++ behind (s ++ (⟨#[68]⟩ : ByteArray)) (lstL (WV x y k l) n u (d - 1))) W)) :=
      Lib.hid fun c1 c2 _ => by
        have := ih u (d - 1) (s ++ (⟨#[68]⟩ : ByteArray)) _ xs W (by omega) (by omega) (by omega) (fun _ => by rw [hld]; omega) (by rw [ByteArray.size_append]; have : (⟨#[68]⟩ : ByteArray).size = 1 := rfl; omega) (by omega) hLK
        rw [hld] at this
        exact this
    have IHU : Hid (0 < u → l ≤ leadV x y k u d + 1 → l ≤ leadV x y k u d + u - k * d → ∀ v1 xs1 W1, LK p v1 xs1 W1 → (xs1.length : Int) + WV x y k l (u - 1) d ≤ 300 → Calls Try.prog 70 #[.string (s ++ (⟨#[85]⟩ : ByteArray)), .int .i64 (u - 1), .int .i64 d, .int .i64 k, .int .i64 (leadV x y k u d + 1), .int .i64 l, .pointer (some ⟨p, 0, none⟩)] W1 (LookRet p (xs1 ++ behind (s ++ (⟨#[85]⟩ : ByteArray)) (lstL (WV x y k l) n (u - 1) d)) W1)) :=
      Lib.hid fun c1 c2 _ v1 xs1 W1 hL1 hx1 => by
        have := ih (u - 1) d (s ++ (⟨#[85]⟩ : ByteArray)) v1 xs1 W1 (by omega) (by omega) (by omega) (fun _ => by rw [hlu]; omega) (by rw [ByteArray.size_append]; have : (⟨#[85]⟩ : ByteArray).size = 1 := rfl; omega) hx1 hL1
        rw [hlu] at this
        exact this
    have HZD : Hid (¬ (0 < d ∧ l ≤ leadV x y k u d - k ∧ l ≤ leadV x y k u d + u - k * d) → WV x y k l u (d - 1) = 0) := Lib.hid fun h => by
      by_cases hd1 : 0 < d
      · exact WV_end hu.1 (by omega) hu.2 (by omega) (by omega) (by rw [hld, hkd]; omega)
      · exact WV_neg (.inr (by omega))
    have HZU : Hid (¬ (0 < u ∧ l ≤ leadV x y k u d + 1 ∧ l ≤ leadV x y k u d + u - k * d) → WV x y k l (u - 1) d = 0) := Lib.hid fun h => by
      by_cases hu1 : 0 < u
      · exact WV_end (by omega) hd.1 (by omega) hd.2 (by omega) (by rw [hlu]; omega)
      · exact WV_neg (.inl (by omega))
    have HLEN : Hid ((behind (s ++ (⟨#[68]⟩ : ByteArray)) (lstL (WV x y k l) n u (d - 1))).length = (WV x y k l u (d - 1)).toNat) := Lib.hid (by
      unfold behind lstL
      rw [List.length_map]
      by_cases hp : 0 < WV x y k l u (d - 1)
      · have hd1 : ¬ d - 1 < 0 := fun e => by rw [WV_neg (.inr e)] at hp; omega
        have := lstB_len n u (d - 1) ⟨by omega, hu.1, by omega, hu.2, by omega, hp⟩
        rw [if_pos hp]; omega
      · rw [if_neg hp]; simp; omega)
    have HLK := Lib.hid hLK
    have HXS : Hid ((xs.length : Int) + (WV x y k l u (d - 1) + WV x y k l (u - 1) d) ≤ 300) := Lib.hid (by omega)
    have HBD : Hid (WV x y k l u (d - 1) = 0 → behind (s ++ (⟨#[68]⟩ : ByteArray)) (lstL (WV x y k l) n u (d - 1)) = []) := Lib.hid fun h => by rw [lstL_no h]; rfl
    have HBU : Hid (WV x y k l (u - 1) d = 0 → behind (s ++ (⟨#[85]⟩ : ByteArray)) (lstL (WV x y k l) n (u - 1) d) = []) := Lib.hid fun h => by rw [lstL_no h]; rfl
    rw [HST.out]
    generalize behind (s ++ (⟨#[68]⟩ : ByteArray)) (lstL (WV x y k l) n u (d - 1)) = bD at *
    generalize behind (s ++ (⟨#[85]⟩ : ByteArray)) (lstL (WV x y k l) n (u - 1) d) = bU at *
    generalize WV x y k l u (d - 1) = wD at *
    generalize WV x y k l (u - 1) d = wU at *
    clear hsum HST hlen hld hlu hkd ih h0 hLK hn hk hl
    generalize leadV x y k u d = m at *
    have hDD : (0 < d ∧ l ≤ m - k ∧ l ≤ m + u - k * d) ∨ (¬ 0 < d ∨ (0 < d ∧ ¬ l ≤ m - k) ∨ (0 < d ∧ l ≤ m - k ∧ ¬ l ≤ m + u - k * d)) := by omega
    have hUU : (0 < u ∧ l ≤ m + 1 ∧ l ≤ m + u - k * d) ∨ (¬ 0 < u ∨ (0 < u ∧ ¬ l ≤ m + 1) ∨ (0 < u ∧ l ≤ m + 1 ∧ ¬ l ≤ m + u - k * d)) := by omega
    rcases hDD with ⟨c1, c2, c3⟩ | hnD
    · have HD := Lib.hid (IHD.out c1 c2 c3)
      rcases hUU with ⟨c4, c5, c6⟩ | hnU
      · have HU := Lib.hid (IHU.out c4 c5 c6)
        have tok1 : True := trivial
        clear c6
        go_enter Try.func70, Try.ntmps70
        go_wp2_with (first | (go_at_call 70; have _t := tok1; refine HD.out.mono ?_; rintro e W1 ⟨rfl, v1, hL1, hb1⟩; clear tok1 _t) | (go_at_call 70; refine (HU.out _ _ _ hL1 (by rw [List.length_append, HLEN.out]; have := HXS.out; omega)).mono ?_; rintro e W2 ⟨rfl, v2, hL2, hb2⟩))
        go_end0
        exact ⟨rfl, _, by rw [← List.append_assoc]; exact hL2, hb1.trans hb2⟩
      · have HU0 : Hid (bU = []) := Lib.hid (HBU.out (HZU.out (by omega)))
        rw [HU0.out, List.append_nil]
        rcases hnU with e1 | ⟨e1, e2⟩ | ⟨e1, e2, e3⟩
        · go_enter Try.func70, Try.ntmps70
          go_wp2_with (go_at_call 70; refine HD.out.mono ?_; rintro e W1 ⟨rfl, v1, hL1, hb1⟩)
          go_end0
          exact ⟨rfl, _, hL1, hb1⟩
        · exfalso; omega
        · exact absurd c3 e3
    · have HD0 : Hid (bD = []) := Lib.hid (HBD.out (HZD.out (by omega)))
      have HWD0 : Hid (wD = 0) := Lib.hid (HZD.out (by omega))
      rw [HD0.out, List.nil_append]
      rcases hUU with ⟨c4, c5, c6⟩ | hnU
      · have HU := Lib.hid (IHU.out c4 c5 c6 _ _ _ HLK.out (by have := HXS.out; have := HWD0.out; omega))
        rcases hnD with e1 | ⟨e1, e2⟩ | ⟨e1, e2, e3⟩
        · go_enter Try.func70, Try.ntmps70
          go_wp2_with (go_at_call 70; refine HU.out.mono ?_; rintro e W1 ⟨rfl, v1, hL1, hb1⟩)
          go_end0
          exact ⟨rfl, _, hL1, hb1⟩
        · go_enter Try.func70, Try.ntmps70
          go_wp2_with (go_at_call 70; refine HU.out.mono ?_; rintro e W1 ⟨rfl, v1, hL1, hb1⟩)
          go_end0
          exact ⟨rfl, _, hL1, hb1⟩
        · exact absurd c6 e3
      · have HU0 : Hid (bU = []) := Lib.hid (HBU.out (HZU.out (by omega)))
        rw [HU0.out, List.append_nil]
        rcases hnD with e1 | ⟨e1, e2⟩ | ⟨e1, e2, e3⟩
        all_goals
          rcases hnU with f1 | ⟨f1, f2⟩ | ⟨f1, f2, f3⟩
          all_goals first
            | (exfalso; omega)
            | (go_enter Try.func70, Try.ntmps70
               go_wp2
               go_end0
               exact ⟨rfl, _, HLK.out, Below.refl _ _⟩)
end Go.Proofs.Ytcnggafbdjhagaa
