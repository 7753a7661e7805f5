/- The laws' own words on slices of ways that come in: sizes, copies. -/
import Derived.Test.YtahnknbggacndaaWOwn
import Derived.IntWalk
namespace Go.Proofs.Ytahnknbggacndaa
open Go.RowKit
set_option linter.unusedVariables false
theorem RWays.nil (w : World) : RWays w (.slice none 0 0) 0 [] :=
  ⟨⟨_, _, rfl⟩, fun A n c e => by injection e with e1 e2 e3; subst e2 e3; exact ⟨Nat.le_refl _, by simp [maxLen]⟩, fun j hj => absurd hj (by omega), fun h => absurd h (by omega)⟩
theorem cells3_of {w : World} {base : Nat} {a : Addr} {cs : List Value} (h : w.cells? base a 3 = some cs) : ∃ c0 c1 c2, cs = [c0, c1, c2] ∧ w.cell? a = some c0 ∧ w.cell? (a.add 1) = some c1 ∧ w.cell? (a.add 2) = some c2 := by
  obtain ⟨_, hlen, hc⟩ := World.cells?_some h
  match cs, hlen with
  | [c0, c1, c2], _ =>
    have h0 := hc 0 (by omega)
    have h1 := hc 1 (by omega)
    have h2 := hc 2 (by omega)
    refine ⟨c0, c1, c2, rfl, ?_, ?_, ?_⟩
    · simpa [Addr.add] using h0
    · simpa using h1
    · simpa using h2
theorem RWays.of_cells (w : World) (a : Addr) (len cap : Nat) (hl : len ≤ cap) (hm : cap ≤ maxLen)
    (hc : ∀ j, j < len → ∃ (x y : Int) (s : ByteArray), w.cell? (a.add (j * 3)) = some (.int .i64 x) ∧ w.cell? ((a.add (j * 3)).add 1) = some (.int .i64 y) ∧ w.cell? ((a.add (j * 3)).add 2) = some (.string s) ∧ s.size ≤ maxLen) :
    ∃ L, RWays w (.slice (some a) len cap) len L := by
  have hf : ∃ f : Nat → Wy, ∀ j, j < len → w.cell? (a.add (j * 3)) = some (.int .i64 (f j).1) ∧ w.cell? ((a.add (j * 3)).add 1) = some (.int .i64 (f j).2.1) ∧ w.cell? ((a.add (j * 3)).add 2) = some (.string (f j).2.2) ∧ (f j).2.2.size ≤ maxLen := by
    refine ⟨fun j => if h : j < len then ((hc j h).choose, (hc j h).choose_spec.choose, (hc j h).choose_spec.choose_spec.choose) else (0, 0, ⟨#[]⟩), fun j hj => ?_⟩
    simp only [dif_pos hj]
    exact (hc j hj).choose_spec.choose_spec.choose_spec
  obtain ⟨f, hf⟩ := hf
  have hg : ∀ j, j < len → wg ((List.range len).map f) j = f j := fun j hj => by
    unfold wg
    rw [List.getD_eq_getElem?_getD, List.getElem?_map, List.getElem?_range hj]
    rfl
  refine ⟨(List.range len).map f, ⟨⟨_, _, rfl⟩, fun A k c e => by injection e with e1 e2 e3; subst e2 e3; exact ⟨hl, hm⟩, fun j hj => by rw [hg j hj]; exact (hf j hj).2.2.2, fun hx => ?_⟩⟩
  obtain ⟨b, off, spot⟩ := a
  have h0 := (hf 0 (by omega)).1
  have hspot : spot = none := by simpa [Addr.add] using World.cell?_spot h0
  subst hspot
  refine ⟨b, off, cap, rfl, World.block_lt_of_cell? w _ h0, fun j hj => ?_⟩
  obtain ⟨h1, h2, h3, _⟩ := hf j hj
  have e : ∀ (o k : Nat), (⟨b, o, none⟩ : Addr).add k = ⟨b, o + k, none⟩ := fun o k => by unfold Addr.add; split <;> simp_all
  rw [e] at h1 h2 h3
  rw [e] at h2 h3
  rw [hg j hj]
  exact ⟨h1, h2, h3⟩
/-- what szWayS leaves -/
def szWR (L : List Wy) : Nat → Nat → Int → Int
  | 0, _, l => l
  | f + 1, k, l => if l - ((wg L k).2.2.size : Int) < 0 then -1 else szWR L f (k + 1) (l - (wg L k).2.2.size)
def szWT (n : Nat) (L : List Wy) (left : Int) : Int := if left - (n : Int) < 0 then -1 else szWR L n 0 (left - n)
theorem szWT_ok {n : Nat} {L : List Wy} {left : Int} (h0 : 0 ≤ left ∧ left ≤ 1048576) (h : ¬ szWT n L left < 0) : n ≤ 1048576 := by
  unfold szWT at h
  by_cases hq : left - (n : Int) < 0
  · rw [if_pos hq] at h; omega
  · omega
set_option maxRecDepth 100000 in
set_option maxHeartbeats 2000000 in
theorem szWayS_any (v : Value) (n : Nat) (L : List Wy) (left : Int) (w : World) (h : RWays w v n L) (h0 : 0 ≤ left ∧ left ≤ 1048576) :
    Calls Try.prog 49 #[v, .int .i64 left] w (Ret w (.int .i64 (szWT n L left))) := by
  have H := Lib.hid h
  have HSm := Lib.hid h.small
  obtain ⟨A, c, rfl⟩ := h.shape
  obtain ⟨m1, m2⟩ := h.room _ _ _ rfl
  have m3 : maxLen ≤ 9223372036854775807 := by simp [maxLen]
  have h2 : (n : Int) ≤ 9223372036854775807 := by omega
  have HT : Hid (szWT n L left = if left - (n : Int) < 0 then -1 else szWR L n 0 (left - n)) := Lib.hid rfl
  have h1 : 0 ≤ (n : Int) := by omega
  have hl0 := h0.1
  have hl1 := h0.2
  clear h m1 m2 m3 h0
  generalize szWT n L left = T at *
  by_cases hq : left - (n : Int) < 0
  · rw [if_pos hq] at HT
    rw [HT.out]
    go_enter Try.func49, Try.ntmps49
    go_wp2
    go_ret
    exact ⟨rfl, Below.refl _ _⟩
  · rw [if_neg hq] at HT
    go_enter Try.func49, Try.ntmps49
    go_wp2_with fail
    go_loopw [1, 5] (fun q i wr => ∃ (k f : Nat) (l : Int), k ≤ n ∧ f = n - k ∧ i = .int .i64 (k : Int) ∧ q = .int .i64 l ∧ 0 ≤ l ∧ l ≤ 1048576 ∧ szWR L f k l = T ∧ Below w.heap.size w wr) (fun _ i _ => n - (intOf i).toNat)
    case atStart => exact ⟨0, n, left - n, Nat.zero_le _, rfl, rfl, rfl, by omega, by omega, HT.out.symm, Below.refl _ _⟩
    case round =>
      obtain ⟨k, f, l, hk, hf, rfl, rfl, hq0, hq1, hsz, hb⟩ := hrel
      clear HT
      by_cases hlt : k < n
      · obtain ⟨f', rfl⟩ : ∃ f', f = f' + 1 := ⟨f - 1, by omega⟩
        obtain ⟨g, o, cc, hv, hg, -⟩ := H.out.cells (by omega)
        injection hv with hA hnn hcc
        subst hA
        subst hcc
        clear hnn
        have hr := (H.out.below hb).at hlt
        have c0 := hr.1
        have c1 := hr.2.1
        have c2 := hr.2.2
        have i1 : (k : Int) < (n : Int) := by omega
        have i2 : 0 ≤ (k : Int) := by omega
        rw [szWR] at hsz
        have HSZ := Lib.hid fun w' => szWay_any (wg L k).1 (wg L k).2.1 (wg L k).2.2 l w' (HSm.out k hlt) ⟨hq0, hq1⟩
        unfold szW at HSZ
        have hf' : f' = n - (k + 1) := by omega
        have HB := Lib.hid hb
        clear hr hb hf
        generalize (wg L k).1 = x at *
        generalize (wg L k).2.1 = y at *
        generalize (wg L k).2.2 = s at *
        by_cases hr : l - (s.size : Int) < 0
        · rw [if_pos hr] at hsz HSZ
          have HTT := Lib.hid hsz
          clear hsz hr
          go_wp2_with (go_at_call 23; refine (HSZ.out _).mono ?_; rintro e w2 ⟨rfl, hb2⟩; have HB2 := Lib.hid (HB.out.trans (hb2.mono HB.out.size)); clear hb2)
          go_ret
          exact ⟨by rw [← HTT.out]; rfl, HB2.out⟩
        · rw [if_neg hr] at hsz HSZ
          have HTT := Lib.hid hsz
          have hp : 0 ≤ l - (s.size : Int) := by omega
          have hp2 : l - (s.size : Int) ≤ 1048576 := by omega
          generalize l - (s.size : Int) = l2 at *
          clear hsz hr
          go_wp2_with (go_at_call 23; refine (HSZ.out _).mono ?_; rintro e w2 ⟨rfl, hb2⟩; have HB2 := Lib.hid (HB.out.trans (hb2.mono HB.out.size)); clear hb2)
          go_roundw
          case rel => exact ⟨k + 1, f', l2, by omega, hf', by go_num, rfl, hp, hp2, HTT.out, HB2.out⟩
          case measure => first | (simp [intOf]; done) | (simp [intOf]; omega)
      · obtain rfl : k = n := by omega
        have hf0 : f = 0 := by omega
        subst hf0
        have HTT : Hid (l = T) := Lib.hid hsz
        have HB := Lib.hid hb
        clear hsz hf hb
        go_wp2_with fail
        go_ret
        exact ⟨by rw [← HTT.out]; rfl, HB.out⟩
/-- the first k copied -/
def cpY (n : Nat) (L : List Wy) (k : Nat) : List Wy := (List.range n).map fun j => if j < k then wg L j else (0, 0, ⟨#[]⟩)
theorem cpY_length (n : Nat) (L : List Wy) (k : Nat) : (cpY n L k).length = n := by simp [cpY]
theorem cpY_get {n : Nat} (L : List Wy) (k : Nat) {j : Nat} (h : j < n) : wg (cpY n L k) j = if j < k then wg L j else (0, 0, ⟨#[]⟩) := by
  unfold wg cpY
  rw [List.getD_eq_getElem?_getD, List.getElem?_map, List.getElem?_range h]
  rfl
theorem cpY_set {n : Nat} (L : List Wy) {k : Nat} (h : k < n) : (cpY n L k).set k (wg L k) = cpY n L (k + 1) := by
  unfold cpY
  apply List.ext_getElem? 
  intro j
  rw [List.getElem?_set]
  by_cases hj : j < n
  · rw [List.getElem?_map, List.getElem?_map, List.getElem?_range hj, Option.map_some, Option.map_some]
    by_cases e : k = j
    · subst e
      rw [if_pos rfl, if_pos (by simpa using h), if_pos (by omega)]
    · rw [if_neg e]
      by_cases h3 : j < k
      · rw [if_pos h3, if_pos (by omega)]
      · rw [if_neg h3, if_neg (by omega)]
  · rw [if_neg (by omega), List.getElem?_eq_none (by simp; omega), List.getElem?_eq_none (by simp; omega)]
theorem cpY_zero (n : Nat) (L : List Wy) : wyL (cpY n L 0) = (madeCells (Value.agg #[.int .i64 0, .int .i64 0, .string ⟨#[]⟩]).cells (n * 3)).toList := by
  have hc : (Value.agg #[.int .i64 0, .int .i64 0, .string ⟨#[]⟩]).cells = #[Value.int .i64 0, Value.int .i64 0, Value.string ⟨#[]⟩] := by simp [Value.cells]
  rw [hc]
  apply List.ext_getElem?
  intro j
  have hl := wyL_length (cpY n L 0)
  rw [cpY_length] at hl
  by_cases hj : j < n * 3
  · have hg := wyL_get (cpY n L 0) (j / 3) (by rw [cpY_length]; omega)
    rw [cpY_get L 0 (by omega), if_neg (by omega)] at hg
    rcases (show j % 3 = 0 ∨ j % 3 = 1 ∨ j % 3 = 2 by omega) with h | h | h
    · have := hg.1
      rw [show j / 3 * 3 = j by omega] at this
      rw [this]
      simp [madeCells, hj, h]
    · have := hg.2.1
      rw [show j / 3 * 3 + 1 = j by omega] at this
      rw [this]
      simp [madeCells, hj, h]
    · have := hg.2.2
      rw [show j / 3 * 3 + 2 = j by omega] at this
      rw [this]
      simp [madeCells, hj, h]
  · rw [List.getElem?_eq_none (by omega)]
    simp [madeCells, hj]
set_option maxRecDepth 100000 in
set_option maxHeartbeats 2000000 in
theorem toWayS_any (v : Value) (n : Nat) (L : List Wy) (w : World) (h : RWays w v n L) (hl : n ≤ 1048576) :
    Calls Try.prog 51 #[v] w fun e w' => ∃ u, e = .returned u ∧ WRow w' w.heap.size u (cpY n L n) ∧ Below w.heap.size w w' := by
  obtain ⟨A0, cap, rfl⟩ := h.shape
  have H := Lib.hid h
  clear h
  have HT : Hid (∀ a b r w, Calls Try.prog 25 #[wayV a b r] w (Ret w (wayV a b r))) := Lib.hid toWay_any
  obtain ⟨i0, hi0, hz0, hz1, hz2⟩ := info_parts wayInfo
  go_enter Try.func51, Try.ntmps51
  go_wp2_with (refine wpList_make_full _ rfl (.tmp 6) (.tmp 6) 47 rfl w.heap.size 33 i0 _ 3 Try.underlying47 hi0 hz0 hz1 .i64 .i64 _ _ n rfl rfl (by omega) (by omega) (by rw [hz2]; omega) (by unfold maxLen; omega) (Nat.le_refl _) ?_; intro w1 hown1 hgrow1)
  have hrow1 : WRow w1 w.heap.size (.slice (some ⟨w.heap.size, 0, none⟩) n n) (cpY n L 0) := by
    unfold WRow
    rw [cpY_zero, cpY_length]
    exact hown1
  have hb1 : Below w.heap.size w w1 := (Below.refl _ _).grown hgrow1 (Nat.le_refl _) (by simp)
  clear hown1 hgrow1
  go_loopw [4] (fun i wr => ∃ k : Nat, k ≤ n ∧ i = .int .i64 (k : Int) ∧ WRow wr w.heap.size (.slice (some ⟨w.heap.size, 0, none⟩) n n) (cpY n L k) ∧ Below w.heap.size w wr) (fun i _ => n - (intOf i).toNat)
  case atStart => exact ⟨0, Nat.zero_le _, rfl, hrow1, hb1⟩
  case round =>
    obtain ⟨k, hk, rfl, hrow, hb⟩ := hrel
    clear hrow1 hb1
    by_cases hlt : k < n
    · obtain ⟨g, o, c, e1, hg, -⟩ := H.out.cells (by omega)
      injection e1 with e1 hnn e3
      subst e1 e3
      clear hnn
      have hr := (H.out.below hb).at hlt
      have c0 := hr.1
      have c1 := hr.2.1
      have c2 := hr.2.2
      have i1 : (k : Int) < (n : Int) := by omega
      have i2 : 0 ≤ (k : Int) := by omega
      have HSN := Lib.hid (cpY_set L hlt)
      have HLN : Hid (k < (cpY n L k).length) := Lib.hid (by rw [cpY_length]; exact hlt)
      have HROW := Lib.hid hrow
      have HB := Lib.hid hb
      clear hr hrow hb
      obtain ⟨x, y, s, hw⟩ : ∃ x y s, wg L k = (x, y, s) := ⟨_, _, _, rfl⟩
      rw [hw] at c0 c1 c2 HSN
      clear hw
      generalize cpY n L k = CK at *
      go_wp2_with (go_at_call 25; refine (HT.out _ _ _ _).mono ?_; rintro e wz ⟨rfl, hbz⟩; have hrz := HROW.out.below hbz; have hcz := hrz.cell (j := k) HLN.out; have s0 := hcz.1; have s1 := hcz.2.1; have s2 := hcz.2.2; have f0 := hrz.free (k * 3); have f1 := hrz.free (k * 3 + 1); have f2 := hrz.free (k * 3 + 2); have HRZ := Lib.hid hrz; have HBZ := Lib.hid (HB.out.trans (hbz.mono HB.out.size)); clear hrz hcz hbz)
      have h0 := (HRZ.out.set0 (j := k) HLN.out x).1
      have h1 := (h0.set1 (j := k) (by rw [List.length_set]; exact HLN.out) y).1
      have h2 := (h1.set2 (j := k) (by rw [List.length_set, List.length_set]; exact HLN.out) s).1
      have gw : ∀ (M : List Wy) (t : Wy), k < M.length → wg (M.set k t) k = t := fun M t hM => by
        unfold wg
        rw [List.getD_eq_getElem?_getD, List.getElem?_set_self hM]
        rfl
      rw [gw _ _ HLN.out] at h2
      rw [gw _ _ (by rw [List.length_set]; exact HLN.out)] at h2
      rw [List.set_set, List.set_set, HSN.out] at h2
      have HST := Lib.hid h2
      clear h0 h1 h2 gw
      go_roundw
      case rel => exact ⟨k + 1, by omega, by go_num, HST.out, ((HBZ.out.setCell (p := ⟨w.heap.size, k * 3, none⟩) (Nat.le_refl _) _).setCell (p := ⟨w.heap.size, k * 3 + 1, none⟩) (Nat.le_refl _) _).setCell (p := ⟨w.heap.size, k * 3 + 2, none⟩) (Nat.le_refl _) _⟩
      case measure => first | (simp [intOf]; done) | (simp [intOf]; omega)
    · obtain rfl : k = n := by omega
      have HR := Lib.hid hrow
      have HB := Lib.hid hb
      clear hrow hb
      go_wp2_with fail
      go_ret
      exact ⟨_, rfl, HR.out, HB.out⟩
end Go.Proofs.Ytahnknbggacndaa
