/- Pack 30 of what FnExactFirstApart needs: TdS, FaB. -/
import Derived.Test.YtnlmjeakdjmohaaKFnExactFirstApart29
/- The model's ncTied. -/
namespace Go.Proofs.Ytnlmjeakdjmohaa
open Go.RowKit
set_option linter.unusedVariables false
/-- cell j (b) may follow cell i (a) -/
def tdP (bx bY ax aY : Int) : Bool := !(decide (ax < bx) || decide (bY < aY)) && !(ax == bx && aY == bY)
def tdC (xs : List Int) (j i : Nat) : Bool := tdP (xs.getD (j * 2) 0) (xs.getD (j * 2 + 1) 0) (xs.getD (i * 2) 0) (xs.getD (i * 2 + 1) 0)
def tdB (n : Nat) (xs : List Int) : Bool := (List.range n).all fun j => (List.range j).all fun i => tdC xs j i
theorem tdB_no {n : Nat} {xs : List Int} {j i : Nat} (hj : j < n) (hi : i < j) (h : tdC xs j i = false) : tdB n xs = false := by
  rw [← Bool.not_eq_true]
  unfold tdB
  intro h2
  have h3 := List.all_eq_true.mp (List.all_eq_true.mp h2 j (List.mem_range.mpr hj)) i (List.mem_range.mpr hi)
  rw [h] at h3
  exact absurd h3 (by decide)
theorem tdB_yes {n : Nat} {xs : List Int} (h : ∀ j, j < n → ∀ i, i < j → tdC xs j i = true) : tdB n xs = true := by
  unfold tdB
  rw [List.all_eq_true]
  intro j hj
  rw [List.all_eq_true]
  exact fun i hi => h j (List.mem_range.mp hj) i (List.mem_range.mp hi)
theorem RCels.at {w : World} {n : Nat} {xs : List Int} {g o c : Nat} (h : RCels w (.slice (some ⟨g, o, none⟩) n c) n xs) {k : Nat} (hk : k < n) :
    w.cell? ⟨g, o + k * 2, none⟩ = some (.int .i64 (xs.getD (k * 2) 0)) ∧ w.cell? ⟨g, o + k * 2 + 1, none⟩ = some (.int .i64 (xs.getD (k * 2 + 1) 0)) := by
  obtain ⟨g', o', c', e, _, hc⟩ := h.cells (by omega)
  injection e with e _ e3
  injection e with e
  injection e with e1 e2
  subst e1 e2
  exact ⟨hc (k * 2) (by omega), hc (k * 2 + 1) (by omega)⟩
set_option maxRecDepth 100000 in
set_option maxHeartbeats 2000000 in
theorem ncTied_any (v : Value) (n : Nat) (xs : List Int) (w : World) (h : RCels w v n xs) (hn : n ≤ 1048576) : Calls Try.prog 112 #[v] w (Ret w (.bool (tdB n xs))) := by
  have HY : Hid ((∀ j, j < n → ∀ i, i < j → tdC xs j i = true) → tdB n xs = true) := Lib.hid tdB_yes
  have HN : Hid (∀ j i, j < n → i < j → tdC xs j i = false → tdB n xs = false) := Lib.hid fun j i h1 h2 h3 => tdB_no h1 h2 h3
  by_cases h0 : n = 0
  · obtain ⟨A, c, rfl⟩ := h.shape
    have HT := Lib.hid (HY.out fun j hj => absurd hj (by omega))
    subst h0
    rw [HT.out]
    clear h HY HN HT
    go_enter Try.func112, Try.ntmps112
    go_wp2
    refine wp_loop_rounds 1 ?_; rw [rounds_succ]
    go_wp2
    go_ret
    exact ⟨rfl, Below.refl _ _⟩
  obtain ⟨g, o, c, rfl, hg, _⟩ := h.cells (by omega)
  obtain ⟨m1, m2⟩ := h.room _ _ _ rfl
  have m3 : maxLen ≤ 9223372036854775807 := by simp [maxLen]
  have HR : Hid (RCels w (.slice (some ⟨g, o, none⟩) n c) n xs) := Lib.hid h
  have HB : Hid (Below w.heap.size w w) := Lib.hid (Below.refl _ _)
  clear h h0
  generalize tdB n xs = T at *
  go_enter Try.func112, Try.ntmps112
  go_wp2_with fail
  go_loopw [9] (fun q wr => ∃ j : Nat, j ≤ n ∧ q = .int .i64 (j : Int) ∧ (∀ p, p < j → ∀ i, i < p → tdC xs p i = true) ∧ Below w.heap.size w wr) (fun q _ => n - (intOf q).toNat)
  case atStart => exact ⟨0, Nat.zero_le _, rfl, fun p hp => absurd hp (by omega), Below.refl _ _⟩
  case round =>
    obtain ⟨j, hj, rfl, hall, hb⟩ := hrel
    clear HB
    by_cases hlt : j < n
    · have i1 : (j : Int) < (n : Int) := by omega
      have i2 : 0 ≤ (j : Int) := by omega
      have i3 : (j : Int) ≤ (c : Int) := by omega
      have i4 : j ≤ c := by omega
      have hr := HR.out.below hb
      have c0 := (hr.at hlt).1
      have c1 := (hr.at hlt).2
      obtain ⟨bx, hbx⟩ : ∃ bx, xs.getD (j * 2) 0 = bx := ⟨_, rfl⟩
      obtain ⟨bY, hbY⟩ : ∃ bY, xs.getD (j * 2 + 1) 0 = bY := ⟨_, rfl⟩
      rw [hbx] at c0
      rw [hbY] at c1
      have HTC : Hid (∀ i, tdC xs j i = tdP bx bY (xs.getD (i * 2) 0) (xs.getD (i * 2 + 1) 0)) := Lib.hid fun i => by rw [← hbx, ← hbY]; rfl
      have HBW := Lib.hid hb
      have HALL := Lib.hid hall
      clear hall hb hbx hbY hr
      go_wp2_with fail
      have HQ0 := Lib.hid (QB.new wr bx bY 39)
      have HB1 : Hid (Below w.heap.size w (wr.alloc (.cells #[.int .i64 bx, .int .i64 bY] 39))) := Lib.hid (HBW.out.alloc HBW.out.size _)
      clear c0 c1 HBW
      generalize wr.heap.size = h at *
      go_loopw [18] (fun q wq => ∃ i : Nat, i ≤ j ∧ q = .int .i64 (i : Int) ∧ (∀ p, p < i → tdC xs j p = true) ∧ QB h bx bY wq ∧ Below w.heap.size w wq) (fun q _ => j - (intOf q).toNat)
      case atStart => exact ⟨0, Nat.zero_le _, rfl, fun p hp => absurd hp (by omega), HQ0.out, HB1.out⟩
      case round =>
        obtain ⟨i, hi, rfl, hali, hq, hb⟩ := hrel
        clear HB1 HQ0
        by_cases hli : i < j
        · have j1 : (i : Int) < (j : Int) := by omega
          have j2 : 0 ≤ (i : Int) := by omega
          have hr := HR.out.below hb
          have c0 := (hr.at (show i < n by omega)).1
          have c1 := (hr.at (show i < n by omega)).2
          have HTI := Lib.hid (HTC.out i)
          generalize xs.getD (i * 2) 0 = ax at *
          generalize xs.getD (i * 2 + 1) 0 = aY at *
          have HNJ := Lib.hid (HN.out j i hlt hli)
          have HALI := Lib.hid hali
          have k0 := hq.c0
          have k1 := hq.c1
          have lt1 := hq.lt
          have HQ := Lib.hid hq
          have HBA : Hid (Below w.heap.size w (wr.alloc (.cells #[.int .i64 ax, .int .i64 aY] 39))) := Lib.hid (hb.alloc hb.size _)
          clear hr hali hq hb
          by_cases h1 : ax < bx
          · have HT := Lib.hid (HNJ.out (by rw [HTI.out]; simp [tdP, h1]))
            clear HNJ
            go_wp2_with fail
            go_ret
            exact ⟨by rw [HT.out]; rfl, HBA.out⟩
          · by_cases h2 : bY < aY
            · have HT := Lib.hid (HNJ.out (by rw [HTI.out]; simp [tdP, h2]))
              clear HNJ
              go_wp2_with fail
              go_ret
              exact ⟨by rw [HT.out]; rfl, HBA.out⟩
            · by_cases h3 : ax = bx
              · by_cases h4 : aY = bY
                · subst h3 h4
                  have HT := Lib.hid (HNJ.out (by rw [HTI.out]; simp [tdP]))
                  clear HNJ
                  go_wp2_with fail
                  go_ret
                  exact ⟨by rw [HT.out]; rfl, HBA.out⟩
                · subst h3
                  have HTT : Hid (tdC xs j i = true) := Lib.hid (by rw [HTI.out]; simp [tdP, h2, h4])
                  clear HNJ
                  go_wp2_with fail
                  go_roundw
                  case rel => exact ⟨i + 1, by omega, by go_num, fun p hp => by
                    rcases Nat.lt_or_ge p i with h | h
                    · exact HALI.out p h
                    · obtain rfl : p = i := by omega
                      exact HTT.out, HQ.out.below ((Below.refl _ _).alloc (Nat.le_refl _) _), HBA.out⟩
                  case measure => first | (simp [intOf]; done) | (simp [intOf]; omega)
              · skip
                have HTT : Hid (tdC xs j i = true) := Lib.hid (by rw [HTI.out]; simp [tdP, h1, h2, h3])
                clear HNJ
                go_wp2_with fail
                go_roundw
                case rel => exact ⟨i + 1, by omega, by go_num, fun p hp => by
                  rcases Nat.lt_or_ge p i with h | h
                  · exact HALI.out p h
                  · obtain rfl : p = i := by omega
                    exact HTT.out, HQ.out.below ((Below.refl _ _).alloc (Nat.le_refl _) _), HBA.out⟩
                case measure => first | (simp [intOf]; done) | (simp [intOf]; omega)
        · obtain rfl : i = j := by omega
          have HALJ := Lib.hid hali
          have HBA := Lib.hid hb
          clear hali hb hq
          go_wp2_with fail
          go_roundw
          case rel => exact ⟨i + 1, by omega, by go_num, fun p hp => by
            rcases Nat.lt_or_ge p i with h | h
            · exact HALL.out p h
            · obtain rfl : p = i := by omega
              exact HALJ.out, HBA.out⟩
          case measure => first | (simp [intOf]; done) | (simp [intOf]; omega)
    · obtain rfl : j = n := by omega
      have HT := Lib.hid (HY.out hall)
      have HBW := Lib.hid hb
      clear hall hb
      go_wp2_with fail
      go_ret
      exact ⟨by rw [HT.out]; rfl, HBW.out⟩
end Go.Proofs.Ytnlmjeakdjmohaa

/- FirstApart's list: told by what is done and what is left. -/
namespace Go.Proofs.Ytnlmjeakdjmohaa
open Go.RowKit
set_option linter.unusedVariables false
/-- the i-th cell of a list -/
def celF (xs : List Int) (i : Nat) : Int × Int := (xs.getD (i * 2) 0, xs.getD (i * 2 + 1) 0)
def wysF (S : Nat → Int × Int) : Nat → List (List UInt8) → List Wy
  | _, [] => []
  | i, p :: ps => ((S i).1, (S i).2, txT p) :: wysF S (i + 1) ps
def fpR (S E : Nat → Int × Int) (f i : Nat) (tk : Int → Int → Bool) (L : List Wy) : Option (List Wy) := (pgF S E f i tk).map fun ps => L ++ wysF S i ps
def fmR (S E : Nat → Int × Int) (n f i : Nat) (tk : Int → Int → Bool) (L : List Wy) : Option (List Wy) := (mdF S E n f i tk).map fun ps => L ++ wysF S i ps
theorem fpR_zero (S E : Nat → Int × Int) (i : Nat) (tk : Int → Int → Bool) (L : List Wy) : fpR S E 0 i tk L = some L := by
  unfold fpR
  rw [pgF]
  simp [wysF]
theorem fmR_zero (S E : Nat → Int × Int) (n i : Nat) (tk : Int → Int → Bool) (L : List Wy) : fmR S E n 0 i tk L = some L := by
  unfold fmR
  rw [mdF]
  simp [wysF]
theorem fpR_none {S E : Nat → Int × Int} {f i : Nat} {tk : Int → Int → Bool} {L : List Wy} (h : (spF tk (E i).1 (E i).2 25 (S i).1 (S i).2).head? = none) : fpR S E (f + 1) i tk L = none := by
  unfold fpR
  rw [pgF, h]
  rfl
theorem fmR_none {S E : Nat → Int × Int} {n f i : Nat} {tk : Int → Int → Bool} {L : List Wy} (h : (spF (fun a b => tk a b || othB S n i a b) (E i).1 (E i).2 25 (S i).1 (S i).2).head? = none) : fmR S E n (f + 1) i tk L = none := by
  unfold fmR
  rw [mdF, h]
  rfl
theorem fpR_some {S E : Nat → Int × Int} {f i : Nat} {tk : Int → Int → Bool} {L : List Wy} {s : List UInt8} (h : (spF tk (E i).1 (E i).2 25 (S i).1 (S i).2).head? = some s) :
    fpR S E (f + 1) i tk L = fpR S E f (i + 1) (tkP tk (S i).1 (S i).2 s) (L ++ [((S i).1, (S i).2, txT s)]) := by
  unfold fpR
  rw [pgF, h]
  simp only [Option.map_map]
  congr 1
  funext ps
  simp [wysF]
theorem fmR_some {S E : Nat → Int × Int} {n f i : Nat} {tk : Int → Int → Bool} {L : List Wy} {s : List UInt8} (h : (spF (fun a b => tk a b || othB S n i a b) (E i).1 (E i).2 25 (S i).1 (S i).2).head? = some s) :
    fmR S E n (f + 1) i tk L = fmR S E n f (i + 1) (tkP tk (S i).1 (S i).2 s) (L ++ [((S i).1, (S i).2, txT s)]) := by
  unfold fmR
  rw [mdF, h]
  simp only [Option.map_map]
  congr 1
  funext ps
  simp [wysF]
theorem fp_fm {S E : Nat → Int × Int} {n : Nat} (ht : ∀ i j, i < j → j < n → (S j).1 ≤ (S i).1) (tk : Int → Int → Bool) (L : List Wy) : fpR S E n 0 tk L = fmR S E n n 0 tk L := by
  unfold fpR fmR
  rw [pg_md ht n 0 tk (by omega)]
/-- the cells taken after one way more -/
theorem tk_step {n : Nat} {ts : List Int} {s : List UInt8} {x y : Int} (hl : ts.length = n * 2) (hs : enB s) : (hasF (n + ((txT s).size + 1)) (ts ++ clF (txT s) x y (txT s).size) : Int → Int → Bool) = tkP (hasF n ts) x y s := by
  funext a b
  rw [hasF_app hl, txT_size, hasF_pcs hs]
  rfl
theorem sp_en {tk : Int → Int → Bool} {u v x y : Int} {f : Nat} {s : List UInt8} (h : (spF tk u v f x y).head? = some s) : enB s := (spF_mem f x y s (List.mem_of_head? h)).2.2.2
theorem sp_way {tk : Int → Int → Bool} {u v x y : Int} {f : Nat} {s : List UInt8} (h : (spF tk u v f x y).head? = some s) (h1 : cellB x y = true) (h2 : cellB u v = true) : wayB x y (txT s) = true := spF_way (List.mem_of_head? h) h1 h2
/-- the first way alone -/
theorem sp_take {tk : Int → Int → Bool} {u v x y : Int} {f : Nat} : ((spF tk u v f x y).take 1) = match (spF tk u v f x y).head? with
    | none => []
    | some s => [s] := by
  cases spF tk u v f x y with
  | nil => rfl
  | cons a L => rfl
/-- the starts behind as a list of its own -/
theorem oth_has {xs : List Int} {n i : Nat} (hi : i < n) : (hasF (n - (i + 1)) (xs.drop ((i + 1) * 2)) : Int → Int → Bool) = othB (celF xs) n i := by
  funext a b
  have g : ∀ k, (xs.drop ((i + 1) * 2)).getD k 0 = xs.getD ((i + 1) * 2 + k) 0 := fun k => by
    rw [List.getD_eq_getElem?_getD, List.getElem?_drop, List.getD_eq_getElem?_getD]
  rw [Bool.eq_iff_iff, hasF_iff]
  unfold othB celF
  rw [List.any_eq_true]
  constructor
  · rintro ⟨j, hj, h1, h2⟩
    rw [g] at h1 h2
    refine ⟨i + 1 + j, List.mem_range.2 (by omega), ?_⟩
    rw [Bool.and_eq_true, decide_eq_true_eq, beq_iff_eq, show (i + 1 + j) * 2 = (i + 1) * 2 + j * 2 by omega, h1, show (i + 1) * 2 + j * 2 + 1 = (i + 1) * 2 + (j * 2 + 1) by omega, h2]
    exact ⟨by omega, rfl⟩
  · rintro ⟨j, hj, h⟩
    rw [Bool.and_eq_true, decide_eq_true_eq, beq_iff_eq, Prod.mk.injEq] at h
    have := List.mem_range.1 hj
    refine ⟨j - (i + 1), by omega, ?_, ?_⟩
    · rw [g, show (i + 1) * 2 + (j - (i + 1)) * 2 = j * 2 by omega]
      exact h.2.1
    · rw [g, show (i + 1) * 2 + ((j - (i + 1)) * 2 + 1) = j * 2 + 1 by omega]
      exact h.2.2
theorem td_le {n : Nat} {xs : List Int} (h : tdB n xs = true) : ∀ i j, i < j → j < n → (celF xs j).1 ≤ (celF xs i).1 := by
  intro i j h1 h2
  unfold tdB at h
  rw [List.all_eq_true] at h
  have h := h j (List.mem_range.2 h2)
  rw [List.all_eq_true] at h
  have h := h i (List.mem_range.2 h1)
  unfold tdC tdP at h
  rw [Bool.and_eq_true, Bool.not_eq_true', Bool.or_eq_false_iff, decide_eq_false_iff_not] at h
  show xs.getD (j * 2) 0 ≤ xs.getD (i * 2) 0
  have := h.1.1
  omega
end Go.Proofs.Ytnlmjeakdjmohaa
