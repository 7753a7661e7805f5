/- Ways that are only read; the model's ncApart, AreApart. -/
import Derived.Test.YtahnknbggacndaaDmS
import Derived.Test.YtahnknbggacndaaWgS
import Derived.Test.YtahnknbggacndaaInB
namespace Go.Proofs.Ytahnknbggacndaa
open Go.RowKit
set_option linter.unusedVariables false
theorem inBd_if4 {a lo hi : Int} (h : inBd lo hi a = true) : lo ≤ a ∧ a ≤ hi := by unfold inBd at h; simpa only [Bool.and_eq_true, decide_eq_true_eq] using h
def apC (L : List Wy) (j i : Nat) : Bool := !(mtR (wg L j).1 (wg L j).2.1 (wg L j).2.2 (wg L i).1 (wg L i).2.1 (wg L i).2.2).isSome
def apB (n : Nat) (L : List Wy) : Bool := (List.range n).all fun j => (List.range j).all fun i => apC L j i
theorem apB_no {n : Nat} {L : List Wy} {j i : Nat} (hj : j < n) (hi : i < j) (h : apC L j i = false) : apB n L = false := by
  rw [← Bool.not_eq_true]
  unfold apB
  intro h2
  have h3 := List.all_eq_true.mp (List.all_eq_true.mp h2 j (List.mem_range.mpr hj)) i (List.mem_range.mpr hi)
  rw [h] at h3
  exact absurd h3 (by decide)
theorem apB_yes {n : Nat} {L : List Wy} (h : ∀ j, j < n → ∀ i, i < j → apC L j i = true) : apB n L = true := by
  unfold apB
  rw [List.all_eq_true]
  intro j hj
  rw [List.all_eq_true]
  exact fun i hi => h j (List.mem_range.mp hj) i (List.mem_range.mp hi)
set_option maxRecDepth 100000 in
set_option maxHeartbeats 2000000 in
theorem ncApart_any (v : Value) (n : Nat) (L : List Wy) (w : World) (h : RWays w v n L) (hn : n ≤ 1048576) : Calls Try.prog 91 #[v] w (Ret w (.bool (apB n L))) := by
  have HY : Hid ((∀ j, j < n → ∀ i, i < j → apC L j i = true) → apB n L = true) := Lib.hid apB_yes
  have HN : Hid (∀ j i, j < n → i < j → apC L j i = false → apB n L = false) := Lib.hid fun j i h1 h2 h3 => apB_no h1 h2 h3
  have HMT : Hid (∀ j i, j < n → i < n → ∀ w, Calls Try.prog 87 #[wayV (wg L j).1 (wg L j).2.1 (wg L j).2.2, wayV (wg L i).1 (wg L i).2.1 (wg L i).2.2] w (Ret w (mtV (mtR (wg L j).1 (wg L j).2.1 (wg L j).2.2 (wg L i).1 (wg L i).2.1 (wg L i).2.2)))) := Lib.hid fun j i hj hi w => ncMeet_any _ _ _ _ _ _ w (h.small j hj) (h.small i hi)
  by_cases h0 : n = 0
  · obtain ⟨A, c, rfl⟩ := h.shape
    have HT := Lib.hid (HY.out fun j hj => absurd hj (by omega))
    subst h0
    rw [HT.out]
    clear h HY HN HT HMT
    go_enter Try.func91, Try.ntmps91
    go_wp2
    refine wp_loop_rounds 1 ?_; rw [rounds_succ]
    go_wp2
    go_ret
    exact ⟨rfl, Below.refl _ _⟩
  obtain ⟨g, o, c, rfl, hg, _⟩ := h.cells (by omega)
  obtain ⟨m1, m2⟩ := h.room _ _ _ rfl
  have m3 : maxLen ≤ 9223372036854775807 := by simp [maxLen]
  have HR : Hid (RWays w (.slice (some ⟨g, o, none⟩) n c) n L) := Lib.hid h
  clear h h0
  generalize apB n L = T at *
  go_enter Try.func91, Try.ntmps91
  go_wp2_with fail
  go_loopw [12] (fun q wr => ∃ j : Nat, j ≤ n ∧ q = .int .i64 (j : Int) ∧ (∀ p, p < j → ∀ i, i < p → apC L p i = true) ∧ Below w.heap.size w wr) (fun q _ => n - (intOf q).toNat)
  case atStart => exact ⟨0, Nat.zero_le _, rfl, fun p hp => absurd hp (by omega), Below.refl _ _⟩
  case round =>
    obtain ⟨j, hj, rfl, hall, hb⟩ := hrel
    by_cases hlt : j < n
    · have i1 : (j : Int) < (n : Int) := by omega
      have i2 : 0 ≤ (j : Int) := by omega
      have i3 : (j : Int) ≤ (c : Int) := by omega
      have i4 : j ≤ c := by omega
      have hr := (HR.out.below hb).at hlt
      have c0 := hr.1
      have c1 := hr.2.1
      have c2 := hr.2.2
      have HMJ := Lib.hid fun i hi => HMT.out j i hlt hi
      have HAC : Hid (∀ i, apC L j i = !(mtR (wg L j).1 (wg L j).2.1 (wg L j).2.2 (wg L i).1 (wg L i).2.1 (wg L i).2.2).isSome) := Lib.hid fun i => rfl
      have HBW := Lib.hid hb
      have HALL := Lib.hid hall
      clear hall hb hr
      generalize (wg L j).1 = x at *
      generalize (wg L j).2.1 = y at *
      generalize (wg L j).2.2 = s at *
      go_wp2_with fail
      have HQ0 := Lib.hid (WB.new wr x y s 33)
      have HB1 : Hid (Below w.heap.size w (wr.alloc (.cells #[.int .i64 x, .int .i64 y, .string s] 33))) := Lib.hid (HBW.out.alloc HBW.out.size _)
      clear c0 c1 c2 HBW
      generalize wr.heap.size = h at *
      go_loopw [21] (fun q wq => ∃ i : Nat, i ≤ j ∧ q = .int .i64 (i : Int) ∧ (∀ p, p < i → apC L j p = true) ∧ WB h x y s wq ∧ Below w.heap.size w wq) (fun q _ => j - (intOf q).toNat)
      case atStart => exact ⟨0, Nat.zero_le _, rfl, fun p hp => absurd hp (by omega), HQ0.out, HB1.out⟩
      case round =>
        obtain ⟨i, hi, rfl, hali, hq, hb⟩ := hrel
        clear HB1 HQ0
        by_cases hli : i < j
        · have j1 : (i : Int) < (j : Int) := by omega
          have j2 : 0 ≤ (i : Int) := by omega
          have hr := (HR.out.below hb).at (show i < n by omega)
          have c0 := hr.1
          have c1 := hr.2.1
          have c2 := hr.2.2
          have HM := Lib.hid (HMJ.out i (by omega))
          have HAI := Lib.hid (HAC.out i)
          have HNJ := Lib.hid (HN.out j i hlt hli)
          generalize (wg L i).1 = u at *
          generalize (wg L i).2.1 = v at *
          generalize (wg L i).2.2 = t at *
          generalize mtR x y s u v t = R at *
          have HALI := Lib.hid hali
          have k0 := hq.c0
          have k1 := hq.c1
          have k2 := hq.c2
          have lt1 := hq.lt
          have HQ := Lib.hid (hq.below ((Below.refl _ _).alloc (Nat.le_refl _) (.cells #[.int .i64 u, .int .i64 v, .string t] 33)))
          have HBA : Hid (Below w.heap.size w (wr.alloc (.cells #[.int .i64 u, .int .i64 v, .string t] 33))) := Lib.hid (hb.alloc hb.size _)
          clear hr hali hq hb
          go_wp2_with fail
          refine (HM.out _).mono ?_
          rintro e w3 ⟨rfl, hb3⟩
          have HQ3 := Lib.hid (HQ.out.below hb3)
          have HB3 := Lib.hid (HBA.out.trans (hb3.mono HBA.out.size))
          clear hb3 k0 k1 k2 c0 c1 c2
          rcases R with _ | ⟨a, b⟩
          · have HTT : Hid (apC L j i = true) := Lib.hid HAI.out
            unfold mtV
            clear HNJ
            go_wp2_with fail
            go_roundw
            case rel => exact ⟨i + 1, by omega, by go_num, fun p hp => by
              rcases Nat.lt_or_ge p i with h | h
              · exact HALI.out p h
              · obtain rfl : p = i := by omega
                exact HTT.out, HQ3.out, HB3.out⟩
            case measure => first | (simp [intOf]; done) | (simp [intOf]; omega)
          · have HT := Lib.hid (HNJ.out HAI.out)
            unfold mtV
            clear HNJ
            go_wp2_with fail
            go_ret
            exact ⟨by rw [HT.out]; rfl, HB3.out⟩
        · obtain rfl : i = j := by omega
          have HALJ := Lib.hid hali
          have HBA := Lib.hid hb
          clear hali hb hq
          go_wp2_with fail
          go_roundw
          case rel => exact ⟨i + 1, by omega, by go_num, fun p hp => by
            rcases Nat.lt_or_ge p i with h | h
            · exact HALL.out p h
            · obtain rfl : p = i := by omega
              exact HALJ.out, HBA.out⟩
          case measure => first | (simp [intOf]; done) | (simp [intOf]; omega)
    · obtain rfl : j = n := by omega
      have HT := Lib.hid (HY.out hall)
      have HBW := Lib.hid hb
      clear hall hb
      go_wp2_with fail
      go_ret
      exact ⟨by rw [HT.out]; rfl, HBW.out⟩
def wgB (L : List Wy) (j : Nat) : Bool := wayB (wg L j).1 (wg L j).2.1 (wg L j).2.2
def arOk (n : Nat) (L : List Wy) : Bool := inBd 1 4 (n : Int) && (List.range n).all (wgB L)
def arV (n : Nat) (L : List Wy) : Bool := arOk n L && apB n L
theorem arOk_no {n : Nat} {L : List Wy} {j : Nat} (hj : j < n) (h : wgB L j = false) : arOk n L = false := by
  unfold arOk
  rw [Bool.and_eq_false_iff]
  refine .inr ?_
  rw [← Bool.not_eq_true, List.all_eq_true]
  intro h2
  have h3 := h2 j (List.mem_range.mpr hj)
  rw [h] at h3
  exact absurd h3 (by decide)
theorem arOk_yes {n : Nat} {L : List Wy} (h0 : inBd 1 4 (n : Int) = true) (h : ∀ k, k < n → wgB L k = true) : arOk n L = true := by
  unfold arOk
  rw [h0, Bool.true_and, List.all_eq_true]
  exact fun k hk => h k (List.mem_range.mp hk)
set_option maxRecDepth 100000 in
set_option maxHeartbeats 2000000 in
theorem specAreApart_ret (v : Value) (n : Nat) (L : List Wy) (w : World) (h : RWays w v n L) (hn : n ≤ 1048576) : Calls Try.prog 50 #[v] w (Ret w (.tuple #[.bool (arV n L), .bool (arOk n L)])) := by
  have HI : Hid (∀ w, Calls Try.prog 90 #[.int .i64 (n : Int), .int .i64 1, .int .i64 4] w fun e w' => e = .returned (.bool (inBd 1 4 (n : Int))) ∧ w = w') := Lib.hid fun w => in_any (n : Int) 1 4 w
  have HA := Lib.hid fun w' (hb : Below w.heap.size w w') => ncApart_any v n L w' (h.below hb) hn
  have HW : Hid (∀ j, j < n → ∀ w, Calls Try.prog 24 #[wayV (wg L j).1 (wg L j).2.1 (wg L j).2.2] w (Ret w (.bool (wgB L j)))) := Lib.hid fun j hj w => specIsWay_ret _ _ _ w (h.small j hj)
  unfold arV
  rcases Bool.eq_false_or_eq_true (inBd 1 4 (n : Int)) with a1 | a1
  case inr =>
    have e1 : arOk n L = false := by unfold arOk; rw [a1]; rfl
    obtain ⟨A, c, rfl⟩ := h.shape
    rw [e1]
    rw [a1] at HI
    clear a1 e1 h HA HW
    go_enter Try.func50, Try.ntmps50
    go_wp2_with (go_at_call 90; refine (HI.out _).mono ?_; rintro e w' ⟨rfl, rfl⟩)
    go_ret2
    exact ⟨rfl, Below.refl _ _⟩
  have hn4 := inBd_if4 a1
  have HY : Hid ((∀ k, k < n → wgB L k = true) → arOk n L = true) := Lib.hid (arOk_yes a1)
  have HN : Hid (∀ k, k < n → wgB L k = false → arOk n L = false) := Lib.hid fun k hk hh => arOk_no hk hh
  obtain ⟨g, o, c, rfl, hg, _⟩ := h.cells (by omega)
  have HR : Hid (RWays w (.slice (some ⟨g, o, none⟩) n c) n L) := Lib.hid h
  rw [a1] at HI
  clear a1 h
  generalize arOk n L = T at *
  generalize apB n L = P at *
  go_enter Try.func50, Try.ntmps50
  go_wp2_with (go_at_call 90; refine (HI.out _).mono ?_; rintro e w' ⟨rfl, rfl⟩)
  go_loopw [12] (fun q wr => ∃ j : Nat, j ≤ n ∧ q = .int .i64 (j : Int) ∧ (∀ p, p < j → wgB L p = true) ∧ Below w.heap.size w wr) (fun q _ => n - (intOf q).toNat)
  case atStart => exact ⟨0, Nat.zero_le _, rfl, fun p hp => absurd hp (by omega), Below.refl _ _⟩
  case round =>
    obtain ⟨j, hj, rfl, hall, hb⟩ := hrel
    by_cases hlt : j < n
    · have i1 : (j : Int) < (n : Int) := by omega
      have i2 : 0 ≤ (j : Int) := by omega
      have hr := (HR.out.below hb).at hlt
      have c0 := hr.1
      have c1 := hr.2.1
      have c2 := hr.2.2
      have HWJ := Lib.hid (HW.out j hlt)
      have HNJ := Lib.hid (HN.out j hlt)
      obtain ⟨b, hbq⟩ : ∃ b, wgB L j = b := ⟨_, rfl⟩
      rw [hbq] at HWJ
      have HBQ := Lib.hid hbq
      generalize (wg L j).1 = x at *
      generalize (wg L j).2.1 = y at *
      generalize (wg L j).2.2 = s at *
      have HB1 : Hid (Below w.heap.size w (wr.alloc (.cells #[.int .i64 x, .int .i64 y, .string s] 33))) := Lib.hid (hb.alloc hb.size _)
      have HALL := Lib.hid hall
      clear hbq hr hall hb
      go_wp2_with fail
      refine (HWJ.out _).mono ?_
      rintro e w3 ⟨rfl, hb3⟩
      have HB3 := Lib.hid (HB1.out.trans (hb3.mono HB1.out.size))
      clear hb3 c0 c1 c2
      rcases b with _ | _
      · have HT := Lib.hid (HNJ.out HBQ.out)
        go_wp2_with fail
        go_ret2
        exact ⟨by rw [HT.out]; rfl, HB3.out⟩
      · clear HNJ
        go_wp2_with fail
        go_roundw
        case rel => exact ⟨j + 1, by omega, by go_num, fun p hp => by
          rcases Nat.lt_or_ge p j with h | h
          · exact HALL.out p h
          · obtain rfl : p = j := by omega
            exact HBQ.out, HB3.out⟩
        case measure => first | (simp [intOf]; done) | (simp [intOf]; omega)
    · obtain rfl : j = n := by omega
      have HT := Lib.hid (HY.out hall)
      have HB := Lib.hid hb
      clear hall hb
      go_wp2_with fail
      refine (HA.out _ HB.out).mono ?_
      rintro e w3 ⟨rfl, hb3⟩
      have HB3 := Lib.hid (HB.out.trans (hb3.mono HB.out.size))
      clear hb3
      go_wp2_with fail
      go_ret2
      exact ⟨by rw [HT.out]; rfl, HB3.out⟩
end Go.Proofs.Ytahnknbggacndaa
