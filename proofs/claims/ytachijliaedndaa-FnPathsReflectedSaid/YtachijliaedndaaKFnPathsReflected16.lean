/- Pack 16 of what FnPathsReflected needs: ReMath, ReMath2. -/
import Derived.Test.YtachijliaedndaaKFnPathsReflected15
/- Paths reflected: heights, ends, and that they come back. -/
namespace Go.Proofs.Ytachijliaedndaa
open Go.RowKit
set_option linter.unusedVariables false
theorem faGo_no {s : ByteArray} {h : Int} : ∀ n k, faGo s h n k = -1 → ∀ j, k ≤ j → j < k + n → hAt s j ≠ h
  | 0, k, _, j, h1, h2 => by omega
  | n + 1, k, e, j, h1, h2 => by
    rw [faGo] at e
    split at e
    · omega
    · next hne =>
      by_cases x : j = k
      · subst x; exact hne
      · exact faGo_no n (k + 1) e j (by omega) (by omega)
theorem fagGo_hit {s : ByteArray} {h : Int} : ∀ n k (m : Nat), faGo s h n k = (m : Int) → k ≤ m ∧ m < k + n ∧ hAt s m = h ∧ ∀ j, k ≤ j → j < m → hAt s j ≠ h
  | 0, k, m, e => by have : (-1 : Int) = (m : Int) := e; omega
  | n + 1, k, m, e => by
    rw [faGo] at e
    split at e
    · next he =>
      obtain rfl : k = m := by omega
      exact ⟨Nat.le_refl _, by omega, he, fun j h1 h2 => by omega⟩
    · next hne =>
      obtain ⟨a1, a2, a3, a4⟩ := fagGo_hit n (k + 1) m e
      refine ⟨by omega, by omega, a3, fun j h1 h2 => ?_⟩
      by_cases x : j = k
      · subst x; exact hne
      · exact a4 j (by omega) h2
theorem fa_hit {s : ByteArray} {h : Int} (h0 : 0 ≤ faZ s h) : ∃ m : Nat, faZ s h = (m : Int) ∧ m ≤ s.size ∧ hAt s m = h ∧ ∀ j, j < m → hAt s j ≠ h := by
  obtain ⟨m, hm⟩ : ∃ m : Nat, faZ s h = (m : Int) := ⟨(faZ s h).toNat, by omega⟩
  obtain ⟨a1, a2, a3, a4⟩ := fagGo_hit _ _ m hm
  exact ⟨m, hm, by omega, a3, fun j hj => a4 j (by omega) hj⟩
theorem fa_is {s : ByteArray} {h : Int} {m : Nat} (hm : m ≤ s.size) (he : hAt s m = h) (hno : ∀ j, j < m → hAt s j ≠ h) : faZ s h = (m : Int) := by
  by_cases h0 : 0 ≤ faZ s h
  · obtain ⟨m', e, b1, b2, b3⟩ := fa_hit h0
    rw [e]
    rcases Nat.lt_trichotomy m m' with x | x | x
    · exact absurd he (b3 m x)
    · rw [x]
    · exact absurd b2 (hno m' x)
  · have hb := (faZ_bd s h).1
    have e : faGo s h (s.size + 1) 0 = -1 := by show faZ s h = -1; omega
    exact absurd he (faGo_no _ _ e m (by omega) (by omega))
theorem laTo_hit {s : ByteArray} {h : Int} : ∀ k (m : Nat), laTo s h k = (m : Int) → m < k ∧ hAt s m = h ∧ ∀ j, m < j → j < k → hAt s j ≠ h
  | 0, m, e => by have : (-1 : Int) = (m : Int) := e; omega
  | k + 1, m, e => by
    rw [laTo] at e
    split at e
    · next he =>
      obtain rfl : k = m := by omega
      exact ⟨by omega, he, fun j h1 h2 => by omega⟩
    · next hne =>
      obtain ⟨a1, a2, a3⟩ := laTo_hit k m e
      refine ⟨by omega, a2, fun j h1 h2 => ?_⟩
      by_cases x : j = k
      · subst x; exact hne
      · exact a3 j h1 (by omega)
theorem laTo_none {s : ByteArray} {h : Int} : ∀ k, laTo s h k = -1 → ∀ j, j < k → hAt s j ≠ h
  | 0, _, j, hj => by omega
  | k + 1, e, j, hj => by
    rw [laTo] at e
    split at e
    · omega
    · next hne =>
      by_cases x : j = k
      · subst x; exact hne
      · exact laTo_none k e j (by omega)
theorem la_hit {s : ByteArray} {h : Int} (h0 : 0 ≤ laZ s h) : ∃ m : Nat, laZ s h = (m : Int) ∧ m ≤ s.size ∧ hAt s m = h ∧ ∀ j, m < j → j ≤ s.size → hAt s j ≠ h := by
  obtain ⟨m, hm⟩ : ∃ m : Nat, laZ s h = (m : Int) := ⟨(laZ s h).toNat, by omega⟩
  obtain ⟨a1, a2, a3⟩ := laTo_hit _ m hm
  exact ⟨m, hm, by omega, a2, fun j h1 h2 => a3 j h1 (by omega)⟩
/-- there is a first one where there is a last one -/
theorem fa_la (s : ByteArray) (h : Int) : 0 ≤ faZ s h ↔ 0 ≤ laZ s h := by
  constructor
  · intro h0
    obtain ⟨m, e, b1, b2, _⟩ := fa_hit h0
    by_cases h1 : 0 ≤ laZ s h
    · exact h1
    · have hb := laTo_bd s h (s.size + 1)
      have e : laTo s h (s.size + 1) = -1 := by have : laZ s h = laTo s h (s.size + 1) := rfl; omega
      exact absurd b2 (laTo_none _ e m (by omega))
  · intro h0
    obtain ⟨m, e, b1, b2, _⟩ := la_hit h0
    by_cases h1 : 0 ≤ faZ s h
    · exact h1
    · have hb := (faZ_bd s h).1
      have e : faGo s h (s.size + 1) 0 = -1 := by show faZ s h = -1; omega
      exact absurd b2 (faGo_no _ _ e m (by omega) (by omega))
theorem laOk_faOk (s : ByteArray) (h : Int) : laOk s h = faOk s h := by
  unfold laOk faOk
  rw [show decide (0 ≤ laZ s h) = decide (0 ≤ faZ s h) by rw [Bool.eq_iff_iff, decide_eq_true_iff, decide_eq_true_iff]; exact (fa_la s h).symm]
theorem ext_list (s : ByteArray) (a b : Nat) : (s.extract a b).data.toList = (s.data.toList.drop a).take (b - a) := by simp [ByteArray.data_extract]
theorem cat_list (a b : ByteArray) : (a ++ b).data.toList = a.data.toList ++ b.data.toList := by simp [ByteArray.data_append]
theorem turn_list (s : ByteArray) : (turnS s).data.toList = turnL s.data.toList := by unfold turnS; rw [strOf_list]
theorem list_len (s : ByteArray) : s.data.toList.length = s.size := by simp
theorem list_inj {a b : ByteArray} (h : a.data.toList = b.data.toList) : a = b := ByteArray.ext (Array.ext' h)
theorem turn_turn {l : List UInt8} (h : ∀ x ∈ l, isUD x = true) : turnL (turnL l) = l := by
  induction l with
  | nil => rfl
  | cons c l ih =>
    have hc := h c (List.mem_cons_self ..)
    show turnC (turnC c) :: turnL (turnL l) = c :: l
    rw [ih fun x hx => h x (List.mem_cons_of_mem _ hx)]
    congr 1
    unfold isUD at hc
    rw [Bool.or_eq_true, beq_iff_eq, beq_iff_eq] at hc
    rcases hc with e | e <;> subst e <;> rfl
def refB (s : ByteArray) (m : Nat) : ByteArray := turnS (s.extract 0 m) ++ s.extract m s.size
def refH (s : ByteArray) (m : Nat) : ByteArray := s.extract 0 m ++ turnS (s.extract m s.size)
theorem refH_list (s : ByteArray) (m : Nat) : (refH s m).data.toList = s.data.toList.take m ++ turnL (s.data.toList.drop m) := by
  unfold refH
  rw [cat_list, turn_list, ext_list, ext_list, List.drop_zero, Nat.sub_zero, List.take_of_length_le (l := s.data.toList.drop m) (by rw [List.length_drop, list_len]; omega)]
theorem refB_list (s : ByteArray) (m : Nat) : (refB s m).data.toList = turnL (s.data.toList.take m) ++ s.data.toList.drop m := by
  unfold refB
  rw [cat_list, turn_list, ext_list, ext_list, List.drop_zero, Nat.sub_zero, List.take_of_length_le (l := s.data.toList.drop m) (by rw [List.length_drop, list_len]; omega)]
theorem ref_size {l : List UInt8} {s r : ByteArray} (h : r.data.toList.length = s.data.toList.length) : r.size = s.size := by rw [← list_len, ← list_len s]; exact h
theorem refH_size (s : ByteArray) (m : Nat) : (refH s m).size = s.size := ref_size (l := []) (by rw [refH_list, List.length_append, turnL_length, List.length_take, List.length_drop]; omega)
theorem refB_size (s : ByteArray) (m : Nat) : (refB s m).size = s.size := ref_size (l := []) (by rw [refB_list, List.length_append, turnL_length, List.length_take, List.length_drop]; omega)
def hL (l : List UInt8) (k : Nat) : Int := ((l.take k).map stepI).sum
theorem hL_at (s : ByteArray) (k : Nat) : hAt s k = hL s.data.toList k := rfl
theorem hL_app (a b : List UInt8) (k : Nat) : hL (a ++ b) (a.length + k) = hL a a.length + hL b k := by
  unfold hL
  rw [List.take_append, List.take_of_length_le (by omega), List.map_append, List.sum_append, show a.length + k - a.length = k by omega, List.take_of_length_le (Nat.le_refl _)]
theorem hL_low (a b : List UInt8) {k : Nat} (h : k ≤ a.length) : hL (a ++ b) k = hL a k := by
  unfold hL; rw [List.take_append_of_le_length h]
theorem hL_turn {l : List UInt8} (h : ∀ x ∈ l, isUD x = true) (k : Nat) : hL (turnL l) k = - hL l k := by
  unfold hL
  have : (turnL l).take k = turnL (l.take k) := by unfold turnL; rw [List.map_take]
  rw [this]
  exact map_step_turn _ fun x hx => h x (List.mem_of_mem_take hx)
theorem hL_split (l : List UInt8) (m k : Nat) (hm : m ≤ l.length) : hL l (m + k) = hL l m + hL (l.drop m) k := by
  have e : l.take m ++ l.drop m = l := List.take_append_drop m l
  have h1 := hL_app (l.take m) (l.drop m) k
  rw [e, List.length_take, Nat.min_eq_left hm] at h1
  rw [h1]
  congr 1
  unfold hL
  rw [List.take_take, Nat.min_self]
theorem hL_take (l : List UInt8) {m k : Nat} (h : k ≤ m) : hL (l.take m) k = hL l k := by
  unfold hL; rw [List.take_take, Nat.min_eq_left h]
theorem refH_low {s : ByteArray} {m : Nat} (hu : ∀ x ∈ s.data.toList, isUD x = true) (hm : m ≤ s.size) {j : Nat} (h : j ≤ m) : hAt (refH s m) j = hAt s j := by
  rw [hL_at, hL_at, refH_list, hL_low _ _ (by rw [List.length_take, list_len]; omega), hL_take _ h]
theorem refH_high {s : ByteArray} {m : Nat} (hu : ∀ x ∈ s.data.toList, isUD x = true) (hm : m ≤ s.size) {j : Nat} (h : m ≤ j) (h2 : j ≤ s.size) : hAt (refH s m) j = 2 * hAt s m - hAt s j := by
  obtain ⟨k, rfl⟩ : ∃ k, j = m + k := ⟨j - m, by omega⟩
  have hl : (s.data.toList.take m).length = m := by rw [List.length_take, list_len]; omega
  have h1 := hL_app (s.data.toList.take m) (turnL (s.data.toList.drop m)) k
  rw [hl, hL_take _ (Nat.le_refl _), hL_turn fun x hx => hu x (List.mem_of_mem_drop hx)] at h1
  have h3 := hL_split s.data.toList m k (by rw [list_len]; exact hm)
  rw [hL_at, hL_at, hL_at, refH_list]
  omega
theorem refB_low {s : ByteArray} {m : Nat} (hu : ∀ x ∈ s.data.toList, isUD x = true) (hm : m ≤ s.size) {j : Nat} (h : j ≤ m) : hAt (refB s m) j = - hAt s j := by
  rw [hL_at, hL_at, refB_list, hL_low _ _ (by rw [turnL_length, List.length_take, list_len]; omega), hL_turn (fun x hx => hu x (List.mem_of_mem_take hx)), hL_take _ h]
theorem refB_high {s : ByteArray} {m : Nat} (hu : ∀ x ∈ s.data.toList, isUD x = true) (hm : m ≤ s.size) {j : Nat} (h : m ≤ j) (h2 : j ≤ s.size) : hAt (refB s m) j = hAt s j - 2 * hAt s m := by
  obtain ⟨k, rfl⟩ : ∃ k, j = m + k := ⟨j - m, by omega⟩
  have hl : (turnL (s.data.toList.take m)).length = m := by rw [turnL_length, List.length_take, list_len]; omega
  have h1 := hL_app (turnL (s.data.toList.take m)) (s.data.toList.drop m) k
  rw [hl, hL_turn (fun x hx => hu x (List.mem_of_mem_take hx)), hL_take _ (Nat.le_refl _)] at h1
  have h3 := hL_split s.data.toList m k (by rw [list_len]; exact hm)
  rw [hL_at, hL_at, hL_at, refB_list]
  omega
theorem refH_twice {s : ByteArray} {m : Nat} (hu : ∀ x ∈ s.data.toList, isUD x = true) (hm : m ≤ s.size) : refH (refH s m) m = s := by
  apply list_inj
  have hl : (s.data.toList.take m).length = m := by rw [List.length_take, list_len]; omega
  rw [refH_list, refH_list, List.take_left' hl, List.drop_left' hl, turn_turn (fun x hx => hu x (List.mem_of_mem_drop hx)), List.take_append_drop]
theorem refB_twice {s : ByteArray} {m : Nat} (hu : ∀ x ∈ s.data.toList, isUD x = true) (hm : m ≤ s.size) : refB (refB s m) m = s := by
  apply list_inj
  have hl : (turnL (s.data.toList.take m)).length = m := by rw [turnL_length, List.length_take, list_len]; omega
  rw [refB_list, refB_list, List.take_left' hl, List.drop_left' hl, turn_turn (fun x hx => hu x (List.mem_of_mem_take hx)), List.take_append_drop]
theorem refH_ud {s : ByteArray} {m : Nat} (hu : ∀ x ∈ s.data.toList, isUD x = true) (hm : m ≤ s.size) : ∀ x ∈ (refH s m).data.toList, isUD x = true := fun x hx => by
  rw [refH_list, List.mem_append] at hx
  rcases hx with hx | hx
  · exact hu x (List.mem_of_mem_take hx)
  · obtain ⟨y, _, rfl⟩ := List.mem_map.1 hx
    exact isUD_turn y
theorem refB_ud {s : ByteArray} {m : Nat} (hu : ∀ x ∈ s.data.toList, isUD x = true) (hm : m ≤ s.size) : ∀ x ∈ (refB s m).data.toList, isUD x = true := fun x hx => by
  rw [refB_list, List.mem_append] at hx
  rcases hx with hx | hx
  · obtain ⟨y, _, rfl⟩ := List.mem_map.1 hx
    exact isUD_turn y
  · exact hu x (List.mem_of_mem_drop hx)
theorem faOk_of {s : ByteArray} {h : Int} (hok : faOk s h = true) : pathB s = true ∧ (-40 ≤ h ∧ h ≤ 40) ∧ ∃ m : Nat, faZ s h = (m : Int) ∧ m ≤ s.size ∧ hAt s m = h ∧ ∀ j, j < m → hAt s j ≠ h := by
  unfold faOk at hok
  rw [Bool.and_eq_true, Bool.and_eq_true, decide_eq_true_iff] at hok
  refine ⟨hok.1.1, ?_, fa_hit hok.2⟩
  have := hok.1.2
  unfold inB at this
  rw [Bool.and_eq_true, decide_eq_true_iff, decide_eq_true_iff] at this
  exact this
theorem faOk_mk {s : ByteArray} {h : Int} {m : Nat} (hp : pathB s = true) (hh : -40 ≤ h ∧ h ≤ 40) (e : faZ s h = (m : Int)) : faOk s h = true := by
  unfold faOk inB
  rw [hp, e, decide_eq_true hh.1, decide_eq_true hh.2, decide_eq_true (Int.natCast_nonneg m)]
  rfl
theorem ud_of {s : ByteArray} (hp : pathB s = true) : ∀ x ∈ s.data.toList, isUD x = true := by
  unfold pathB at hp
  rw [Bool.and_eq_true, List.all_eq_true] at hp
  exact hp.2
theorem path40 {s : ByteArray} (hp : pathB s = true) : s.size ≤ 40 := ((pathB_iff s).1 hp).1
/-- reflected behind the first time at h -/
theorem rh_facts {s : ByteArray} {h : Int} (hok : faOk s h = true) : faOk (rhV s h) h = true ∧ rhV (rhV s h) h = s ∧ (rhV s h).size = s.size ∧ pathB (rhV s h) = true ∧ hAt (rhV s h) s.size = 2 * h - hAt s s.size := by
  obtain ⟨hp, hh, m, e, hm, he, hno⟩ := faOk_of hok
  have hu := ud_of hp
  have e1 : rhV s h = refH s m := by unfold rhV refH; rw [if_pos hok, e, Int.toNat_natCast]
  have hsz := refH_size s m
  have hp2 : pathB (refH s m) = true := pathB_of _ (by rw [hsz]; exact path40 hp) (refH_ud hu hm)
  have e2 : faZ (refH s m) h = (m : Int) := fa_is (by rw [hsz]; exact hm) (by rw [refH_low hu hm (Nat.le_refl _)]; exact he) (fun j hj => by rw [refH_low hu hm (by omega)]; exact hno j hj)
  have hok2 := faOk_mk hp2 hh e2
  rw [e1]
  refine ⟨hok2, ?_, hsz, hp2, ?_⟩
  · have e3 : rhV (refH s m) h = refH (refH s m) m := by unfold rhV; rw [if_pos hok2, e2, Int.toNat_natCast]; rfl
    rw [e3, refH_twice hu hm]
  · rw [refH_high hu hm hm (Nat.le_refl _), he]
/-- reflected before the first time at h -/
theorem rb_facts {s : ByteArray} {h : Int} (hok : faOk s h = true) : faOk (rbV s h) (-h) = true ∧ rbV (rbV s h) (-h) = s ∧ (rbV s h).size = s.size ∧ pathB (rbV s h) = true ∧ hAt (rbV s h) s.size = hAt s s.size - 2 * h := by
  obtain ⟨hp, hh, m, e, hm, he, hno⟩ := faOk_of hok
  have hu := ud_of hp
  have e1 : rbV s h = refB s m := by unfold rbV refB; rw [if_pos hok, e, Int.toNat_natCast]
  have hsz := refB_size s m
  have hp2 : pathB (refB s m) = true := pathB_of _ (by rw [hsz]; exact path40 hp) (refB_ud hu hm)
  have e2 : faZ (refB s m) (-h) = (m : Int) := fa_is (by rw [hsz]; exact hm) (by rw [refB_low hu hm (Nat.le_refl _), he]) (fun j hj => by rw [refB_low hu hm (by omega)]; have := hno j hj; omega)
  have hok2 := faOk_mk hp2 (show -40 ≤ -h ∧ -h ≤ 40 by omega) e2
  rw [e1]
  refine ⟨hok2, ?_, hsz, hp2, ?_⟩
  · have e3 : rbV (refB s m) (-h) = refB (refB s m) m := by unfold rbV; rw [if_pos hok2, e2, Int.toNat_natCast]; rfl
    rw [e3, refB_twice hu hm]
  · rw [refB_high hu hm hm (Nat.le_refl _), he]
/-- the first and the last time at h -/
theorem fl_facts {s : ByteArray} {h : Int} (hok : faOk s h = true) : ∃ f l : Nat, faV s h = (f : Int) ∧ laV s h = (l : Int) ∧ f ≤ l ∧ l ≤ s.size ∧ hAt s f = h ∧ hAt s l = h ∧ ∀ j, j ≤ s.size → hAt s j = h → f ≤ j ∧ j ≤ l := by
  obtain ⟨hp, hh, f, e, hm, he, hno⟩ := faOk_of hok
  have hla : laOk s h = true := by rw [laOk_faOk]; exact hok
  have h0 : 0 ≤ laZ s h := (fa_la s h).1 (by rw [e]; exact Int.natCast_nonneg f)
  obtain ⟨l, e2, h1, h2, h3⟩ := la_hit h0
  have hx : ∀ j, j ≤ s.size → hAt s j = h → f ≤ j ∧ j ≤ l := fun j hj hjh => by
    constructor
    · by_cases x : f ≤ j
      · exact x
      · exact absurd hjh (hno j (by omega))
    · by_cases x : j ≤ l
      · exact x
      · exact absurd hjh (h3 j (by omega) hj)
  exact ⟨f, l, by unfold faV; rw [if_pos hok, e], by unfold laV; rw [if_pos hla, e2], (hx l h1 h2).1, h1, he, h2, hx⟩
end Go.Proofs.Ytachijliaedndaa

/- The pair of a bad closed path; how often a path is at a height. -/
namespace Go.Proofs.Ytachijliaedndaa
open Go.RowKit
set_option linter.unusedVariables false
theorem prOk_of {s : ByteArray} (h : prOk s = true) : pathB s = true ∧ hAt s s.size = 0 ∧ faOk s (-1) = true ∧ prV s = rbV s (-1) := by
  have h' := h
  unfold prOk at h
  rw [Bool.and_eq_true, Bool.and_eq_true, decide_eq_true_iff, decide_eq_true_iff] at h
  have h0 := faZ_low s h.2
  have hok : faOk s (-1) = true := by
    obtain ⟨m, e, _⟩ := fa_hit h0
    exact faOk_mk h.1.1 ⟨by omega, by omega⟩ e
  exact ⟨h.1.1, h.1.2, hok, by unfold prV rbV; rw [if_pos h', if_pos hok]⟩
/-- the pair goes to 2, is as long, and comes back -/
theorem pr_facts {s : ByteArray} (h : prOk s = true) : faOk (prV s) 1 = true ∧ rbV (prV s) 1 = s ∧ (prV s).size = s.size ∧ pathB (prV s) = true ∧ hAt (prV s) s.size = 2 := by
  obtain ⟨hp, h0, hok, e⟩ := prOk_of h
  obtain ⟨a1, a2, a3, a4, a5⟩ := rb_facts hok
  rw [e]
  exact ⟨a1, a2, a3, a4, by rw [a5, h0]; rfl⟩
theorem tt_mono (s : ByteArray) (h : Int) {j : Nat} : ∀ k, j ≤ k → timesTo s h j ≤ timesTo s h k
  | 0, hj => by obtain rfl : j = 0 := by omega
                exact Nat.le_refl _
  | k + 1, hj => by
    by_cases e : j = k + 1
    · rw [e]; exact Nat.le_refl _
    · have := tt_mono s h (j := j) k (by omega)
      rw [timesTo]; split <;> omega
theorem tt_hit {s : ByteArray} {h : Int} {j : Nat} (e : hAt s j = h) : timesTo s h (j + 1) = timesTo s h j + 1 := by rw [timesTo, if_pos e]
theorem tt_pos {s : ByteArray} {h : Int} {j k : Nat} (e : hAt s j = h) (hj : j < k) : 1 ≤ timesTo s h k := by
  have h1 := tt_hit e
  have h2 := tt_mono s h (j := j + 1) k hj
  omega
theorem tt_two {s : ByteArray} {h : Int} {i j k : Nat} (ei : hAt s i = h) (ej : hAt s j = h) (hij : i < j) (hj : j < k) : 2 ≤ timesTo s h k := by
  have h1 := tt_pos ei hij
  have h2 := tt_hit ej
  have h3 := tt_mono s h (j := j + 1) k hj
  omega
theorem tt_none {s : ByteArray} {h : Int} : ∀ k, (∀ j, j < k → hAt s j ≠ h) → timesTo s h k = 0
  | 0, _ => rfl
  | k + 1, hno => by rw [timesTo, if_neg (hno k (by omega)), tt_none k (fun j hj => hno j (by omega))]
theorem tt_one {s : ByteArray} {h : Int} {f : Nat} : ∀ k, (∀ j, j < k → hAt s j = h → j = f) → timesTo s h k ≤ 1
  | 0, _ => by simp [timesTo]
  | k + 1, hx => by
    rw [timesTo]
    split
    · next e =>
      have hk := hx k (by omega) e
      have := tt_none (s := s) (h := h) k (fun j hj ej => by have := hx j (by omega) ej; omega)
      omega
    · exact tt_one k (fun j hj ej => hx j (by omega) ej)
/-- once at a height: the first and the last time are one -/
theorem tt_facts {s : ByteArray} {h : Int} (hok : faOk s h = true) : 1 ≤ timesTo s h (s.size + 1) ∧ (timesTo s h (s.size + 1) = 1 ↔ faV s h = laV s h) := by
  obtain ⟨f, l, e1, e2, h1, h2, h3, h4, h5⟩ := fl_facts hok
  refine ⟨tt_pos h3 (by omega), ?_⟩
  rw [e1, e2]
  constructor
  · intro h6
    by_cases x : f = l
    · rw [x]
    · have := tt_two h3 h4 (show f < l by omega) (show l < s.size + 1 by omega)
      omega
  · intro h6
    have hfl : f = l := by omega
    have := tt_one (s := s) (h := h) (f := f) (s.size + 1) (fun j hj ej => by have := h5 j (by omega) ej; omega)
    have := tt_pos h3 (show f < s.size + 1 by omega)
    omega
end Go.Proofs.Ytachijliaedndaa
