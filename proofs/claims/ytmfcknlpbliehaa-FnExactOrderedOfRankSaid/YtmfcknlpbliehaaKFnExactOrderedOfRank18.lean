/- Pack 18 of what FnExactOrderedOfRank needs: VoMath, VoS. -/
import Derived.Test.YtmfcknlpbliehaaKFnExactOrderedOfRank17
/- Votes for four candidates: plain bytes. -/
namespace Go.Proofs.Ytmfcknlpbliehaa
open Go.RowKit
set_option linter.unusedVariables false
def isV (c : UInt8) : Bool := decide (97 ≤ c.toNat) && decide (c.toNat ≤ 100)
def votB (s : ByteArray) : Bool := decide (s.size ≤ 16) && s.data.toList.all isV
/-- the candidate of vote k -/
def cd (s : ByteArray) (k : Nat) : Nat := (s.data.toList.getD k 0).toNat - 97
theorem votB_iff (s : ByteArray) : votB s = true ↔ s.size ≤ 16 ∧ ∀ k (h : k < s.size), isV s[k] = true := by
  unfold votB
  rw [Bool.and_eq_true, decide_eq_true_iff, List.all_eq_true]
  constructor
  · rintro ⟨h1, h2⟩
    exact ⟨h1, fun k h => h2 _ (by
      have : s[k] = s.data.toList[k]'(by simpa using h) := rfl
      rw [this]; exact List.getElem_mem _)⟩
  · rintro ⟨h1, h2⟩
    refine ⟨h1, fun x hx => ?_⟩
    obtain ⟨i, hi, rfl⟩ := List.mem_iff_getElem.1 hx
    exact h2 i (by simpa using hi)
theorem isV_iff (c : UInt8) : isV c = true ↔ 97 ≤ c.toNat ∧ c.toNat ≤ 100 := by
  unfold isV; rw [Bool.and_eq_true, decide_eq_true_iff, decide_eq_true_iff]
theorem getD_byte (s : ByteArray) (k : Nat) (h : k < s.size) : s.data.toList.getD k 0 = s[k] := by
  have h' : k < s.data.toList.length := by simpa using h
  rw [List.getD_eq_getElem?_getD, List.getElem?_eq_getElem h']; rfl
theorem cd_at {s : ByteArray} (hv : votB s = true) {k : Nat} (h : k < s.size) : ((s[k].toNat : Nat) : Int) = 97 + (cd s k : Nat) ∧ cd s k < 4 := by
  have h1 := (isV_iff _).1 (((votB_iff s).1 hv).2 k h)
  unfold cd
  rw [getD_byte s k h]
  omega
/-- how many of the first k votes are for c -/
def vc (s : ByteArray) (c : Nat) : Nat → Nat
  | 0 => 0
  | k + 1 => vc s c k + (if cd s k = c then 1 else 0)
theorem vc_le (s : ByteArray) (c : Nat) : ∀ k, vc s c k ≤ k
  | 0 => Nat.le_refl _
  | k + 1 => by
    have := vc_le s c k
    rw [vc]; split <;> omega
theorem vc_hit {s : ByteArray} {c k : Nat} (h : cd s k = c) : vc s c (k + 1) = vc s c k + 1 := by rw [vc, if_pos h]
theorem vc_miss {s : ByteArray} {c k : Nat} (h : ¬ cd s k = c) : vc s c (k + 1) = vc s c k := by rw [vc, if_neg h]; rfl
theorem vc_sum {s : ByteArray} : ∀ k, (∀ j, j < k → cd s j < 4) → vc s 0 k + vc s 1 k + vc s 2 k + vc s 3 k = k
  | 0, _ => rfl
  | k + 1, h => by
    have h1 := vc_sum k (fun j hj => h j (by omega))
    have h2 := h k (by omega)
    rw [vc, vc, vc, vc]
    have : cd s k = 0 ∨ cd s k = 1 ∨ cd s k = 2 ∨ cd s k = 3 := by omega
    rcases this with e | e | e | e <;> rw [e] <;> simp <;> omega
theorem vc_mono (s : ByteArray) (c : Nat) (k : Nat) : vc s c k ≤ vc s c (k + 1) := by rw [vc]; omega
def vcL (s : ByteArray) (k : Nat) : List Int := [((vc s 0 k : Nat) : Int), ((vc s 1 k : Nat) : Int), ((vc s 2 k : Nat) : Int), ((vc s 3 k : Nat) : Int)]
theorem vcL_len (s : ByteArray) (k : Nat) : (vcL s k).length = 4 := rfl
theorem vcL_zero (s : ByteArray) : vcL s 0 = List.replicate 4 0 := rfl
theorem vcL_get (s : ByteArray) (k c : Nat) (h : c < 4) : (vcL s k).getD c 0 = ((vc s c k : Nat) : Int) := by
  have : c = 0 ∨ c = 1 ∨ c = 2 ∨ c = 3 := by omega
  rcases this with e | e | e | e <;> subst e <;> rfl
theorem vcL_set (s : ByteArray) (k : Nat) (h : cd s k < 4) : (vcL s k).set (cd s k) (((vc s (cd s k) k : Nat) : Int) + 1) = vcL s (k + 1) := by
  unfold vcL
  have : cd s k = 0 ∨ cd s k = 1 ∨ cd s k = 2 ∨ cd s k = 3 := by omega
  rcases this with e | e | e | e <;> simp [vc, e]
theorem cd_pre (s : ByteArray) (i k : Nat) (h : k < i) : cd (s.extract 0 i) k = cd s k := by
  unfold cd
  congr 2
  rw [List.getD_eq_getElem?_getD, List.getD_eq_getElem?_getD]
  congr 1
  simp [ByteArray.data_extract]
  rw [List.getElem?_take, if_pos h]
  simp
theorem vc_pre (s : ByteArray) (c i : Nat) : ∀ k, k ≤ i → vc (s.extract 0 i) c k = vc s c k
  | 0, _ => rfl
  | k + 1, h => by rw [vc, vc, vc_pre s c i k (by omega), cd_pre s i k (by omega)]
theorem vcL_pre (s : ByteArray) (i k : Nat) (h : k ≤ i) : vcL (s.extract 0 i) k = vcL s k := by
  unfold vcL
  rw [vc_pre s 0 i k h, vc_pre s 1 i k h, vc_pre s 2 i k h, vc_pre s 3 i k h]
theorem pre_size (s : ByteArray) (i : Nat) (h : i ≤ s.size) : (s.extract 0 i).size = i := by simp; omega
theorem pre_get (s : ByteArray) (i k : Nat) (h : k < (s.extract 0 i).size) (h2 : k < s.size) : (s.extract 0 i)[k] = s[k] := by
  simp [ByteArray.getElem_extract]
theorem votB_pre {s : ByteArray} (h : votB s = true) {i : Nat} (hi : i ≤ s.size) : votB (s.extract 0 i) = true := by
  have h1 := (votB_iff s).1 h
  refine (votB_iff _).2 ⟨by rw [pre_size s i hi]; omega, fun k hk => ?_⟩
  have hk2 : k < s.size := by rw [pre_size s i hi] at hk; omega
  rw [pre_get s i k hk hk2]
  exact h1.2 k hk2
theorem votB_lt {s : ByteArray} (h : votB s = true) (j : Nat) (hj : j < s.size) : cd s j < 4 := (cd_at h hj).2
theorem vcS {s : ByteArray} (h : votB s = true) {k : Nat} (hk : k ≤ s.size) : vc s 0 k + vc s 1 k + vc s 2 k + vc s 3 k = k := vc_sum k (fun j hj => votB_lt h j (by omega))
/-- the greatest of numbers, at least 0 -/
def moTo (xs : List Int) : Nat → Int
  | 0 => 0
  | k + 1 => max (moTo xs k) (xs.getD k 0)
/-- the letters of the first k with the number m -/
def wiTo (xs : List Int) (m : Int) : Nat → ByteArray
  | 0 => ⟨#[]⟩
  | k + 1 => if xs.getD k 0 = m then wiTo xs m k ++ ⟨#[UInt8.ofNat (97 + k)]⟩ else wiTo xs m k
theorem wiTo_size (xs : List Int) (m : Int) : ∀ k, (wiTo xs m k).size ≤ k
  | 0 => Nat.le_refl _
  | k + 1 => by
    have := wiTo_size xs m k
    rw [wiTo]; split
    · rw [ByteArray.size_append]; exact Nat.succ_le_succ this
    · omega
def wiV (xs : List Int) : ByteArray := wiTo xs (moTo xs 4) 4
def leL (s : ByteArray) : Nat → List ByteArray
  | 0 => []
  | k + 1 => leL s k ++ [wiV (vcL s (k + 1))]
theorem leL_len (s : ByteArray) : ∀ k, (leL s k).length = k
  | 0 => rfl
  | k + 1 => by rw [leL, List.length_append, leL_len s k]; rfl
/-- no candidate has more than the one before -/
def faB (s : ByteArray) (k : Nat) : Bool := decide (vc s 1 k ≤ vc s 0 k) && decide (vc s 2 k ≤ vc s 1 k) && decide (vc s 3 k ≤ vc s 2 k)
/-- the least number of the first k votes behind which it is not so, or 0 -/
def foTo (s : ByteArray) : Nat → Nat
  | 0 => 0
  | k + 1 => if foTo s k = 0 then (if faB s (k + 1) = true then 0 else k + 1) else foTo s k
theorem foTo_le (s : ByteArray) : ∀ k, foTo s k ≤ k
  | 0 => Nat.le_refl _
  | k + 1 => by
    have := foTo_le s k
    rw [foTo]; split
    · split <;> omega
    · omega
theorem fo_yes {s : ByteArray} {k : Nat} (h : foTo s k = 0) (hf : faB s (k + 1) = true) : foTo s (k + 1) = 0 := by rw [foTo, if_pos h, if_pos hf]
theorem fo_no {s : ByteArray} {k : Nat} (h : foTo s k = 0) (hf : faB s (k + 1) = false) : foTo s (k + 1) = k + 1 := by rw [foTo, if_pos h, if_neg (by simp [hf])]
theorem fo_stay {s : ByteArray} {k n : Nat} (h : ¬ foTo s k = 0) : ∀ n, k ≤ n → foTo s n = foTo s k := by
  intro n hn
  induction n with
  | zero => rw [show k = 0 by omega]
  | succ n ih =>
    by_cases e : k = n + 1
    · rw [e]
    · have := ih (by omega)
      rw [foTo, if_neg (by rw [this]; exact h), this]
theorem fo_back {s : ByteArray} {n : Nat} (h : foTo s n = 0) : ∀ k, k ≤ n → foTo s k = 0 := fun k hk => Classical.byContradiction fun hx => by
  have := fo_stay (n := n) hx n hk
  omega
theorem faB_zero (s : ByteArray) : faB s 0 = true := rfl
theorem fo_fall {s : ByteArray} {n : Nat} (h : foTo s n = 0) : faB s n = true := by
  cases n with
  | zero => rfl
  | succ n =>
    have h0 := fo_back h n (by omega)
    cases hf : faB s (n + 1) with
    | true => rfl
    | false => rw [fo_no h0 hf] at h; omega
theorem faB_iff (s : ByteArray) (k : Nat) : faB s k = true ↔ vc s 1 k ≤ vc s 0 k ∧ vc s 2 k ≤ vc s 1 k ∧ vc s 3 k ≤ vc s 2 k := by
  unfold faB; simp only [Bool.and_eq_true, decide_eq_true_iff]; exact ⟨fun h => ⟨h.1.1, h.1.2, h.2⟩, fun h => ⟨⟨h.1, h.2.1⟩, h.2.2⟩⟩
/-- with one more vote a candidate has more than the one before -/
theorem fa_over {s : ByteArray} {k : Nat} (hc : cd s k < 4) (hf : faB s k = true) : faB s (k + 1) = false ↔ 0 < cd s k ∧ vc s (cd s k) k = vc s (cd s k - 1) k := by
  have h1 := (faB_iff s k).1 hf
  rw [← Bool.not_eq_true, faB_iff, vc, vc, vc, vc]
  have : cd s k = 0 ∨ cd s k = 1 ∨ cd s k = 2 ∨ cd s k = 3 := by omega
  rcases this with e | e | e | e <;> rw [e] <;> simp <;> omega
def oB (s : ByteArray) : Bool := votB s && decide (foTo s s.size = 0)
end Go.Proofs.Ytmfcknlpbliehaa

/- The model's functions on votes. -/
namespace Go.Proofs.Ytmfcknlpbliehaa
open Go.RowKit
set_option linter.unusedVariables false
def UpV (s : ByteArray) (k : Nat) : Prop := ∀ j (h : j < s.size), j < k → isV s[j] = true
theorem UpV.zero (s : ByteArray) : UpV s 0 := fun _ _ h => absurd h (by omega)
theorem UpV.succ {s : ByteArray} {k : Nat} (h : UpV s k) (hk : k < s.size) (hu : isV s[k] = true) : UpV s (k + 1) := fun j hj hl => by
  by_cases e : j = k
  · subst e; exact hu
  · exact h j hj (by omega)
theorem UpV.full {s : ByteArray} {k : Nat} (h : UpV s k) (hk : k = s.size) (h16 : s.size ≤ 16) : votB s = true :=
  (votB_iff s).2 ⟨h16, fun j hj => h j hj (by omega)⟩
theorem votB_no {s : ByteArray} {k : Nat} (hk : k < s.size) (hu : isV s[k] = false) : votB s = false := by
  rw [Bool.eq_false_iff]
  intro h
  rw [((votB_iff s).1 h).2 k hk] at hu
  exact absurd hu (by simp)
theorem votB_long {s : ByteArray} (h : ¬ s.size ≤ 16) : votB s = false := by unfold votB; rw [decide_eq_false h]; rfl
/-- a new row with the counts of the first k votes -/
def CntNew (s : ByteArray) (w : World) (e : Ending) (w' : World) : Prop := ∃ v, e = .returned v ∧ IRow w' w.heap.size v (vcL s s.size) ∧ Below w.heap.size w w'
def f4 (x0 x1 x2 x3 : Int) : Bool := decide (x1 ≤ x0) && decide (x2 ≤ x1) && decide (x3 ≤ x2)
set_option maxRecDepth 100000 in
set_option maxHeartbeats 800000 in
theorem voFalls_any (v : Value) (x0 x1 x2 x3 : Int) (w : World) (h : RInts w v [x0, x1, x2, x3]) : Calls Try.prog 18 #[v] w fun e w' => e = .returned (.bool (f4 x0 x1 x2 x3)) ∧ Below w.heap.size w w' := by
  obtain ⟨g, o, c, rfl, hg, hcells⟩ := h.cells (by simp)
  have c0 := hcells 0 (by simp)
  have c1 := hcells 1 (by simp)
  have c2 := hcells 2 (by simp)
  have c3 := hcells 3 (by simp)
  simp at c0 c1 c2 c3
  clear hcells h
  have HF : Hid (f4 x0 x1 x2 x3 = (decide (x1 ≤ x0) && decide (x2 ≤ x1) && decide (x3 ≤ x2))) := Lib.hid rfl
  generalize f4 x0 x1 x2 x3 = fb at *
  by_cases h1 : x0 < x1
  · have HB : Hid (fb = false) := Lib.hid (by rw [HF.out, decide_eq_false (by omega)]; rfl)
    clear HF
    go_enter Try.func18, Try.ntmps18
    go_wp2
    refine wp_loop_rounds 1 ?_
    iterate 1 (rw [rounds_succ]; go_wp2; go_region; go_wp2)
    go_ret
    exact ⟨ret_bool HB.out.symm, below_drewN (Below.refl _ _) 1⟩
  · by_cases h2 : x1 < x2
    · have HB : Hid (fb = false) := Lib.hid (by rw [HF.out, decide_eq_false (show ¬ x2 ≤ x1 by omega), Bool.and_false]; rfl)
      clear HF
      go_enter Try.func18, Try.ntmps18
      go_wp2
      refine wp_loop_rounds 2 ?_
      iterate 2 (rw [rounds_succ]; go_wp2; go_region; go_wp2)
      go_ret
      exact ⟨ret_bool HB.out.symm, below_drewN (Below.refl _ _) 2⟩
    · by_cases h3 : x2 < x3
      · have HB : Hid (fb = false) := Lib.hid (by rw [HF.out, decide_eq_false (show ¬ x3 ≤ x2 by omega), Bool.and_false])
        clear HF
        go_enter Try.func18, Try.ntmps18
        go_wp2
        refine wp_loop_rounds 3 ?_
        iterate 3 (rw [rounds_succ]; go_wp2; go_region; go_wp2)
        go_ret
        exact ⟨ret_bool HB.out.symm, below_drewN (Below.refl _ _) 3⟩
      · have HB : Hid (fb = true) := Lib.hid (by rw [HF.out, decide_eq_true (show x1 ≤ x0 by omega), decide_eq_true (show x2 ≤ x1 by omega), decide_eq_true (show x3 ≤ x2 by omega)]; rfl)
        clear HF
        go_enter Try.func18, Try.ntmps18
        go_wp2
        refine wp_loop_rounds 4 ?_
        iterate 3 (rw [rounds_succ]; go_wp2; go_region; go_wp2)
        rw [rounds_succ]
        go_wp2
        go_ret
        exact ⟨ret_bool HB.out.symm, below_drewN (Below.refl _ _) 3⟩
end Go.Proofs.Ytmfcknlpbliehaa
