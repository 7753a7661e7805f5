/- Pack 15 of what FnExactRankOrdered needs: StA, VoMath. -/
import Derived.Test.YtmfcknlpbliehaaDoorKFnExactRankOrdered14
import Derived.Defers
import Derived.Recover
import Derived.RegionTactic
import Derived.Deep.QuietTactic
/- Standings: overtakes, with; a box of four numbers. -/
namespace Go.Proofs.YtmfcknlpbliehaaDoor
open Go.RowKit
set_option linter.unusedVariables false
def stA (p : Nat → Nat) : Value := .agg #[.int .i64 ((p 0 : Nat) : Int), .int .i64 ((p 1 : Nat) : Int), .int .i64 ((p 2 : Nat) : Int), .int .i64 ((p 3 : Nat) : Int)]
def ovB (p : Nat → Nat) (c : Nat) : Bool := decide (0 < c) && decide (p c = p (c - 1))
set_option maxHeartbeats 800000 in
theorem overtakes_any (p : Nat → Nat) (c : Nat) (hc : c < 4) (w : World) : Calls Tryd.prog 42 #[stA p, .int .i64 (c : Int)] w (Ret w (.bool (ovB p c))) := by
  unfold stA
  have HB : ∀ q : Nat, Hid ((((p (q + 1) : Nat) : Int) == ((p q : Nat) : Int)) = ovB p (q + 1)) := fun q => Lib.hid (by
    unfold ovB
    rw [decide_eq_true (by omega), Bool.true_and, Bool.eq_iff_iff, beq_iff_eq, decide_eq_true_iff, Nat.add_sub_cancel]
    omega)
  have HB0 : Hid (ovB p 0 = false) := Lib.hid rfl
  have HB1 := HB 0
  have HB2 := HB 1
  have HB3 := HB 2
  simp only [Nat.zero_add, Nat.reduceAdd] at HB1 HB2 HB3
  clear HB
  have hc4 : c = 0 ∨ c = 1 ∨ c = 2 ∨ c = 3 := by omega
  rcases hc4 with rfl | rfl | rfl | rfl
  · generalize ovB p 0 = b0 at *
    go_enter Tryd.func42, Tryd.ntmps42
    go_wp2
    go_quiet (fail)
    go_wp2
    go_ret
    exact ⟨ret_bool HB0.out.symm, below_drewN ((Below.refl _ _).alloc (Nat.le_refl _) _) _⟩
  · generalize ovB p 1 = b1 at *
    go_enter Tryd.func42, Tryd.ntmps42
    go_wp2
    go_region
    go_wp2
    go_ret
    exact ⟨ret_bool HB1.out, below_drewN ((Below.refl _ _).alloc (Nat.le_refl _) _) 1⟩
  · generalize ovB p 2 = b1 at *
    go_enter Tryd.func42, Tryd.ntmps42
    go_wp2
    go_region
    go_wp2
    go_ret
    exact ⟨ret_bool HB2.out, below_drewN ((Below.refl _ _).alloc (Nat.le_refl _) _) 1⟩
  · generalize ovB p 3 = b1 at *
    go_enter Tryd.func42, Tryd.ntmps42
    go_wp2
    go_region
    go_wp2
    go_ret
    exact ⟨ret_bool HB3.out, below_drewN ((Below.refl _ _).alloc (Nat.le_refl _) _) 1⟩
/-- a box of four numbers -/
structure B4 (b : Nat) (p : Nat → Nat) (W : World) : Prop where
  cell : ∀ j, j < 4 → W.cell? ⟨b, j, none⟩ = some (.int .i64 ((p j : Nat) : Int))
  free : ∀ j, j < 4 → W.frozen? ⟨b, j, none⟩ = false
  lt : b < W.heap.size
theorem B4.below {b : Nat} {p : Nat → Nat} {W W' : World} (h : B4 b p W) (hb : Below W.heap.size W W') : B4 b p W' :=
  ⟨fun j hj => (hb.cell (p := ⟨b, j, none⟩) h.lt).trans (h.cell j hj), fun j hj => by
    have := hb.block b h.lt
    have e : W'.frozen? ⟨b, j, none⟩ = W.frozen? ⟨b, j, none⟩ := by unfold World.frozen?; rw [this]
    rw [e]; exact h.free j hj, Nat.lt_of_lt_of_le h.lt hb.size⟩
theorem B4.set {b : Nat} {p : Nat → Nat} {W : World} (h : B4 b p W) (c : Nat) (hc : c < 4) : B4 b (up p c) (W.setCell ⟨b, c, none⟩ (.int .i64 (((p c : Nat) : Int) + 1))) := by
  refine ⟨fun j hj => ?_, fun j hj => ?_, ?_⟩
  · by_cases e : j = c
    · subst e
      rw [World.cell?_setCell_same W ⟨b, j, none⟩ _ (h.cell j hj), up_at]
      rfl
    · rw [World.cell?_setCell_other W ⟨b, c, none⟩ ⟨b, j, none⟩ _ (fun x => e (by injection x with _ x; exact x.symm)), up_ne p e]
      exact h.cell j hj
  · rw [World.frozen?_setCell]; exact h.free j hj
  · simp [World.setCell]; exact h.lt
theorem B4.ints {b : Nat} {p : Nat → Nat} {W : World} (h : B4 b p W) : RInts W (.slice (some ⟨b, 0, none⟩) 4 4) [((p 0 : Nat) : Int), ((p 1 : Nat) : Int), ((p 2 : Nat) : Int), ((p 3 : Nat) : Int)] := by
  refine ⟨⟨_, _, rfl⟩, fun A n c e => by injection e with e1 e2 e3; subst e2 e3; exact ⟨Nat.le_refl _, by simp [maxLen]⟩, fun _ => ⟨b, 0, 4, rfl, h.lt, fun j hj => ?_⟩⟩
  rw [Nat.zero_add, h.cell j hj]
  have : j = 0 ∨ j = 1 ∨ j = 2 ∨ j = 3 := by simp at hj; omega
  rcases this with e | e | e | e <;> subst e <;> rfl
theorem B4.new {p : Nat → Nat} (w : World) (T : TypeId) : B4 w.heap.size p (w.alloc (.cells #[.int .i64 ((p 0 : Nat) : Int), .int .i64 ((p 1 : Nat) : Int), .int .i64 ((p 2 : Nat) : Int), .int .i64 ((p 3 : Nat) : Int)] T)) := by
  refine ⟨fun j hj => ?_, fun j hj => ?_, by simp⟩
  · have : j = 0 ∨ j = 1 ∨ j = 2 ∨ j = 3 := by omega
    rcases this with e | e | e | e <;> subst e <;> simp [go_sem]
  · have : j = 0 ∨ j = 1 ∨ j = 2 ∨ j = 3 := by omega
    rcases this with e | e | e | e <;> subst e <;> simp [go_sem]
set_option maxHeartbeats 800000 in
theorem with_any (p : Nat → Nat) (c : Nat) (hc : c < 4) (hp : p c ≤ 16) (w : World) : Calls Tryd.prog 36 #[stA p, .int .i64 (c : Int)] w (Ret w (stA (up p c))) := by
  unfold stA
  have hc4 : c = 0 ∨ c = 1 ∨ c = 2 ∨ c = 3 := by omega
  rcases hc4 with rfl | rfl | rfl | rfl
  all_goals
    go_enter Tryd.func36, Tryd.ntmps36
    go_wp2
    refine bodyPost_ret (v := stA (up p _)) (by simp [results, Tryd.results36, go_sem, up, stA]) rfl ⟨rfl, ?_⟩
    exact ((Below.refl _ _).alloc (Nat.le_refl _) _).alloc (by simp) _
end Go.Proofs.YtmfcknlpbliehaaDoor

/- Votes for four candidates: plain bytes. -/
namespace Go.Proofs.YtmfcknlpbliehaaDoor
open Go.RowKit
set_option linter.unusedVariables false
def isV (c : UInt8) : Bool := decide (97 ≤ c.toNat) && decide (c.toNat ≤ 100)
def votB (s : ByteArray) : Bool := decide (s.size ≤ 16) && s.data.toList.all isV
/-- the candidate of vote k -/
def cd (s : ByteArray) (k : Nat) : Nat := (s.data.toList.getD k 0).toNat - 97
theorem votB_iff (s : ByteArray) : votB s = true ↔ s.size ≤ 16 ∧ ∀ k (h : k < s.size), isV s[k] = true := by
  unfold votB
  rw [Bool.and_eq_true, decide_eq_true_iff, List.all_eq_true]
  constructor
  · rintro ⟨h1, h2⟩
    exact ⟨h1, fun k h => h2 _ (by
      have : s[k] = s.data.toList[k]'(by simpa using h) := rfl
      rw [this]; exact List.getElem_mem _)⟩
  · rintro ⟨h1, h2⟩
    refine ⟨h1, fun x hx => ?_⟩
    obtain ⟨i, hi, rfl⟩ := List.mem_iff_getElem.1 hx
    exact h2 i (by simpa using hi)
theorem isV_iff (c : UInt8) : isV c = true ↔ 97 ≤ c.toNat ∧ c.toNat ≤ 100 := by
  unfold isV; rw [Bool.and_eq_true, decide_eq_true_iff, decide_eq_true_iff]
theorem getD_byte (s : ByteArray) (k : Nat) (h : k < s.size) : s.data.toList.getD k 0 = s[k] := by
  have h' : k < s.data.toList.length := by simpa using h
  rw [List.getD_eq_getElem?_getD, List.getElem?_eq_getElem h']; rfl
theorem cd_at {s : ByteArray} (hv : votB s = true) {k : Nat} (h : k < s.size) : ((s[k].toNat : Nat) : Int) = 97 + (cd s k : Nat) ∧ cd s k < 4 := by
  have h1 := (isV_iff _).1 (((votB_iff s).1 hv).2 k h)
  unfold cd
  rw [getD_byte s k h]
  omega
/-- how many of the first k votes are for c -/
def vc (s : ByteArray) (c : Nat) : Nat → Nat
  | 0 => 0
  | k + 1 => vc s c k + (if cd s k = c then 1 else 0)
theorem vc_le (s : ByteArray) (c : Nat) : ∀ k, vc s c k ≤ k
  | 0 => Nat.le_refl _
  | k + 1 => by
    have := vc_le s c k
    rw [vc]; split <;> omega
theorem vc_hit {s : ByteArray} {c k : Nat} (h : cd s k = c) : vc s c (k + 1) = vc s c k + 1 := by rw [vc, if_pos h]
theorem vc_miss {s : ByteArray} {c k : Nat} (h : ¬ cd s k = c) : vc s c (k + 1) = vc s c k := by rw [vc, if_neg h]; rfl
theorem vc_sum {s : ByteArray} : ∀ k, (∀ j, j < k → cd s j < 4) → vc s 0 k + vc s 1 k + vc s 2 k + vc s 3 k = k
  | 0, _ => rfl
  | k + 1, h => by
    have h1 := vc_sum k (fun j hj => h j (by omega))
    have h2 := h k (by omega)
    rw [vc, vc, vc, vc]
    have : cd s k = 0 ∨ cd s k = 1 ∨ cd s k = 2 ∨ cd s k = 3 := by omega
    rcases this with e | e | e | e <;> rw [e] <;> simp <;> omega
theorem vc_mono (s : ByteArray) (c : Nat) (k : Nat) : vc s c k ≤ vc s c (k + 1) := by rw [vc]; omega
def vcL (s : ByteArray) (k : Nat) : List Int := [((vc s 0 k : Nat) : Int), ((vc s 1 k : Nat) : Int), ((vc s 2 k : Nat) : Int), ((vc s 3 k : Nat) : Int)]
theorem vcL_len (s : ByteArray) (k : Nat) : (vcL s k).length = 4 := rfl
theorem vcL_zero (s : ByteArray) : vcL s 0 = List.replicate 4 0 := rfl
theorem vcL_get (s : ByteArray) (k c : Nat) (h : c < 4) : (vcL s k).getD c 0 = ((vc s c k : Nat) : Int) := by
  have : c = 0 ∨ c = 1 ∨ c = 2 ∨ c = 3 := by omega
  rcases this with e | e | e | e <;> subst e <;> rfl
theorem vcL_set (s : ByteArray) (k : Nat) (h : cd s k < 4) : (vcL s k).set (cd s k) (((vc s (cd s k) k : Nat) : Int) + 1) = vcL s (k + 1) := by
  unfold vcL
  have : cd s k = 0 ∨ cd s k = 1 ∨ cd s k = 2 ∨ cd s k = 3 := by omega
  rcases this with e | e | e | e <;> simp [vc, e]
theorem cd_pre (s : ByteArray) (i k : Nat) (h : k < i) : cd (s.extract 0 i) k = cd s k := by
  unfold cd
  congr 2
  rw [List.getD_eq_getElem?_getD, List.getD_eq_getElem?_getD]
  congr 1
  simp [ByteArray.data_extract]
  rw [List.getElem?_take, if_pos h]
  simp
theorem vc_pre (s : ByteArray) (c i : Nat) : ∀ k, k ≤ i → vc (s.extract 0 i) c k = vc s c k
  | 0, _ => rfl
  | k + 1, h => by rw [vc, vc, vc_pre s c i k (by omega), cd_pre s i k (by omega)]
theorem vcL_pre (s : ByteArray) (i k : Nat) (h : k ≤ i) : vcL (s.extract 0 i) k = vcL s k := by
  unfold vcL
  rw [vc_pre s 0 i k h, vc_pre s 1 i k h, vc_pre s 2 i k h, vc_pre s 3 i k h]
theorem pre_size (s : ByteArray) (i : Nat) (h : i ≤ s.size) : (s.extract 0 i).size = i := by simp; omega
theorem pre_get (s : ByteArray) (i k : Nat) (h : k < (s.extract 0 i).size) (h2 : k < s.size) : (s.extract 0 i)[k] = s[k] := by
  simp [ByteArray.getElem_extract]
theorem votB_pre {s : ByteArray} (h : votB s = true) {i : Nat} (hi : i ≤ s.size) : votB (s.extract 0 i) = true := by
  have h1 := (votB_iff s).1 h
  refine (votB_iff _).2 ⟨by rw [pre_size s i hi]; omega, fun k hk => ?_⟩
  have hk2 : k < s.size := by rw [pre_size s i hi] at hk; omega
  rw [pre_get s i k hk hk2]
  exact h1.2 k hk2
theorem votB_lt {s : ByteArray} (h : votB s = true) (j : Nat) (hj : j < s.size) : cd s j < 4 := (cd_at h hj).2
theorem vcS {s : ByteArray} (h : votB s = true) {k : Nat} (hk : k ≤ s.size) : vc s 0 k + vc s 1 k + vc s 2 k + vc s 3 k = k := vc_sum k (fun j hj => votB_lt h j (by omega))
/-- the greatest of numbers, at least 0 -/
def moTo (xs : List Int) : Nat → Int
  | 0 => 0
  | k + 1 => max (moTo xs k) (xs.getD k 0)
/-- the letters of the first k with the number m -/
def wiTo (xs : List Int) (m : Int) : Nat → ByteArray
  | 0 => ⟨#[]⟩
  | k + 1 => if xs.getD k 0 = m then wiTo xs m k ++ ⟨#[UInt8.ofNat (97 + k)]⟩ else wiTo xs m k
theorem wiTo_size (xs : List Int) (m : Int) : ∀ k, (wiTo xs m k).size ≤ k
  | 0 => Nat.le_refl _
  | k + 1 => by
    have := wiTo_size xs m k
    rw [wiTo]; split
    · rw [ByteArray.size_append]; exact Nat.succ_le_succ this
    · omega
def wiV (xs : List Int) : ByteArray := wiTo xs (moTo xs 4) 4
def leL (s : ByteArray) : Nat → List ByteArray
  | 0 => []
  | k + 1 => leL s k ++ [wiV (vcL s (k + 1))]
theorem leL_len (s : ByteArray) : ∀ k, (leL s k).length = k
  | 0 => rfl
  | k + 1 => by rw [leL, List.length_append, leL_len s k]; rfl
/-- no candidate has more than the one before -/
def faB (s : ByteArray) (k : Nat) : Bool := decide (vc s 1 k ≤ vc s 0 k) && decide (vc s 2 k ≤ vc s 1 k) && decide (vc s 3 k ≤ vc s 2 k)
/-- the least number of the first k votes behind which it is not so, or 0 -/
def foTo (s : ByteArray) : Nat → Nat
  | 0 => 0
  | k + 1 => if foTo s k = 0 then (if faB s (k + 1) = true then 0 else k + 1) else foTo s k
theorem foTo_le (s : ByteArray) : ∀ k, foTo s k ≤ k
  | 0 => Nat.le_refl _
  | k + 1 => by
    have := foTo_le s k
    rw [foTo]; split
    · split <;> omega
    · omega
theorem fo_yes {s : ByteArray} {k : Nat} (h : foTo s k = 0) (hf : faB s (k + 1) = true) : foTo s (k + 1) = 0 := by rw [foTo, if_pos h, if_pos hf]
theorem fo_no {s : ByteArray} {k : Nat} (h : foTo s k = 0) (hf : faB s (k + 1) = false) : foTo s (k + 1) = k + 1 := by rw [foTo, if_pos h, if_neg (by simp [hf])]
theorem fo_stay {s : ByteArray} {k n : Nat} (h : ¬ foTo s k = 0) : ∀ n, k ≤ n → foTo s n = foTo s k := by
  intro n hn
  induction n with
  | zero => rw [show k = 0 by omega]
  | succ n ih =>
    by_cases e : k = n + 1
    · rw [e]
    · have := ih (by omega)
      rw [foTo, if_neg (by rw [this]; exact h), this]
theorem fo_back {s : ByteArray} {n : Nat} (h : foTo s n = 0) : ∀ k, k ≤ n → foTo s k = 0 := fun k hk => Classical.byContradiction fun hx => by
  have := fo_stay (n := n) hx n hk
  omega
theorem faB_zero (s : ByteArray) : faB s 0 = true := rfl
theorem fo_fall {s : ByteArray} {n : Nat} (h : foTo s n = 0) : faB s n = true := by
  cases n with
  | zero => rfl
  | succ n =>
    have h0 := fo_back h n (by omega)
    cases hf : faB s (n + 1) with
    | true => rfl
    | false => rw [fo_no h0 hf] at h; omega
theorem faB_iff (s : ByteArray) (k : Nat) : faB s k = true ↔ vc s 1 k ≤ vc s 0 k ∧ vc s 2 k ≤ vc s 1 k ∧ vc s 3 k ≤ vc s 2 k := by
  unfold faB; simp only [Bool.and_eq_true, decide_eq_true_iff]; exact ⟨fun h => ⟨h.1.1, h.1.2, h.2⟩, fun h => ⟨⟨h.1, h.2.1⟩, h.2.2⟩⟩
/-- with one more vote a candidate has more than the one before -/
theorem fa_over {s : ByteArray} {k : Nat} (hc : cd s k < 4) (hf : faB s k = true) : faB s (k + 1) = false ↔ 0 < cd s k ∧ vc s (cd s k) k = vc s (cd s k - 1) k := by
  have h1 := (faB_iff s k).1 hf
  rw [← Bool.not_eq_true, faB_iff, vc, vc, vc, vc]
  have : cd s k = 0 ∨ cd s k = 1 ∨ cd s k = 2 ∨ cd s k = 3 := by omega
  rcases this with e | e | e | e <;> rw [e] <;> simp <;> omega
def oB (s : ByteArray) : Bool := votB s && decide (foTo s s.size = 0)
end Go.Proofs.YtmfcknlpbliehaaDoor
