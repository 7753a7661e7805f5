/- Pack 10 of what FnRecordsTold needs: InList, MixMath. -/
import Derived.Test.YtachijliaedndaaKFnRecordsTold9
/- A slice of ints that came in, or is only read; toIntS, the laws' copy. -/
namespace Go.Proofs.Ytachijliaedndaa
open Go.RowKit
set_option linter.unusedVariables false
/-- a slice of ints that came in: nil, or a row of cap numbers of which the first len are its elements -/
def IsInts (w : World) (a : Option Addr) (len cap : Nat) (zs : List Int) : Prop :=
  (a = none ∧ len = 0 ∧ cap = 0 ∧ zs = []) ∨
  ∃ x, a = some x ∧ len ≤ cap ∧ cap ≤ maxLen ∧ zs.length = cap ∧ (∀ i, i < zs.length → w.cell? (x.add i) = some (.int .i64 (zs.getD i 0))) ∧ ∀ n ∈ zs, (Lit.int .i64 n).wf = true
/-- a slice of ints that is only read: its elements are xs -/
structure RInts (w : World) (v : Value) (xs : List Int) : Prop where
  shape : ∃ A c, v = .slice A xs.length c
  room : ∀ A n c, v = .slice A n c → n ≤ c ∧ c ≤ maxLen
  cells : 0 < xs.length → ∃ g o c, v = .slice (some ⟨g, o, none⟩) xs.length c ∧ g < w.heap.size ∧ ∀ j, j < xs.length → w.cell? ⟨g, o + j, none⟩ = some (.int .i64 (xs.getD j 0))
theorem RInts.below {w w' : World} {v : Value} {xs : List Int} (h : RInts w v xs) (hb : Below w.heap.size w w') : RInts w' v xs :=
  ⟨h.shape, h.room, fun hx => by
    obtain ⟨g, o, c, hv, hg, hc⟩ := h.cells hx
    exact ⟨g, o, c, hv, Nat.lt_of_lt_of_le hg hb.size, fun j hj => (hb.cell (p := ⟨g, o + j, none⟩) hg).trans (hc j hj)⟩⟩
theorem RInts.of_row {w : World} {B : Nat} {v : Value} {xs : List Int} (h : IRow w B v xs) : RInts w v xs :=
  ⟨h.shape, fun A n c e => by
    rcases h.2 with ⟨h1, _⟩ | ⟨g, cap, cur, h1, _, _, h2, h3, _⟩
    · rw [h1] at e
      injection e with e1 e2 e3
      subst e2 e3
      exact ⟨Nat.le_refl _, by simp [maxLen]⟩
    · rw [h1] at e
      injection e with e1 e2 e3
      subst e2 e3
      exact ⟨h2, h3⟩, fun hx => by
    obtain ⟨g, c, hv, _, hg⟩ := h.form' rfl hx
    subst hv
    exact ⟨g, 0, c, rfl, hg, fun j hj => by rw [Nat.zero_add]; exact h.cell hj⟩⟩
theorem RInts.of_in {w : World} {a : Option Addr} {len cap : Nat} {zs : List Int} (h : IsInts w a len cap zs) : RInts w (.slice a len cap) (zs.take len) := by
  rcases h with ⟨rfl, rfl, rfl, rfl⟩ | ⟨x, rfl, hl, hm, hz, hcell, _⟩
  · exact ⟨⟨_, _, rfl⟩, fun A n c e => by injection e with e1 e2 e3; subst e2 e3; exact ⟨Nat.le_refl _, by simp [maxLen]⟩, fun h => absurd h (by simp)⟩
  · have hlen : (zs.take len).length = len := by rw [List.length_take]; omega
    refine ⟨⟨some x, cap, by rw [hlen]⟩, fun A n c e => by injection e with e1 e2 e3; subst e2 e3; exact ⟨hl, hm⟩, fun hx => ?_⟩
    rw [hlen] at hx
    obtain ⟨b, off, spot⟩ := x
    have h0 := hcell 0 (by omega)
    have hspot : spot = none := by simpa [Addr.add] using World.cell?_spot h0
    subst hspot
    refine ⟨b, off, cap, by rw [hlen], World.block_lt_of_cell? w _ h0, fun j hj => ?_⟩
    rw [hlen] at hj
    have := hcell j (by omega)
    have e : (⟨b, off, none⟩ : Addr).add j = ⟨b, off + j, none⟩ := by unfold Addr.add; split <;> simp_all
    rw [e] at this
    rw [this, List.getD_eq_getElem?_getD, List.getD_eq_getElem?_getD, List.getElem?_take, if_pos hj]
/-- the first k copied -/
def copied (xs : List Int) (k : Nat) : List Int := xs.take k ++ List.replicate (xs.length - k) 0
theorem copied_length (xs : List Int) (k : Nat) (h : k ≤ xs.length) : (copied xs k).length = xs.length := by simp [copied]; omega
theorem copied_set (xs : List Int) (k : Nat) (h : k < xs.length) : (copied xs k).set k (xs.getD k 0) = copied xs (k + 1) := by
  unfold copied
  rw [List.take_succ_eq_append_getElem h, List.set_append, List.length_take, if_neg (by omega), show k - min k xs.length = 0 by omega,
    show xs.length - k = (xs.length - (k + 1)) + 1 by omega, List.replicate_succ, List.set_cons_zero, List.getD_eq_getElem?_getD, List.getElem?_eq_getElem h, List.append_assoc]
  rfl
theorem copied_full (xs : List Int) : copied xs xs.length = xs := by simp [copied]
/-- two rows: the one above, the other below -/
theorem IRow.grown_over {w w' : World} {B B2 : Nat} {v v2 : Value} {xs : List Int} (h : IRow w B v xs) (hg : w.grownBy w' v2.ownBlock) (hv : ∀ k, v.ownBlock = some k → B2 ≤ k) (hv2 : ∀ k, v2.ownBlock = some k → k < B2) : IRow w' B v xs :=
  World.ownsRow.kept h hg (by
    cases e : v.ownBlock with
    | none => exact .inl rfl
    | some k =>
      right
      intro e2
      have a := hv k e
      have b := hv2 k e2.symm
      omega)
end Go.Proofs.Ytachijliaedndaa

/- Mixed paths: plain bytes. -/
namespace Go.Proofs.Ytachijliaedndaa
open Go.RowKit
set_option linter.unusedVariables false
def isK (c : UInt8) : Bool := c == 85 || c == 68 || c == 70
def kStep (c : UInt8) : Int := if c = 85 then 1 else if c = 68 then -1 else 0
def mixGo : List UInt8 → Int → Bool
  | [], h => decide (h = 0)
  | c :: l, h => isK c && decide (0 ≤ h + kStep c) && mixGo l (h + kStep c)
def mixB (s : ByteArray) : Bool := decide (s.size ≤ 12) && mixGo s.data.toList 0
theorem kStep_bd (c : UInt8) : -1 ≤ kStep c ∧ kStep c ≤ 1 := by
  unfold kStep
  split
  · omega
  · split <;> omega
theorem drop_at (s : ByteArray) (k : Nat) (h : k < s.size) : s.data.toList.drop k = s[k] :: s.data.toList.drop (k + 1) := by
  rw [List.drop_eq_getElem_cons (by simpa using h)]
  rfl
theorem u8_int {c d : UInt8} (h : ¬ c = d) : ((c.toNat : Int) == (d.toNat : Int)) = false := beq_eq_false_iff_ne.2 (fun e => h (UInt8.toNat_inj.1 (by omega)))
theorem mix_u {c : UInt8} (l : List UInt8) (h : Int) (e : c = 85) (h0 : 0 ≤ h) : mixGo (c :: l) h = mixGo l (h + 1) := by
  subst e
  have : kStep 85 = 1 := rfl
  rw [mixGo, this, decide_eq_true (by omega), show isK 85 = true from rfl]
  rfl
theorem mix_d {c : UInt8} (l : List UInt8) (h : Int) (e : c = 68) : mixGo (c :: l) h = (decide (0 ≤ h - 1) && mixGo l (h - 1)) := by
  subst e
  have : kStep 68 = -1 := rfl
  rw [mixGo, this, show isK 68 = true from rfl]
  rfl
theorem mix_f {c : UInt8} (l : List UInt8) (h : Int) (e : c = 70) (h0 : 0 ≤ h) : mixGo (c :: l) h = mixGo l h := by
  subst e
  have : kStep 70 = 0 := rfl
  rw [mixGo, this, show isK 70 = true from rfl, Int.add_zero, decide_eq_true h0]
  rfl
theorem mix_n {c : UInt8} (l : List UInt8) (h : Int) (e1 : ¬ c = 85) (e2 : ¬ c = 68) (e3 : ¬ c = 70) : mixGo (c :: l) h = false := by
  have : isK c = false := by unfold isK; simp [e1, e2, e3]
  rw [mixGo, this]
  rfl
theorem mix_not {s : ByteArray} (h : ¬ s.size ≤ 12) : mixB s = false := by unfold mixB; rw [decide_eq_false h]; rfl
/-- the bytes of a mixed path, and its length -/
theorem mixB_size {s : ByteArray} (h : mixB s = true) : s.size ≤ 12 := by
  unfold mixB at h
  rw [Bool.and_eq_true, decide_eq_true_iff] at h
  exact h.1
/-- each step twice -/
def pmB (c : UInt8) : ByteArray := if c = 85 then ⟨#[85, 85]⟩ else if c = 68 then ⟨#[68, 68]⟩ else ⟨#[85, 68]⟩
def pmTo (s : ByteArray) : Nat → ByteArray
  | 0 => ⟨#[]⟩
  | k + 1 => pmTo s k ++ pmB (s.data.toList.getD k 0)
theorem pmTo_size (s : ByteArray) : ∀ k, (pmTo s k).size = 2 * k
  | 0 => rfl
  | k + 1 => by
    have h : ∀ c, (pmB c).size = 2 := fun c => by
      unfold pmB
      split
      · rfl
      · split <;> rfl
    rw [pmTo, ByteArray.size_append, pmTo_size s k, h]
    omega
def pmV (s : ByteArray) : ByteArray := if mixB s = true then pmTo s s.size else ⟨#[]⟩
/-! ### back: pairs of steps -/
def mpB (a b : UInt8) : ByteArray := if a = 85 ∧ b = 85 then ⟨#[85]⟩ else if a = 68 ∧ b = 68 then ⟨#[68]⟩ else ⟨#[70]⟩
def mpTo (s : ByteArray) : Nat → ByteArray
  | 0 => ⟨#[]⟩
  | j + 1 => mpTo s j ++ mpB (s.data.toList.getD (2 * j) 0) (s.data.toList.getD (2 * j + 1) 0)
/-- no pair from j on, of n, is down and up -/
def mpOk (s : ByteArray) : Nat → Nat → Bool
  | 0, _ => true
  | n + 1, j => !(s.data.toList.getD (2 * j) 0 == 68 && s.data.toList.getD (2 * j + 1) 0 == 85) && mpOk s n (j + 1)
theorem mpTo_size (s : ByteArray) : ∀ k, (mpTo s k).size = k
  | 0 => rfl
  | k + 1 => by
    have h : ∀ a b, (mpB a b).size = 1 := fun a b => by
      unfold mpB
      split
      · rfl
      · split <;> rfl
    rw [mpTo, ByteArray.size_append, mpTo_size s k, h]
def moOk (s : ByteArray) : Bool := pathB s && decide (s.size % 2 = 0) && mpOk s (s.size / 2) 0 && mixB (mpTo s (s.size / 2))
def moV (s : ByteArray) : ByteArray := if moOk s = true then mpTo s (s.size / 2) else ⟨#[]⟩
theorem at_getD (s : ByteArray) (k : Nat) (h : k < s.size) : s.data.toList.getD k 0 = s[k] := by
  rw [List.getD_eq_getElem?_getD, List.getElem?_eq_getElem (by simpa using h)]
  rfl
theorem ext2_list (s : ByteArray) (k : Nat) (h : k + 2 ≤ s.size) : (s.extract k (k + 2)).toList = [s[k], s[k + 1]] := by
  rw [ByteArray.toList_eq, ByteArray.data_extract, Array.toList_extract, List.extract_eq_take_drop, show k + 2 - k = 2 by omega, drop_at s k (by omega), drop_at s (k + 1) (by omega)]
  rfl
end Go.Proofs.Ytachijliaedndaa
