/- Pack 19 of what FnExactVotesOfTable needs: RuW, MixMath. -/
import Derived.Test.YtmfcknlpbliehaaDoorKFnExactVotesOfTable18
/- The model's ruPower, ruAsked, ruWin. -/
namespace Go.Proofs.YtmfcknlpbliehaaDoor
open Go.RowKit
set_option linter.unusedVariables false
theorem pow6 {x : Int} (hx : 0 ≤ x ∧ x ≤ 6) {k : Nat} (hk : k ≤ 18) : 0 ≤ x ^ k ∧ x ^ k ≤ 101559956668416 := by
  obtain ⟨a, rfl⟩ := Int.eq_ofNat_of_zero_le hx.1
  rw [← pow_cast]
  have h1 : a ^ k ≤ 6 ^ k := Nat.pow_le_pow_left (by omega) k
  have h2 : (6 : Nat) ^ k ≤ 6 ^ 18 := Nat.pow_le_pow_right (by omega) hk
  have h3 : (6 : Nat) ^ 18 = 101559956668416 := by decide
  omega
/-- an empty ratio at b, in a world behind w -/
structure ZBox (w : World) (b : Nat) (W : World) : Prop where
  c0 : W.cell? ⟨b, 0, none⟩ = some (.int .i64 0)
  c1 : W.cell? ⟨b, 1, none⟩ = some (.int .i64 0)
  f0 : W.frozen? ⟨b, 0, none⟩ = false
  f1 : W.frozen? ⟨b, 1, none⟩ = false
  lt : b < W.heap.size
  lo : w.heap.size ≤ b
  below : Below w.heap.size w W
theorem ZBox.kept {w W W' : World} {b : Nat} (h : ZBox w b W) (hb : Below W.heap.size W W') : ZBox w b W' :=
  ⟨(hb.cell (p := ⟨b, 0, none⟩) h.lt).trans h.c0, (hb.cell (p := ⟨b, 1, none⟩) h.lt).trans h.c1, (hb.frozen (p := ⟨b, 0, none⟩) h.lt).trans h.f0, (hb.frozen (p := ⟨b, 1, none⟩) h.lt).trans h.f1, Nat.lt_of_lt_of_le h.lt hb.size, h.lo, h.below.trans (hb.mono h.below.size)⟩
theorem ZBox.done {w W : World} {b : Nat} (h : ZBox w b W) (x y : Int) :
    ((W.setCell ⟨b, 0, none⟩ (.int .i64 x)).setCell ⟨b, 1, none⟩ (.int .i64 y)).cell? ⟨b, 0, none⟩ = some (.int .i64 x) ∧ ((W.setCell ⟨b, 0, none⟩ (.int .i64 x)).setCell ⟨b, 1, none⟩ (.int .i64 y)).cell? ⟨b, 1, none⟩ = some (.int .i64 y) ∧
    Below w.heap.size w ((W.setCell ⟨b, 0, none⟩ (.int .i64 x)).setCell ⟨b, 1, none⟩ (.int .i64 y)) :=
  ⟨(World.cell?_setCell_other _ _ _ _ (by simp)).trans (World.cell?_setCell_same' _ _ _ (by rw [h.c0]; rfl)), World.cell?_setCell_same' _ _ _ (by rw [World.cell?_setCell_other _ _ _ _ (by simp), h.c1]; rfl),
    (h.below.setCell (p := ⟨b, 0, none⟩) h.lo _).setCell (p := ⟨b, 1, none⟩) h.lo _⟩
theorem wp_nameR {P : Program} {c : Code} {Q : Exit → Act → World → Prop} {a : Act} {w : World} (S : World → Prop) (h : S w) (k : ∀ W, S W → c.wp P Q a W) : c.wp P Q a w := k w h
end Go.Proofs.YtmfcknlpbliehaaDoor

/- Mixed paths: plain bytes. -/
namespace Go.Proofs.YtmfcknlpbliehaaDoor
open Go.RowKit
set_option linter.unusedVariables false
def isK (c : UInt8) : Bool := c == 85 || c == 68 || c == 70
def kStep (c : UInt8) : Int := if c = 85 then 1 else if c = 68 then -1 else 0
def mixGo : List UInt8 → Int → Bool
  | [], h => decide (h = 0)
  | c :: l, h => isK c && decide (0 ≤ h + kStep c) && mixGo l (h + kStep c)
def mixB (s : ByteArray) : Bool := decide (s.size ≤ 12) && mixGo s.data.toList 0
theorem kStep_bd (c : UInt8) : -1 ≤ kStep c ∧ kStep c ≤ 1 := by
  unfold kStep
  split
  · omega
  · split <;> omega
theorem drop_at (s : ByteArray) (k : Nat) (h : k < s.size) : s.data.toList.drop k = s[k] :: s.data.toList.drop (k + 1) := by
  rw [List.drop_eq_getElem_cons (by simpa using h)]
  rfl
theorem u8_int {c d : UInt8} (h : ¬ c = d) : ((c.toNat : Int) == (d.toNat : Int)) = false := beq_eq_false_iff_ne.2 (fun e => h (UInt8.toNat_inj.1 (by omega)))
theorem mix_u {c : UInt8} (l : List UInt8) (h : Int) (e : c = 85) (h0 : 0 ≤ h) : mixGo (c :: l) h = mixGo l (h + 1) := by
  subst e
  have : kStep 85 = 1 := rfl
  rw [mixGo, this, decide_eq_true (by omega), show isK 85 = true from rfl]
  rfl
theorem mix_d {c : UInt8} (l : List UInt8) (h : Int) (e : c = 68) : mixGo (c :: l) h = (decide (0 ≤ h - 1) && mixGo l (h - 1)) := by
  subst e
  have : kStep 68 = -1 := rfl
  rw [mixGo, this, show isK 68 = true from rfl]
  rfl
theorem mix_f {c : UInt8} (l : List UInt8) (h : Int) (e : c = 70) (h0 : 0 ≤ h) : mixGo (c :: l) h = mixGo l h := by
  subst e
  have : kStep 70 = 0 := rfl
  rw [mixGo, this, show isK 70 = true from rfl, Int.add_zero, decide_eq_true h0]
  rfl
theorem mix_n {c : UInt8} (l : List UInt8) (h : Int) (e1 : ¬ c = 85) (e2 : ¬ c = 68) (e3 : ¬ c = 70) : mixGo (c :: l) h = false := by
  have : isK c = false := by unfold isK; simp [e1, e2, e3]
  rw [mixGo, this]
  rfl
theorem mix_not {s : ByteArray} (h : ¬ s.size ≤ 12) : mixB s = false := by unfold mixB; rw [decide_eq_false h]; rfl
/-- the bytes of a mixed path, and its length -/
theorem mixB_size {s : ByteArray} (h : mixB s = true) : s.size ≤ 12 := by
  unfold mixB at h
  rw [Bool.and_eq_true, decide_eq_true_iff] at h
  exact h.1
/-- each step twice -/
def pmB (c : UInt8) : ByteArray := if c = 85 then ⟨#[85, 85]⟩ else if c = 68 then ⟨#[68, 68]⟩ else ⟨#[85, 68]⟩
def pmTo (s : ByteArray) : Nat → ByteArray
  | 0 => ⟨#[]⟩
  | k + 1 => pmTo s k ++ pmB (s.data.toList.getD k 0)
theorem pmTo_size (s : ByteArray) : ∀ k, (pmTo s k).size = 2 * k
  | 0 => rfl
  | k + 1 => by
    have h : ∀ c, (pmB c).size = 2 := fun c => by
      unfold pmB
      split
      · rfl
      · split <;> rfl
    rw [pmTo, ByteArray.size_append, pmTo_size s k, h]
    omega
def pmV (s : ByteArray) : ByteArray := if mixB s = true then pmTo s s.size else ⟨#[]⟩
/-! ### back: pairs of steps -/
def mpB (a b : UInt8) : ByteArray := if a = 85 ∧ b = 85 then ⟨#[85]⟩ else if a = 68 ∧ b = 68 then ⟨#[68]⟩ else ⟨#[70]⟩
def mpTo (s : ByteArray) : Nat → ByteArray
  | 0 => ⟨#[]⟩
  | j + 1 => mpTo s j ++ mpB (s.data.toList.getD (2 * j) 0) (s.data.toList.getD (2 * j + 1) 0)
/-- no pair from j on, of n, is down and up -/
def mpOk (s : ByteArray) : Nat → Nat → Bool
  | 0, _ => true
  | n + 1, j => !(s.data.toList.getD (2 * j) 0 == 68 && s.data.toList.getD (2 * j + 1) 0 == 85) && mpOk s n (j + 1)
theorem mpTo_size (s : ByteArray) : ∀ k, (mpTo s k).size = k
  | 0 => rfl
  | k + 1 => by
    have h : ∀ a b, (mpB a b).size = 1 := fun a b => by
      unfold mpB
      split
      · rfl
      · split <;> rfl
    rw [mpTo, ByteArray.size_append, mpTo_size s k, h]
def moOk (s : ByteArray) : Bool := pathB s && decide (s.size % 2 = 0) && mpOk s (s.size / 2) 0 && mixB (mpTo s (s.size / 2))
def moV (s : ByteArray) : ByteArray := if moOk s = true then mpTo s (s.size / 2) else ⟨#[]⟩
theorem at_getD (s : ByteArray) (k : Nat) (h : k < s.size) : s.data.toList.getD k 0 = s[k] := by
  rw [List.getD_eq_getElem?_getD, List.getElem?_eq_getElem (by simpa using h)]
  rfl
theorem ext2_list (s : ByteArray) (k : Nat) (h : k + 2 ≤ s.size) : (s.extract k (k + 2)).toList = [s[k], s[k + 1]] := by
  rw [ByteArray.toList_eq, ByteArray.data_extract, Array.toList_extract, List.extract_eq_take_drop, show k + 2 - k = 2 by omega, drop_at s k (by omega), drop_at s (k + 1) (by omega)]
  rfl
end Go.Proofs.YtmfcknlpbliehaaDoor
