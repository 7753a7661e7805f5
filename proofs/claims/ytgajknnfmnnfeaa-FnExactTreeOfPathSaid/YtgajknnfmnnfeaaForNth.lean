/- The k-th tree of a forest: its children, where it begins. -/
import Derived.Test.YtgajknnfmnnfeaaForMath2
namespace Go.Proofs.Ytgajknnfmnnfeaa
open Go.RowKit
set_option linter.unusedVariables false
namespace For
def nth : For → Nat → For
  | nil, _ => nil
  | node c r, 0 => c
  | node c r, k + 1 => nth r k
def start : For → Nat → Nat
  | nil, _ => 0
  | node c r, 0 => 0
  | node c r, k + 1 => c.size + 1 + start r k
theorem nth_size : ∀ (f : For) (k : Nat), k < f.cnt → f.start k + 1 + (f.nth k).size ≤ f.size
  | nil, k, h => by rw [cnt] at h; omega
  | node c r, 0, h => by rw [start, nth, size]; omega
  | node c r, k + 1, h => by
    have := nth_size r k (by rw [cnt] at h; omega)
    rw [start, nth, size]; omega
theorem tops_nth : ∀ (f : For) (i k : Nat), k < f.cnt → (f.tops i).getD k (0, 0) = (i + f.start k, i + f.start k + 1 + (f.nth k).size)
  | nil, i, k, h => by rw [cnt] at h; omega
  | node c r, i, 0, h => by rw [tops, List.getD_cons_zero, start, nth]; simp
  | node c r, i, k + 1, h => by
    have := tops_nth r (i + 1 + c.size) k (by rw [cnt] at h; omega)
    rw [tops, List.getD_cons_succ, this, start, nth]
    simp only [Prod.mk.injEq]
    omega
theorem nth_part : ∀ (f : For) (k : Nat), k < f.cnt → (f.enc.drop (f.start k)).take (1 + (f.nth k).size) = ((f.nth k).cnt : Int) :: (f.nth k).enc
  | nil, k, h => by rw [cnt] at h; omega
  | node c r, 0, h => by
    rw [start, nth, enc, List.drop_zero, show 1 + c.size = ((c.cnt : Int) :: c.enc).length by simp [enc_length]; omega, ← List.cons_append, List.take_left]
  | node c r, k + 1, h => by
    have := nth_part r k (by rw [cnt] at h; omega)
    rw [start, nth, enc, ← List.cons_append, show c.size + 1 + r.start k = ((c.cnt : Int) :: c.enc).length + r.start k by simp [enc_length]]
    rw [← List.drop_drop, List.drop_left, this]
theorem trs_nth : ∀ (f : For) (k : Nat), k < f.cnt → f.trs.getD k [] = ((f.nth k).cnt : Int) :: (f.nth k).enc
  | nil, k, h => by rw [cnt] at h; omega
  | node c r, 0, h => by rw [trs, List.getD_cons_zero, nth]
  | node c r, k + 1, h => by rw [trs, List.getD_cons_succ, nth]; exact trs_nth r k (by rw [cnt] at h; omega)
theorem nth_enc (f : For) (k : Nat) (h : k < f.cnt) : (f.enc.drop (f.start k + 1)).take (f.nth k).size = (f.nth k).enc := by
  have := nth_part f k h
  have h2 := congrArg List.tail this
  rw [List.tail_cons] at h2
  rw [← h2, ← List.drop_one, List.drop_take, List.drop_drop]
  congr 1
  omega
/-- the path's bytes -/
def pb : For → List UInt8
  | nil => []
  | node c r => 85 :: (pb c ++ 68 :: pb r)
theorem pb_length : ∀ f : For, f.pb.length = 2 * f.size
  | nil => rfl
  | node c r => by rw [pb, size, List.length_cons, List.length_append, List.length_cons, pb_length c, pb_length r]; omega
/-- the bytes of the first k trees -/
def pbT (f : For) : Nat → List UInt8
  | 0 => []
  | k + 1 => pbT f k ++ (85 :: ((f.nth k).pb ++ [68]))
theorem pbT_node (c r : For) : ∀ k, pbT (node c r) (k + 1) = (85 :: (c.pb ++ [68])) ++ pbT r k
  | 0 => by simp [pbT, nth]
  | k + 1 => by rw [pbT, pbT_node c r k, pbT, nth, List.append_assoc]
theorem pbT_full : ∀ f : For, pbT f f.cnt = f.pb
  | nil => rfl
  | node c r => by rw [cnt, pbT_node, pbT_full r, pb]; simp
theorem cnt_enc_le {f : For} {xs : List Int} (h : f.enc = xs) : f.cnt ≤ xs.length ∧ f.size = xs.length := by
  have := f.cnt_le
  rw [← h, enc_length]
  exact ⟨this, rfl⟩
/-- mirrored: the trees from the k-th on -/
def dropN : For → Nat → For
  | f, 0 => f
  | nil, _ + 1 => nil
  | node c r, k + 1 => dropN r k
theorem dropN_nth : ∀ (f : For) (k : Nat), k < f.cnt → dropN f k = node (f.nth k) (dropN f (k + 1))
  | nil, k, h => by rw [cnt] at h; omega
  | node c r, 0, h => by cases r <;> rfl
  | node c r, k + 1, h => by
    rw [dropN, nth]
    exact dropN_nth r k (by rw [cnt] at h; omega)
theorem dropN_full : ∀ f : For, dropN f f.cnt = nil
  | nil => rfl
  | node c r => by rw [cnt, dropN]; exact dropN_full r
theorem mir_step (f : For) (k : Nat) (h : k < f.cnt) : (dropN f k).mir = (dropN f (k + 1)).mir ++ ((f.nth k).cnt : Int) :: (f.nth k).mir := by
  rw [dropN_nth f k h, mir]
end For
end Go.Proofs.Ytgajknnfmnnfeaa
