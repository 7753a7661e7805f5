/- The path with a rank, the rank of a path: steps and numbers. -/
import Derived.Test.YtlgiamgjimffnaaWaysMath
namespace Go.Proofs.Ytlgiamgjimffnaa
open Go.RowKit
def WV (a b : Nat) (k l : Int) (u d : Int) : Int := (wv a b k l u d : Nat)
/-- the steps of the path with a rank -/
def porB (V : Int → Int → Int) : Nat → Int → Int → Int → List UInt8
  | 0, _, _, _ => []
  | n + 1, u, d, r => if r < V u (d - 1) then 68 :: porB V n u (d - 1) r else 85 :: porB V n (u - 1) d (r - V u (d - 1))
theorem porB_down {V : Int → Int → Int} {n : Nat} {u d r : Int} (h : r < V u (d - 1)) : porB V (n + 1) u d r = 68 :: porB V n u (d - 1) r := by rw [porB, if_pos h]
theorem porB_up {V : Int → Int → Int} {n : Nat} {u d r : Int} (h : ¬ r < V u (d - 1)) : porB V (n + 1) u d r = 85 :: porB V n (u - 1) d (r - V u (d - 1)) := by rw [porB, if_neg h]
theorem porB_len (V : Int → Int → Int) : ∀ (n : Nat) (u d r : Int), (porB V n u d r).length = n
  | 0, _, _, _ => rfl
  | n + 1, u, d, r => by
    unfold porB
    split <;> simp [porB_len V n]
/-- what is left, and a rank among its ways -/
structure RAt (a b : Nat) (k l : Int) (n : Nat) (u d r : Int) : Prop where
  sum : (n : Int) = u + d
  u0 : 0 ≤ u
  d0 : 0 ≤ d
  ua : u ≤ a
  db : d ≤ b
  r0 : 0 ≤ r
  lt : r < WV a b k l u d
theorem WV_neg {a b : Nat} {k l u d : Int} (h : u < 0 ∨ d < 0) : WV a b k l u d = 0 := by unfold WV; rw [wv_neg h]; rfl
theorem WV_step {a b : Nat} {k l u d : Int} (hu : 0 ≤ u) (hd : 0 ≤ d) (hua : u ≤ a) (hdb : d ≤ b) (h0 : ¬ (u = 0 ∧ d = 0)) (hp : 0 < WV a b k l u d) : WV a b k l u d = WV a b k l u (d - 1) + WV a b k l (u - 1) d := by
  have hg : ¬ (u = a ∧ d = b) → ¬ leadV a b k u d < l := fun h1 h2 => by
    unfold WV at hp; rw [wv_low h1 h2] at hp; simp at hp
  unfold WV
  rw [wv_step hu hd hua hdb h0 hg]
  simp
theorem RAt.down {a b : Nat} {k l : Int} {n : Nat} {u d r : Int} (h : RAt a b k l (n + 1) u d r) (hr : r < WV a b k l u (d - 1)) : RAt a b k l n u (d - 1) r := by
  have hd : ¬ d - 1 < 0 := fun e => by rw [WV_neg (.inr e)] at hr; have := h.r0; omega
  exact ⟨by have := h.sum; omega, h.u0, by omega, h.ua, by have := h.db; omega, h.r0, hr⟩
theorem RAt.up {a b : Nat} {k l : Int} {n : Nat} {u d r : Int} (h : RAt a b k l (n + 1) u d r) (hr : ¬ r < WV a b k l u (d - 1)) : RAt a b k l n (u - 1) d (r - WV a b k l u (d - 1)) := by
  have h1 := h.sum
  have h2 := h.lt
  have h3 := h.r0
  rw [WV_step h.u0 h.d0 h.ua h.db (by omega) (by omega)] at h2
  have hu : ¬ u - 1 < 0 := fun e => by rw [WV_neg (.inl e)] at h2; omega
  exact ⟨by omega, by omega, h.d0, by have := h.ua; omega, h.db, by omega, by omega⟩
theorem RAt.zero {a b : Nat} {k l : Int} {u d r : Int} (h : RAt a b k l 0 u d r) : u = 0 ∧ d = 0 := by
  have h1 := h.sum
  have h2 := h.u0
  have h3 := h.d0
  omega
theorem WV_bd (a b : Nat) (k l u d : Int) (hab : a + b ≤ 40) (hu : u ≤ a) (hd : d ≤ b) : 0 ≤ WV a b k l u d ∧ WV a b k l u d ≤ 1099511627776 := by
  have := wv_small a b k l u d hab hu hd
  unfold WV; omega
def rkOk (a b : Nat) (k l r : Int) : Bool := decide (0 ≤ r) && decide (r < WV a b k l a b)
def rkS (a b : Nat) (k l r : Int) : ByteArray := if rkOk a b k l r then ⟨(porB (WV a b k l) (a + b) a b r).toArray⟩ else ⟨#[]⟩
/-- a letter as a text -/
def letter (c : UInt8) : ByteArray := ⟨#[c]⟩
def letters (l : List UInt8) : List ByteArray := l.map letter
theorem letters_snoc (l : List UInt8) (c : UInt8) : letters l ++ [letter c] = letters (l ++ [c]) := by simp [letters]
theorem letters_len (l : List UInt8) : (letters l).length = l.length := by simp [letters]
theorem letters_size {l : List UInt8} : ∀ x, x ∈ letters l → x.size ≤ 100 := by
  intro x hx
  obtain ⟨c, _, rfl⟩ := List.mem_map.1 hx
  show 1 ≤ 100
  omega
theorem letters_cat (l : List UInt8) : ((letters l).flatMap fun x => x.data.toList) = l := by
  induction l with
  | nil => rfl
  | cons c r ih => simp [letters, letter] at ih ⊢; exact ih
end Go.Proofs.Ytlgiamgjimffnaa
