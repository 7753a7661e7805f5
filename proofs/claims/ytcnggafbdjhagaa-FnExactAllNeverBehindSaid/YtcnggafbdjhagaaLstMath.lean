/- All paths of a ballot, in order. -/
import Derived.Test.YtcnggafbdjhagaaNbMath
namespace Go.Proofs.Ytcnggafbdjhagaa
open Go.RowKit
def lstB (V : Int → Int → Int) : Nat → Int → Int → List (List UInt8)
  | 0, _, _ => [[]]
  | n + 1, u, d => (if 0 < V u (d - 1) then (lstB V n u (d - 1)).map (fun t => (68 : UInt8) :: t) else []) ++ (if 0 < V (u - 1) d then (lstB V n (u - 1) d).map (fun t => (85 : UInt8) :: t) else [])
/-- what is left, with ways -/
structure Has (a b : Nat) (k l : Int) (n : Nat) (u d : Int) : Prop where
  sum : (n : Int) = u + d
  u0 : 0 ≤ u
  d0 : 0 ≤ d
  ua : u ≤ a
  db : d ≤ b
  pos : 0 < WV a b k l u d
theorem Has.down {a b : Nat} {k l : Int} {n : Nat} {u d : Int} (h : Has a b k l (n + 1) u d) (hp : 0 < WV a b k l u (d - 1)) : Has a b k l n u (d - 1) := by
  have hd : ¬ d - 1 < 0 := fun e => by rw [WV_neg (.inr e)] at hp; omega
  exact ⟨by have := h.sum; omega, h.u0, by omega, h.ua, by have := h.db; omega, hp⟩
theorem Has.up {a b : Nat} {k l : Int} {n : Nat} {u d : Int} (h : Has a b k l (n + 1) u d) (hp : 0 < WV a b k l (u - 1) d) : Has a b k l n (u - 1) d := by
  have hu : ¬ u - 1 < 0 := fun e => by rw [WV_neg (.inl e)] at hp; omega
  exact ⟨by have := h.sum; omega, by omega, h.d0, by have := h.ua; omega, h.db, hp⟩
theorem Has.step {a b : Nat} {k l : Int} {n : Nat} {u d : Int} (h : Has a b k l (n + 1) u d) : WV a b k l u d = WV a b k l u (d - 1) + WV a b k l (u - 1) d :=
  WV_step h.u0 h.d0 h.ua h.db (by have := h.sum; omega) h.pos
theorem WV_nn (a b : Nat) (k l u d : Int) : 0 ≤ WV a b k l u d := by unfold WV; omega
theorem Has.one {a b : Nat} {k l : Int} {u d : Int} (h : Has a b k l 0 u d) : WV a b k l u d = 1 := by
  have h1 := h.sum
  have h2 := h.u0
  have h3 := h.d0
  obtain rfl : u = 0 := by omega
  obtain rfl : d = 0 := by omega
  have hp := h.pos
  have hg : ¬ (((0 : Nat) : Int) = a ∧ ((0 : Nat) : Int) = b) → ¬ leadV a b k 0 0 < l := fun h1 h2 => by
    unfold WV at hp; rw [wv_low (u := 0) (d := 0) (by simpa using h1) h2] at hp; simp at hp
  unfold WV
  rw [wv_one hg]; rfl
theorem lstB_len {a b : Nat} {k l : Int} : ∀ (n : Nat) (u d : Int), Has a b k l n u d → ((lstB (WV a b k l) n u d).length : Int) = WV a b k l u d
  | 0, u, d, h => by rw [h.one]; rfl
  | n + 1, u, d, h => by
    have hs := h.step
    have n1 := WV_nn a b k l u (d - 1)
    have n2 := WV_nn a b k l (u - 1) d
    rw [lstB, List.length_append, hs, Int.natCast_add]
    congr 1
    · by_cases hp : 0 < WV a b k l u (d - 1)
      · rw [if_pos hp, List.length_map]; exact lstB_len n u (d - 1) (h.down hp)
      · rw [if_neg hp]; simp; omega
    · by_cases hp : 0 < WV a b k l (u - 1) d
      · rw [if_pos hp, List.length_map]; exact lstB_len n (u - 1) d (h.up hp)
      · rw [if_neg hp]; simp; omega
theorem lstB_get {a b : Nat} {k l : Int} : ∀ (n : Nat) (u d : Int), Has a b k l n u d → ∀ r : Nat, (r : Int) < WV a b k l u d → (lstB (WV a b k l) n u d)[r]? = some (porB (WV a b k l) n u d r)
  | 0, u, d, h, r, hr => by
    rw [h.one] at hr
    obtain rfl : r = 0 := by omega
    rfl
  | n + 1, u, d, h, r, hr => by
    have hs := h.step
    have n1 := WV_nn a b k l u (d - 1)
    have n2 := WV_nn a b k l (u - 1) d
    rw [lstB]
    by_cases hlt : (r : Int) < WV a b k l u (d - 1)
    · have hp : 0 < WV a b k l u (d - 1) := by omega
      have hl := lstB_len n u (d - 1) (h.down hp)
      rw [porB_down hlt, if_pos hp, List.getElem?_append_left (by rw [List.length_map]; omega), List.getElem?_map, lstB_get n u (d - 1) (h.down hp) r hlt]
      rfl
    · rw [porB_up hlt]
      have hp : 0 < WV a b k l (u - 1) d := by omega
      have hq : r = (WV a b k l u (d - 1)).toNat + (r - (WV a b k l u (d - 1)).toNat) := by omega
      have hlen : (if 0 < WV a b k l u (d - 1) then (lstB (WV a b k l) n u (d - 1)).map (fun t => (68 : UInt8) :: t) else []).length = (WV a b k l u (d - 1)).toNat := by
        by_cases hp1 : 0 < WV a b k l u (d - 1)
        · have hl := lstB_len n u (d - 1) (h.down hp1)
          rw [if_pos hp1, List.length_map]; omega
        · rw [if_neg hp1]; simp; omega
      rw [List.getElem?_append_right (by rw [hlen]; omega), hlen, if_pos hp, List.getElem?_map, lstB_get n (u - 1) d (h.up hp) (r - (WV a b k l u (d - 1)).toNat) (by omega)]
      rw [show ((r - (WV a b k l u (d - 1)).toNat : Nat) : Int) = (r : Int) - WV a b k l u (d - 1) by omega]
      rfl
/-- all of them as texts, by their ranks -/
def byRank (V : Int → Int → Int) (n : Nat) (u d : Int) (m : Nat) : List ByteArray := (List.range m).map fun r => ⟨(porB V n u d (r : Nat)).toArray⟩
theorem byRank_len (V : Int → Int → Int) (n : Nat) (u d : Int) (m : Nat) : (byRank V n u d m).length = m := by simp [byRank]
theorem byRank_snoc (V : Int → Int → Int) (n : Nat) (u d : Int) (m : Nat) : byRank V n u d m ++ [⟨(porB V n u d (m : Nat)).toArray⟩] = byRank V n u d (m + 1) := by
  unfold byRank; rw [List.range_succ, List.map_append]; rfl
def lstT (V : Int → Int → Int) (n : Nat) (u d : Int) : List ByteArray := if 0 < V u d then (lstB V n u d).map fun t => ⟨t.toArray⟩ else []
theorem lst_rank {a b : Nat} {k l : Int} {n : Nat} {u d : Int} (hs : (n : Int) = u + d) (hu : 0 ≤ u) (hd : 0 ≤ d) (hua : u ≤ a) (hdb : d ≤ b) : lstT (WV a b k l) n u d = byRank (WV a b k l) n u d (WV a b k l u d).toNat := by
  unfold lstT
  by_cases hp : 0 < WV a b k l u d
  · have h : Has a b k l n u d := ⟨hs, hu, hd, hua, hdb, hp⟩
    have hl := lstB_len n u d h
    rw [if_pos hp]
    apply List.ext_getElem?
    intro r
    by_cases hr : (r : Int) < WV a b k l u d
    · rw [List.getElem?_map, lstB_get n u d h r hr]
      unfold byRank
      rw [List.getElem?_map, List.getElem?_range (by omega)]
      rfl
    · rw [List.getElem?_eq_none (by rw [List.length_map]; omega), List.getElem?_eq_none (by rw [byRank_len]; omega)]
  · rw [if_neg hp]
    have : (WV a b k l u d).toNat = 0 := by omega
    rw [this]; rfl
end Go.Proofs.Ytcnggafbdjhagaa
