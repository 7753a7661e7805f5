/- The list of paths between walls as texts. -/
import Derived.Test.YtlgiamgjimffnaaBtwMath
namespace Go.Proofs.Ytlgiamgjimffnaa
open Go.RowKit
set_option linter.unusedVariables false
def mkT (L : List (List UInt8)) : List ByteArray := L.map fun p => (⟨p.toArray⟩ : ByteArray)
def nxT (lo hi u d : Int) (x : ByteArray) : List ByteArray := mkT (nxtB lo hi 0 u d x.data.toList)
def lvT (lo hi u d : Int) (n : Nat) : List ByteArray := mkT (btL lo hi n 0 u d)
theorem mkT_length (L : List (List UInt8)) : (mkT L).length = L.length := by simp [mkT]
theorem lvT_zero (lo hi u d : Int) : lvT lo hi u d 0 = [⟨#[]⟩] := rfl
theorem mkT_flat (f : List UInt8 → List (List UInt8)) : ∀ L : List (List UInt8), mkT (L.flatMap f) = (mkT L).flatMap fun x => mkT (f x.data.toList)
  | [] => rfl
  | p :: L => by
    have ih := mkT_flat f L
    unfold mkT at *
    rw [List.flatMap_cons, List.map_append, List.map_cons, List.flatMap_cons, ih]
theorem lvT_succ (lo hi u d : Int) (n : Nat) : lvT lo hi u d (n + 1) = (lvT lo hi u d n).flatMap (nxT lo hi u d) := by
  unfold lvT
  rw [btL_succ, mkT_flat]
  rfl
theorem lvT_le (lo hi u d : Int) (n : Nat) : (lvT lo hi u d n).length ≤ 2 ^ n := by
  unfold lvT
  rw [mkT_length]
  exact btL_le lo hi n 0 u d
theorem lvT_small (lo hi u d : Int) {n : Nat} (h : n ≤ 40) : (lvT lo hi u d n).length ≤ 1099511627776 := by
  have h1 := lvT_le lo hi u d n
  have h2 : 2 ^ n ≤ 2 ^ 40 := Nat.pow_le_pow_right (by omega) h
  omega
theorem btL_mem {lo hi : Int} : ∀ (n : Nat) (s u d : Int) (p : List UInt8), p ∈ btL lo hi n s u d → p.length = n ∧ p.all isUD = true
  | 0, s, u, d, p, h => by
    rw [btL, List.mem_singleton] at h
    subst h
    exact ⟨rfl, rfl⟩
  | n + 1, s, u, d, p, h => by
    rw [btL, List.mem_append] at h
    rcases h with h | h
    · split at h
      · rw [List.mem_map] at h
        obtain ⟨q, hq, rfl⟩ := h
        obtain ⟨h1, h2⟩ := btL_mem n _ _ _ q hq
        exact ⟨by simp [h1], by rw [List.all_cons, h2]; rfl⟩
      · cases h
    · split at h
      · rw [List.mem_map] at h
        obtain ⟨q, hq, rfl⟩ := h
        obtain ⟨h1, h2⟩ := btL_mem n _ _ _ q hq
        exact ⟨by simp [h1], by rw [List.all_cons, h2]; rfl⟩
      · cases h
theorem lvT_mem {lo hi u d : Int} {n : Nat} {x : ByteArray} (h : x ∈ lvT lo hi u d n) (hn : n ≤ 40) : pathB x = true ∧ x.size = n := by
  unfold lvT mkT at h
  rw [List.mem_map] at h
  obtain ⟨p, hp, rfl⟩ := h
  obtain ⟨h1, h2⟩ := btL_mem n 0 u d p hp
  have hs : (⟨p.toArray⟩ : ByteArray).size = n := by show p.toArray.size = n; simpa using h1
  refine ⟨?_, hs⟩
  unfold pathB
  rw [hs, Bool.and_eq_true]
  exact ⟨decide_eq_true hn, by simpa using h2⟩
theorem ud_cases {c : UInt8} (h : isUD c = true) : c = 85 ∨ c = 68 := by
  unfold isUD at h
  simpa using h
theorem sum_counts : ∀ p : List UInt8, p.all isUD = true → (p.map stepI).sum = (upN p : Int) - dnN p ∧ p.length = upN p + dnN p
  | [], _ => ⟨rfl, rfl⟩
  | c :: p, h => by
    rw [List.all_cons, Bool.and_eq_true] at h
    obtain ⟨i1, i2⟩ := sum_counts p h.2
    have hu : upN (c :: p) = upN p + if (c == 85) = true then 1 else 0 := by unfold upN; rw [List.countP_cons]
    have hd : dnN (c :: p) = dnN p + if (c == 68) = true then 1 else 0 := by unfold dnN; rw [List.countP_cons]
    rw [List.map_cons, List.sum_cons, List.length_cons, hu, hd, i1, i2]
    rcases ud_cases h.1 with rfl | rfl
    · have : stepI 85 = 1 := rfl
      rw [this, if_pos (by decide), if_neg (by decide)]
      omega
    · have : stepI 68 = -1 := rfl
      rw [this, if_neg (by decide), if_pos (by decide)]
      omega
theorem path_counts {x : ByteArray} (h : pathB x = true) : hAt x x.size = (upN x.data.toList : Int) - dnN x.data.toList ∧ x.size = upN x.data.toList + dnN x.data.toList := by
  unfold pathB at h
  rw [Bool.and_eq_true] at h
  obtain ⟨h1, h2⟩ := sum_counts x.data.toList h.2
  have e : x.data.toList.length = x.size := by simp
  refine ⟨?_, by rw [← e]; exact h2⟩
  unfold hAt
  rw [List.take_of_length_le (by omega)]
  exact h1
theorem nxT_eq (lo hi u d : Int) (x : ByteArray) : nxT lo hi u d x =
    (if 0 < d - dnN x.data.toList ∧ lo ≤ (upN x.data.toList : Int) - dnN x.data.toList - 1 then [x ++ (⟨#[68]⟩ : ByteArray)] else []) ++ (if 0 < u - upN x.data.toList ∧ (upN x.data.toList : Int) - dnN x.data.toList + 1 ≤ hi then [x ++ (⟨#[85]⟩ : ByteArray)] else []) := by
  have e : ∀ c : UInt8, (⟨(x.data.toList ++ [c]).toArray⟩ : ByteArray) = x ++ (⟨#[c]⟩ : ByteArray) := fun c => by apply ByteArray.ext; apply Array.toList_inj.1; simp
  unfold nxT nxtB mkT
  rw [List.map_append]
  congr 1
  · by_cases h : 0 < d - (dnN x.data.toList : Int) ∧ lo ≤ (upN x.data.toList : Int) - dnN x.data.toList - 1
    · rw [if_pos (by omega), if_pos h, List.map_cons, List.map_nil, e]
    · rw [if_neg (by omega), if_neg h]; rfl
  · by_cases h : 0 < u - (upN x.data.toList : Int) ∧ (upN x.data.toList : Int) - dnN x.data.toList + 1 ≤ hi
    · rw [if_pos (by omega), if_pos h, List.map_cons, List.map_nil, e]
    · rw [if_neg (by omega), if_neg h]; rfl
theorem flat_upto {α β : Type} (f : α → List β) (L : List α) (k : Nat) (hk : k < L.length) (z : α) : (L.take (k + 1)).flatMap f = (L.take k).flatMap f ++ f (L.getD k z) := by
  rw [List.take_succ_eq_append_getElem hk, List.flatMap_append, List.getD_eq_getElem?_getD, List.getElem?_eq_getElem hk]
  simp
theorem flat_upto_le {α β : Type} (f : α → List β) (L : List α) (k : Nat) : ((L.take k).flatMap f).length ≤ (L.flatMap f).length := by
  have h : L.flatMap f = (L.take k).flatMap f ++ (L.drop k).flatMap f := by rw [← List.flatMap_append, List.take_append_drop]
  rw [h, List.length_append]
  omega
end Go.Proofs.Ytlgiamgjimffnaa
