/- The cuts of a closed path at its returns. -/
import Derived.Test.YtgajknnfmnnfeaaNextRet
import Derived.Test.YtgajknnfmnnfeaaClosed
namespace Go.Proofs.Ytgajknnfmnnfeaa
open Go.RowKit
/-- the parts between a start and the numbers that follow -/
def segs : Nat → List Nat → List (Nat × Nat)
  | _, [] => []
  | a, b :: l => (a, b) :: segs b l
theorem segs_len : ∀ (l : List Nat) (a : Nat), (segs a l).length = l.length
  | [], _ => rfl
  | b :: l, a => by simp [segs, segs_len l b]
theorem segs_get : ∀ (l : List Nat) (a k : Nat), k < l.length → (segs a l)[k]? = some ((a :: l).getD k 0, l.getD k 0)
  | [], _, _, h => absurd h (by simp)
  | b :: l, a, 0, _ => by simp [segs]
  | b :: l, a, k + 1, h => by
    have := segs_get l b k (by simpa using h)
    simp only [segs, List.getElem?_cons_succ, this, List.getD_cons_succ]
/-- the numbers from i on, c of them, behind which the height is 0 -/
def RF (s : ByteArray) (i c : Nat) : List Nat := (List.range' i c).filter fun j => hAt s j == 0
theorem RF_zero (s : ByteArray) (i : Nat) : RF s i 0 = [] := rfl
theorem RF_yes {s : ByteArray} {i c : Nat} (h : hAt s i = 0) : RF s i (c + 1) = i :: RF s (i + 1) c := by
  unfold RF; rw [List.range'_succ, List.filter_cons, if_pos (by rw [h]; rfl)]
theorem RF_no {s : ByteArray} {i c : Nat} (h : ¬ hAt s i = 0) : RF s i (c + 1) = RF s (i + 1) c := by
  unfold RF; rw [List.range'_succ, List.filter_cons, if_neg (by simpa using h)]
theorem nrGo_RF {s : ByteArray} (hn : hAt s s.size = 0) : ∀ (f i : Nat), f = s.size - i → i < s.size →
    RF s (i + 1) f = nrGo s 0 f i :: RF s (nrGo s 0 f i + 1) (s.size - nrGo s 0 f i) ∧ hAt s (nrGo s 0 f i) = 0
  | 0, i, hf, hi => by omega
  | f + 1, i, hf, hi => by
    by_cases h : hAt s (i + 1) = 0
    · rw [nrGo_hit hi h, RF_yes h]
      have : f = s.size - (i + 1) := by omega
      rw [this]
      exact ⟨rfl, h⟩
    · rw [nrGo_miss hi h, RF_no h]
      have hi1 : i + 1 < s.size := by
        rcases Nat.lt_or_ge (i + 1) s.size with h1 | h1
        · exact h1
        · exact absurd (by have : i + 1 = s.size := by omega
                           rw [this]; exact hn) h
      exact nrGo_RF hn f (i + 1) (by omega) hi1
theorem cuts_segs {s : ByteArray} (hn : hAt s s.size = 0) : ∀ (f k : Nat), s.size < f + k → k ≤ s.size → hAt s k = 0 →
    cuts (nr s) s.size f k = segs k (RF s (k + 1) (s.size - k))
  | 0, k, h, hk, _ => by omega
  | f + 1, k, h, hk, h0 => by
    rcases Nat.lt_or_ge k s.size with hlt | hge
    · obtain ⟨h1, h2⟩ := nrGo_RF hn (s.size - k) k rfl hlt
      have he : nr s k = nrGo s 0 (s.size - k) k := by unfold nr; rw [h0]
      have hb := nr_lt hlt
      rw [cuts_step hlt, h1, ← he]
      rw [← he] at h2
      rw [cuts_segs hn f (nr s k) (by omega) hb.2 h2]
      rfl
    · obtain rfl : k = s.size := by omega
      rw [cuts_end, Nat.sub_self, RF_zero]; rfl
theorem retsTo_RF (s : ByteArray) : ∀ n, retsTo s (n + 1) = (RF s 1 n).map fun j : Nat => (j : Int)
  | 0 => by rw [retsTo_no (by unfold retAt; simp)]; rfl
  | n + 1 => by
    have hr : RF s 1 (n + 1) = RF s 1 n ++ (if hAt s (n + 1) = 0 then [n + 1] else []) := by
      unfold RF
      rw [List.range'_1_concat, List.filter_append, Nat.add_comm 1 n]
      congr 1
      rw [List.filter_cons, List.filter_nil]
      by_cases h : hAt s (n + 1) = 0
      · rw [if_pos (by rw [h]; rfl), if_pos h]
      · rw [if_neg (by simpa using h), if_neg h]
    rw [hr, List.map_append, ← retsTo_RF s n]
    by_cases h : hAt s (n + 1) = 0
    · rw [if_pos h, retsTo_yes (rt_yes (by omega) (beq_iff_eq.2 h))]
      rfl
    · rw [if_neg h, retsTo_no (rt_no2 (beq_eq_false_iff_ne.2 h)), List.map_nil, List.append_nil]
theorem cuts_len (E : Nat → Nat) (n : Nat) : ∀ (f k : Nat), (cuts E n f k).length ≤ f
  | 0, k => by simp [cuts]
  | f + 1, k => by
    have := cuts_len E n f (E k)
    unfold cuts; split <;> simp; omega
theorem cuts_in {E : Nat → Nat} {n : Nat} (hE : ∀ k, k < n → k < E k ∧ E k ≤ n) : ∀ (f k : Nat) (p : Nat × Nat), p ∈ cuts E n f k → p.1 < p.2 ∧ p.2 ≤ n
  | 0, k, p, h => by simp [cuts] at h
  | f + 1, k, p, h => by
    unfold cuts at h
    split at h
    · rename_i hk
      rcases List.mem_cons.1 h with rfl | h
      · exact hE k hk
      · exact cuts_in hE f _ p h
    · cases h
def cutL (s : ByteArray) : List (Nat × Nat) := cuts (nr s) s.size (s.size + 1) 0
def ext (s : ByteArray) (p : Nat × Nat) : ByteArray := s.extract p.1 p.2
theorem cutL_len (s : ByteArray) : (cutL s).length ≤ s.size + 1 := cuts_len _ _ _ _
theorem cutL_in {s : ByteArray} {p : Nat × Nat} (h : p ∈ cutL s) : p.1 < p.2 ∧ p.2 ≤ s.size := cuts_in (fun _ hk => nr_lt hk) _ _ p h
def cutN (s : ByteArray) : List Nat := RF s 1 s.size
theorem cutL_segs {s : ByteArray} (hn : hAt s s.size = 0) : cutL s = segs 0 (cutN s) := cuts_segs hn _ 0 (by omega) (Nat.zero_le _) (hAt_zero s)
theorem cutN_rets (s : ByteArray) : retsTo s (s.size + 1) = (cutN s).map fun j : Nat => (j : Int) := retsTo_RF s _
/-- what a step of the model's loop adds -/
theorem cutN_step {s : ByteArray} (hn : hAt s s.size = 0) {k : Nat} (hk : k < (cutN s).length) :
    (0 :: cutN s).getD k 0 < (cutN s).getD k 0 ∧ (cutN s).getD k 0 ≤ s.size ∧ ((cutL s).take k).map (ext s) ++ [s.extract ((0 :: cutN s).getD k 0) ((cutN s).getD k 0)] = ((cutL s).take (k + 1)).map (ext s) := by
  have hg := segs_get (cutN s) 0 k hk
  rw [← cutL_segs hn] at hg
  have hm := cutL_in (List.mem_of_getElem? hg)
  refine ⟨hm.1, hm.2, ?_⟩
  rw [List.take_add_one, hg, List.map_append]
  rfl
end Go.Proofs.Ytgajknnfmnnfeaa
