/- Pack 12 of what FnExactFirstApart needs: MarkText, Strs. -/
import Derived.Test.YtnlmjeakdjmohaaKFnExactFirstApart11
import Derived.Deep.QuietTactic
import Derived.BigQuiet
import Derived.Deep.RegionHeld3
/- markText: some text that depends on its number alone. -/
namespace Go.Proofs.Ytnlmjeakdjmohaa
open Go.RowKit
def mtGo : Nat → Nat → ByteArray → ByteArray
  | 0, _, out => out
  | f + 1, k, out => if 0 < k then mtGo f (k / 10) (⟨#[UInt8.ofNat (48 + k % 10)]⟩ ++ out) else out
def mt (k : Nat) : ByteArray := ⟨#[109]⟩ ++ mtGo (k + 1) k ⟨#[]⟩
theorem mtGo_step {f k : Nat} {out : ByteArray} (h : 0 < k) : mtGo (f + 1) k out = mtGo f (k / 10) (⟨#[UInt8.ofNat (48 + k % 10)]⟩ ++ out) := by rw [mtGo, if_pos h]
theorem mtGo_end {f : Nat} {out : ByteArray} : mtGo f 0 out = out := by
  cases f <;> rfl
theorem run_one_byte (w : World) (n : Nat) (hn : n < 256) : (convert 109 9 (.slice (some ⟨w.heap.size, 0, none⟩) 1 1)).run Try.prog (w.alloc (.cells #[.int .u8 ((n : Nat) : Int)] 5)) = .ok (.string ⟨#[UInt8.ofNat n]⟩) (w.alloc (.cells #[.int .u8 ((n : Nat) : Int)] 5)) := by
  have := run_convert_bytes_back (P := Try.prog) (w.alloc (.cells #[.int .u8 ((n : Nat) : Int)] 5)) 109 9 5 ⟨w.heap.size, 0, none⟩ 1 [UInt8.ofNat n] Try.underlying109 Try.underlying5 Try.underlying9 (fun j hj => by
    obtain rfl : j = 0 := by simp at hj; omega
    simp [Addr.add]; omega)
  simpa using this
set_option maxRecDepth 100000 in
set_option maxHeartbeats 1000000 in
theorem markText_any (K : Nat) (w : World) (h1 : 0 < K) (h2 : K ≤ 1099511627776) :
    Calls Try.prog 79 #[.int .i64 (K : Nat)] w (Ret w (.string (mt K))) := by
  have HM : Hid (mt K = ⟨#[109]⟩ ++ mtGo (K + 1) K ⟨#[]⟩) := rfl
  generalize hN : mtGo (K + 1) K ⟨#[]⟩ = N at HM
  generalize mt K = M at *
  go_enter Try.func79, Try.ntmps79
  go_wp2
  go_loopw [0, 3] (fun t o wr => ∃ (k : Nat) (out : ByteArray), t = .int .i64 (k : Int) ∧ o = .string out ∧ out.size + k ≤ K ∧ Hid (∃ f, k < f ∧ mtGo f k out = N) ∧ Below w.heap.size w wr) (fun t _ _ => (intOf t).toNat)
  case atStart => exact ⟨K, ⟨#[]⟩, rfl, rfl, by show 0 + K ≤ K; omega, Lib.hid ⟨K + 1, by omega, hN⟩, Below.refl _ _⟩
  case round =>
    obtain ⟨k, out, rfl, rfl, hsz, HA, hb⟩ := hrel
    by_cases hlt : 0 < k
    · have HA2 : Hid (∃ f, k / 10 < f ∧ mtGo f (k / 10) (⟨#[UInt8.ofNat (48 + k % 10)]⟩ ++ out) = N) := by
        obtain ⟨f, h3, h4⟩ := HA.out
        obtain ⟨g, rfl⟩ : ∃ g, f = g + 1 := ⟨f - 1, by omega⟩
        rw [mtGo_step hlt] at h4
        exact ⟨g, by omega, h4⟩
      have hcv := run_one_byte wr (48 + k % 10) (by omega)
      have hz : ((48 + k % 10 : Nat) : Int) = 48 + (k : Int) % 10 := by omega
      rw [hz] at hcv
      have hs1 : (⟨#[UInt8.ofNat (48 + k % 10)]⟩ : ByteArray).size = 1 := rfl
      generalize (⟨#[UInt8.ofNat (48 + k % 10)]⟩ : ByteArray) = d at *
      go_wp2
      go_roundw
      case rel => exact ⟨k / 10, d ++ out, by go_num, rfl, by rw [ByteArray.size_append]; omega, HA2, hb.alloc (by have := hb.size; omega) _⟩
      case measure => simp [intOf]; omega
    · obtain rfl : k = 0 := by omega
      have HX : Hid (out = N) := by
        obtain ⟨f, h3, h4⟩ := HA.out
        rw [mtGo_end] at h4
        exact h4
      go_wp2
      go_ret
      exact ⟨ret_s (by rw [HM.out, HX.out]), hb⟩
end Go.Proofs.Ytnlmjeakdjmohaa

/- eqStringS, markStringS, heldStringS: the laws' own helpers on slices of strings. -/
namespace Go.Proofs.Ytnlmjeakdjmohaa
open Go.RowKit

/-- the texts m, m+1, .. -/
def smarks (m : Nat) (n : Nat) : List ByteArray := (List.range n).map fun j => mt (m + j)
theorem smarks_length (m n : Nat) : (smarks m n).length = n := by simp [smarks]
theorem smarks_get (m n k : Nat) (h : k < n) : (smarks m n).getD k ByteArray.empty = mt (m + k) := by
  unfold smarks; rw [List.getD_eq_getElem?_getD, List.getElem?_map, List.getElem?_range h]; rfl
/-- the first k are marked -/
def SMarked (ys : List ByteArray) (m n k : Nat) : Prop := ys.length = n ∧ ∀ j, j < k → ys.getD j ByteArray.empty = mt (m + j)
theorem SMarked.zero {ys : List ByteArray} {n : Nat} (m : Nat) (h : ys.length = n) : SMarked ys m n 0 := ⟨h, fun _ h => absurd h (by omega)⟩
theorem SMarked.succ {ys : List ByteArray} {m n k : Nat} (h : SMarked ys m n k) (hk : k < n) : SMarked (ys.set k (mt (m + k))) m n (k + 1) := by
  refine ⟨by rw [List.length_set]; exact h.1, fun j hj => ?_⟩
  rw [List.getD_eq_getElem?_getD, List.getElem?_set]
  by_cases e : k = j
  · subst e; rw [if_pos rfl, if_pos (by rw [h.1]; exact hk)]; rfl
  · rw [if_neg e, ← List.getD_eq_getElem?_getD]; exact h.2 j (by omega)
theorem SMarked.full {ys : List ByteArray} {m n k : Nat} (h : SMarked ys m n k) (hk : k = n) : ys = smarks m n := by
  subst hk
  apply List.ext_getElem
  · rw [h.1, smarks_length]
  · intro j h1 h2
    have a := h.2 j (by rw [h.1] at h1; exact h1)
    have b := smarks_get m k j (by rw [h.1] at h1; exact h1)
    rw [List.getD_eq_getElem?_getD, List.getElem?_eq_getElem h1] at a
    rw [List.getD_eq_getElem?_getD, List.getElem?_eq_getElem h2] at b
    simp at a b
    rw [a, b]
theorem below_grown {w w' : World} (hb : Below w.heap.size w w') (r : Option Nat) : w.grownBy w' r := ⟨hb.os, hb.tape, hb.output, hb.size, fun k hk _ => hb.block k hk⟩

theorem keepS {w0 W W' : World} {g k : Nat} {x : Value} (h : W.cell? ⟨g, k, none⟩ = some x ∧ Below w0.heap.size w0 W) (hg : g < w0.heap.size) (hb : Below W.heap.size W W') : W'.cell? ⟨g, k, none⟩ = some x ∧ Below w0.heap.size w0 W' :=
  ⟨(hb.cell (p := ⟨g, k, none⟩) (Nat.lt_of_lt_of_le hg h.2.size)).trans h.1, h.2.trans (hb.mono h.2.size)⟩
theorem keepB {w0 W : World} {g k : Nat} {x : Value} (h : W.cell? ⟨g, k, none⟩ = some x ∧ Below w0.heap.size w0 W) : Below w0.heap.size w0 W := h.2
end Go.Proofs.Ytnlmjeakdjmohaa
