/- nextReturn: the return that follows. -/
import Derived.Test.YtgajknnfmnnfeaaHeights
import Derived.Test.YtgajknnfmnnfeaaReturns
import Derived.Test.YtgajknnfmnnfeaaCut
namespace Go.Proofs.Ytgajknnfmnnfeaa
open Go.RowKit
/-- from step i on, the first number of steps behind which the height is h; the end of the path if there is none -/
def nrGo (s : ByteArray) (h : Int) : Nat → Nat → Nat
  | 0, _ => s.size
  | f + 1, i => if i < s.size then (if hAt s (i + 1) = h then i + 1 else nrGo s h f (i + 1)) else s.size
def nr (s : ByteArray) (k : Nat) : Nat := nrGo s (hAt s k) (s.size - k) k
theorem nrGo_hit {s : ByteArray} {h : Int} {f i : Nat} (hi : i < s.size) (e : hAt s (i + 1) = h) : nrGo s h (f + 1) i = i + 1 := by rw [nrGo, if_pos hi, if_pos e]
theorem nrGo_miss {s : ByteArray} {h : Int} {f i : Nat} (hi : i < s.size) (e : ¬ hAt s (i + 1) = h) : nrGo s h (f + 1) i = nrGo s h f (i + 1) := by rw [nrGo, if_pos hi, if_neg e]
theorem nrGo_end {s : ByteArray} {h : Int} {f i : Nat} (hi : ¬ i < s.size) : nrGo s h f i = s.size := by
  cases f with
  | zero => rfl
  | succ f => rw [nrGo, if_neg hi]
theorem nrGo_bd (s : ByteArray) (h : Int) : ∀ (f i : Nat), i < s.size → i < nrGo s h f i ∧ nrGo s h f i ≤ s.size
  | 0, i, hi => by simp [nrGo]; omega
  | f + 1, i, hi => by
    rw [nrGo, if_pos hi]
    split
    · omega
    · by_cases h2 : i + 1 < s.size
      · have := nrGo_bd s h f (i + 1) h2; omega
      · rw [nrGo_end h2]; omega
theorem nr_lt {s : ByteArray} {k : Nat} (hk : k < s.size) : k < nr s k ∧ nr s k ≤ s.size := nrGo_bd s _ _ _ hk
theorem nr_end (s : ByteArray) : nr s s.size = s.size := nrGo_end (by omega)
set_option maxHeartbeats 800000 in
theorem nextReturn_any (s : ByteArray) (k : Nat) (w : World) (h40 : s.size ≤ 40) (hk : k ≤ s.size) :
    Calls Try.prog 109 #[.string s, .int .i64 (k : Nat)] w (Ret w (.int .i64 (nr s k : Nat))) := by
  have hbk := hAt_bd s k hk
  have HR : Hid (nr s k = nrGo s (hAt s k) (s.size - k) k) := rfl
  generalize nr s k = r at *
  generalize hh : hAt s k = h at *
  have HH := Lib.hid hh
  clear hh
  go_enter Try.func109, Try.ntmps109
  go_wp2
  go_loop [5, 6] (fun g t => ∃ j : Nat, k ≤ j ∧ j ≤ s.size ∧ t = .int .i64 (j : Int) ∧ g = .int .i64 (hAt s j - h) ∧ Hid (r = nrGo s h (s.size - j) j)) (fun _ t => s.size - (intOf t).toNat)
  case atStart => exact ⟨k, by omega, hk, rfl, by rw [HH.out]; go_num, HR⟩
  case round =>
    obtain ⟨j, hj1, hj2, rfl, rfl, HA⟩ := hrel
    clear HR
    by_cases hjl : j < s.size
    · have hbj := hAt_bd s j hj2
      have hbj1 := hAt_bd s (j + 1) (by omega)
      have hzb := stepZ_bd (s[j].toNat : Int)
      have hS := hAt_succ s j hjl
      unfold stepI at hS
      obtain ⟨z, hz0⟩ : ∃ z, z = stepZ (s[j].toNat : Int) := ⟨_, rfl⟩
      rw [← hz0] at hzb hS
      have HZ := Lib.hid hz0.symm
      clear hz0
      obtain ⟨f, hf⟩ : ∃ f, s.size - j = f + 1 := ⟨s.size - j - 1, by omega⟩
      have HF : Hid (s.size - j = f + 1 ∧ f = s.size - (j + 1)) := ⟨hf, by omega⟩
      clear hf
      by_cases he : hAt s (j + 1) = h
      · have hz : (hAt s j - h + z == 0) = true := beq_iff_eq.2 (by omega)
        have HA2 : Hid (r = j + 1) := by
          have := HA.out
          rw [HF.out.1, nrGo_hit hjl he] at this
          exact this
        clear he hS hbj1
        go_wp2_with (go_at_call 111; refine (climb_any _ _).mono ?_; rintro e w' ⟨rfl, rfl⟩; rw [HZ.out])
        go_ret
        exact ⟨ret_int (by rw [HA2.out]; rfl), Below.refl _ _⟩
      · have hz : (hAt s j - h + z == 0) = false := beq_eq_false_iff_ne.2 (by omega)
        have HA2 : Hid (r = nrGo s h (s.size - (j + 1)) (j + 1)) := by
          have := HA.out
          rw [HF.out.1, nrGo_miss hjl he, HF.out.2] at this
          exact this
        have HS2 : Hid (hAt s j - h + z = hAt s (j + 1) - h) := by unfold Hid; omega
        clear he hS hbj1
        go_wp2_with (go_at_call 111; refine (climb_any _ _).mono ?_; rintro e w' ⟨rfl, rfl⟩; rw [HZ.out])
        rw [HS2.out]
        go_round
        case rel => exact ⟨j + 1, by omega, by omega, by go_num, rfl, HA2⟩
        case measure => first | (simp [intOf]; done) | (simp [intOf]; omega)
    · have HA2 : Hid (r = s.size) := by
        have := HA.out
        rw [nrGo_end hjl] at this
        exact this
      go_wp2
      go_ret
      exact ⟨ret_int (by rw [HA2.out]), Below.refl _ _⟩
end Go.Proofs.Ytgajknnfmnnfeaa
