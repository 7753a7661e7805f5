/- markText: some text that depends on its number alone. -/
import Derived.Test.YtnlcainfkchieaaDoorSOwn
import Derived.Test.YtnlcainfkchieaaDoorBytes
import Derived.Deep.QuietTactic
import Derived.BigQuiet
namespace Go.Proofs.YtnlcainfkchieaaDoor
open Go.RowKit
def mtGo : Nat → Nat → ByteArray → ByteArray
  | 0, _, out => out
  | f + 1, k, out => if 0 < k then mtGo f (k / 10) (⟨#[UInt8.ofNat (48 + k % 10)]⟩ ++ out) else out
def mt (k : Nat) : ByteArray := ⟨#[109]⟩ ++ mtGo (k + 1) k ⟨#[]⟩
theorem mtGo_step {f k : Nat} {out : ByteArray} (h : 0 < k) : mtGo (f + 1) k out = mtGo f (k / 10) (⟨#[UInt8.ofNat (48 + k % 10)]⟩ ++ out) := by rw [mtGo, if_pos h]
theorem mtGo_end {f : Nat} {out : ByteArray} : mtGo f 0 out = out := by
  cases f <;> rfl
theorem run_one_byte (w : World) (n : Nat) (hn : n < 256) : (convert 52 9 (.slice (some ⟨w.heap.size, 0, none⟩) 1 1)).run Tryd.prog (w.alloc (.cells #[.int .u8 ((n : Nat) : Int)] 5)) = .ok (.string ⟨#[UInt8.ofNat n]⟩) (w.alloc (.cells #[.int .u8 ((n : Nat) : Int)] 5)) := by
  have := run_convert_bytes_back (P := Tryd.prog) (w.alloc (.cells #[.int .u8 ((n : Nat) : Int)] 5)) 52 9 5 ⟨w.heap.size, 0, none⟩ 1 [UInt8.ofNat n] Tryd.underlying52 Tryd.underlying5 Tryd.underlying9 (fun j hj => by
    obtain rfl : j = 0 := by simp at hj; omega
    simp [Addr.add]; omega)
  simpa using this
set_option maxRecDepth 100000 in
set_option maxHeartbeats 1000000 in
theorem markText_any (K : Nat) (w : World) (h1 : 0 < K) (h2 : K ≤ 1099511627776) :
    Calls Tryd.prog 53 #[.int .i64 (K : Nat)] w (Ret w (.string (mt K))) := by
  have HM : Hid (mt K = ⟨#[109]⟩ ++ mtGo (K + 1) K ⟨#[]⟩) := rfl
  generalize hN : mtGo (K + 1) K ⟨#[]⟩ = N at HM
  generalize mt K = M at *
  go_enter Tryd.func53, Tryd.ntmps53
  go_wp2
  go_loopw [0, 3] (fun t o wr => ∃ (k : Nat) (out : ByteArray), t = .int .i64 (k : Int) ∧ o = .string out ∧ out.size + k ≤ K ∧ Hid (∃ f, k < f ∧ mtGo f k out = N) ∧ Below w.heap.size w wr) (fun t _ _ => (intOf t).toNat)
  case atStart => exact ⟨K, ⟨#[]⟩, rfl, rfl, by show 0 + K ≤ K; omega, Lib.hid ⟨K + 1, by omega, hN⟩, Below.refl _ _⟩
  case round =>
    obtain ⟨k, out, rfl, rfl, hsz, HA, hb⟩ := hrel
    by_cases hlt : 0 < k
    · have HA2 : Hid (∃ f, k / 10 < f ∧ mtGo f (k / 10) (⟨#[UInt8.ofNat (48 + k % 10)]⟩ ++ out) = N) := by
        obtain ⟨f, h3, h4⟩ := HA.out
        obtain ⟨g, rfl⟩ : ∃ g, f = g + 1 := ⟨f - 1, by omega⟩
        rw [mtGo_step hlt] at h4
        exact ⟨g, by omega, h4⟩
      have hcv := run_one_byte wr (48 + k % 10) (by omega)
      have hz : ((48 + k % 10 : Nat) : Int) = 48 + (k : Int) % 10 := by omega
      rw [hz] at hcv
      have hs1 : (⟨#[UInt8.ofNat (48 + k % 10)]⟩ : ByteArray).size = 1 := rfl
      generalize (⟨#[UInt8.ofNat (48 + k % 10)]⟩ : ByteArray) = d at *
      go_wp2
      go_roundw
      case rel => exact ⟨k / 10, d ++ out, by go_num, rfl, by rw [ByteArray.size_append]; omega, HA2, hb.alloc (by have := hb.size; omega) _⟩
      case measure => simp [intOf]; omega
    · obtain rfl : k = 0 := by omega
      have HX : Hid (out = N) := by
        obtain ⟨f, h3, h4⟩ := HA.out
        rw [mtGo_end] at h4
        exact h4
      go_wp2
      go_ret
      exact ⟨ret_s (by rw [HM.out, HX.out]), hb⟩
end Go.Proofs.YtnlcainfkchieaaDoor
