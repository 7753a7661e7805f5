/- leadsAlong, baMargin: all margins; firstBelow, baFirst: the first that is too small. -/
import Derived.Test.YtgajknnfmnnfeaaPathOk
import Derived.Test.YtgajknnfmnnfeaaLists
import Derived.Test.YtgajknnfmnnfeaaBalMath
import Derived.Test.YtgajknnfmnnfeaaInB
namespace Go.Proofs.Ytgajknnfmnnfeaa
open Go.RowKit
theorem inK_inB (k : Int) : inB k 1 5 = inK k := rfl
theorem balOk_of {s : ByteArray} {k : Int} (h : balOk s k = true) : pathB s = true ∧ 1 ≤ k ∧ k ≤ 5 := by
  unfold balOk at h
  rw [Bool.and_eq_true] at h
  exact ⟨h.1, inK_of h.2⟩
def mgsV (s : ByteArray) (k : Int) : List Int := if balOk s k then mgs s k else []
set_option maxHeartbeats 400000 in
theorem firstBelow_any (f : Nat → Int) (n : Nat) (least : Int) (v : Value) (B : Nat) (w : World) (h : IRow w B v (fr f n)) (hn : n ≤ 1000000) :
    Calls Try.prog 96 #[v, .int .i64 least] w fun e w' => e = .returned (.tuple #[.int .i64 (fbV f least n), .bool (fbB f least n)]) ∧ w = w' := by
  by_cases h0 : n = 0
  · subst h0
    obtain ⟨A1, c1, rfl⟩ := h.shape
    rw [fr_length] at *
    clear h
    go_enter Try.func96, Try.ntmps96
    go_wp2
    refine wp_loop_rounds 1 ?_; rw [rounds_succ]
    go_wp2
    go_ret2
    exact ⟨rfl, rfl⟩
  · obtain ⟨g1, c1, rfl, _, _⟩ := h.form' (fr_length f n) (by omega)
    have H1 := Lib.hid h
    clear h h0
    go_enter Try.func96, Try.ntmps96
    go_wp2
    go_loop [10] (fun i => ∃ k : Nat, k ≤ n ∧ i = .int .i64 k ∧ Hid (fb f least k = -1)) (fun i => n - (intOf i).toNat)
    case atStart => exact ⟨0, Nat.zero_le _, rfl, Lib.hid rfl⟩
    case round =>
      obtain ⟨k, hk, rfl, HF⟩ := hrel
      by_cases hlt : k < n
      · have e1 := H1.out.cell (j := k) (by rw [fr_length]; omega)
        rw [fr_get f n k hlt] at e1
        by_cases hk0 : 0 < k
        · by_cases hl : f k < least
          · have HE := Lib.hid (fb_end HF.out hk0 hl hlt)
            go_wp2
            go_ret2
            exact ⟨ret_ib (fbV_yes HE.out).symm (fbB_yes HE.out).symm, rfl⟩
          · have HE := Lib.hid (fb_go HF.out (.inr hl))
            go_wp2
            go_round
            case rel => exact ⟨k + 1, by omega, by go_num, HE⟩
            case measure => first | (simp [intOf]; done) | (simp [intOf]; omega)
        · obtain rfl : k = 0 := by omega
          have HE := Lib.hid (fb_go HF.out (.inl rfl))
          go_wp2
          go_round
          case rel => exact ⟨1, by omega, rfl, HE⟩
          case measure => first | (simp [intOf]; done) | (simp [intOf]; omega)
      · have HK : Hid (k = n) := by unfold Hid; omega
        go_wp2
        go_ret2
        have h9 := HF.out
        rw [HK.out] at h9
        exact ⟨ret_ib (fbV_no h9).symm (fbB_no h9).symm, rfl⟩
end Go.Proofs.Ytgajknnfmnnfeaa
