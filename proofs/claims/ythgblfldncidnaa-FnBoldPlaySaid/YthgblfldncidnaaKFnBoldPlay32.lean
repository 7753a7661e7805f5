/- Pack 32 of what FnBoldPlay needs: TchS, IdxI. -/
import Derived.Test.YthgblfldncidnaaKFnBoldPlay31
import Derived.Deep.RegionLaw
import Derived.Lib.MinMax
/- The model's chapter 4: heights that are touched. -/
namespace Go.Proofs.Ythgblfldncidnaa
open Go.RowKit
set_option linter.unusedVariables false
def faOk (s : ByteArray) (h : Int) : Bool := pathB s && inB h (-40) 40 && decide (0 ≤ faZ s h)
def faV (s : ByteArray) (h : Int) : Int := if faOk s h = true then faZ s h else 0
def rbV (s : ByteArray) (h : Int) : ByteArray := if faOk s h = true then turnS (s.extract 0 (faZ s h).toNat) ++ s.extract (faZ s h).toNat s.size else ⟨#[]⟩
def rhV (s : ByteArray) (h : Int) : ByteArray := if faOk s h = true then s.extract 0 (faZ s h).toNat ++ turnS (s.extract (faZ s h).toNat s.size) else ⟨#[]⟩
end Go.Proofs.Ythgblfldncidnaa

/- slices.Index over numbers; the program's FirstAt. -/
namespace Go.Proofs.Ythgblfldncidnaa
open Go.RowKit
set_option linter.unusedVariables false
def ixGo (xs : List Int) (h : Int) : Nat → Nat → Int
  | 0, _ => -1
  | n + 1, k => if xs.getD k 0 = h then k else ixGo xs h n (k + 1)
def ixZ (xs : List Int) (h : Int) : Int := ixGo xs h xs.length 0
theorem ixGo_fa (s : ByteArray) (h : Int) : ∀ n k, k + n ≤ s.size + 1 → ixGo (hts s) h n k = faGo s h n k
  | 0, _, _ => rfl
  | n + 1, k, hk => by
    have e : (hts s).getD k 0 = hAt s k := by rw [List.getD_eq_getElem?_getD, hts_get s k (by omega)]; rfl
    rw [ixGo, faGo, e, ixGo_fa s h n (k + 1) (by omega)]
theorem ixZ_hts (s : ByteArray) (h : Int) : ixZ (hts s) h = faZ s h := by
  unfold ixZ faZ
  rw [hts_length]
  exact ixGo_fa s h _ _ (by omega)
theorem faGo_hit (s : ByteArray) (h : Int) : ∀ n k, 0 ≤ faGo s h n k → ∃ j, j < k + n ∧ hAt s j = h
  | 0, _, h0 => by rw [faGo] at h0; omega
  | n + 1, k, h0 => by
    rw [faGo] at h0
    split at h0
    · exact ⟨k, by omega, by assumption⟩
    · obtain ⟨j, h1, h2⟩ := faGo_hit s h n (k + 1) h0
      exact ⟨j, by omega, h2⟩
theorem faZ_in {s : ByteArray} {h : Int} (hp : pathB s = true) (h0 : 0 ≤ faZ s h) : inB h (-40) 40 = true := by
  obtain ⟨j, h1, h2⟩ := faGo_hit s h _ _ h0
  have h40 := ((pathB_iff s).1 hp).1
  have := hAt_bd s j (by omega)
  unfold inB
  simp
  omega
set_option maxHeartbeats 800000 in
theorem index_any (v : Value) (xs : List Int) (h : Int) (w : World) (hr : RInts w v xs) (hl : xs.length ≤ 1048576) :
    Calls Try.prog 38 #[v, .int .i64 h] w fun e w' => e = .returned (.int .i64 (ixZ xs h)) ∧ w = w' := by
  obtain ⟨A0, cap, rfl⟩ := hr.shape
  have H := Lib.hid hr
  clear hr
  go_enter Try.func38, Try.ntmps38
  go_wp2
  go_loop [8] (fun i => ∃ k : Nat, k ≤ xs.length ∧ i = .int .i64 (k : Int) ∧ Hid (ixGo xs h (xs.length - k) k = ixZ xs h)) (fun i => xs.length - (intOf i).toNat)
  case atStart => exact ⟨0, Nat.zero_le _, rfl, Lib.hid rfl⟩
  case round =>
    obtain ⟨k, hk, rfl, HF⟩ := hrel
    by_cases hlt : k < xs.length
    · obtain ⟨g, o, cc, hv, hg, hcells⟩ := H.out.cells (by omega)
      have hA : A0 = some ⟨g, o, none⟩ := by injection hv
      subst hA
      have hc := hcells k hlt
      have HF1 := HF.out
      rw [show xs.length - k = (xs.length - (k + 1)) + 1 by omega, ixGo] at HF1
      clear hv hcells
      by_cases hq : xs.getD k 0 = h
      · have q : (h == xs.getD k 0) = true := by rw [hq]; simp
        rw [if_pos hq] at HF1
        have HF2 := Lib.hid HF1
        clear HF1 hq
        generalize xs.getD k 0 = x at *
        go_wp2
        go_ret
        exact ⟨by rw [← HF2.out]; rfl, rfl⟩
      · have q : (h == xs.getD k 0) = false := beq_eq_false_iff_ne.2 (fun e => hq e.symm)
        rw [if_neg hq] at HF1
        have HF2 := Lib.hid HF1
        clear HF1 hq
        generalize xs.getD k 0 = x at *
        go_wp2
        go_round
        case rel => exact ⟨k + 1, by omega, by go_num, HF2⟩
        case measure => simp [intOf]; omega
    · have HF2 : Hid (ixZ xs h = -1) := Lib.hid (by rw [← HF.out, show xs.length - k = 0 by omega]; rfl)
      go_wp2
      go_ret
      exact ⟨by rw [HF2.out]; rfl, rfl⟩
def fstV (s : ByteArray) (h : Int) : Int := if pathB s = true then faZ s h else -1
theorem fst_ok (s : ByteArray) (h : Int) : faOk s h = decide (0 ≤ fstV s h) := by
  unfold faOk fstV
  rcases Bool.eq_false_or_eq_true (pathB s) with hp | hp
  · rw [hp, if_pos rfl]
    by_cases h0 : 0 ≤ faZ s h
    · rw [faZ_in hp h0, decide_eq_true h0]; rfl
    · rw [decide_eq_false h0, Bool.and_false]
  · rw [hp]; simp
theorem fst_v (s : ByteArray) (h : Int) : faV s h = max (fstV s h) 0 := by
  unfold faV
  rw [fst_ok]
  by_cases h0 : 0 ≤ fstV s h
  · rw [decide_eq_true h0, if_pos rfl]
    have : fstV s h = faZ s h := by
      unfold fstV at h0 ⊢
      split
      · rfl
      · rename_i hp; rw [if_neg hp] at h0; omega
    omega
  · rw [decide_eq_false h0, if_neg (by simp)]
    omega
theorem fst_bd (s : ByteArray) (h : Int) : -1 ≤ fstV s h ∧ fstV s h ≤ s.size := by
  have := faZ_bd s h
  unfold fstV
  split <;> omega
end Go.Proofs.Ythgblfldncidnaa
