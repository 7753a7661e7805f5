/- RankOfTree. -/
import Derived.Test.YtgajknnfmnnfeaaDeg
import Derived.Test.YtgajknnfmnnfeaaTreeNum
namespace Go.Proofs.Ytgajknnfmnnfeaa
open Go.RowKit
set_option linter.unusedVariables false
theorem numN_bd (n t : Nat) (hn : n ≤ 16) : numN n t ≤ 17592186044416 := by
  unfold numN
  split
  · split <;> omega
  · split
    · omega
    · have := chs_small40 (2 * n - t) n (by omega)
      have h2 : chs (2 * n - t) n * t ≤ 1099511627776 * 16 := Nat.mul_le_mul this (by omega)
      exact Nat.le_trans (Nat.div_le_self _ _) h2
def rkIn (left T : Nat) : Nat → Nat
  | 0 => 0
  | k + 1 => rkIn left T k + numN left (T - 1 + k)
theorem rkIn_bd (left T : Nat) (hl : left ≤ 16) : ∀ k, rkIn left T k ≤ 17592186044416 * k
  | 0 => Nat.le_refl _
  | k + 1 => by
    have h1 := rkIn_bd left T hl k
    have h2 := numN_bd left (T - 1 + k) hl
    rw [rkIn]
    omega
/-- how many trees wait before the k-th -/
def trT (xs : List Int) (k : Nat) : Nat := (1 + sumT xs k - (k : Int)).toNat
def rkT (xs : List Int) : Nat → Nat
  | 0 => 0
  | k + 1 => rkT xs k + rkIn (xs.length - k - 1) (trT xs k) (xs.getD k 0).toNat
theorem rkT_bd {xs : List Int} (h : degB xs = true) : ∀ k, k ≤ xs.length → rkT xs k ≤ 17592186044416 * 16 * k
  | 0, _ => Nat.le_refl _
  | k + 1, hk => by
    have h1 := rkT_bd h k (by omega)
    have h2 := (degB_of h).2 k (by omega)
    have h3 := (degB_of h).1
    have h4 := rkIn_bd (xs.length - k - 1) (trT xs k) (by omega) (xs.getD k 0).toNat
    have h5 : (xs.getD k 0).toNat ≤ 16 := by omega
    have h6 := Nat.mul_le_mul_left 17592186044416 h5
    rw [rkT]
    omega
theorem upB_at {xs : List Int} {r : Int} : ∀ m, upB xs r m = true → ∀ k, k < m → k + 1 < xs.length → -r < sumT xs (k + 1) - ((k + 1 : Nat) : Int)
  | 0, _, k, hk, _ => absurd hk (by omega)
  | m + 1, h, k, hk, hl => by
    rw [upB, Bool.and_eq_true] at h
    by_cases e : k = m
    · subst e
      have h2 := h.2
      rw [Bool.not_eq_true', Bool.and_eq_false_iff, decide_eq_false_iff_not, decide_eq_false_iff_not] at h2
      omega
    · exact upB_at m h.1 k (by omega) hl
theorem trT_pos {xs : List Int} (hf : forB xs = true) (he : exc xs = 1) (k : Nat) (hk : k < xs.length) : 1 ≤ 1 + sumT xs k - (k : Int) := by
  unfold forB at hf
  rw [Bool.and_eq_true, he] at hf
  match k with
  | 0 => rw [sumT_0]; omega
  | k + 1 =>
    have := upB_at xs.length hf.2 k (by omega) hk
    omega
def rtOk (xs : List Int) : Bool := forV xs && decide (exc xs = 1)
def rtV (xs : List Int) : Int := if rtOk xs then (rkT xs xs.length : Nat) else 0
set_option maxHeartbeats 2000000 in
theorem specRankOfTree_ret (v : Value) (xs : List Int) (w : World) (h : RInts w v xs) (hl : xs.length ≤ 1048576) :
    Calls Try.prog 54 #[v] w (Ret w (.tuple #[.int .i64 (rtV xs), .bool (rtOk xs)])) := by
  obtain ⟨A0, cap, rfl⟩ := h.shape
  have H := Lib.hid h
  clear h
  have HI : Hid (∀ w, RInts w (.slice A0 xs.length cap) xs → Calls Try.prog 66 #[.slice A0 xs.length cap] w fun e w' => e = .returned (.bool (forV xs)) ∧ w = w') := Lib.hid fun w h => cyIs_any _ xs w h hl
  rcases Bool.eq_false_or_eq_true (forV xs) with hf | hf
  · have hd : degB xs = true := by unfold forV at hf; rw [Bool.and_eq_true] at hf; exact hf.1
    have hb : forB xs = true := by unfold forV at hf; rw [Bool.and_eq_true] at hf; exact hf.2
    have HX : Hid (∀ w, RInts w (.slice A0 xs.length cap) xs → Calls Try.prog 61 #[.slice A0 xs.length cap] w fun e w' => e = .returned (.int .i64 (exc xs)) ∧ w = w') := Lib.hid fun w h => cyExcess_any _ xs w h hd
    by_cases he : exc xs = 1
    · have e1 : rtOk xs = true := by unfold rtOk; rw [hf, decide_eq_true he]; rfl
      have e2 : rtV xs = (rkT xs xs.length : Nat) := by unfold rtV; rw [e1]; rfl
      rw [e1, e2]
      rw [hf] at HI
      rw [he] at HX
      have HT := Lib.hid (fun k => trT_pos hb he k)
      have HD := Lib.hid hd
      have hn := (degB_of hd).1
      clear e1 e2 hf hb he hd
      go_enter Try.func54, Try.ntmps54
      go_wp2_with (first | (go_at_call 66; refine (HI.out _ H.out).mono ?_; rintro e w' ⟨rfl, rfl⟩) | (go_at_call 61; refine (HX.out _ H.out).mono ?_; rintro e w' ⟨rfl, rfl⟩))
      go_loopw [4, 5, 20] (fun r t i wr => ∃ k : Nat, k ≤ xs.length ∧ i = .int .i64 (k : Int) ∧ ∃ (R : Nat) (T : Int), r = .int .i64 (R : Int) ∧ t = .int .i64 T ∧ R = rkT xs k ∧ T = 1 + sumT xs k - (k : Int) ∧ Below w.heap.size w wr) (fun _ _ i _ => xs.length - (intOf i).toNat)
      case atStart => exact ⟨0, by omega, rfl, 0, 1, rfl, rfl, rfl, by rw [sumT_0]; rfl, Below.refl _ _⟩
      case round =>
        obtain ⟨k, hk, rfl, R, T, rfl, rfl, hR, hT, hb⟩ := hrel
        by_cases hlt : k < xs.length
        · obtain ⟨g, o, cc, hv, hg, hcells⟩ := H.out.cells (by omega)
          have hA : A0 = some ⟨g, o, none⟩ := by injection hv
          subst hA
          clear hv
          have e1 : wr.cell? ⟨g, o + k, none⟩ = some (.int .i64 (xs.getD k 0)) := (hb.cell (p := ⟨g, o + k, none⟩) hg).trans (hcells k hlt)
          clear hcells
          have hx := (degB_of HD.out).2 k hlt
          have hT1 := HT.out k hlt
          rw [← hT] at hT1
          have hsb := sumT_bd HD.out k hk
          have hTb : T ≤ 257 := by omega
          have hRb := rkT_bd HD.out k hk
          rw [← hR] at hRb
          have hRb2 : R ≤ 4503599627370496 := by omega
          have HS := Lib.hid (sumT_succ xs k hlt)
          have HR1 : Hid (rkT xs (k + 1) = R + rkIn (xs.length - k - 1) T.toNat (xs.getD k 0).toNat) := by
            unfold Hid
            rw [rkT, hR, hT]
            rfl
          have HT1 : Hid (T + (xs.getD k 0 - 1) = 1 + sumT xs (k + 1) - ((k + 1 : Nat) : Int)) := by have := HS.out; unfold Hid; omega
          clear hR hT hRb HS hsb
          generalize xs.getD k 0 = x at *
          obtain ⟨n, rfl⟩ := Int.eq_ofNat_of_zero_le hx.1
          obtain ⟨S, rfl⟩ := Int.eq_ofNat_of_zero_le (show 0 ≤ T by omega)
          rw [Int.toNat_natCast, Int.toNat_natCast] at HR1
          have HBEL := Lib.hid hb
          clear hb
          go_wp2_with fail
          go_loopw [4, 9] (fun r c ws => ∃ m : Nat, m ≤ n ∧ c = .int .i64 (m : Int) ∧ ∃ V : Nat, r = .int .i64 (V : Int) ∧ V = R + rkIn (xs.length - k - 1) S m ∧ Below w.heap.size w ws) (fun _ c _ => n - (intOf c).toNat)
          case atStart => exact ⟨0, Nat.zero_le _, rfl, R, rfl, rfl, HBEL.out⟩
          case round =>
            obtain ⟨m, hm, rfl, V, rfl, hV, hb⟩ := hrel
            clear e1
            have hi := rkIn_bd (xs.length - k - 1) S (by omega) m
            have hVb : V ≤ 5503599627370496 := by omega
            by_cases hmn : m < n
            · have HN : Hid (∀ w, Calls Try.prog 92 #[.int .i64 ((xs.length : Int) - (k : Int) - 1), .int .i64 ((S : Int) - 1 + (m : Int))] w (Ret w (.int .i64 (numN (xs.length - k - 1) (S - 1 + m) : Nat)))) := Lib.hid fun w => by
                have := cyNumber_ret (xs.length - k - 1) (S - 1 + m) w (by omega) (by omega)
                rwa [show ((xs.length - k - 1 : Nat) : Int) = (xs.length : Int) - (k : Int) - 1 by omega, show ((S - 1 + m : Nat) : Int) = (S : Int) - 1 + (m : Int) by omega] at this
              have hnb := numN_bd (xs.length - k - 1) (S - 1 + m) (by omega)
              have HV2 : Hid (V + numN (xs.length - k - 1) (S - 1 + m) = R + rkIn (xs.length - k - 1) S (m + 1)) := by unfold Hid; rw [rkIn, hV]; omega
              clear hV hi
              have hsz := hb.size
              generalize numN (xs.length - k - 1) (S - 1 + m) = C at *
              go_wp2_with (go_at_call 92; refine (HN.out _).mono ?_; rintro e w1 ⟨rfl, hb1⟩)
              go_roundw
              case rel => exact ⟨m + 1, by omega, by go_num, V + C, by go_num, HV2.out, hb.trans (hb1.mono hsz)⟩
              case measure => first | (simp [intOf]; done) | (simp [intOf]; omega)
            · have hm2 : m = n := by omega
              subst hm2
              rw [← HR1.out] at hV
              have HV := Lib.hid hV
              clear hV hi
              go_wp2_with fail
              go_roundw
              case rel => exact ⟨k + 1, by omega, by go_num, V, (S : Int) + ((m : Int) - 1), rfl, by go_num, HV.out, HT1.out, hb⟩
              case measure => first | (simp [intOf]; done) | (simp [intOf]; omega)
        · have hk2 : k = xs.length := by omega
          subst hk2
          have HV := Lib.hid hR
          clear hR hT
          go_wp2_with fail
          go_ret2
          rw [HV.out]
          exact ⟨rfl, hb⟩
    · have e1 : rtOk xs = false := by unfold rtOk; rw [decide_eq_false he, Bool.and_false]
      have e2 : rtV xs = 0 := by unfold rtV; rw [e1]; rfl
      have q : (exc xs == 1) = false := beq_eq_false_iff_ne.2 he
      have hr : -240 ≤ exc xs ∧ exc xs ≤ 16 := by
        have hn := (degB_of hd).1
        have hb := sumT_bd hd xs.length (Nat.le_refl _)
        unfold exc
        omega
      rw [e1, e2]
      rw [hf] at HI
      clear e1 e2 hf hb hd
      generalize exc xs = r at *
      go_enter Try.func54, Try.ntmps54
      go_wp2_with (first | (go_at_call 66; refine (HI.out _ H.out).mono ?_; rintro e w' ⟨rfl, rfl⟩) | (go_at_call 61; refine (HX.out _ H.out).mono ?_; rintro e w' ⟨rfl, rfl⟩))
      go_ret2
      exact ⟨rfl, Below.refl _ _⟩
  · have e1 : rtOk xs = false := by unfold rtOk; rw [hf, Bool.false_and]
    have e2 : rtV xs = 0 := by unfold rtV; rw [e1]; rfl
    rw [e1, e2]
    rw [hf] at HI
    clear e1 e2 hf
    go_enter Try.func54, Try.ntmps54
    go_wp2_with (go_at_call 66; refine (HI.out _ H.out).mono ?_; rintro e w' ⟨rfl, rfl⟩)
    go_ret2
    exact ⟨rfl, Below.refl _ _⟩
end Go.Proofs.Ytgajknnfmnnfeaa
