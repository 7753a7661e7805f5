/- PathOfRank. -/
import Derived.Test.YtdekjmbbogddgabRankMath
import Derived.Test.YtdekjmbbogddgabChoose
import Derived.Test.YtdekjmbbogddgabBytes
namespace Go.Proofs.Ytdekjmbbogddgab
open Go.RowKit
theorem rankOk_1 {u d r : Int} (h : cntOk u d = false) : rankOk u d r = false := by simp [rankOk, h]
theorem rankOk_2 {u d r : Int} (h : r < 0) : rankOk u d r = false := by simp [rankOk]; intro _ _; omega
theorem rankOk_3 {u d r : Int} (h : cntV u d ≤ r) : rankOk u d r = false := by simp [rankOk]; intro _ _; omega
theorem rankOk_4 {u d r : Int} (h1 : cntOk u d = true) (h2 : 0 ≤ r) (h3 : r < cntV u d) : rankOk u d r = true := by simp [rankOk, h1, h2, h3]
theorem cnt_downs (n u d : Nat) (hn : n + 1 = u + d) (h40 : n + 1 ≤ 40) : cntV (u : Int) ((d : Int) - 1) = (downs n u d : Nat) := by
  unfold downs
  by_cases h : d = 0
  · rw [if_pos h, cntV_no (by omega)]; rfl
  · rw [if_neg h]
    have e : ((d : Int) - 1) = ((d - 1 : Nat) : Int) := by omega
    rw [e, cntV_yes (by omega), show d - 1 + u = n by omega]
def porS (u d r : Int) : ByteArray := if rankOk u d r then strOf (porV u d r) else strOf []
set_option maxHeartbeats 1000000 in
theorem pathOfRank_yes (u d r : Nat) (w : World) (h : RankAt (u + d) u d r) :
    Calls Try.prog 32 #[.int .i64 u, .int .i64 d, .int .i64 r] w (Ret w (.tuple #[.string (strOf (por (u + d) u d r)), .bool true])) := by
  have hsm := h.small
  have hlt := h.lt
  have hcs := chs_small40 (u + d) u hsm
  have HC : Hid (cntV (u : Int) (d : Int) = (chs (u + d) u : Nat)) := by unfold Hid; rw [cntV_yes hsm, Nat.add_comm]
  have hok : cntOk (u : Int) (d : Int) = true := cntOk_yes (by omega)
  have j1 : decide ((r : Int) < 0) = false := decide_eq_false (by omega)
  generalize hcn : chs (u + d) u = cn at *
  clear hcn
  go_enter Try.func32, Try.ntmps32
  go_wp2_with fail
  refine (count_ret _ _ _).mono ?_
  rintro e w' ⟨rfl, rfl⟩
  rw [HC.out, hok]
  have j2 : decide (cn ≤ r) = false := decide_eq_false (by omega)
  go_wp2_with fail
  generalize hN : por (u + d) u d r = N at *
  have HN : Hid ([] ++ por (u + d) u d r = N) := hN
  clear hN
  go_loopw [0, 1, 2, 10] (fun a b c v wr => ∃ (n u' d' r' : Nat) (out : List UInt8), RankAt n u' d' r' ∧ a = .int .i64 (u' : Int) ∧ b = .int .i64 (d' : Int) ∧ c = .int .i64 (r' : Int) ∧ Hid (out ++ por n u' d' r' = N) ∧ Hid (out.length + n = u + d) ∧ BOwn wr w.heap.size v out ∧ Below w.heap.size w wr) (fun a b _ _ _ => (intOf a + intOf b).toNat)
  case atStart => exact ⟨u + d, u, d, r, [], h, rfl, rfl, rfl, HN, Lib.hid (by simp), BOwn.nil _ _, Below.refl _ _⟩
  case round =>
    obtain ⟨n, u', d', r', out, hra, rfl, rfl, rfl, HO, HLen, hrow, hb⟩ := hrel
    clear HN HC
    have hsum := hra.sum
    have hsm' := hra.small
    have holen : out.length ≤ 40 := by have := HLen.out; omega
    have hsz := hb.size
    by_cases hpos : 0 < n
    · obtain ⟨m, rfl⟩ : ∃ m, n = m + 1 := ⟨n - 1, by omega⟩
      have HG := Lib.hid (cnt_downs m u' d' hsum hsm')
      have hdl := downs_le m u' d' (by omega)
      by_cases hr : r' < downs m u' d'
      · obtain ⟨hd1, hra'⟩ := hra.down hr
        have HP := Lib.hid (por_down hr)
        generalize downs m u' d' = g at *
        go_wp2_with (first | (go_at_call 34; refine (count_ret _ _ _).mono ?_; rintro e w' ⟨rfl, rfl⟩; rw [HG.out]) | (at_builtin; refine wpList_pushB 68 (.tmp 44) (.tmp 45) rfl rfl w.heap.size _ out rfl hrow rfl (by omega) hsz ?_; intro v' w' hrow' hg' hat'))
        go_roundw
        case rel => exact ⟨m, u', d' - 1, r', out ++ [68], hra', rfl, by go_num, rfl, Lib.hid (by rw [← HO.out, HP.out]; simp), Lib.hid (by have := HLen.out; simp; omega), hrow', hb.grown hg' hsz (fun j hj => (hrow.blk j hj).1)⟩
        case measure => first | (simp [intOf]; done) | (simp [intOf]; omega)
      · obtain ⟨hd1, hra'⟩ := hra.up hr
        have HP := Lib.hid (por_up hr)
        generalize downs m u' d' = g at *
        have hrl := hra.lt
        have hcs' := chs_small40 (m + 1) u' hsm'
        go_wp2_with (first | (go_at_call 34; refine (count_ret _ _ _).mono ?_; rintro e w' ⟨rfl, rfl⟩; rw [HG.out]) | (at_builtin; refine wpList_pushB 85 (.tmp 49) (.tmp 50) rfl rfl w.heap.size _ out rfl hrow rfl (by omega) hsz ?_; intro v' w' hrow' hg' hat'))
        go_roundw
        case rel => exact ⟨m, u' - 1, d', r' - g, out ++ [85], hra', by go_num, rfl, by go_num, Lib.hid (by rw [← HO.out, HP.out]; simp), Lib.hid (by have := HLen.out; simp; omega), hrow', hb.grown hg' hsz (fun j hj => (hrow.blk j hj).1)⟩
        case measure => first | (simp [intOf]; done) | (simp [intOf]; omega)
    · obtain rfl : n = 0 := by omega
      have HX : Hid (out = N) := by have := HO.out; unfold Hid; simpa [por] using this
      have hcv := run_str_own hrow
      have i3 : ¬ 0 < (u' : Int) + (d' : Int) := by omega
      go_wp2
      go_ret2
      exact ⟨ret_sb (by rw [HX.out]) rfl, hb⟩
theorem cntV_bd (u d : Int) : 0 ≤ cntV u d ∧ cntV u d ≤ 1099511627776 := by
  unfold cntV cntOk
  split
  · rename_i h; simp at h; exact chZ_bd _ _ (by omega)
  · omega
set_option maxHeartbeats 400000 in
theorem pathOfRank_no (u d r : Int) (w : World) (h : rankOk u d r = false) :
    Calls Try.prog 32 #[.int .i64 u, .int .i64 d, .int .i64 r] w (Ret w (.tuple #[.string (strOf []), .bool false])) := by
  have hbd := cntV_bd u d
  rcases Bool.eq_false_or_eq_true (cntOk u d) with h1 | h1
  · by_cases h2 : r < 0
    · clear h
      generalize cntV u d = cn at *
      go_enter Try.func32, Try.ntmps32
      go_wp2_with fail
      refine (count_ret _ _ _).mono ?_
      rintro e w' ⟨rfl, rfl⟩
      rw [h1]
      go_wp2_with fail
      go_ret2
      exact ⟨rfl, Below.refl _ _⟩
    · have h3 : cntV u d ≤ r := by
        by_cases h4 : r < cntV u d
        · rw [rankOk_4 h1 (by omega) h4] at h; cases h
        · omega
      clear h
      go_enter Try.func32, Try.ntmps32
      go_wp2_with fail
      refine (count_ret _ _ _).mono ?_
      rintro e w' ⟨rfl, rfl⟩
      rw [h1]
      generalize cntV u d = cn at *
      go_wp2_with fail
      go_ret2
      exact ⟨rfl, Below.refl _ _⟩
  · clear h
    go_enter Try.func32, Try.ntmps32
    go_wp2_with fail
    refine (count_ret _ _ _).mono ?_
    rintro e w' ⟨rfl, rfl⟩
    rw [h1]
    go_wp2_with fail
    go_ret2
    exact ⟨rfl, Below.refl _ _⟩
theorem rankOk_nat {u d r : Int} (h : rankOk u d r = true) : ∃ a b c : Nat, u = a ∧ d = b ∧ r = c ∧ RankAt (a + b) a b c := by
  have h' := h
  simp [rankOk, cntOk] at h
  obtain ⟨⟨⟨⟨h1, h2⟩, h3⟩, h4⟩, h5⟩ := h
  obtain ⟨a, rfl⟩ := Int.eq_ofNat_of_zero_le h1
  obtain ⟨b, rfl⟩ := Int.eq_ofNat_of_zero_le h2
  obtain ⟨c, rfl⟩ := Int.eq_ofNat_of_zero_le h4
  rw [cntV_yes (by omega)] at h5
  refine ⟨a, b, c, rfl, rfl, rfl, rfl, by omega, ?_⟩
  rw [Nat.add_comm a b]; omega
theorem porV_nat (a b c : Nat) : porV a b c = por (a + b) a b c := by simp [porV]
theorem pathOfRank_ret (u d r : Int) (w : World) : Calls Try.prog 32 #[.int .i64 u, .int .i64 d, .int .i64 r] w (Ret w (.tuple #[.string (porS u d r), .bool (rankOk u d r)])) := by
  unfold porS
  rcases Bool.eq_false_or_eq_true (rankOk u d r) with h | h
  · obtain ⟨a, b, c, rfl, rfl, rfl, hr⟩ := rankOk_nat h
    rw [h, if_pos rfl, porV_nat]
    exact pathOfRank_yes a b c w hr
  · rw [h]
    exact pathOfRank_no u d r w h
theorem strOf_snoc (l : List UInt8) (c : UInt8) : strOf l ++ (⟨#[c]⟩ : ByteArray) = strOf (l ++ [c]) := by
  apply ByteArray.ext
  simp [strOf]
set_option maxHeartbeats 1000000 in
theorem specPathOfRank_yes (u d r : Nat) (w : World) (h : RankAt (u + d) u d r) :
    Calls Try.prog 31 #[.int .i64 u, .int .i64 d, .int .i64 r] w (Ret w (.tuple #[.string (strOf (por (u + d) u d r)), .bool true])) := by
  have hsm := h.small
  have hlt := h.lt
  have hcs := chs_small40 (u + d) u hsm
  have HC : Hid (chZ ((u : Int) + (d : Int)) (u : Int) = (chs (u + d) u : Nat)) := chZ_nat (u + d) u
  have hok : cntOk (u : Int) (d : Int) = true := cntOk_yes (by omega)
  generalize hcn : chs (u + d) u = cn at *
  clear hcn
  have hin : inB (r : Int) 0 ((cn : Int) - 1) = true := inB_yes (by omega)
  go_enter Try.func31, Try.ntmps31
  go_wp2_with fail
  refine (steps_any _ _ _).mono ?_
  rintro e w' ⟨rfl, rfl⟩
  rw [hok]
  go_wp2_with fail
  refine (choose_ret ((u : Int) + d) u _ (by omega)).mono ?_
  rintro e w1 ⟨rfl, hb1⟩
  rw [HC.out]
  go_wp2_with fail
  refine (in_any _ _ _ _).mono ?_
  rintro e w' ⟨rfl, rfl⟩
  rw [hin]
  go_wp2_with fail
  generalize hN : por (u + d) u d r = N at *
  have HN : Hid ([] ++ por (u + d) u d r = N) := hN
  have hsz1 := hb1.size
  clear hN
  go_loopw [0, 1, 2, 8] (fun a b c v wr => ∃ (n u' d' r' : Nat) (out : List UInt8), RankAt n u' d' r' ∧ a = .int .i64 (u' : Int) ∧ b = .int .i64 (d' : Int) ∧ c = .int .i64 (r' : Int) ∧ Hid (out ++ por n u' d' r' = N) ∧ Hid (out.length + n = u + d) ∧ v = .string (strOf out) ∧ Below w.heap.size w wr) (fun a b _ _ _ => (intOf a + intOf b).toNat)
  case atStart => exact ⟨u + d, u, d, r, [], h, rfl, rfl, rfl, HN, Lib.hid (by simp), rfl, hb1⟩
  case round =>
    obtain ⟨n, u', d', r', out, hra, rfl, rfl, rfl, HO, HLen, rfl, hb⟩ := hrel
    clear HN HC
    have hsum := hra.sum
    have hsm' := hra.small
    have holen : (strOf out).size ≤ 40 := by have := HLen.out; rw [strOf_size]; omega
    have hsz := hb.size
    by_cases hpos : 0 < n
    · obtain ⟨m, rfl⟩ : ∃ m, n = m + 1 := ⟨n - 1, by omega⟩
      have hdl := downs_le m u' d' (by omega)
      have HG : 0 < d' → Hid (chZ ((u' : Int) + (d' : Int) - 1) (u' : Int) = (downs m u' d' : Nat)) := fun hd => by
        unfold Hid downs
        rw [if_neg (by omega), show (u' : Int) + (d' : Int) - 1 = (m : Int) by omega]
        exact chZ_nat m u'
      have HZ : d' = 0 → downs m u' d' = 0 := fun hd => by unfold downs; rw [if_pos hd]
      by_cases hr : r' < downs m u' d'
      · obtain ⟨hd1, hra'⟩ := hra.down hr
        have HP := Lib.hid (por_down hr)
        have HG' := HG (by omega)
        clear HG HZ
        generalize downs m u' d' = g at *
        go_wp2_with (go_at_call 57; refine (choose_ret _ _ _ (by omega)).mono ?_; rintro e w' ⟨rfl, hb'⟩; rw [HG'.out])
        go_roundw
        case rel => exact ⟨m, u', d' - 1, r', out ++ [68], hra', rfl, by go_num, rfl, Lib.hid (by rw [← HO.out, HP.out]; simp), Lib.hid (by have := HLen.out; simp; omega), congrArg Value.string (strOf_snoc out 68), hb.trans (hb'.mono hsz)⟩
        case measure => first | (simp [intOf]; done) | (simp [intOf]; omega)
      · obtain ⟨hd1, hra'⟩ := hra.up hr
        have HP := Lib.hid (por_up hr)
        have hrl := hra.lt
        have hcs' := chs_small40 (m + 1) u' hsm'
        by_cases hd0 : 0 < d'
        · have HG' := HG hd0
          clear HG HZ
          generalize downs m u' d' = g at *
          go_wp2_with (go_at_call 57; refine (choose_ret _ _ _ (by omega)).mono ?_; rintro e w' ⟨rfl, hb'⟩; rw [HG'.out])
          go_roundw
          case rel => exact ⟨m, u' - 1, d', r' - g, out ++ [85], hra', by go_num, rfl, by go_num, Lib.hid (by rw [← HO.out, HP.out]; simp), Lib.hid (by have := HLen.out; simp; omega), congrArg Value.string (strOf_snoc out 85), hb.trans (hb'.mono hsz)⟩
          case measure => first | (simp [intOf]; done) | (simp [intOf]; omega)
        · have HG' := HZ (by omega)
          clear HG HZ
          rw [HG'] at hr hra' HP
          clear HG' hdl
          rw [Nat.sub_zero] at hra' HP
          go_wp2
          go_roundw
          case rel => exact ⟨m, u' - 1, d', r', out ++ [85], hra', by go_num, rfl, rfl, Lib.hid (by rw [← HO.out, HP.out]; simp), Lib.hid (by have := HLen.out; simp; omega), congrArg Value.string (strOf_snoc out 85), hb⟩
          case measure => first | (simp [intOf]; done) | (simp [intOf]; omega)
    · obtain rfl : n = 0 := by omega
      have HX : Hid (out = N) := by have := HO.out; unfold Hid; simpa [por] using this
      have i3 : ¬ 0 < (u' : Int) + (d' : Int) := by omega
      go_wp2
      go_ret2
      exact ⟨ret_sb (by rw [HX.out]) rfl, hb⟩
set_option maxHeartbeats 400000 in
theorem specPathOfRank_no (u d r : Int) (w : World) (h : rankOk u d r = false) :
    Calls Try.prog 31 #[.int .i64 u, .int .i64 d, .int .i64 r] w (Ret w (.tuple #[.string (strOf []), .bool false])) := by
  rcases Bool.eq_false_or_eq_true (cntOk u d) with h1 | h1
  · have hHC : cntV u d = chZ (u + d) u := by unfold cntV; rw [if_pos h1]
    have h1' := h1
    simp [cntOk] at h1'
    obtain ⟨⟨p1, p2⟩, p3⟩ := h1'
    have hcb := chZ_bd (u + d) u p3
    have hin : inB r 0 (chZ (u + d) u - 1) = false := inB_no (fun hh => by
      rw [rankOk_4 h1 hh.1 (by rw [hHC]; omega)] at h; cases h)
    clear h hHC
    go_enter Try.func31, Try.ntmps31
    go_wp2_with fail
    refine (steps_any _ _ _).mono ?_
    rintro e w' ⟨rfl, rfl⟩
    rw [h1]
    go_wp2_with fail
    refine (choose_ret (u + d) u _ (by omega)).mono ?_
    rintro e w1 ⟨rfl, hb1⟩
    generalize chZ (u + d) u = cn at *
    go_wp2_with fail
    refine (in_any _ _ _ _).mono ?_
    rintro e w' ⟨rfl, rfl⟩
    rw [hin]
    go_wp2_with fail
    go_ret2
    exact ⟨rfl, hb1⟩
  · clear h
    go_enter Try.func31, Try.ntmps31
    go_wp2_with fail
    refine (steps_any _ _ _).mono ?_
    rintro e w' ⟨rfl, rfl⟩
    rw [h1]
    go_wp2_with fail
    go_ret2
    exact ⟨rfl, Below.refl _ _⟩
theorem specPathOfRank_ret (u d r : Int) (w : World) : Calls Try.prog 31 #[.int .i64 u, .int .i64 d, .int .i64 r] w (Ret w (.tuple #[.string (porS u d r), .bool (rankOk u d r)])) := by
  unfold porS
  rcases Bool.eq_false_or_eq_true (rankOk u d r) with h | h
  · obtain ⟨a, b, c, rfl, rfl, rfl, hr⟩ := rankOk_nat h
    rw [h, if_pos rfl, porV_nat]
    exact specPathOfRank_yes a b c w hr
  · rw [h]
    exact specPathOfRank_no u d r w h
end Go.Proofs.Ytdekjmbbogddgab
