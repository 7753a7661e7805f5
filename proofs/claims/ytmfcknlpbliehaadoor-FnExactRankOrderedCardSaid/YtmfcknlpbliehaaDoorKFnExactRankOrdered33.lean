/- Pack 33 of what FnExactRankOrdered needs: VorI, RkI. -/
import Derived.Test.YtmfcknlpbliehaaDoorKFnExactRankOrdered32
/- votesOfRank: the votes with a rank. -/
namespace Go.Proofs.YtmfcknlpbliehaaDoor
open Go.RowKit
set_option linter.unusedVariables false
def sLen9 : Value → Nat | .slice _ n _ => n | _ => 0
theorem uw_succ (R p : Nat → Nat) (n k : Nat) : uw R (n + 1) p k = ci R p k :: uw R n (up p (ci R p k)) (k - byS R p (ci R p k)) := rfl
theorem lett_cons (c : Nat) (l : List Nat) : lett (c :: l) = UInt8.ofNat (97 + c) :: lett l := rfl
theorem wpList_store_rowN {ops : Array Oper} {rest : List Oper} {o : Oper} {a : Act} {w : World} {Q : Exit → Act → World → Prop} (hgd : o.guard = none) (ty : TypeId) (x y : Operand) (ho : o.op = .store ty x y)
    (hd : o.dst = none) (g : Nat) (cells : Array Value) (hx : a.eval x = .pointer (some ⟨g, 0, none⟩)) (hy : a.eval y = .agg cells)
    (t : TypeId) (old : Array Value) (hg : w.heap[g]? = some (.cells old t (0, 0))) (hi : (Tryd.prog.info? ty).map (·.size) = some cells.size)
    (hold : old.size = cells.size) (h1 : cells.all (·.oneCell') = true)
    (h : wpList Tryd.prog ops Q rest a (w.setRow g cells)) : wpList Tryd.prog ops Q (o :: rest) a w :=
  wpList_store_row hgd ty x y ho g cells hx hy t old hg hi hold h1 (by rw [hd]; exact h)
theorem BOwn.setR {W9 : World} {B g : Nat} {v : Value} {xs : List UInt8} (h : BOwn W9 B v xs) (hg : g < B) (cs : Array Value) : BOwn (W9.setRow g cs) B v xs := by
  rcases h with ⟨h1, h2⟩
  refine ⟨h1, ?_⟩
  rcases h2 with h3 | ⟨k, cap, cur, e1, e2, e3, e4⟩
  · exact .inl h3
  · exact .inr ⟨k, cap, cur, e1, e2, (setRow_other _ _ _ _ (by omega)).trans e3, e4⟩
theorem BOwn.slen {W9 : World} {B : Nat} {v : Value} {xs : List UInt8} (h : BOwn W9 B v xs) : sLen9 v = xs.length := by
  obtain ⟨A, c, rfl⟩ := h.shape
  rfl
end Go.Proofs.YtmfcknlpbliehaaDoor

/- The program's rankOf and RankOrdered. -/
namespace Go.Proofs.YtmfcknlpbliehaaDoor
open Go.RowKit
set_option linter.unusedVariables false
set_option maxRecDepth 100000 in
set_option maxHeartbeats 4000000 in
theorem rankOf_any (s : ByteArray) (mb : Nat) (w : World) (ho : oB s = true) (h : MapW w mb (W (vp s s.size))) :
    Calls Tryd.prog 20 #[raceV (vp s s.size) mb, .string s] w fun e w' => e = .returned (.int .i64 ((rkS s s.size : Nat) : Int)) ∧ MapW w' mb (W (vp s s.size)) ∧ w.grownBy w' (some mb) := by
  have hR := vp_sm ho
  have hR16 := vp_tot ho
  have hv := (oB_of ho).1
  have HOK : Hid (∀ k, k ≤ s.size → Ok (vp s s.size) (vp s k)) := Lib.hid fun k hk => vp_ok ho hk
  have HBD : Hid (∀ k, k ≤ s.size → rkS s k ≤ 17179869184 * k) := Lib.hid fun k hk => rkS_bd ho k hk
  have HSB : Hid (∀ p i, byS (vp s s.size) p i ≤ 4294967296 * i) := Lib.hid fun p i => byS_bd hR16 i
  have HC4 : Hid (∀ k, k < s.size → cd s k < 4) := Lib.hid fun k hk => votB_lt hv k hk
  have HC : Hid (∀ (k : Nat) (h : k < s.size) (w : World), Calls Tryd.prog 34 #[.int .u8 (s[k].toNat : Int)] w fun e w' => e = .returned (.int .i64 ((cd s k : Nat) : Int)) ∧ w = w') := Lib.hid fun k h w => candOf_any s k w hv h
  have HUP : Hid (∀ k, up (vp s k) (cd s k) = vp s (k + 1)) := Lib.hid (vp_up s)
  have h16 := ((votB_iff s).1 hv).1
  have HRS : Hid (∀ k, rkS s (k + 1) = rkS s k + byS (vp s s.size) (vp s k) (cd s k)) := Lib.hid fun k => rfl
  have HR0 : Hid (vp s 0 = fun _ => 0) := Lib.hid rfl
  generalize vp s s.size = R at *
  have HS0 := Lib.hid (VR.start (p := fun _ => 0) h)
  have HB : Hid (∀ (p : Nat → Nat) (i : Nat) (W9 : World), Ok R p → i < 4 → VR R p mb w W9 → Calls Tryd.prog 35 #[.agg #[.int .i64 ((R 0 : Nat) : Int), .int .i64 ((R 1 : Nat) : Int), .int .i64 ((R 2 : Nat) : Int), .int .i64 ((R 3 : Nat) : Int), .map (some mb)], .agg #[.int .i64 ((p 0 : Nat) : Int), .int .i64 ((p 1 : Nat) : Int), .int .i64 ((p 2 : Nat) : Int), .int .i64 ((p 3 : Nat) : Int)], .int .i64 (i : Int)] W9 fun e w' => e = .returned (.int .i64 ((byW R p i : Nat) : Int)) ∧ VR R p mb w w') := Lib.hid fun p i W9 hp hi hW => (waysBy_ok R p i mb W9 hi hR hR16 hp hW.mp).mono fun _ _ ⟨h1, h2, h3⟩ => ⟨h1, hW.step h2 h3⟩
  have HT : Hid (∀ (p : Nat → Nat) (i : Nat) (W9 : World), Ok R p → i < 4 → VR R p mb w W9 → Calls Tryd.prog 36 #[.agg #[.int .i64 ((p 0 : Nat) : Int), .int .i64 ((p 1 : Nat) : Int), .int .i64 ((p 2 : Nat) : Int), .int .i64 ((p 3 : Nat) : Int)], .int .i64 (i : Int)] W9 fun e w' => e = .returned (.agg (pCells (up p i))) ∧ VR R p mb w w') := Lib.hid fun p i W9 hp hi hW => (with_any p i hi (Nat.le_trans (hp.le i hi) (hR i hi)) W9).mono fun _ _ ⟨h1, h2⟩ => ⟨h1, hW.below h2⟩
  clear h hR hR16 hv ho
  unfold raceV
  go_enter Tryd.func20, Tryd.ntmps20
  go_wp2
  go_loopw [5, 12] (fun r v wr => ∃ k : Nat, k ≤ s.size ∧ v = .int .i64 (k : Int) ∧ r = .int .i64 ((rkS s k : Nat) : Int) ∧ VR R (vp s k) mb w wr) (fun _ v _ => s.size - (intOf v).toNat)
  case atStart => exact ⟨0, Nat.zero_le _, rfl, rfl, by rw [HR0.out]; exact HS0.out⟩
  case round =>
    obtain ⟨k, hk, rfl, rfl, hV⟩ := hrel
    clear HS0 HR0
    have hb := HBD.out k hk
    by_cases hlt : k < s.size
    · have HCK : Hid (∀ w, Calls Tryd.prog 34 #[.int .u8 (s[k].toNat : Int)] w fun e w' => e = .returned (.int .i64 ((cd s k : Nat) : Int)) ∧ w = w') := Lib.hid fun w => HC.out k hlt w
      have hc4 := HC4.out k hlt
      have HOKK := Lib.hid (HOK.out k hk)
      have HV := Lib.hid hV
      clear hV HC HC4 HOK
      go_wp2_with (go_at_call 34; refine (HCK.out _).mono ?_; rintro e w1 ⟨rfl, rfl⟩)
      clear HCK
      go_loopw [5, 20] (fun r v wr => ∃ i : Nat, i ≤ cd s k ∧ v = .int .i64 (i : Int) ∧ r = .int .i64 ((rkS s k + byS R (vp s k) i : Nat) : Int) ∧ VR R (vp s k) mb w wr) (fun _ v _ => 4 - (intOf v).toNat)
      case atStart => exact ⟨0, Nat.zero_le _, rfl, rfl, HV.out⟩
      case round =>
        obtain ⟨i, hi, rfl, rfl, hV⟩ := hrel
        clear HV
        obtain ⟨z0, z1, z2, z3, z4, z5, z6, z7, z8⟩ := hV.cells
        have HV := Lib.hid hV
        clear hV
        by_cases hlt2 : i < cd s k
        · have hi4 : i < 4 := by omega
          have HBI := Lib.hid (HB.out (vp s k) i _ HOKK.out hi4 HV.out)
          have hs1 := HSB.out (vp s k) (i + 1)
          have HBS : Hid (rkS s k + byS R (vp s k) (i + 1) = (rkS s k + byS R (vp s k) i) + byW R (vp s k) i) := Lib.hid (by rw [byS]; omega)
          have hbd : rkS s k + byS R (vp s k) (i + 1) ≤ 17179869184 * 17 := by
            have : 4294967296 * (i + 1) ≤ 4294967296 * 4 := Nat.mul_le_mul_left _ (by omega)
            have : 17179869184 * k ≤ 17179869184 * 16 := Nat.mul_le_mul_left _ (by omega)
            omega
          rw [HBS.out] at hbd
          clear hs1 HB HSB
          generalize rkS s k + byS R (vp s k) i = S0 at *
          generalize byW R (vp s k) i = B0 at *
          generalize cd s k = c0 at *
          go_wp2_with (go_at_call 35; refine HBI.out.mono ?_; rintro e w2 ⟨rfl, hV2⟩)
          go_roundw
          case rel => exact ⟨i + 1, by omega, by go_num, by rw [HBS.out]; go_num, hV2⟩
          first | (simp [intOf]; done) | (simp [intOf]; omega)
        · obtain rfl : i = cd s k := by omega
          have HTI := Lib.hid (HT.out (vp s k) (cd s k) _ HOKK.out hc4 HV.out)
          have hu := HUP.out k
          rw [hu] at HTI
          have HRK := Lib.hid (HRS.out k)
          clear hu HT HB
          generalize cd s k = c0 at *
          go_wp2_with (first
            | (go_at_call 36; refine HTI.out.mono ?_; rintro e w7 ⟨rfl, hV7⟩; clear z0 z1 z2 z3 z4 z5 z6 z7 z8)
            | (refine wpList_store_rowN rfl 38 (.tmp 6) (.tmp 32) rfl rfl (w.heap.size + 1) (pCells (vp s (k + 1))) rfl rfl 38 _ hV7.st stSz rfl (by simp [pCells, Value.oneCell']) ?_))
          go_roundw
          case rel => exact ⟨k + 1, by omega, by go_num, by rw [HRK.out, Int.natCast_add], hV7.set _⟩
          first | (simp [intOf]; done) | (simp [intOf]; omega)
    · obtain rfl : k = s.size := by omega
      have HV := Lib.hid hV
      clear hV
      go_wp2
      go_ret
      exact ⟨rfl, HV.out.mp, HV.out.gr⟩
set_option maxRecDepth 100000 in
set_option maxHeartbeats 4000000 in
theorem rankOrdered_ret (s : ByteArray) (w : World) (hs : s.size ≤ maxLen) : Calls Tryd.prog 6 #[.string s] w (Ret w (.tuple #[.int .i64 (rkV s), .bool (oB s)])) := by
  have HO : Hid (∀ w, Calls Tryd.prog 18 #[.string s] w (Ret w (.tuple #[stA (ordP s), .bool (oB s)]))) := Lib.hid fun w => ordRes_any s w hs
  cases ho : oB s with
  | false =>
    have hp : ordP s = fun _ => 0 := by unfold ordP; rw [if_neg (by rw [ho]; decide)]
    have hv : rkV s = 0 := by unfold rkV; rw [if_neg (by rw [ho]; decide)]
    rw [ho, hp] at HO
    rw [hv]
    clear ho hp hv hs
    unfold stA at HO
    go_enter Tryd.func6, Tryd.ntmps6
    go_wp2_with (go_at_call 18; refine (HO.out _).mono ?_; rintro e w1 ⟨rfl, hb1⟩; have hsz1 := hb1.size)
    go_ret2
    exact ⟨rfl, by first | exact hb1 | exact hb1.alloc hsz1 _⟩
  | true =>
    have hp : ordP s = vp s s.size := by unfold ordP; rw [if_pos ho]
    have hv : rkV s = ((rkS s s.size : Nat) : Int) := by unfold rkV; rw [if_pos ho]
    rw [ho, hp] at HO
    rw [hv]
    have HRK : Hid (∀ mb w, MapW w mb (W (vp s s.size)) → Calls Tryd.prog 20 #[raceV (vp s s.size) mb, .string s] w fun e w' => e = .returned (.int .i64 ((rkS s s.size : Nat) : Int)) ∧ MapW w' mb (W (vp s s.size)) ∧ w.grownBy w' (some mb)) := Lib.hid fun mb w h => rankOf_any s mb w ho h
    have HNR : Hid (∀ w, Calls Tryd.prog 19 #[stA (vp s s.size)] w fun e w' => ∃ mb, e = .returned (raceV (vp s s.size) mb) ∧ MapW w' mb (W (vp s s.size)) ∧ w.heap.size ≤ mb ∧ Below w.heap.size w w') := Lib.hid fun w => newRace_any _ w
    clear ho hp hv hs
    generalize vp s s.size = R at *
    generalize rkS s s.size = Q at *
    unfold stA at HO HNR
    unfold raceV at HNR HRK
    go_enter Tryd.func6, Tryd.ntmps6
    go_wp2_with (first
      | (go_at_call 18; refine (HO.out _).mono ?_; rintro e w1 ⟨rfl, hb1⟩; have hsz1 := hb1.size)
      | (go_at_call 19; refine (HNR.out _).mono ?_; rintro e w2 ⟨mb, rfl, hm2, hmb2, hb2⟩)
      | (go_at_call 20; refine (HRK.out _ _ hm2).mono ?_; rintro e w3 ⟨rfl, _, hg3⟩))
    go_ret2
    refine ⟨rfl, ?_⟩
    have hA := hb1.alloc hsz1 (.cells #[.int .i64 ((R 0 : Nat) : Int), .int .i64 ((R 1 : Nat) : Int), .int .i64 ((R 2 : Nat) : Int), .int .i64 ((R 3 : Nat) : Int)] 38)
    exact (hA.trans (hb2.mono hA.size)).grown hg3 (Nat.le_trans hA.size hb2.size) (fun j hj => by injection hj with e; have := hA.size; simp at hmb2; omega)
end Go.Proofs.YtmfcknlpbliehaaDoor
