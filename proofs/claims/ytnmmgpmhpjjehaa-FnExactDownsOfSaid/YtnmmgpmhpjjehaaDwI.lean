/- quotientsAlong, DownsOf of the program. -/
import Derived.Test.YtnmmgpmhpjjehaaHkI
import Derived.Test.YtnmmgpmhpjjehaaQqMath
import Derived.Deep.QuietTactic
import Derived.BigQuiet
import Derived.IntWalk
import Derived.Deep.RegionHeld3
namespace Go.Proofs.Ytnmmgpmhpjjehaa
open Go.RowKit
set_option linter.unusedVariables false
/-- an answer of quotientsAlong -/
def qqRes (xs : List Int) : List Int := if qoA xs (xs.length - 1) = true then qq xs (xs.length - 1) else []
theorem tdiv_bd {a b B : Int} (ha : -B ≤ a ∧ a ≤ B) (hB : 0 ≤ B) : -B ≤ a.tdiv b ∧ a.tdiv b ≤ B := by
  have h1 : (a.tdiv b).natAbs ≤ a.natAbs := by
    rw [Int.natAbs_tdiv]
    exact Nat.div_le_self _ _
  omega
theorem qKeep {B g p1 p2 : Nat} {X Y : World} {row : Option Nat} {a b : Option Value} (hg : X.grownBy Y row) (hr : ∀ k, row = some k → B ≤ k) (hB : g < B) (hX : B ≤ X.heap.size) (h : X.cell? ⟨g, p1, none⟩ = a ∧ X.cell? ⟨g, p2, none⟩ = b) :
    Y.cell? ⟨g, p1, none⟩ = a ∧ Y.cell? ⟨g, p2, none⟩ = b := by
  have hb : Y.heap[g]? = X.heap[g]? := hg.block g (by omega) (fun e => by have := hr g e.symm; omega)
  exact ⟨(World.cell?_of_block (a := ⟨g, p1, none⟩) hb).trans h.1, (World.cell?_of_block (a := ⟨g, p2, none⟩) hb).trans h.2⟩
set_option maxRecDepth 100000 in
set_option maxHeartbeats 4000000 in
theorem quotients_ret (v : Value) (xs : List Int) (w : World) (h : RInts w v xs) (hl : xs.length ≤ 1000) (h1 : 1 ≤ xs.getD 0 0) (hb : ∀ i, i < xs.length → -240000000000000000 ≤ xs.getD i 0 ∧ xs.getD i 0 ≤ 240000000000000000) :
    Calls Try.prog 94 #[v] w (IntsRet w (qoA xs (xs.length - 1)) (qqRes xs)) := by
  have H := Lib.hid h
  obtain ⟨A0, cap, rfl⟩ := h.shape
  have HB := Lib.hid hb
  have H1 := Lib.hid h1
  clear h hb h1
  go_enter Try.func94, Try.ntmps94
  go_wp2_with fail
  go_loopw [4, 5] (fun v i wr => ∃ p : Nat, 1 ≤ p ∧ (p ≤ xs.length ∨ p = 1) ∧ i = .int .i64 (p : Int) ∧ IRow wr w.heap.size v (qq xs (p - 1)) ∧ Below w.heap.size w wr ∧ Hid (qoA xs (p - 1) = true)) (fun _ i _ => xs.length - (intOf i).toNat)
  case atStart => exact ⟨1, Nat.le_refl _, .inr rfl, rfl, IRow.nil _ _, Below.refl _ _, Lib.hid rfl⟩
  case round =>
    obtain ⟨p, hp1, hp2, rfl, hrow, hbel, HQ⟩ := hrel
    by_cases hlt : p < xs.length
    · obtain ⟨g, o, cc, hv, hg, hcells⟩ := H.out.cells (by omega)
      have hA : A0 = some ⟨g, o, none⟩ := by injection hv
      subst hA
      clear hv
      obtain ⟨q, rfl⟩ : ∃ q, p = q + 1 := ⟨p - 1, by omega⟩
      rw [Nat.add_sub_cancel] at hrow HQ
      have k1 := (hbel.cell (p := ⟨g, o + (q + 1), none⟩) hg).trans (hcells (q + 1) hlt)
      have k0 := (hbel.cell (p := ⟨g, o + q, none⟩) hg).trans (hcells q (by omega))
      have HPOS : Hid (1 ≤ xs.getD q 0) := Lib.hid (by
        cases q with
        | zero => exact H1.out
        | succ r => exact (qoA_iff.1 HQ.out r (by omega)).1)
      have b1 := HB.out (q + 1) hlt
      have b0 := HB.out q (by omega)
      have HQS := Lib.hid (qoA_succ xs q)
      have HNO : Hid (qo xs q = false → qoA xs (xs.length - 1) = false) := Lib.hid fun e => qoA_no e (by omega)
      have HQO : Hid (qo xs q = (decide (1 ≤ xs.getD (q + 1) 0) && ((xs.getD (q + 1) 0).tmod (xs.getD q 0) == 0))) := Lib.hid rfl
      have HSN := Lib.hid (qq_succ xs q)
      have hpos := HPOS.out
      have hbd : Below wr.heap.size wr wr.drew := (Below.refl _ _).drew
      have i1 : (q : Int) + 1 < (xs.length : Int) := by omega
      obtain ⟨A1, c1, rfl⟩ := hrow.shape
      have hlen : (qq xs q).length ≤ 1099511627776 := by rw [qq_length]; omega
      have hsz := hbel.size
      have HR := Lib.hid hrow
      have HBL := Lib.hid hbel
      clear hcells hrow hbel HPOS
      generalize xs.getD (q + 1) 0 = y at *
      generalize xs.getD q 0 = x at *
      have hx0 : (x == 0) = false := beq_eq_false_iff_ne.2 (by omega)
      have hx1 : ¬ x = 0 := by omega
      have hrm : -240000000000000000 ≤ y.tmod x ∧ y.tmod x ≤ 240000000000000000 := by
        have h1 : (y.tmod x).natAbs ≤ y.natAbs := by
          rw [Int.natAbs_tmod]
          exact Nat.mod_le _ _
        omega
      have hqt := tdiv_bd (b := x) b1 (by omega)
      have kr := IntWalk.i64_in (y.tmod x) (by omega)
      have kq := IntWalk.i64_in (y.tdiv x) (by omega)
      have k2 := IntWalk.i64_in (q : Int) (by omega)
      have k3 : (q : Int) + 1 - 1 = (q : Int) := by omega
      have k4 : 0 ≤ (q : Int) + 1 := by omega
      have k5 : ((q : Int) + 1).toNat = q + 1 := by omega
      have k6 : (q : Int) < (xs.length : Int) := by omega
      rw [show ((q + 1 : Nat) : Int) = (q : Int) + 1 from rfl]
      by_cases hy : y < 1
      · have E := Lib.hid (HNO.out (by rw [HQO.out, decide_eq_false (by omega), Bool.false_and]))
        have EV : Hid (qqRes xs = []) := Lib.hid (by unfold qqRes; rw [E.out]; rfl)
        go_wp2_with fail
        go_quiet (fail)
        go_wp2
        go_ret2
        rw [E.out, EV.out]
        exact ⟨_, rfl, IRow.nil _ _, below_drewN HBL.out nq⟩
      · by_cases hm : y.tmod x = 0
        · have hm2 : (y.tmod x == 0) = true := by rw [hm]; rfl
          have HT : Hid (qoA xs (q + 1) = true) := Lib.hid (by rw [HQS.out, HQ.out, HQO.out, decide_eq_true (by omega), hm2]; rfl)
          have hm3 : (y.tmod x != 0) = false := by rw [hm]; rfl
          clear hm hm2
          go_wp2_with fail
          go_quiet (fail)
          go_wp2_with fail
          have HR2 := Lib.hid (HR.out.drewN nq)
          have HB2 := Lib.hid (below_drewN HBL.out nq)
          have k1' : (wr.drewN nq).cell? ⟨g, o + (q + 1), none⟩ = some (.int .i64 y) := k1
          have k0' : (wr.drewN nq).cell? ⟨g, o + q, none⟩ = some (.int .i64 x) := k0
          have hsz' : w.heap.size ≤ (wr.drewN nq).heap.size := hsz
          have hgl' : g < (wr.drewN nq).heap.size := Nat.lt_of_lt_of_le hg hsz
          clear HR HBL k1 k0 hbd hsz
          generalize wr.drewN nq = W at *
          have HC : Hid (∀ z : Int, ∀ j, j < [z].length → (W.drew.alloc (.cells #[.int .i64 z] 3)).cell? ⟨W.heap.size, 0 + j, none⟩ = some (.int .i64 ([z].getD j 0))) := Lib.hid fun z j hj => by
            have : j = 0 := by simp at hj; omega
            subst this
            simp [go_sem]
          have HLE : Hid (∀ ob, w.heap.size ≤ (W.drew.alloc ob).heap.size) := Lib.hid fun ob => by simp; omega
          have HL2 : Hid (∀ z : Int, (qq xs q).length + [z].length ≤ 1099511627776) := Lib.hid fun z => by simp; rw [qq_length]; omega
          have HRA : Hid (∀ ob, IRow (W.drew.alloc ob) w.heap.size (.slice A1 (qq xs q).length c1) (qq xs q)) := Lib.hid fun ob => HR2.out.drew.alloc ob
          have HBK := Lib.hid (fun k hk => (HR2.out.blk k hk).1)
          clear hlen
          go_region_held3 (fun Y => Y.cell? ⟨g, o + (q + 1), none⟩ = some (.int .i64 y) ∧ Y.cell? ⟨g, o + q, none⟩ = some (.int .i64 x)) (first | go_keep | exact qKeep hg' HBK.out hg (HLE.out _) (by assumption))
            ((refine step_extend (.tmp 30) (.tmp 41) rfl rfl w.heap.size _ (qq xs q) [y.tdiv x] (by rfl) (HRA.out _) W.heap.size 0 1 1 rfl (by rfl) (HC.out _) (HL2.out _) (HLE.out _) ?_; intro v' w' hr' hg'))
          have HR4 : Hid (IRow w' w.heap.size v' (qq xs (q + 1))) := Lib.hid (by rw [HSN.out]; exact hr')
          have HB4 := Lib.hid ((HB2.out.drew.alloc hsz' (.cells #[.int .i64 (y.tdiv x)] 3)).grown hg' (HLE.out _) HBK.out)
          clear hr' hg'
          go_wp2_with fail
          go_roundw
          case rel => exact ⟨q + 1 + 1, by omega, by omega, by go_num, HR4.out, HB4.out, HT⟩
          case measure => simp [intOf]; omega
        · have hm2 : (y.tmod x == 0) = false := beq_eq_false_iff_ne.2 hm
          have E := Lib.hid (HNO.out (by rw [HQO.out, hm2, Bool.and_false]))
          have EV : Hid (qqRes xs = []) := Lib.hid (by unfold qqRes; rw [E.out]; rfl)
          have hm3 : (y.tmod x != 0) = true := by rw [bne_iff_ne]; exact hm
          clear hm hm2
          go_wp2_with fail
          go_quiet (fail)
          go_wp2
          go_ret2
          rw [E.out, EV.out]
          exact ⟨_, rfl, IRow.nil _ _, below_drewN HBL.out nq⟩
    · have e : p - 1 = xs.length - 1 := by omega
      rw [e] at hrow HQ
      have EV : Hid (qqRes xs = qq xs (xs.length - 1)) := Lib.hid (by unfold qqRes; rw [if_pos HQ.out])
      obtain ⟨A1, c1, rfl⟩ := hrow.shape
      have HR := Lib.hid hrow
      have HBL := Lib.hid hbel
      clear hrow hbel e
      go_wp2
      go_ret2
      rw [HQ.out, EV.out]
      exact ⟨_, rfl, HR.out, HBL.out⟩
theorem quotients_n (v : Value) (xs : List Int) (n : Nat) (w : World) (h : RInts w v xs) (hn : xs.length = n + 1) (hl : n ≤ 100) (h1 : 1 ≤ xs.getD 0 0) (hb : ∀ i, i < n + 1 → -240000000000000000 ≤ xs.getD i 0 ∧ xs.getD i 0 ≤ 240000000000000000) :
    Calls Try.prog 94 #[v] w (IntsRet w (qoA xs n) (if qoA xs n = true then qq xs n else [])) := by
  have := quotients_ret v xs w h (by omega) h1 (fun i hi => hb i (by omega))
  unfold qqRes at this
  rw [hn, Nat.add_sub_cancel] at this
  exact this
theorem dwV_len (ms : List Int) : (dwV ms).length ≤ 1048577 := by
  unfold dwV
  split
  · rename_i h
    unfold dwOk at h
    simp only [Bool.and_eq_true] at h
    have h1 := (momB_of h.1.1.1).1
    have h2 := dwL_length ms (dwN ms)
    unfold dwN at h2 ⊢
    omega
  · simp
set_option maxRecDepth 100000 in
set_option maxHeartbeats 1000000 in
theorem downsOf_ret (v : Value) (ms : List Int) (w : World) (h : RInts w v ms) (hl : ms.length ≤ 1048576) :
    Calls Try.prog 57 #[v] w (IntsRet w (dwOk ms) (dwV ms)) := by
  have HH : Hid (∀ (n : Int) w1, Below w.heap.size w w1 → Calls Try.prog 55 #[v, .int .i64 n] w1 (Ret w1 (.tuple #[.int .i64 (hkV ms n), .bool (hkOk ms n)]))) := Lib.hid fun n w1 hb => hankelOf_ret v ms n w1 (h.below hb) hl
  obtain ⟨A0, cap, rfl⟩ := h.shape
  clear h
  by_cases hev : ms.length % 2 = 0
  · have e1 : dwOk ms = false := by unfold dwOk; rw [hev]; simp
    have e2 : dwV ms = [] := by unfold dwV; rw [e1]; rfl
    have t0 : ((ms.length : Int) % 2 == 0) = true := by rw [beq_iff_eq]; omega
    rw [e1, e2]
    clear e1 e2 hev
    go_enter Try.func57, Try.ntmps57
    go_wp2
    go_ret2
    exact ⟨_, rfl, IRow.nil _ _, Below.refl _ _⟩
  have t0 : ((ms.length : Int) % 2 == 0) = false := beq_eq_false_iff_ne.2 (by omega)
  rcases Bool.eq_false_or_eq_true (momB ms && allB ms (-10000) 10000) with hc | hc
  case inr =>
    have e1 : dwOk ms = false := by unfold dwOk; rw [hc]; rfl
    have e2 : dwV ms = [] := by unfold dwV; rw [e1]; rfl
    have e3 : hkOk ms 0 = false := by unfold hkOk; rw [hc]; rfl
    have HH0 : Hid (∀ w1, Below w.heap.size w w1 → Calls Try.prog 55 #[.slice A0 ms.length cap, .int .i64 0] w1 (Ret w1 (.tuple #[.int .i64 (hkV ms 0), .bool false]))) := Lib.hid fun w1 hb => by
      have := HH.out 0 w1 hb
      rwa [e3] at this
    rw [e1, e2]
    have i0 : (2 : Int) * 0 - 1 ≤ (ms.length : Int) := by omega
    clear e1 e2 e3 hc hev HH
    generalize hkV ms 0 = z at *
    go_enter Try.func57, Try.ntmps57
    go_wp2
    refine wp_loop_rounds 1 ?_
    rw [rounds_succ]
    go_wp2_with (go_at_call 55; refine (HH0.out _ (Below.refl _ _)).mono ?_; rintro e w1 ⟨rfl, hb1⟩)
    go_ret2
    exact ⟨_, rfl, IRow.nil _ _, hb1⟩
  have hc2 := hc
  rw [Bool.and_eq_true] at hc2
  have hs8 := (momB_of hc2.1).1
  have hbd := allB_of hc2.2
  obtain ⟨M, hM⟩ : ∃ M, ms.length = 2 * M + 1 := ⟨ms.length / 2, by omega⟩
  have hM3 : M ≤ 3 := by omega
  have EN : dwN ms = M + 1 := by unfold dwN; omega
  have EOK : Hid (dwOk ms = dcA ms (M + 1)) := Lib.hid (by
    unfold dwOk
    rw [hc, EN, show (ms.length % 2 == 0) = false from beq_eq_false_iff_ne.2 hev]
    rfl)
  have EV : Hid (dwV ms = if dcA ms (M + 1) = true then dwL ms (M + 1) else []) := Lib.hid (by
    unfold dwV
    rw [EOK.out, EN])
  have HHN : Hid (∀ (n : Nat) w1, n ≤ M + 1 → Below w.heap.size w w1 → Calls Try.prog 55 #[.slice A0 ms.length cap, .int .i64 (n : Int)] w1 (Ret w1 (.tuple #[.int .i64 (hkD ms n), .bool true]))) := Lib.hid fun n w1 hn hb => by
    have e : hkOk ms (n : Int) = true := by
      unfold hkOk
      rw [hc, show inBd 0 4 (n : Int) = true by unfold inBd; simp; omega, decide_eq_false (by omega)]
      rfl
    have e2 : hkV ms (n : Int) = hkD ms n := by unfold hkV; rw [if_pos e]; rfl
    have := HH.out (n : Int) w1 hb
    rwa [e, e2] at this
  have HBD : Hid (∀ n, n ≤ M + 1 → -240000000000000000 ≤ hkD ms n ∧ hkD ms n ≤ 240000000000000000) := Lib.hid fun n hn => hkD_bd (by omega) (by omega) hbd
  have HML := Lib.hid hM
  clear hc hc2 hs8 hbd hev EN HH
  have hlm : (ms.length : Int) ≤ 2 * (M : Int) + 1 ∧ 2 * (M : Int) + 1 ≤ (ms.length : Int) := by omega
  clear hM
  go_enter Try.func57, Try.ntmps57
  go_wp2_with fail
  go_loopw [4, 5] (fun l i wr => ∃ n : Nat, n ≤ M + 2 ∧ i = .int .i64 (n : Int) ∧ IRow wr w.heap.size l (hkL ms n) ∧ Below w.heap.size w wr) (fun _ i _ => M + 2 - (intOf i).toNat)
  case atStart => exact ⟨0, Nat.zero_le _, rfl, IRow.nil _ _, Below.refl _ _⟩
  case round =>
    obtain ⟨n, hn, rfl, hrow, hb⟩ := hrel
    obtain ⟨A1, c1, rfl⟩ := hrow.shape
    by_cases hlt : n < M + 2
    · have i1 : 2 * (n : Int) - 1 ≤ (ms.length : Int) := by omega
      have HHK := Lib.hid (HHN.out n wr (by omega) hb)
      have HS : Hid (hkL ms (n + 1) = hkL ms n ++ [hkD ms n]) := Lib.hid (by unfold hkL; rw [fr_snoc])
      have hlen : (hkL ms n).length ≤ 1099511627776 := by unfold hkL; rw [fr_length]; omega
      have HR := Lib.hid hrow
      have HB := Lib.hid hb
      have hsz := hb.size
      clear hrow hb
      generalize hkD ms n = z at *
      generalize hkL ms n = L at *
      go_wp2_with (first
        | (go_at_call 55; refine HHK.out.mono ?_; rintro e w1 ⟨rfl, hb1⟩; have hr1 := HR.out.below hb1; have hsz1 : w.heap.size ≤ w1.heap.size := Nat.le_trans hsz hb1.size)
        | (at_builtin; refine wpList_push (.tmp 30) (.tmp 32) rfl rfl w.heap.size _ L rfl hr1 rfl hlen hsz1 ?_; intro v' w' hr' hg' hat'))
      have HR2 : Hid (IRow w' w.heap.size v' (hkL ms (n + 1))) := Lib.hid (by rw [HS.out]; exact hr')
      have HB2 := Lib.hid ((HB.out.trans (hb1.mono hsz)).grown hg' hsz1 (fun k hk => (hr1.blk k hk).1))
      clear hr1 hb1 hr' hg' hat'
      go_roundw
      case rel => exact ⟨n + 1, by omega, by go_num, HR2.out, HB2.out⟩
      case measure => simp [intOf]; omega
    · obtain rfl : n = M + 2 := by omega
      have i1 : ¬ 2 * ((M + 2 : Nat) : Int) - 1 ≤ (ms.length : Int) := by omega
      have hxl : (hkL ms (M + 2)).length = M + 2 := fr_length _ _
      have hsz := hb.size
      have HQ1 := quotients_n _ (hkL ms (M + 2)) (M + 1) wr (RInts.of_row hrow) (by omega) (by omega) (by rw [hkL_get _ _ _ (by omega), hkD_zero]; omega) (fun i hi => by rw [hkL_get _ _ _ (by omega)]; exact HBD.out i (by omega))
      have EQ := dcA_qo ms M
      have EL := dwL_two ms M
      have hql : (qq (hkL ms (M + 2)) (M + 1)).length = M + 1 := qq_length _ _
      have hqb : ∀ i, i < M + 1 → -240000000000000000 ≤ (qq (hkL ms (M + 2)) (M + 1)).getD i 0 ∧ (qq (hkL ms (M + 2)) (M + 1)).getD i 0 ≤ 240000000000000000 := fun i hi => by
        rw [qq_get _ _ _ hi]
        refine tdiv_bd ?_ (by omega)
        rw [hkL_get _ _ _ (by omega)]
        exact HBD.out (i + 1) (by omega)
      have HB := Lib.hid hb
      clear hrow hb hlt hn
      rcases Bool.eq_false_or_eq_true (qoA (hkL ms (M + 2)) (M + 1)) with o1 | o1
      case inr =>
        rw [o1] at HQ1
        rw [o1] at EQ
        have E1 : Hid (dwOk ms = false) := Lib.hid (by rw [EOK.out, EQ]; rfl)
        have E2 : Hid (dwV ms = []) := Lib.hid (by rw [EV.out, EQ]; rfl)
        have HQ := Lib.hid HQ1
        clear HQ1 EQ EL hql hqb o1 hxl
        generalize hkL ms (M + 2) = L at *
        go_wp2_with (go_at_call 94; refine HQ.out.mono ?_; rintro e w1 ⟨v1, rfl, hr1, hb1⟩; obtain ⟨A2, c2, rfl⟩ := hr1.shape)
        go_ret2
        rw [E1.out, E2.out]
        exact ⟨_, rfl, IRow.nil _ _, HB.out.trans (hb1.mono hsz)⟩
      rw [o1, if_pos rfl] at HQ1
      rw [o1, Bool.true_and] at EQ
      rw [EL] at EV
      generalize hkL ms (M + 2) = L at *
      generalize hQL : qq L (M + 1) = Q at *
      clear hQL
      have HQ := Lib.hid HQ1
      have HQLN := Lib.hid hql
      have HQB := Lib.hid hqb
      have HEQ := Lib.hid EQ
      clear HQ1 EQ EL hql hqb o1 hxl
      by_cases hq1 : Q.getD 0 0 = 1
      · have hq2 : (Q.getD 0 0 == 1) = true := by rw [hq1]; rfl
        have E1 : Hid (dwOk ms = qoA Q M) := Lib.hid (by rw [EOK.out, HEQ.out, hq2, Bool.true_and])
        have E2 : Hid (dwV ms = if qoA Q M = true then qq Q M else []) := Lib.hid (by rw [EV.out, HEQ.out, hq2, Bool.true_and])
        have HQQ : Hid (∀ x w1, RInts w1 x Q → Calls Try.prog 94 #[x] w1 (IntsRet w1 (qoA Q M) (if qoA Q M = true then qq Q M else []))) := Lib.hid fun x w1 hx => quotients_n x Q M w1 hx HQLN.out (by omega) (by rw [hq1]; omega) HQB.out
        have HQ0 := Lib.hid hq1
        clear hq1 hq2
        go_wp2_with fail
        go_at_call 94
        with_reducible refine HQ.out.mono ?_
        rintro e w1 ⟨v1, rfl, hr1, hb1⟩
        obtain ⟨g2, c2, rfl, hg2, hg3⟩ := hr1.form' HQLN.out (by omega)
        have k0 := hr1.cell (j := 0) (by rw [HQLN.out]; omega)
        rw [HQ0.out] at k0
        have HQ9 := Lib.hid (HQQ.out _ _ (RInts.of_row hr1))
        have HB9 := Lib.hid (HB.out.trans (hb1.mono hsz))
        clear hr1 hb1 HQ HQQ
        rcases Bool.eq_false_or_eq_true (qoA Q M) with o2 | o2
        · rw [o2, if_pos rfl] at HQ9
          rw [o2] at E1
          rw [o2, if_pos rfl] at E2
          clear o2
          go_wp2_with fail
          go_at_call 94
          with_reducible refine HQ9.out.mono ?_
          rintro e w2 ⟨v2, rfl, hr2, hb2⟩
          obtain ⟨A3, c3, rfl⟩ := hr2.shape
          go_wp2
          go_ret2
          rw [E1.out, E2.out]
          exact ⟨_, rfl, hr2.mono HB9.out.size, HB9.out.trans (hb2.mono HB9.out.size)⟩
        · rw [o2] at HQ9
          rw [o2] at E1
          rw [o2] at E2
          clear o2
          go_wp2_with fail
          go_at_call 94
          with_reducible refine HQ9.out.mono ?_
          rintro e w2 ⟨v2, rfl, hr2, hb2⟩
          obtain ⟨A3, c3, rfl⟩ := hr2.shape
          go_wp2
          go_ret2
          rw [E1.out, E2.out]
          exact ⟨_, rfl, hr2.mono HB9.out.size, HB9.out.trans (hb2.mono HB9.out.size)⟩
      · have hq2 : (Q.getD 0 0 == 1) = false := beq_eq_false_iff_ne.2 hq1
        have E1 : Hid (dwOk ms = false) := Lib.hid (by rw [EOK.out, HEQ.out, hq2, Bool.false_and])
        have E2 : Hid (dwV ms = []) := Lib.hid (by rw [EV.out, HEQ.out, hq2, Bool.false_and]; rfl)
        obtain ⟨x, hx⟩ : ∃ x, x = Q.getD 0 0 := ⟨_, rfl⟩
        have hq3 : (x != 1) = true := by rw [bne_iff_ne, hx]; exact hq1
        have HX := Lib.hid hx
        clear hq1 hq2 hx
        go_wp2_with fail
        go_at_call 94
        with_reducible refine HQ.out.mono ?_
        rintro e w1 ⟨v1, rfl, hr1, hb1⟩
        obtain ⟨g2, c2, rfl, hg2, hg3⟩ := hr1.form' HQLN.out (by omega)
        have k0 := hr1.cell (j := 0) (by rw [HQLN.out]; omega)
        rw [← HX.out] at k0
        go_wp2
        go_ret2
        rw [E1.out, E2.out]
        exact ⟨_, rfl, IRow.nil _ _, HB.out.trans (hb1.mono hsz)⟩
end Go.Proofs.Ytnmmgpmhpjjehaa
