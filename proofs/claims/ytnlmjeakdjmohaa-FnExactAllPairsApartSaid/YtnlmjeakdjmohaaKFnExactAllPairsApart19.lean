/- Pack 19 of what FnExactAllPairsApart needs: NcN, AwS. -/
import Derived.Test.YtnlmjeakdjmohaaKFnExactAllPairsApart18
import Derived.Deep.QuietTactic
import Derived.BigQuiet
/- The model's ncCount, CountWays. -/
namespace Go.Proofs.Ytnlmjeakdjmohaa
open Go.RowKit
set_option linter.unusedVariables false
def ncV (x y u v : Int) : Int := if u - x < 0 ∨ v - y < 0 then 0 else chZ ((u - x) + (v - y)) (u - x)
/-- two cells in their boxes -/
structure C2 (w : World) (x y u v : Int) (X : World) : Prop where
  a0 : X.cell? ⟨w.heap.size, 0, none⟩ = some (.int .i64 x)
  a1 : X.cell? ⟨w.heap.size, 1, none⟩ = some (.int .i64 y)
  b0 : X.cell? ⟨w.heap.size + 1, 0, none⟩ = some (.int .i64 u)
  b1 : X.cell? ⟨w.heap.size + 1, 1, none⟩ = some (.int .i64 v)
  lt : w.heap.size + 1 < X.heap.size
  below : Below w.heap.size w X
theorem C2.kept {w X X' : World} {x y u v : Int} (h : C2 w x y u v X) (hb : Below X.heap.size X X') : C2 w x y u v X' :=
  ⟨(hb.cell (p := ⟨w.heap.size, 0, none⟩) (Nat.lt_of_succ_lt h.lt)).trans h.a0, (hb.cell (p := ⟨w.heap.size, 1, none⟩) (Nat.lt_of_succ_lt h.lt)).trans h.a1, (hb.cell (p := ⟨w.heap.size + 1, 0, none⟩) h.lt).trans h.b0, (hb.cell (p := ⟨w.heap.size + 1, 1, none⟩) h.lt).trans h.b1, Nat.lt_of_lt_of_le h.lt hb.size, h.below.trans (hb.mono h.below.size)⟩
theorem C2.start (w : World) (x y u v : Int) : C2 w x y u v ((w.alloc (.cells #[.int .i64 x, .int .i64 y] 39)).alloc (.cells #[.int .i64 u, .int .i64 v] 39)) :=
  ⟨by simp [go_sem], by simp [go_sem], by simp [go_sem], by simp [go_sem], by simp, ((Below.refl _ _).alloc (Nat.le_refl _) _).alloc (by simp) _⟩
set_option maxRecDepth 100000 in
set_option maxHeartbeats 1000000 in
theorem ncCount_any (x y u v : Int) (w : World) (hx : -100 ≤ x ∧ x ≤ 100) (hy : -100 ≤ y ∧ y ≤ 100) (hu : -100 ≤ u ∧ u ≤ 100) (hv : -100 ≤ v ∧ v ≤ 100) (hs : (u - x) + (v - y) ≤ 60) : Calls Try.prog 116 #[celV x y, celV u v] w (Ret w (.int .i64 (ncV x y u v))) := by
  have HX := Lib.hid (C2.start w x y u v)
  have c0 := HX.out.a0
  have c1 := HX.out.a1
  have c2 := HX.out.b0
  have c3 := HX.out.b1
  have k1 := IntWalk.i64_in (u - x) (by omega)
  have k2 := IntWalk.i64_in (v - y) (by omega)
  unfold ncV
  by_cases h1 : u - x < 0
  · rw [if_pos (.inl h1)]
    go_enter Try.func116, Try.ntmps116
    go_wp2_with fail
    go_quiet (fail)
    go_wp2_with fail
    go_ret
    exact ⟨rfl, below_drewN HX.out.below _⟩
  · by_cases h2 : v - y < 0
    · rw [if_pos (.inr h2)]
      go_enter Try.func116, Try.ntmps116
      go_wp2_with fail
      go_quiet (fail)
      go_wp2_with fail
      go_ret
      exact ⟨rfl, below_drewN HX.out.below _⟩
    · rw [if_neg (by omega)]
      have HC : Hid (∀ w, Calls Try.prog 86 #[.int .i64 ((u - x) + (v - y)), .int .i64 (u - x)] w (Ret w (.int .i64 (chZ ((u - x) + (v - y)) (u - x))))) := Lib.hid fun w => choose_ret _ _ w hs
      generalize chZ ((u - x) + (v - y)) (u - x) = z at *
      go_enter Try.func116, Try.ntmps116
      go_wp2_with fail
      go_quiet (fail)
      go_wp2_with (go_at_call 86; refine (HC.out _).mono ?_; rintro e w1 ⟨rfl, hb1⟩; have HX1 := Lib.hid ((HX.out.kept (below_drewN (Below.refl _ _) _)).kept hb1))
      go_ret
      exact ⟨rfl, HX1.out.below⟩
def cyOk (x y u v : Int) : Bool := cellB x y && cellB u v
def cyV (x y u v : Int) : Int := if cyOk x y u v = true then ncV x y u v else 0
end Go.Proofs.Ytnlmjeakdjmohaa

/- The model's ncAll, AllWays. -/
namespace Go.Proofs.Ytnlmjeakdjmohaa
open Go.RowKit
set_option linter.unusedVariables false
theorem tx_len {x y u v : Int} (h1 : cellB x y = true) (h2 : cellB u v = true) : ((txF 25 (u - x) (v - y)).length : Int) = ncV x y u v := by
  have a := (cellB_iff _ _).1 h1
  have b := (cellB_iff _ _).1 h2
  unfold ncV
  by_cases hx : u - x < 0 ∨ v - y < 0
  · rw [if_pos hx, txF_no hx]
    rfl
  · rw [if_neg hx]
    obtain ⟨p, hp⟩ := Int.eq_ofNat_of_zero_le (show 0 ≤ u - x by omega)
    obtain ⟨q, hq⟩ := Int.eq_ofNat_of_zero_le (show 0 ≤ v - y by omega)
    have e1 := chZ_nat (p + q) p
    rw [Int.natCast_add] at e1
    have e2 := txF_len 25 p q (by omega)
    rw [hp, hq]
    exact (congrArg Nat.cast e2).trans e1.symm
def awB (x y u v : Int) : Bool := decide (ncV x y u v ≤ 200)
def awL (x y u v : Int) : List Wy := (txM (txF 25 (u - x) (v - y))).map fun s => (x, y, s)
def awT (x y u v : Int) : List Wy := if awB x y u v = true then awL x y u v else []
theorem way_take (x y : Int) (T : List ByteArray) {k : Nat} (h : k < T.length) : ((T.take k).map fun s => ((x, y, s) : Wy)) ++ [(x, y, T.getD k ByteArray.empty)] = (T.take (k + 1)).map fun s => ((x, y, s) : Wy) := by
  rw [List.take_succ_eq_append_getElem h, List.map_append, List.getD_eq_getElem?_getD, List.getElem?_eq_getElem h]
  rfl
set_option maxRecDepth 100000 in
set_option maxHeartbeats 4000000 in
theorem ncAll_any (x y u v : Int) (w : World) (h1 : cellB x y = true) (h2 : cellB u v = true) : Calls Try.prog 81 #[celV x y, celV u v] w (WsRet w (awB x y u v) (awT x y u v)) := by
  have a := (cellB_iff _ _).1 h1
  have b := (cellB_iff _ _).1 h2
  have HX := Lib.hid (C2.start w x y u v)
  have c0 := HX.out.a0
  have c1 := HX.out.a1
  have c2 := HX.out.b0
  have c3 := HX.out.b1
  have HN : Hid (∀ w, Calls Try.prog 116 #[celV x y, celV u v] w (Ret w (.int .i64 (ncV x y u v)))) := Lib.hid fun w => ncCount_any x y u v w (by omega) (by omega) (by omega) (by omega) (by omega)
  have hlen := tx_len h1 h2
  by_cases hbig : 200 < ncV x y u v
  · have e1 : awB x y u v = false := by unfold awB; exact decide_eq_false (by omega)
    have e2 : awT x y u v = [] := by unfold awT; rw [e1]; rfl
    rw [e1, e2]
    generalize ncV x y u v = z at *
    clear e1 e2 hlen
    go_enter Try.func81, Try.ntmps81
    go_wp2_with fail
    refine (HN.out _).mono ?_
    rintro e w1 ⟨rfl, hb1⟩
    have HX1 := Lib.hid (HX.out.kept hb1)
    clear hb1
    go_wp2_with fail
    go_ret2
    exact ⟨.slice none 0 0, rfl, WRow.nil _ _, HX1.out.below⟩
  · have e1 : awB x y u v = true := by unfold awB; exact decide_eq_true (by omega)
    have e2 : awT x y u v = awL x y u v := by unfold awT; rw [if_pos e1]
    rw [e1, e2]
    have HT : Hid (∀ w, Calls Try.prog 126 #[.int .i64 (u - x), .int .i64 (v - y)] w (SNew w (txM (txF 25 (u - x) (v - y))))) := Lib.hid fun w => ncTexts_any 25 (u - x) (v - y) w (by omega) (by omega) (by omega) (by omega)
    have hl2 : (txM (txF 25 (u - x) (v - y))).length ≤ 200 := by unfold txM; rw [List.length_map]; omega
    have HAL : Hid (awL x y u v = (txM (txF 25 (u - x) (v - y))).map fun s => (x, y, s)) := Lib.hid rfl
    have k1 := IntWalk.i64_in (u - x) (by omega)
    have k2 := IntWalk.i64_in (v - y) (by omega)
    generalize awL x y u v = AL at *
    generalize txM (txF 25 (u - x) (v - y)) = T at *
    generalize ncV x y u v = z at *
    obtain ⟨nT, hnT⟩ : ∃ nT, T.length = nT := ⟨_, rfl⟩
    have HNT := Lib.hid hnT
    rw [hnT] at hl2
    clear e1 e2 hlen hnT a b h1 h2
    go_enter Try.func81, Try.ntmps81
    go_wp2_with fail
    refine (HN.out _).mono ?_
    rintro e w1 ⟨rfl, hb1⟩
    have hx := HX.out.kept hb1
    clear c0 c1 c2 c3
    have c0 := hx.a0
    have c1 := hx.a1
    have c2 := hx.b0
    have c3 := hx.b1
    have HX1 := Lib.hid hx
    clear hx hb1
    go_wp2_with fail
    refine (HT.out _).mono ?_
    rintro e w2 ⟨tv, rfl, hr2, hb2⟩
    obtain ⟨A1, p1, rfl⟩ := hr2.shape
    have HX2 := Lib.hid (HX1.out.kept hb2)
    have HR2 := Lib.hid hr2
    rw [HNT.out] at HR2 ⊢
    clear hr2 hb2 c0 c1 c2 c3
    go_wp2_with fail
    go_loopw [6, 25] (fun o i wr => ∃ k : Nat, k ≤ nT ∧ i = .int .i64 (k : Int) ∧ WRow wr w2.heap.size o ((T.take k).map fun s => (x, y, s)) ∧ Below w2.heap.size w2 wr) (fun _ i _ => nT - (intOf i).toNat)
    case atStart => exact ⟨0, Nat.zero_le _, rfl, WRow.nil _ _, Below.refl _ _⟩
    case round =>
      obtain ⟨k, hk, rfl, hrow, hb⟩ := hrel
      have hln : ((T.take k).map fun s => ((x, y, s) : Wy)).length = k := by rw [List.length_map, List.length_take, HNT.out]; omega
      obtain ⟨A2, p2, rfl⟩ := hrow.shape
      rw [hln] at hrow ⊢
      by_cases hlt : k < nT
      · have h11 := HR2.out.below hb
        obtain ⟨g, cc, hv, _, _⟩ := h11.form' HNT.out (by omega)
        injection hv with hv hnn hcc
        subst hv
        subst hcc
        clear hnn
        have e0 := h11.cell (j := k) (by rw [HNT.out]; exact hlt)
        have hx := HX2.out.kept hb
        have c0 := hx.a0
        have c1 := hx.a1
        have HMT := Lib.hid (way_take x y T (k := k) (by rw [HNT.out]; exact hlt))
        have i2 : (k : Int) < (nT : Int) := by omega
        have i3 : 0 ≤ (k : Int) := by omega
        generalize T.getD k ByteArray.empty = s at *
        generalize ((T.take k).map fun s => ((x, y, s) : Wy)) = P at *
        have ha : Below wr.heap.size wr (wr.alloc (.cells #[.int .i64 x, .int .i64 y, .string s] 56)) := (Below.refl _ _).alloc (Nat.le_refl _) _
        have HROW := Lib.hid (hrow.below ha)
        have HBW := Lib.hid (hb.trans (ha.mono hb.size))
        have HLN := Lib.hid hln
        have q0 : (wr.alloc (.cells #[.int .i64 x, .int .i64 y, .string s] 56)).cell? ⟨wr.heap.size, 0, none⟩ = some (.int .i64 x) := by simp [go_sem]
        have q1 : (wr.alloc (.cells #[.int .i64 x, .int .i64 y, .string s] 56)).cell? ⟨wr.heap.size, 1, none⟩ = some (.int .i64 y) := by simp [go_sem]
        have q2 : (wr.alloc (.cells #[.int .i64 x, .int .i64 y, .string s] 56)).cell? ⟨wr.heap.size, 2, none⟩ = some (.string s) := by simp [go_sem]
        have Q0 := Lib.hid q0
        have Q1 := Lib.hid q1
        have Q2 := Lib.hid q2
        clear h11 hrow hb hx hln ha q0 q1 q2
        go_wp2_with (at_builtin; refine wpList_pushW x y s (.tmp 29) (.tmp 33) rfl rfl w2.heap.size _ P rfl HROW.out wr.heap.size rfl Q0.out Q1.out Q2.out (by rw [HLN.out]; omega) HBW.out.size ?_; intro v' w' hr' hg' hat')
        have hb' : Below w2.heap.size w2 w' := HBW.out.grown hg' HBW.out.size (fun q hq => (HROW.out.blk q hq).1)
        rw [HMT.out] at hr'
        have HR' := Lib.hid hr'
        have HB' := Lib.hid hb'
        obtain ⟨A5, c5, rfl⟩ := hr'.shape
        clear hr' hg' hat' hb'
        go_wp2_with fail
        go_roundw
        case rel => exact ⟨k + 1, by omega, by go_num, HR'.out, HB'.out⟩
        case measure => first | (simp [intOf]; done) | (simp [intOf]; omega)
      · obtain rfl : k = nT := by omega
        have HTK : Hid (T.take k = T) := Lib.hid (List.take_of_length_le (by rw [HNT.out]; omega))
        rw [HTK.out, ← HAL.out] at hrow
        have HROW := Lib.hid (hrow.mono HX2.out.below.size)
        have HBW := Lib.hid (HX2.out.below.trans (hb.mono HX2.out.below.size))
        clear hrow hb hln HTK
        go_wp2_with fail
        go_ret2
        exact ⟨_, rfl, HROW.out, HBW.out⟩
def awOk (x y u v : Int) : Bool := (cellB x y && cellB u v) && awB x y u v
def awV (x y u v : Int) : List Wy := if awOk x y u v = true then awL x y u v else []
end Go.Proofs.Ytnlmjeakdjmohaa
