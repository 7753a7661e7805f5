/- Pack 30 of what FnPathsReflected needs: CompI, TxtI. -/
import Derived.Test.YtachijliaedndaaKFnPathsReflected29
import Derived.Lib.SliceRun
import Derived.Laws.IdiomCopy
import Derived.Shelf.RegionOpenPlain
/- slices.Compact over bytes; the program's TouchText. -/
namespace Go.Proofs.Ytachijliaedndaa
open Go.RowKit
set_option linter.unusedVariables false
/-- the row while equal neighbours are taken out: m places looked at, kk kept -/
structure CInv (xs cur : List UInt8) (m kk : Nat) : Prop where
  len : cur.length = xs.length
  low : kk + 1 ≤ m
  high : m ≤ xs.length
  same : ∀ j, m ≤ j + 1 → j < xs.length → cur[j]? = xs[j]?
  pre : cur.take kk = cmpL (xs.take m)
theorem CInv.skip {xs cur : List UInt8} {m kk : Nat} (h : CInv xs cur m kk) (h1 : 1 ≤ m) (hm : m < xs.length) (e : xs[m] = xs[m - 1]) : CInv xs cur (m + 1) kk :=
  ⟨h.len, by have := h.low; omega, hm, fun j h1 h2 => h.same j (by omega) h2, by rw [h.pre, cmpL_take h1 hm, if_pos e]⟩
theorem CInv.keep {xs cur : List UInt8} {m kk : Nat} (h : CInv xs cur m kk) (h1 : 1 ≤ m) (hm : m < xs.length) (e : xs[m] ≠ xs[m - 1]) : CInv xs (cur.set kk xs[m]) (m + 1) (kk + 1) := by
  have hl := h.low
  have hn := h.len
  refine ⟨by rw [List.length_set, h.len], by omega, hm, fun j h1 h2 => ?_, ?_⟩
  · rw [List.getElem?_set_ne (by omega)]
    exact h.same j (by omega) h2
  · rw [cmpL_take h1 hm, if_neg e, ← h.pre, List.take_succ_eq_append_getElem (by rw [List.length_set]; omega), List.getElem_set_self, List.take_set_of_le (by omega)]
theorem CInv.start {xs : List UInt8} {k : Nat} (h1 : 1 ≤ k) (hk : k < xs.length) (e : xs[k] = xs[k - 1]) (h : cmpL (xs.take k) = xs.take k) : CInv xs xs (k + 1) k :=
  ⟨rfl, by omega, hk, fun _ _ _ => rfl, by rw [cmpL_take h1 hk, if_pos e, h]⟩
def CompRet (B g c : Nat) (xs : List UInt8) (w : World) (e : Ending) (w' : World) : Prop :=
  e = .returned (.slice (some ⟨g, 0, none⟩) (cmpL xs).length c) ∧ (∀ j (h : j < (cmpL xs).length), w'.cell? ⟨g, j, none⟩ = some (.int .u8 (((cmpL xs)[j]).toNat : Int))) ∧ Below B w w'
theorem CompRet.all {B g c : Nat} {xs : List UInt8} {w wr : World} (h : cmpL xs = xs) (hr : BRow wr B g xs) (hb : Below B w wr) : CompRet B g c xs w (.returned (.slice (some ⟨g, 0, none⟩) xs.length c)) wr := by
  unfold CompRet
  rw [h]
  exact ⟨rfl, hr.cell, hb⟩
theorem below_setCells {w wr : World} {B b : Nat} (hb : Below B w wr) (hB : B ≤ b) : ∀ (vs : List Value) (o : Nat), Below B w (wr.setCells b o vs)
  | [], o => hb
  | v :: vs, o => below_setCells (hb.setCell (p := ⟨b, o, none⟩) hB v) hB vs (o + 1)
theorem CompRet.fin {B g c kk : Nat} {xs cur : List UInt8} {w wr : World} (hI : CInv xs cur xs.length kk) (hr : BRow wr B g cur) (hb : Below B w wr) :
    CompRet B g c xs w (.returned (.slice (some ⟨g, 0, none⟩) kk c)) (wr.setCells g kk (List.replicate (xs.length - kk) (.int .u8 0))) := by
  have hp := hI.pre
  rw [List.take_length] at hp
  have hl := hI.low
  have hn := hI.len
  have hk : (cmpL xs).length = kk := by rw [← hp, List.length_take]; omega
  refine ⟨by rw [hk], fun j hj => ?_, below_setCells hb hr.from_ _ _⟩
  rw [World.cell?_setCells_out _ _ _ _ _ (fun _ _ => .inl (by show j < kk; omega)), hr.cell j (by omega)]
  have : (cmpL xs)[j]? = cur[j]? := by rw [← hp, List.getElem?_take, if_pos (by omega)]
  rw [List.getElem?_eq_getElem hj, List.getElem?_eq_getElem (show j < cur.length by omega)] at this
  injection this with this
  rw [this]
set_option maxRecDepth 100000 in
set_option maxHeartbeats 2000000 in
theorem compact_any (xs : List UInt8) (B g c : Nat) (w : World) (h : BRow w B g xs) (hc : xs.length ≤ c) (hl : xs.length ≤ 1000000) :
    Calls Try.prog 161 #[.slice (some ⟨g, 0, none⟩) xs.length c] w (CompRet B g c xs w) := by
  by_cases h2 : xs.length < 2
  · have HC : Hid (CompRet B g c xs w (.returned (.slice (some ⟨g, 0, none⟩) xs.length c)) w) := Lib.hid (CompRet.all (cmpL_small xs h2) h (Below.refl _ _))
    clear h
    go_enter Try.func161, Try.ntmps161
    go_wp2
    go_ret
    exact HC.out
  · generalize hn : xs.length = n at *
    have HN := Lib.hid hn
    clear hn
    have H := Lib.hid h
    clear h
    go_enter Try.func161, Try.ntmps161
    go_wp2
    go_loopw [3] (fun i wr => ∃ k : Nat, 1 ≤ k ∧ k ≤ n ∧ i = .int .i64 (k : Int) ∧ Hid (cmpL (xs.take k) = xs.take k) ∧ BRow wr B g xs ∧ Below B w wr) (fun i _ => n - (intOf i).toNat)
    case atStart => exact ⟨1, Nat.le_refl _, by omega, rfl, Lib.hid (cmpL_one xs (by rw [HN.out]; omega)), H.out, Below.refl _ _⟩
    case round =>
      obtain ⟨k, hk1, hkn, rfl, HK, hrow, hb⟩ := hrel
      by_cases hlt : k < n
      · obtain ⟨p, rfl⟩ : ∃ p, k = p + 1 := ⟨k - 1, by omega⟩
        have hp1 : p + 1 < xs.length := by rw [HN.out]; exact hlt
        have c1 := hrow.cell (p + 1) hp1
        have c0 := hrow.cell p (by omega)
        have HST : Hid (xs[p + 1] = xs[p] → CInv xs xs (p + 1 + 1) (p + 1)) := Lib.hid fun e => CInv.start hk1 hp1 e HK.out
        have HGO : Hid (xs[p + 1] ≠ xs[p] → cmpL (xs.take (p + 1 + 1)) = xs.take (p + 1 + 1)) := Lib.hid fun e => by
          rw [cmpL_take hk1 hp1, if_neg (show ¬ xs[p + 1] = xs[p + 1 - 1] from e), HK.out, List.take_succ_eq_append_getElem hp1]
        have HROW := Lib.hid hrow
        have HBB := Lib.hid hb
        have i1 : (p : Int) + 1 < (n : Int) := by omega
        have i2 : (p : Int) < (n : Int) := by omega
        have i0 : (0 : Int) ≤ (p : Int) + 1 := by omega
        clear hrow hb HK
        generalize xs[p + 1] = x at *
        generalize xs[p] = y at *
        clear hp1
        by_cases hxy : x = y
        · have HI := Lib.hid (HST.out hxy)
          subst hxy
          clear HST HGO
          go_wp2_with fail
          go_region
          go_wp2
          clear c0 c1
          obtain ⟨w0, rfl⟩ : ∃ w0, w0 = wr := ⟨_, rfl⟩
          go_loopw [3, 5] (fun s3 s5 w2 => ∃ (kk k2 : Nat) (cur : List UInt8), s3 = .int .i64 (kk : Int) ∧ s5 = .int .i64 (k2 : Int) ∧ 1 ≤ k2 ∧ p + 1 + k2 ≤ n ∧ Hid (CInv xs cur (p + 1 + k2) kk) ∧ BRow w2 B g cur ∧ Below B w w2) (fun _ s5 _ => n - (intOf s5).toNat)
          case atStart => exact ⟨p + 1, 1, xs, by go_num, rfl, Nat.le_refl _, by omega, HI, HROW.out.drew, HBB.out.drew⟩
          case round =>
            obtain ⟨kk, k2, cur, rfl, rfl, h1, hle, HC, hrow, hb⟩ := hrel
            obtain ⟨j, rfl⟩ : ∃ j, k2 = j + 1 := ⟨k2 - 1, by omega⟩
            have hkk := HC.out.low
            have hcl := HC.out.len
            by_cases hlt2 : p + 1 + (j + 1) < n
            · have hm : p + 1 + (j + 1) < xs.length := by rw [HN.out]; exact hlt2
              have cm := hrow.cell (p + 1 + (j + 1)) (by omega)
              have cp := hrow.cell (p + 1 + j) (by omega)
              have ck := hrow.cell kk (by omega)
              have fk := hrow.free kk (by omega)
              have em : cur[p + 1 + (j + 1)]'(by omega) = xs[p + 1 + (j + 1)] := by
                have := HC.out.same (p + 1 + (j + 1)) (by omega) hm
                rw [List.getElem?_eq_getElem (by omega), List.getElem?_eq_getElem hm] at this
                injection this
              have ep : cur[p + 1 + j]'(by omega) = xs[p + 1 + j]'(by omega) := by
                have := HC.out.same (p + 1 + j) (by omega) (by omega)
                rw [List.getElem?_eq_getElem (by omega), List.getElem?_eq_getElem (by omega)] at this
                injection this
              rw [em] at cm
              rw [ep] at cp
              have HSK : Hid (xs[p + 1 + (j + 1)] = xs[p + 1 + j]'(by omega) → CInv xs cur (p + 1 + (j + 1 + 1)) kk) := Lib.hid fun e => HC.out.skip (by omega) hm e
              have HKE : Hid (xs[p + 1 + (j + 1)] ≠ xs[p + 1 + j]'(by omega) → CInv xs (cur.set kk xs[p + 1 + (j + 1)]) (p + 1 + (j + 1 + 1)) (kk + 1)) := Lib.hid fun e => HC.out.keep (by omega) hm e
              have HST : Hid (∀ u : UInt8, BRow (wr.drew.setCell ⟨g, kk, none⟩ (.int .u8 (u.toNat : Int))) B g (cur.set kk u)) := Lib.hid fun u => hrow.drew.set kk u (by omega)
              have HB2 := Lib.hid hb
              have HR2 := Lib.hid hrow
              have hfr := hrow.from_
              have i3 : (j : Int) + 1 < (n : Int) - ((p : Int) + 1) := by omega
              have i4 : (j : Int) < (n : Int) - ((p : Int) + 1) := by omega
              have i5 : (kk : Int) < (n : Int) := by omega
              have i6 : (0 : Int) ≤ (j : Int) + 1 := by omega
              have i7 : (j : Int) + 1 < ((n - (p + 1) : Nat) : Int) := by omega
              have i8 : (j : Int) < ((n - (p + 1) : Nat) : Int) := by omega
              clear hrow hb em ep
              generalize xs[p + 1 + (j + 1)] = u at *
              generalize xs[p + 1 + j]'(by omega) = v at *
              generalize cur[kk]'(by omega) = old at *
              by_cases huv : u = v
              · have HF := Lib.hid (HSK.out huv)
                subst huv
                clear HSK HKE
                go_wp2_with fail
                go_region
                go_wp2
                go_roundw
                case rel => exact ⟨kk, j + 1 + 1, cur, rfl, by go_num, by omega, by omega, HF, HR2.out.drew, HB2.out.drew⟩
                case measure => simp [intOf]; omega
              · have HF := Lib.hid (HKE.out huv)
                have q : ((u.toNat : Int) == (v.toNat : Int)) = false := beq_eq_false_iff_ne.2 (fun e => huv (UInt8.toNat_inj.1 (by omega)))
                clear HSK HKE
                go_wp2_with fail
                go_region
                go_wp2
                go_roundw
                case rel => exact ⟨kk + 1, j + 1 + 1, cur.set kk u, by go_num, by go_num, by omega, by omega, HF, HST.out u, HB2.out.drew.setCell (p := ⟨g, kk, none⟩) hfr _⟩
                case measure => simp [intOf]; omega
            · have hend : p + 1 + (j + 1) = n := by omega
              have hkn2 : kk < n := by omega
              have hnl : xs.length = n := HN.out
              have hcl2 : ∀ ty, (Builtin.clear_ #[22] ty #[.slice (some ⟨g, kk, none⟩) (n - kk) (c - kk)]).run Try.prog wr = .ok (.tuple #[]) (wr.setCells g kk (List.replicate (n - kk) (.int .u8 0))) :=
                fun ty => Lib.run_clear_slice wr _ _ ty _ Try.underlying22 (Try.zeroValue5) (by rfl) (by rfl) g kk _ _ (by omega) (fun i hi => by rw [hrow.cell (kk + i) (by omega)]; rfl) (fun i hi => hrow.free (kk + i) (by omega))
              have HFIN : Hid (CompRet B g c xs w (.returned (.slice (some ⟨g, 0, none⟩) kk c)) (wr.setCells g kk (List.replicate (n - kk) (.int .u8 0)))) := Lib.hid (by
                have h := HC.out
                rw [hend, ← HN.out] at h
                rw [← HN.out]
                exact CompRet.fin h hrow hb)
              clear hrow hb
              go_wp2
              go_ret
              exact HFIN.out
        · have HG2 := Lib.hid (HGO.out hxy)
          clear HST HGO
          have q : ((x.toNat : Int) == (y.toNat : Int)) = false := beq_eq_false_iff_ne.2 (fun e => hxy (UInt8.toNat_inj.1 (by omega)))
          go_wp2_with fail
          go_region
          go_wp2
          go_roundw
          case rel => exact ⟨p + 1 + 1, by omega, by omega, by go_num, HG2, HROW.out.drew, HBB.out.drew⟩
          case measure => simp [intOf]; omega
      · have HC : Hid (CompRet B g c xs w (.returned (.slice (some ⟨g, 0, none⟩) n c)) wr) := Lib.hid (by
          have hk := HK.out
          rw [List.take_of_length_le (by rw [HN.out]; omega)] at hk
          have := CompRet.all (c := c) hk hrow hb
          rw [HN.out] at this
          exact this)
        clear hrow hb
        go_wp2
        go_ret
        exact HC.out
end Go.Proofs.Ytachijliaedndaa

/- The program's TouchText. -/
namespace Go.Proofs.Ytachijliaedndaa
open Go.RowKit
set_option linter.unusedVariables false
theorem compact_nil (w : World) : Calls Try.prog 161 #[.slice none 0 0] w fun e w' => e = .returned (.slice none 0 0) ∧ w = w' := by
  go_enter Try.func161, Try.ntmps161
  go_wp2
  go_ret
  exact ⟨rfl, rfl⟩
theorem compact_own {w : World} {B : Nat} {v : Value} {L : List UInt8} (h : BOwn w B v L) (hl : L.length ≤ 1000000) :
    Calls Try.prog 161 #[v] w fun e w' => ∃ v', e = .returned v' ∧ (convert 22 9 v').run Try.prog w' = .ok (.string (strOf (cmpL L))) w' ∧ Below B w w' := by
  have h2 := h
  rcases h.2 with ⟨h1, h0⟩ | ⟨g, cap, cur, hv, hg, hh, hc, hm, _⟩
  · subst h1
    obtain rfl : L = [] := List.eq_nil_of_length_eq_zero h0
    exact (compact_nil w).mono fun e w' ⟨e1, e2⟩ => ⟨_, e1, run_str_nil w', by rw [e2]; exact Below.refl _ _⟩
  · subst hv
    have hr : BRow w B g L := ⟨hg, (Array.getElem?_eq_some_iff.1 hh).1, fun j hj => h2.cell hj, fun j _ => h2.free j⟩
    exact (compact_any L B g cap w hr hc hl).mono fun e w' ⟨e1, e2, e3⟩ => ⟨_, e1, run_str_cells w' g _ cap _ rfl e2, e3⟩
set_option maxRecDepth 100000 in
set_option maxHeartbeats 1600000 in
theorem touchText_ret (s : ByteArray) (lo hi : Int) (w : World) (hs : s.size ≤ maxLen) : Calls Try.prog 28 #[.string s, .int .i64 lo, .int .i64 hi] w (Ret w (.tuple #[.string (txV s lo hi), .bool (txOk s lo hi)])) := by
  have HI : Hid (∀ w, Calls Try.prog 160 #[.int .i64 lo, .int .i64 hi] w (Ret w (.bool (walB lo hi)))) := Lib.hid (areWalls_ret lo hi)
  rcases Bool.eq_false_or_eq_true (pathB s) with hp | hp
  case inr =>
    have e1 : txOk s lo hi = false := by simp [txOk, hp]
    have e2 : txV s lo hi = ⟨#[]⟩ := by rw [txV, e1]; rfl
    rw [e1, e2]
    clear e1 e2
    go_enter Try.func28, Try.ntmps28
    go_wp2_with (go_at_call 19; refine (heights_no s _ hs hp).mono ?_; rintro e w' ⟨rfl, rfl⟩)
    go_ret2
    exact ⟨rfl, Below.refl _ _⟩
  have HP := Lib.hid hp
  have h40 := ((pathB_iff s).1 hp).1
  rcases Bool.eq_false_or_eq_true (walB lo hi) with hw | hw
  case inr =>
    have e1 : txOk s lo hi = false := by simp [txOk, hw]
    have e2 : txV s lo hi = ⟨#[]⟩ := by rw [txV, e1]; rfl
    rw [e1, e2]
    rw [hw] at HI
    clear e1 e2 hp hw
    go_enter Try.func28, Try.ntmps28
    go_wp2_with (first | (go_at_call 19; refine (heights_any s _ hs HP.out).mono ?_; rintro e w1 ⟨v, rfl, hr, hb⟩; obtain ⟨g, c, rfl, hgB, hgl⟩ := hr.form' (hts_length s) (by omega)) | (go_at_call 160; refine (HI.out _).mono ?_; rintro e w2 ⟨rfl, hb2⟩))
    go_ret2
    exact ⟨rfl, hb.trans (hb2.mono hb.size)⟩
  by_cases hq : lo = hi
  · have e1 : txOk s lo hi = false := by simp [txOk, hq]
    have e2 : txV s lo hi = ⟨#[]⟩ := by rw [txV, e1]; rfl
    have q : (lo == hi) = true := by simpa using hq
    rw [e1, e2]
    rw [hw] at HI
    clear e1 e2 hp hw hq
    go_enter Try.func28, Try.ntmps28
    go_wp2_with (first | (go_at_call 19; refine (heights_any s _ hs HP.out).mono ?_; rintro e w1 ⟨v, rfl, hr, hb⟩; obtain ⟨g, c, rfl, hgB, hgl⟩ := hr.form' (hts_length s) (by omega)) | (go_at_call 160; refine (HI.out _).mono ?_; rintro e w2 ⟨rfl, hb2⟩))
    go_ret2
    exact ⟨rfl, hb.trans (hb2.mono hb.size)⟩
  have e1 : txOk s lo hi = true := by simp [txOk, hp, hw, hq]
  have e2 : txV s lo hi = strOf (cmpL (sgL s lo hi (s.size + 1))) := by rw [txV, if_pos e1, tx_sg]
  have q : (lo == hi) = false := beq_eq_false_iff_ne.2 hq
  rw [e1, e2]
  rw [hw] at HI
  clear e1 e2 hp hw hq
  go_enter Try.func28, Try.ntmps28
  go_wp2_with (first | (go_at_call 19; refine (heights_any s _ hs HP.out).mono ?_; rintro e w1 ⟨v, rfl, hr, hb⟩; obtain ⟨g, c, rfl, hgB, hgl⟩ := hr.form' (hts_length s) (by omega)) | (go_at_call 160; refine (HI.out _).mono ?_; rintro e w2 ⟨rfl, hb2⟩; have hr2 := hr.below hb2))
  have HB0 := Lib.hid (hb.trans (hb2.mono hb.size))
  have HR := Lib.hid hr2
  have hz2 := HB0.out.size
  clear hr hb hb2 hr2
  go_loopw [10, 33] (fun q i wr => ∃ k : Nat, k ≤ s.size + 1 ∧ i = .int .i64 (k : Int) ∧ BOwn wr w2.heap.size q (sgL s lo hi k) ∧ Below w2.heap.size w2 wr) (fun _ i _ => s.size + 1 - (intOf i).toNat)
  case atStart => exact ⟨0, Nat.zero_le _, rfl, BOwn.nil _ _, Below.refl _ _⟩
  case round =>
    obtain ⟨k, hk, rfl, hrow, hb⟩ := hrel
    have hsl := sgL_len s lo hi k
    have hsz := hb.size
    by_cases hlt : k < s.size + 1
    · have hc := hts_at (HR.out.below hb) k (by omega)
      by_cases hl : hAt s k = lo
      · have HS : Hid (sgL s lo hi (k + 1) = sgL s lo hi k ++ [108]) := Lib.hid (by rw [sgL, if_pos hl])
        have q1 : (hAt s k == lo) = true := by simpa using hl
        clear hl
        generalize hAt s k = x at *
        generalize hL : sgL s lo hi k = L at *
        have HL := Lib.hid hL
        clear hL
        obtain ⟨A1, c1, rfl⟩ := hrow.shape
        go_wp2_with (at_builtin; refine wpList_pushB 108 (.tmp 41) (.tmp 42) rfl rfl w2.heap.size _ L rfl hrow rfl (by omega) hsz ?_; intro v' w' hrow' hg' hat')
        go_roundw
        case rel => exact ⟨k + 1, by omega, by go_num, by rw [HS.out]; exact hrow', hb.grown hg' hsz (fun i hi => (hrow.blk i hi).1)⟩
        case measure => simp [intOf]; omega
      · have q1 : (hAt s k == lo) = false := beq_eq_false_iff_ne.2 hl
        by_cases hh : hAt s k = hi
        · have HS : Hid (sgL s lo hi (k + 1) = sgL s lo hi k ++ [104]) := Lib.hid (by rw [sgL, if_neg hl, if_pos hh])
          have q2 : (hAt s k == hi) = true := by simpa using hh
          clear hl hh
          generalize hAt s k = x at *
          generalize hL : sgL s lo hi k = L at *
          have HL := Lib.hid hL
          clear hL
          obtain ⟨A1, c1, rfl⟩ := hrow.shape
          go_wp2_with (at_builtin; refine wpList_pushB 104 (.tmp 47) (.tmp 48) rfl rfl w2.heap.size _ L rfl hrow rfl (by omega) hsz ?_; intro v' w' hrow' hg' hat')
          go_roundw
          case rel => exact ⟨k + 1, by omega, by go_num, by rw [HS.out]; exact hrow', hb.grown hg' hsz (fun i hi => (hrow.blk i hi).1)⟩
          case measure => simp [intOf]; omega
        · have HS : Hid (sgL s lo hi (k + 1) = sgL s lo hi k) := Lib.hid (by rw [sgL, if_neg hl, if_neg hh])
          have q2 : (hAt s k == hi) = false := beq_eq_false_iff_ne.2 hh
          clear hl hh
          generalize hAt s k = x at *
          go_wp2_with fail
          go_roundw
          case rel => exact ⟨k + 1, by omega, by go_num, by rw [HS.out]; exact hrow, hb⟩
          case measure => simp [intOf]; omega
    · have HK : Hid (k = s.size + 1) := Lib.hid (by omega)
      have HBT := Lib.hid (HB0.out.trans (hb.mono hz2))
      have HC := Lib.hid (compact_own hrow (by omega))
      obtain ⟨A1, c1, rfl⟩ := hrow.shape
      clear hrow hb
      generalize hLL : sgL s lo hi k = L at *
      have HSG : Hid (sgL s lo hi (s.size + 1) = L) := Lib.hid (by rw [← hLL, HK.out])
      clear hLL
      have hlt2 : ¬ (k : Int) < (s.size : Int) + 1 := by omega
      go_wp2_with (go_at_call 161; refine HC.out.mono ?_; rintro e w3 ⟨v', rfl, hcv, hb3⟩)
      go_ret2
      exact ⟨by rw [HSG.out]; rfl, HBT.out.trans (hb3.mono hz2)⟩
end Go.Proofs.Ytachijliaedndaa
