/- Pack 15 of what FnExactAllPairsApart needs: TxMath, TxS. -/
import Derived.Test.YtnlmjeakdjmohaaKFnExactAllPairsApart14
/- All texts of so many steps to the east and to the north; how many there are; take. -/
namespace Go.Proofs.Ytnlmjeakdjmohaa
open Go.RowKit
set_option linter.unusedVariables false
def tx1 (c : UInt8) (s : ByteArray) : ByteArray := (⟨#[c]⟩ : ByteArray) ++ s
def txT (p : List UInt8) : ByteArray := ⟨p.toArray⟩
def txM (L : List (List UInt8)) : List ByteArray := L.map txT
theorem txT_cons (c : UInt8) (p : List UInt8) : txT (c :: p) = tx1 c (txT p) := by
  apply ByteArray.ext
  apply Array.toList_inj.1
  simp [txT, tx1]
theorem txM_cons (c : UInt8) (L : List (List UInt8)) : txM (L.map (List.cons c)) = (txM L).map (tx1 c) := by
  unfold txM
  rw [List.map_map, List.map_map]
  exact List.map_congr_left fun p _ => txT_cons c p
theorem txM_app (L M : List (List UInt8)) : txM (L ++ M) = txM L ++ txM M := by unfold txM; rw [List.map_append]
theorem txT_size (p : List UInt8) : (txT p).size = p.length := by show p.toArray.size = _; simp
/-- texts -/
def txF : Nat → Int → Int → List (List UInt8)
  | 0, _, _ => []
  | f + 1, x, y => if x < 0 ∨ y < 0 then [] else if x + y = 0 then [[]] else (txF f (x - 1) y).map (List.cons 69) ++ (txF f x (y - 1)).map (List.cons 78)
def noT : Int → Int → Bool := fun _ _ => false
theorem spF_tx (u v : Int) : ∀ (f : Nat) (x y : Int), spF noT u v f x y = txF f (u - x) (v - y)
  | 0, _, _ => rfl
  | f + 1, x, y => by
    by_cases h : u < x ∨ v < y
    · rw [spF_no (by rcases h with h | h <;> simp [h]), txF, if_pos (by omega)]
    · by_cases h2 : x = u ∧ y = v
      · obtain ⟨rfl, rfl⟩ := h2
        rw [spF_end (by rfl), txF, if_neg (by omega), if_pos (by omega)]
      · rw [spF_step (by simp [noT]; omega) h2, txF, if_neg (by omega), if_neg (by omega), spF_tx u v f, spF_tx u v f, show u - (x + 1) = u - x - 1 by omega, show v - (y + 1) = v - y - 1 by omega]
theorem txF_no {f : Nat} {x y : Int} (h : x < 0 ∨ y < 0) : txF f x y = [] := by
  cases f with
  | zero => rfl
  | succ f => rw [txF, if_pos h]
theorem txF_len : ∀ (f a b : Nat), a + b < f → (txF f a b).length = chs (a + b) a
  | 0, a, b, h => by omega
  | f + 1, a, b, h => by
    rw [txF, if_neg (by omega)]
    by_cases h2 : a + b = 0
    · obtain rfl : a = 0 := by omega
      obtain rfl : b = 0 := by omega
      rfl
    · rw [if_neg (by omega), List.length_append, List.length_map, List.length_map]
      cases a with
      | zero =>
        rw [txF_no (by omega)]
        cases b with
        | zero => omega
        | succ b =>
          rw [show ((b + 1 : Nat) : Int) - 1 = (b : Int) by omega, txF_len f 0 b (by omega), chs_zero, chs_zero]
          rfl
      | succ a =>
        rw [show ((a + 1 : Nat) : Int) - 1 = (a : Int) by omega, txF_len f a b (by omega)]
        cases b with
        | zero =>
          rw [txF_no (x := ((a + 1 : Nat) : Int)) (by omega), Nat.add_zero, Nat.add_zero, chs_self, chs_self]
          rfl
        | succ b =>
          rw [show ((b + 1 : Nat) : Int) - 1 = (b : Int) by omega, txF_len f (a + 1) b (by omega), show a + 1 + (b + 1) = (a + b + 1) + 1 by omega, chs_succ, show a + 1 + b = a + b + 1 by omega, show a + (b + 1) = a + b + 1 by omega]
theorem txF_fuel : ∀ (f g : Nat) (x y : Int), x + y < f → x + y < g → txF f x y = txF g x y
  | 0, 0, _, _, _, _ => rfl
  | 0, g + 1, x, y, h, _ => by rw [txF_no (f := g + 1) (by omega)]; rfl
  | f + 1, 0, x, y, _, h => by rw [txF_no (f := f + 1) (by omega)]; rfl
  | f + 1, g + 1, x, y, h1, h2 => by
    by_cases h : x < 0 ∨ y < 0
    · rw [txF_no h, txF_no h]
    · rw [txF, txF, if_neg h, if_neg h]
      split
      · rfl
      · rw [txF_fuel f g _ _ (by omega) (by omega), txF_fuel f g _ _ (by omega) (by omega)]
theorem spF_fuel (tk : Int → Int → Bool) (u v : Int) : ∀ (f g : Nat) (x y : Int), (u - x) + (v - y) < f → (u - x) + (v - y) < g → spF tk u v f x y = spF tk u v g x y
  | 0, 0, _, _, _, _ => rfl
  | 0, g + 1, x, y, h, _ => by rw [spF_no (f := g + 1) (by omega)]; rfl
  | f + 1, 0, x, y, _, h => by rw [spF_no (f := f + 1) (by omega)]; rfl
  | f + 1, g + 1, x, y, h1, h2 => by
    rw [spF, spF]
    split
    · rfl
    · split
      · rfl
      · rw [spF_fuel tk u v f g _ _ (by omega) (by omega), spF_fuel tk u v f g _ _ (by omega) (by omega)]
/-- the first so many of two lists -/
theorem take_two {α : Type} (A B : List α) (m : Nat) : (A ++ B).take m = A.take m ++ B.take (m - (A.take m).length) := by
  rw [List.take_append, List.length_take]
  congr 2
  omega
end Go.Proofs.Ytnlmjeakdjmohaa

/- The model's ncTexts. -/
namespace Go.Proofs.Ytnlmjeakdjmohaa
open Go.RowKit
set_option linter.unusedVariables false
def SNew (w : World) (xs : List ByteArray) (e : Ending) (w' : World) : Prop := ∃ v, e = .returned v ∧ SRow w' w.heap.size v xs ∧ Below w.heap.size w w'
theorem SRow.apart {w w' : World} {B : Nat} {v : Value} {xs : List ByteArray} {r : Option Nat} (h : SRow w B v xs) (hg : w.grownBy w' r) (hne : ∀ k, v.ownBlock = some k → some k ≠ r) : SRow w' B v xs :=
  World.ownsRow.kept h hg (by
    cases e : v.ownBlock with
    | none => exact .inl rfl
    | some k => exact .inr (hne k e))
theorem one_text (w : World) (s : ByteArray) : SRow (w.alloc (.cells #[.string s] 9)) w.heap.size (.slice (some ⟨w.heap.size, 0, none⟩) 1 1) [s] :=
  SRow.of_own (World.ownsRow_lit w #[.string s] 1 (Nat.le_refl _) (by simp [maxLen]) rfl) rfl rfl
theorem txF_mem : ∀ (f : Nat) (x y : Int) (p : List UInt8), p ∈ txF f x y → (p.length : Int) = x + y
  | 0, x, y, p, h => by cases h
  | f + 1, x, y, p, h => by
    rw [txF] at h
    split at h
    · cases h
    · split at h
      · next h1 =>
        rw [List.mem_singleton] at h
        subst h
        simp
        omega
      · rw [List.mem_append, List.mem_map, List.mem_map] at h
        rcases h with ⟨q, hq, rfl⟩ | ⟨q, hq, rfl⟩
        · have := txF_mem f _ _ q hq
          rw [List.length_cons]
          omega
        · have := txF_mem f _ _ q hq
          rw [List.length_cons]
          omega
theorem txM_mem {L : List (List UInt8)} {N : Nat} (h : ∀ p ∈ L, p.length ≤ N) {k : Nat} (hk : k < (txM L).length) : ((txM L).getD k ByteArray.empty).size ≤ N := by
  have hk2 : k < L.length := by unfold txM at hk; simpa using hk
  unfold txM
  rw [List.getD_eq_getElem?_getD, List.getElem?_map, List.getElem?_eq_getElem hk2]
  show (txT L[k]).size ≤ N
  rw [txT_size]
  exact h _ (List.getElem_mem hk2)
theorem map_take_succ (c : UInt8) (A : List ByteArray) {k : Nat} (h : k < A.length) : (A.take k).map (tx1 c) ++ [tx1 c (A.getD k ByteArray.empty)] = (A.take (k + 1)).map (tx1 c) := by
  rw [List.take_succ_eq_append_getElem h, List.map_append, List.getD_eq_getElem?_getD, List.getElem?_eq_getElem h]
  rfl
set_option maxRecDepth 100000 in
set_option maxHeartbeats 4000000 in
theorem ncTexts_any : ∀ (f : Nat) (x y : Int) (w : World), x + y < f → (x ≤ 100 ∧ y ≤ 100) → (-100 ≤ x ∧ -100 ≤ y) → (txF f x y).length ≤ 1000000 → Calls Try.prog 126 #[.int .i64 x, .int .i64 y] w (SNew w (txM (txF f x y))) := by
  intro f
  induction f with
  | zero =>
    intro x y w hf hb hb2 hl
    by_cases hx : x < 0
    · go_enter Try.func126, Try.ntmps126
      go_wp2
      go_ret
      exact ⟨_, rfl, SRow.nil _ _, Below.refl _ _⟩
    · have hy : y < 0 := by omega
      go_enter Try.func126, Try.ntmps126
      go_wp2
      go_ret
      exact ⟨_, rfl, SRow.nil _ _, Below.refl _ _⟩
  | succ f ih =>
    intro x y w hf hb hb2 hl
    obtain ⟨hb3, hb4⟩ := hb
    by_cases hx : x < 0
    · rw [txF_no (.inl hx)]
      clear ih hl
      go_enter Try.func126, Try.ntmps126
      go_wp2
      go_ret
      exact ⟨_, rfl, SRow.nil _ _, Below.refl _ _⟩
    by_cases hy : y < 0
    · rw [txF_no (.inr hy)]
      clear ih hl
      go_enter Try.func126, Try.ntmps126
      go_wp2
      go_ret
      exact ⟨_, rfl, SRow.nil _ _, Below.refl _ _⟩
    by_cases hz : x + y = 0
    · have e1 : txF (f + 1) x y = [[]] := by rw [txF, if_neg (by omega), if_pos hz]
      rw [e1]
      have i1 : (x + y == 0) = true := by rw [hz]; rfl
      clear ih hl e1 hz
      go_enter Try.func126, Try.ntmps126
      go_wp2_with fail
      go_ret
      exact ⟨_, rfl, one_text w ⟨#[]⟩, (Below.refl _ _).alloc (Nat.le_refl _) _⟩
    have i1 : (x + y == 0) = false := beq_eq_false_iff_ne.2 hz
    have e1 : txF (f + 1) x y = (txF f (x - 1) y).map (List.cons 69) ++ (txF f x (y - 1)).map (List.cons 78) := by rw [txF, if_neg (by omega), if_neg hz]
    rw [e1] at hl ⊢
    rw [List.length_append, List.length_map, List.length_map] at hl
    rw [txM_app, txM_cons, txM_cons]
    have HA : Hid (∀ w, Calls Try.prog 126 #[.int .i64 (x - 1), .int .i64 y] w (SNew w (txM (txF f (x - 1) y)))) := Lib.hid fun w => ih (x - 1) y w (by omega) (by omega) (by omega) (by omega)
    have HB : Hid (∀ w, Calls Try.prog 126 #[.int .i64 x, .int .i64 (y - 1)] w (SNew w (txM (txF f x (y - 1))))) := Lib.hid fun w => ih x (y - 1) w (by omega) (by omega) (by omega) (by omega)
    have HSA : Hid (∀ k, k < (txM (txF f (x - 1) y)).length → ((txM (txF f (x - 1) y)).getD k ByteArray.empty).size ≤ 300) := Lib.hid fun k hk => txM_mem (fun p hp => by have := txF_mem _ _ _ p hp; omega) hk
    have HSB : Hid (∀ k, k < (txM (txF f x (y - 1))).length → ((txM (txF f x (y - 1))).getD k ByteArray.empty).size ≤ 300) := Lib.hid fun k hk => txM_mem (fun p hp => by have := txF_mem _ _ _ p hp; omega) hk
    have hla : (txM (txF f (x - 1) y)).length ≤ 1000000 := by unfold txM; rw [List.length_map]; omega
    have hlb : (txM (txF f x (y - 1))).length ≤ 1000000 := by unfold txM; rw [List.length_map]; omega
    have k1 := IntWalk.i64_in (x - 1) (by omega)
    have k2 := IntWalk.i64_in (y - 1) (by omega)
    have hx0 : 0 ≤ x := by omega
    have hy0 : 0 ≤ y := by omega
    generalize txM (txF f (x - 1) y) = LA at *
    generalize txM (txF f x (y - 1)) = LB at *
    clear ih hl e1 hz hb2 hf
    obtain ⟨nA, hnA⟩ : ∃ nA, LA.length = nA := ⟨_, rfl⟩
    obtain ⟨nB, hnB⟩ : ∃ nB, LB.length = nB := ⟨_, rfl⟩
    have HNA := Lib.hid hnA
    have HNB := Lib.hid hnB
    rw [hnA] at hla HSA
    rw [hnB] at hlb HSB
    clear hnA hnB
    go_enter Try.func126, Try.ntmps126
    go_wp2_with fail
    refine (HA.out _).mono ?_
    rintro e w1 ⟨v1, rfl, hr1, hb1⟩
    obtain ⟨A1, c1, rfl⟩ := hr1.shape
    have HB1 := Lib.hid hb1
    have HR1 := Lib.hid hr1
    rw [HNA.out] at HR1 ⊢
    clear hb1 hr1
    go_wp2_with fail
    go_loopw [5, 26] (fun o i wr => ∃ k : Nat, k ≤ nA ∧ i = .int .i64 (k : Int) ∧ SRow wr w1.heap.size o ((LA.take k).map (tx1 69)) ∧ Below w1.heap.size w1 wr) (fun _ i _ => nA - (intOf i).toNat)
    case atStart => exact ⟨0, Nat.zero_le _, rfl, SRow.nil _ _, Below.refl _ _⟩
    case round =>
      obtain ⟨k, hk, rfl, hrow, hb⟩ := hrel
      have hln : ((LA.take k).map (tx1 69)).length = k := by rw [List.length_map, List.length_take, HNA.out]; omega
      obtain ⟨A2, c2, rfl⟩ := hrow.shape
      rw [hln] at hrow ⊢
      by_cases hlt : k < nA
      · have h11 := HR1.out.below hb
        obtain ⟨g, cc, hv, _, _⟩ := h11.form' HNA.out (by omega)
        injection hv with hv hnn hcc
        subst hv
        subst hcc
        clear hnn
        have e0 := h11.cell (j := k) (by rw [HNA.out]; exact hlt)
        have hss := HSA.out k hlt
        have HMT := Lib.hid (map_take_succ 69 LA (k := k) (by rw [HNA.out]; exact hlt))
        have i2 : (k : Int) < (nA : Int) := by omega
        have i3 : 0 ≤ (k : Int) := by omega
        have HROW := Lib.hid hrow
        have HBW := Lib.hid hb
        have HLN := Lib.hid hln
        clear h11 hrow hb hln
        generalize LA.getD k ByteArray.empty = s at *
        generalize (LA.take k).map (tx1 69) = P at *
        have k3 : ¬ 9223372036854775807 < 1 + s.size := by omega
        have HT1 : Hid (tx1 69 s = (⟨#[69]⟩ : ByteArray) ++ s) := Lib.hid rfl
        go_wp2_with (at_builtin; refine wpList_pushS (.tmp 30) (.tmp 33) rfl rfl w1.heap.size _ P rfl HROW.out rfl (by rw [HLN.out]; omega) HBW.out.size ?_; intro v' w' hr' hg' hat')
        have hb' : Below w1.heap.size w1 w' := HBW.out.grown hg' HBW.out.size (fun q hq => (HROW.out.blk q hq).1)
        rw [← HT1.out, HMT.out] at hr'
        have HR' := Lib.hid hr'
        have HB' := Lib.hid hb'
        obtain ⟨A5, c5, rfl⟩ := hr'.shape
        clear hr' hg' hat' hb'
        go_wp2_with fail
        go_roundw
        case rel => exact ⟨k + 1, by omega, by go_num, HR'.out, HB'.out⟩
        case measure => first | (simp [intOf]; done) | (simp [intOf]; omega)
      · obtain rfl : k = nA := by omega
        have HTK : Hid (LA.take k = LA) := Lib.hid (List.take_of_length_le (by rw [HNA.out]; omega))
        rw [HTK.out] at hrow hln
        have HROW := Lib.hid hrow
        have HBW := Lib.hid hb
        have HLN := Lib.hid hln
        have HMA : Hid (LA.map (tx1 69) = LA.map (tx1 69)) := Lib.hid rfl
        clear hrow hb hln HTK HR1
        generalize LA.map (tx1 69) = P at *
        go_wp2_with fail
        refine (HB.out _).mono ?_
        rintro e w2 ⟨v2, rfl, hr2, hb2⟩
        obtain ⟨A3, c3, rfl⟩ := hr2.shape
        have HROW2 := Lib.hid (HROW.out.below hb2)
        have HB2 := Lib.hid (HBW.out.trans (hb2.mono HBW.out.size))
        have K2 := Lib.hid hr2.blk
        have KO := Lib.hid HROW.out.blk
        have z2 := hb2.size
        have HR2 := Lib.hid hr2
        rw [HNB.out] at HR2 K2 ⊢
        clear hb2 hr2 HROW HBW
        obtain ⟨wp, hwp⟩ : ∃ wp, wp = wr.heap.size := ⟨_, rfl⟩
        rw [← hwp] at HR2 K2 KO z2
        clear hwp
        go_wp2_with fail
        go_loopw [5, 41] (fun o i wq => ∃ j : Nat, j ≤ nB ∧ i = .int .i64 (j : Int) ∧ SRow wq w1.heap.size o (P ++ (LB.take j).map (tx1 78)) ∧ SRow wq wp (.slice A3 nB c3) LB ∧ (∀ q, o.ownBlock = some q → q < wp ∨ w2.heap.size ≤ q) ∧ w2.heap.size ≤ wq.heap.size ∧ Below w1.heap.size w1 wq) (fun _ i _ => nB - (intOf i).toNat)
        case atStart => exact ⟨0, Nat.zero_le _, rfl, by simpa using HROW2.out, HR2.out, fun q hq => .inl (KO.out q hq).2, Nat.le_refl _, HB2.out⟩
        case round =>
          obtain ⟨j, hj, rfl, hrow, hr2, hob, hsz, hb⟩ := hrel
          clear HROW2 HB2 HR2
          have hln : (P ++ (LB.take j).map (tx1 78)).length = k + j := by rw [List.length_append, HLN.out, List.length_map, List.length_take, HNB.out]; omega
          obtain ⟨A6, c6, rfl⟩ := hrow.shape
          rw [hln] at hrow hob ⊢
          by_cases hlj : j < nB
          · obtain ⟨g, cc, hv, _, _⟩ := hr2.form' HNB.out (by omega)
            injection hv with hv hnn hcc
            subst hv
            subst hcc
            clear hnn
            have e0 := hr2.cell (j := j) (by rw [HNB.out]; exact hlj)
            have hss := HSB.out j hlj
            have HMT := Lib.hid (map_take_succ 78 LB (k := j) (by rw [HNB.out]; exact hlj))
            have i2 : (j : Int) < (nB : Int) := by omega
            have i3 : 0 ≤ (j : Int) := by omega
            have HROW := Lib.hid hrow
            have HBW := Lib.hid hb
            have HLJ := Lib.hid hln
            have HR2 := Lib.hid hr2
            have HOB := Lib.hid hob
            clear hrow hb hln hr2 hob
            generalize LB.getD j ByteArray.empty = s at *
            have HQ : Hid (P ++ (LB.take j).map (tx1 78) ++ [tx1 78 s] = P ++ (LB.take (j + 1)).map (tx1 78)) := Lib.hid (by rw [List.append_assoc, HMT.out])
            generalize P ++ (LB.take j).map (tx1 78) = Q at *
            have k3 : ¬ 9223372036854775807 < 1 + s.size := by omega
            have HT1 : Hid (tx1 78 s = (⟨#[78]⟩ : ByteArray) ++ s) := Lib.hid rfl
            go_wp2_with (at_builtin; refine wpList_pushS (.tmp 45) (.tmp 48) rfl rfl w1.heap.size _ Q rfl HROW.out rfl (by rw [HLJ.out]; omega) HBW.out.size ?_; intro v' w' hr' hg' hat')
            have hb' : Below w1.heap.size w1 w' := HBW.out.grown hg' HBW.out.size (fun q hq => (HROW.out.blk q hq).1)
            have h2' : SRow w' wp (.slice (some ⟨g, 0, none⟩) nB c3) LB := HR2.out.apart hg' (fun q hq e2 => by have a := K2.out q hq; have b := HOB.out q e2.symm; omega)
            have hob' : ∀ q, v'.ownBlock = some q → q < wp ∨ w2.heap.size ≤ q := fun q hq => by
              rcases hat' with e | ⟨g', e, hge⟩
              · rw [e] at hq; exact HOB.out q hq
              · rw [e] at hq
                injection hq with hq
                omega
            rw [← HT1.out, HQ.out] at hr'
            have HR' := Lib.hid hr'
            have HB' := Lib.hid hb'
            have H2' := Lib.hid h2'
            have HOB' := Lib.hid hob'
            have HSZ := Lib.hid (Nat.le_trans hsz hg'.size)
            obtain ⟨A5, c5, rfl⟩ := hr'.shape
            clear hr' hg' hat' hb' h2' hob'
            go_wp2_with fail
            go_roundw
            case rel => exact ⟨j + 1, by omega, by go_num, HR'.out, H2'.out, HOB'.out, HSZ.out, HB'.out⟩
            case measure => first | (simp [intOf]; done) | (simp [intOf]; omega)
          · obtain rfl : j = nB := by omega
            have HTK : Hid (LB.take j = LB) := Lib.hid (List.take_of_length_le (by rw [HNB.out]; omega))
            rw [HTK.out] at hrow
            have HROW := Lib.hid (hrow.mono HB1.out.size)
            have HBW := Lib.hid (HB1.out.trans (hb.mono HB1.out.size))
            clear hrow hb hr2 hob HTK
            go_wp2_with fail
            go_ret
            exact ⟨_, rfl, HROW.out, HBW.out⟩
end Go.Proofs.Ytnlmjeakdjmohaa
