/- Pack 16 of what FnExactFirstApart needs: TxS, POwn. -/
import Derived.Test.YtnlmjeakdjmohaaKFnExactFirstApart15
import Derived.Deep.RegionHeld3
/- The model's ncTexts. -/
namespace Go.Proofs.Ytnlmjeakdjmohaa
open Go.RowKit
set_option linter.unusedVariables false
def SNew (w : World) (xs : List ByteArray) (e : Ending) (w' : World) : Prop := ∃ v, e = .returned v ∧ SRow w' w.heap.size v xs ∧ Below w.heap.size w w'
theorem SRow.apart {w w' : World} {B : Nat} {v : Value} {xs : List ByteArray} {r : Option Nat} (h : SRow w B v xs) (hg : w.grownBy w' r) (hne : ∀ k, v.ownBlock = some k → some k ≠ r) : SRow w' B v xs :=
  World.ownsRow.kept h hg (by
    cases e : v.ownBlock with
    | none => exact .inl rfl
    | some k => exact .inr (hne k e))
theorem one_text (w : World) (s : ByteArray) : SRow (w.alloc (.cells #[.string s] 9)) w.heap.size (.slice (some ⟨w.heap.size, 0, none⟩) 1 1) [s] :=
  SRow.of_own (World.ownsRow_lit w #[.string s] 1 (Nat.le_refl _) (by simp [maxLen]) rfl) rfl rfl
theorem txF_mem : ∀ (f : Nat) (x y : Int) (p : List UInt8), p ∈ txF f x y → (p.length : Int) = x + y
  | 0, x, y, p, h => by cases h
  | f + 1, x, y, p, h => by
    rw [txF] at h
    split at h
    · cases h
    · split at h
      · next h1 =>
        rw [List.mem_singleton] at h
        subst h
        simp
        omega
      · rw [List.mem_append, List.mem_map, List.mem_map] at h
        rcases h with ⟨q, hq, rfl⟩ | ⟨q, hq, rfl⟩
        · have := txF_mem f _ _ q hq
          rw [List.length_cons]
          omega
        · have := txF_mem f _ _ q hq
          rw [List.length_cons]
          omega
theorem txM_mem {L : List (List UInt8)} {N : Nat} (h : ∀ p ∈ L, p.length ≤ N) {k : Nat} (hk : k < (txM L).length) : ((txM L).getD k ByteArray.empty).size ≤ N := by
  have hk2 : k < L.length := by unfold txM at hk; simpa using hk
  unfold txM
  rw [List.getD_eq_getElem?_getD, List.getElem?_map, List.getElem?_eq_getElem hk2]
  show (txT L[k]).size ≤ N
  rw [txT_size]
  exact h _ (List.getElem_mem hk2)
theorem map_take_succ (c : UInt8) (A : List ByteArray) {k : Nat} (h : k < A.length) : (A.take k).map (tx1 c) ++ [tx1 c (A.getD k ByteArray.empty)] = (A.take (k + 1)).map (tx1 c) := by
  rw [List.take_succ_eq_append_getElem h, List.map_append, List.getD_eq_getElem?_getD, List.getElem?_eq_getElem h]
  rfl
set_option maxRecDepth 100000 in
set_option maxHeartbeats 4000000 in
theorem ncTexts_any : ∀ (f : Nat) (x y : Int) (w : World), x + y < f → (x ≤ 100 ∧ y ≤ 100) → (-100 ≤ x ∧ -100 ≤ y) → (txF f x y).length ≤ 1000000 → Calls Try.prog 126 #[.int .i64 x, .int .i64 y] w (SNew w (txM (txF f x y))) := by
  intro f
  induction f with
  | zero =>
    intro x y w hf hb hb2 hl
    by_cases hx : x < 0
    · go_enter Try.func126, Try.ntmps126
      go_wp2
      go_ret
      exact ⟨_, rfl, SRow.nil _ _, Below.refl _ _⟩
    · have hy : y < 0 := by omega
      go_enter Try.func126, Try.ntmps126
      go_wp2
      go_ret
      exact ⟨_, rfl, SRow.nil _ _, Below.refl _ _⟩
  | succ f ih =>
    intro x y w hf hb hb2 hl
    obtain ⟨hb3, hb4⟩ := hb
    by_cases hx : x < 0
    · rw [txF_no (.inl hx)]
      clear ih hl
      go_enter Try.func126, Try.ntmps126
      go_wp2
      go_ret
      exact ⟨_, rfl, SRow.nil _ _, Below.refl _ _⟩
    by_cases hy : y < 0
    · rw [txF_no (.inr hy)]
      clear ih hl
      go_enter Try.func126, Try.ntmps126
      go_wp2
      go_ret
      exact ⟨_, rfl, SRow.nil _ _, Below.refl _ _⟩
    by_cases hz : x + y = 0
    · have e1 : txF (f + 1) x y = [[]] := by rw [txF, if_neg (by omega), if_pos hz]
      rw [e1]
      have i1 : (x + y == 0) = true := by rw [hz]; rfl
      clear ih hl e1 hz
      go_enter Try.func126, Try.ntmps126
      go_wp2_with fail
      go_ret
      exact ⟨_, rfl, one_text w ⟨#[]⟩, (Below.refl _ _).alloc (Nat.le_refl _) _⟩
    have i1 : (x + y == 0) = false := beq_eq_false_iff_ne.2 hz
    have e1 : txF (f + 1) x y = (txF f (x - 1) y).map (List.cons 69) ++ (txF f x (y - 1)).map (List.cons 78) := by rw [txF, if_neg (by omega), if_neg hz]
    rw [e1] at hl ⊢
    rw [List.length_append, List.length_map, List.length_map] at hl
    rw [txM_app, txM_cons, txM_cons]
    have HA : Hid (∀ w, Calls Try.prog 126 #[.int .i64 (x - 1), .int .i64 y] w (SNew w (txM (txF f (x - 1) y)))) := Lib.hid fun w => ih (x - 1) y w (by omega) (by omega) (by omega) (by omega)
    have HB : Hid (∀ w, Calls Try.prog 126 #[.int .i64 x, .int .i64 (y - 1)] w (SNew w (txM (txF f x (y - 1))))) := Lib.hid fun w => ih x (y - 1) w (by omega) (by omega) (by omega) (by omega)
    have HSA : Hid (∀ k, k < (txM (txF f (x - 1) y)).length → ((txM (txF f (x - 1) y)).getD k ByteArray.empty).size ≤ 300) := Lib.hid fun k hk => txM_mem (fun p hp => by have := txF_mem _ _ _ p hp; omega) hk
    have HSB : Hid (∀ k, k < (txM (txF f x (y - 1))).length → ((txM (txF f x (y - 1))).getD k ByteArray.empty).size ≤ 300) := Lib.hid fun k hk => txM_mem (fun p hp => by have := txF_mem _ _ _ p hp; omega) hk
    have hla : (txM (txF f (x - 1) y)).length ≤ 1000000 := by unfold txM; rw [List.length_map]; omega
    have hlb : (txM (txF f x (y - 1))).length ≤ 1000000 := by unfold txM; rw [List.length_map]; omega
    have k1 := IntWalk.i64_in (x - 1) (by omega)
    have k2 := IntWalk.i64_in (y - 1) (by omega)
    have hx0 : 0 ≤ x := by omega
    have hy0 : 0 ≤ y := by omega
    generalize txM (txF f (x - 1) y) = LA at *
    generalize txM (txF f x (y - 1)) = LB at *
    clear ih hl e1 hz hb2 hf
    obtain ⟨nA, hnA⟩ : ∃ nA, LA.length = nA := ⟨_, rfl⟩
    obtain ⟨nB, hnB⟩ : ∃ nB, LB.length = nB := ⟨_, rfl⟩
    have HNA := Lib.hid hnA
    have HNB := Lib.hid hnB
    rw [hnA] at hla HSA
    rw [hnB] at hlb HSB
    clear hnA hnB
    go_enter Try.func126, Try.ntmps126
    go_wp2_with fail
    refine (HA.out _).mono ?_
    rintro e w1 ⟨v1, rfl, hr1, hb1⟩
    obtain ⟨A1, c1, rfl⟩ := hr1.shape
    have HB1 := Lib.hid hb1
    have HR1 := Lib.hid hr1
    rw [HNA.out] at HR1 ⊢
    clear hb1 hr1
    go_wp2_with fail
    go_loopw [5, 26] (fun o i wr => ∃ k : Nat, k ≤ nA ∧ i = .int .i64 (k : Int) ∧ SRow wr w1.heap.size o ((LA.take k).map (tx1 69)) ∧ Below w1.heap.size w1 wr) (fun _ i _ => nA - (intOf i).toNat)
    case atStart => exact ⟨0, Nat.zero_le _, rfl, SRow.nil _ _, Below.refl _ _⟩
    case round =>
      obtain ⟨k, hk, rfl, hrow, hb⟩ := hrel
      have hln : ((LA.take k).map (tx1 69)).length = k := by rw [List.length_map, List.length_take, HNA.out]; omega
      obtain ⟨A2, c2, rfl⟩ := hrow.shape
      rw [hln] at hrow ⊢
      by_cases hlt : k < nA
      · have h11 := HR1.out.below hb
        obtain ⟨g, cc, hv, _, _⟩ := h11.form' HNA.out (by omega)
        injection hv with hv hnn hcc
        subst hv
        subst hcc
        clear hnn
        have e0 := h11.cell (j := k) (by rw [HNA.out]; exact hlt)
        have hss := HSA.out k hlt
        have HMT := Lib.hid (map_take_succ 69 LA (k := k) (by rw [HNA.out]; exact hlt))
        have i2 : (k : Int) < (nA : Int) := by omega
        have i3 : 0 ≤ (k : Int) := by omega
        have HROW := Lib.hid hrow
        have HBW := Lib.hid hb
        have HLN := Lib.hid hln
        clear h11 hrow hb hln
        generalize LA.getD k ByteArray.empty = s at *
        generalize (LA.take k).map (tx1 69) = P at *
        have k3 : ¬ 9223372036854775807 < 1 + s.size := by omega
        have HT1 : Hid (tx1 69 s = (⟨#[69]⟩ : ByteArray) ++ s) := Lib.hid rfl
        go_wp2_with (at_builtin; refine wpList_pushS (.tmp 30) (.tmp 33) rfl rfl w1.heap.size _ P rfl HROW.out rfl (by rw [HLN.out]; omega) HBW.out.size ?_; intro v' w' hr' hg' hat')
        have hb' : Below w1.heap.size w1 w' := HBW.out.grown hg' HBW.out.size (fun q hq => (HROW.out.blk q hq).1)
        rw [← HT1.out, HMT.out] at hr'
        have HR' := Lib.hid hr'
        have HB' := Lib.hid hb'
        obtain ⟨A5, c5, rfl⟩ := hr'.shape
        clear hr' hg' hat' hb'
        go_wp2_with fail
        go_roundw
        case rel => exact ⟨k + 1, by omega, by go_num, HR'.out, HB'.out⟩
        case measure => first | (simp [intOf]; done) | (simp [intOf]; omega)
      · obtain rfl : k = nA := by omega
        have HTK : Hid (LA.take k = LA) := Lib.hid (List.take_of_length_le (by rw [HNA.out]; omega))
        rw [HTK.out] at hrow hln
        have HROW := Lib.hid hrow
        have HBW := Lib.hid hb
        have HLN := Lib.hid hln
        have HMA : Hid (LA.map (tx1 69) = LA.map (tx1 69)) := Lib.hid rfl
        clear hrow hb hln HTK HR1
        generalize LA.map (tx1 69) = P at *
        go_wp2_with fail
        refine (HB.out _).mono ?_
        rintro e w2 ⟨v2, rfl, hr2, hb2⟩
        obtain ⟨A3, c3, rfl⟩ := hr2.shape
        have HROW2 := Lib.hid (HROW.out.below hb2)
        have HB2 := Lib.hid (HBW.out.trans (hb2.mono HBW.out.size))
        have K2 := Lib.hid hr2.blk
        have KO := Lib.hid HROW.out.blk
        have z2 := hb2.size
        have HR2 := Lib.hid hr2
        rw [HNB.out] at HR2 K2 ⊢
        clear hb2 hr2 HROW HBW
        obtain ⟨wp, hwp⟩ : ∃ wp, wp = wr.heap.size := ⟨_, rfl⟩
        rw [← hwp] at HR2 K2 KO z2
        clear hwp
        go_wp2_with fail
        go_loopw [5, 41] (fun o i wq => ∃ j : Nat, j ≤ nB ∧ i = .int .i64 (j : Int) ∧ SRow wq w1.heap.size o (P ++ (LB.take j).map (tx1 78)) ∧ SRow wq wp (.slice A3 nB c3) LB ∧ (∀ q, o.ownBlock = some q → q < wp ∨ w2.heap.size ≤ q) ∧ w2.heap.size ≤ wq.heap.size ∧ Below w1.heap.size w1 wq) (fun _ i _ => nB - (intOf i).toNat)
        case atStart => exact ⟨0, Nat.zero_le _, rfl, by simpa using HROW2.out, HR2.out, fun q hq => .inl (KO.out q hq).2, Nat.le_refl _, HB2.out⟩
        case round =>
          obtain ⟨j, hj, rfl, hrow, hr2, hob, hsz, hb⟩ := hrel
          clear HROW2 HB2 HR2
          have hln : (P ++ (LB.take j).map (tx1 78)).length = k + j := by rw [List.length_append, HLN.out, List.length_map, List.length_take, HNB.out]; omega
          obtain ⟨A6, c6, rfl⟩ := hrow.shape
          rw [hln] at hrow hob ⊢
          by_cases hlj : j < nB
          · obtain ⟨g, cc, hv, _, _⟩ := hr2.form' HNB.out (by omega)
            injection hv with hv hnn hcc
            subst hv
            subst hcc
            clear hnn
            have e0 := hr2.cell (j := j) (by rw [HNB.out]; exact hlj)
            have hss := HSB.out j hlj
            have HMT := Lib.hid (map_take_succ 78 LB (k := j) (by rw [HNB.out]; exact hlj))
            have i2 : (j : Int) < (nB : Int) := by omega
            have i3 : 0 ≤ (j : Int) := by omega
            have HROW := Lib.hid hrow
            have HBW := Lib.hid hb
            have HLJ := Lib.hid hln
            have HR2 := Lib.hid hr2
            have HOB := Lib.hid hob
            clear hrow hb hln hr2 hob
            generalize LB.getD j ByteArray.empty = s at *
            have HQ : Hid (P ++ (LB.take j).map (tx1 78) ++ [tx1 78 s] = P ++ (LB.take (j + 1)).map (tx1 78)) := Lib.hid (by rw [List.append_assoc, HMT.out])
            generalize P ++ (LB.take j).map (tx1 78) = Q at *
            have k3 : ¬ 9223372036854775807 < 1 + s.size := by omega
            have HT1 : Hid (tx1 78 s = (⟨#[78]⟩ : ByteArray) ++ s) := Lib.hid rfl
            go_wp2_with (at_builtin; refine wpList_pushS (.tmp 45) (.tmp 48) rfl rfl w1.heap.size _ Q rfl HROW.out rfl (by rw [HLJ.out]; omega) HBW.out.size ?_; intro v' w' hr' hg' hat')
            have hb' : Below w1.heap.size w1 w' := HBW.out.grown hg' HBW.out.size (fun q hq => (HROW.out.blk q hq).1)
            have h2' : SRow w' wp (.slice (some ⟨g, 0, none⟩) nB c3) LB := HR2.out.apart hg' (fun q hq e2 => by have a := K2.out q hq; have b := HOB.out q e2.symm; omega)
            have hob' : ∀ q, v'.ownBlock = some q → q < wp ∨ w2.heap.size ≤ q := fun q hq => by
              rcases hat' with e | ⟨g', e, hge⟩
              · rw [e] at hq; exact HOB.out q hq
              · rw [e] at hq
                injection hq with hq
                omega
            rw [← HT1.out, HQ.out] at hr'
            have HR' := Lib.hid hr'
            have HB' := Lib.hid hb'
            have H2' := Lib.hid h2'
            have HOB' := Lib.hid hob'
            have HSZ := Lib.hid (Nat.le_trans hsz hg'.size)
            obtain ⟨A5, c5, rfl⟩ := hr'.shape
            clear hr' hg' hat' hb' h2' hob'
            go_wp2_with fail
            go_roundw
            case rel => exact ⟨j + 1, by omega, by go_num, HR'.out, H2'.out, HOB'.out, HSZ.out, HB'.out⟩
            case measure => first | (simp [intOf]; done) | (simp [intOf]; omega)
          · obtain rfl : j = nB := by omega
            have HTK : Hid (LB.take j = LB) := Lib.hid (List.take_of_length_le (by rw [HNB.out]; omega))
            rw [HTK.out] at hrow
            have HROW := Lib.hid (hrow.mono HB1.out.size)
            have HBW := Lib.hid (HB1.out.trans (hb.mono HB1.out.size))
            clear hrow hb hr2 hob HTK
            go_wp2_with fail
            go_ret
            exact ⟨_, rfl, HROW.out, HBW.out⟩
end Go.Proofs.Ytnlmjeakdjmohaa

/- Words for memory: a slice of places that the call owns, told by its numbers one behind the other. -/
namespace Go.Proofs.Ytnlmjeakdjmohaa
open Go.RowKit
set_option linter.unusedVariables false
theorem plcInfo : (Try.prog.info? 103).map (fun i => (i.zero, i.size, i.bytes)) = some (some (.agg #[.int .i64 0, .int .i64 0]), 2, 16) := by kernel_rfl
def PRow (w : World) (B : Nat) (v : Value) (n : Nat) (xs : List Int) : Prop := w.ownsRow B 103 2 v n (xs.map (Value.int .i64)) ∧ xs.length = n * 2
section
variable {w w' : World} {B n : Nat} {v : Value} {xs : List Int}
theorem PRow.nil (w : World) (B : Nat) : PRow w B (.slice none 0 0) 0 [] := ⟨World.ownsRow_nil _ _ _ _, rfl⟩
theorem PRow.mono (h : PRow w B v n xs) {B' : Nat} (hb : B' ≤ B) : PRow w B' v n xs := by
  refine ⟨⟨h.1.1, ?_⟩, h.2⟩
  rcases h.1.2 with h2 | ⟨g, cap, cur, hv, hg, r⟩
  · exact .inl h2
  · exact .inr ⟨g, cap, cur, hv, Nat.le_trans hb hg, r⟩
theorem PRow.drewN (h : PRow w B v n xs) (k : Nat) : PRow (w.drewN k) B v n xs := h
theorem PRow.below (h : PRow w B v n xs) (hb : Below w.heap.size w w') : PRow w' B v n xs :=
  ⟨World.ownsRow.kept (row := none) h.1 ⟨hb.os, hb.tape, hb.output, hb.size, fun k hk _ => hb.block k hk⟩ (by cases v.ownBlock <;> simp), h.2⟩
theorem PRow.shape (h : PRow w B v n xs) : ∃ A c, v = .slice A n c := by
  rcases h.1.2 with ⟨h1, h0⟩ | ⟨g, cap, cur, hv, _⟩
  · exact ⟨none, 0, by rw [h1, h0]⟩
  · exact ⟨_, cap, hv⟩
theorem PRow.form (h : PRow w B v n xs) (hx : 0 < n) : ∃ g c, v = .slice (some ⟨g, 0, none⟩) n c ∧ B ≤ g ∧ g < w.heap.size := by
  rcases h.1.2 with ⟨_, h0⟩ | ⟨g, cap, cur, hv, hg, hh, _⟩
  · omega
  · exact ⟨g, cap, hv, hg, (Array.getElem?_eq_some_iff.1 hh).1⟩
theorem PRow.blk (h : PRow w B v n xs) : ∀ k, v.ownBlock = some k → B ≤ k ∧ k < w.heap.size := World.ownsRow.lt h.1
theorem PRow.cell {g c : Nat} (h : PRow w B (.slice (some ⟨g, 0, none⟩) n c) n xs) {j : Nat} (hj : j < n * 2) : w.cell? ⟨g, j, none⟩ = some (.int .i64 (xs.getD j 0)) := by
  rw [World.ownsRow.cellAt h.1 j (by omega)]
  have := h.2
  simp [show j < xs.length by omega]
theorem PRow.free {g c : Nat} (h : PRow w B (.slice (some ⟨g, 0, none⟩) n c) n xs) (j : Nat) : w.frozen? ⟨g, j, none⟩ = false := World.ownsRow.frozenAt h.1 j
theorem PRow.set {g c : Nat} (h : PRow w B (.slice (some ⟨g, 0, none⟩) n c) n xs) (j : Nat) (u : Int) :
    PRow (w.setCell ⟨g, j, none⟩ (.int .i64 u)) B (.slice (some ⟨g, 0, none⟩) n c) n (xs.set j u) ∧ w.grownBy (w.setCell ⟨g, j, none⟩ (.int .i64 u)) (some g) := by
  have := World.ownsRow.stored h.1 j (.int .i64 u)
  refine ⟨⟨?_, by rw [List.length_set]; exact h.2⟩, this.2⟩
  have h1 := this.1
  rw [List.map_set]
  exact h1
end
theorem PRow.grown_other {w w' : World} {B B2 n : Nat} {v v2 : Value} {xs : List Int} (h : PRow w B v n xs) (hg : w.grownBy w' v2.ownBlock) (hv : ∀ k, v.ownBlock = some k → k < B2) (hv2 : ∀ k, v2.ownBlock = some k → B2 ≤ k) : PRow w' B v n xs :=
  ⟨World.ownsRow.kept h.1 hg (by
    cases e : v.ownBlock with
    | none => exact .inl rfl
    | some k =>
      right
      intro e2
      have a := hv k e
      have b := hv2 k e2.symm
      omega), h.2⟩
/-- append of one place to a slice of the call's own -/
theorem wpList_pushP {ops : Array Oper} {rest : List Oper} {o : Oper} {a : Act} {Q : Exit → Act → World → Prop} {w : World} (p q : Int) (s x : Operand) (hgd : o.guard = none)
    (ho : o.op = .call { callee := .builtin .append, args := #[s, x], argTypes := #[62, 62] })
    (B : Nat) (v : Value) (n : Nat) (xs : List Int) (hs : a.eval s = v) (hown : PRow w B v n xs) (gb : Nat) (hgb : gb = w.heap.size) (hx : a.eval x = .slice (some ⟨gb, 0, none⟩) 1 1)
    (hlen : n ≤ 1048576) (hB : B ≤ w.heap.size)
    (h : ∀ v' w', PRow w' B v' (n + 1) (xs ++ [p, q]) → w.grownBy w' v.ownBlock → (v'.ownBlock = v.ownBlock ∨ ∃ g, v'.ownBlock = some g ∧ w.heap.size ≤ g) → wpList Try.prog ops Q rest (a.put o.dst v') w') :
    wpList Try.prog ops Q (o :: rest) a (w.alloc (.cells #[.int .i64 p, .int .i64 q] 103)) := by
  subst hgb
  obtain ⟨i0, hi, hz0, hz1, hz2⟩ := info_parts plcInfo
  have hxl := hown.2
  refine wpList_append_own_at _ hgd s x 62 ho B 103 i0 _ 2 16 Try.underlying62 hi hz0 hz1 hz2 rfl (by decide) v n (xs.map (Value.int .i64)) hs (World.ownsRow.alloc hown.1 _)
    ⟨w.heap.size, 0, none⟩ 1 1 [.int .i64 p, .int .i64 q] hx rfl ?_ ?_ ?_ ?_ ?_ ?_
  · intro j y hj
    match j, hj with
    | 0, hj => simp at hj; subst hj; simp [Addr.add]
    | 1, hj => simp at hj; subst hj; simp [Addr.add]
  · intro y hy
    simp at hy
    rcases hy with rfl | rfl <;> rfl
  · unfold maxLen; omega
  · omega
  · simp; omega
  · intro v' w' h1 h2 _ h4
    refine h v' w' ⟨?_, by rw [List.length_append, hxl]; simp; omega⟩ (grown_alloc_left h2) ?_
    · rw [List.map_append]
      exact h1
    · rcases h4 with h4 | h4
      · exact .inl h4
      · exact .inr ⟨_, h4, by simp⟩
end Go.Proofs.Ytnlmjeakdjmohaa
