/- Pack 28 of what FnExactVotesOfTable needs: VoI, VoD2. -/
import Derived.Test.YtmfcknlpbliehaaDoorKFnExactVotesOfTable27
/- The program: AreVotes, candidateOf. -/
namespace Go.Proofs.YtmfcknlpbliehaaDoor
open Go.RowKit
set_option linter.unusedVariables false
def abcd : List UInt8 := [97, 98, 99, 100]
theorem abcd_in (c : UInt8) : abcd.contains c = isV c := by
  unfold isV abcd
  rw [Bool.eq_iff_iff]
  simp [← UInt8.toNat_inj]
  omega
theorem drop_all {p : UInt8 → Bool} : ∀ (l : List UInt8), l.dropWhile p = [] ↔ l.all p = true
  | [] => by simp
  | c :: l => by
    rw [List.dropWhile_cons, List.all_cons]
    by_cases h : p c = true
    · rw [if_pos h, h, Bool.true_and]; exact drop_all l
    · rw [if_neg h]; simp [h]
theorem trim_all (l : List UInt8) : (Lib.trimS l abcd = []) ↔ l.all isV = true := by
  have e : (fun c => abcd.contains c) = isV := funext abcd_in
  unfold Lib.trimS Lib.trimLeftS Lib.trimRightS
  rw [e, drop_all]
  constructor
  · intro h
    rw [List.all_reverse] at h
    have h2 : l.reverse.dropWhile isV = [] := by
      cases hd : l.reverse.dropWhile isV with
      | nil => rfl
      | cons x r =>
        have := List.head_dropWhile_not isV (l := l.reverse) (by rw [hd]; simp)
        rw [hd] at h
        simp only [hd] at this
        simp at this h
        rw [h.1] at this
        cases this
    have := (drop_all _).1 h2
    rwa [List.all_reverse] at this
  · intro h
    have h2 : l.reverse.dropWhile isV = [] := (drop_all _).2 (by rw [List.all_reverse]; exact h)
    rw [h2]
    rfl
theorem trim_any (s : ByteArray) (w : World) (hs : s.size ≤ 16) : Calls Tryd.prog 38 #[.string s, .string ⟨#[97, 98, 99, 100]⟩] w fun e w' => ∃ t : ByteArray, e = .returned (.string t) ∧ t.toList.isEmpty = votB s ∧ Below w.heap.size w w' := by
  refine (Any.strings_Trim_laid Tryd.lays160 (by kernel_rfl) s ⟨#[97, 98, 99, 100]⟩ w (by omega) (by decide) (ascii_of_all (by decide))).mono ?_
  rintro e w' ⟨he, hb⟩
  refine ⟨_, he, ?_, hb⟩
  have h := trim_all s.data.toList
  unfold votB
  rw [decide_eq_true hs, Bool.true_and, Bool.eq_iff_iff, ← h, Lib.toList_data]
  show (Lib.trimS s.data.toList abcd).toArray.toList.isEmpty = true ↔ _
  rw [List.isEmpty_iff]
set_option maxHeartbeats 400000 in
theorem areVotes_any (s : ByteArray) (w : World) (hs : s.size ≤ maxLen) : Calls Tryd.prog 32 #[.string s] w (Ret w (.bool (votB s))) := by
  unfold maxLen at hs
  by_cases h16 : s.size ≤ 16
  · have HT := Lib.hid (trim_any s · h16)
    have h17 : ¬ 16 < s.size := by omega
    go_enter Tryd.func32, Tryd.ntmps32
    go_wp2_with (go_at_call 38; refine (HT.out _).mono ?_; rintro e w1 ⟨t, rfl, ht, hb⟩; have HE := Lib.hid ht; clear ht)
    go_ret
    exact ⟨ret_bool HE.out, hb⟩
  · rw [votB_long h16]
    go_enter Tryd.func32, Tryd.ntmps32
    go_wp2
    go_ret
    exact ⟨rfl, Below.refl _ _⟩
theorem idx_at (c : UInt8) (h : isV c = true) : Lib.indexByte [97, 98, 99, 100] c = ((c.toNat - 97 : Nat) : Int) := by
  have h1 := (isV_iff c).1 h
  have : c.toNat = 97 ∨ c.toNat = 98 ∨ c.toNat = 99 ∨ c.toNat = 100 := by omega
  rcases this with e | e | e | e
  · obtain rfl : c = 97 := UInt8.toNat_inj.1 e; rfl
  · obtain rfl : c = 98 := UInt8.toNat_inj.1 e; rfl
  · obtain rfl : c = 99 := UInt8.toNat_inj.1 e; rfl
  · obtain rfl : c = 100 := UInt8.toNat_inj.1 e; rfl
theorem candOf_any (s : ByteArray) (k : Nat) (w : World) (hv : votB s = true) (h : k < s.size) : Calls Tryd.prog 34 #[.int .u8 (s[k].toNat : Int)] w fun e w' => e = .returned (.int .i64 ((cd s k : Nat) : Int)) ∧ w = w' := by
  have H : Hid (∀ w, Calls Tryd.prog 41 #[.string ⟨#[97, 98, 99, 100]⟩, .int .u8 (s[k].toNat : Int)] w fun e w' => e = .returned (.int .i64 ((cd s k : Nat) : Int)) ∧ w = w') := Lib.hid fun w => by
    refine (Any.strings_IndexByte Tryd.lays137 ⟨#[97, 98, 99, 100]⟩ (s[k].toNat : Int) w).mono ?_
    rintro e w' ⟨he, rfl⟩
    refine ⟨?_, rfl⟩
    have h1 := ((votB_iff s).1 hv).2 k h
    have h2 : ((s[k].toNat : Int).toNat).toUInt8 = s[k] := by simp
    rw [he, h2]
    unfold cd
    rw [getD_byte s k h, ← idx_at _ h1]
  generalize ((cd s k : Nat) : Int) = c at *
  generalize (s[k].toNat : Int) = b at *
  go_enter Tryd.func34, Tryd.ntmps34
  go_wp2_with (go_at_call 41; refine (H.out _).mono ?_; rintro e w' ⟨rfl, rfl⟩)
  go_ret
  exact ⟨rfl, rfl⟩
end Go.Proofs.YtmfcknlpbliehaaDoor

/- The door: admit, the deferred closure. -/
namespace Go.Proofs.YtmfcknlpbliehaaDoor
open Go.RowKit
set_option linter.unusedVariables false
theorem sum4 (p : Nat → Nat) : sumK [((p 0 : Nat) : Int), ((p 1 : Nat) : Int), ((p 2 : Nat) : Int), ((p 3 : Nat) : Int)] 4 = ((tot p : Nat) : Int) := by
  show 0 + ((p 0 : Nat) : Int) + ((p 1 : Nat) : Int) + ((p 2 : Nat) : Int) + ((p 3 : Nat) : Int) = _
  unfold tot
  omega
def ovV (p : Nat → Nat) : Value := .iface 61 (.int .i64 (((tot p : Nat) : Int) + 1))
/-- one vote is let in, or it panics -/
def Admits (b : Nat) (p : Nat → Nat) (c : Nat) (w : World) (e : Ending) (w' : World) : Prop :=
  (ovB p c = true ∧ e = .panicked [{ v := ovV p, recovered := false }] ∧ Below w.heap.size w w') ∨ (ovB p c = false ∧ e = .returned (.tuple #[]) ∧ B4 b (up p c) w' ∧ w.grownBy w' (some b))
set_option maxHeartbeats 1600000 in
theorem admit_any (b : Nat) (p : Nat → Nat) (c : Nat) (hc : c < 4) (hp : tot p ≤ 16) (w : World) (h : B4 b p w) : Calls Tryd.prog 40 #[.pointer (some ⟨b, 0, none⟩), .int .i64 (c : Int)] w (Admits b p c w) := by
  have c0 := h.cell 0 (by omega)
  have c1 := h.cell 1 (by omega)
  have c2 := h.cell 2 (by omega)
  have c3 := h.cell 3 (by omega)
  have HO : Hid (∀ w, Calls Tryd.prog 42 #[.agg #[.int .i64 ((p 0 : Nat) : Int), .int .i64 ((p 1 : Nat) : Int), .int .i64 ((p 2 : Nat) : Int), .int .i64 ((p 3 : Nat) : Int)], .int .i64 (c : Int)] w (Ret w (.bool (ovB p c)))) := Lib.hid fun w => overtakes_any p c hc w
  have hbd : p 0 ≤ 16 ∧ p 1 ≤ 16 ∧ p 2 ≤ 16 ∧ p 3 ≤ 16 := by unfold tot at hp; omega
  have HS : Hid (∀ w, B4 b p w → Calls Tryd.prog 51 #[.slice (some ⟨b, 0, none⟩) 4 4] w fun e w' => e = .returned (.int .i64 ((tot p : Nat) : Int)) ∧ w = w') := Lib.hid fun w h => by
    have := sumInts_any _ _ w h.ints (by simp) (fun k hk => by
      have hk2 : k = 0 ∨ k = 1 ∨ k = 2 ∨ k = 3 ∨ k = 4 := by simp at hk; omega
      have e0 : ((0 : Nat) : Int) = 0 := rfl
      rcases hk2 with e | e | e | e | e <;> subst e <;> simp [sumK, sumTo] <;> omega)
    rw [show [((p 0 : Nat) : Int), ((p 1 : Nat) : Int), ((p 2 : Nat) : Int), ((p 3 : Nat) : Int)].length = 4 from rfl, sum4] at this
    exact this
  have HB := Lib.hid h
  clear h hbd
  unfold Admits ovV
  rcases Bool.eq_false_or_eq_true (ovB p c) with ho | ho
  · rw [ho] at HO ⊢
    generalize tot p = T at *
    clear ho
    go_enter Tryd.func40, Tryd.ntmps40
    go_wp2_with (first | (go_at_call 42; refine (HO.out _).mono ?_; rintro e w1 ⟨rfl, hb1⟩; have HB1 := Lib.hid (HB.out.below hb1)) | (go_at_call 51; refine (HS.out _ HB1.out).mono ?_; rintro e w2 ⟨rfl, rfl⟩))
    exact ⟨rfl, Or.inl ⟨trivial, rfl, hb1⟩⟩
  · rw [ho] at HO ⊢
    have hcp : p c ≤ 16 := by
      have : c = 0 ∨ c = 1 ∨ c = 2 ∨ c = 3 := by omega
      unfold tot at hp
      rcases this with e | e | e | e <;> subst e <;> omega
    clear ho HS
    go_enter Tryd.func40, Tryd.ntmps40
    go_wp2_with (go_at_call 42; refine (HO.out _).mono ?_; rintro e w1 ⟨rfl, hb1⟩; have HB1 := Lib.hid (HB.out.below hb1))
    clear c0 c1 c2 c3
    have hcell := HB1.out.cell c hc
    have hfree := HB1.out.free c hc
    have HS2 := Lib.hid ((HB1.out.below (below_drewN (Below.refl _ _) 1)).set c hc)
    have HG2 : Hid (w.grownBy (w1.drew.setCell ⟨b, c, none⟩ (.int .i64 (((p c : Nat) : Int) + 1))) (some b)) := Lib.hid (by
      have hb2 := below_drewN hb1 1
      refine ⟨hb2.os, hb2.tape, hb2.output, ?_, fun i hi hne => ?_⟩
      · have := hb2.size
        simp [World.setCell] at this ⊢
        exact this
      · have := hb2.block i hi
        unfold World.setCell
        simp only [Array.getElem?_modify]
        rw [if_neg (fun e => hne (by rw [e]))]
        exact this)
    generalize p c = x at *
    go_region
    go_wp2
    go_end0
    exact Or.inr ⟨trivial, rfl, HS2.out, HG2.out⟩
theorem assert_yes (n : Int) (w : World) : (Instr.typeAssert (.iface 61 (.int .i64 n)) 20 61 true).run Tryd.prog w = .ok (.tuple #[.int .i64 n, .bool true]) w := by kernel_rfl
theorem assert_no (w : World) : (Instr.typeAssert .nilIface 20 61 true).run Tryd.prog w = .ok (.tuple #[.int .i64 0, .bool false]) w := by kernel_rfl
theorem catch_panicking (q : Addr) (x n : Int) (older : List PanicEntry) (w : World) (hc : w.cell? q = some (.int .i64 x)) (hz : w.frozen? q = false) :
    CallsD Tryd.prog 39 #[.pointer (some q)] (.panicking ({ v := .iface 61 (.int .i64 n), recovered := false } :: older)) w fun e u' w' =>
      e = .returned (.tuple #[]) ∧ u' = .panicking ({ v := .iface 61 (.int .i64 n), recovered := true } :: older) ∧ w' = w.setCell q (.int .i64 n) := by
  have hA := assert_yes n
  refine callsD_of_wpS Tryd.func39 rfl fun c₀ cs hu => ?_
  apply wpS_seq
  apply wpS_region
  simp [wpOpsS, go_sem, recoverD, hu, Tryd.ntmps39, Exit.thenS, hA]
  apply wpS_seq
  apply wpS_region
  simp [wpOpsS, go_sem, Exit.thenS]
  refine wpS_cond (t := true) (by simp [Act.eval, Array.replicate]) ?_
  simp only [if_true]
  apply wpS_region
  simp [wpOpsS, go_sem, hc, hz, bodyPostS, results, Tryd.results39]
theorem catch_idle (q : Addr) (w : World) :
    CallsD Tryd.prog 39 #[.pointer (some q)] .returning w fun e u' w' => e = .returned (.tuple #[]) ∧ u' = .returning ∧ w' = w := by
  have hA := assert_no
  refine callsD_of_wpS Tryd.func39 rfl fun c₀ cs hu => ?_
  apply wpS_seq
  apply wpS_region
  simp [wpOpsS, go_sem, recoverD, hu, Tryd.ntmps39, Exit.thenS, hA]
  apply wpS_seq
  apply wpS_region
  simp [wpOpsS, go_sem, Exit.thenS]
  refine wpS_cond (t := false) (by simp [Act.eval, Array.replicate]) ?_
  simp only [Bool.false_eq_true, if_false]
  refine wpS_of_wp (wp_skip ?_)
  cases c₀
  simp_all [bodyPostS, results, Tryd.results39]
end Go.Proofs.YtmfcknlpbliehaaDoor
