/- endOfRun; RunsOfPath. -/
import Derived.Test.YtdekjmbbogddgabRunsMath
import Derived.Test.YtdekjmbbogddgabCut
import Derived.Deep.QuietTactic
import Derived.BigQuiet
import Derived.Lib.Strings
namespace Go.Proofs.Ytdekjmbbogddgab
open Go.RowKit
theorem byte_eq (a b : UInt8) : (a == b) = ((a.toNat : Int) == (b.toNat : Int)) := by
  rw [Bool.eq_iff_iff]; simp [← UInt8.toNat_inj]; omega
set_option maxHeartbeats 800000 in
theorem endOfRun_any (s : ByteArray) (k : Nat) (w : World) (h40 : s.size ≤ 40) (hk : k ≤ s.size) :
    Calls Try.prog 62 #[.string s, .int .i64 (k : Nat)] w (Ret w (.int .i64 (eor s k : Nat))) := by
  by_cases hlt : k < s.size
  · have HE : Hid (eor s k = k + leadLen s[k] (s.data.toList.drop k)) := by unfold Hid eor; rw [dif_pos hlt]
    obtain ⟨c, hc⟩ : ∃ c, c = s[k] := ⟨_, rfl⟩
    have HC := Lib.hid hc
    rw [← hc] at HE
    clear hc
    generalize eor s k = e0 at *
    go_enter Try.func62, Try.ntmps62
    go_wp2
    go_loopw [5] (fun t wr => ∃ j : Nat, k ≤ j ∧ j ≤ s.size ∧ t = .int .i64 (j : Int) ∧ Hid (e0 = j + leadLen c (s.data.toList.drop j)) ∧ ∃ m, wr = w.drewN m) (fun t _ => s.size - (intOf t).toNat)
    case atStart => exact ⟨k, by omega, hk, rfl, HE, 0, rfl⟩
    case round =>
      obtain ⟨j, hj1, hj2, rfl, HA, m, rfl⟩ := hrel
      clear HE
      have i2 : (k : Int) < (s.size : Int) := by omega
      by_cases hjl : j < s.size
      · have i1 : (j : Int) < (s.size : Int) := by omega
        have HD := Lib.hid (drop_cons' s j hjl)
        go_wp2
        go_quiet (fail)
        go_wp2
        · have hb1 : ((s[j].toNat : Int) == (s[k].toNat : Int)) = true := by assumption
          have hcj : (s[j] == c) = true := by rw [HC.out, byte_eq]; exact hb1
          have HA2 : Hid (e0 = j + 1 + leadLen c (s.data.toList.drop (j + 1))) := by
            have := HA.out
            rw [HD.out, leadLen_yes hcj] at this
            unfold Hid; omega
          go_roundw
          case rel => exact ⟨j + 1, by omega, by omega, by go_num, HA2, _, rfl⟩
          case measure => first | (simp [intOf]; done) | (simp [intOf]; omega)
        · have hb1 : ((s[j].toNat : Int) == (s[k].toNat : Int)) = false := by assumption
          have hcj : (s[j] == c) = false := by rw [HC.out, byte_eq]; exact hb1
          have HA2 : Hid (e0 = j) := by
            have := HA.out
            rw [HD.out, leadLen_no hcj] at this
            exact this
          go_ret
          exact ⟨ret_int (by rw [HA2.out]), below_drewN (below_drewN (Below.refl _ _) _) _⟩
      · have hd : decide ((j : Int) < (s.size : Int)) = false := decide_eq_false (by omega)
        go_wp2
        go_quiet (fail)
        go_wp2
        have HA2 : Hid (e0 = j) := by
          have := HA.out
          rw [List.drop_of_length_le (by simp; omega)] at this
          exact this
        go_ret
        exact ⟨ret_int (by rw [HA2.out]), below_drewN (below_drewN (Below.refl _ _) _) _⟩
  · have HE : Hid (eor s k = k) := by unfold Hid eor; rw [dif_neg hlt]
    have hd : decide ((k : Int) < (s.size : Int)) = false := decide_eq_false (by omega)
    go_enter Try.func62, Try.ntmps62
    go_wp2
    refine wp_loop_rounds 1 ?_; rw [rounds_succ]
    go_wp2
    go_quiet (fail)
    go_wp2
    go_ret
    exact ⟨ret_int (by rw [HE.out]), below_drewN (Below.refl _ _) _⟩
/-- does a path begin with D -/
def headD (s : ByteArray) : Bool := match s.data.toList with | [] => false | c :: _ => c == 68
set_option maxHeartbeats 400000 in
theorem hasPrefixLite_any (s : ByteArray) (w : World) (hs : s.size ≤ maxLen) : Calls Try.prog 73 #[.string s, .string ⟨#[68]⟩] w fun e w' => e = .returned (.bool (headD s)) ∧ w = w' := by
  unfold maxLen at hs
  by_cases h0 : s.size = 0
  · have hh : headD s = false := by
      have : s.data.toList = [] := List.eq_nil_of_length_eq_zero (by simpa using h0)
      unfold headD; rw [this]
    rw [hh]
    have h1 : ¬ 1 ≤ s.size := by omega
    go_enter Try.func73, Try.ntmps73
    go_wp2
    go_ret
    exact ⟨rfl, rfl⟩
  · have hh : headD s = ((s.extract 0 1).toList == [68]) := by
      unfold headD
      rw [ByteArray.toList_eq, Lib.extract_data, List.drop_zero]
      have hl : s.data.toList.length = s.size := by simp
      cases hc : s.data.toList with
      | nil => rw [hc] at hl; simp at hl; omega
      | cons c l => simp
    rw [hh]
    have h1 : 1 ≤ s.size := by omega
    go_enter Try.func73, Try.ntmps73
    go_wp2
    go_ret
    exact ⟨rfl, rfl⟩
set_option maxHeartbeats 400000 in
theorem hasPrefix_any (s : ByteArray) (w : World) (hs : s.size ≤ maxLen) : Calls Try.prog 61 #[.string s, .string ⟨#[68]⟩] w fun e w' => e = .returned (.bool (headD s)) ∧ w = w' := by
  go_enter Try.func61, Try.ntmps61
  go_wp2_with (go_at_call 73; refine (hasPrefixLite_any s _ hs).mono ?_; rintro e w' ⟨rfl, rfl⟩)
  go_ret
  exact ⟨rfl, rfl⟩
def plen (p : Nat × Nat) : Int := (p.2 : Int) - (p.1 : Int)
def runParts (s : ByteArray) : List (Nat × Nat) := cuts (eor s) s.size (s.size + 1) 0
def preD (s : ByteArray) : List Int := if headD s then [0] else []
theorem cuts_len (E : Nat → Nat) (n : Nat) : ∀ (f k : Nat), (cuts E n f k).length ≤ f
  | 0, k => by simp [cuts]
  | f + 1, k => by
    have := cuts_len E n f (E k)
    unfold cuts; split <;> simp; omega
theorem cuts_in {E : Nat → Nat} {n : Nat} (hE : ∀ k, k < n → k < E k ∧ E k ≤ n) : ∀ (f k : Nat) (p : Nat × Nat), p ∈ cuts E n f k → p.1 < p.2 ∧ p.2 ≤ n
  | 0, k, p, h => by simp [cuts] at h
  | f + 1, k, p, h => by
    unfold cuts at h
    split at h
    · rename_i hk
      rcases List.mem_cons.1 h with rfl | h
      · exact hE k hk
      · exact cuts_in hE f _ p h
    · cases h
set_option maxRecDepth 100000 in
set_option maxHeartbeats 1000000 in
theorem runs_yes (s : ByteArray) (w : World) (hs : s.size ≤ maxLen) (hp : pathB s = true) :
    Calls Try.prog 36 #[.string s] w (IntsRet w true (preD s ++ (runParts s).map plen)) := by
  have h40 := ((pathB_iff s).1 hp).1
  have HCUT : Hid (∀ w, Calls Try.prog 52 #[.string s, .func (.func 62) #[] #[]] w fun e w' => ∃ v, e = .returned v ∧ PRow w' w.heap.size v (runParts s) ∧ Below w.heap.size w w') :=
    Lib.hid fun w => cutRuns_any s (eor s) w h40 (Lib.hid fun w k hk => endOfRun_any s k w h40 hk) (Lib.hid fun k hk => eor_lt hk) (Lib.hid (eor_end s))
  have hPl : (runParts s).length ≤ 41 := by have := cuts_len (eor s) s.size (s.size + 1) 0; unfold runParts; omega
  have HPM : Hid (∀ p, p ∈ runParts s → p.1 < p.2 ∧ p.2 ≤ 40) := fun p hpm => by
    have := cuts_in (fun k hk => eor_lt hk) _ _ p hpm
    omega
  generalize runParts s = P at *
  have hpre : (preD s).length ≤ 1 := by unfold preD; split <;> simp
  have HPR : Hid (preD s = if headD s then [0] else []) := rfl
  generalize preD s = pre at *
  rcases Bool.eq_false_or_eq_true (headD s) with hd | hd
  all_goals
    rw [hd] at HPR
    go_enter Try.func36, Try.ntmps36
    go_wp2_with (first | (go_at_call 47; refine (isPath_any s _ hs).mono ?_; rintro e w' ⟨rfl, rfl⟩) | (go_at_call 61; refine (hasPrefix_any s _ hs).mono ?_; rintro e w' ⟨rfl, rfl⟩; rw [hd]) | (at_builtin; refine wpList_push (.tmp 12) (.tmp 13) rfl rfl w.heap.size _ [] rfl (IRow.nil _ _) rfl (by simp) (Nat.le_refl _) ?_; intro v0 w1 hr1 hg1 hat1))
    first
      | (have hr1' : IRow w1 w.heap.size v0 pre := by have hz := HPR.out; simp at hz; rw [hz]; exact hr1
         have hb1 : Below w.heap.size w w1 := (Below.refl _ _).grown hg1 (Nat.le_refl _) (fun j hj => ((IRow.nil w w.heap.size).blk j hj).1)
         clear hr1 hg1 hat1)
      | (have hr1' : IRow w w.heap.size (.slice none 0 0) pre := by have hz := HPR.out; simp at hz; rw [hz]; exact IRow.nil _ _
         have hb1 : Below w.heap.size w w := Below.refl _ _)
    refine (HCUT.out _).mono ?_
    rintro e w2 ⟨v2, rfl, hps, hb2⟩
    have hr2 := hr1'.below hb2
    have hne := Lib.hid (fun (k : Nat) (hk : v2.ownBlock = some k) => (hps.blk k hk).1)
    have hbb2 : Below w.heap.size w w2 := hb1.trans (hb2.mono hb1.size)
    have hlow := Lib.hid (fun (k : Nat) hk => (hr1'.blk k hk).2)
    clear hr1'
    obtain ⟨A2, cc2, rfl⟩ := hps.shape
    have HPS := Lib.hid hps
    clear hps
    go_wp2
    go_loopw [4, 18] (fun v i wr => ∃ k : Nat, k ≤ P.length ∧ i = .int .i64 (k : Int) ∧ IRow wr w.heap.size v (pre ++ (P.take k).map plen) ∧ PRow wr 0 (.slice A2 P.length cc2) P ∧ Hid (∀ j, (Value.slice A2 P.length cc2).ownBlock = some j → v.ownBlock ≠ some j) ∧ Below w.heap.size w wr) (fun _ i _ => P.length - (intOf i).toNat)
    case atStart => exact ⟨0, by omega, rfl, by simpa using hr2, HPS.out.mono (Nat.zero_le _), Lib.hid (fun j hj e => by have a := hne.out j hj; have b := hlow.out j e; omega), hbb2⟩
    case round =>
      obtain ⟨k, hk, rfl, hrow, hprow, HNE, hb⟩ := hrel
      clear hr2 hbb2 hb1 hb2 hlow hne
      have hsz := hb.size
      by_cases hlt : k < P.length
      · obtain ⟨gp, cp, hv, _, hgl, hcells⟩ := hprow.cells (by omega)
        have hA : A2 = some ⟨gp, 0, none⟩ := by injection hv
        subst hA
        clear hv
        have e1 := (hcells k hlt).1
        have e2 := (hcells k hlt).2
        have HP2 := Lib.hid (HPM.out P[k] (List.getElem_mem hlt))
        have HT : Hid (pre ++ (P.take k).map plen ++ [plen P[k]] = pre ++ (P.take (k + 1)).map plen) := by
          unfold Hid
          rw [List.take_succ_eq_append_getElem hlt, List.map_append, List.append_assoc]
          rfl
        have HPL : Hid (plen P[k] = ((P[k]).2 : Int) - ((P[k]).1 : Int)) := rfl
        generalize P[k] = pk at *
        obtain ⟨pa, pb⟩ := pk
        simp only at e1 e2 HPL HP2
        rw [HPL.out] at HT
        have hp1 := HP2.out.1
        have hp2 := HP2.out.2
        have hlen : (pre ++ (P.take k).map plen).length ≤ 42 := by simp; omega
        clear hcells
        go_wp2_with (at_builtin; refine wpList_pushG (.tmp 22) (.tmp 28) rfl rfl w.heap.size _ _ rfl (hrow.alloc _) _ (by simp) rfl (by omega) (by simp; omega) ?_; intro v' w' hrow' hg' hat')
        rw [HT.out] at hrow'
        have hps' : PRow w' 0 (.slice (some ⟨gp, 0, none⟩) P.length cc2) P := World.ownsRow.kept (hprow.alloc _) hg' (.inr (fun e => HNE.out gp rfl e.symm))
        have HNE' : Hid (∀ j, (Value.slice (some ⟨gp, 0, none⟩) P.length cc2).ownBlock = some j → v'.ownBlock ≠ some j) := by
          intro j hj e
          rcases hat' with h1 | ⟨g2, h1, h2⟩
          · exact HNE.out j hj (h1 ▸ e)
          · rw [h1] at e
            injection e with e
            have : j = gp := by injection hj with hj; exact hj.symm
            simp at h2
            omega
        go_roundw
        case rel => exact ⟨k + 1, by omega, by go_num, hrow', hps', HNE', (hb.alloc hsz _).grown hg' (by simp; omega) (fun j hj => (hrow.blk j hj).1)⟩
        case measure => first | (simp [intOf]; done) | (simp [intOf]; omega)
      · have HK : Hid (k = P.length) := by unfold Hid; omega
        go_wp2
        go_ret2
        rw [HK.out, List.take_length] at hrow
        exact ⟨_, rfl, hrow, hb⟩
end Go.Proofs.Ytdekjmbbogddgab
