/- spec.RunsOfPath; both in one form. -/
import Derived.Test.YtdekjmbbogddgabRuns
import Derived.Test.YtdekjmbbogddgabPathRuns
namespace Go.Proofs.Ytdekjmbbogddgab
open Go.RowKit
def runsOutV (s : ByteArray) : List Int := preD s ++ (runParts s).map plen
theorem isUD_or {c : UInt8} (h : isUD c = true) : c = 85 ∨ c = 68 := by
  unfold isUD at h; simpa using h
theorem eor_next {s : ByteArray} (hu : UpTo s s.size) {k : Nat} (hk : k < s.size) (h : eor s k < s.size) : s[eor s k] = turnC s[k] := by
  have hall : ∀ x ∈ s.data.toList.drop k, x = 85 ∨ x = 68 := fun x hx => by
    have hx' := List.mem_of_mem_drop hx
    obtain ⟨i, hi, rfl⟩ := List.mem_iff_getElem.1 hx'
    exact isUD_or (hu i (by simpa using hi) (by simpa using hi))
  have h1 := lead_next s[k] (s.data.toList.drop k) hall (isUD_or (hu k hk hk))
  rw [List.drop_drop] at h1
  have he : eor s k = k + leadLen s[k] (s.data.toList.drop k) := by unfold eor; rw [dif_pos hk]
  rw [← he, drop_cons' s _ h] at h1
  rcases h1 with h1 | ⟨r, h1⟩
  · cases h1
  · injection h1
structure RunSt (s : ByteArray) (N : List Int) (i : Nat) (c : UInt8) (out : List Int) : Prop where
  ud : c = 85 ∨ c = 68
  st : (headD s = true ∧ i = 0 ∧ out = [] ∧ c = 85) ∨ (∃ f, s.size < f + i ∧ out ++ (cuts (eor s) s.size f i).map plen = N ∧ ∀ h : i < s.size, s[i] = c)
theorem headD_at {s : ByteArray} (h : headD s = true) : ∃ h0 : 0 < s.size, s[0] = 68 := by
  unfold headD at h
  cases hc : s.data.toList with
  | nil => rw [hc] at h; cases h
  | cons c l =>
    rw [hc] at h
    have hl : s.data.toList.length = s.size := by simp
    have h0 : 0 < s.size := by rw [hc] at hl; simp at hl; omega
    refine ⟨h0, ?_⟩
    have e : s[0] = s.data.toList[0]'(by omega) := rfl
    rw [e]
    simp only [hc, List.getElem_cons_zero]
    simpa using h
theorem headD_no {s : ByteArray} (hu : UpTo s s.size) (h : headD s = false) (h0 : 0 < s.size) : s[0] = 85 := by
  rcases isUD_or (hu 0 h0 h0) with e | e
  · exact e
  · have : headD s = true := by
      unfold headD
      have hd := drop_cons' s 0 h0
      rw [List.drop_zero] at hd
      rw [hd, e]; rfl
    rw [this] at h; cases h
theorem RunSt.start {s : ByteArray} (hu : UpTo s s.size) : RunSt s (runsOutV s) 0 85 [] := by
  refine ⟨.inl rfl, ?_⟩
  rcases Bool.eq_false_or_eq_true (headD s) with h | h
  · exact .inl ⟨h, rfl, rfl, rfl⟩
  · exact .inr ⟨s.size + 1, by omega, by unfold runsOutV runParts preD; rw [h]; rfl, fun h0 => headD_no hu h h0⟩
theorem RunSt.next {s : ByteArray} (hu : UpTo s s.size) {i : Nat} {c : UInt8} {out : List Int} (h : RunSt s (runsOutV s) i c out) (hi : i < s.size) :
    RunSt s (runsOutV s) (i + leadLen c (s.data.toList.drop i)) (turnC c) (out ++ [((leadLen c (s.data.toList.drop i) : Nat) : Int)]) := by
  refine ⟨turn_ud h.ud, ?_⟩
  rcases h.st with ⟨h1, rfl, rfl, rfl⟩ | ⟨f, h1, h2, h3⟩
  · obtain ⟨h0, h68⟩ := headD_at h1
    have hl : leadLen 85 (s.data.toList.drop 0) = 0 := by rw [drop_cons' s 0 h0, h68]; rfl
    rw [hl]
    exact .inr ⟨s.size + 1, by omega, by unfold runsOutV runParts preD; rw [h1]; rfl, fun h0 => h68⟩
  · have hc := h3 hi
    subst hc
    have he : eor s i = i + leadLen s[i] (s.data.toList.drop i) := by unfold eor; rw [dif_pos hi]
    obtain ⟨g, rfl⟩ : ∃ g, f = g + 1 := ⟨f - 1, by omega⟩
    have hlt := eor_lt hi
    rw [cuts_step hi, List.map_cons] at h2
    refine .inr ⟨g, by omega, ?_, fun hn => ?_⟩
    · rw [← he, ← h2]
      have : plen (i, eor s i) = ((leadLen s[i] (s.data.toList.drop i) : Nat) : Int) := by unfold plen; simp only; omega
      rw [this]
      simp
    · have := eor_next hu hi (by rw [he]; exact hn)
      simp only [he] at this
      exact this
theorem RunSt.done {s : ByteArray} {c : UInt8} {out : List Int} (h : RunSt s (runsOutV s) s.size c out) : out = runsOutV s := by
  rcases h.st with ⟨h1, h2, _, _⟩ | ⟨f, h1, h2, _⟩
  · obtain ⟨h0, _⟩ := headD_at h1; omega
  · rw [cuts_end] at h2; simpa using h2
theorem runsOutV_len (s : ByteArray) : (runsOutV s).length ≤ s.size + 2 := by
  unfold runsOutV preD runParts
  have := cuts_len (eor s) s.size (s.size + 1) 0
  rw [List.length_append, List.length_map]
  split <;> simp <;> omega
theorem RunSt.len {s : ByteArray} {i : Nat} {c : UInt8} {out : List Int} (h : RunSt s (runsOutV s) i c out) : out.length ≤ s.size + 2 := by
  rcases h.st with ⟨_, _, rfl, _⟩ | ⟨f, h1, h2, _⟩
  · simp
  · have := congrArg List.length h2
    rw [List.length_append] at this
    have := runsOutV_len s
    omega
def sliceLen : Value → Nat | .slice _ n _ => n | _ => 0
theorem IRow.slen {w : World} {B : Nat} {v : Value} {xs : List Int} (h : IRow w B v xs) : sliceLen v = xs.length := by
  obtain ⟨A, c, rfl⟩ := h.shape; rfl
set_option maxHeartbeats 1000000 in
theorem specRuns_yes (s : ByteArray) (w : World) (hs : s.size ≤ maxLen) (hp : pathB s = true) :
    Calls Try.prog 35 #[.string s] w (IntsRet w true (runsOutV s)) := by
  have h40 := ((pathB_iff s).1 hp).1
  have HU : Hid (UpTo s s.size) := fun j hj _ => ((pathB_iff s).1 hp).2 j hj
  go_enter Try.func35, Try.ntmps35
  go_wp2_with (go_at_call 43; refine (paGood_any s _ hs).mono ?_; rintro e w' ⟨rfl, rfl⟩)
  go_loopw [4, 5, 6] (fun v st i wr => ∃ (k : Nat) (c : UInt8) (out : List Int), k ≤ s.size ∧ i = .int .i64 (k : Int) ∧ st = .int .u8 (c.toNat : Int) ∧ Hid (RunSt s (runsOutV s) k c out) ∧ IRow wr w.heap.size v out ∧ Below w.heap.size w wr ∧ True) (fun v _ _ _ => s.size + 3 - sliceLen v)
  case atStart => exact ⟨0, 85, [], by omega, rfl, rfl, RunSt.start HU.out, IRow.nil _ _, Below.refl _ _, trivial⟩
  case round =>
    obtain ⟨k, c, out, hk, rfl, rfl, HS, hrow, hb, _⟩ := hrel
    have hol := HS.out.len
    have hsz := hb.size
    have HCU := Lib.hid HS.out.ud
    have hcb := ud_bd HS.out.ud
    by_cases hlt : k < s.size
    · have HN := Lib.hid (HS.out.next HU.out hlt)
      have hll := leadLen_le c (s.data.toList.drop k)
      rw [drop_len'] at hll
      have HL : Hid (k + leadLen c (s.data.toList.drop k) = k + leadLen c (s.data.toList.drop k)) := rfl
      generalize hm : leadLen c (s.data.toList.drop k) = m at HN hll
      have HM := Lib.hid hm
      clear hm HL
      go_wp2
      go_loop [6, 7] (fun i q => ∃ j : Nat, k ≤ j ∧ j ≤ s.size ∧ i = .int .i64 (j : Int) ∧ q = .int .i64 ((j - k : Nat) : Int) ∧ Hid (k + m = j + leadLen c (s.data.toList.drop j))) (fun i _ => s.size - (intOf i).toNat)
      case atStart => exact ⟨k, by omega, hk, rfl, by rw [Nat.sub_self]; rfl, Lib.hid (by rw [HM.out])⟩
      case round =>
        obtain ⟨j, hj1, hj2, rfl, rfl, HA⟩ := hrel
        by_cases hjl : j < s.size
        · have HD := Lib.hid (drop_cons' s j hjl)
          rcases Bool.eq_false_or_eq_true (s[j] == c) with hcj | hcj
          · have hb1 : ((s[j].toNat : Int) == (c.toNat : Int)) = true := by rw [← byte_eq]; exact hcj
            have HA2 : Hid (k + m = j + 1 + leadLen c (s.data.toList.drop (j + 1))) := by
              have := HA.out
              rw [HD.out, leadLen_yes hcj] at this
              unfold Hid; omega
            clear hcj
            go_wp2
            go_round
            case rel => exact ⟨j + 1, by omega, by omega, by go_num, by go_num, HA2⟩
            case measure => first | (simp [intOf]; done) | (simp [intOf]; omega)
          · have hb1 : ((s[j].toNat : Int) == (c.toNat : Int)) = false := by rw [← byte_eq]; exact hcj
            have HA2 : Hid (m = j - k) := by
              have := HA.out
              rw [HD.out, leadLen_no hcj] at this
              unfold Hid; omega
            have HA3 : Hid (k + m = j) := by have := HA2.out; unfold Hid; omega
            have HT := Lib.hid (turn_sub HCU.out)
            rw [HA3.out, HA2.out] at HN
            clear hcj
            go_wp2_with (at_builtin; refine wpList_push (.tmp 30) (.tmp 32) rfl rfl w.heap.size _ out rfl hrow rfl (by omega) hsz ?_; intro v' w' hrow' hg' hat')
            have hsl := hrow.slen
            have hsl' := hrow'.slen
            rw [List.length_append] at hsl'
            have hN2 := HN.out.len
            rw [List.length_append] at hN2
            go_roundw
            case rel => exact ⟨j, turnC c, _, hj2, rfl, by have := HT.out; go_num, HN.out, hrow', hb.grown hg' hsz (fun j hj => (hrow.blk j hj).1), trivial⟩
            case measure => simp at hsl' hN2 ⊢; omega
        · have HA2 : Hid (m = j - k) := by
            have := HA.out
            rw [List.drop_of_length_le (by simp; omega)] at this
            unfold Hid; simp [leadLen] at this; omega
          have HA3 : Hid (k + m = j) := by have := HA2.out; unfold Hid; omega
          have HT := Lib.hid (turn_sub HCU.out)
          rw [HA3.out, HA2.out] at HN
          go_wp2_with (at_builtin; refine wpList_push (.tmp 30) (.tmp 32) rfl rfl w.heap.size _ out rfl hrow rfl (by omega) hsz ?_; intro v' w' hrow' hg' hat')
          have hsl := hrow.slen
          have hsl' := hrow'.slen
          rw [List.length_append] at hsl'
          have hN2 := HN.out.len
          rw [List.length_append] at hN2
          go_roundw
          case rel => exact ⟨j, turnC c, _, hj2, rfl, by have := HT.out; go_num, HN.out, hrow', hb.grown hg' hsz (fun j hj => (hrow.blk j hj).1), trivial⟩
          case measure => simp at hsl' hN2 ⊢; omega
    · have HX : Hid (out = runsOutV s) := by
        have hk' : k = s.size := by omega
        subst hk'
        exact HS.out.done
      go_wp2
      go_ret2
      exact ⟨_, rfl, by rw [← HX.out]; exact hrow, hb⟩
def runsLV (s : ByteArray) : List Int := if pathB s then runsOutV s else []
theorem runsLV_len (s : ByteArray) (h : ¬ 1048576 < s.size) : (runsLV s).length ≤ 1048577 := by
  unfold runsLV; split
  · rename_i hp; have := runsOutV_len s; have := ((pathB_iff s).1 hp).1; omega
  · simp
set_option maxHeartbeats 400000 in
theorem runs_ret (s : ByteArray) (w : World) (hs : s.size ≤ maxLen) : Calls Try.prog 36 #[.string s] w (IntsRet w (pathB s) (runsLV s)) := by
  unfold runsLV
  rcases Bool.eq_false_or_eq_true (pathB s) with hp | hp
  · rw [hp, if_pos rfl]; exact runs_yes s w hs hp
  · rw [hp]
    go_enter Try.func36, Try.ntmps36
    go_wp2_with (go_at_call 47; refine (isPath_any s _ hs).mono ?_; rintro e w' ⟨rfl, rfl⟩)
    go_ret2
    exact ⟨_, rfl, IRow.nil _ _, Below.refl _ _⟩
set_option maxHeartbeats 400000 in
theorem specRuns_ret (s : ByteArray) (w : World) (hs : s.size ≤ maxLen) : Calls Try.prog 35 #[.string s] w (IntsRet w (pathB s) (runsLV s)) := by
  unfold runsLV
  rcases Bool.eq_false_or_eq_true (pathB s) with hp | hp
  · rw [hp, if_pos rfl]; exact specRuns_yes s w hs hp
  · rw [hp]
    go_enter Try.func35, Try.ntmps35
    go_wp2_with (go_at_call 43; refine (paGood_any s _ hs).mono ?_; rintro e w' ⟨rfl, rfl⟩)
    go_ret2
    exact ⟨_, rfl, IRow.nil _ _, Below.refl _ _⟩
end Go.Proofs.Ytdekjmbbogddgab
