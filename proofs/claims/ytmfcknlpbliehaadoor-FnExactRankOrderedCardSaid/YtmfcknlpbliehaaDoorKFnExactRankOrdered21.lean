/- Pack 21 of what FnExactRankOrdered needs: TaMath, MapS. -/
import Derived.Test.YtmfcknlpbliehaaDoorKFnExactRankOrdered20
import Derived.Maps.Own
import Derived.Maps.OwnOps
import Derived.DeepKeys4
/- Tables of votes, columns, votes read by columns: plain numbers. -/
namespace Go.Proofs.YtmfcknlpbliehaaDoor
open Go.RowKit
set_option linter.unusedVariables false
/-- the numbers of the votes for i among the first k -/
def tbRow (s : ByteArray) (i : Nat) : Nat → List Int
  | 0 => []
  | k + 1 => if cd s k = i then tbRow s i k ++ [(k : Int) + 1] else tbRow s i k
def tbS (s : ByteArray) (k : Nat) : List (List Int) := [tbRow s 0 k, tbRow s 1 k, tbRow s 2 k, tbRow s 3 k]
theorem tbRow_len (s : ByteArray) (i : Nat) : ∀ k, (tbRow s i k).length = vc s i k
  | 0 => rfl
  | k + 1 => by
    rw [tbRow, vc, ← tbRow_len s i k]
    split
    · rw [List.length_append]; rfl
    · rfl
theorem tbS_len (s : ByteArray) (k : Nat) : (tbS s k).length = 4 := rfl
theorem tbS_zero (s : ByteArray) : tbS s 0 = List.replicate 4 [] := rfl
theorem tbS_get (s : ByteArray) (k c : Nat) (h : c < 4) : (tbS s k).getD c [] = tbRow s c k := by
  have : c = 0 ∨ c = 1 ∨ c = 2 ∨ c = 3 := by omega
  rcases this with e | e | e | e <;> subst e <;> rfl
theorem tbS_set (s : ByteArray) (k : Nat) (h : cd s k < 4) : (tbS s k).set (cd s k) (tbRow s (cd s k) k ++ [(k : Int) + 1]) = tbS s (k + 1) := by
  unfold tbS
  have : cd s k = 0 ∨ cd s k = 1 ∨ cd s k = 2 ∨ cd s k = 3 := by omega
  rcases this with e | e | e | e <;> simp [tbRow, e]
theorem tbS_size (s : ByteArray) (h : votB s = true) : (tbS s s.size).flatten.length = s.size := by
  have := vcS h (Nat.le_refl _)
  simp [tbS, tbRow_len]
  omega
/-- votes read by columns -/
def cvTo (s : ByteArray) : Nat → List UInt8
  | 0 => []
  | k + 1 => cvTo s k ++ [UInt8.ofNat (97 + vc s (cd s k) k)]
theorem cvTo_len (s : ByteArray) : ∀ k, (cvTo s k).length = k
  | 0 => rfl
  | k + 1 => by rw [cvTo, List.length_append, cvTo_len s k]; rfl
def colB (s : ByteArray) : Bool := oB s && decide (vc s 0 s.size ≤ 4)
theorem vc_mono2 (s : ByteArray) (c : Nat) {j : Nat} : ∀ k, j ≤ k → vc s c j ≤ vc s c k := by
  intro k
  induction k with
  | zero => intro h; rw [show j = 0 by omega]; omega
  | succ k ih =>
    intro h
    by_cases e : j = k + 1
    · rw [e]; omega
    · exact Nat.le_trans (ih (by omega)) (vc_mono s c k)
theorem oB_of {s : ByteArray} (h : oB s = true) : votB s = true ∧ foTo s s.size = 0 := by
  unfold oB at h; rw [Bool.and_eq_true, decide_eq_true_iff] at h; exact h
theorem oB_fall {s : ByteArray} (h : oB s = true) {k : Nat} (hk : k ≤ s.size) : vc s 1 k ≤ vc s 0 k ∧ vc s 2 k ≤ vc s 1 k ∧ vc s 3 k ≤ vc s 2 k :=
  (faB_iff s k).1 (fo_fall (fo_back (oB_of h).2 k hk))
theorem col_lt {s : ByteArray} (h : colB s = true) {k : Nat} (hk : k < s.size) : vc s (cd s k) k < 4 := by
  unfold colB at h
  rw [Bool.and_eq_true, decide_eq_true_iff] at h
  have hv := (oB_of h.1).1
  have hf := oB_fall h.1 (k := k + 1) (by omega)
  have hc := votB_lt hv k hk
  have hm := vc_mono2 s 0 (j := k + 1) s.size (by omega)
  have hh := vc_hit (s := s) (c := cd s k) (k := k) rfl
  have : cd s k = 0 ∨ cd s k = 1 ∨ cd s k = 2 ∨ cd s k = 3 := by omega
  rcases this with e | e | e | e <;> rw [e] at hh ⊢ <;> omega
/-- columns while the i-th number is read up to m -/
def colS (xs : List Int) (i m : Nat) : List Int := (List.range 4).map fun j : Nat => ((laN (j : Int) (xs.take i) : Nat) : Int) + if j < m then 1 else 0
theorem colS_len (xs : List Int) (i m : Nat) : (colS xs i m).length = 4 := by simp [colS]
theorem colS_get (xs : List Int) (i m c : Nat) (h : c < 4) : (colS xs i m).getD c 0 = ((laN (c : Int) (xs.take i) : Nat) : Int) + if c < m then 1 else 0 := by
  unfold colS
  rw [List.getD_eq_getElem?_getD, List.getElem?_map, List.getElem?_range h]
  rfl
theorem colS_set (xs : List Int) (i m : Nat) (h : m < 4) : (colS xs i m).set m ((colS xs i m).getD m 0 + 1) = colS xs i (m + 1) := by
  rw [colS_get xs i m m h, if_neg (by omega)]
  apply List.ext_getElem
  · simp [colS]
  · intro j h1 h2
    simp [colS] at h2
    rw [List.getElem_set]
    simp only [colS, List.getElem_map, List.getElem_range]
    by_cases e : m = j
    · subst e; rw [if_pos rfl, if_pos (by omega)]; omega
    · rw [if_neg e]
      by_cases e2 : j < m
      · rw [if_pos e2, if_pos (by omega)]
      · rw [if_neg e2, if_neg (by omega)]
theorem colS_next (xs : List Int) (i m : Nat) (hi : i < xs.length) (e : xs.getD i 0 = (m : Int)) : colS xs (i + 1) 0 = colS xs i m := by
  apply List.ext_getElem
  · simp [colS]
  · intro j h1 h2
    simp only [colS, List.getElem_map, List.getElem_range]
    rw [laN_take _ _ _ hi, e]
    have e0 : (if j < 0 then (1 : Int) else 0) = 0 := if_neg (by omega)
    rw [e0]
    by_cases q : j < m
    · rw [if_pos (show (j : Int) < (m : Int) by omega), if_pos q]; omega
    · rw [if_neg (show ¬ (j : Int) < (m : Int) by omega), if_neg q]; omega
theorem colS_zero (xs : List Int) : colS xs 0 0 = List.replicate 4 0 := by simp [colS, laN]; rfl
def clOk (xs : List Int) : Bool := resB xs && decide (xs.getD 0 0 ≤ 4)
end Go.Proofs.YtmfcknlpbliehaaDoor

/- The map from standings to numbers of ways: what it holds is right. -/
namespace Go.Proofs.YtmfcknlpbliehaaDoor
open Go.RowKit
open Go.Maps (Keyed)
open Go.WideElems (Fit)
set_option linter.unusedVariables false
theorem sRow : 38 < Tryd.prog.types.size := of_decide_eq_true (by kernel_rfl)
theorem sLaid : laidOutB Tryd.prog = true := by kernel_rfl
theorem sKeyed : Keyed Tryd.prog 38 := Keyed.of_law (deep_law_laid sLaid (m := 3) (by omega) sRow (by kernel_rfl) (by kernel_rfl))
theorem stA_inj {p q : Nat → Nat} (h : stA p = stA q) : ∀ j, j < 4 → p j = q j := by
  unfold stA at h
  simp at h
  intro j hj
  have : j = 0 ∨ j = 1 ∨ j = 2 ∨ j = 3 := by omega
  rcases this with e | e | e | e <;> subst e <;> omega
theorem sKeyType : Tryd.prog.keyType 38 = true := by kernel_rfl
theorem sCells : Tryd.prog.cellsOf 38 = 4 := by kernel_rfl
theorem iCellsS : Tryd.prog.cellsOf 3 = 1 := by kernel_rfl
theorem sSize : ∃ m, Tryd.prog.types.size = m + 2 := ⟨Tryd.prog.types.size - 2, by kernel_rfl⟩
theorem wfN {x : Nat} (h : x ≤ 4294967296) : (Lit.int .i64 (x : Int)).wf = true := WalkArith.wf_i64 (by omega)
theorem kI (d : Nat) (x : Int) (h : (Lit.int .i64 x).wf = true) : Tryd.prog.keyLits (d + 1) 3 [.int .i64 x] = some [.int .i64 x] := by
  rw [Program.keyLits.eq_def]
  simp only [Tryd.underlying3]
  rw [if_pos (by simp [h])]
theorem sLits (d : Nat) (a b c e : Int) (wa : (Lit.int .i64 a).wf = true) (wb : (Lit.int .i64 b).wf = true) (wc : (Lit.int .i64 c).wf = true) (we : (Lit.int .i64 e).wf = true) :
    Tryd.prog.keyLits (d + 2) 38 [.int .i64 a, .int .i64 b, .int .i64 c, .int .i64 e] = some [.int .i64 a, .int .i64 b, .int .i64 c, .int .i64 e] := by
  rw [Program.keyLits.eq_def]
  simp only [Tryd.underlying38]
  rw [if_pos (by simp [sCells]), iCellsS]
  have r4 : List.range 4 = [0, 1, 2, 3] := rfl
  rw [r4]
  simp [List.mapM_cons, kI d a wa, kI d b wb, kI d c wc, kI d e we]
theorem sKey (p : Nat → Nat) (h : ∀ j, j < 4 → p j ≤ 16) : ∃ l, keyOf Tryd.prog 38 (stA p) = some l := by
  obtain ⟨m, hm⟩ := sSize
  have w0 := wfN (x := p 0) (by have := h 0 (by omega); omega)
  have w1 := wfN (x := p 1) (by have := h 1 (by omega); omega)
  have w2 := wfN (x := p 2) (by have := h 2 (by omega); omega)
  have w3 := wfN (x := p 3) (by have := h 3 (by omega); omega)
  unfold keyOf stA
  simp only [Tryd.underlying38]
  rw [if_pos (by simp [sKeyType, Value.formed, Tryd.underlying38, sCells]), hm]
  show ∃ l, Option.map _ (Tryd.prog.keyLits (m + 1 + 2) 38 [.int .i64 ((p 0 : Nat) : Int), .int .i64 ((p 1 : Nat) : Int), .int .i64 ((p 2 : Nat) : Int), .int .i64 ((p 3 : Nat) : Int)]) = some l
  rw [sLits (m + 1) _ _ _ _ w0 w1 w2 w3]
  exact ⟨_, rfl⟩
theorem len_splitS (N : Nat) : ∀ l : List Nat, l.length = (l.filter (· = N)).length + (l.filter (· ≠ N)).length
  | [] => rfl
  | x :: r => by
    have h := len_splitS N r
    by_cases e : x = N
    · rw [List.filter_cons_of_pos (by simpa using e), List.filter_cons_of_neg (by simpa using e)]
      simp only [List.length_cons]; omega
    · rw [List.filter_cons_of_neg (by simpa using e), List.filter_cons_of_pos (by simpa using e)]
      simp only [List.length_cons]; omega
/-- numbers below N that differ are at most N -/
theorem few_belowS : ∀ (N : Nat) (l : List Nat), l.Pairwise (· ≠ ·) → (∀ x, x ∈ l → x < N) → l.length ≤ N
  | 0, l, _, h => by
    cases l with
    | nil => simp
    | cons x r => exact absurd (h x (by simp)) (by omega)
  | N + 1, l, hp, h => by
    have h1 := few_belowS N (l.filter (· ≠ N)) (hp.filter _) (fun x hx => by
      have h2 := List.mem_filter.1 hx
      have h3 := h x h2.1
      have h4 : x ≠ N := by simpa using h2.2
      omega)
    have h2 : (l.filter (· = N)).length ≤ 1 := by
      have hq : (l.filter (· = N)).Pairwise (· ≠ ·) := hp.filter _
      have hall : ∀ x, x ∈ l.filter (· = N) → x = N := fun x hx => by simpa using (List.mem_filter.1 hx).2
      generalize l.filter (· = N) = q at *
      cases q with
      | nil => simp
      | cons x r =>
        cases r with
        | nil => simp
        | cons y r =>
          exfalso
          have e1 := hall x (by simp)
          have e2 := hall y (by simp)
          have := (List.pairwise_cons.1 hq).1 y (by simp)
          exact this (e1.trans e2.symm)
    have h3 := len_splitS N l
    omega
def codeL4 : List Value → Nat
  | [.int _ a, .int _ b, .int _ c, .int _ d] => ((a.toNat * 17 + b.toNat) * 17 + c.toNat) * 17 + d.toNat
  | _ => 0
def codeV4 : Value → Nat
  | .agg xs => codeL4 xs.toList
  | _ => 0
theorem code_stA (p : Nat → Nat) : codeV4 (stA p) = ((p 0 * 17 + p 1) * 17 + p 2) * 17 + p 3 := by
  show ((((p 0 : Nat) : Int).toNat * 17 + ((p 1 : Nat) : Int).toNat) * 17 + ((p 2 : Nat) : Int).toNat) * 17 + ((p 3 : Nat) : Int).toNat = _
  simp
def sm (p : Nat → Nat) : Prop := ∀ j, j < 4 → p j ≤ 16
/-- block mb is a map, each entry V of its key -/
def MapW (w : World) (mb : Nat) (V : (Nat → Nat) → Nat) : Prop :=
  ∃ es clock, w.heap[mb]? = some (.map es clock) ∧ Fit (H := Unit) Tryd.prog 38 (plainElem Tryd.prog 3) es clock ∧ ∀ e, e ∈ es.toList → ∃ p, e.key = stA p ∧ e.val = .int .i64 ((V p : Nat) : Int) ∧ sm p
section
variable {w w' : World} {mb : Nat} {V : (Nat → Nat) → Nat}
theorem MapW.lt (h : MapW w mb V) : mb < w.heap.size := by
  obtain ⟨es, cl, h1, _⟩ := h
  exact (Array.getElem?_eq_some_iff.1 h1).1
theorem MapW.kept {row : Option Nat} (h : MapW w mb V) (hg : w.grownBy w' row) (hne : some mb ≠ row) : MapW w' mb V := by
  have hl := h.lt
  obtain ⟨es, cl, h1, h2, h4⟩ := h
  exact ⟨es, cl, (hg.block mb hl hne).trans h1, h2, h4⟩
theorem MapW.below (h : MapW w mb V) (hb : Below w.heap.size w w') : MapW w' mb V := by
  have hl := h.lt
  obtain ⟨es, cl, h1, h2, h4⟩ := h
  exact ⟨es, cl, (hb.block mb hl).trans h1, h2, h4⟩
theorem zeroIS (w : World) : (zeroValue 3).run Tryd.prog w = .ok (.int .i64 0) w := by kernel_rfl
theorem MapW.look (h : MapW w mb V) (hV : ∀ p q, (∀ j, j < 4 → p j = q j) → V p = V q) (p : Nat → Nat) (hp : sm p) :
    (Instr.lookup 41 (.map (some mb)) (stA p) true).run Tryd.prog w = .ok (.tuple #[.int .i64 0, .bool false]) w ∨
    (Instr.lookup 41 (.map (some mb)) (stA p) true).run Tryd.prog w = .ok (.tuple #[.int .i64 ((V p : Nat) : Int), .bool true]) w := by
  obtain ⟨kl, hk⟩ := sKey p hp
  obtain ⟨es, cl, h1, h2, h4⟩ := h
  rcases Maps.fit_look true sKeyed Tryd.underlying41 (zeroIS w) h1 h2 hk with ⟨hr, _⟩ | ⟨e0, y, he, hke, hr, _⟩
  · exact .inl hr
  · obtain ⟨q, e1, e2, _⟩ := h4 e0 he
    have := hV q p (stA_inj (e1.symm.trans hke))
    rw [e2, this] at hr
    exact .inr hr
theorem entries_fewS {es : Array MapEntry} {cl : Nat} (F : Fit (H := Unit) Tryd.prog 38 (plainElem Tryd.prog 3) es cl) (h : ∀ e, e ∈ es.toList → ∃ p, e.key = stA p ∧ e.val = .int .i64 ((V p : Nat) : Int) ∧ sm p) : es.size ≤ 83521 := by
  have hp := ((MapKept.stamped_iff es cl).1 F.stamped).2.2
  have h1 := few_belowS 83521 (es.toList.map fun e => codeV4 e.key) (by
    rw [List.pairwise_map]
    refine List.Pairwise.imp_of_mem ?_ hp
    intro x y hx hy hne e
    obtain ⟨p, e1, _, hs1⟩ := h x hx
    obtain ⟨q, e2, _, hs2⟩ := h y hy
    rw [e1, e2, code_stA, code_stA] at e
    have a0 := hs1 0 (by omega); have a1 := hs1 1 (by omega); have a2 := hs1 2 (by omega); have a3 := hs1 3 (by omega)
    have b0 := hs2 0 (by omega); have b1 := hs2 1 (by omega); have b2 := hs2 2 (by omega); have b3 := hs2 3 (by omega)
    have e3 : p 0 = q 0 ∧ p 1 = q 1 ∧ p 2 = q 2 ∧ p 3 = q 3 := by omega
    exact hne (by rw [e1, e2]; unfold stA; rw [e3.1, e3.2.1, e3.2.2.1, e3.2.2.2])) (by
    intro x hx
    obtain ⟨e, he, rfl⟩ := List.mem_map.1 hx
    obtain ⟨p, e1, _, hs1⟩ := h e he
    rw [e1, code_stA]
    have a0 := hs1 0 (by omega); have a1 := hs1 1 (by omega); have a2 := hs1 2 (by omega); have a3 := hs1 3 (by omega)
    omega)
  rw [List.length_map, Array.length_toList] at h1
  exact h1
theorem MapW.store (h : MapW w mb V) (p : Nat → Nat) (hp : sm p) (wv : (Lit.int .i64 ((V p : Nat) : Int)).wf = true) :
    ∃ w', (Instr.mapUpdate 41 (.map (some mb)) (stA p) (.int .i64 ((V p : Nat) : Int))).run Tryd.prog w = .ok () w' ∧ MapW w' mb V ∧ w.grownBy w' (some mb) := by
  obtain ⟨kl, hk⟩ := sKey p hp
  obtain ⟨es, cl, h1, h2, h4⟩ := h
  have hroom : es.size < maxLen := Nat.lt_of_le_of_lt (entries_fewS h2 h4) (by unfold maxLen; omega)
  obtain ⟨es', cl', hr, F', hput, _, _, hwho⟩ := Maps.fit_store (R' := plainElem Tryd.prog 3) sKeyed Tryd.underlying41 h1 h2 hroom (fun _ _ _ _ hz => hz) hk (plainElem_int Tryd.underlying3 wv)
  refine ⟨_, hr, ⟨es', cl', ChangeMaps.heap_setBlock_same h1 _, F', fun e he => ?_⟩, ⟨rfl, rfl, rfl, by simp [ChangeMaps.setBlock], fun i _ hi => ChangeMaps.heap_setBlock_other h1 _ (fun e => hi (by rw [e]))⟩⟩
  rcases hwho e he with ⟨h5, _⟩ | ⟨h5, h6⟩
  · exact h4 e h5
  · exact ⟨p, h5, h6, hp⟩
end
theorem MapW.made (w : World) (V : (Nat → Nat) → Nat) : MapW (w.alloc (.map #[] 0)) w.heap.size V :=
  ⟨#[], 0, (MapKept.heap_alloc w _).1, ⟨by simp, MapKept.stamped_empty 0, by simp⟩, by simp⟩
theorem wpList_lookW {ops : Array Oper} {rest : List Oper} {o : Oper} {a : Act} {Q : Exit → Act → World → Prop} {w : World} (m x : Operand) (hg : o.guard = none) (ho : o.op = Op.lookup 41 m x true)
    {mb : Nat} {V : (Nat → Nat) → Nat} (hm : a.eval m = .map (some mb)) (h : MapW w mb V) (hV : ∀ p q, (∀ j, j < 4 → p j = q j) → V p = V q) (p : Nat → Nat) (hx : a.eval x = stA p) (hp : sm p)
    (h1 : ∀ (y : Int) (ok : Bool), (ok = true → y = ((V p : Nat) : Int)) → (ok = false → y = 0) → wpList Tryd.prog ops Q rest (a.put o.dst (.tuple #[.int .i64 y, .bool ok])) w) :
    wpList Tryd.prog ops Q (o :: rest) a w := by
  refine wpList_plain hg fun K hK => ?_
  unfold Oper.wp
  rcases h.look hV p hp with hr | hr
  · simp [execOp, ho, hm, hx, hr, Result.andThen]
    exact hK _ _ (h1 0 false (fun h => by cases h) (fun _ => rfl))
  · simp [execOp, ho, hm, hx, hr, Result.andThen]
    exact hK _ _ (h1 _ true (fun _ => rfl) (fun h => by cases h))
theorem wpList_storeW {ops : Array Oper} {rest : List Oper} {o : Oper} {a : Act} {Q : Exit → Act → World → Prop} {w : World} (m x v : Operand) (hg : o.guard = none) (ho : o.op = Op.mapUpdate 41 m x v)
    {mb : Nat} {V : (Nat → Nat) → Nat} (hm : a.eval m = .map (some mb)) (h : MapW w mb V) (p : Nat → Nat) (hp : sm p) (hx : a.eval x = stA p) (hv : a.eval v = .int .i64 ((V p : Nat) : Int)) (wv : (Lit.int .i64 ((V p : Nat) : Int)).wf = true)
    (h1 : ∀ w', MapW w' mb V → w.grownBy w' (some mb) → wpList Tryd.prog ops Q rest (a.put o.dst undef) w') :
    wpList Tryd.prog ops Q (o :: rest) a w := by
  refine wpList_plain hg fun K hK => ?_
  obtain ⟨w', hr, h2, h3⟩ := h.store p hp wv
  unfold Oper.wp
  simp [execOp, ho, hm, hx, hv, hr, Result.andThen]
  exact hK _ _ (h1 w' h2 h3)
end Go.Proofs.YtmfcknlpbliehaaDoor
