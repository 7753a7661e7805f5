/- Pack 15 of what FnExactOrderedOfRank needs: StA, MapS. -/
import Derived.Test.YtmfcknlpbliehaaKFnExactOrderedOfRank14
import Derived.Defers
import Derived.Recover
import Derived.RegionTactic
import Derived.Deep.QuietTactic
import Derived.Maps.Own
import Derived.Maps.OwnOps
import Derived.DeepKeys4
/- Standings: overtakes, with; a box of four numbers. -/
namespace Go.Proofs.Ytmfcknlpbliehaa
open Go.RowKit
set_option linter.unusedVariables false
def stA (p : Nat → Nat) : Value := .agg #[.int .i64 ((p 0 : Nat) : Int), .int .i64 ((p 1 : Nat) : Int), .int .i64 ((p 2 : Nat) : Int), .int .i64 ((p 3 : Nat) : Int)]
def ovB (p : Nat → Nat) (c : Nat) : Bool := decide (0 < c) && decide (p c = p (c - 1))
set_option maxHeartbeats 800000 in
theorem overtakes_any (p : Nat → Nat) (c : Nat) (hc : c < 4) (w : World) : Calls Try.prog 27 #[stA p, .int .i64 (c : Int)] w (Ret w (.bool (ovB p c))) := by
  unfold stA
  have HB : ∀ q : Nat, Hid ((((p (q + 1) : Nat) : Int) == ((p q : Nat) : Int)) = ovB p (q + 1)) := fun q => Lib.hid (by
    unfold ovB
    rw [decide_eq_true (by omega), Bool.true_and, Bool.eq_iff_iff, beq_iff_eq, decide_eq_true_iff, Nat.add_sub_cancel]
    omega)
  have HB0 : Hid (ovB p 0 = false) := Lib.hid rfl
  have HB1 := HB 0
  have HB2 := HB 1
  have HB3 := HB 2
  simp only [Nat.zero_add, Nat.reduceAdd] at HB1 HB2 HB3
  clear HB
  have hc4 : c = 0 ∨ c = 1 ∨ c = 2 ∨ c = 3 := by omega
  rcases hc4 with rfl | rfl | rfl | rfl
  · generalize ovB p 0 = b0 at *
    go_enter Try.func27, Try.ntmps27
    go_wp2
    go_quiet (fail)
    go_wp2
    go_ret
    exact ⟨ret_bool HB0.out.symm, below_drewN ((Below.refl _ _).alloc (Nat.le_refl _) _) _⟩
  · generalize ovB p 1 = b1 at *
    go_enter Try.func27, Try.ntmps27
    go_wp2
    go_region
    go_wp2
    go_ret
    exact ⟨ret_bool HB1.out, below_drewN ((Below.refl _ _).alloc (Nat.le_refl _) _) 1⟩
  · generalize ovB p 2 = b1 at *
    go_enter Try.func27, Try.ntmps27
    go_wp2
    go_region
    go_wp2
    go_ret
    exact ⟨ret_bool HB2.out, below_drewN ((Below.refl _ _).alloc (Nat.le_refl _) _) 1⟩
  · generalize ovB p 3 = b1 at *
    go_enter Try.func27, Try.ntmps27
    go_wp2
    go_region
    go_wp2
    go_ret
    exact ⟨ret_bool HB3.out, below_drewN ((Below.refl _ _).alloc (Nat.le_refl _) _) 1⟩
/-- a box of four numbers -/
structure B4 (b : Nat) (p : Nat → Nat) (W : World) : Prop where
  cell : ∀ j, j < 4 → W.cell? ⟨b, j, none⟩ = some (.int .i64 ((p j : Nat) : Int))
  free : ∀ j, j < 4 → W.frozen? ⟨b, j, none⟩ = false
  lt : b < W.heap.size
theorem B4.below {b : Nat} {p : Nat → Nat} {W W' : World} (h : B4 b p W) (hb : Below W.heap.size W W') : B4 b p W' :=
  ⟨fun j hj => (hb.cell (p := ⟨b, j, none⟩) h.lt).trans (h.cell j hj), fun j hj => by
    have := hb.block b h.lt
    have e : W'.frozen? ⟨b, j, none⟩ = W.frozen? ⟨b, j, none⟩ := by unfold World.frozen?; rw [this]
    rw [e]; exact h.free j hj, Nat.lt_of_lt_of_le h.lt hb.size⟩
theorem B4.set {b : Nat} {p : Nat → Nat} {W : World} (h : B4 b p W) (c : Nat) (hc : c < 4) : B4 b (up p c) (W.setCell ⟨b, c, none⟩ (.int .i64 (((p c : Nat) : Int) + 1))) := by
  refine ⟨fun j hj => ?_, fun j hj => ?_, ?_⟩
  · by_cases e : j = c
    · subst e
      rw [World.cell?_setCell_same W ⟨b, j, none⟩ _ (h.cell j hj), up_at]
      rfl
    · rw [World.cell?_setCell_other W ⟨b, c, none⟩ ⟨b, j, none⟩ _ (fun x => e (by injection x with _ x; exact x.symm)), up_ne p e]
      exact h.cell j hj
  · rw [World.frozen?_setCell]; exact h.free j hj
  · simp [World.setCell]; exact h.lt
theorem B4.ints {b : Nat} {p : Nat → Nat} {W : World} (h : B4 b p W) : RInts W (.slice (some ⟨b, 0, none⟩) 4 4) [((p 0 : Nat) : Int), ((p 1 : Nat) : Int), ((p 2 : Nat) : Int), ((p 3 : Nat) : Int)] := by
  refine ⟨⟨_, _, rfl⟩, fun A n c e => by injection e with e1 e2 e3; subst e2 e3; exact ⟨Nat.le_refl _, by simp [maxLen]⟩, fun _ => ⟨b, 0, 4, rfl, h.lt, fun j hj => ?_⟩⟩
  rw [Nat.zero_add, h.cell j hj]
  have : j = 0 ∨ j = 1 ∨ j = 2 ∨ j = 3 := by simp at hj; omega
  rcases this with e | e | e | e <;> subst e <;> rfl
theorem B4.new {p : Nat → Nat} (w : World) (T : TypeId) : B4 w.heap.size p (w.alloc (.cells #[.int .i64 ((p 0 : Nat) : Int), .int .i64 ((p 1 : Nat) : Int), .int .i64 ((p 2 : Nat) : Int), .int .i64 ((p 3 : Nat) : Int)] T)) := by
  refine ⟨fun j hj => ?_, fun j hj => ?_, by simp⟩
  · have : j = 0 ∨ j = 1 ∨ j = 2 ∨ j = 3 := by omega
    rcases this with e | e | e | e <;> subst e <;> simp [go_sem]
  · have : j = 0 ∨ j = 1 ∨ j = 2 ∨ j = 3 := by omega
    rcases this with e | e | e | e <;> subst e <;> simp [go_sem]
set_option maxHeartbeats 800000 in
theorem with_any (p : Nat → Nat) (c : Nat) (hc : c < 4) (hp : p c ≤ 16) (w : World) : Calls Try.prog 24 #[stA p, .int .i64 (c : Int)] w (Ret w (stA (up p c))) := by
  unfold stA
  have hc4 : c = 0 ∨ c = 1 ∨ c = 2 ∨ c = 3 := by omega
  rcases hc4 with rfl | rfl | rfl | rfl
  all_goals
    go_enter Try.func24, Try.ntmps24
    go_wp2
    refine bodyPost_ret (v := stA (up p _)) (by simp [results, Try.results24, go_sem, up, stA]) rfl ⟨rfl, ?_⟩
    exact ((Below.refl _ _).alloc (Nat.le_refl _) _).alloc (by simp) _
end Go.Proofs.Ytmfcknlpbliehaa

/- The map from standings to numbers of ways: what it holds is right. -/
namespace Go.Proofs.Ytmfcknlpbliehaa
open Go.RowKit
open Go.Maps (Keyed)
open Go.WideElems (Fit)
set_option linter.unusedVariables false
theorem sRow : 32 < Try.prog.types.size := of_decide_eq_true (by kernel_rfl)
theorem sLaid : laidOutB Try.prog = true := by kernel_rfl
theorem sKeyed : Keyed Try.prog 32 := Keyed.of_law (deep_law_laid sLaid (m := 3) (by omega) sRow (by kernel_rfl) (by kernel_rfl))
theorem stA_inj {p q : Nat → Nat} (h : stA p = stA q) : ∀ j, j < 4 → p j = q j := by
  unfold stA at h
  simp at h
  intro j hj
  have : j = 0 ∨ j = 1 ∨ j = 2 ∨ j = 3 := by omega
  rcases this with e | e | e | e <;> subst e <;> omega
theorem sKeyType : Try.prog.keyType 32 = true := by kernel_rfl
theorem sCells : Try.prog.cellsOf 32 = 4 := by kernel_rfl
theorem iCellsS : Try.prog.cellsOf 3 = 1 := by kernel_rfl
theorem sSize : ∃ m, Try.prog.types.size = m + 2 := ⟨Try.prog.types.size - 2, by kernel_rfl⟩
theorem wfN {x : Nat} (h : x ≤ 4294967296) : (Lit.int .i64 (x : Int)).wf = true := WalkArith.wf_i64 (by omega)
theorem kI (d : Nat) (x : Int) (h : (Lit.int .i64 x).wf = true) : Try.prog.keyLits (d + 1) 3 [.int .i64 x] = some [.int .i64 x] := by
  rw [Program.keyLits.eq_def]
  simp only [Try.underlying3]
  rw [if_pos (by simp [h])]
theorem sLits (d : Nat) (a b c e : Int) (wa : (Lit.int .i64 a).wf = true) (wb : (Lit.int .i64 b).wf = true) (wc : (Lit.int .i64 c).wf = true) (we : (Lit.int .i64 e).wf = true) :
    Try.prog.keyLits (d + 2) 32 [.int .i64 a, .int .i64 b, .int .i64 c, .int .i64 e] = some [.int .i64 a, .int .i64 b, .int .i64 c, .int .i64 e] := by
  rw [Program.keyLits.eq_def]
  simp only [Try.underlying32]
  rw [if_pos (by simp [sCells]), iCellsS]
  have r4 : List.range 4 = [0, 1, 2, 3] := rfl
  rw [r4]
  simp [List.mapM_cons, kI d a wa, kI d b wb, kI d c wc, kI d e we]
theorem sKey (p : Nat → Nat) (h : ∀ j, j < 4 → p j ≤ 16) : ∃ l, keyOf Try.prog 32 (stA p) = some l := by
  obtain ⟨m, hm⟩ := sSize
  have w0 := wfN (x := p 0) (by have := h 0 (by omega); omega)
  have w1 := wfN (x := p 1) (by have := h 1 (by omega); omega)
  have w2 := wfN (x := p 2) (by have := h 2 (by omega); omega)
  have w3 := wfN (x := p 3) (by have := h 3 (by omega); omega)
  unfold keyOf stA
  simp only [Try.underlying32]
  rw [if_pos (by simp [sKeyType, Value.formed, Try.underlying32, sCells]), hm]
  show ∃ l, Option.map _ (Try.prog.keyLits (m + 1 + 2) 32 [.int .i64 ((p 0 : Nat) : Int), .int .i64 ((p 1 : Nat) : Int), .int .i64 ((p 2 : Nat) : Int), .int .i64 ((p 3 : Nat) : Int)]) = some l
  rw [sLits (m + 1) _ _ _ _ w0 w1 w2 w3]
  exact ⟨_, rfl⟩
theorem len_splitS (N : Nat) : ∀ l : List Nat, l.length = (l.filter (· = N)).length + (l.filter (· ≠ N)).length
  | [] => rfl
  | x :: r => by
    have h := len_splitS N r
    by_cases e : x = N
    · rw [List.filter_cons_of_pos (by simpa using e), List.filter_cons_of_neg (by simpa using e)]
      simp only [List.length_cons]; omega
    · rw [List.filter_cons_of_neg (by simpa using e), List.filter_cons_of_pos (by simpa using e)]
      simp only [List.length_cons]; omega
/-- numbers below N that differ are at most N -/
theorem few_belowS : ∀ (N : Nat) (l : List Nat), l.Pairwise (· ≠ ·) → (∀ x, x ∈ l → x < N) → l.length ≤ N
  | 0, l, _, h => by
    cases l with
    | nil => simp
    | cons x r => exact absurd (h x (by simp)) (by omega)
  | N + 1, l, hp, h => by
    have h1 := few_belowS N (l.filter (· ≠ N)) (hp.filter _) (fun x hx => by
      have h2 := List.mem_filter.1 hx
      have h3 := h x h2.1
      have h4 : x ≠ N := by simpa using h2.2
      omega)
    have h2 : (l.filter (· = N)).length ≤ 1 := by
      have hq : (l.filter (· = N)).Pairwise (· ≠ ·) := hp.filter _
      have hall : ∀ x, x ∈ l.filter (· = N) → x = N := fun x hx => by simpa using (List.mem_filter.1 hx).2
      generalize l.filter (· = N) = q at *
      cases q with
      | nil => simp
      | cons x r =>
        cases r with
        | nil => simp
        | cons y r =>
          exfalso
          have e1 := hall x (by simp)
          have e2 := hall y (by simp)
          have := (List.pairwise_cons.1 hq).1 y (by simp)
          exact this (e1.trans e2.symm)
    have h3 := len_splitS N l
    omega
def codeL4 : List Value → Nat
  | [.int _ a, .int _ b, .int _ c, .int _ d] => ((a.toNat * 17 + b.toNat) * 17 + c.toNat) * 17 + d.toNat
  | _ => 0
def codeV4 : Value → Nat
  | .agg xs => codeL4 xs.toList
  | _ => 0
theorem code_stA (p : Nat → Nat) : codeV4 (stA p) = ((p 0 * 17 + p 1) * 17 + p 2) * 17 + p 3 := by
  show ((((p 0 : Nat) : Int).toNat * 17 + ((p 1 : Nat) : Int).toNat) * 17 + ((p 2 : Nat) : Int).toNat) * 17 + ((p 3 : Nat) : Int).toNat = _
  simp
def sm (p : Nat → Nat) : Prop := ∀ j, j < 4 → p j ≤ 16
/-- block mb is a map, each entry V of its key -/
def MapW (w : World) (mb : Nat) (V : (Nat → Nat) → Nat) : Prop :=
  ∃ es clock, w.heap[mb]? = some (.map es clock) ∧ Fit (H := Unit) Try.prog 32 (plainElem Try.prog 3) es clock ∧ ∀ e, e ∈ es.toList → ∃ p, e.key = stA p ∧ e.val = .int .i64 ((V p : Nat) : Int) ∧ sm p
section
variable {w w' : World} {mb : Nat} {V : (Nat → Nat) → Nat}
theorem MapW.lt (h : MapW w mb V) : mb < w.heap.size := by
  obtain ⟨es, cl, h1, _⟩ := h
  exact (Array.getElem?_eq_some_iff.1 h1).1
theorem MapW.kept {row : Option Nat} (h : MapW w mb V) (hg : w.grownBy w' row) (hne : some mb ≠ row) : MapW w' mb V := by
  have hl := h.lt
  obtain ⟨es, cl, h1, h2, h4⟩ := h
  exact ⟨es, cl, (hg.block mb hl hne).trans h1, h2, h4⟩
theorem MapW.below (h : MapW w mb V) (hb : Below w.heap.size w w') : MapW w' mb V := by
  have hl := h.lt
  obtain ⟨es, cl, h1, h2, h4⟩ := h
  exact ⟨es, cl, (hb.block mb hl).trans h1, h2, h4⟩
theorem zeroIS (w : World) : (zeroValue 3).run Try.prog w = .ok (.int .i64 0) w := by kernel_rfl
theorem MapW.look (h : MapW w mb V) (hV : ∀ p q, (∀ j, j < 4 → p j = q j) → V p = V q) (p : Nat → Nat) (hp : sm p) :
    (Instr.lookup 33 (.map (some mb)) (stA p) true).run Try.prog w = .ok (.tuple #[.int .i64 0, .bool false]) w ∨
    (Instr.lookup 33 (.map (some mb)) (stA p) true).run Try.prog w = .ok (.tuple #[.int .i64 ((V p : Nat) : Int), .bool true]) w := by
  obtain ⟨kl, hk⟩ := sKey p hp
  obtain ⟨es, cl, h1, h2, h4⟩ := h
  rcases Maps.fit_look true sKeyed Try.underlying33 (zeroIS w) h1 h2 hk with ⟨hr, _⟩ | ⟨e0, y, he, hke, hr, _⟩
  · exact .inl hr
  · obtain ⟨q, e1, e2, _⟩ := h4 e0 he
    have := hV q p (stA_inj (e1.symm.trans hke))
    rw [e2, this] at hr
    exact .inr hr
theorem entries_fewS {es : Array MapEntry} {cl : Nat} (F : Fit (H := Unit) Try.prog 32 (plainElem Try.prog 3) es cl) (h : ∀ e, e ∈ es.toList → ∃ p, e.key = stA p ∧ e.val = .int .i64 ((V p : Nat) : Int) ∧ sm p) : es.size ≤ 83521 := by
  have hp := ((MapKept.stamped_iff es cl).1 F.stamped).2.2
  have h1 := few_belowS 83521 (es.toList.map fun e => codeV4 e.key) (by
    rw [List.pairwise_map]
    refine List.Pairwise.imp_of_mem ?_ hp
    intro x y hx hy hne e
    obtain ⟨p, e1, _, hs1⟩ := h x hx
    obtain ⟨q, e2, _, hs2⟩ := h y hy
    rw [e1, e2, code_stA, code_stA] at e
    have a0 := hs1 0 (by omega); have a1 := hs1 1 (by omega); have a2 := hs1 2 (by omega); have a3 := hs1 3 (by omega)
    have b0 := hs2 0 (by omega); have b1 := hs2 1 (by omega); have b2 := hs2 2 (by omega); have b3 := hs2 3 (by omega)
    have e3 : p 0 = q 0 ∧ p 1 = q 1 ∧ p 2 = q 2 ∧ p 3 = q 3 := by omega
    exact hne (by rw [e1, e2]; unfold stA; rw [e3.1, e3.2.1, e3.2.2.1, e3.2.2.2])) (by
    intro x hx
    obtain ⟨e, he, rfl⟩ := List.mem_map.1 hx
    obtain ⟨p, e1, _, hs1⟩ := h e he
    rw [e1, code_stA]
    have a0 := hs1 0 (by omega); have a1 := hs1 1 (by omega); have a2 := hs1 2 (by omega); have a3 := hs1 3 (by omega)
    omega)
  rw [List.length_map, Array.length_toList] at h1
  exact h1
theorem MapW.store (h : MapW w mb V) (p : Nat → Nat) (hp : sm p) (wv : (Lit.int .i64 ((V p : Nat) : Int)).wf = true) :
    ∃ w', (Instr.mapUpdate 33 (.map (some mb)) (stA p) (.int .i64 ((V p : Nat) : Int))).run Try.prog w = .ok () w' ∧ MapW w' mb V ∧ w.grownBy w' (some mb) := by
  obtain ⟨kl, hk⟩ := sKey p hp
  obtain ⟨es, cl, h1, h2, h4⟩ := h
  have hroom : es.size < maxLen := Nat.lt_of_le_of_lt (entries_fewS h2 h4) (by unfold maxLen; omega)
  obtain ⟨es', cl', hr, F', hput, _, _, hwho⟩ := Maps.fit_store (R' := plainElem Try.prog 3) sKeyed Try.underlying33 h1 h2 hroom (fun _ _ _ _ hz => hz) hk (plainElem_int Try.underlying3 wv)
  refine ⟨_, hr, ⟨es', cl', ChangeMaps.heap_setBlock_same h1 _, F', fun e he => ?_⟩, ⟨rfl, rfl, rfl, by simp [ChangeMaps.setBlock], fun i _ hi => ChangeMaps.heap_setBlock_other h1 _ (fun e => hi (by rw [e]))⟩⟩
  rcases hwho e he with ⟨h5, _⟩ | ⟨h5, h6⟩
  · exact h4 e h5
  · exact ⟨p, h5, h6, hp⟩
end
theorem MapW.made (w : World) (V : (Nat → Nat) → Nat) : MapW (w.alloc (.map #[] 0)) w.heap.size V :=
  ⟨#[], 0, (MapKept.heap_alloc w _).1, ⟨by simp, MapKept.stamped_empty 0, by simp⟩, by simp⟩
theorem wpList_lookW {ops : Array Oper} {rest : List Oper} {o : Oper} {a : Act} {Q : Exit → Act → World → Prop} {w : World} (m x : Operand) (hg : o.guard = none) (ho : o.op = Op.lookup 33 m x true)
    {mb : Nat} {V : (Nat → Nat) → Nat} (hm : a.eval m = .map (some mb)) (h : MapW w mb V) (hV : ∀ p q, (∀ j, j < 4 → p j = q j) → V p = V q) (p : Nat → Nat) (hx : a.eval x = stA p) (hp : sm p)
    (h1 : ∀ (y : Int) (ok : Bool), (ok = true → y = ((V p : Nat) : Int)) → (ok = false → y = 0) → wpList Try.prog ops Q rest (a.put o.dst (.tuple #[.int .i64 y, .bool ok])) w) :
    wpList Try.prog ops Q (o :: rest) a w := by
  refine wpList_plain hg fun K hK => ?_
  unfold Oper.wp
  rcases h.look hV p hp with hr | hr
  · simp [execOp, ho, hm, hx, hr, Result.andThen]
    exact hK _ _ (h1 0 false (fun h => by cases h) (fun _ => rfl))
  · simp [execOp, ho, hm, hx, hr, Result.andThen]
    exact hK _ _ (h1 _ true (fun _ => rfl) (fun h => by cases h))
theorem wpList_storeW {ops : Array Oper} {rest : List Oper} {o : Oper} {a : Act} {Q : Exit → Act → World → Prop} {w : World} (m x v : Operand) (hg : o.guard = none) (ho : o.op = Op.mapUpdate 33 m x v)
    {mb : Nat} {V : (Nat → Nat) → Nat} (hm : a.eval m = .map (some mb)) (h : MapW w mb V) (p : Nat → Nat) (hp : sm p) (hx : a.eval x = stA p) (hv : a.eval v = .int .i64 ((V p : Nat) : Int)) (wv : (Lit.int .i64 ((V p : Nat) : Int)).wf = true)
    (h1 : ∀ w', MapW w' mb V → w.grownBy w' (some mb) → wpList Try.prog ops Q rest (a.put o.dst undef) w') :
    wpList Try.prog ops Q (o :: rest) a w := by
  refine wpList_plain hg fun K hK => ?_
  obtain ⟨w', hr, h2, h3⟩ := h.store p hp wv
  unfold Oper.wp
  simp [execOp, ho, hm, hx, hv, hr, Result.andThen]
  exact hK _ _ (h1 w' h2 h3)
end Go.Proofs.Ytmfcknlpbliehaa
