/- The map from tallies to numbers of ways: what it holds is right. -/
import Derived.Test.YtlgiamgjimffnaaOwn
import Derived.Maps.Own
import Derived.Maps.OwnOps
import Derived.DeepKeys4
namespace Go.Proofs.Ytlgiamgjimffnaa
open Go.RowKit
open Go.Maps (Keyed)
open Go.WideElems (Fit)
theorem tRow : 61 < Try.prog.types.size := of_decide_eq_true (by kernel_rfl)
theorem tLaid : laidOutB Try.prog = true := by kernel_rfl
theorem tKeyed : Keyed Try.prog 61 := Keyed.of_law (deep_law_laid tLaid (m := 3) (by omega) tRow (by kernel_rfl) (by kernel_rfl))
def tallyV (u d : Int) : Value := .agg #[.int .i64 u, .int .i64 d]
theorem tallyV_inj {u d u' d' : Int} (h : tallyV u d = tallyV u' d') : u = u' ∧ d = d' := by
  unfold tallyV at h
  simp at h
  exact h
theorem tKeyType : Try.prog.keyType 61 = true := by kernel_rfl
theorem tCells : Try.prog.cellsOf 61 = 2 := by kernel_rfl
theorem iCells : Try.prog.cellsOf 3 = 1 := by kernel_rfl
theorem tSize : ∃ m, Try.prog.types.size = m + 1 := ⟨Try.prog.types.size - 1, by kernel_rfl⟩
theorem tKey (u d : Int) (wu : (Lit.int .i64 u).wf = true) (wd : (Lit.int .i64 d).wf = true) : ∃ l, keyOf Try.prog 61 (tallyV u d) = some l := by
  obtain ⟨m, hm⟩ := tSize
  unfold keyOf tallyV
  simp only [Try.underlying61]
  refine ⟨.string (keyBytes [.int .i64 u, .int .i64 d]), ?_⟩
  rw [if_pos (by simp [tKeyType, Value.formed, Try.underlying61, tCells]), hm]
  unfold Program.keyLits
  simp only [Try.underlying61, Value.cells]
  simp [tCells, iCells, Program.keyLits, Try.underlying3, wu, wd, List.mapM_cons]
theorem len_split (N : Nat) : ∀ l : List Nat, l.length = (l.filter (· = N)).length + (l.filter (· ≠ N)).length
  | [] => rfl
  | x :: r => by
    have h := len_split N r
    by_cases e : x = N
    · rw [List.filter_cons_of_pos (by simpa using e), List.filter_cons_of_neg (by simpa using e)]
      simp only [List.length_cons]; omega
    · rw [List.filter_cons_of_neg (by simpa using e), List.filter_cons_of_pos (by simpa using e)]
      simp only [List.length_cons]; omega
def codeL : List Value → Nat
  | [.int _ u, .int _ d] => u.toNat * 41 + d.toNat
  | _ => 0
def codeV : Value → Nat
  | .agg xs => codeL xs.toList
  | _ => 0
/-- numbers below N that differ are at most N -/
theorem few_below : ∀ (N : Nat) (l : List Nat), l.Pairwise (· ≠ ·) → (∀ x, x ∈ l → x < N) → l.length ≤ N
  | 0, l, _, h => by
    cases l with
    | nil => simp
    | cons x r => exact absurd (h x (by simp)) (by omega)
  | N + 1, l, hp, h => by
    have h1 := few_below N (l.filter (· ≠ N)) (hp.filter _) (fun x hx => by
      have h2 := List.mem_filter.1 hx
      have h3 := h x h2.1
      have h4 : x ≠ N := by simpa using h2.2
      omega)
    have h2 : (l.filter (· = N)).length ≤ 1 := by
      have hq : (l.filter (· = N)).Pairwise (· ≠ ·) := hp.filter _
      have hall : ∀ x, x ∈ l.filter (· = N) → x = N := fun x hx => by simpa using (List.mem_filter.1 hx).2
      generalize l.filter (· = N) = q at *
      cases q with
      | nil => simp
      | cons x r =>
        cases r with
        | nil => simp
        | cons y r =>
          exfalso
          have e1 := hall x (by simp)
          have e2 := hall y (by simp)
          have := (List.pairwise_cons.1 hq).1 y (by simp)
          exact this (e1.trans e2.symm)
    have h3 := len_split N l
    omega
/-- block mb is a map, each entry V of its key, the keys within 0 .. 40 -/
def MapOk (w : World) (mb : Nat) (V : Int → Int → Int) : Prop :=
  ∃ es clock, w.heap[mb]? = some (.map es clock) ∧ Fit (H := Unit) Try.prog 61 (plainElem Try.prog 3) es clock ∧ ∀ e, e ∈ es.toList → ∃ u d, e.key = tallyV u d ∧ e.val = .int .i64 (V u d) ∧ (0 ≤ u ∧ u ≤ 40) ∧ 0 ≤ d ∧ d ≤ 40
section
variable {w w' : World} {mb : Nat} {V : Int → Int → Int}
theorem MapOk.lt (h : MapOk w mb V) : mb < w.heap.size := by
  obtain ⟨es, cl, h1, _⟩ := h
  exact (Array.getElem?_eq_some_iff.1 h1).1
theorem MapOk.kept {row : Option Nat} (h : MapOk w mb V) (hg : w.grownBy w' row) (hne : some mb ≠ row) : MapOk w' mb V := by
  have hl := h.lt
  obtain ⟨es, cl, h1, h2, h4⟩ := h
  exact ⟨es, cl, (hg.block mb hl hne).trans h1, h2, h4⟩
theorem MapOk.below (h : MapOk w mb V) (hb : Below w.heap.size w w') : MapOk w' mb V := by
  have hl := h.lt
  obtain ⟨es, cl, h1, h2, h4⟩ := h
  exact ⟨es, cl, (hb.block mb hl).trans h1, h2, h4⟩
theorem MapOk.alloc (h : MapOk w mb V) (o : Obj) : MapOk (w.alloc o) mb V := h.below ((Below.refl _ _).alloc (Nat.le_refl _) _)
theorem MapOk.drewN (h : MapOk w mb V) (k : Nat) : MapOk (w.drewN k) mb V := h
theorem MapOk.drew (h : MapOk w mb V) : MapOk w.drew mb V := h
theorem MapOk.setCell (h : MapOk w mb V) {p : Addr} (hp : p.block ≠ mb) (v : Value) : MapOk (w.setCell p v) mb V := by
  obtain ⟨es, cl, h1, h2, h4⟩ := h
  refine ⟨es, cl, ?_, h2, h4⟩
  unfold World.setCell
  simp only [Array.getElem?_modify]
  rw [if_neg hp]
  exact h1
theorem zeroI (w : World) : (zeroValue 3).run Try.prog w = .ok (.int .i64 0) w := by kernel_rfl
theorem MapOk.look (h : MapOk w mb V) (u d : Int) (wu : (Lit.int .i64 u).wf = true) (wd : (Lit.int .i64 d).wf = true) :
    (Instr.lookup 62 (.map (some mb)) (tallyV u d) true).run Try.prog w = .ok (.tuple #[.int .i64 0, .bool false]) w ∨
    (Instr.lookup 62 (.map (some mb)) (tallyV u d) true).run Try.prog w = .ok (.tuple #[.int .i64 (V u d), .bool true]) w := by
  obtain ⟨kl, hk⟩ := tKey u d wu wd
  obtain ⟨es, cl, h1, h2, h4⟩ := h
  rcases Maps.fit_look true tKeyed Try.underlying62 (zeroI w) h1 h2 hk with ⟨hr, _⟩ | ⟨e0, y, he, hke, hr, _⟩
  · exact .inl hr
  · obtain ⟨u', d', e1, e2, _⟩ := h4 e0 he
    obtain ⟨rfl, rfl⟩ := tallyV_inj (hke.symm.trans e1)
    rw [e2] at hr
    exact .inr hr
theorem entries_few {es : Array MapEntry} {cl : Nat} (F : Fit (H := Unit) Try.prog 61 (plainElem Try.prog 3) es cl) (h : ∀ e, e ∈ es.toList → ∃ u d, e.key = tallyV u d ∧ e.val = .int .i64 (V u d) ∧ (0 ≤ u ∧ u ≤ 40) ∧ 0 ≤ d ∧ d ≤ 40) : es.size ≤ 1681 := by
  have hp := ((MapKept.stamped_iff es cl).1 F.stamped).2.2
  have hc : ∀ e, e ∈ es.toList → ∀ u d : Int, e.key = tallyV u d → codeV e.key = u.toNat * 41 + d.toNat := fun e _ u d he => by
    rw [he]; rfl
  have h1 := few_below 1681 (es.toList.map fun e => codeV e.key) (by
    rw [List.pairwise_map]
    refine List.Pairwise.imp_of_mem ?_ hp
    intro x y hx hy hne e
    obtain ⟨u, d, e1, _, hu, hd⟩ := h x hx
    obtain ⟨u', d', e2, _, hu', hd'⟩ := h y hy
    rw [hc x hx u d e1, hc y hy u' d' e2] at e
    have : u = u' ∧ d = d' := by omega
    exact hne (by rw [e1, e2, this.1, this.2])) (by
    intro x hx
    obtain ⟨e, he, rfl⟩ := List.mem_map.1 hx
    obtain ⟨u, d, e1, _, hu, hd⟩ := h e he
    rw [hc e he u d e1]
    omega)
  rw [List.length_map, Array.length_toList] at h1
  exact h1
theorem MapOk.store (h : MapOk w mb V) (u d : Int) (hu : 0 ≤ u ∧ u ≤ 40) (hd : 0 ≤ d ∧ d ≤ 40) (wu : (Lit.int .i64 u).wf = true) (wd : (Lit.int .i64 d).wf = true) (wv : (Lit.int .i64 (V u d)).wf = true) :
    ∃ w', (Instr.mapUpdate 62 (.map (some mb)) (tallyV u d) (.int .i64 (V u d))).run Try.prog w = .ok () w' ∧ MapOk w' mb V ∧ w.grownBy w' (some mb) := by
  obtain ⟨kl, hk⟩ := tKey u d wu wd
  obtain ⟨es, cl, h1, h2, h4⟩ := h
  have hroom : es.size < maxLen := Nat.lt_of_le_of_lt (entries_few h2 h4) (by unfold maxLen; omega)
  obtain ⟨es', cl', hr, F', hput, _, _, hwho⟩ := Maps.fit_store (R' := plainElem Try.prog 3) tKeyed Try.underlying62 h1 h2 hroom (fun _ _ _ _ hz => hz) hk (plainElem_int Try.underlying3 wv)
  refine ⟨_, hr, ⟨es', cl', ChangeMaps.heap_setBlock_same h1 _, F', fun e he => ?_⟩, ⟨rfl, rfl, rfl, by simp [ChangeMaps.setBlock], fun i _ hi => ChangeMaps.heap_setBlock_other h1 _ (fun e => hi (by rw [e]))⟩⟩
  rcases hwho e he with ⟨h5, _⟩ | ⟨h5, h6⟩
  · exact h4 e h5
  · exact ⟨u, d, h5, h6, hu, hd⟩
end
theorem MapOk.made (w : World) (V : Int → Int → Int) : MapOk (w.alloc (.map #[] 0)) w.heap.size V :=
  ⟨#[], 0, (MapKept.heap_alloc w _).1, ⟨by simp, MapKept.stamped_empty 0, by simp⟩, by simp⟩
theorem wpList_lookT {ops : Array Oper} {rest : List Oper} {o : Oper} {a : Act} {Q : Exit → Act → World → Prop} {w : World} (m x : Operand) (hg : o.guard = none) (ho : o.op = Op.lookup 62 m x true)
    {mb : Nat} {V : Int → Int → Int} (hm : a.eval m = .map (some mb)) (h : MapOk w mb V) (u d : Int) (hx : a.eval x = .agg #[.int .i64 u, .int .i64 d]) (wu : (Lit.int .i64 u).wf = true) (wd : (Lit.int .i64 d).wf = true)
    (h1 : wpList Try.prog ops Q rest (a.put o.dst (.tuple #[.int .i64 0, .bool false])) w) (h2 : wpList Try.prog ops Q rest (a.put o.dst (.tuple #[.int .i64 (V u d), .bool true])) w) :
    wpList Try.prog ops Q (o :: rest) a w := by
  refine wpList_plain hg fun K hK => ?_
  have hx' : a.eval x = tallyV u d := hx
  unfold Oper.wp
  rcases h.look u d wu wd with hr | hr
  · simp [execOp, ho, hm, hx', hr, Result.andThen]
    exact hK _ _ h1
  · simp [execOp, ho, hm, hx', hr, Result.andThen]
    exact hK _ _ h2
theorem wpList_lookT2 {ops : Array Oper} {rest : List Oper} {o : Oper} {a : Act} {Q : Exit → Act → World → Prop} {w : World} (m x : Operand) (hg : o.guard = none) (ho : o.op = Op.lookup 62 m x true)
    {mb : Nat} {V : Int → Int → Int} (hm : a.eval m = .map (some mb)) (h : MapOk w mb V) (u d : Int) (hx : a.eval x = .agg #[.int .i64 u, .int .i64 d]) (wu : (Lit.int .i64 u).wf = true) (wd : (Lit.int .i64 d).wf = true)
    (h1 : ∀ (y : Int) (ok : Bool), (ok = true → y = V u d) → wpList Try.prog ops Q rest (a.put o.dst (.tuple #[.int .i64 y, .bool ok])) w) :
    wpList Try.prog ops Q (o :: rest) a w :=
  wpList_lookT m x hg ho hm h u d hx wu wd (h1 0 false (fun h => by cases h)) (h1 (V u d) true (fun _ => rfl))
theorem wpList_storeT {ops : Array Oper} {rest : List Oper} {o : Oper} {a : Act} {Q : Exit → Act → World → Prop} {w : World} (m x v : Operand) (hg : o.guard = none) (ho : o.op = Op.mapUpdate 62 m x v)
    {mb : Nat} {V : Int → Int → Int} (hm : a.eval m = .map (some mb)) (h : MapOk w mb V) (u d : Int) (hu : 0 ≤ u ∧ u ≤ 40) (hd : 0 ≤ d ∧ d ≤ 40) (hx : a.eval x = .agg #[.int .i64 u, .int .i64 d]) (hv : a.eval v = .int .i64 (V u d)) (wu : (Lit.int .i64 u).wf = true) (wd : (Lit.int .i64 d).wf = true) (wv : (Lit.int .i64 (V u d)).wf = true)
    (h1 : ∀ w', MapOk w' mb V → w.grownBy w' (some mb) → wpList Try.prog ops Q rest (a.put o.dst undef) w') :
    wpList Try.prog ops Q (o :: rest) a w := by
  refine wpList_plain hg fun K hK => ?_
  have hx' : a.eval x = tallyV u d := hx
  obtain ⟨w', hr, h2, h3⟩ := h.store u d hu hd wu wd wv
  unfold Oper.wp
  simp [execOp, ho, hm, hx', hv, hr, Result.andThen]
  exact hK _ _ (h1 w' h2 h3)
end Go.Proofs.Ytlgiamgjimffnaa
