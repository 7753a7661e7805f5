/- Pack 20 of what FnPathsReflected needs: Draws, CuA. -/
import Derived.Test.YtachijliaedndaaKFnPathsReflected19
import Derived.Deep.CutBlock
import Derived.Deep.Heap
/- What the laws draw: some path or text of at most 50 bytes. -/
namespace Go.Proofs.Ytachijliaedndaa
open Go.RowKit
theorem Cur.new {w : World} {A : Option Addr} {len cap : Nat} (h : CodeAt w w.heap.size A len) : Cur (w.alloc (.cells #[.slice A len cap, .int .i64 0, .int .u64 0] 107)) w.heap.size A len cap 0 := by
  refine ⟨fun j hj => ?_, by simp, ⟨0, by omega, by simp⟩, ⟨0, by omega, by omega, by simp⟩, fun j => by simp, by simp⟩
  obtain ⟨a, x, h1, h2, h3, h4⟩ := h j hj
  exact ⟨a, x, h1, h2, h3, by rw [World.cell?_alloc_lt _ _ _ (by rw [add_block]; exact h2)]; exact h4⟩
theorem CodeAt.below {w w' : World} {A : Option Addr} {len : Nat} (h : CodeAt w w.heap.size A len) (hb : Below w.heap.size w w') : CodeAt w' w'.heap.size A len := fun j hj => by
  obtain ⟨a, x, h1, h2, h3, h4⟩ := h j hj
  exact ⟨a, x, h1, Nat.lt_of_lt_of_le h2 hb.size, h3, (hb.cell (p := a.add j) (by rw [add_block]; exact h2)).trans h4⟩
def StrRet (w : World) (n : Nat) (e : Ending) (w' : World) : Prop := ∃ s : ByteArray, e = .returned (.string s) ∧ s.size ≤ n ∧ Below w.heap.size w w'
theorem below_of_new {w w' : World} {o : Obj} (h : (w.alloc o).grownBy w' (some w.heap.size)) : Below w.heap.size w w' :=
  (((Below.refl _ w).alloc (Nat.le_refl _) o)).grown h (by simp) (fun j hj => by injection hj with hj; omega)
def I64 (n : Int) : Prop := -9223372036854775808 ≤ n ∧ n ≤ 9223372036854775807
theorem rowTimes (w : World) : RowI (w.alloc (.cells #[.int .i64 0, .int .i64 1, .int .i64 (-1), .int .i64 2, .int .i64 5, .int .i64 (-40), .int .i64 4611686018427387904] 3)) w.heap.size 7 I64 := by
  refine ⟨by simp, fun j hj => ?_⟩
  match j, hj with
  | 0, _ => exact ⟨0, by unfold I64; omega, by simp⟩
  | 1, _ => exact ⟨1, by unfold I64; omega, by simp⟩
  | 2, _ => exact ⟨-1, by unfold I64; omega, by simp⟩
  | 3, _ => exact ⟨2, by unfold I64; omega, by simp⟩
  | 4, _ => exact ⟨5, by unfold I64; omega, by simp⟩
  | 5, _ => exact ⟨-40, by unfold I64; omega, by simp⟩
  | 6, _ => exact ⟨4611686018427387904, by unfold I64; omega, by simp⟩
end Go.Proofs.Ytachijliaedndaa

/- The cursor of the draws among other worlds: what stands while it draws. -/
namespace Go.Proofs.Ytachijliaedndaa
open Go.RowKit
set_option linter.unusedVariables false
theorem rowLitB (w : World) (C : Array Value) (xs : List Int) (P : Int → Prop) (hC : C = (xs.map (Value.int .i64)).toArray) (hP : ∀ x ∈ xs, P x) : RowI (w.alloc (.cells C 3)) w.heap.size xs.length P := by
  subst hC
  refine ⟨by simp, fun j hj => ⟨xs.getD j 0, ?_, ?_⟩⟩
  · rw [List.getD_eq_getElem?_getD, List.getElem?_eq_getElem hj]
    exact hP _ (List.getElem_mem hj)
  · rw [List.getD_eq_getElem?_getD, List.getElem?_eq_getElem hj]
    simp [hj]
/-- the cursor stands, all that has turned is the cursor's block -/
def CurAt (w : World) (g : Nat) (A : Option Addr) (len cap T : Nat) (W : World) : Prop := Cur W g A len cap T ∧ w.grownBy W (some g)
theorem CurAt.alloc {w W : World} {g : Nat} {A : Option Addr} {len cap T : Nat} (h : CurAt w g A len cap T W) (o : Obj) : CurAt w g A len cap T (W.alloc o) := ⟨h.1.alloc o, grown_trans' h.2 (World.grownBy_alloc W o _)⟩
theorem CurAt.next {w W W' : World} {g : Nat} {A : Option Addr} {len cap T T' : Nat} (h : CurAt w g A len cap T W) (hc : Cur W' g A len cap T') (hg : W.grownBy W' (some g)) : CurAt w g A len cap T' W' := ⟨hc, grown_trans' h.2 hg⟩
theorem CurAt.below {w W W' : World} {g : Nat} {A : Option Addr} {len cap T : Nat} (h : CurAt w g A len cap T W) (hb : Below W.heap.size W W') : CurAt w g A len cap T W' := by
  have hg := grown_of_below hb (some g)
  have hl := h.1.lt
  refine ⟨⟨fun j hj => ?_, ?_, ?_, ?_, fun j => ?_, Nat.lt_of_lt_of_le hl hb.size⟩, grown_trans' h.2 hg⟩
  · obtain ⟨a, x, h1, h2, h3, h4⟩ := h.1.code j hj
    exact ⟨a, x, h1, h2, h3, (hb.cell (p := a.add j) (by rw [add_block]; omega)).trans h4⟩
  · exact (hb.cell (p := ⟨g, 0, none⟩) hl).trans h.1.c0
  · obtain ⟨a, h1, h2⟩ := h.1.c1
    exact ⟨a, h1, (hb.cell (p := ⟨g, 1, none⟩) hl).trans h2⟩
  · obtain ⟨z, h1, h2, h3⟩ := h.1.c2
    exact ⟨z, h1, h2, (hb.cell (p := ⟨g, 2, none⟩) hl).trans h3⟩
  · exact (hb.frozen (p := ⟨g, j, none⟩) hl).trans (h.1.free j)
def Two64 (v : Value) : Prop := ∃ a b : Int, v = .tuple #[.int .i64 a, .int .i64 b] ∧ I64 a ∧ I64 b
theorem among64 (g : Nat) (A : Option Addr) (len cap : Nat) (hl : len ≤ 1099511627776) (xs : List Int) (hP : ∀ x ∈ xs, I64 x) (h0 : 1 ≤ xs.length ∧ xs.length ≤ 1000) (W : World) (gb T n : Nat) (C : Array Value) (h1 : Cur W g A len cap T) (hT : T ≤ 100000) (h3 : gb = W.heap.size) (hn : n = xs.length) (hC : C = (xs.map (Value.int .i64)).toArray) :
    Calls Try.prog 181 #[.pointer (some ⟨g, 0, none⟩), .slice (some ⟨gb, 0, none⟩) n n] (W.alloc (.cells C 3)) (CurRet (W.alloc (.cells C 3)) g A len cap (T + 2) (IntP I64)) := by
  subst h3 hn
  have := h1.lt
  exact among_any I64 _ g A len cap T W.heap.size xs.length xs.length (by omega) (rowLitB W C xs I64 hC hP) (by omega) (h1.alloc _) (by omega) hl
theorem results_tmp4 {fn : Func} {t u v x : Tmp} (h : fn.results = #[.tmp t, .tmp u, .tmp v, .tmp x]) (tmps : Array Value) (P : Program) (w : World) :
    (results fn tmps).run P w = .ok (.tuple #[tmps.getD t undef, tmps.getD u undef, tmps.getD v undef, tmps.getD x undef]) w := by
  simp [results, h, Result.andThen]
end Go.Proofs.Ytachijliaedndaa
