/- JoinPaths and LiftPath. -/
import Derived.Test.YtdekjmbbogddgabPathOk
import Derived.Test.YtdekjmbbogddgabBytes
import Derived.Lib.AppendStr
import Derived.Laws.IdiomCopy
namespace Go.Proofs.Ytdekjmbbogddgab
open Go.RowKit
theorem below_setCells (B b : Nat) (hB : B ≤ b) : ∀ (vs : List Value) (o : Nat) (w : World), Below B w (w.setCells b o vs)
  | [], _, _ => Below.refl _ _
  | v :: r, o, w => ((Below.refl B w).setCell (p := ⟨b, o, none⟩) hB v).trans (below_setCells B b hB r (o + 1) _)
theorem size_setCells (b : Nat) : ∀ (vs : List Value) (o : Nat) (w : World), (w.setCells b o vs).heap.size = w.heap.size
  | [], _, _ => rfl
  | v :: r, o, w => by rw [World.setCells, size_setCells b r]; simp [World.setCell]
/-- bytes at the head of a block with spare room behind them, none of it frozen -/
structure BRoom (w : World) (B g cap : Nat) (xs : List UInt8) : Prop where
  row : BRow w B g xs
  room : ∀ j, xs.length ≤ j → j < cap → (w.cell? ⟨g, j, none⟩).isSome = true ∧ w.frozen? ⟨g, j, none⟩ = false
theorem BRoom.of_bs (w : World) (s : ByteArray) : BRoom (bsWorld w s) w.heap.size w.heap.size (bsCap w s) s.data.toList := by
  refine ⟨BRow.of_bs w s, fun j _ hj => ?_⟩
  have hsz : (Lib.bytesCells w 5 s).size = max s.size (bsCap w s) := by simp [Lib.bytesCells, bsCap]; omega
  unfold bsWorld World.cell? World.frozen?
  rw [Lib.bytesWorld_at_new]
  have h1 : j < (Lib.bytesCells w 5 s).size := by rw [hsz]; omega
  have h2 : ¬ (Lib.bytesCells w 5 s).size ≤ j := by omega
  simp [h1, h2]
theorem run_append_bs (w : World) (ty : TypeId) (B g cap : Nat) (xs : List UInt8) (h : BRoom w B g cap xs) (s : ByteArray) (hn : xs.length ≤ 1000000) (hs : s.size ≤ 1000000) :
    ∃ g' c' w', (Builtin.append_ #[50, 9] ty #[.slice (some ⟨g, 0, none⟩) xs.length cap, .string s]).run Try.prog w = .ok (.slice (some ⟨g', 0, none⟩) (xs.length + s.size) c') w' ∧
      BRow w' B g' (xs ++ s.data.toList) ∧ Below B w w' := by
  obtain ⟨i0, hi, hz0, hz1, hz2⟩ := info_parts bytInfo
  have hsl : s.data.toList.length = s.size := by simp
  have hB : B ≤ g := h.row.from_
  by_cases hroom : xs.length + s.size ≤ cap
  · have hf := Lib.run_firstCells_string (P := Try.prog) w 1 s
    have hst := run_storeCells_cells (P := Try.prog) g xs.length (Lib.strCells s) 0 w (fun j hj => (h.room _ (by omega) (by rw [Lib.strCells_length] at hj; omega)).1) (fun j hj => (h.room _ (by omega) (by rw [Lib.strCells_length] at hj; omega)).2) (Lib.strCells_oneCell s)
    simp only [Nat.add_zero] at hst
    refine ⟨g, cap, w.setCells g xs.length (Lib.strCells s), ?_, ⟨hB, by rw [size_setCells]; exact h.row.lt, fun j hj => ?_, fun j hj => ?_⟩, below_setCells B g hB _ _ _⟩
    · simp [Builtin.append_, run_underlying Try.underlying50, run_underlying Try.underlying9, sizeOf, typeInfo, hi, hz1, Builtin.lenOf, hroom, hf, Addr.add_lit, hst]
    · by_cases hjx : j < xs.length
      · rw [World.cell?_setCells_out _ _ _ _ _ (fun _ _ => .inl hjx), h.row.cell j hjx, List.getElem_append_left hjx]
      · have hj2 : j - xs.length < s.data.toList.length := by rw [List.length_append] at hj; omega
        have := World.cell?_setCells_in g (Lib.strCells s) xs.length w (fun i hi => (h.room _ (by omega) (by rw [Lib.strCells_length] at hi; omega)).1) (j - xs.length) (by rw [Lib.strCells_length]; omega)
        rw [show xs.length + (j - xs.length) = j by omega] at this
        rw [this, List.getElem_append_right (by omega)]
        simp [Lib.strCells]
    · rw [World.frozen?_setCells]
      by_cases hjx : j < xs.length
      · exact h.row.free j hjx
      · rw [List.length_append] at hj
        exact (h.room j (by omega) (by omega)).2
  · have hr := Lib.run_append_grow_string (P := Try.prog) w 50 9 ty 5 i0 (.int .u8 0) Try.underlying50 Try.underlying9 hi hz0 ⟨g, 0, none⟩ xs.length cap (xs.map bv) (by rw [hz1]; simp)
      (fun j u hj => by
        have hjx : j < xs.length := by have := (List.getElem?_eq_some_iff.1 hj).1; simpa using this
        have e : (⟨g, 0, none⟩ : Addr).add j = ⟨g, j, none⟩ := by unfold Addr.add; split <;> simp_all
        rw [e, h.row.cell j hjx]
        simp [hjx, bv] at hj
        rw [← hj]) s (by omega) (by omega) (by rw [hz2]; exact growslice_fits (by omega) (by omega))
    refine ⟨_, _, _, hr, ?_, ?_⟩
    · have hlt := h.row.lt
      refine ⟨by omega, by simp, fun j hj => ?_, fun j hj => ?_⟩
      · refine (World.cell?_alloc_new (w := w.drew) _ _ _).trans ?_
        have e : (xs.map bv).toArray ++ (Lib.strCells s).toArray = ((xs ++ s.data.toList).map bv).toArray := by simp [Lib.strCells, bv]
        rw [e, Array.getElem?_append_left (by simpa using hj)]
        simp only [List.getElem?_toArray, List.getElem?_map, List.getElem?_eq_getElem hj]
        rfl
      · exact World.frozen?_alloc_new (w := w.drew) _ _ _
    · exact ((Below.refl _ _).drew).alloc (by have := h.row.lt; simp; omega) _
theorem wpList_append_bs {ops : Array Oper} {rest : List Oper} {o : Oper} {a : Act} {Q : Exit → Act → World → Prop} {w : World} (sl x : Operand) (hgd : o.guard = none)
    (ho : o.op = .call { callee := .builtin .append, args := #[sl, x], argTypes := #[50, 9] })
    (B g n cap : Nat) (xs : List UInt8) (hx0 : xs.length = n) (hs : a.eval sl = .slice (some ⟨g, 0, none⟩) n cap) (hrow : BRoom w B g cap xs) (s : ByteArray) (hx : a.eval x = .string s)
    (hn : xs.length ≤ 1000000) (hs1 : s.size ≤ 1000000)
    (h : ∀ g' c' w', BRow w' B g' (xs ++ s.data.toList) → Below B w w' → wpList Try.prog ops Q rest (a.put o.dst (.slice (some ⟨g', 0, none⟩) (n + s.size) c')) w') : wpList Try.prog ops Q (o :: rest) a w := by
  refine wpList_plain hgd fun K hK => ?_
  subst hx0
  obtain ⟨g', c', w', hr, h2, h3⟩ := run_append_bs w o.type B g cap xs hrow s hn hs1
  unfold Oper.wp execOp
  simp only [ho, resolve, invoke, builtin, Sem.run_bind, Sem.run_pure, Result.andThen_ok, List.map_toArray, List.map_cons, List.map_nil, hs, hx, hr]
  exact hK _ _ (h g' c' w' h2 h3)

def joinOk (a b : ByteArray) : Bool := pathB a && pathB b && decide (a.size + b.size ≤ 40)
def joinV (a b : ByteArray) : ByteArray := if joinOk a b then a ++ b else strOf []
theorem joinOk_1 {a b : ByteArray} (h : pathB a = false) : joinOk a b = false := by simp [joinOk, h]
theorem joinOk_2 {a b : ByteArray} (h : pathB b = false) : joinOk a b = false := by simp [joinOk, h]
theorem joinOk_3 {a b : ByteArray} (h : 40 < a.size + b.size) : joinOk a b = false := by simp [joinOk]; omega
theorem joinOk_4 {a b : ByteArray} (h1 : pathB a = true) (h2 : pathB b = true) (h : ¬ 40 < a.size + b.size) : joinOk a b = true := by simp [joinOk, h1, h2]; omega
theorem strOf_append (a b : ByteArray) : strOf (a.data.toList ++ b.data.toList) = a ++ b := by
  apply ByteArray.ext
  simp [strOf]
set_option maxHeartbeats 400000 in
theorem join_ret (a b : ByteArray) (w : World) (ha : a.size ≤ maxLen) (hb : b.size ≤ maxLen) : Calls Try.prog 21 #[.string a, .string b] w (Ret w (.tuple #[.string (joinV a b), .bool (joinOk a b)])) := by
  unfold joinV
  rcases Bool.eq_false_or_eq_true (pathB a) with h1 | h1
  · have a40 := ((pathB_iff a).1 h1).1
    rcases Bool.eq_false_or_eq_true (pathB b) with h2 | h2
    · have b40 := ((pathB_iff b).1 h2).1
      by_cases h3 : 40 < a.size + b.size
      · rw [joinOk_3 h3]
        have i3 : (40 : Int) < (a.size : Int) + (b.size : Int) := by omega
        go_enter Try.func21, Try.ntmps21
        go_wp2_with fail
        refine (isPath_any a _ ha).mono ?_; rintro e w' ⟨rfl, rfl⟩
        go_wp2_with fail
        refine (isPath_any b _ hb).mono ?_; rintro e w' ⟨rfl, rfl⟩
        go_wp2_with fail
        go_ret2
        exact ⟨rfl, Below.refl _ _⟩
      · rw [joinOk_4 h1 h2 h3, if_pos rfl]
        have i3 : ¬ (40 : Int) < (a.size : Int) + (b.size : Int) := by omega
        have hby := run_bytes a
        go_enter Try.func21, Try.ntmps21
        go_wp2_with fail
        refine (isPath_any a _ ha).mono ?_; rintro e w' ⟨rfl, rfl⟩
        go_wp2_with fail
        refine (isPath_any b _ hb).mono ?_; rintro e w' ⟨rfl, rfl⟩
        have hbel := bsWorld_below w a
        go_wp2_with (at_builtin; refine wpList_append_bs (.tmp 23) (.tmp 24) rfl rfl w.heap.size w.heap.size a.size (bsCap w a) a.data.toList (by simp) rfl (BRoom.of_bs w a) b rfl (by simp; omega) (by omega) ?_; intro g' c' w' hrow' hb'; have hcv := run_str_cells w' g' (a.size + b.size) c' _ (by simp) hrow'.cell)
        go_ret2
        exact ⟨ret_sb (strOf_append a b) rfl, hbel.trans hb'⟩
    · rw [joinOk_2 h2]
      go_enter Try.func21, Try.ntmps21
      go_wp2_with fail
      refine (isPath_any a _ ha).mono ?_; rintro e w' ⟨rfl, rfl⟩
      go_wp2_with fail
      refine (isPath_any b _ hb).mono ?_; rintro e w' ⟨rfl, rfl⟩
      go_wp2_with fail
      go_ret2
      exact ⟨rfl, Below.refl _ _⟩
  · rw [joinOk_1 h1]
    go_enter Try.func21, Try.ntmps21
    go_wp2_with (go_at_call 47; refine (isPath_any a _ ha).mono ?_; rintro e w' ⟨rfl, rfl⟩)
    go_ret2
    exact ⟨rfl, Below.refl _ _⟩
set_option maxHeartbeats 400000 in
theorem specJoin_ret (a b : ByteArray) (w : World) (ha : a.size ≤ maxLen) (hb : b.size ≤ maxLen) : Calls Try.prog 20 #[.string a, .string b] w (Ret w (.tuple #[.string (joinV a b), .bool (joinOk a b)])) := by
  unfold joinV
  rcases Bool.eq_false_or_eq_true (pathB a) with h1 | h1
  · have a40 := ((pathB_iff a).1 h1).1
    rcases Bool.eq_false_or_eq_true (pathB b) with h2 | h2
    · have b40 := ((pathB_iff b).1 h2).1
      by_cases h3 : 40 < a.size + b.size
      · rw [joinOk_3 h3]
        have i3 : (40 : Int) < (a.size : Int) + (b.size : Int) := by omega
        go_enter Try.func20, Try.ntmps20
        go_wp2_with fail
        refine (paGood_any a _ ha).mono ?_; rintro e w' ⟨rfl, rfl⟩
        go_wp2_with fail
        refine (paGood_any b _ hb).mono ?_; rintro e w' ⟨rfl, rfl⟩
        go_wp2_with fail
        go_ret2
        exact ⟨rfl, Below.refl _ _⟩
      · rw [joinOk_4 h1 h2 h3, if_pos rfl]
        have i3 : ¬ (40 : Int) < (a.size : Int) + (b.size : Int) := by omega
        go_enter Try.func20, Try.ntmps20
        go_wp2_with fail
        refine (paGood_any a _ ha).mono ?_; rintro e w' ⟨rfl, rfl⟩
        go_wp2_with fail
        refine (paGood_any b _ hb).mono ?_; rintro e w' ⟨rfl, rfl⟩
        go_wp2_with fail
        go_ret2
        exact ⟨rfl, Below.refl _ _⟩
    · rw [joinOk_2 h2]
      go_enter Try.func20, Try.ntmps20
      go_wp2_with fail
      refine (paGood_any a _ ha).mono ?_; rintro e w' ⟨rfl, rfl⟩
      go_wp2_with fail
      refine (paGood_any b _ hb).mono ?_; rintro e w' ⟨rfl, rfl⟩
      go_wp2_with fail
      go_ret2
      exact ⟨rfl, Below.refl _ _⟩
  · rw [joinOk_1 h1]
    go_enter Try.func20, Try.ntmps20
    go_wp2_with (go_at_call 43; refine (paGood_any a _ ha).mono ?_; rintro e w' ⟨rfl, rfl⟩)
    go_ret2
    exact ⟨rfl, Below.refl _ _⟩

def liftOk (s : ByteArray) : Bool := pathB s && decide (s.size + 2 ≤ 40)
def liftV (s : ByteArray) : ByteArray := if liftOk s then (⟨#[85]⟩ : ByteArray) ++ s ++ (⟨#[68]⟩ : ByteArray) else strOf []
theorem liftOk_1 {s : ByteArray} (h : pathB s = false) : liftOk s = false := by simp [liftOk, h]
theorem liftOk_2 {s : ByteArray} (h : 40 < s.size + 2) : liftOk s = false := by simp [liftOk]; omega
theorem liftOk_3 {s : ByteArray} (h1 : pathB s = true) (h : ¬ 40 < s.size + 2) : liftOk s = true := by simp [liftOk, h1]; omega
set_option maxHeartbeats 400000 in
theorem lift_ret (s : ByteArray) (w : World) (hs : s.size ≤ maxLen) : Calls Try.prog 28 #[.string s] w (Ret w (.tuple #[.string (liftV s), .bool (liftOk s)])) := by
  unfold liftV
  rcases Bool.eq_false_or_eq_true (pathB s) with h1 | h1
  · have s40 := ((pathB_iff s).1 h1).1
    by_cases h3 : 40 < s.size + 2
    · rw [liftOk_2 h3]
      have i3 : (40 : Int) < (s.size : Int) + 2 := by omega
      go_enter Try.func28, Try.ntmps28
      go_wp2_with (go_at_call 47; refine (isPath_any s _ hs).mono ?_; rintro e w' ⟨rfl, rfl⟩)
      go_ret2
      exact ⟨rfl, Below.refl _ _⟩
    · rw [liftOk_3 h1 h3, if_pos rfl]
      have i3 : ¬ (40 : Int) < (s.size : Int) + 2 := by omega
      go_enter Try.func28, Try.ntmps28
      go_wp2_with (go_at_call 47; refine (isPath_any s _ hs).mono ?_; rintro e w' ⟨rfl, rfl⟩)
      go_ret2
      exact ⟨ret_sb rfl rfl, Below.refl _ _⟩
  · rw [liftOk_1 h1]
    go_enter Try.func28, Try.ntmps28
    go_wp2_with (go_at_call 47; refine (isPath_any s _ hs).mono ?_; rintro e w' ⟨rfl, rfl⟩)
    go_ret2
    exact ⟨rfl, Below.refl _ _⟩
set_option maxHeartbeats 400000 in
theorem specLift_ret (s : ByteArray) (w : World) (hs : s.size ≤ maxLen) : Calls Try.prog 27 #[.string s] w (Ret w (.tuple #[.string (liftV s), .bool (liftOk s)])) := by
  unfold liftV
  rcases Bool.eq_false_or_eq_true (pathB s) with h1 | h1
  · have s40 := ((pathB_iff s).1 h1).1
    by_cases h3 : 40 < s.size + 2
    · rw [liftOk_2 h3]
      have i3 : (40 : Int) < (s.size : Int) + 2 := by omega
      go_enter Try.func27, Try.ntmps27
      go_wp2_with (go_at_call 43; refine (paGood_any s _ hs).mono ?_; rintro e w' ⟨rfl, rfl⟩)
      go_ret2
      exact ⟨rfl, Below.refl _ _⟩
    · rw [liftOk_3 h1 h3, if_pos rfl]
      have i3 : ¬ (40 : Int) < (s.size : Int) + 2 := by omega
      go_enter Try.func27, Try.ntmps27
      go_wp2_with (go_at_call 43; refine (paGood_any s _ hs).mono ?_; rintro e w' ⟨rfl, rfl⟩)
      go_ret2
      exact ⟨ret_sb rfl rfl, Below.refl _ _⟩
  · rw [liftOk_1 h1]
    go_enter Try.func27, Try.ntmps27
    go_wp2_with (go_at_call 43; refine (paGood_any s _ hs).mono ?_; rintro e w' ⟨rfl, rfl⟩)
    go_ret2
    exact ⟨rfl, Below.refl _ _⟩
end Go.Proofs.Ytdekjmbbogddgab
