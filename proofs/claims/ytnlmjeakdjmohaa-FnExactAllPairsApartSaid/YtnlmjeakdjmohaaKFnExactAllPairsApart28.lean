/- Pack 28 of what FnExactAllPairsApart needs: DmI, JoinS. -/
import Derived.Test.YtnlmjeakdjmohaaKFnExactAllPairsApart27
import Derived.Lib.AppendStr
/- The program's DoMeet, firstMeeting. -/
namespace Go.Proofs.Ytnlmjeakdjmohaa
open Go.RowKit
set_option linter.unusedVariables false
theorem mtR_sym (x y u v : Int) (s t : ByteArray) : (mtR u v t x y s).isSome = (mtR x y s u v t).isSome := by
  have key : ∀ (x y u v : Int) (s t : ByteArray), (mtR x y s u v t).isSome = true → (mtR u v t x y s).isSome = true := by
    intro x y u v s t h
    have e := mtR_share [(x, y, s), (u, v, t)] 0 1
    have e2 := mtR_share [(x, y, s), (u, v, t)] 1 0
    have h1 := e.1 h
    obtain ⟨k, hk, hh⟩ := h1
    obtain ⟨l, hl, h2, h3⟩ := hasF_iff.1 hh
    exact e2.2 ⟨l, hl, hasF_iff.2 ⟨k, hk, h2.symm, h3.symm⟩⟩
  rw [Bool.eq_iff_iff]
  exact ⟨key _ _ _ _ _ _, key _ _ _ _ _ _⟩
theorem dm_ar (x y u v : Int) (s t : ByteArray) : arOk 2 [(x, y, s), (u, v, t)] = dmOk x y s u v t ∧ (arOk 2 [(x, y, s), (u, v, t)] && !arV 2 [(x, y, s), (u, v, t)]) = dmV x y s u v t := by
  have h1 : arOk 2 [(x, y, s), (u, v, t)] = dmOk x y s u v t := by
    unfold arOk dmOk
    rw [show inBd 1 4 ((2 : Nat) : Int) = true from by decide, Bool.true_and, show List.range 2 = [0, 1] from rfl, List.all_cons, List.all_cons, List.all_nil, Bool.and_true]
    rfl
  have h2 : apB 2 [(x, y, s), (u, v, t)] = !(mtR x y s u v t).isSome := by
    rw [← mtR_sym x y u v s t]
    unfold apB
    rw [show List.range 2 = [0, 1] from rfl, List.all_cons, List.all_cons, List.all_nil, show List.range 0 = [] from rfl, show List.range 1 = [0] from rfl, List.all_nil, List.all_cons, List.all_nil, Bool.true_and, Bool.and_true, Bool.and_true]
    rfl
  refine ⟨h1, ?_⟩
  unfold arV dmV
  rw [h1, h2]
  cases dmOk x y s u v t <;> simp
theorem mtI_ltD {xs ys : List Int} {m : Nat} : ∀ {f i p q : Nat}, mtI xs ys m f i = some (p, q) → i ≤ p ∧ p < i + f
  | 0, i, p, q, h => by simp [mtI] at h
  | f + 1, i, p, q, h => by
    unfold mtI at h
    split at h
    · injection h with h
      injection h with h1 h2
      omega
    · have := mtI_ltD h
      omega
/-- a meeting is one of ways -/
theorem mtR_of {x y u v : Int} {s t : ByteArray} {i j : Nat} (h : mtR x y s u v t = some (i, j)) : (wayB x y s = true ∧ i ≤ s.size) ∧ wayB u v t = true ∧ j ≤ t.size := by
  have h1 : (mtR x y s u v t).isSome = true := by rw [h]; rfl
  have hi := mtI_ltD h
  have key : ∀ (a b : Int) (r : ByteArray) (k : Nat), k < ncN a b r → wayB a b r = true ∧ k ≤ r.size := fun a b r k hk => by
    unfold ncN at hk
    split at hk
    · next hh => exact ⟨hh, by omega⟩
    · omega
  have hj : j < ncN u v t := by
    have gj : ∀ (xs ys : List Int) (m f i p q : Nat), mtI xs ys m f i = some (p, q) → q < m := by
      intro xs ys m f
      induction f with
      | zero => intro i p q h; cases h
      | succ f ih =>
        intro i p q h
        unfold mtI at h
        split at h
        · next j' hj' =>
          injection h with h
          injection h with h1 h2
          subst h2
          rw [← pxF_mtJ] at hj'
          have := pxF_lt hj'
          omega
        · exact ih _ _ _ h
    exact gj _ _ _ _ _ _ _ h
  exact ⟨key _ _ _ _ (by omega), key _ _ _ _ hj⟩
end Go.Proofs.Ytnlmjeakdjmohaa

/- joinSteps; WithFirstVote. -/
namespace Go.Proofs.Ytnlmjeakdjmohaa
open Go.RowKit
theorem strCells_bv (s : ByteArray) : Lib.strCells s = s.data.toList.map bv := rfl
/-- append of a string's bytes to a slice of the call's own -/
theorem wpList_pushT {ops : Array Oper} {rest : List Oper} {o : Oper} {a : Act} {Q : Exit → Act → World → Prop} {w : World} (sl x : Operand) (hgd : o.guard = none)
    (ho : o.op = .call { callee := .builtin .append, args := #[sl, x], argTypes := #[109, 9] })
    (B : Nat) (v : Value) (xs : List UInt8) (hs : a.eval sl = v) (hown : BOwn w B v xs) (s : ByteArray) (hx : a.eval x = .string s)
    (hlen : xs.length ≤ 1000000) (hsl : s.size ≤ 1000000) (hB : B ≤ w.heap.size)
    (h : ∀ v' w', BOwn w' B v' (xs ++ s.data.toList) → w.grownBy w' v.ownBlock → wpList Try.prog ops Q rest (a.put o.dst v') w') :
    wpList Try.prog ops Q (o :: rest) a w := by
  obtain ⟨i0, hi, hz0, hz1, hz2⟩ := info_parts bytInfo
  refine Lib.wpList_append_own_string w hgd sl x 109 9 ho B 5 i0 Try.underlying109 Try.underlying9 hi hz0 hz1 hz2 v xs.length (xs.map bv) hs hown s hx (by unfold maxLen; omega) (by omega) hB ?_
  intro v' w' h1 h2 _
  refine h v' w' ?_ h2
  unfold BOwn
  rw [List.length_append, List.map_append, ← strCells_bv]
  have e : s.data.toList.length = s.size := by simp
  rw [e]
  exact h1
/-- the bytes of all parts -/
def catB (xs : List ByteArray) : List UInt8 := xs.flatMap fun x => x.data.toList
theorem catB_snoc (xs : List ByteArray) (x : ByteArray) : catB (xs ++ [x]) = catB xs ++ x.data.toList := by simp [catB]
theorem catB_len {xs : List ByteArray} (h : ∀ x, x ∈ xs → x.size ≤ 100) : (catB xs).length ≤ 100 * xs.length := by
  induction xs with
  | nil => simp [catB]
  | cons x r ih =>
    have h1 := ih (fun y hy => h y (by simp [hy]))
    have h2 := h x (by simp)
    have e : x.data.toList.length = x.size := by simp
    have e2 : catB (x :: r) = x.data.toList ++ catB r := by simp [catB]
    rw [e2, List.length_append, List.length_cons]
    omega
set_option maxHeartbeats 1000000 in
theorem joinSteps_any (xs : List ByteArray) (v : Value) (B : Nat) (w : World) (h : SRow w B v xs) (hn : xs.length ≤ 1000) (hs : ∀ x, x ∈ xs → x.size ≤ 100) :
    Calls Try.prog 147 #[v] w (Ret w (.string (strOf (catB xs)))) := by
  by_cases h0 : xs.length = 0
  · obtain ⟨A1, c1, rfl⟩ := h.shape
    obtain rfl : xs = [] := List.eq_nil_of_length_eq_zero h0
    have hcv := run_str_nil
    clear h h0 hs
    go_enter Try.func147, Try.ntmps147
    go_wp2
    refine wp_loop_rounds 1 ?_; rw [rounds_succ]
    go_wp2
    go_ret
    exact ⟨rfl, Below.refl _ _⟩
  · obtain ⟨g1, c1, rfl, _, _⟩ := h.form' rfl (by omega)
    have H1 := Lib.hid h
    have HS := Lib.hid hs
    have HT : Hid (∀ k (hk : k < xs.length), catB (xs.take (k + 1)) = catB (xs.take k) ++ (xs.getD k ByteArray.empty).data.toList ∧ (xs.getD k ByteArray.empty).size ≤ 100 ∧ (catB (xs.take k)).length ≤ 100 * k) := Lib.hid fun k hk => by
      refine ⟨?_, ?_, ?_⟩
      · rw [List.take_succ_eq_append_getElem hk, catB_snoc, List.getD_eq_getElem?_getD, List.getElem?_eq_getElem hk]; rfl
      · rw [List.getD_eq_getElem?_getD, List.getElem?_eq_getElem hk]
        exact hs _ (List.getElem_mem hk)
      · have := catB_len (xs := xs.take k) (fun x hx => hs x (List.mem_of_mem_take hx))
        rw [List.length_take] at this
        omega
    have HE : Hid (xs.take xs.length = xs) := Lib.hid (List.take_length)
    clear h h0 hs
    generalize hnn : xs.length = n at *
    have HN := Lib.hid hnn
    clear hnn
    go_enter Try.func147, Try.ntmps147
    go_wp2
    go_loopw [3, 8] (fun b i wr => ∃ k : Nat, k ≤ n ∧ i = .int .i64 k ∧ BOwn wr w.heap.size b (catB (xs.take k)) ∧ Below w.heap.size w wr) (fun _ i _ => n - (intOf i).toNat)
    case atStart => exact ⟨0, Nat.zero_le _, rfl, BOwn.nil _ _, Below.refl _ _⟩
    case round =>
      obtain ⟨k, hk, rfl, hrow, hb⟩ := hrel
      by_cases hlt : k < n
      · have e1 := (H1.out.below hb).cell (j := k) (by rw [HN.out]; omega)
        obtain ⟨hT1, hT2, hT3⟩ := HT.out k hlt
        have HT1 := Lib.hid hT1
        clear hT1
        generalize xs.getD k ByteArray.empty = x at *
        have hsz := hb.size
        go_wp2_with (at_builtin; refine wpList_pushT (.tmp 12) (.tmp 13) rfl rfl w.heap.size _ (catB (xs.take k)) rfl hrow x rfl (by omega) (by omega) hsz ?_; intro v' w' hrow' hg')
        go_roundw
        case rel => exact ⟨k + 1, by omega, by go_num, by rw [HT1.out]; exact hrow', hb.grown hg' hsz (fun i hi => (hrow.blk i hi).1)⟩
        case measure => first | (simp [intOf]; done) | (simp [intOf]; omega)
      · have HK : Hid (k = n) := by unfold Hid; omega
        have hcv := run_str_own hrow
        go_wp2
        go_ret
        exact ⟨ret_s (by rw [HK.out, HE.out]), hb⟩
def fvOk (s : ByteArray) : Bool := pathB s && decide (s.size < 40)
def fvV (s : ByteArray) : ByteArray := if fvOk s then (⟨#[85]⟩ : ByteArray) ++ s else strOf []
theorem fvOk_1 {s : ByteArray} (h : pathB s = false) : fvOk s = false := by simp [fvOk, h]
theorem fvOk_2 {s : ByteArray} (h : ¬ s.size < 40) : fvOk s = false := by simp [fvOk]; omega
theorem fvOk_3 {s : ByteArray} (h1 : pathB s = true) (h : s.size < 40) : fvOk s = true := by simp [fvOk, h1, h]
theorem cat_first (s : ByteArray) : strOf (catB [⟨#[85]⟩, s]) = (⟨#[85]⟩ : ByteArray) ++ s := by
  apply ByteArray.ext
  simp [strOf, catB]
end Go.Proofs.Ytnlmjeakdjmohaa
