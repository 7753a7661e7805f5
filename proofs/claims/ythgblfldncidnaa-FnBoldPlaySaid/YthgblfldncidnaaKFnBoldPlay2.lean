/- Pack 2 of what FnBoldPlay needs: Lists, Cur2. -/
import Derived.Test.YthgblfldncidnaaKFnBoldPlay1
import Derived.Deep.QuietTactic
import Derived.BigQuiet
/- eqIntS, markIntS, heldIntS: the laws' own helpers on slices of ints. -/
namespace Go.Proofs.Ythgblfldncidnaa
open Go.RowKit

/-- the numbers m, m+1, .. -/
def marks (m : Int) (n : Nat) : List Int := (List.range n).map fun j => m + (j : Nat)
theorem marks_length (m : Int) (n : Nat) : (marks m n).length = n := by simp [marks]
theorem marks_get (m : Int) (n k : Nat) (h : k < n) : (marks m n).getD k 0 = m + k := by
  unfold marks; rw [List.getD_eq_getElem?_getD, List.getElem?_map, List.getElem?_range h]; rfl
/-- the first k are marked -/
def Marked (ys : List Int) (m : Int) (n k : Nat) : Prop := ys.length = n ∧ ∀ j, j < k → ys.getD j 0 = m + (j : Nat)
theorem Marked.zero {ys : List Int} {n : Nat} (m : Int) (h : ys.length = n) : Marked ys m n 0 := ⟨h, fun _ h => absurd h (by omega)⟩
theorem Marked.succ {ys : List Int} {m : Int} {n k : Nat} (h : Marked ys m n k) (hk : k < n) : Marked (ys.set k (m + (k : Nat))) m n (k + 1) := by
  refine ⟨by rw [List.length_set]; exact h.1, fun j hj => ?_⟩
  rw [List.getD_eq_getElem?_getD, List.getElem?_set]
  by_cases e : k = j
  · subst e; rw [if_pos rfl, if_pos (by rw [h.1]; exact hk)]; rfl
  · rw [if_neg e, ← List.getD_eq_getElem?_getD]; exact h.2 j (by omega)
theorem Marked.full {ys : List Int} {m : Int} {n k : Nat} (h : Marked ys m n k) (hk : k = n) : ys = marks m n := by
  subst hk
  apply List.ext_getElem
  · rw [h.1, marks_length]
  · intro j h1 h2
    have a := h.2 j (by rw [h.1] at h1; exact h1)
    have b := marks_get m k j (by rw [h.1] at h1; exact h1)
    rw [List.getD_eq_getElem?_getD, List.getElem?_eq_getElem h1] at a
    rw [List.getD_eq_getElem?_getD, List.getElem?_eq_getElem h2] at b
    simp at a b
    rw [a, b]

theorem grown_trans' {a b c : World} {r : Option Nat} (h : a.grownBy b r) (k : b.grownBy c r) : a.grownBy c r :=
  ⟨k.os.trans h.os, k.tape.trans h.tape, k.output.trans h.output, Nat.le_trans h.size k.size, fun i hi hn => (k.block i (Nat.lt_of_lt_of_le hi h.size) hn).trans (h.block i hi hn)⟩
theorem grown_refl' (w : World) (r : Option Nat) : w.grownBy w r := ⟨rfl, rfl, rfl, Nat.le_refl _, fun _ _ _ => rfl⟩

end Go.Proofs.Ythgblfldncidnaa

/- The cursor of the laws' draws: pick, one, of, among, path. -/
namespace Go.Proofs.Ythgblfldncidnaa
open Go.RowKit
theorem Cur.mono {w : World} {g : Nat} {A : Option Addr} {len cap T T' : Nat} (h : Cur w g A len cap T) (hT : T ≤ T') : Cur w g A len cap T' :=
  ⟨h.code, h.c0, by obtain ⟨a, h1, h2⟩ := h.c1; exact ⟨a, Nat.le_trans h1 hT, h2⟩, h.c2, h.free, h.lt⟩
theorem Cur.alloc {w : World} {g : Nat} {A : Option Addr} {len cap T : Nat} (h : Cur w g A len cap T) (o : Obj) : Cur (w.alloc o) g A len cap T := by
  have hl := h.lt
  refine ⟨fun j hj => ?_, ?_, ?_, ?_, ?_, by simp; omega⟩
  · obtain ⟨a, x, h1, h2, h3, h4⟩ := h.code j hj
    exact ⟨a, x, h1, h2, h3, by rw [World.cell?_alloc_lt _ _ _ (by rw [add_block]; omega)]; exact h4⟩
  · rw [World.cell?_alloc_lt _ _ _ hl]; exact h.c0
  · obtain ⟨a, h1, h2⟩ := h.c1
    exact ⟨a, h1, by rw [World.cell?_alloc_lt _ _ _ hl]; exact h2⟩
  · obtain ⟨z, h1, h2, h3⟩ := h.c2
    exact ⟨z, h1, h2, by rw [World.cell?_alloc_lt _ _ _ hl]; exact h3⟩
  · intro j
    rw [World.frozen?_alloc_past _ _ _ hl]; exact h.free j
/-- an answer of the cursor: what is handed back, how far it has come, nothing else turned -/
def CurRet (w : World) (g : Nat) (A : Option Addr) (len cap T : Nat) (R : Value → Prop) (e : Ending) (w' : World) : Prop :=
  ∃ v, e = .returned v ∧ R v ∧ Cur w' g A len cap T ∧ w.grownBy w' (some g)
def IntTo (n : Int) (v : Value) : Prop := ∃ x : Int, v = .int .i64 x ∧ 0 ≤ x ∧ x < n
set_option maxHeartbeats 1000000 in
theorem pick_any (w : World) (g : Nat) (A : Option Addr) (len cap T : Nat) (n : Int) (hn : 1 ≤ n ∧ n ≤ 1073741824) (hc : Cur w g A len cap T) (hT : T ≤ 1073741824) (hl : len ≤ 1099511627776) :
    Calls Try.prog 15 #[.pointer (some ⟨g, 0, none⟩), .int .i64 n] w (CurRet w g A len cap (T + 2) (IntTo n)) := by
  by_cases h1 : n ≤ 1
  · obtain rfl : n = 1 := by omega
    go_enter Try.func15, Try.ntmps15
    go_wp2
    go_ret
    exact ⟨_, rfl, ⟨0, rfl, by omega, by omega⟩, hc.mono (by omega), grown_refl' _ _⟩
  · have HN : Hid (∀ (w : World) T, Cur w g A len cap T → T ≤ 1099511627776 → Calls Try.prog 34 #[.pointer (some ⟨g, 0, none⟩)] w fun e w' => ∃ x : Int, e = .returned (.int .i64 x) ∧ 0 ≤ x ∧ x ≤ 255 ∧ Cur w' g A len cap (T + 1) ∧ w.grownBy w' (some g)) := Lib.hid fun w T h1 h2 => next_any w g A len cap T h1 h2 hl
    have HC := Lib.hid hc
    clear hc
    by_cases h2 : n ≤ 200
    · have d1 : decide (n ≤ 1) = false := decide_eq_false h1
      go_enter Try.func15, Try.ntmps15
      go_wp2_with fail
      refine (HN.out _ _ HC.out (by omega)).mono ?_
      rintro e w1 ⟨x, rfl, hx1, hx2, hcur, hg⟩
      have HCU := Lib.hid hcur
      have HG := Lib.hid hg
      clear hcur hg
      go_wp2
      go_ret
      exact ⟨_, rfl, ⟨_, rfl, Int.emod_nonneg _ (by omega), Int.emod_lt_of_pos _ (by omega)⟩, HCU.out.mono (by omega), HG.out⟩
    · have d1 : decide (n ≤ 1) = false := decide_eq_false h1
      go_enter Try.func15, Try.ntmps15
      go_wp2_with fail
      refine (HN.out _ _ HC.out (by omega)).mono ?_
      rintro e w1 ⟨x, rfl, hx1, hx2, hcur, hg⟩
      have HCU := Lib.hid hcur
      have HG := Lib.hid hg
      clear hcur hg
      go_wp2_with fail
      refine (HN.out _ _ HCU.out (by omega)).mono ?_
      rintro e w2 ⟨y, rfl, hy1, hy2, hcur, hg⟩
      have HCU2 := Lib.hid hcur
      have HG2 := Lib.hid hg
      clear hcur hg
      go_wp2
      go_ret
      exact ⟨_, rfl, ⟨_, rfl, Int.emod_nonneg _ (by omega), Int.emod_lt_of_pos _ (by omega)⟩, HCU2.out, grown_trans' HG.out HG2.out⟩
def IsBool (v : Value) : Prop := ∃ b, v = .bool b
set_option maxHeartbeats 1000000 in
theorem one_any (w : World) (g : Nat) (A : Option Addr) (len cap T : Nat) (n : Int) (hn : 1 ≤ n ∧ n ≤ 1073741824) (hc : Cur w g A len cap T) (hT : T ≤ 1073741824) (hl : len ≤ 1099511627776) :
    Calls Try.prog 35 #[.pointer (some ⟨g, 0, none⟩), .int .i64 n] w (CurRet w g A len cap (T + 2) IsBool) := by
  have HP := Lib.hid (pick_any w g A len cap T n hn hc hT hl)
  clear hc
  go_enter Try.func35, Try.ntmps35
  go_wp2_with fail
  refine HP.out.mono ?_
  rintro e w1 ⟨v, rfl, ⟨x, rfl, hx1, hx2⟩, hcur, hg⟩
  have HCU := Lib.hid hcur
  have HG := Lib.hid hg
  clear hcur hg
  go_wp2
  go_ret
  exact ⟨_, rfl, ⟨_, rfl⟩, HCU.out, HG.out⟩
/-- n strings, each with P, lie in block h -/
def RowS (w : World) (h n : Nat) (P : ByteArray → Prop) : Prop := h < w.heap.size ∧ ∀ j, j < n → ∃ s, P s ∧ w.cell? ⟨h, j, none⟩ = some (.string s)
def StrP (P : ByteArray → Prop) (v : Value) : Prop := ∃ s, v = .string s ∧ P s
theorem grown_cell {w w' : World} {g h j : Nat} {v : Value} (hg : w.grownBy w' (some g)) (hh : h < w.heap.size) (hn : h ≠ g) (hc : w.cell? ⟨h, j, none⟩ = some v) : w'.cell? ⟨h, j, none⟩ = some v := by
  rw [← hc]
  unfold World.cell?
  rw [hg.block h hh (fun e => hn (by injection e))]
/-- n numbers, each with P, lie in block h -/
def RowI (w : World) (h n : Nat) (P : Int → Prop) : Prop := h < w.heap.size ∧ ∀ j, j < n → ∃ s, P s ∧ w.cell? ⟨h, j, none⟩ = some (.int .i64 s)
def IntP (P : Int → Prop) (v : Value) : Prop := ∃ s, v = .int .i64 s ∧ P s
set_option maxHeartbeats 1000000 in
theorem among_any (P : Int → Prop) (w : World) (g : Nat) (A : Option Addr) (len cap T h n c : Nat) (hn : 1 ≤ n ∧ n ≤ 1073741824) (hr : RowI w h n P) (hh : h ≠ g) (hc : Cur w g A len cap T) (hT : T ≤ 1073741824) (hl : len ≤ 1099511627776) :
    Calls Try.prog 14 #[.pointer (some ⟨g, 0, none⟩), .slice (some ⟨h, 0, none⟩) n c] w (CurRet w g A len cap (T + 2) (IntP P)) := by
  have HP := Lib.hid (pick_any w g A len cap T n (by omega) hc hT hl)
  have HR := Lib.hid hr
  clear hc hr
  go_enter Try.func14, Try.ntmps14
  go_wp2_with fail
  refine HP.out.mono ?_
  rintro e w1 ⟨v, rfl, ⟨x, rfl, hx1, hx2⟩, hcur, hg⟩
  obtain ⟨k, rfl⟩ : ∃ k : Nat, x = (k : Int) := ⟨x.toNat, by omega⟩
  obtain ⟨s, hs, e1⟩ := HR.out.2 k (by omega)
  have e2 := grown_cell hg HR.out.1 hh e1
  have HCU := Lib.hid hcur
  have HG := Lib.hid hg
  have HS := Lib.hid hs
  clear hcur hg e1 hs
  go_wp2
  go_ret
  exact ⟨_, rfl, ⟨s, rfl, HS.out⟩, HCU.out, HG.out⟩
end Go.Proofs.Ythgblfldncidnaa
