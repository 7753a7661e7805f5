/- Pack 17 of what FnPathsReflected needs: Cur, Cur2. -/
import Derived.Test.YtachijliaedndaaKFnPathsReflected16
import Derived.Deep.QuietTactic
import Derived.BigQuiet
import Derived.Deep.RegionHeld3
import Derived.Laws.Bits64b
/- The cursor of the laws' draws: next, pick. Only how far its answers go is said. -/
namespace Go.Proofs.Ytachijliaedndaa
open Go.RowKit
/-- len bytes lie from A on, all below block g -/
def CodeAt (w : World) (g : Nat) (A : Option Addr) (len : Nat) : Prop := ∀ j, j < len → ∃ (a : Addr) (x : Nat), A = some a ∧ a.block < g ∧ x ≤ 255 ∧ w.cell? (a.add j) = some (.int .u8 (x : Nat))
/-- block g holds a cursor over the code A, len, cap; it has come to T at most -/
structure Cur (w : World) (g : Nat) (A : Option Addr) (len cap T : Nat) : Prop where
  code : CodeAt w g A len
  c0 : w.cell? ⟨g, 0, none⟩ = some (.slice A len cap)
  c1 : ∃ a : Nat, a ≤ T ∧ w.cell? ⟨g, 1, none⟩ = some (.int .i64 (a : Nat))
  c2 : ∃ z : Int, 0 ≤ z ∧ z < 18446744073709551616 ∧ w.cell? ⟨g, 2, none⟩ = some (.int .u64 z)
  free : ∀ j, w.frozen? ⟨g, j, none⟩ = false
  lt : g < w.heap.size
/-- the world at hand is named, and what is said of it -/
theorem wp_name {P : Program} {c : Code} {Q : Exit → Act → World → Prop} {a : Act} {w : World} (S : World → Prop) (h : S w) (k : ∀ W, S W → c.wp P Q a W) : c.wp P Q a w := k w h
theorem add_block (a : Addr) (j : Nat) : (a.add j).block = a.block := by unfold Addr.add; split <;> rfl
theorem CodeAt.kept {w w' : World} {g : Nat} {A : Option Addr} {len : Nat} (h : CodeAt w g A len) (hg : w.grownBy w' (some g)) (hl : g < w.heap.size) : CodeAt w' g A len := fun j hj => by
  obtain ⟨a, x, h1, h2, h3, h4⟩ := h j hj
  refine ⟨a, x, h1, h2, h3, ?_⟩
  rw [← h4]
  have hb := add_block a j
  unfold World.cell?
  rw [hb, hg.block a.block (by omega) (fun e => by injection e with e; omega)]
theorem Cur.drewN {w : World} {g : Nat} {A : Option Addr} {len cap T : Nat} (h : Cur w g A len cap T) (n : Nat) : Cur (w.drewN n) g A len cap T := ⟨h.code, h.c0, h.c1, h.c2, h.free, h.lt⟩
theorem grown_drewN {w w' : World} {r : Option Nat} (h : w.grownBy w' r) (n : Nat) : w.grownBy (w'.drewN n) r := ⟨h.os, h.tape, h.output, h.size, h.block⟩
theorem and255 (z : Int) (h1 : 0 ≤ z) (h2 : z < 18446744073709551616) : 0 ≤ wrap64 (bits BinOp.and IntKind.u64 (z / 1099511627776) 255) ∧ wrap64 (bits BinOp.and IntKind.u64 (z / 1099511627776) 255) ≤ 255 := by
  obtain ⟨n, hn⟩ : ∃ n : Nat, z / 1099511627776 = (n : Int) := ⟨(z / 1099511627776).toNat, by omega⟩
  rw [hn]
  have := bits_and_u64_nat n 255 (by omega) (by omega)
  have e : (255 : Int) = ((255 : Nat) : Int) := rfl
  rw [e, this]
  have hle : n &&& 255 ≤ 255 := Nat.and_le_right
  generalize n &&& 255 = m at *
  have hw : wrap64 ((m : Nat) : Int) = (m : Int) := by unfold wrap64; omega
  rw [hw]
  omega
/-- where the cursor stands behind a step -/
def CurS (w : World) (g : Nat) (A : Option Addr) (len cap T a : Nat) (W : World) : Prop :=
  W.cell? ⟨g, 0, none⟩ = some (.slice A len cap) ∧ W.cell? ⟨g, 1, none⟩ = some (.int .i64 ((a : Int) + 1)) ∧
  (∃ z : Int, 0 ≤ z ∧ z < 18446744073709551616 ∧ W.cell? ⟨g, 2, none⟩ = some (.int .u64 z)) ∧ Cur W g A len cap (T + 1) ∧ w.grownBy W (some g)
theorem u64_bd (y : Int) : 0 ≤ IntKind.u64.wrap y ∧ IntKind.u64.wrap y < 18446744073709551616 := by
  rw [IntKind.wrap_u64]; omega
theorem grown_setCell {w w' : World} {g : Nat} (h : w.grownBy w' (some g)) (j : Nat) (v : Value) : w.grownBy (w'.setCell ⟨g, j, none⟩ v) (some g) :=
  ⟨h.os.trans (by simp), h.tape.trans (by simp), h.output.trans (by simp), by have := h.size; simpa using this, fun k hk hn => by
    rw [← h.block k hk hn]
    exact Below.heap_setCell _ _ _ _ (by intro e; exact hn (by rw [e]))⟩
theorem CurS.intro {w : World} {g : Nat} {A : Option Addr} {len cap T : Nat} (h : Cur w g A len cap T) {a : Nat} (ha : a ≤ T) (m : Nat) (y : Int) :
    CurS w g A len cap T a (((w.drewN m).setCell ⟨g, 1, none⟩ (.int .i64 ((a : Int) + 1))).setCell ⟨g, 2, none⟩ (.int .u64 (IntKind.u64.wrap y))) := by
  obtain ⟨a1, _, c1⟩ := h.c1
  obtain ⟨z, _, _, c2⟩ := h.c2
  have hg : w.grownBy (((w.drewN m).setCell ⟨g, 1, none⟩ (.int .i64 ((a : Int) + 1))).setCell ⟨g, 2, none⟩ (.int .u64 (IntKind.u64.wrap y))) (some g) :=
    grown_setCell (grown_setCell (w := w) (w' := w.drewN m) ⟨rfl, rfl, rfl, Nat.le_refl _, fun _ _ _ => rfl⟩ _ _) _ _
  have d0 : (((w.drewN m).setCell ⟨g, 1, none⟩ (.int .i64 ((a : Int) + 1))).setCell ⟨g, 2, none⟩ (.int .u64 (IntKind.u64.wrap y))).cell? ⟨g, 0, none⟩ = some (.slice A len cap) := by
    rw [World.cell?_setCell_other _ _ _ _ (by simp), World.cell?_setCell_other _ _ _ _ (by simp)]; exact h.c0
  have d1 : (((w.drewN m).setCell ⟨g, 1, none⟩ (.int .i64 ((a : Int) + 1))).setCell ⟨g, 2, none⟩ (.int .u64 (IntKind.u64.wrap y))).cell? ⟨g, 1, none⟩ = some (.int .i64 ((a : Int) + 1)) := by
    rw [World.cell?_setCell_other _ _ _ _ (by simp)]
    exact World.cell?_setCell_same _ _ _ (u := .int .i64 (a1 : Nat)) c1
  have d2 : (((w.drewN m).setCell ⟨g, 1, none⟩ (.int .i64 ((a : Int) + 1))).setCell ⟨g, 2, none⟩ (.int .u64 (IntKind.u64.wrap y))).cell? ⟨g, 2, none⟩ = some (.int .u64 (IntKind.u64.wrap y)) := by
    refine World.cell?_setCell_same _ _ _ (u := .int .u64 z) ?_
    rw [World.cell?_setCell_other _ _ _ _ (by simp)]
    exact c2
  have hb := u64_bd y
  refine ⟨d0, d1, ⟨_, hb.1, hb.2, d2⟩, ⟨h.code.kept hg h.lt, d0, ⟨a + 1, by omega, d1⟩, ⟨_, hb.1, hb.2, d2⟩, fun j => by simpa using h.free j, by have := h.lt; simpa using this⟩, hg⟩
set_option maxRecDepth 100000 in
set_option maxHeartbeats 1000000 in
theorem next_any (w : World) (g : Nat) (A : Option Addr) (len cap T : Nat) (hc : Cur w g A len cap T) (hT : T ≤ 1099511627776) (hl : len ≤ 1099511627776) :
    Calls Try.prog 244 #[.pointer (some ⟨g, 0, none⟩)] w fun e w' => ∃ x : Int, e = .returned (.int .i64 x) ∧ 0 ≤ x ∧ x ≤ 255 ∧ Cur w' g A len cap (T + 1) ∧ w.grownBy w' (some g) := by
  obtain ⟨a, ha, c1⟩ := hc.c1
  obtain ⟨z, hz1, hz2, c2⟩ := hc.c2
  have c0 := hc.c0
  have f0 := hc.free 0
  have f1 := hc.free 1
  have f2 := hc.free 2
  have HC := Lib.hid hc
  clear hc
  by_cases hlt : a < len
  · obtain ⟨A, x, rfl, hb, hx, hx0⟩ := HC.out.code a hlt
    have i1 : (a : Int) < (len : Int) := by omega
    go_enter Try.func244, Try.ntmps244
    go_wp2
    go_quiet (fail)
    go_wp2
    go_quiet (fail)
    go_wp2
    refine wp_name (CurS w g (some A) len cap T a) (CurS.intro HC.out ha _ _) ?_
    rintro W ⟨d0, d1, ⟨zz, hzz1, hzz2, d2⟩, hcur, hgr⟩
    clear c0 c1 c2 f0 f1 f2 hz1 hz2 hx0
    have i2 : (a : Int) + 1 ≤ (len : Int) := by omega
    go_quiet (fail)
    go_wp2
    go_ret
    exact ⟨_, rfl, by omega, by omega, hcur.drewN _, grown_drewN hgr _⟩
  · have d1 : decide ((a : Int) < (len : Int)) = false := decide_eq_false (by omega)
    go_enter Try.func244, Try.ntmps244
    go_wp2
    go_quiet (fail)
    go_wp2
    refine wp_name (CurS w g A len cap T a) (CurS.intro HC.out ha _ _) ?_
    rintro W ⟨d0, d1, ⟨zz, hzz1, hzz2, d2⟩, hcur, hgr⟩
    clear c0 c1 c2 f0 f1 f2 hz1 hz2
    have i2 : decide ((a : Int) + 1 ≤ (len : Int)) = false := decide_eq_false (by omega)
    go_quiet (fail)
    go_wp2
    go_ret
    exact ⟨_, rfl, (and255 zz hzz1 hzz2).1, (and255 zz hzz1 hzz2).2, hcur.drewN _, grown_drewN hgr _⟩
end Go.Proofs.Ytachijliaedndaa

/- The cursor of the laws' draws: pick, one, of, among, path. -/
namespace Go.Proofs.Ytachijliaedndaa
open Go.RowKit
theorem Cur.mono {w : World} {g : Nat} {A : Option Addr} {len cap T T' : Nat} (h : Cur w g A len cap T) (hT : T ≤ T') : Cur w g A len cap T' :=
  ⟨h.code, h.c0, by obtain ⟨a, h1, h2⟩ := h.c1; exact ⟨a, Nat.le_trans h1 hT, h2⟩, h.c2, h.free, h.lt⟩
theorem Cur.alloc {w : World} {g : Nat} {A : Option Addr} {len cap T : Nat} (h : Cur w g A len cap T) (o : Obj) : Cur (w.alloc o) g A len cap T := by
  have hl := h.lt
  refine ⟨fun j hj => ?_, ?_, ?_, ?_, ?_, by simp; omega⟩
  · obtain ⟨a, x, h1, h2, h3, h4⟩ := h.code j hj
    exact ⟨a, x, h1, h2, h3, by rw [World.cell?_alloc_lt _ _ _ (by rw [add_block]; omega)]; exact h4⟩
  · rw [World.cell?_alloc_lt _ _ _ hl]; exact h.c0
  · obtain ⟨a, h1, h2⟩ := h.c1
    exact ⟨a, h1, by rw [World.cell?_alloc_lt _ _ _ hl]; exact h2⟩
  · obtain ⟨z, h1, h2, h3⟩ := h.c2
    exact ⟨z, h1, h2, by rw [World.cell?_alloc_lt _ _ _ hl]; exact h3⟩
  · intro j
    rw [World.frozen?_alloc_past _ _ _ hl]; exact h.free j
/-- an answer of the cursor: what is handed back, how far it has come, nothing else turned -/
def CurRet (w : World) (g : Nat) (A : Option Addr) (len cap T : Nat) (R : Value → Prop) (e : Ending) (w' : World) : Prop :=
  ∃ v, e = .returned v ∧ R v ∧ Cur w' g A len cap T ∧ w.grownBy w' (some g)
def IntTo (n : Int) (v : Value) : Prop := ∃ x : Int, v = .int .i64 x ∧ 0 ≤ x ∧ x < n
set_option maxHeartbeats 1000000 in
theorem pick_any (w : World) (g : Nat) (A : Option Addr) (len cap T : Nat) (n : Int) (hn : 1 ≤ n ∧ n ≤ 1073741824) (hc : Cur w g A len cap T) (hT : T ≤ 1073741824) (hl : len ≤ 1099511627776) :
    Calls Try.prog 154 #[.pointer (some ⟨g, 0, none⟩), .int .i64 n] w (CurRet w g A len cap (T + 2) (IntTo n)) := by
  by_cases h1 : n ≤ 1
  · obtain rfl : n = 1 := by omega
    go_enter Try.func154, Try.ntmps154
    go_wp2
    go_ret
    exact ⟨_, rfl, ⟨0, rfl, by omega, by omega⟩, hc.mono (by omega), grown_refl' _ _⟩
  · have HN : Hid (∀ (w : World) T, Cur w g A len cap T → T ≤ 1099511627776 → Calls Try.prog 244 #[.pointer (some ⟨g, 0, none⟩)] w fun e w' => ∃ x : Int, e = .returned (.int .i64 x) ∧ 0 ≤ x ∧ x ≤ 255 ∧ Cur w' g A len cap (T + 1) ∧ w.grownBy w' (some g)) := Lib.hid fun w T h1 h2 => next_any w g A len cap T h1 h2 hl
    have HC := Lib.hid hc
    clear hc
    by_cases h2 : n ≤ 200
    · have d1 : decide (n ≤ 1) = false := decide_eq_false h1
      go_enter Try.func154, Try.ntmps154
      go_wp2_with fail
      refine (HN.out _ _ HC.out (by omega)).mono ?_
      rintro e w1 ⟨x, rfl, hx1, hx2, hcur, hg⟩
      have HCU := Lib.hid hcur
      have HG := Lib.hid hg
      clear hcur hg
      go_wp2
      go_ret
      exact ⟨_, rfl, ⟨_, rfl, Int.emod_nonneg _ (by omega), Int.emod_lt_of_pos _ (by omega)⟩, HCU.out.mono (by omega), HG.out⟩
    · have d1 : decide (n ≤ 1) = false := decide_eq_false h1
      go_enter Try.func154, Try.ntmps154
      go_wp2_with fail
      refine (HN.out _ _ HC.out (by omega)).mono ?_
      rintro e w1 ⟨x, rfl, hx1, hx2, hcur, hg⟩
      have HCU := Lib.hid hcur
      have HG := Lib.hid hg
      clear hcur hg
      go_wp2_with fail
      refine (HN.out _ _ HCU.out (by omega)).mono ?_
      rintro e w2 ⟨y, rfl, hy1, hy2, hcur, hg⟩
      have HCU2 := Lib.hid hcur
      have HG2 := Lib.hid hg
      clear hcur hg
      go_wp2
      go_ret
      exact ⟨_, rfl, ⟨_, rfl, Int.emod_nonneg _ (by omega), Int.emod_lt_of_pos _ (by omega)⟩, HCU2.out, grown_trans' HG.out HG2.out⟩
def IsBool (v : Value) : Prop := ∃ b, v = .bool b
set_option maxHeartbeats 1000000 in
theorem one_any (w : World) (g : Nat) (A : Option Addr) (len cap T : Nat) (n : Int) (hn : 1 ≤ n ∧ n ≤ 1073741824) (hc : Cur w g A len cap T) (hT : T ≤ 1073741824) (hl : len ≤ 1099511627776) :
    Calls Try.prog 152 #[.pointer (some ⟨g, 0, none⟩), .int .i64 n] w (CurRet w g A len cap (T + 2) IsBool) := by
  have HP := Lib.hid (pick_any w g A len cap T n hn hc hT hl)
  clear hc
  go_enter Try.func152, Try.ntmps152
  go_wp2_with fail
  refine HP.out.mono ?_
  rintro e w1 ⟨v, rfl, ⟨x, rfl, hx1, hx2⟩, hcur, hg⟩
  have HCU := Lib.hid hcur
  have HG := Lib.hid hg
  clear hcur hg
  go_wp2
  go_ret
  exact ⟨_, rfl, ⟨_, rfl⟩, HCU.out, HG.out⟩
/-- n strings, each with P, lie in block h -/
def RowS (w : World) (h n : Nat) (P : ByteArray → Prop) : Prop := h < w.heap.size ∧ ∀ j, j < n → ∃ s, P s ∧ w.cell? ⟨h, j, none⟩ = some (.string s)
def StrP (P : ByteArray → Prop) (v : Value) : Prop := ∃ s, v = .string s ∧ P s
theorem grown_cell {w w' : World} {g h j : Nat} {v : Value} (hg : w.grownBy w' (some g)) (hh : h < w.heap.size) (hn : h ≠ g) (hc : w.cell? ⟨h, j, none⟩ = some v) : w'.cell? ⟨h, j, none⟩ = some v := by
  rw [← hc]
  unfold World.cell?
  rw [hg.block h hh (fun e => hn (by injection e))]
set_option maxHeartbeats 1000000 in
theorem of_any (P : ByteArray → Prop) (w : World) (g : Nat) (A : Option Addr) (len cap T h n c : Nat) (hn : 1 ≤ n ∧ n ≤ 1073741824) (hr : RowS w h n P) (hh : h ≠ g) (hc : Cur w g A len cap T) (hT : T ≤ 1073741824) (hl : len ≤ 1099511627776) :
    Calls Try.prog 155 #[.pointer (some ⟨g, 0, none⟩), .slice (some ⟨h, 0, none⟩) n c] w (CurRet w g A len cap (T + 2) (StrP P)) := by
  have HP := Lib.hid (pick_any w g A len cap T n (by omega) hc hT hl)
  have HR := Lib.hid hr
  clear hc hr
  go_enter Try.func155, Try.ntmps155
  go_wp2_with fail
  refine HP.out.mono ?_
  rintro e w1 ⟨v, rfl, ⟨x, rfl, hx1, hx2⟩, hcur, hg⟩
  obtain ⟨k, rfl⟩ : ∃ k : Nat, x = (k : Int) := ⟨x.toNat, by omega⟩
  obtain ⟨s, hs, e1⟩ := HR.out.2 k (by omega)
  have e2 := grown_cell hg HR.out.1 hh e1
  have HCU := Lib.hid hcur
  have HG := Lib.hid hg
  have HS := Lib.hid hs
  clear hcur hg e1 hs
  go_wp2
  go_ret
  exact ⟨_, rfl, ⟨s, rfl, HS.out⟩, HCU.out, HG.out⟩
/-- n numbers, each with P, lie in block h -/
def RowI (w : World) (h n : Nat) (P : Int → Prop) : Prop := h < w.heap.size ∧ ∀ j, j < n → ∃ s, P s ∧ w.cell? ⟨h, j, none⟩ = some (.int .i64 s)
def IntP (P : Int → Prop) (v : Value) : Prop := ∃ s, v = .int .i64 s ∧ P s
set_option maxHeartbeats 1000000 in
theorem among_any (P : Int → Prop) (w : World) (g : Nat) (A : Option Addr) (len cap T h n c : Nat) (hn : 1 ≤ n ∧ n ≤ 1073741824) (hr : RowI w h n P) (hh : h ≠ g) (hc : Cur w g A len cap T) (hT : T ≤ 1073741824) (hl : len ≤ 1099511627776) :
    Calls Try.prog 181 #[.pointer (some ⟨g, 0, none⟩), .slice (some ⟨h, 0, none⟩) n c] w (CurRet w g A len cap (T + 2) (IntP P)) := by
  have HP := Lib.hid (pick_any w g A len cap T n (by omega) hc hT hl)
  have HR := Lib.hid hr
  clear hc hr
  go_enter Try.func181, Try.ntmps181
  go_wp2_with fail
  refine HP.out.mono ?_
  rintro e w1 ⟨v, rfl, ⟨x, rfl, hx1, hx2⟩, hcur, hg⟩
  obtain ⟨k, rfl⟩ : ∃ k : Nat, x = (k : Int) := ⟨x.toNat, by omega⟩
  obtain ⟨s, hs, e1⟩ := HR.out.2 k (by omega)
  have e2 := grown_cell hg HR.out.1 hh e1
  have HCU := Lib.hid hcur
  have HG := Lib.hid hg
  have HS := Lib.hid hs
  clear hcur hg e1 hs
  go_wp2
  go_ret
  exact ⟨_, rfl, ⟨s, rfl, HS.out⟩, HCU.out, HG.out⟩
end Go.Proofs.Ytachijliaedndaa
