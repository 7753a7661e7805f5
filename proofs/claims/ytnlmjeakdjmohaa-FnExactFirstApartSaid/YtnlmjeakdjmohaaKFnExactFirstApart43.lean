/- Pack 43 of what FnExactFirstApart needs: CExt, FsS2. -/
import Derived.Test.YtnlmjeakdjmohaaKFnExactFirstApart42
import Derived.Laws.OwnMore
/- append of what another slice of cells holds. -/
namespace Go.Proofs.Ytnlmjeakdjmohaa
open Go.RowKit
set_option linter.unusedVariables false
theorem run_app_noneC {P : Program} (w : World) (base : Nat) (t ty e : TypeId) (i : TypeInfo) (size : Nat) (ht : P.underlying t = some (.slice e)) (hi : P.info? e = some i)
    (v : Value) (n c : Nat) (xs : List Value) (hown : w.ownsRow base e size v n xs) :
    (Builtin.append_ #[t, t] ty #[v, .slice none 0 c]).run P w = .ok v w := by
  rcases hown.2 with ⟨rfl, rfl⟩ | ⟨g, cap, cur, rfl, _, _, hnc, _⟩
  · simp [Builtin.append_, run_underlying ht, sizeOf, typeInfo, hi, Builtin.lenOf, Builtin.firstCells]
  · simp [Builtin.append_, run_underlying ht, sizeOf, typeInfo, hi, Builtin.lenOf, Builtin.firstCells, hnc, storeCells]
set_option maxRecDepth 100000 in
theorem run_extendC (w : World) (ty : TypeId) (B : Nat) (v u : Value) (n m : Nat) (xs ys : List Int) (hown : CRow w B v n xs) (hr : RCels w u m ys) (hy : ys.length = m * 2) (hlen : n + m ≤ 1048576) (hB : B ≤ w.heap.size) :
    ∃ v' w', (Builtin.append_ #[27, 27] ty #[v, u]).run Try.prog w = .ok v' w' ∧ CRow w' B v' (n + m) (xs ++ ys) ∧ w.grownBy w' v.ownBlock ∧ (v'.ownBlock = v.ownBlock ∨ ∃ g, v'.ownBlock = some g ∧ w.heap.size ≤ g) := by
  obtain ⟨i0, hi, hz0, hz1, hz2⟩ := info_parts celInfo
  obtain ⟨A, c, rfl⟩ := hr.shape
  cases A with
  | none =>
    have h0 : m = 0 := by
      rcases Nat.eq_zero_or_pos m with h | h
      · exact h
      · obtain ⟨g, o, c', hv, _⟩ := hr.cells h
        cases hv
    subst h0
    rw [List.eq_nil_of_length_eq_zero (show ys.length = 0 by omega), List.append_nil]
    exact ⟨v, w, run_app_noneC w B 27 ty 39 i0 2 Try.underlying27 hi v n c (xs.map (Value.int .i64)) hown.1, hown, ⟨rfl, rfl, rfl, Nat.le_refl _, fun _ _ _ => rfl⟩, .inl rfl⟩
  | some ad =>
    obtain ⟨v', w', hr2, h2, h3, h4, h5⟩ := run_append_own_at (P := Try.prog) w B 27 ty 39 i0 (.agg #[.int .i64 0, .int .i64 0]) 2 16 Try.underlying27 hi hz0 hz1 hz2 rfl (by decide) v n (xs.map (Value.int .i64)) hown.1
      ad m c (ys.map (Value.int .i64)) (by simp [hy]) (by
        intro j y hj
        rw [List.getElem?_map] at hj
        rcases Nat.lt_or_ge j ys.length with hlt | hge
        · obtain ⟨g, o, cc, hv, _, hc⟩ := hr.cells (by omega)
          injection hv with hv
          injection hv with hv
          subst hv
          have e := hc j (by omega)
          rw [List.getD_eq_getElem?_getD] at e
          rw [List.getElem?_eq_getElem hlt] at hj e
          injection hj with hj
          subst hj
          have e2 : (⟨g, o, none⟩ : Addr).add j = ⟨g, o + j, none⟩ := by unfold Addr.add; split <;> simp_all
          rw [e2]
          exact e
        · rw [List.getElem?_eq_none hge] at hj
          cases hj) (by
        intro y hy
        rw [List.mem_map] at hy
        obtain ⟨n, _, rfl⟩ := hy
        rfl) (by unfold maxLen; omega) (by omega) hB
    refine ⟨v', w', hr2, ⟨?_, by rw [List.length_append, hown.2, hy]; omega⟩, h3, ?_⟩
    · rw [List.map_append]
      exact h2
    · rcases h5 with h5 | h5
      · exact .inl h5
      · exact .inr ⟨_, h5, Nat.le_refl _⟩
theorem wpList_extendC {ops : Array Oper} {rest : List Oper} {o : Oper} {a : Act} {Q : Exit → Act → World → Prop} {w : World} (s x : Operand) (hgd : o.guard = none)
    (ho : o.op = .call { callee := .builtin .append, args := #[s, x], argTypes := #[27, 27] })
    (B : Nat) (v u : Value) (n m : Nat) (xs ys : List Int) (hs : a.eval s = v) (hown : CRow w B v n xs) (hx : a.eval x = u) (hr : RCels w u m ys) (hy : ys.length = m * 2)
    (hlen : n + m ≤ 1048576) (hB : B ≤ w.heap.size)
    (h : ∀ v' w', CRow w' B v' (n + m) (xs ++ ys) → w.grownBy w' v.ownBlock → (v'.ownBlock = v.ownBlock ∨ ∃ g, v'.ownBlock = some g ∧ w.heap.size ≤ g) → wpList Try.prog ops Q rest (a.put o.dst v') w') :
    wpList Try.prog ops Q (o :: rest) a w := by
  refine wpList_plain hgd fun K hK => ?_
  obtain ⟨v', w', hr, h2, h3, h4⟩ := run_extendC w o.type B v u n m xs ys hown hr hy hlen hB
  unfold Oper.wp execOp
  simp only [ho, resolve, invoke, builtin, Sem.run_bind, Sem.run_pure, Result.andThen_ok, List.map_toArray, List.map_cons, List.map_nil, hs, hx, hr]
  exact hK _ _ (h v' w' h2 h3 h4)
end Go.Proofs.Ytnlmjeakdjmohaa

/- The model's FirstApart. -/
namespace Go.Proofs.Ytnlmjeakdjmohaa
open Go.RowKit
set_option linter.unusedVariables false
def e_fs8 (g1 o1 p1 g2 o2 p2 n nT k : Nat) (A5 : Option Addr) (p5 : Nat) (V9 : Value) (x y u v X0 Y0 : Int) (S0 : ByteArray) (bk : Bool) : Nat → Value
  | 0 => .agg #[.int .i64 x, .int .i64 y]
  | 1 => .slice (some ⟨g2, o2, none⟩) n p2
  | 2 => .int .i64 (k : Int)
  | 3 => .pointer (some ⟨g2, o2 + k * 2, none⟩)
  | 4 => .agg #[.int .i64 u, .int .i64 v]
  | 5 => .slice A5 nT p5
  | 6 => .slice (some ⟨g1, o1, none⟩) n p1
  | 7 => .int .i64 (k : Int)
  | 8 => .int .i64 ((k : Int) + 1)
  | 9 => V9
  | 10 => .tuple #[.agg #[.int .i64 X0, .int .i64 Y0, .string S0], .bool bk]
  | 11 => .tuple #[.agg #[.int .i64 X0, .int .i64 Y0, .string S0], .bool bk]
  | 12 => .agg #[.int .i64 X0, .int .i64 Y0, .string S0]
  | 13 => .bool bk
  | 16 => .bool bk
  | _ => undef
def v_fs8 (j : Nat) : Bool := ([true, true, true, true, true, true, true, true, true, true, true, true, true, true, false, false, true] : List Bool).getD j false
def t0_fs8 (g1 o1 p1 g2 o2 p2 n nT k : Nat) (A5 : Option Addr) (p5 : Nat) (V9 : Value) (x y u v X0 Y0 : Int) (S0 : ByteArray) (bk : Bool) : BoxG := ⟨14, 15, false, fun b => .pointer (some ⟨b, 0, none⟩), 56, [.int .i64 0, .int .i64 0, .string ⟨#[]⟩], [.int .i64 X0, .int .i64 Y0, .string S0]⟩
def b_fs8 (g1 o1 p1 g2 o2 p2 n nT k : Nat) (A5 : Option Addr) (p5 : Nat) (V9 : Value) (x y u v X0 Y0 : Int) (S0 : ByteArray) (bk : Bool) : List BoxG := [t0_fs8 g1 o1 p1 g2 o2 p2 n nT k A5 p5 V9 x y u v X0 Y0 S0 bk]
theorem m0_fs8 (g1 o1 p1 g2 o2 p2 n nT k : Nat) (A5 : Option Addr) (p5 : Nat) (V9 : Value) (x y u v X0 Y0 : Int) (S0 : ByteArray) (bk : Bool) : t0_fs8 g1 o1 p1 g2 o2 p2 n nT k A5 p5 V9 x y u v X0 Y0 S0 bk ∈ b_fs8 g1 o1 p1 g2 o2 p2 n nT k A5 p5 V9 x y u v X0 Y0 S0 bk := by simp [b_fs8]
theorem ok_fs8 (g1 o1 p1 g2 o2 p2 n nT k : Nat) (A5 : Option Addr) (p5 : Nat) (V9 : Value) (x y u v X0 Y0 : Int) (S0 : ByteArray) (bk : Bool) : OkG v_fs8 (b_fs8 g1 o1 p1 g2 o2 p2 n nT k A5 p5 V9 x y u v X0 Y0 S0 bk) := by
  refine ⟨?_, ?_, ?_, ?_, ?_, ?_⟩ <;> simp [b_fs8, v_fs8, t0_fs8]
theorem drop_getD (xs : List Int) (a j : Nat) : (xs.drop a).getD j 0 = xs.getD (a + j) 0 := by rw [List.getD_eq_getElem?_getD, List.getElem?_drop, List.getD_eq_getElem?_getD]
def fsO (n : Nat) (xs : List Int) (m : Nat) (ys : List Int) : Option (List Wy) := if askC n xs m ys = true then fmR (celF xs) (celF ys) n n 0 (hasF 0 []) [] else none
structure FsS (w : World) (o t : Value) (k : Nat) (L : List Wy) (nT : Nat) (ts : List Int) (X : World) : Prop where
  r : WRow X w.heap.size o L
  p : CRow X w.heap.size t nT ts
  ll : L.length = k
  lt : ts.length = nT * 2
  le : nT ≤ k * 25
  sep : ∀ q, o.ownBlock = some q → t.ownBlock ≠ some q
  bl : Below w.heap.size w X
theorem FsS.kept {w X X' : World} {o t : Value} {k : Nat} {L : List Wy} {nT : Nat} {ts : List Int} (h : FsS w o t k L nT ts X) (hb : Below X.heap.size X X') : FsS w o t k L nT ts X' :=
  ⟨h.r.below hb, h.p.below hb, h.ll, h.lt, h.le, h.sep, h.bl.trans (hb.mono h.bl.size)⟩
/-- behind the append of the cells: the way's copy in a block of its own -/
def FsM (w w' : World) (o v' : Value) (L : List Wy) (x y : Int) (sx : ByteArray) : Prop :=
  WRow (w'.alloc (.cells #[.int .i64 x, .int .i64 y, .string sx] 56)) w.heap.size o L ∧ (w'.alloc (.cells #[.int .i64 x, .int .i64 y, .string sx] 56)).cell? ⟨w'.heap.size, 0, none⟩ = some (.int .i64 x) ∧ (w'.alloc (.cells #[.int .i64 x, .int .i64 y, .string sx] 56)).cell? ⟨w'.heap.size, 1, none⟩ = some (.int .i64 y) ∧ (w'.alloc (.cells #[.int .i64 x, .int .i64 y, .string sx] 56)).cell? ⟨w'.heap.size, 2, none⟩ = some (.string sx) ∧ Below w.heap.size w (w'.alloc (.cells #[.int .i64 x, .int .i64 y, .string sx] 56)) ∧ ∀ q, v'.ownBlock = some q → o.ownBlock ≠ some q
theorem crow_apart {w w' : World} {B n : Nat} {v : Value} {xs : List Int} {r : Option Nat} (h : CRow w B v n xs) (hg : w.grownBy w' r) (hne : ∀ k, v.ownBlock = some k → some k ≠ r) : CRow w' B v n xs :=
  ⟨World.ownsRow.kept h.1 hg (by
    cases e : v.ownBlock with
    | none => exact .inl rfl
    | some k => exact .inr (hne k e)), h.2⟩
theorem fs_mid {w wr w3 w' : World} {A4 A5 : Option Addr} {c4 p5 k nT b0 : Nat} {L : List Wy} {ts : List Int} {x y : Int} {sx : ByteArray} {v' : Value} {nm : Nat} {ms : List Int}
    (h3 : FsS w (.slice A4 k c4) (.slice A5 nT p5) k L nT ts w3) (hA : FsS w (.slice A4 k c4) (.slice A5 nT p5) k L nT ts wr) (hlo : wr.heap.size ≤ b0) (hhi : b0 < w3.heap.size)
    (c0 : w3.cell? ⟨b0, 0, none⟩ = some (.int .i64 x)) (c1 : w3.cell? ⟨b0, 1, none⟩ = some (.int .i64 y)) (c2 : w3.cell? ⟨b0, 2, none⟩ = some (.string sx))
    (hr : CRow w' w.heap.size v' nm ms) (hg : w3.grownBy w' (Value.slice A5 nT p5).ownBlock) (hat : v'.ownBlock = (Value.slice A5 nT p5).ownBlock ∨ ∃ g, v'.ownBlock = some g ∧ w3.heap.size ≤ g) :
    w'.cell? ⟨b0, 0, none⟩ = some (.int .i64 x) ∧ w'.cell? ⟨b0, 1, none⟩ = some (.int .i64 y) ∧ w'.cell? ⟨b0, 2, none⟩ = some (.string sx) ∧
    FsM w w' (.slice A4 k c4) v' L x y sx := by
  have hne : some b0 ≠ (Value.slice A5 nT p5).ownBlock := fun e => by
    have := (hA.p.blk b0 e.symm).2
    omega
  have hro : WRow w' w.heap.size (.slice A4 k c4) L := h3.r.apart hg (fun q hq e2 => hA.sep q hq e2.symm)
  have hbw := h3.bl.grown hg h3.bl.size (fun q hq => (h3.p.blk q hq).1)
  have hal : Below w'.heap.size w' (w'.alloc (.cells #[.int .i64 x, .int .i64 y, .string sx] 56)) := (Below.refl _ _).alloc (Nat.le_refl _) _
  refine ⟨hg.cell c0 hne, hg.cell c1 hne, hg.cell c2 hne, hro.below hal, by simp [go_sem], by simp [go_sem], by simp [go_sem], hbw.trans (hal.mono hbw.size), fun q hq e2 => ?_⟩
  rcases hat with h | ⟨gq, h, hz2⟩
  · rw [h] at hq
    exact hA.sep q e2 hq
  · rw [h] at hq
    injection hq with hq
    have := (hA.r.blk q e2).2
    omega
theorem fs_end {w w' w2 : World} {o v' v2 : Value} {k nT m : Nat} {L : List Wy} {ts cs : List Int} {x y : Int} {sx : ByteArray} (h : FsM w w' o v' L x y sx) (hp : CRow w' w.heap.size v' (nT + m) (ts ++ cs)) (hl : L.length = k) (hlt : ts.length = nT * 2) (hle : nT ≤ k * 25) (hcx : cs.length = m * 2) (hsz : m ≤ 25)
    (hr : WRow w2 w.heap.size v2 (L ++ [(x, y, sx)])) (hg : (w'.alloc (.cells #[.int .i64 x, .int .i64 y, .string sx] 56)).grownBy w2 o.ownBlock) (hat : v2.ownBlock = o.ownBlock ∨ ∃ g, v2.ownBlock = some g ∧ (w'.alloc (.cells #[.int .i64 x, .int .i64 y, .string sx] 56)).heap.size ≤ g) :
    FsS w v2 v' (k + 1) (L ++ [(x, y, sx)]) (nT + m) (ts ++ cs) w2 := by
  have hal : Below w'.heap.size w' (w'.alloc (.cells #[.int .i64 x, .int .i64 y, .string sx] 56)) := (Below.refl _ _).alloc (Nat.le_refl _) _
  refine ⟨hr, crow_apart (hp.below hal) hg (fun q hq e2 => h.2.2.2.2.2 q hq e2.symm), by rw [List.length_append, hl]; rfl, by rw [List.length_append]; omega, by omega, fun q hq e2 => ?_, h.2.2.2.2.1.grown hg h.2.2.2.2.1.size (fun q hq => (h.1.blk q hq).1)⟩
  rcases hat with h1 | ⟨g, h1, hz⟩
  · rw [h1] at hq
    exact h.2.2.2.2.2 q e2 hq
  · rw [h1] at hq
    injection hq with hq
    have := (hp.blk q e2).2
    have := hal.size
    omega
theorem crow_room {w : World} {B n : Nat} {v : Value} {ts : List Int} (h : CRow w B v n ts) : RCels w v n ts := by
  refine CRow.rcels h (fun A k c e => ?_) (fun j hj => rfl)
  rcases h.1.2 with ⟨h1, h0⟩ | ⟨g, cap, cur, h1, _, _, h2, h3, _⟩
  · rw [h1] at e
    injection e with e1 e2 e3
    subst e2 e3
    exact ⟨Nat.le_refl _, by simp [maxLen]⟩
  · rw [h1] at e
    injection e with e1 e2 e3
    subst e2 e3
    exact ⟨h2, h3⟩
theorem lo_form (x y : Int) (r : Option (List UInt8)) : ∃ X0 Y0 S0, loW x y r = .agg #[.int .i64 X0, .int .i64 Y0, .string S0] ∧ ∀ p, r = some p → X0 = x ∧ Y0 = y ∧ S0 = txT p := by
  cases r with
  | none => exact ⟨0, 0, ⟨#[]⟩, rfl, fun p h => by cases h⟩
  | some p => exact ⟨x, y, txT p, rfl, fun q h => by injection h with h; subst h; exact ⟨rfl, rfl, rfl⟩⟩
set_option maxRecDepth 100000 in
set_option maxHeartbeats 8000000 in
theorem specFirstApart_ret (v1 v2 : Value) (n m : Nat) (xs ys : List Int) (w : World) (h1 : RCels w v1 n xs) (h2 : RCels w v2 m ys) (hn : n ≤ 1048576) (hm : m ≤ 1048576) :
    Calls Try.prog 22 #[v1, v2] w (WsRet w (fsO n xs m ys).isSome ((fsO n xs m ys).getD [])) := by
  have HCA := Lib.hid (ncAsked_any v1 v2 n m xs ys w h1 h2 hn hm)
  have H1 := Lib.hid h1
  have H2 := Lib.hid h2
  obtain ⟨A1, p1, rfl⟩ := h1.shape
  obtain ⟨A2, p2, rfl⟩ := h2.shape
  clear h1 h2
  rcases Bool.eq_false_or_eq_true (askC n xs m ys) with a1 | a1
  case inr =>
    have HO : Hid (fsO n xs m ys = none) := Lib.hid (by unfold fsO; rw [a1]; rfl)
    rw [HO.out]
    rw [a1] at HCA
    clear a1 HO
    go_enter Try.func22, Try.ntmps22
    go_wp2_with fail
    refine (HCA.out).mono ?_
    rintro e w1 ⟨rfl, hb1⟩
    have HB1 := Lib.hid hb1
    clear hb1
    go_wp2_with fail
    go_ret2
    exact ⟨.slice none 0 0, rfl, WRow.nil _ _, HB1.out⟩
  obtain ⟨O, hO⟩ : ∃ O, fsO n xs m ys = O := ⟨_, rfl⟩
  have HO : Hid (fmR (celF xs) (celF ys) n n 0 (hasF 0 []) [] = O) := Lib.hid (by rw [← hO]; unfold fsO; rw [if_pos a1])
  rw [hO]
  rw [a1] at HCA
  have hg : gdB n xs m ys = true := by
    unfold askC at a1
    rw [Bool.and_eq_true, Bool.and_eq_true, Bool.and_eq_true] at a1
    exact a1.1.1.1
  have HG0 := Lib.hid hg
  have emn : n = m := by
    unfold gdB at hg
    rw [Bool.and_eq_true, Bool.and_eq_true, beq_iff_eq] at hg
    exact hg.1.2.symm
  subst emn
  have HG : Hid (∀ i, i < n → cellB (xs.getD (i * 2) 0) (xs.getD (i * 2 + 1) 0) = true ∧ cellB (ys.getD (i * 2) 0) (ys.getD (i * 2 + 1) 0) = true) := Lib.hid fun i hi => by
    have := HG0.out
    unfold gdB gdC at this
    rw [Bool.and_eq_true, List.all_eq_true] at this
    have := this.2 i (List.mem_range.2 hi)
    rwa [Bool.and_eq_true] at this
  have hn4 : n ≤ 4 := by
    have := HG0.out
    unfold gdB at this
    rw [Bool.and_eq_true, Bool.and_eq_true] at this
    have := this.1.1
    unfold inBd at this
    simp at this
    omega
  clear a1 hg hO HG0
  go_enter Try.func22, Try.ntmps22
  go_wp2_with fail
  refine (HCA.out).mono ?_
  rintro e w1 ⟨rfl, hb1⟩
  have HB1 := Lib.hid hb1
  clear hb1
  go_wp2_with fail
  go_loopw [6, 7, 20] (fun o t i wr => ∃ (k : Nat) (L : List Wy) (nT : Nat) (ts : List Int), k ≤ n ∧ i = .int .i64 (k : Int) ∧ FsS w o t k L nT ts wr ∧ fmR (celF xs) (celF ys) n (n - k) k (hasF nT ts) L = O) (fun _ _ i _ => n - (intOf i).toNat)
  case atStart => exact ⟨0, [], 0, [], Nat.zero_le _, rfl, ⟨WRow.nil _ _, CRow.nil _ _, rfl, rfl, by omega, fun q h => (by cases h), HB1.out⟩, HO.out⟩
  case round =>
    obtain ⟨k, L, nT, ts, hk, rfl, hfa, hO⟩ := hrel
    obtain ⟨A4, c4, rfl⟩ := hfa.r.shape
    obtain ⟨A5, p5, rfl⟩ := hfa.p.shape
    have HFA := Lib.hid hfa
    have hll := hfa.ll
    have hle := hfa.le
    rw [hll] at hfa HFA ⊢
    clear hfa HO
    have HLL := Lib.hid hll
    clear hll
    by_cases hlt : k < n
    · have h1 := H1.out.below HFA.out.bl
      have h2 := H2.out.below HFA.out.bl
      have hrm := h1.room _ _ _ rfl
      have hrm2 := h2.room _ _ _ rfl
      obtain ⟨g1, o1, q1, hv, -, -⟩ := h1.cells (by omega)
      injection hv with hA _ hcc
      subst hA
      subst hcc
      obtain ⟨g2, o2, q2, hv, -, -⟩ := h2.cells (by omega)
      injection hv with hA _ hcc
      subst hA
      subst hcc
      have i1 : (k : Int) < (n : Int) := by omega
      have i2 : 0 ≤ (k : Int) := by omega
      have r0 := (h1.at hlt).1
      have r1 := (h1.at hlt).2
      by_cases hcap : p1 = k + 1
      · subst hcap
        have HXY : Hid (∀ X, Below (wr.alloc (.cells #[.int .i64 (xs.getD (k * 2) 0), .int .i64 (xs.getD (k * 2 + 1) 0)] 39)).heap.size (wr.alloc (.cells #[.int .i64 (xs.getD (k * 2) 0), .int .i64 (xs.getD (k * 2 + 1) 0)] 39)) X → X.cell? ⟨wr.heap.size, 0, none⟩ = some (.int .i64 (xs.getD (k * 2) 0)) ∧ X.cell? ⟨wr.heap.size, 1, none⟩ = some (.int .i64 (xs.getD (k * 2 + 1) 0))) := Lib.hid fun X hb => ⟨(hb.cell (p := ⟨wr.heap.size, 0, none⟩) (by simp)).trans (by simp [go_sem]), (hb.cell (p := ⟨wr.heap.size, 1, none⟩) (by simp)).trans (by simp [go_sem])⟩
        have hal : Below wr.heap.size wr (wr.alloc (.cells #[.int .i64 (xs.getD (k * 2) 0), .int .i64 (xs.getD (k * 2 + 1) 0)] 39)) := (Below.refl _ _).alloc (Nat.le_refl _) _
        have hcb := HG.out k hlt
        have HLO : Hid (∀ X, RCels X (.slice A5 nT p5) nT ts → RCels X (.slice (some ⟨g1, o1, none⟩) 0 0) 0 (xs.drop ((k + 1) * 2)) → Calls Try.prog 72 #[celV (xs.getD (k * 2) 0) (xs.getD (k * 2 + 1) 0), celV (ys.getD (k * 2) 0) (ys.getD (k * 2 + 1) 0), .slice A5 nT p5, (.slice (some ⟨g1, o1, none⟩) 0 0)] X (Ret X (.tuple #[loW (xs.getD (k * 2) 0) (xs.getD (k * 2 + 1) 0) (spF (fun a b => hasF nT ts a b || othB (celF xs) n k a b) (ys.getD (k * 2) 0) (ys.getD (k * 2 + 1) 0) 25 (xs.getD (k * 2) 0) (xs.getD (k * 2 + 1) 0)).head?, .bool (spF (fun a b => hasF nT ts a b || othB (celF xs) n k a b) (ys.getD (k * 2) 0) (ys.getD (k * 2 + 1) 0) 25 (xs.getD (k * 2) 0) (xs.getD (k * 2 + 1) 0)).head?.isSome]))) := Lib.hid fun X hu ho => by
          have ha := (cellB_iff _ _).1 hcb.1
          have hb := (cellB_iff _ _).1 hcb.2
          by_cases hd : xs.getD (k * 2) 0 ≤ ys.getD (k * 2) 0 + 1 ∧ xs.getD (k * 2 + 1) 0 ≤ ys.getD (k * 2 + 1) 0 + 1
          · have := ncLowest_any _ nT ts _ (n - (k + 1)) (xs.drop ((k + 1) * 2)) (by omega) (by omega) (ys.getD (k * 2) 0) (ys.getD (k * 2 + 1) 0) (by omega) (by omega) 25 (xs.getD (k * 2) 0) (xs.getD (k * 2 + 1) 0) X hu (by rw [show n - (k + 1) = 0 by omega]; exact ho) (by omega) (by omega) (by omega)
            rw [oth_has hlt] at this
            exact this
          · rw [spF_no (tk := fun a b => hasF nT ts a b || othB (celF xs) n k a b) (by omega)]
            exact ncLowest_no _ nT ts _ (n - (k + 1)) (xs.drop ((k + 1) * 2)) (by omega) (by omega) _ _ _ _ X hu (by rw [show n - (k + 1) = 0 by omega]; exact ho) (by omega) (by omega) (by omega) (by omega) (by omega)
        have hcl : g1 < wr.heap.size ∧ ∀ j, j < n * 2 → wr.cell? ⟨g1, o1 + j, none⟩ = some (.int .i64 (xs.getD j 0)) := by
          obtain ⟨g', o', c', hv, hg', hcc'⟩ := h1.cells (by omega)
          injection hv with e _ e3
          injection e with e
          injection e with e1 e2
          subst e1 e2
          exact ⟨hg', hcc'⟩
        have HOT : Hid (RCels (wr.alloc (.cells #[.int .i64 (xs.getD (k * 2) 0), .int .i64 (xs.getD (k * 2 + 1) 0)] 39)) (.slice (some ⟨g1, o1, none⟩) 0 0) 0 (xs.drop ((k + 1) * 2))) := Lib.hid ⟨⟨_, _, rfl⟩, fun A k' c' e => (by injection e with e1 e2 e3; subst e2 e3; omega), fun hz => absurd hz (by omega)⟩
        have HUS := Lib.hid ((crow_room HFA.out.p).below hal)
        have HC2 : Hid (∀ X, Below (wr.alloc (.cells #[.int .i64 (xs.getD (k * 2) 0), .int .i64 (xs.getD (k * 2 + 1) 0)] 39)).heap.size (wr.alloc (.cells #[.int .i64 (xs.getD (k * 2) 0), .int .i64 (xs.getD (k * 2 + 1) 0)] 39)) X → X.cell? ⟨g2, o2 + k * 2, none⟩ = some (.int .i64 (ys.getD (k * 2) 0)) ∧ X.cell? ⟨g2, o2 + k * 2 + 1, none⟩ = some (.int .i64 (ys.getD (k * 2 + 1) 0))) := Lib.hid fun X hb => ((h2.below hal).below hb).at hlt
        obtain ⟨X0, Y0, S0, hlo, hlo2⟩ := lo_form (xs.getD (k * 2) 0) (xs.getD (k * 2 + 1) 0) (spF (fun a b => hasF nT ts a b || othB (celF xs) n k a b) (ys.getD (k * 2) 0) (ys.getD (k * 2 + 1) 0) 25 (xs.getD (k * 2) 0) (xs.getD (k * 2 + 1) 0)).head?
        rw [hlo] at HLO
        obtain ⟨bk, hbk⟩ : ∃ bk, (spF (fun a b => hasF nT ts a b || othB (celF xs) n k a b) (ys.getD (k * 2) 0) (ys.getD (k * 2 + 1) 0) 25 (xs.getD (k * 2) 0) (xs.getD (k * 2 + 1) 0)).head?.isSome = bk := ⟨_, rfl⟩
        rw [hbk] at HLO
        have HCL := HLO
        obtain ⟨f, hf⟩ : ∃ f, n - k = f + 1 := ⟨n - k - 1, by omega⟩
        have HSOME : Hid (bk = true → ∃ s, X0 = xs.getD (k * 2) 0 ∧ Y0 = xs.getD (k * 2 + 1) 0 ∧ S0 = txT s ∧ wayB (xs.getD (k * 2) 0) (xs.getD (k * 2 + 1) 0) (txT s) = true ∧ enB s ∧ fmR (celF xs) (celF ys) n f (k + 1) (tkP (hasF nT ts) (xs.getD (k * 2) 0) (xs.getD (k * 2 + 1) 0) s) (L ++ [(xs.getD (k * 2) 0, xs.getD (k * 2 + 1) 0, txT s)]) = O) := Lib.hid (by
          intro h
          rw [← hbk, Option.isSome_iff_exists] at h
          obtain ⟨s, hs⟩ := h
          obtain ⟨e1, e2, e3⟩ := hlo2 s hs
          rw [hf] at hO
          exact ⟨s, e1, e2, e3, sp_way hs hcb.1 hcb.2, sp_en hs, by rw [← hO, fmR_some hs]; rfl⟩)
        have HNONE : Hid (bk = false → O = none) := Lib.hid (by
          intro h
          rw [← hbk, Option.isSome_eq_false_iff, Option.isNone_iff_eq_none] at h
          rw [hf] at hO
          rw [← hO, fmR_none h])
        have HFF : Hid (n - (k + 1) = f) := Lib.hid (by omega)
        clear hO hlo hlo2 hbk hcb HLO hal hf HG hcl
        generalize xs.getD (k * 2) 0 = x at *
        generalize xs.getD (k * 2 + 1) 0 = y at *
        generalize ys.getD (k * 2) 0 = u at *
        generalize ys.getD (k * 2 + 1) 0 = v at *
        obtain ⟨wa, hwa⟩ : ∃ wa, wa = wr.alloc (.cells #[.int .i64 x, .int .i64 y] 39) := ⟨_, rfl⟩
        rw [← hwa] at HXY HOT HUS HC2
        have HWA := Lib.hid hwa
        have HAW : Hid (Below wr.heap.size wr wa) := Lib.hid (by rw [hwa]; exact (Below.refl _ _).alloc (Nat.le_refl _) _)
        clear hwa h1 h2
        have i5 : (k : Int) + 1 ≤ (n : Int) := by omega
        have kk := IntWalk.i64_in ((k : Int) + 1) (by omega)
        have t9 : ((k : Int) + 1).toNat = k + 1 := by omega
        have i6 : (n : Int) ≤ ((k + 1) : Int) := by omega
        go_wp2_with fail
        rw [← HWA.out]
        have HRG0 : ∀ (ac : Act) (ww : World), ∃ (uu : Nat → Value) (bb : Nat → Nat), ac = ((((((((((((((((ac.put (some 26) (uu 0)).put (some 27) (uu 1)).put (some 28) (uu 2)).put (some 29) (uu 3)).put (some 30) (uu 4)).put (some 31) (uu 5)).put (some 32) (uu 6)).put (some 33) (uu 7)).put (some 34) (uu 8)).put (some 35) (uu 9)).put (some 36) (uu 10)).put (some 25) (uu 11)).put (some 37) (uu 12)).put (some 38) (uu 13)).put (some 10) (uu 14)).put (some 11) (uu 16)) ∧ RG ww (e_fs8 g1 o1 (k + 1) g2 o2 p2 n nT k A5 p5 (.slice (some ⟨g1, o1, none⟩) 0 0) x y u v X0 Y0 S0 bk) v_fs8 (b_fs8 g1 o1 (k + 1) g2 o2 p2 n nT k A5 p5 (.slice (some ⟨g1, o1, none⟩) 0 0) x y u v X0 Y0 S0 bk) (fun _ => false) ww.drew uu bb := fun ac ww => ⟨fun j => ac.tmps.getD (([26, 27, 28, 29, 30, 31, 32, 33, 34, 35, 36, 25, 37, 38, 10, 0, 11] : List Nat).getD j 0) undef, fun _ => 0, (by show ac = ((((((((((((((((ac.put (some 26) (ac.tmps.getD 26 undef)).put (some 27) (ac.tmps.getD 27 undef)).put (some 28) (ac.tmps.getD 28 undef)).put (some 29) (ac.tmps.getD 29 undef)).put (some 30) (ac.tmps.getD 30 undef)).put (some 31) (ac.tmps.getD 31 undef)).put (some 32) (ac.tmps.getD 32 undef)).put (some 33) (ac.tmps.getD 33 undef)).put (some 34) (ac.tmps.getD 34 undef)).put (some 35) (ac.tmps.getD 35 undef)).put (some 36) (ac.tmps.getD 36 undef)).put (some 25) (ac.tmps.getD 25 undef)).put (some 37) (ac.tmps.getD 37 undef)).put (some 38) (ac.tmps.getD 38 undef)).put (some 10) (ac.tmps.getD 10 undef)).put (some 11) (ac.tmps.getD 11 undef)); simp only [put_same]), RG.start _ _⟩
        refine wp_region_inv3 (fun a0 LL ac W => ∃ (uu : Nat → Value) (bb : Nat → Nat), ac = ((((((((((((((((a0.put (some 26) (uu 0)).put (some 27) (uu 1)).put (some 28) (uu 2)).put (some 29) (uu 3)).put (some 30) (uu 4)).put (some 31) (uu 5)).put (some 32) (uu 6)).put (some 33) (uu 7)).put (some 34) (uu 8)).put (some 35) (uu 9)).put (some 36) (uu 10)).put (some 25) (uu 11)).put (some 37) (uu 12)).put (some 38) (uu 13)).put (some 10) (uu 14)).put (some 11) (uu 16)) ∧ RG wa (e_fs8 g1 o1 (k + 1) g2 o2 p2 n nT k A5 p5 (.slice (some ⟨g1, o1, none⟩) 0 0) x y u v X0 Y0 S0 bk) v_fs8 (b_fs8 g1 o1 (k + 1) g2 o2 p2 n nT k A5 p5 (.slice (some ⟨g1, o1, none⟩) 0 0) x y u v X0 Y0 S0 bk) LL W uu bb) (by kernel_rfl) (by kernel_rfl) (HRG0 _ _) ?_ ?_
        · rintro jj op hop LL a' WW ⟨uu, bb, rfl, hF⟩ hL hdep
          clear HRG0
          match jj, hop with
          | 0, hop =>
            simp at hop; subst hop
            refine wpOp_run rfl rfl ?_
            simp only [Act.put, List.setIfInBounds_toArray, List.set_cons_succ, List.set_cons_zero]
            have r0 := HXY.out WW hF.below
            have r1 := r0.2
            have r0 := r0.1
            go_simp
            refine ⟨_, ?_, _, hF.setv (ok_fs8 g1 o1 (k + 1) g2 o2 p2 n nT k A5 p5 (.slice (some ⟨g1, o1, none⟩) 0 0) x y u v X0 Y0 S0 bk) 0 rfl (.agg #[.int .i64 x, .int .i64 y]) rfl⟩
            simp [upg]
          | 1, hop =>
            simp at hop; subst hop
            refine wpOp_run rfl rfl ?_
            simp only [Act.put, List.setIfInBounds_toArray, List.set_cons_succ, List.set_cons_zero]
            go_simp
            refine ⟨_, ?_, _, hF.setv (ok_fs8 g1 o1 (k + 1) g2 o2 p2 n nT k A5 p5 (.slice (some ⟨g1, o1, none⟩) 0 0) x y u v X0 Y0 S0 bk) 1 rfl (.slice (some ⟨g2, o2, none⟩) n p2) rfl⟩
            simp [upg]
          | 2, hop =>
            simp at hop; subst hop
            refine wpOp_run rfl rfl ?_
            simp only [Act.put, List.setIfInBounds_toArray, List.set_cons_succ, List.set_cons_zero]
            go_simp
            refine ⟨_, ?_, _, hF.setv (ok_fs8 g1 o1 (k + 1) g2 o2 p2 n nT k A5 p5 (.slice (some ⟨g1, o1, none⟩) 0 0) x y u v X0 Y0 S0 bk) 2 rfl (.int .i64 (k : Int)) rfl⟩
            simp [upg]
          | 3, hop =>
            simp at hop; subst hop
            refine wpOp_run rfl rfl ?_
            simp only [Act.put, List.setIfInBounds_toArray, List.set_cons_succ, List.set_cons_zero]
            have e1 : uu 1 = .slice (some ⟨g2, o2, none⟩) n p2 := hF.val 1 rfl (hdep ⟨1, .data⟩ (by simp) rfl)
            have e2 : uu 2 = .int .i64 (k : Int) := hF.val 2 rfl (hdep ⟨2, .data⟩ (by simp) rfl)
            simp only [e1, e2]
            go_simp
            refine ⟨_, ?_, _, hF.setv (ok_fs8 g1 o1 (k + 1) g2 o2 p2 n nT k A5 p5 (.slice (some ⟨g1, o1, none⟩) 0 0) x y u v X0 Y0 S0 bk) 3 rfl (.pointer (some ⟨g2, o2 + k * 2, none⟩)) rfl⟩
            simp [upg, e1, e2]
          | 4, hop =>
            simp at hop; subst hop
            refine wpOp_run rfl rfl ?_
            simp only [Act.put, List.setIfInBounds_toArray, List.set_cons_succ, List.set_cons_zero]
            have e3 : uu 3 = .pointer (some ⟨g2, o2 + k * 2, none⟩) := hF.val 3 rfl (hdep ⟨3, .data⟩ (by simp) rfl)
            simp only [e3]
            have r0 := HC2.out WW hF.below
            have r1 := r0.2
            have r0 := r0.1
            go_simp
            refine ⟨_, ?_, _, hF.setv (ok_fs8 g1 o1 (k + 1) g2 o2 p2 n nT k A5 p5 (.slice (some ⟨g1, o1, none⟩) 0 0) x y u v X0 Y0 S0 bk) 4 rfl (.agg #[.int .i64 u, .int .i64 v]) rfl⟩
            simp [upg, e3]
          | 5, hop =>
            simp at hop; subst hop
            refine wpOp_run rfl rfl ?_
            simp only [Act.put, List.setIfInBounds_toArray, List.set_cons_succ, List.set_cons_zero]
            go_simp
            refine ⟨_, ?_, _, hF.setv (ok_fs8 g1 o1 (k + 1) g2 o2 p2 n nT k A5 p5 (.slice (some ⟨g1, o1, none⟩) 0 0) x y u v X0 Y0 S0 bk) 5 rfl (.slice A5 nT p5) rfl⟩
            simp [upg]
          | 6, hop =>
            simp at hop; subst hop
            refine wpOp_run rfl rfl ?_
            simp only [Act.put, List.setIfInBounds_toArray, List.set_cons_succ, List.set_cons_zero]
            go_simp
            refine ⟨_, ?_, _, hF.setv (ok_fs8 g1 o1 (k + 1) g2 o2 p2 n nT k A5 p5 (.slice (some ⟨g1, o1, none⟩) 0 0) x y u v X0 Y0 S0 bk) 6 rfl (.slice (some ⟨g1, o1, none⟩) n (k + 1)) rfl⟩
            simp [upg]
          | 7, hop =>
            simp at hop; subst hop
            refine wpOp_run rfl rfl ?_
            simp only [Act.put, List.setIfInBounds_toArray, List.set_cons_succ, List.set_cons_zero]
            go_simp
            refine ⟨_, ?_, _, hF.setv (ok_fs8 g1 o1 (k + 1) g2 o2 p2 n nT k A5 p5 (.slice (some ⟨g1, o1, none⟩) 0 0) x y u v X0 Y0 S0 bk) 7 rfl (.int .i64 (k : Int)) rfl⟩
            simp [upg]
          | 8, hop =>
            simp at hop; subst hop
            refine wpOp_run rfl rfl ?_
            simp only [Act.put, List.setIfInBounds_toArray, List.set_cons_succ, List.set_cons_zero]
            have e7 : uu 7 = .int .i64 (k : Int) := hF.val 7 rfl (hdep ⟨7, .data⟩ (by simp) rfl)
            simp only [e7]
            go_simp
            refine ⟨_, ?_, _, hF.setv (ok_fs8 g1 o1 (k + 1) g2 o2 p2 n nT k A5 p5 (.slice (some ⟨g1, o1, none⟩) 0 0) x y u v X0 Y0 S0 bk) 8 rfl (.int .i64 ((k : Int) + 1)) rfl⟩
            simp [upg, e7]
          | 9, hop =>
            simp at hop; subst hop
            refine wpOp_run rfl rfl ?_
            simp only [Act.put, List.setIfInBounds_toArray, List.set_cons_succ, List.set_cons_zero]
            have e6 : uu 6 = .slice (some ⟨g1, o1, none⟩) n (k + 1) := hF.val 6 rfl (hdep ⟨6, .data⟩ (by simp) rfl)
            have e8 : uu 8 = .int .i64 ((k : Int) + 1) := hF.val 8 rfl (hdep ⟨8, .data⟩ (by simp) rfl)
            simp only [e6, e8]
            go_simp
            refine ⟨_, ?_, _, hF.setv (ok_fs8 g1 o1 (k + 1) g2 o2 p2 n nT k A5 p5 (.slice (some ⟨g1, o1, none⟩) 0 0) x y u v X0 Y0 S0 bk) 9 rfl ((.slice (some ⟨g1, o1, none⟩) 0 0)) rfl⟩
            simp [upg, e6, e8, Act.put]
          | 10, hop =>
            simp at hop; subst hop
            refine wpOp_run rfl rfl ?_
            simp only [Act.put, List.setIfInBounds_toArray, List.set_cons_succ, List.set_cons_zero]
            have e0 : uu 0 = .agg #[.int .i64 x, .int .i64 y] := hF.val 0 rfl (hdep ⟨0, .data⟩ (by simp) rfl)
            have e4 : uu 4 = .agg #[.int .i64 u, .int .i64 v] := hF.val 4 rfl (hdep ⟨4, .data⟩ (by simp) rfl)
            have e5 : uu 5 = .slice A5 nT p5 := hF.val 5 rfl (hdep ⟨5, .data⟩ (by simp) rfl)
            have e9 : uu 9 = (.slice (some ⟨g1, o1, none⟩) 0 0) := hF.val 9 rfl (hdep ⟨9, .data⟩ (by simp) rfl)
            simp only [e0, e4, e5, e9]
            go_simp
            go_at_call 72
            refine (HCL.out _ (HUS.out.below hF.below) (HOT.out.below hF.below)).mono ?_
            rintro en w' ⟨rfl, hbC⟩
            refine ⟨_, ?_, _, (hF.kept hbC).setv (ok_fs8 g1 o1 (k + 1) g2 o2 p2 n nT k A5 p5 (.slice (some ⟨g1, o1, none⟩) 0 0) x y u v X0 Y0 S0 bk) 10 rfl (.tuple #[.agg #[.int .i64 X0, .int .i64 Y0, .string S0], .bool bk]) rfl⟩
            simp [upg, e0, e4, e5, e9]
          | 11, hop =>
            simp at hop; subst hop
            refine wpOp_run rfl rfl ?_
            simp only [Act.put, List.setIfInBounds_toArray, List.set_cons_succ, List.set_cons_zero]
            have e10 : uu 10 = .tuple #[.agg #[.int .i64 X0, .int .i64 Y0, .string S0], .bool bk] := hF.val 10 rfl (hdep ⟨10, .data⟩ (by simp) rfl)
            simp only [e10]
            go_simp
            refine ⟨_, ?_, _, hF.setv (ok_fs8 g1 o1 (k + 1) g2 o2 p2 n nT k A5 p5 (.slice (some ⟨g1, o1, none⟩) 0 0) x y u v X0 Y0 S0 bk) 11 rfl (.tuple #[.agg #[.int .i64 X0, .int .i64 Y0, .string S0], .bool bk]) rfl⟩
            simp [upg, e10]
          | 12, hop =>
            simp at hop; subst hop
            refine wpOp_run rfl rfl ?_
            simp only [Act.put, List.setIfInBounds_toArray, List.set_cons_succ, List.set_cons_zero]
            have e11 : uu 11 = .tuple #[.agg #[.int .i64 X0, .int .i64 Y0, .string S0], .bool bk] := hF.val 11 rfl (hdep ⟨11, .data⟩ (by simp) rfl)
            simp only [e11]
            go_simp
            refine ⟨_, ?_, _, hF.setv (ok_fs8 g1 o1 (k + 1) g2 o2 p2 n nT k A5 p5 (.slice (some ⟨g1, o1, none⟩) 0 0) x y u v X0 Y0 S0 bk) 12 rfl (.agg #[.int .i64 X0, .int .i64 Y0, .string S0]) rfl⟩
            simp [upg, e11]
          | 13, hop =>
            simp at hop; subst hop
            refine wpOp_run rfl rfl ?_
            simp only [Act.put, List.setIfInBounds_toArray, List.set_cons_succ, List.set_cons_zero]
            have e11 : uu 11 = .tuple #[.agg #[.int .i64 X0, .int .i64 Y0, .string S0], .bool bk] := hF.val 11 rfl (hdep ⟨11, .data⟩ (by simp) rfl)
            simp only [e11]
            go_simp
            refine ⟨_, ?_, _, hF.setv (ok_fs8 g1 o1 (k + 1) g2 o2 p2 n nT k A5 p5 (.slice (some ⟨g1, o1, none⟩) 0 0) x y u v X0 Y0 S0 bk) 13 rfl (.bool bk) rfl⟩
            simp [upg, e11]
          | 14, hop =>
            simp at hop; subst hop
            refine wpOp_run rfl rfl ?_
            simp only [Act.put, List.setIfInBounds_toArray, List.set_cons_succ, List.set_cons_zero]
            have HAL := hF.alloc (ok_fs8 g1 o1 (k + 1) g2 o2 p2 n nT k A5 p5 (.slice (some ⟨g1, o1, none⟩) 0 0) x y u v X0 Y0 S0 bk) (t0_fs8 g1 o1 (k + 1) g2 o2 p2 n nT k A5 p5 (.slice (some ⟨g1, o1, none⟩) 0 0) x y u v X0 Y0 S0 bk) (m0_fs8 g1 o1 (k + 1) g2 o2 p2 n nT k A5 p5 (.slice (some ⟨g1, o1, none⟩) 0 0) x y u v X0 Y0 S0 bk) hL
            simp only [t0_fs8] at HAL
            go_simp
            refine ⟨_, ?_, _, HAL⟩
            simp [upg]
          | 15, hop =>
            simp at hop; subst hop
            refine wpOp_run rfl rfl ?_
            simp only [Act.put, List.setIfInBounds_toArray, List.set_cons_succ, List.set_cons_zero]
            have e12 : uu 12 = .agg #[.int .i64 X0, .int .i64 Y0, .string S0] := hF.val 12 rfl (hdep ⟨12, .data⟩ (by simp) rfl)
            have dp := hdep ⟨14, .data⟩ (by simp) rfl
            obtain ⟨ep, k2, k3, k4, _⟩ := hF.box (t0_fs8 g1 o1 (k + 1) g2 o2 p2 n nT k A5 p5 (.slice (some ⟨g1, o1, none⟩) 0 0) x y u v X0 Y0 S0 bk) (m0_fs8 g1 o1 (k + 1) g2 o2 p2 n nT k A5 p5 (.slice (some ⟨g1, o1, none⟩) 0 0) x y u v X0 Y0 S0 bk) dp
            have HST := hF.store (ok_fs8 g1 o1 (k + 1) g2 o2 p2 n nT k A5 p5 (.slice (some ⟨g1, o1, none⟩) 0 0) x y u v X0 Y0 S0 bk) (t0_fs8 g1 o1 (k + 1) g2 o2 p2 n nT k A5 p5 (.slice (some ⟨g1, o1, none⟩) 0 0) x y u v X0 Y0 S0 bk) (m0_fs8 g1 o1 (k + 1) g2 o2 p2 n nT k A5 p5 (.slice (some ⟨g1, o1, none⟩) 0 0) x y u v X0 Y0 S0 bk) rfl dp hL
            simp only [t0_fs8, hL, Bool.false_eq_true, and_false, if_false] at k4
            have s0 := k4 0 _ rfl
            have sc0 := s0.1; have sf0 := s0.2; clear s0
            have s1 := k4 1 _ rfl
            have sc1 := s1.1; have sf1 := s1.2; clear s1
            have s2 := k4 2 _ rfl
            have sc2 := s2.1; have sf2 := s2.2; clear s2
            simp only [RG.setN, t0_fs8, Nat.zero_add] at HST ep
            simp only [e12, ep]
            clear hF k4 k2 k3 dp
            go_simp
            refine ⟨_, ?_, _, HST⟩
            simp [e12, ep]
          | 16, hop =>
            simp at hop; subst hop
            refine wpOp_run rfl rfl ?_
            simp only [Act.put, List.setIfInBounds_toArray, List.set_cons_succ, List.set_cons_zero]
            have e13 : uu 13 = .bool bk := hF.val 13 rfl (hdep ⟨13, .data⟩ (by simp) rfl)
            simp only [e13]
            go_simp
            refine ⟨_, ?_, _, hF.setv (ok_fs8 g1 o1 (k + 1) g2 o2 p2 n nT k A5 p5 (.slice (some ⟨g1, o1, none⟩) 0 0) x y u v X0 Y0 S0 bk) 16 rfl (.bool bk) rfl⟩
            simp [upg, e13]
          | jj + 17, hop => simp at hop
        · rintro LL a' WW hall ⟨uu, bb, rfl, hF⟩
          clear HRG0
          have e0 : uu 0 = .agg #[.int .i64 x, .int .i64 y] := hF.val 0 rfl (hall 0 (by simp))
          have e1 : uu 1 = .slice (some ⟨g2, o2, none⟩) n p2 := hF.val 1 rfl (hall 1 (by simp))
          have e2 : uu 2 = .int .i64 (k : Int) := hF.val 2 rfl (hall 2 (by simp))
          have e3 : uu 3 = .pointer (some ⟨g2, o2 + k * 2, none⟩) := hF.val 3 rfl (hall 3 (by simp))
          have e4 : uu 4 = .agg #[.int .i64 u, .int .i64 v] := hF.val 4 rfl (hall 4 (by simp))
          have e5 : uu 5 = .slice A5 nT p5 := hF.val 5 rfl (hall 5 (by simp))
          have e6 : uu 6 = .slice (some ⟨g1, o1, none⟩) n (k + 1) := hF.val 6 rfl (hall 6 (by simp))
          have e7 : uu 7 = .int .i64 (k : Int) := hF.val 7 rfl (hall 7 (by simp))
          have e8 : uu 8 = .int .i64 ((k : Int) + 1) := hF.val 8 rfl (hall 8 (by simp))
          have e9 : uu 9 = (.slice (some ⟨g1, o1, none⟩) 0 0) := hF.val 9 rfl (hall 9 (by simp))
          have e10 : uu 10 = .tuple #[.agg #[.int .i64 X0, .int .i64 Y0, .string S0], .bool bk] := hF.val 10 rfl (hall 10 (by simp))
          have e11 : uu 11 = .tuple #[.agg #[.int .i64 X0, .int .i64 Y0, .string S0], .bool bk] := hF.val 11 rfl (hall 11 (by simp))
          have e12 : uu 12 = .agg #[.int .i64 X0, .int .i64 Y0, .string S0] := hF.val 12 rfl (hall 12 (by simp))
          have e13 : uu 13 = .bool bk := hF.val 13 rfl (hall 13 (by simp))
          have e16 : uu 16 = .bool bk := hF.val 16 rfl (hall 16 (by simp))
          obtain ⟨ep0, lo0, hi0, q0, _⟩ := hF.box (t0_fs8 g1 o1 (k + 1) g2 o2 p2 n nT k A5 p5 (.slice (some ⟨g1, o1, none⟩) 0 0) x y u v X0 Y0 S0 bk) (m0_fs8 g1 o1 (k + 1) g2 o2 p2 n nT k A5 p5 (.slice (some ⟨g1, o1, none⟩) 0 0) x y u v X0 Y0 S0 bk) (hall 14 (by simp))
          simp only [t0_fs8, show LL 15 = true from hall 15 (by simp), and_self, if_true] at q0
          simp only [t0_fs8] at ep0 lo0 hi0
          have bc00 := (q0 0 _ rfl).1
          have bc01 := (q0 1 _ rfl).1
          have bc02 := (q0 2 _ rfl).1
          clear q0
          have HBL := Lib.hid hF.below
          clear hF hall
          simp only [Act.put, List.setIfInBounds_toArray, List.set_cons_succ, List.set_cons_zero]
          simp only [e0, e1, e2, e3, e4, e5, e6, e7, e8, e9, e10, e11, e12, e13, e16, ep0]
          clear e0 e1 e2 e3 e4 e5 e6 e7 e8 e9 e10 e11 e12 e13 e16 ep0
          generalize bb 14 = b0 at *
          have HF2 := Lib.hid (HFA.out.kept (HAW.out.trans (HBL.out.mono HAW.out.size)))
          cases bk with
          | false =>
            have HN := Lib.hid (HNONE.out rfl)
            go_wp2_with fail
            go_ret2
            exact ⟨.slice none 0 0, by rw [HN.out]; rfl, by rw [HN.out]; exact WRow.nil _ _, HF2.out.bl⟩
          | true =>
            obtain ⟨s, e1, e2, e3, hway, hen, hfin⟩ := HSOME.out rfl
            subst e3
            subst e1 e2
            have hsz : (txT s).size + 1 ≤ 25 := by have := (wayB_of hway).2.1; omega
            have HPS : Hid (∀ X, Calls Try.prog 73 #[wayV X0 Y0 (txT s)] X (CsRet X true ((txT s).size + 1) (clF (txT s) X0 Y0 (txT s).size))) := Lib.hid fun X => by
              have := ncCells_any X0 Y0 (txT s) X (by unfold maxLen; omega)
              unfold ncN ncX at this
              rw [if_pos hway, if_pos hway] at this
              have e : wayB X0 Y0 (txT s) = true := hway
              rw [e] at this
              exact this
            have HCX : Hid ((clF (txT s) X0 Y0 (txT s).size).length = ((txT s).size + 1) * 2) := Lib.hid (clF_len _ _ _ _)
            have HON : Hid (fmR (celF xs) (celF ys) n f (k + 1) (hasF (nT + ((txT s).size + 1)) (ts ++ clF (txT s) X0 Y0 (txT s).size)) (L ++ [(X0, Y0, txT s)]) = O) := Lib.hid (by rw [tk_step HFA.out.lt hen]; exact hfin)
            have HLO : Hid (wr.heap.size ≤ b0) := Lib.hid (Nat.le_trans HAW.out.size lo0)
            clear hway hen hfin HSOME HNONE HCL HC2 HUS HOT HXY
            generalize clF (txT s) X0 Y0 (txT s).size = cs at *
            generalize txT s = sx at *
            go_wp2_with fail
            refine (HPS.out _).mono ?_
            rintro e w3 ⟨v5, rfl, hp5, hb5⟩
            obtain ⟨A6, c6, rfl⟩ := hp5.shape
            have HP5 := Lib.hid hp5
            have HF3 := Lib.hid (HF2.out.kept hb5)
            have HHI : Hid (b0 < w3.heap.size) := Lib.hid (Nat.lt_of_lt_of_le hi0 hb5.size)
            have HB0 := Lib.hid ((hb5.cell (p := ⟨b0, 0, none⟩) hi0).trans bc00)
            have HB1 := Lib.hid ((hb5.cell (p := ⟨b0, 1, none⟩) hi0).trans bc01)
            have HB2 := Lib.hid ((hb5.cell (p := ⟨b0, 2, none⟩) hi0).trans bc02)
            clear hp5 hb5 bc00 bc01 bc02 lo0 hi0
            go_wp2_with (first | (at_builtin; refine wpList_extendC (.tmp 46) (.tmp 47) rfl rfl w.heap.size _ _ nT (sx.size + 1) ts cs rfl HF3.out.p rfl (crow_room HP5.out) HCX.out (by omega) HF3.out.bl.size ?_; intro v' w' hr' hg' hat'; have hx6 := fs_mid HF3.out HFA.out HLO.out HHI.out HB0.out HB1.out HB2.out hr' hg' hat'; obtain ⟨d0, d1, d2, hx7⟩ := hx6; have HX7 := Lib.hid hx7; have HP6 := Lib.hid hr'; clear hr' hg' hat' hx7) | (at_builtin; refine wpList_pushW X0 Y0 sx (.tmp 49) (.tmp 51) rfl rfl w.heap.size _ L rfl (HX7.out.1) _ rfl HX7.out.2.1 HX7.out.2.2.1 HX7.out.2.2.2.1 (by rw [HLL.out]; omega) HX7.out.2.2.2.2.1.size ?_; intro v2' w2' hr2' hg2' hat2'))
            have hfin := fs_end HX7.out HP6.out HLL.out HFA.out.lt HFA.out.le HCX.out hsz hr2' hg2' hat2'
            have HFIN := Lib.hid hfin
            clear hfin hr2' hg2' hat2'
            go_wp2_with fail
            go_roundw
            case rel => exact ⟨k + 1, L ++ [(X0, Y0, sx)], nT + (sx.size + 1), ts ++ cs, by omega, by go_num, HFIN.out, by rw [HFF.out]; exact HON.out⟩
            case measure => first | (simp [intOf]; done) | (simp [intOf]; omega)
      have HXY : Hid (∀ X, Below (wr.alloc (.cells #[.int .i64 (xs.getD (k * 2) 0), .int .i64 (xs.getD (k * 2 + 1) 0)] 39)).heap.size (wr.alloc (.cells #[.int .i64 (xs.getD (k * 2) 0), .int .i64 (xs.getD (k * 2 + 1) 0)] 39)) X → X.cell? ⟨wr.heap.size, 0, none⟩ = some (.int .i64 (xs.getD (k * 2) 0)) ∧ X.cell? ⟨wr.heap.size, 1, none⟩ = some (.int .i64 (xs.getD (k * 2 + 1) 0))) := Lib.hid fun X hb => ⟨(hb.cell (p := ⟨wr.heap.size, 0, none⟩) (by simp)).trans (by simp [go_sem]), (hb.cell (p := ⟨wr.heap.size, 1, none⟩) (by simp)).trans (by simp [go_sem])⟩
      have hal : Below wr.heap.size wr (wr.alloc (.cells #[.int .i64 (xs.getD (k * 2) 0), .int .i64 (xs.getD (k * 2 + 1) 0)] 39)) := (Below.refl _ _).alloc (Nat.le_refl _) _
      have hcb := HG.out k hlt
      have HLO : Hid (∀ X, RCels X (.slice A5 nT p5) nT ts → RCels X (.slice (some ⟨g1, o1 + (k + 1) * 2, none⟩) (n - (k + 1)) (p1 - (k + 1))) (n - (k + 1)) (xs.drop ((k + 1) * 2)) → Calls Try.prog 72 #[celV (xs.getD (k * 2) 0) (xs.getD (k * 2 + 1) 0), celV (ys.getD (k * 2) 0) (ys.getD (k * 2 + 1) 0), .slice A5 nT p5, (.slice (some ⟨g1, o1 + (k + 1) * 2, none⟩) (n - (k + 1)) (p1 - (k + 1)))] X (Ret X (.tuple #[loW (xs.getD (k * 2) 0) (xs.getD (k * 2 + 1) 0) (spF (fun a b => hasF nT ts a b || othB (celF xs) n k a b) (ys.getD (k * 2) 0) (ys.getD (k * 2 + 1) 0) 25 (xs.getD (k * 2) 0) (xs.getD (k * 2 + 1) 0)).head?, .bool (spF (fun a b => hasF nT ts a b || othB (celF xs) n k a b) (ys.getD (k * 2) 0) (ys.getD (k * 2 + 1) 0) 25 (xs.getD (k * 2) 0) (xs.getD (k * 2 + 1) 0)).head?.isSome]))) := Lib.hid fun X hu ho => by
        have ha := (cellB_iff _ _).1 hcb.1
        have hb := (cellB_iff _ _).1 hcb.2
        by_cases hd : xs.getD (k * 2) 0 ≤ ys.getD (k * 2) 0 + 1 ∧ xs.getD (k * 2 + 1) 0 ≤ ys.getD (k * 2 + 1) 0 + 1
        · have := ncLowest_any _ nT ts _ (n - (k + 1)) (xs.drop ((k + 1) * 2)) (by omega) (by omega) (ys.getD (k * 2) 0) (ys.getD (k * 2 + 1) 0) (by omega) (by omega) 25 (xs.getD (k * 2) 0) (xs.getD (k * 2 + 1) 0) X hu ho (by omega) (by omega) (by omega)
          rw [oth_has hlt] at this
          exact this
        · rw [spF_no (tk := fun a b => hasF nT ts a b || othB (celF xs) n k a b) (by omega)]
          exact ncLowest_no _ nT ts _ (n - (k + 1)) (xs.drop ((k + 1) * 2)) (by omega) (by omega) _ _ _ _ X hu ho (by omega) (by omega) (by omega) (by omega) (by omega)
      have hcl : g1 < wr.heap.size ∧ ∀ j, j < n * 2 → wr.cell? ⟨g1, o1 + j, none⟩ = some (.int .i64 (xs.getD j 0)) := by
        obtain ⟨g', o', c', hv, hg', hcc'⟩ := h1.cells (by omega)
        injection hv with e _ e3
        injection e with e
        injection e with e1 e2
        subst e1 e2
        exact ⟨hg', hcc'⟩
      have HOT : Hid (RCels (wr.alloc (.cells #[.int .i64 (xs.getD (k * 2) 0), .int .i64 (xs.getD (k * 2 + 1) 0)] 39)) (.slice (some ⟨g1, o1 + (k + 1) * 2, none⟩) (n - (k + 1)) (p1 - (k + 1))) (n - (k + 1)) (xs.drop ((k + 1) * 2))) := Lib.hid ⟨⟨_, _, rfl⟩, fun A k' c' e => (by injection e with e1 e2 e3; subst e2 e3; omega), fun hz => ⟨g1, o1 + (k + 1) * 2, p1 - (k + 1), rfl, Nat.lt_of_lt_of_le hcl.1 hal.size, fun j hj => by rw [drop_getD, ← hcl.2 ((k + 1) * 2 + j) (by omega), Nat.add_assoc]; exact hal.cell (p := ⟨g1, o1 + ((k + 1) * 2 + j), none⟩) hcl.1⟩⟩
      have HUS := Lib.hid ((crow_room HFA.out.p).below hal)
      have HC2 : Hid (∀ X, Below (wr.alloc (.cells #[.int .i64 (xs.getD (k * 2) 0), .int .i64 (xs.getD (k * 2 + 1) 0)] 39)).heap.size (wr.alloc (.cells #[.int .i64 (xs.getD (k * 2) 0), .int .i64 (xs.getD (k * 2 + 1) 0)] 39)) X → X.cell? ⟨g2, o2 + k * 2, none⟩ = some (.int .i64 (ys.getD (k * 2) 0)) ∧ X.cell? ⟨g2, o2 + k * 2 + 1, none⟩ = some (.int .i64 (ys.getD (k * 2 + 1) 0))) := Lib.hid fun X hb => ((h2.below hal).below hb).at hlt
      obtain ⟨X0, Y0, S0, hlo, hlo2⟩ := lo_form (xs.getD (k * 2) 0) (xs.getD (k * 2 + 1) 0) (spF (fun a b => hasF nT ts a b || othB (celF xs) n k a b) (ys.getD (k * 2) 0) (ys.getD (k * 2 + 1) 0) 25 (xs.getD (k * 2) 0) (xs.getD (k * 2 + 1) 0)).head?
      rw [hlo] at HLO
      obtain ⟨bk, hbk⟩ : ∃ bk, (spF (fun a b => hasF nT ts a b || othB (celF xs) n k a b) (ys.getD (k * 2) 0) (ys.getD (k * 2 + 1) 0) 25 (xs.getD (k * 2) 0) (xs.getD (k * 2 + 1) 0)).head?.isSome = bk := ⟨_, rfl⟩
      rw [hbk] at HLO
      have HCL := HLO
      obtain ⟨f, hf⟩ : ∃ f, n - k = f + 1 := ⟨n - k - 1, by omega⟩
      have HSOME : Hid (bk = true → ∃ s, X0 = xs.getD (k * 2) 0 ∧ Y0 = xs.getD (k * 2 + 1) 0 ∧ S0 = txT s ∧ wayB (xs.getD (k * 2) 0) (xs.getD (k * 2 + 1) 0) (txT s) = true ∧ enB s ∧ fmR (celF xs) (celF ys) n f (k + 1) (tkP (hasF nT ts) (xs.getD (k * 2) 0) (xs.getD (k * 2 + 1) 0) s) (L ++ [(xs.getD (k * 2) 0, xs.getD (k * 2 + 1) 0, txT s)]) = O) := Lib.hid (by
        intro h
        rw [← hbk, Option.isSome_iff_exists] at h
        obtain ⟨s, hs⟩ := h
        obtain ⟨e1, e2, e3⟩ := hlo2 s hs
        rw [hf] at hO
        exact ⟨s, e1, e2, e3, sp_way hs hcb.1 hcb.2, sp_en hs, by rw [← hO, fmR_some hs]; rfl⟩)
      have HNONE : Hid (bk = false → O = none) := Lib.hid (by
        intro h
        rw [← hbk, Option.isSome_eq_false_iff, Option.isNone_iff_eq_none] at h
        rw [hf] at hO
        rw [← hO, fmR_none h])
      have HFF : Hid (n - (k + 1) = f) := Lib.hid (by omega)
      clear hO hlo hlo2 hbk hcb HLO hal hf HG hcl
      generalize xs.getD (k * 2) 0 = x at *
      generalize xs.getD (k * 2 + 1) 0 = y at *
      generalize ys.getD (k * 2) 0 = u at *
      generalize ys.getD (k * 2 + 1) 0 = v at *
      obtain ⟨wa, hwa⟩ : ∃ wa, wa = wr.alloc (.cells #[.int .i64 x, .int .i64 y] 39) := ⟨_, rfl⟩
      rw [← hwa] at HXY HOT HUS HC2
      have HWA := Lib.hid hwa
      have HAW : Hid (Below wr.heap.size wr wa) := Lib.hid (by rw [hwa]; exact (Below.refl _ _).alloc (Nat.le_refl _) _)
      clear hwa h1 h2
      have i5 : (k : Int) + 1 ≤ (n : Int) := by omega
      have kk := IntWalk.i64_in ((k : Int) + 1) (by omega)
      have t9 : ((k : Int) + 1).toNat = k + 1 := by omega
      have i6 : (n : Int) ≤ (p1 : Int) := by omega
      go_wp2_with fail
      rw [← HWA.out]
      have HRG0 : ∀ (ac : Act) (ww : World), ∃ (uu : Nat → Value) (bb : Nat → Nat), ac = ((((((((((((((((ac.put (some 26) (uu 0)).put (some 27) (uu 1)).put (some 28) (uu 2)).put (some 29) (uu 3)).put (some 30) (uu 4)).put (some 31) (uu 5)).put (some 32) (uu 6)).put (some 33) (uu 7)).put (some 34) (uu 8)).put (some 35) (uu 9)).put (some 36) (uu 10)).put (some 25) (uu 11)).put (some 37) (uu 12)).put (some 38) (uu 13)).put (some 10) (uu 14)).put (some 11) (uu 16)) ∧ RG ww (e_fs8 g1 o1 p1 g2 o2 p2 n nT k A5 p5 (.slice (some ⟨g1, o1 + (k + 1) * 2, none⟩) (n - (k + 1)) (p1 - (k + 1))) x y u v X0 Y0 S0 bk) v_fs8 (b_fs8 g1 o1 p1 g2 o2 p2 n nT k A5 p5 (.slice (some ⟨g1, o1 + (k + 1) * 2, none⟩) (n - (k + 1)) (p1 - (k + 1))) x y u v X0 Y0 S0 bk) (fun _ => false) ww.drew uu bb := fun ac ww => ⟨fun j => ac.tmps.getD (([26, 27, 28, 29, 30, 31, 32, 33, 34, 35, 36, 25, 37, 38, 10, 0, 11] : List Nat).getD j 0) undef, fun _ => 0, (by show ac = ((((((((((((((((ac.put (some 26) (ac.tmps.getD 26 undef)).put (some 27) (ac.tmps.getD 27 undef)).put (some 28) (ac.tmps.getD 28 undef)).put (some 29) (ac.tmps.getD 29 undef)).put (some 30) (ac.tmps.getD 30 undef)).put (some 31) (ac.tmps.getD 31 undef)).put (some 32) (ac.tmps.getD 32 undef)).put (some 33) (ac.tmps.getD 33 undef)).put (some 34) (ac.tmps.getD 34 undef)).put (some 35) (ac.tmps.getD 35 undef)).put (some 36) (ac.tmps.getD 36 undef)).put (some 25) (ac.tmps.getD 25 undef)).put (some 37) (ac.tmps.getD 37 undef)).put (some 38) (ac.tmps.getD 38 undef)).put (some 10) (ac.tmps.getD 10 undef)).put (some 11) (ac.tmps.getD 11 undef)); simp only [put_same]), RG.start _ _⟩
      refine wp_region_inv3 (fun a0 LL ac W => ∃ (uu : Nat → Value) (bb : Nat → Nat), ac = ((((((((((((((((a0.put (some 26) (uu 0)).put (some 27) (uu 1)).put (some 28) (uu 2)).put (some 29) (uu 3)).put (some 30) (uu 4)).put (some 31) (uu 5)).put (some 32) (uu 6)).put (some 33) (uu 7)).put (some 34) (uu 8)).put (some 35) (uu 9)).put (some 36) (uu 10)).put (some 25) (uu 11)).put (some 37) (uu 12)).put (some 38) (uu 13)).put (some 10) (uu 14)).put (some 11) (uu 16)) ∧ RG wa (e_fs8 g1 o1 p1 g2 o2 p2 n nT k A5 p5 (.slice (some ⟨g1, o1 + (k + 1) * 2, none⟩) (n - (k + 1)) (p1 - (k + 1))) x y u v X0 Y0 S0 bk) v_fs8 (b_fs8 g1 o1 p1 g2 o2 p2 n nT k A5 p5 (.slice (some ⟨g1, o1 + (k + 1) * 2, none⟩) (n - (k + 1)) (p1 - (k + 1))) x y u v X0 Y0 S0 bk) LL W uu bb) (by kernel_rfl) (by kernel_rfl) (HRG0 _ _) ?_ ?_
      · rintro jj op hop LL a' WW ⟨uu, bb, rfl, hF⟩ hL hdep
        clear HRG0
        match jj, hop with
        | 0, hop =>
          simp at hop; subst hop
          refine wpOp_run rfl rfl ?_
          simp only [Act.put, List.setIfInBounds_toArray, List.set_cons_succ, List.set_cons_zero]
          have r0 := HXY.out WW hF.below
          have r1 := r0.2
          have r0 := r0.1
          go_simp
          refine ⟨_, ?_, _, hF.setv (ok_fs8 g1 o1 p1 g2 o2 p2 n nT k A5 p5 (.slice (some ⟨g1, o1 + (k + 1) * 2, none⟩) (n - (k + 1)) (p1 - (k + 1))) x y u v X0 Y0 S0 bk) 0 rfl (.agg #[.int .i64 x, .int .i64 y]) rfl⟩
          simp [upg]
        | 1, hop =>
          simp at hop; subst hop
          refine wpOp_run rfl rfl ?_
          simp only [Act.put, List.setIfInBounds_toArray, List.set_cons_succ, List.set_cons_zero]
          go_simp
          refine ⟨_, ?_, _, hF.setv (ok_fs8 g1 o1 p1 g2 o2 p2 n nT k A5 p5 (.slice (some ⟨g1, o1 + (k + 1) * 2, none⟩) (n - (k + 1)) (p1 - (k + 1))) x y u v X0 Y0 S0 bk) 1 rfl (.slice (some ⟨g2, o2, none⟩) n p2) rfl⟩
          simp [upg]
        | 2, hop =>
          simp at hop; subst hop
          refine wpOp_run rfl rfl ?_
          simp only [Act.put, List.setIfInBounds_toArray, List.set_cons_succ, List.set_cons_zero]
          go_simp
          refine ⟨_, ?_, _, hF.setv (ok_fs8 g1 o1 p1 g2 o2 p2 n nT k A5 p5 (.slice (some ⟨g1, o1 + (k + 1) * 2, none⟩) (n - (k + 1)) (p1 - (k + 1))) x y u v X0 Y0 S0 bk) 2 rfl (.int .i64 (k : Int)) rfl⟩
          simp [upg]
        | 3, hop =>
          simp at hop; subst hop
          refine wpOp_run rfl rfl ?_
          simp only [Act.put, List.setIfInBounds_toArray, List.set_cons_succ, List.set_cons_zero]
          have e1 : uu 1 = .slice (some ⟨g2, o2, none⟩) n p2 := hF.val 1 rfl (hdep ⟨1, .data⟩ (by simp) rfl)
          have e2 : uu 2 = .int .i64 (k : Int) := hF.val 2 rfl (hdep ⟨2, .data⟩ (by simp) rfl)
          simp only [e1, e2]
          go_simp
          refine ⟨_, ?_, _, hF.setv (ok_fs8 g1 o1 p1 g2 o2 p2 n nT k A5 p5 (.slice (some ⟨g1, o1 + (k + 1) * 2, none⟩) (n - (k + 1)) (p1 - (k + 1))) x y u v X0 Y0 S0 bk) 3 rfl (.pointer (some ⟨g2, o2 + k * 2, none⟩)) rfl⟩
          simp [upg, e1, e2]
        | 4, hop =>
          simp at hop; subst hop
          refine wpOp_run rfl rfl ?_
          simp only [Act.put, List.setIfInBounds_toArray, List.set_cons_succ, List.set_cons_zero]
          have e3 : uu 3 = .pointer (some ⟨g2, o2 + k * 2, none⟩) := hF.val 3 rfl (hdep ⟨3, .data⟩ (by simp) rfl)
          simp only [e3]
          have r0 := HC2.out WW hF.below
          have r1 := r0.2
          have r0 := r0.1
          go_simp
          refine ⟨_, ?_, _, hF.setv (ok_fs8 g1 o1 p1 g2 o2 p2 n nT k A5 p5 (.slice (some ⟨g1, o1 + (k + 1) * 2, none⟩) (n - (k + 1)) (p1 - (k + 1))) x y u v X0 Y0 S0 bk) 4 rfl (.agg #[.int .i64 u, .int .i64 v]) rfl⟩
          simp [upg, e3]
        | 5, hop =>
          simp at hop; subst hop
          refine wpOp_run rfl rfl ?_
          simp only [Act.put, List.setIfInBounds_toArray, List.set_cons_succ, List.set_cons_zero]
          go_simp
          refine ⟨_, ?_, _, hF.setv (ok_fs8 g1 o1 p1 g2 o2 p2 n nT k A5 p5 (.slice (some ⟨g1, o1 + (k + 1) * 2, none⟩) (n - (k + 1)) (p1 - (k + 1))) x y u v X0 Y0 S0 bk) 5 rfl (.slice A5 nT p5) rfl⟩
          simp [upg]
        | 6, hop =>
          simp at hop; subst hop
          refine wpOp_run rfl rfl ?_
          simp only [Act.put, List.setIfInBounds_toArray, List.set_cons_succ, List.set_cons_zero]
          go_simp
          refine ⟨_, ?_, _, hF.setv (ok_fs8 g1 o1 p1 g2 o2 p2 n nT k A5 p5 (.slice (some ⟨g1, o1 + (k + 1) * 2, none⟩) (n - (k + 1)) (p1 - (k + 1))) x y u v X0 Y0 S0 bk) 6 rfl (.slice (some ⟨g1, o1, none⟩) n p1) rfl⟩
          simp [upg]
        | 7, hop =>
          simp at hop; subst hop
          refine wpOp_run rfl rfl ?_
          simp only [Act.put, List.setIfInBounds_toArray, List.set_cons_succ, List.set_cons_zero]
          go_simp
          refine ⟨_, ?_, _, hF.setv (ok_fs8 g1 o1 p1 g2 o2 p2 n nT k A5 p5 (.slice (some ⟨g1, o1 + (k + 1) * 2, none⟩) (n - (k + 1)) (p1 - (k + 1))) x y u v X0 Y0 S0 bk) 7 rfl (.int .i64 (k : Int)) rfl⟩
          simp [upg]
        | 8, hop =>
          simp at hop; subst hop
          refine wpOp_run rfl rfl ?_
          simp only [Act.put, List.setIfInBounds_toArray, List.set_cons_succ, List.set_cons_zero]
          have e7 : uu 7 = .int .i64 (k : Int) := hF.val 7 rfl (hdep ⟨7, .data⟩ (by simp) rfl)
          simp only [e7]
          go_simp
          refine ⟨_, ?_, _, hF.setv (ok_fs8 g1 o1 p1 g2 o2 p2 n nT k A5 p5 (.slice (some ⟨g1, o1 + (k + 1) * 2, none⟩) (n - (k + 1)) (p1 - (k + 1))) x y u v X0 Y0 S0 bk) 8 rfl (.int .i64 ((k : Int) + 1)) rfl⟩
          simp [upg, e7]
        | 9, hop =>
          simp at hop; subst hop
          refine wpOp_run rfl rfl ?_
          simp only [Act.put, List.setIfInBounds_toArray, List.set_cons_succ, List.set_cons_zero]
          have e6 : uu 6 = .slice (some ⟨g1, o1, none⟩) n p1 := hF.val 6 rfl (hdep ⟨6, .data⟩ (by simp) rfl)
          have e8 : uu 8 = .int .i64 ((k : Int) + 1) := hF.val 8 rfl (hdep ⟨8, .data⟩ (by simp) rfl)
          simp only [e6, e8]
          go_simp
          refine ⟨_, ?_, _, hF.setv (ok_fs8 g1 o1 p1 g2 o2 p2 n nT k A5 p5 (.slice (some ⟨g1, o1 + (k + 1) * 2, none⟩) (n - (k + 1)) (p1 - (k + 1))) x y u v X0 Y0 S0 bk) 9 rfl ((.slice (some ⟨g1, o1 + (k + 1) * 2, none⟩) (n - (k + 1)) (p1 - (k + 1)))) rfl⟩
          simp [upg, e6, e8, Act.put]
        | 10, hop =>
          simp at hop; subst hop
          refine wpOp_run rfl rfl ?_
          simp only [Act.put, List.setIfInBounds_toArray, List.set_cons_succ, List.set_cons_zero]
          have e0 : uu 0 = .agg #[.int .i64 x, .int .i64 y] := hF.val 0 rfl (hdep ⟨0, .data⟩ (by simp) rfl)
          have e4 : uu 4 = .agg #[.int .i64 u, .int .i64 v] := hF.val 4 rfl (hdep ⟨4, .data⟩ (by simp) rfl)
          have e5 : uu 5 = .slice A5 nT p5 := hF.val 5 rfl (hdep ⟨5, .data⟩ (by simp) rfl)
          have e9 : uu 9 = (.slice (some ⟨g1, o1 + (k + 1) * 2, none⟩) (n - (k + 1)) (p1 - (k + 1))) := hF.val 9 rfl (hdep ⟨9, .data⟩ (by simp) rfl)
          simp only [e0, e4, e5, e9]
          go_simp
          go_at_call 72
          refine (HCL.out _ (HUS.out.below hF.below) (HOT.out.below hF.below)).mono ?_
          rintro en w' ⟨rfl, hbC⟩
          refine ⟨_, ?_, _, (hF.kept hbC).setv (ok_fs8 g1 o1 p1 g2 o2 p2 n nT k A5 p5 (.slice (some ⟨g1, o1 + (k + 1) * 2, none⟩) (n - (k + 1)) (p1 - (k + 1))) x y u v X0 Y0 S0 bk) 10 rfl (.tuple #[.agg #[.int .i64 X0, .int .i64 Y0, .string S0], .bool bk]) rfl⟩
          simp [upg, e0, e4, e5, e9]
        | 11, hop =>
          simp at hop; subst hop
          refine wpOp_run rfl rfl ?_
          simp only [Act.put, List.setIfInBounds_toArray, List.set_cons_succ, List.set_cons_zero]
          have e10 : uu 10 = .tuple #[.agg #[.int .i64 X0, .int .i64 Y0, .string S0], .bool bk] := hF.val 10 rfl (hdep ⟨10, .data⟩ (by simp) rfl)
          simp only [e10]
          go_simp
          refine ⟨_, ?_, _, hF.setv (ok_fs8 g1 o1 p1 g2 o2 p2 n nT k A5 p5 (.slice (some ⟨g1, o1 + (k + 1) * 2, none⟩) (n - (k + 1)) (p1 - (k + 1))) x y u v X0 Y0 S0 bk) 11 rfl (.tuple #[.agg #[.int .i64 X0, .int .i64 Y0, .string S0], .bool bk]) rfl⟩
          simp [upg, e10]
        | 12, hop =>
          simp at hop; subst hop
          refine wpOp_run rfl rfl ?_
          simp only [Act.put, List.setIfInBounds_toArray, List.set_cons_succ, List.set_cons_zero]
          have e11 : uu 11 = .tuple #[.agg #[.int .i64 X0, .int .i64 Y0, .string S0], .bool bk] := hF.val 11 rfl (hdep ⟨11, .data⟩ (by simp) rfl)
          simp only [e11]
          go_simp
          refine ⟨_, ?_, _, hF.setv (ok_fs8 g1 o1 p1 g2 o2 p2 n nT k A5 p5 (.slice (some ⟨g1, o1 + (k + 1) * 2, none⟩) (n - (k + 1)) (p1 - (k + 1))) x y u v X0 Y0 S0 bk) 12 rfl (.agg #[.int .i64 X0, .int .i64 Y0, .string S0]) rfl⟩
          simp [upg, e11]
        | 13, hop =>
          simp at hop; subst hop
          refine wpOp_run rfl rfl ?_
          simp only [Act.put, List.setIfInBounds_toArray, List.set_cons_succ, List.set_cons_zero]
          have e11 : uu 11 = .tuple #[.agg #[.int .i64 X0, .int .i64 Y0, .string S0], .bool bk] := hF.val 11 rfl (hdep ⟨11, .data⟩ (by simp) rfl)
          simp only [e11]
          go_simp
          refine ⟨_, ?_, _, hF.setv (ok_fs8 g1 o1 p1 g2 o2 p2 n nT k A5 p5 (.slice (some ⟨g1, o1 + (k + 1) * 2, none⟩) (n - (k + 1)) (p1 - (k + 1))) x y u v X0 Y0 S0 bk) 13 rfl (.bool bk) rfl⟩
          simp [upg, e11]
        | 14, hop =>
          simp at hop; subst hop
          refine wpOp_run rfl rfl ?_
          simp only [Act.put, List.setIfInBounds_toArray, List.set_cons_succ, List.set_cons_zero]
          have HAL := hF.alloc (ok_fs8 g1 o1 p1 g2 o2 p2 n nT k A5 p5 (.slice (some ⟨g1, o1 + (k + 1) * 2, none⟩) (n - (k + 1)) (p1 - (k + 1))) x y u v X0 Y0 S0 bk) (t0_fs8 g1 o1 p1 g2 o2 p2 n nT k A5 p5 (.slice (some ⟨g1, o1 + (k + 1) * 2, none⟩) (n - (k + 1)) (p1 - (k + 1))) x y u v X0 Y0 S0 bk) (m0_fs8 g1 o1 p1 g2 o2 p2 n nT k A5 p5 (.slice (some ⟨g1, o1 + (k + 1) * 2, none⟩) (n - (k + 1)) (p1 - (k + 1))) x y u v X0 Y0 S0 bk) hL
          simp only [t0_fs8] at HAL
          go_simp
          refine ⟨_, ?_, _, HAL⟩
          simp [upg]
        | 15, hop =>
          simp at hop; subst hop
          refine wpOp_run rfl rfl ?_
          simp only [Act.put, List.setIfInBounds_toArray, List.set_cons_succ, List.set_cons_zero]
          have e12 : uu 12 = .agg #[.int .i64 X0, .int .i64 Y0, .string S0] := hF.val 12 rfl (hdep ⟨12, .data⟩ (by simp) rfl)
          have dp := hdep ⟨14, .data⟩ (by simp) rfl
          obtain ⟨ep, k2, k3, k4, _⟩ := hF.box (t0_fs8 g1 o1 p1 g2 o2 p2 n nT k A5 p5 (.slice (some ⟨g1, o1 + (k + 1) * 2, none⟩) (n - (k + 1)) (p1 - (k + 1))) x y u v X0 Y0 S0 bk) (m0_fs8 g1 o1 p1 g2 o2 p2 n nT k A5 p5 (.slice (some ⟨g1, o1 + (k + 1) * 2, none⟩) (n - (k + 1)) (p1 - (k + 1))) x y u v X0 Y0 S0 bk) dp
          have HST := hF.store (ok_fs8 g1 o1 p1 g2 o2 p2 n nT k A5 p5 (.slice (some ⟨g1, o1 + (k + 1) * 2, none⟩) (n - (k + 1)) (p1 - (k + 1))) x y u v X0 Y0 S0 bk) (t0_fs8 g1 o1 p1 g2 o2 p2 n nT k A5 p5 (.slice (some ⟨g1, o1 + (k + 1) * 2, none⟩) (n - (k + 1)) (p1 - (k + 1))) x y u v X0 Y0 S0 bk) (m0_fs8 g1 o1 p1 g2 o2 p2 n nT k A5 p5 (.slice (some ⟨g1, o1 + (k + 1) * 2, none⟩) (n - (k + 1)) (p1 - (k + 1))) x y u v X0 Y0 S0 bk) rfl dp hL
          simp only [t0_fs8, hL, Bool.false_eq_true, and_false, if_false] at k4
          have s0 := k4 0 _ rfl
          have sc0 := s0.1; have sf0 := s0.2; clear s0
          have s1 := k4 1 _ rfl
          have sc1 := s1.1; have sf1 := s1.2; clear s1
          have s2 := k4 2 _ rfl
          have sc2 := s2.1; have sf2 := s2.2; clear s2
          simp only [RG.setN, t0_fs8, Nat.zero_add] at HST ep
          simp only [e12, ep]
          clear hF k4 k2 k3 dp
          go_simp
          refine ⟨_, ?_, _, HST⟩
          simp [e12, ep]
        | 16, hop =>
          simp at hop; subst hop
          refine wpOp_run rfl rfl ?_
          simp only [Act.put, List.setIfInBounds_toArray, List.set_cons_succ, List.set_cons_zero]
          have e13 : uu 13 = .bool bk := hF.val 13 rfl (hdep ⟨13, .data⟩ (by simp) rfl)
          simp only [e13]
          go_simp
          refine ⟨_, ?_, _, hF.setv (ok_fs8 g1 o1 p1 g2 o2 p2 n nT k A5 p5 (.slice (some ⟨g1, o1 + (k + 1) * 2, none⟩) (n - (k + 1)) (p1 - (k + 1))) x y u v X0 Y0 S0 bk) 16 rfl (.bool bk) rfl⟩
          simp [upg, e13]
        | jj + 17, hop => simp at hop
      · rintro LL a' WW hall ⟨uu, bb, rfl, hF⟩
        clear HRG0
        have e0 : uu 0 = .agg #[.int .i64 x, .int .i64 y] := hF.val 0 rfl (hall 0 (by simp))
        have e1 : uu 1 = .slice (some ⟨g2, o2, none⟩) n p2 := hF.val 1 rfl (hall 1 (by simp))
        have e2 : uu 2 = .int .i64 (k : Int) := hF.val 2 rfl (hall 2 (by simp))
        have e3 : uu 3 = .pointer (some ⟨g2, o2 + k * 2, none⟩) := hF.val 3 rfl (hall 3 (by simp))
        have e4 : uu 4 = .agg #[.int .i64 u, .int .i64 v] := hF.val 4 rfl (hall 4 (by simp))
        have e5 : uu 5 = .slice A5 nT p5 := hF.val 5 rfl (hall 5 (by simp))
        have e6 : uu 6 = .slice (some ⟨g1, o1, none⟩) n p1 := hF.val 6 rfl (hall 6 (by simp))
        have e7 : uu 7 = .int .i64 (k : Int) := hF.val 7 rfl (hall 7 (by simp))
        have e8 : uu 8 = .int .i64 ((k : Int) + 1) := hF.val 8 rfl (hall 8 (by simp))
        have e9 : uu 9 = (.slice (some ⟨g1, o1 + (k + 1) * 2, none⟩) (n - (k + 1)) (p1 - (k + 1))) := hF.val 9 rfl (hall 9 (by simp))
        have e10 : uu 10 = .tuple #[.agg #[.int .i64 X0, .int .i64 Y0, .string S0], .bool bk] := hF.val 10 rfl (hall 10 (by simp))
        have e11 : uu 11 = .tuple #[.agg #[.int .i64 X0, .int .i64 Y0, .string S0], .bool bk] := hF.val 11 rfl (hall 11 (by simp))
        have e12 : uu 12 = .agg #[.int .i64 X0, .int .i64 Y0, .string S0] := hF.val 12 rfl (hall 12 (by simp))
        have e13 : uu 13 = .bool bk := hF.val 13 rfl (hall 13 (by simp))
        have e16 : uu 16 = .bool bk := hF.val 16 rfl (hall 16 (by simp))
        obtain ⟨ep0, lo0, hi0, q0, _⟩ := hF.box (t0_fs8 g1 o1 p1 g2 o2 p2 n nT k A5 p5 (.slice (some ⟨g1, o1 + (k + 1) * 2, none⟩) (n - (k + 1)) (p1 - (k + 1))) x y u v X0 Y0 S0 bk) (m0_fs8 g1 o1 p1 g2 o2 p2 n nT k A5 p5 (.slice (some ⟨g1, o1 + (k + 1) * 2, none⟩) (n - (k + 1)) (p1 - (k + 1))) x y u v X0 Y0 S0 bk) (hall 14 (by simp))
        simp only [t0_fs8, show LL 15 = true from hall 15 (by simp), and_self, if_true] at q0
        simp only [t0_fs8] at ep0 lo0 hi0
        have bc00 := (q0 0 _ rfl).1
        have bc01 := (q0 1 _ rfl).1
        have bc02 := (q0 2 _ rfl).1
        clear q0
        have HBL := Lib.hid hF.below
        clear hF hall
        simp only [Act.put, List.setIfInBounds_toArray, List.set_cons_succ, List.set_cons_zero]
        simp only [e0, e1, e2, e3, e4, e5, e6, e7, e8, e9, e10, e11, e12, e13, e16, ep0]
        clear e0 e1 e2 e3 e4 e5 e6 e7 e8 e9 e10 e11 e12 e13 e16 ep0
        generalize bb 14 = b0 at *
        have HF2 := Lib.hid (HFA.out.kept (HAW.out.trans (HBL.out.mono HAW.out.size)))
        cases bk with
        | false =>
          have HN := Lib.hid (HNONE.out rfl)
          go_wp2_with fail
          go_ret2
          exact ⟨.slice none 0 0, by rw [HN.out]; rfl, by rw [HN.out]; exact WRow.nil _ _, HF2.out.bl⟩
        | true =>
          obtain ⟨s, e1, e2, e3, hway, hen, hfin⟩ := HSOME.out rfl
          subst e3
          subst e1 e2
          have hsz : (txT s).size + 1 ≤ 25 := by have := (wayB_of hway).2.1; omega
          have HPS : Hid (∀ X, Calls Try.prog 73 #[wayV X0 Y0 (txT s)] X (CsRet X true ((txT s).size + 1) (clF (txT s) X0 Y0 (txT s).size))) := Lib.hid fun X => by
            have := ncCells_any X0 Y0 (txT s) X (by unfold maxLen; omega)
            unfold ncN ncX at this
            rw [if_pos hway, if_pos hway] at this
            have e : wayB X0 Y0 (txT s) = true := hway
            rw [e] at this
            exact this
          have HCX : Hid ((clF (txT s) X0 Y0 (txT s).size).length = ((txT s).size + 1) * 2) := Lib.hid (clF_len _ _ _ _)
          have HON : Hid (fmR (celF xs) (celF ys) n f (k + 1) (hasF (nT + ((txT s).size + 1)) (ts ++ clF (txT s) X0 Y0 (txT s).size)) (L ++ [(X0, Y0, txT s)]) = O) := Lib.hid (by rw [tk_step HFA.out.lt hen]; exact hfin)
          have HLO : Hid (wr.heap.size ≤ b0) := Lib.hid (Nat.le_trans HAW.out.size lo0)
          clear hway hen hfin HSOME HNONE HCL HC2 HUS HOT HXY
          generalize clF (txT s) X0 Y0 (txT s).size = cs at *
          generalize txT s = sx at *
          go_wp2_with fail
          refine (HPS.out _).mono ?_
          rintro e w3 ⟨v5, rfl, hp5, hb5⟩
          obtain ⟨A6, c6, rfl⟩ := hp5.shape
          have HP5 := Lib.hid hp5
          have HF3 := Lib.hid (HF2.out.kept hb5)
          have HHI : Hid (b0 < w3.heap.size) := Lib.hid (Nat.lt_of_lt_of_le hi0 hb5.size)
          have HB0 := Lib.hid ((hb5.cell (p := ⟨b0, 0, none⟩) hi0).trans bc00)
          have HB1 := Lib.hid ((hb5.cell (p := ⟨b0, 1, none⟩) hi0).trans bc01)
          have HB2 := Lib.hid ((hb5.cell (p := ⟨b0, 2, none⟩) hi0).trans bc02)
          clear hp5 hb5 bc00 bc01 bc02 lo0 hi0
          go_wp2_with (first | (at_builtin; refine wpList_extendC (.tmp 46) (.tmp 47) rfl rfl w.heap.size _ _ nT (sx.size + 1) ts cs rfl HF3.out.p rfl (crow_room HP5.out) HCX.out (by omega) HF3.out.bl.size ?_; intro v' w' hr' hg' hat'; have hx6 := fs_mid HF3.out HFA.out HLO.out HHI.out HB0.out HB1.out HB2.out hr' hg' hat'; obtain ⟨d0, d1, d2, hx7⟩ := hx6; have HX7 := Lib.hid hx7; have HP6 := Lib.hid hr'; clear hr' hg' hat' hx7) | (at_builtin; refine wpList_pushW X0 Y0 sx (.tmp 49) (.tmp 51) rfl rfl w.heap.size _ L rfl (HX7.out.1) _ rfl HX7.out.2.1 HX7.out.2.2.1 HX7.out.2.2.2.1 (by rw [HLL.out]; omega) HX7.out.2.2.2.2.1.size ?_; intro v2' w2' hr2' hg2' hat2'))
          have hfin := fs_end HX7.out HP6.out HLL.out HFA.out.lt HFA.out.le HCX.out hsz hr2' hg2' hat2'
          have HFIN := Lib.hid hfin
          clear hfin hr2' hg2' hat2'
          go_wp2_with fail
          go_roundw
          case rel => exact ⟨k + 1, L ++ [(X0, Y0, sx)], nT + (sx.size + 1), ts ++ cs, by omega, by go_num, HFIN.out, by rw [HFF.out]; exact HON.out⟩
          case measure => first | (simp [intOf]; done) | (simp [intOf]; omega)
    · obtain rfl : k = n := by omega
      have HOL : Hid (O = some L) := Lib.hid (by rw [← hO, Nat.sub_self, fmR_zero])
      clear hO
      go_wp2_with fail
      go_ret2
      exact ⟨_, by rw [HOL.out]; rfl, by rw [HOL.out]; exact HFA.out.r, HFA.out.bl⟩
end Go.Proofs.Ytnlmjeakdjmohaa
