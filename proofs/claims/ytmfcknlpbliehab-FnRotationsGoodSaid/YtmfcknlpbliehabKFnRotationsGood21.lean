/- Pack 21 of what FnRotationsGood needs: Shrink, DgD. -/
import Derived.Test.YtmfcknlpbliehabKFnRotationsGood20
/- A slice of the call's own, cut short: s[:k]. -/
namespace Go.Proofs.Ytmfcknlpbliehab
open Go.RowKit
theorem IRow.shrink {w : World} {B g c n : Nat} {xs : List Int} (h : IRow w B (.slice (some ⟨g, 0, none⟩) n c) xs) (k : Nat) (hk : k ≤ xs.length) :
    IRow w B (.slice (some ⟨g, 0, none⟩) k c) (xs.take k) := by
  have h1 := h.1
  rcases h.2 with ⟨h2, _⟩ | ⟨g', cap, cur, h2, hB, hg, hn, hm, hs, ht⟩
  · cases h2
  · injection h2 with e1 e2 e3
    injection e1 with e1
    injection e1 with e1
    subst e1 e3
    have hlen : (xs.take k).length = k := by rw [List.length_take]; omega
    unfold IRow
    rw [hlen]
    refine ⟨by rw [List.length_map, hlen, Nat.mul_one], .inr ⟨g, c, cur, rfl, hB, hg, by omega, hm, hs, ?_⟩⟩
    rw [List.map_take, ← ht, List.take_take, Nat.mul_one, Nat.mul_one, Nat.min_eq_left hk]
theorem IRow.apart {w w' : World} {B : Nat} {v : Value} {xs : List Int} {r : Option Nat} (h : IRow w B v xs) (hg : w.grownBy w' r) (hne : ∀ k, v.ownBlock = some k → some k ≠ r) : IRow w' B v xs :=
  World.ownsRow.kept h hg (by
    cases e : v.ownBlock with
    | none => exact .inl rfl
    | some k => exact .inr (hne k e))
end Go.Proofs.Ytmfcknlpbliehab

/- What the laws draw: degrees. -/
namespace Go.Proofs.Ytmfcknlpbliehab
open Go.RowKit
set_option linter.unusedVariables false
theorem grown_new {w W W' : World} {g : Nat} {r : Option Nat} (h : w.grownBy W (some g)) (h2 : W.grownBy W' r) (hr : ∀ k, r = some k → w.heap.size ≤ k) : w.grownBy W' (some g) :=
  ⟨h2.os.trans h.os, h2.tape.trans h.tape, h2.output.trans h.output, Nat.le_trans h.size h2.size, fun k hk hn => (h2.block k (Nat.lt_of_lt_of_le hk h.size) (fun e => by have := hr k e.symm; omega)).trans (h.block k hk hn)⟩
theorem Cur.other {W W' : World} {g : Nat} {A : Option Addr} {len cap T : Nat} {r : Option Nat} (h : Cur W g A len cap T) (hg : W.grownBy W' r) (hr : ∀ k, r = some k → g < k) : Cur W' g A len cap T := by
  have hl := h.lt
  have hb : ∀ k, k ≤ g → W'.heap[k]? = W.heap[k]? := fun k hk => hg.block k (by omega) (fun e => by have := hr k e.symm; omega)
  have hc : ∀ k j, k ≤ g → W'.cell? ⟨k, j, none⟩ = W.cell? ⟨k, j, none⟩ := fun k j hk => by unfold World.cell?; rw [hb k hk]
  refine ⟨fun j hj => ?_, (hc g 0 (Nat.le_refl _)).trans h.c0, ?_, ?_, fun j => ?_, Nat.lt_of_lt_of_le hl hg.size⟩
  · obtain ⟨a, x, h1, h2, h3, h4⟩ := h.code j hj
    refine ⟨a, x, h1, h2, h3, ?_⟩
    rw [← h4]
    have hab := add_block a j
    unfold World.cell?
    rw [hab, hb a.block (by omega)]
  · obtain ⟨a, h1, h2⟩ := h.c1
    exact ⟨a, h1, (hc g 1 (Nat.le_refl _)).trans h2⟩
  · obtain ⟨z, h1, h2, h3⟩ := h.c2
    exact ⟨z, h1, h2, (hc g 2 (Nat.le_refl _)).trans h3⟩
  · have := h.free j
    unfold World.frozen? at *
    rw [hb g (Nat.le_refl _)]
    exact this
/-- degrees under way: the cursor, the list, what is left alone -/
structure Dg (w : World) (g : Nat) (A : Option Addr) (len cap T : Nat) (v : Value) (xs : List Int) (W : World) : Prop where
  c : Cur W g A len cap T
  r : IRow W w.heap.size v xs
  l : w.grownBy W (some g)
  lt : g < w.heap.size
theorem Dg.pick {w W W' : World} {g : Nat} {A : Option Addr} {len cap T T' : Nat} {v : Value} {xs : List Int} (h : Dg w g A len cap T v xs W) (hc : Cur W' g A len cap T') (hg : W.grownBy W' (some g)) : Dg w g A len cap T' v xs W' :=
  ⟨hc, h.r.apart hg (fun k hk e => by have := (h.r.blk k hk).1; have := h.lt; injection e with e; omega), grown_trans' h.l hg, h.lt⟩
theorem Dg.alloc {w W : World} {g : Nat} {A : Option Addr} {len cap T : Nat} {v : Value} {xs : List Int} (h : Dg w g A len cap T v xs W) (o : Obj) : Dg w g A len cap T v xs (W.alloc o) :=
  ⟨h.c.alloc o, h.r.alloc o, grown_new h.l (World.grownBy_alloc W o none) (fun k e => by cases e), h.lt⟩
theorem Dg.set {w W : World} {g b n c : Nat} {A : Option Addr} {len cap T : Nat} {xs : List Int} (h : Dg w g A len cap T (.slice (some ⟨b, 0, none⟩) n c) xs W) (j : Nat) (u : Int) : Dg w g A len cap T (.slice (some ⟨b, 0, none⟩) n c) (xs.set j u) (W.setCell ⟨b, j, none⟩ (.int .i64 u)) := by
  have hs := h.r.set j u
  have hb := h.r.lt
  have hgl := h.lt
  exact ⟨h.c.other hs.2 (fun k e => by injection e with e; omega), hs.1, grown_new h.l hs.2 (fun k e => by injection e with e; omega), hgl⟩
theorem Dg.push {w W W' : World} {g : Nat} {A : Option Addr} {len cap T : Nat} {v v' : Value} {xs ys : List Int} (h : Dg w g A len cap T v xs W) (hr : IRow W' w.heap.size v' ys) (hg : W.grownBy W' v.ownBlock) : Dg w g A len cap T v' ys W' :=
  ⟨h.c.other hg (fun k e => by have := (h.r.blk k e).1; have := h.lt; omega), hr, grown_new h.l hg (fun k e => (h.r.blk k e).1), h.lt⟩
/-- a list is handed back: how long, what is left alone -/
def DgRet (w : World) (g : Nat) (A : Option Addr) (len cap T : Nat) (e : Ending) (w' : World) : Prop := ∃ v xs, e = .returned v ∧ xs.length ≤ 40 ∧ Dg w g A len cap T v xs w'
def Big0 (x : Int) : Prop := -1 ≤ x ∧ x ≤ 4611686018427387904
theorem mem_getD {xs : List Int} {j : Nat} (h : j < xs.length) : xs.getD j 0 ∈ xs := by
  rw [List.getD_eq_getElem?_getD, List.getElem?_eq_getElem h]
  exact List.getElem_mem h
set_option maxRecDepth 100000 in
set_option maxHeartbeats 4000000 in
theorem degrees_any (w : World) (g : Nat) (A : Option Addr) (len cap T : Nat) (m : Nat) (hm : 1 ≤ m ∧ m ≤ 16) (hc : Cur w g A len cap T) (hT : T ≤ 100000) (hl : len ≤ 1099511627776) :
    Calls Try.prog 48 #[.pointer (some ⟨g, 0, none⟩), .int .i64 (m : Int)] w (DgRet w g A len cap (T + 200)) := by
  have HP : Hid (∀ (W : World) (T n : Nat), 1 ≤ n ∧ n ≤ 1000 → T ≤ 1000000 → Cur W g A len cap T → Calls Try.prog 49 #[.pointer (some ⟨g, 0, none⟩), .int .i64 (n : Int)] W (fun e w' => ∃ k : Nat, e = .returned (.int .i64 (k : Int)) ∧ k < n ∧ Cur w' g A len cap (T + 2) ∧ W.grownBy w' (some g))) := Lib.hid fun W T n hn hT h => by
    refine (pick_any W g A len cap T (n : Int) (by omega) h (by omega) hl).mono ?_
    rintro e w' ⟨v, rfl, ⟨x, rfl, h1, h2⟩, h3, h4⟩
    obtain ⟨k, rfl⟩ : ∃ k : Nat, x = (k : Int) := ⟨x.toNat, by omega⟩
    exact ⟨k, rfl, by omega, h3, h4⟩
  have HAM : Hid (∀ (W : World) (gb T : Nat), T ≤ 1000000 → Cur W g A len cap T → g < W.heap.size → gb = W.heap.size → Calls Try.prog 41 #[.pointer (some ⟨g, 0, none⟩), .slice (some ⟨gb, 0, none⟩) 4 4] (W.alloc (.cells #[.int .i64 (-1), .int .i64 16, .int .i64 17, .int .i64 4611686018427387904] 3)) (CurRet (W.alloc (.cells #[.int .i64 (-1), .int .i64 16, .int .i64 17, .int .i64 4611686018427387904] 3)) g A len cap (T + 2) (IntP Big0))) := Lib.hid fun W gb T hT h1 h2 h3 => by
    subst h3
    exact among_any Big0 _ g A len cap T W.heap.size 4 4 (by omega) (rowLit W _ [-1, 16, 17, 4611686018427387904] Big0 rfl (by intro x hx; simp at hx; unfold Big0; omega)) (by omega) (h1.alloc _) (by omega) hl
  have HC := Lib.hid hc
  have hgl := hc.lt
  clear hc
  obtain ⟨i0, hi0, hz0, hz1, hz2⟩ := info_parts intInfo
  go_enter Try.func48, Try.ntmps48
  go_wp2_with fail
  refine (HP.out w T m (by omega) (by omega) HC.out).mono ?_
  rintro e w1 ⟨k1, rfl, hk1, hcur, hg1⟩
  have HG1 := Lib.hid hg1
  have HC1 := Lib.hid hcur
  have hs1 := hg1.size
  obtain ⟨n, hn⟩ : ∃ n : Nat, 1 + (k1 : Int) = (n : Int) := ⟨k1 + 1, by omega⟩
  have hn1 : 1 ≤ n ∧ n ≤ 16 := by omega
  clear hcur hg1 HC
  go_wp2_with (refine wpList_make_full _ rfl (.tmp 12) (.tmp 12) 24 rfl w1.heap.size 3 i0 (.int .i64 0) 1 Try.underlying24 hi0 hz0 hz1 .i64 .i64 _ _ n rfl rfl (by omega) (by omega) (by rw [hz2]; omega) (by unfold maxLen; omega) (Nat.le_refl _) ?_; intro w2 hown2 hgrow2)
  have hrow2 : IRow w2 w1.heap.size (.slice (some ⟨w1.heap.size, 0, none⟩) n n) (List.replicate n 0) := IRow.of_own hown2 (by simp) (by rw [madeOne _ rfl]; simp)
  have HD2 : Hid (Dg w g A len cap (T + 2) (.slice (some ⟨w1.heap.size, 0, none⟩) n n) (List.replicate n 0) w2) := Lib.hid ⟨HC1.out.other hgrow2 (fun k e => by cases e), hrow2.mono hs1, grown_new HG1.out hgrow2 (fun k e => by cases e), hgl⟩
  clear hown2 hgrow2 hrow2 HC1 HG1
  obtain ⟨b, hb⟩ : ∃ b, w1.heap.size = b := ⟨_, rfl⟩
  rw [hb] at HD2 ⊢
  clear hb hs1
  go_wp2_with fail
  refine (HP.out w2 (T + 2) n (by omega) (by omega) HD2.out.c).mono ?_
  rintro e w3 ⟨k3, rfl, hk3, hcur, hg3⟩
  have HD3 := Lib.hid (HD2.out.pick hcur hg3)
  clear hcur hg3 HD2 hn
  go_wp2_with fail
  go_loopw [7] (fun kv wr => ∃ (k : Nat) (xs : List Int), kv = .int .i64 (k : Int) ∧ k ≤ k3 ∧ xs.length = n ∧ (∀ x ∈ xs, 0 ≤ x ∧ x + (k : Int) ≤ 100) ∧ Dg w g A len cap (T + 4 + 2 * (k3 - k)) (.slice (some ⟨b, 0, none⟩) n n) xs wr) (fun kv _ => (intOf kv).toNat)
  case atStart => exact ⟨k3, List.replicate n 0, rfl, Nat.le_refl _, by simp, fun x hx => by rw [(List.mem_replicate.1 hx).2]; omega, by have := HD3.out; rw [show T + 4 + 2 * (k3 - k3) = T + 2 + 2 by omega]; exact this⟩
  case round =>
    obtain ⟨k, xs, rfl, hk, hxl, hx, hd⟩ := hrel
    have HD := Lib.hid hd
    have HX := Lib.hid hx
    clear hd hx HD3
    cases k with
    | zero =>
      have HD4 : Hid (Dg w g A len cap (T + 100) (.slice (some ⟨b, 0, none⟩) n n) xs wr) := Lib.hid ⟨HD.out.c.mono (by omega), HD.out.r, HD.out.l, HD.out.lt⟩
      clear HD HX
      go_wp2_with fail
      refine (HP.out wr (T + 100) 16 (by omega) (by omega) HD4.out.c).mono ?_
      rintro e w5 ⟨c5, rfl, hc5, hcur, hg5⟩
      have HD5 := Lib.hid (HD4.out.pick hcur hg5)
      clear hcur hg5 HD4
      by_cases z0 : c5 = 0
      · subst z0
        go_wp2_with fail
        refine (HP.out w5 (T + 100 + 2) n (by omega) (by omega) HD5.out.c).mono ?_
        rintro e w6 ⟨k6, rfl, hk6, hcur, hg6⟩
        have HD6 := Lib.hid (HD5.out.pick hcur hg6)
        clear hcur hg6 HD5
        go_wp2_with fail
        refine (HAM.out w6 _ (T + 100 + 2 + 2) (by omega) HD6.out.c HD6.out.c.lt rfl).mono ?_
        rintro e w7 ⟨v7, rfl, ⟨u, rfl, hu⟩, hcur, hg7⟩
        have HD7 := Lib.hid ((HD6.out.alloc _).pick hcur hg7)
        have HL : Hid (k6 < xs.length) := Lib.hid (by omega)
        have hc := HD7.out.r.cell HL.out
        have hf := HD7.out.r.free k6
        have hlt := HD7.out.r.lt
        have HD8 := Lib.hid (HD7.out.set k6 u)
        have HXL : Hid ((xs.set k6 u).length ≤ 40) := Lib.hid (by rw [List.length_set]; omega)
        clear hcur hg7 HD6
        go_wp2_with fail
        go_ret
        exact ⟨_, _, rfl, HXL.out, HD8.out.c.mono (by omega), HD8.out.r, HD8.out.l, HD8.out.lt⟩
      · by_cases z1 : c5 = 1
        · subst z1
          go_wp2_with fail
          go_loopw [6] (fun sv wq => ∃ (v : Value) (ys : List Int), sv = v ∧ ys.length ≤ 17 ∧ Dg w g A len cap (T + 102 + 2 * ys.length) v ys wq) (fun sv _ => 40 - sliceLenI sv)
          case atStart => exact ⟨_, xs, rfl, by omega, ⟨HD5.out.c.mono (by omega), HD5.out.r, HD5.out.l, HD5.out.lt⟩⟩
          case round =>
            obtain ⟨v, ys, e1, hyl, hd⟩ := hrel
            replace e1 := e1.symm
            subst e1
            obtain ⟨A9, c9, rfl⟩ := hd.r.shape
            have HY := Lib.hid hd
            clear hd HD5
            go_wp2_with fail
            refine (HP.out _ (T + 102 + 2 * ys.length) 2 (by omega) (by omega) HY.out.c).mono ?_
            rintro e w6 ⟨k6, rfl, hk6, hcur, hg6⟩
            have HY6 := Lib.hid (HY.out.pick hcur hg6)
            clear hcur hg6
            by_cases hlt : ys.length < 16 + k6
            · have hi1 : (ys.length : Int) < 16 + (k6 : Int) := by omega
              have hsz : w.heap.size ≤ w6.heap.size := HY6.out.l.size
              go_wp2_with (at_builtin; refine wpList_push (.tmp 49) (.tmp 50) rfl rfl w.heap.size _ ys rfl HY6.out.r rfl (by omega) hsz ?_; intro v7 w7 hrow7 hg7 hat7)
              have HY7 := Lib.hid (HY6.out.push hrow7 hg7)
              have HSL : Hid (sliceLenI v7 = ys.length + 1) := Lib.hid (by rw [hrow7.slenI]; simp)
              have HSL2 : Hid (sliceLenI (.slice A9 ys.length c9) = ys.length) := Lib.hid rfl
              clear hrow7 hg7 hat7
              go_roundw
              case rel => exact ⟨v7, ys ++ [0], rfl, by simp; omega, by have := HY7.out; rw [List.length_append]; exact ⟨this.c.mono (by simp; omega), this.r, this.l, this.lt⟩⟩
              case measure => first | (rw [HSL.out, HSL2.out]; omega) | (simp [HSL.out, HSL2.out]; omega)
            · have hi1 : ¬ (ys.length : Int) < 16 + (k6 : Int) := by omega
              have hi2 : decide ((ys.length : Int) < 16 + (k6 : Int)) = false := decide_eq_false hi1
              clear hi1
              go_wp2_with fail
              go_ret
              exact ⟨_, ys, rfl, by omega, HY6.out.c.mono (by omega), HY6.out.r, HY6.out.l, HY6.out.lt⟩
        · have q0 : ((c5 : Int) == 0) = false := by simp; omega
          have q1 : ((c5 : Int) == 1) = false := by simp; omega
          by_cases z2 : c5 = 2
          · subst z2
            go_wp2_with fail
            go_ret
            exact ⟨_, [], rfl, by simp, HD5.out.c.mono (by omega), IRow.nil _ _, HD5.out.l, HD5.out.lt⟩
          · have q2 : ((c5 : Int) == 2) = false := by simp; omega
            go_wp2_with fail
            go_ret
            exact ⟨_, xs, rfl, by omega, HD5.out.c.mono (by omega), HD5.out.r, HD5.out.l, HD5.out.lt⟩
    | succ k =>
      have hi0 : (0 : Int) < ((k + 1 : Nat) : Int) := by omega
      go_wp2_with fail
      refine (HP.out wr _ n (by omega) (by omega) HD.out.c).mono ?_
      rintro e w5 ⟨j, rfl, hj, hcur, hg5⟩
      have HD5 := Lib.hid (HD.out.pick hcur hg5)
      have HL : Hid (j < xs.length) := Lib.hid (by omega)
      have hc := HD5.out.r.cell HL.out
      have hf := HD5.out.r.free j
      have hlt := HD5.out.r.lt
      have hv := HX.out _ (mem_getD HL.out)
      have hv1 := hv.1
      have hv2 := hv.2
      generalize hx9 : xs.getD j 0 = x9 at *
      have HD6 := Lib.hid (HD5.out.set j (x9 + 1))
      have HXL : Hid ((xs.set j (x9 + 1)).length = n) := Lib.hid (by rw [List.length_set]; exact hxl)
      have HXM : Hid (∀ x ∈ xs.set j (x9 + 1), 0 ≤ x ∧ x + (k : Int) ≤ 100) := Lib.hid fun x hx => by
        rcases List.mem_or_eq_of_mem_set hx with h | h
        · have := HX.out x h; omega
        · omega
      clear hcur hg5 HD HX hv hx9
      go_wp2_with fail
      go_roundw
      case rel => exact ⟨k, _, by go_num, by omega, HXL.out, HXM.out, HD6.out.c.mono (by omega), HD6.out.r, HD6.out.l, HD6.out.lt⟩
      first | (simp [intOf]; done) | (simp [intOf]; omega)
end Go.Proofs.Ytmfcknlpbliehab
