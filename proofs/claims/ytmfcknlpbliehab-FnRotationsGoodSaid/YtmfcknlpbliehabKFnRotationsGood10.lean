/- Pack 10 of what FnRotationsGood needs: Cur2, Cur3. -/
import Derived.Test.YtmfcknlpbliehabKFnRotationsGood9
/- The cursor of the laws' draws: pick, one, of, among, path. -/
namespace Go.Proofs.Ytmfcknlpbliehab
open Go.RowKit
theorem Cur.mono {w : World} {g : Nat} {A : Option Addr} {len cap T T' : Nat} (h : Cur w g A len cap T) (hT : T ≤ T') : Cur w g A len cap T' :=
  ⟨h.code, h.c0, by obtain ⟨a, h1, h2⟩ := h.c1; exact ⟨a, Nat.le_trans h1 hT, h2⟩, h.c2, h.free, h.lt⟩
theorem Cur.alloc {w : World} {g : Nat} {A : Option Addr} {len cap T : Nat} (h : Cur w g A len cap T) (o : Obj) : Cur (w.alloc o) g A len cap T := by
  have hl := h.lt
  refine ⟨fun j hj => ?_, ?_, ?_, ?_, ?_, by simp; omega⟩
  · obtain ⟨a, x, h1, h2, h3, h4⟩ := h.code j hj
    exact ⟨a, x, h1, h2, h3, by rw [World.cell?_alloc_lt _ _ _ (by rw [add_block]; omega)]; exact h4⟩
  · rw [World.cell?_alloc_lt _ _ _ hl]; exact h.c0
  · obtain ⟨a, h1, h2⟩ := h.c1
    exact ⟨a, h1, by rw [World.cell?_alloc_lt _ _ _ hl]; exact h2⟩
  · obtain ⟨z, h1, h2, h3⟩ := h.c2
    exact ⟨z, h1, h2, by rw [World.cell?_alloc_lt _ _ _ hl]; exact h3⟩
  · intro j
    rw [World.frozen?_alloc_past _ _ _ hl]; exact h.free j
/-- an answer of the cursor: what is handed back, how far it has come, nothing else turned -/
def CurRet (w : World) (g : Nat) (A : Option Addr) (len cap T : Nat) (R : Value → Prop) (e : Ending) (w' : World) : Prop :=
  ∃ v, e = .returned v ∧ R v ∧ Cur w' g A len cap T ∧ w.grownBy w' (some g)
def IntTo (n : Int) (v : Value) : Prop := ∃ x : Int, v = .int .i64 x ∧ 0 ≤ x ∧ x < n
set_option maxHeartbeats 1000000 in
theorem pick_any (w : World) (g : Nat) (A : Option Addr) (len cap T : Nat) (n : Int) (hn : 1 ≤ n ∧ n ≤ 1073741824) (hc : Cur w g A len cap T) (hT : T ≤ 1073741824) (hl : len ≤ 1099511627776) :
    Calls Try.prog 49 #[.pointer (some ⟨g, 0, none⟩), .int .i64 n] w (CurRet w g A len cap (T + 2) (IntTo n)) := by
  by_cases h1 : n ≤ 1
  · obtain rfl : n = 1 := by omega
    go_enter Try.func49, Try.ntmps49
    go_wp2
    go_ret
    exact ⟨_, rfl, ⟨0, rfl, by omega, by omega⟩, hc.mono (by omega), grown_refl' _ _⟩
  · have HN : Hid (∀ (w : World) T, Cur w g A len cap T → T ≤ 1099511627776 → Calls Try.prog 65 #[.pointer (some ⟨g, 0, none⟩)] w fun e w' => ∃ x : Int, e = .returned (.int .i64 x) ∧ 0 ≤ x ∧ x ≤ 255 ∧ Cur w' g A len cap (T + 1) ∧ w.grownBy w' (some g)) := Lib.hid fun w T h1 h2 => next_any w g A len cap T h1 h2 hl
    have HC := Lib.hid hc
    clear hc
    by_cases h2 : n ≤ 200
    · have d1 : decide (n ≤ 1) = false := decide_eq_false h1
      go_enter Try.func49, Try.ntmps49
      go_wp2_with fail
      refine (HN.out _ _ HC.out (by omega)).mono ?_
      rintro e w1 ⟨x, rfl, hx1, hx2, hcur, hg⟩
      have HCU := Lib.hid hcur
      have HG := Lib.hid hg
      clear hcur hg
      go_wp2
      go_ret
      exact ⟨_, rfl, ⟨_, rfl, Int.emod_nonneg _ (by omega), Int.emod_lt_of_pos _ (by omega)⟩, HCU.out.mono (by omega), HG.out⟩
    · have d1 : decide (n ≤ 1) = false := decide_eq_false h1
      go_enter Try.func49, Try.ntmps49
      go_wp2_with fail
      refine (HN.out _ _ HC.out (by omega)).mono ?_
      rintro e w1 ⟨x, rfl, hx1, hx2, hcur, hg⟩
      have HCU := Lib.hid hcur
      have HG := Lib.hid hg
      clear hcur hg
      go_wp2_with fail
      refine (HN.out _ _ HCU.out (by omega)).mono ?_
      rintro e w2 ⟨y, rfl, hy1, hy2, hcur, hg⟩
      have HCU2 := Lib.hid hcur
      have HG2 := Lib.hid hg
      clear hcur hg
      go_wp2
      go_ret
      exact ⟨_, rfl, ⟨_, rfl, Int.emod_nonneg _ (by omega), Int.emod_lt_of_pos _ (by omega)⟩, HCU2.out, grown_trans' HG.out HG2.out⟩
def IsBool (v : Value) : Prop := ∃ b, v = .bool b
set_option maxHeartbeats 1000000 in
theorem one_any (w : World) (g : Nat) (A : Option Addr) (len cap T : Nat) (n : Int) (hn : 1 ≤ n ∧ n ≤ 1073741824) (hc : Cur w g A len cap T) (hT : T ≤ 1073741824) (hl : len ≤ 1099511627776) :
    Calls Try.prog 73 #[.pointer (some ⟨g, 0, none⟩), .int .i64 n] w (CurRet w g A len cap (T + 2) IsBool) := by
  have HP := Lib.hid (pick_any w g A len cap T n hn hc hT hl)
  clear hc
  go_enter Try.func73, Try.ntmps73
  go_wp2_with fail
  refine HP.out.mono ?_
  rintro e w1 ⟨v, rfl, ⟨x, rfl, hx1, hx2⟩, hcur, hg⟩
  have HCU := Lib.hid hcur
  have HG := Lib.hid hg
  clear hcur hg
  go_wp2
  go_ret
  exact ⟨_, rfl, ⟨_, rfl⟩, HCU.out, HG.out⟩
/-- n strings, each with P, lie in block h -/
def RowS (w : World) (h n : Nat) (P : ByteArray → Prop) : Prop := h < w.heap.size ∧ ∀ j, j < n → ∃ s, P s ∧ w.cell? ⟨h, j, none⟩ = some (.string s)
def StrP (P : ByteArray → Prop) (v : Value) : Prop := ∃ s, v = .string s ∧ P s
theorem grown_cell {w w' : World} {g h j : Nat} {v : Value} (hg : w.grownBy w' (some g)) (hh : h < w.heap.size) (hn : h ≠ g) (hc : w.cell? ⟨h, j, none⟩ = some v) : w'.cell? ⟨h, j, none⟩ = some v := by
  rw [← hc]
  unfold World.cell?
  rw [hg.block h hh (fun e => hn (by injection e))]
set_option maxHeartbeats 1000000 in
theorem of_any (P : ByteArray → Prop) (w : World) (g : Nat) (A : Option Addr) (len cap T h n c : Nat) (hn : 1 ≤ n ∧ n ≤ 1073741824) (hr : RowS w h n P) (hh : h ≠ g) (hc : Cur w g A len cap T) (hT : T ≤ 1073741824) (hl : len ≤ 1099511627776) :
    Calls Try.prog 63 #[.pointer (some ⟨g, 0, none⟩), .slice (some ⟨h, 0, none⟩) n c] w (CurRet w g A len cap (T + 2) (StrP P)) := by
  have HP := Lib.hid (pick_any w g A len cap T n (by omega) hc hT hl)
  have HR := Lib.hid hr
  clear hc hr
  go_enter Try.func63, Try.ntmps63
  go_wp2_with fail
  refine HP.out.mono ?_
  rintro e w1 ⟨v, rfl, ⟨x, rfl, hx1, hx2⟩, hcur, hg⟩
  obtain ⟨k, rfl⟩ : ∃ k : Nat, x = (k : Int) := ⟨x.toNat, by omega⟩
  obtain ⟨s, hs, e1⟩ := HR.out.2 k (by omega)
  have e2 := grown_cell hg HR.out.1 hh e1
  have HCU := Lib.hid hcur
  have HG := Lib.hid hg
  have HS := Lib.hid hs
  clear hcur hg e1 hs
  go_wp2
  go_ret
  exact ⟨_, rfl, ⟨s, rfl, HS.out⟩, HCU.out, HG.out⟩
/-- n numbers, each with P, lie in block h -/
def RowI (w : World) (h n : Nat) (P : Int → Prop) : Prop := h < w.heap.size ∧ ∀ j, j < n → ∃ s, P s ∧ w.cell? ⟨h, j, none⟩ = some (.int .i64 s)
def IntP (P : Int → Prop) (v : Value) : Prop := ∃ s, v = .int .i64 s ∧ P s
set_option maxHeartbeats 1000000 in
theorem among_any (P : Int → Prop) (w : World) (g : Nat) (A : Option Addr) (len cap T h n c : Nat) (hn : 1 ≤ n ∧ n ≤ 1073741824) (hr : RowI w h n P) (hh : h ≠ g) (hc : Cur w g A len cap T) (hT : T ≤ 1073741824) (hl : len ≤ 1099511627776) :
    Calls Try.prog 41 #[.pointer (some ⟨g, 0, none⟩), .slice (some ⟨h, 0, none⟩) n c] w (CurRet w g A len cap (T + 2) (IntP P)) := by
  have HP := Lib.hid (pick_any w g A len cap T n (by omega) hc hT hl)
  have HR := Lib.hid hr
  clear hc hr
  go_enter Try.func41, Try.ntmps41
  go_wp2_with fail
  refine HP.out.mono ?_
  rintro e w1 ⟨v, rfl, ⟨x, rfl, hx1, hx2⟩, hcur, hg⟩
  obtain ⟨k, rfl⟩ : ∃ k : Nat, x = (k : Int) := ⟨x.toNat, by omega⟩
  obtain ⟨s, hs, e1⟩ := HR.out.2 k (by omega)
  have e2 := grown_cell hg HR.out.1 hh e1
  have HCU := Lib.hid hcur
  have HG := Lib.hid hg
  have HS := Lib.hid hs
  clear hcur hg e1 hs
  go_wp2
  go_ret
  exact ⟨_, rfl, ⟨s, rfl, HS.out⟩, HCU.out, HG.out⟩
end Go.Proofs.Ytmfcknlpbliehab

/- The cursor of the laws' draws: path, goodPath. -/
namespace Go.Proofs.Ytmfcknlpbliehab
open Go.RowKit
theorem grown_of_below {w w' : World} (hb : Below w.heap.size w w') (r : Option Nat) : w.grownBy w' r := ⟨hb.os, hb.tape, hb.output, hb.size, fun k hk _ => hb.block k hk⟩
theorem grown_alloc' {w w' : World} {r : Option Nat} (h : w.grownBy w' r) (o : Obj) : w.grownBy (w'.alloc o) r := grown_trans' h (grown_of_below ((Below.refl _ _).alloc (Nat.le_refl _) o) r)
def SizeTo (n : Nat) (s : ByteArray) : Prop := s.size ≤ n
theorem rowUD (w : World) : RowS (w.alloc (.cells #[.string ⟨#[85]⟩, .string ⟨#[68]⟩] 9)) w.heap.size 2 (fun s => s.size = 1) := by
  refine ⟨by simp, fun j hj => ?_⟩
  match j, hj with
  | 0, _ => exact ⟨⟨#[85]⟩, rfl, by simp⟩
  | 1, _ => exact ⟨⟨#[68]⟩, rfl, by simp⟩
set_option maxRecDepth 100000 in
set_option maxHeartbeats 1000000 in
theorem path_any (w : World) (g : Nat) (A : Option Addr) (len cap T most : Nat) (hm : most ≤ 1000) (hc : Cur w g A len cap T) (hT : T ≤ 1000000000) (hl : len ≤ 1099511627776) :
    Calls Try.prog 62 #[.pointer (some ⟨g, 0, none⟩), .int .i64 (most : Nat)] w (CurRet w g A len cap (T + 2 + 2 * most) (StrP (SizeTo most))) := by
  have HP := Lib.hid (pick_any w g A len cap T ((most : Nat) + 1) (by omega) hc (by omega) hl)
  clear hc
  go_enter Try.func62, Try.ntmps62
  go_wp2_with fail
  refine HP.out.mono ?_
  rintro e w1 ⟨v, rfl, ⟨x, rfl, hx1, hx2⟩, hcur, hg⟩
  obtain ⟨k0, rfl⟩ : ∃ k : Nat, x = (k : Int) := ⟨x.toNat, by omega⟩
  have HCU := Lib.hid hcur
  have HG := Lib.hid hg
  clear hcur hg
  go_wp2
  go_loopw [5, 6] (fun o t wr => ∃ (k : Nat) (out : ByteArray) (Tc : Nat), o = .string out ∧ t = .int .i64 (k : Int) ∧ out.size + k ≤ most ∧ Tc + 2 * k ≤ T + 2 + 2 * most ∧ Hid (Cur wr g A len cap Tc) ∧ Hid (w.grownBy wr (some g))) (fun _ t _ => (intOf t).toNat)
  case atStart => exact ⟨k0, ⟨#[]⟩, T + 2, rfl, rfl, by show 0 + k0 ≤ most; omega, by omega, HCU, HG⟩
  case round =>
    obtain ⟨k, out, Tc, rfl, rfl, hsz, hTc, HC, HGR⟩ := hrel
    by_cases hlt : 0 < k
    · have hgl := HC.out.lt
      have HOF := Lib.hid (of_any (fun s => s.size = 1) (wr.alloc (.cells #[.string ⟨#[85]⟩, .string ⟨#[68]⟩] 9)) g A len cap Tc wr.heap.size 2 2 (by omega) (rowUD wr) (by omega) (HC.out.alloc _) (by omega) hl)
      go_wp2_with fail
      refine HOF.out.mono ?_
      rintro e w3 ⟨v, rfl, ⟨s, rfl, hs⟩, hcur, hg⟩
      have hs : s.size = 1 := hs
      have HCU2 := Lib.hid hcur
      have HG2 := Lib.hid hg
      clear hcur hg
      go_wp2
      go_roundw
      case rel => exact ⟨k - 1, out ++ s, Tc + 2, rfl, by go_num, by rw [ByteArray.size_append]; omega, by omega, HCU2, Lib.hid (grown_trans' (grown_alloc' HGR.out _) HG2.out)⟩
      case measure => simp [intOf]; omega
    · obtain rfl : k = 0 := by omega
      go_wp2
      go_ret
      exact ⟨_, rfl, ⟨out, rfl, by unfold SizeTo; omega⟩, HC.out.mono (by omega), HGR.out⟩
theorem size1 (b : UInt8) : (⟨#[b]⟩ : ByteArray).size = 1 := rfl
set_option maxRecDepth 100000 in
set_option maxHeartbeats 2000000 in
theorem goodPath_any (w : World) (g : Nat) (A : Option Addr) (len cap T most : Nat) (hm : most ≤ 1000) (hc : Cur w g A len cap T) (hT : T ≤ 1000000000) (hl : len ≤ 1099511627776) :
    Calls Try.prog 64 #[.pointer (some ⟨g, 0, none⟩), .int .i64 (most : Nat)] w (CurRet w g A len cap (T + 2 + 4 * most) (StrP (SizeTo (2 * most)))) := by
  have HP := Lib.hid (pick_any w g A len cap T ((most : Nat) + 1) (by omega) hc (by omega) hl)
  clear hc
  go_enter Try.func64, Try.ntmps64
  go_wp2_with fail
  refine HP.out.mono ?_
  rintro e w1 ⟨v, rfl, ⟨x, rfl, hx1, hx2⟩, hcur, hg⟩
  obtain ⟨k0, rfl⟩ : ∃ k : Nat, x = (k : Int) := ⟨x.toNat, by omega⟩
  have HCU := Lib.hid hcur
  have HG := Lib.hid hg
  clear hcur hg
  go_wp2
  go_loopw [5, 6, 8] (fun o z t wr => ∃ (k : Nat) (ht : Int) (out : ByteArray) (Tc : Nat), o = .string out ∧ z = .int .i64 ht ∧ t = .int .i64 (k : Int) ∧ out.size + k ≤ 2 * most ∧ -(out.size : Int) ≤ ht ∧ ht ≤ out.size ∧ Tc + 2 * k ≤ T + 2 + 4 * most ∧ Hid (Cur wr g A len cap Tc) ∧ Hid (w.grownBy wr (some g))) (fun _ _ t _ => (intOf t).toNat)
  case atStart => exact ⟨2 * k0, 0, ⟨#[]⟩, T + 2, rfl, rfl, by go_num, by show 0 + 2 * k0 ≤ 2 * most; omega, by omega, by omega, by omega, HCU, HG⟩
  case round =>
    obtain ⟨k, ht, out, Tc, rfl, rfl, rfl, hsz, hh1, hh2, hTc, HC, HGR⟩ := hrel
    have s1 := size1 85
    have s2 := size1 68
    by_cases hlt : 0 < k
    · by_cases he : ht = (k : Int)
      · have b1 : (ht == (k : Int)) = true := beq_iff_eq.2 he
        clear he
        go_wp2
        go_roundw
        case rel => exact ⟨k - 1, ht - 1, out ++ ⟨#[68]⟩, Tc, rfl, by go_num, by go_num, by rw [ByteArray.size_append]; omega, by rw [ByteArray.size_append]; omega, by rw [ByteArray.size_append]; omega, by omega, HC, HGR⟩
        case measure => simp [intOf]; omega
      · have b1 : (ht == (k : Int)) = false := beq_eq_false_iff_ne.2 he
        clear he
        by_cases hp : 0 < ht
        · have HON := Lib.hid (one_any wr g A len cap Tc 2 (by omega) HC.out (by omega) hl)
          go_wp2_with fail
          refine HON.out.mono ?_
          rintro e w3 ⟨v, rfl, ⟨b, rfl⟩, hcur, hg⟩
          have HCU2 := Lib.hid hcur
          have HG2 := Lib.hid hg
          clear hcur hg
          rcases Bool.eq_false_or_eq_true b with rfl | rfl
          · go_wp2
            go_roundw
            case rel => exact ⟨k - 1, ht - 1, out ++ ⟨#[68]⟩, Tc + 2, rfl, by go_num, by go_num, by rw [ByteArray.size_append]; omega, by rw [ByteArray.size_append]; omega, by rw [ByteArray.size_append]; omega, by omega, HCU2, Lib.hid (grown_trans' HGR.out HG2.out)⟩
            case measure => simp [intOf]; omega
          · go_wp2
            go_roundw
            case rel => exact ⟨k - 1, ht + 1, out ++ ⟨#[85]⟩, Tc + 2, rfl, by go_num, by go_num, by rw [ByteArray.size_append]; omega, by rw [ByteArray.size_append]; omega, by rw [ByteArray.size_append]; omega, by omega, HCU2, Lib.hid (grown_trans' HGR.out HG2.out)⟩
            case measure => simp [intOf]; omega
        · have b2 : decide (0 < ht) = false := decide_eq_false hp
          go_wp2
          go_roundw
          case rel => exact ⟨k - 1, ht + 1, out ++ ⟨#[85]⟩, Tc, rfl, by go_num, by go_num, by rw [ByteArray.size_append]; omega, by rw [ByteArray.size_append]; omega, by rw [ByteArray.size_append]; omega, by omega, HC, HGR⟩
          case measure => simp [intOf]; omega
    · obtain rfl : k = 0 := by omega
      go_wp2
      go_ret
      exact ⟨_, rfl, ⟨out, rfl, by unfold SizeTo; omega⟩, HC.out.mono (by omega), HGR.out⟩
end Go.Proofs.Ytmfcknlpbliehab
