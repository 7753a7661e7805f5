/- Pack 2 of what FnFansAndCubes needs: Cur2, Cur3, Bytes. -/
import Derived.Test.YtmfcknlpbliehabKFnFansAndCubes1
import Derived.Laws.IdiomStrings
import Derived.Lib.ConvBytes
/- The cursor of the laws' draws: pick, one, of, among, path. -/
namespace Go.Proofs.Ytmfcknlpbliehab
open Go.RowKit
theorem Cur.mono {w : World} {g : Nat} {A : Option Addr} {len cap T T' : Nat} (h : Cur w g A len cap T) (hT : T ≤ T') : Cur w g A len cap T' :=
  ⟨h.code, h.c0, by obtain ⟨a, h1, h2⟩ := h.c1; exact ⟨a, Nat.le_trans h1 hT, h2⟩, h.c2, h.free, h.lt⟩
theorem Cur.alloc {w : World} {g : Nat} {A : Option Addr} {len cap T : Nat} (h : Cur w g A len cap T) (o : Obj) : Cur (w.alloc o) g A len cap T := by
  have hl := h.lt
  refine ⟨fun j hj => ?_, ?_, ?_, ?_, ?_, by simp; omega⟩
  · obtain ⟨a, x, h1, h2, h3, h4⟩ := h.code j hj
    exact ⟨a, x, h1, h2, h3, by rw [World.cell?_alloc_lt _ _ _ (by rw [add_block]; omega)]; exact h4⟩
  · rw [World.cell?_alloc_lt _ _ _ hl]; exact h.c0
  · obtain ⟨a, h1, h2⟩ := h.c1
    exact ⟨a, h1, by rw [World.cell?_alloc_lt _ _ _ hl]; exact h2⟩
  · obtain ⟨z, h1, h2, h3⟩ := h.c2
    exact ⟨z, h1, h2, by rw [World.cell?_alloc_lt _ _ _ hl]; exact h3⟩
  · intro j
    rw [World.frozen?_alloc_past _ _ _ hl]; exact h.free j
/-- an answer of the cursor: what is handed back, how far it has come, nothing else turned -/
def CurRet (w : World) (g : Nat) (A : Option Addr) (len cap T : Nat) (R : Value → Prop) (e : Ending) (w' : World) : Prop :=
  ∃ v, e = .returned v ∧ R v ∧ Cur w' g A len cap T ∧ w.grownBy w' (some g)
def IntTo (n : Int) (v : Value) : Prop := ∃ x : Int, v = .int .i64 x ∧ 0 ≤ x ∧ x < n
set_option maxHeartbeats 1000000 in
theorem pick_any (w : World) (g : Nat) (A : Option Addr) (len cap T : Nat) (n : Int) (hn : 1 ≤ n ∧ n ≤ 1073741824) (hc : Cur w g A len cap T) (hT : T ≤ 1073741824) (hl : len ≤ 1099511627776) :
    Calls Try.prog 49 #[.pointer (some ⟨g, 0, none⟩), .int .i64 n] w (CurRet w g A len cap (T + 2) (IntTo n)) := by
  by_cases h1 : n ≤ 1
  · obtain rfl : n = 1 := by omega
    go_enter Try.func49, Try.ntmps49
    go_wp2
    go_ret
    exact ⟨_, rfl, ⟨0, rfl, by omega, by omega⟩, hc.mono (by omega), grown_refl' _ _⟩
  · have HN : Hid (∀ (w : World) T, Cur w g A len cap T → T ≤ 1099511627776 → Calls Try.prog 65 #[.pointer (some ⟨g, 0, none⟩)] w fun e w' => ∃ x : Int, e = .returned (.int .i64 x) ∧ 0 ≤ x ∧ x ≤ 255 ∧ Cur w' g A len cap (T + 1) ∧ w.grownBy w' (some g)) := Lib.hid fun w T h1 h2 => next_any w g A len cap T h1 h2 hl
    have HC := Lib.hid hc
    clear hc
    by_cases h2 : n ≤ 200
    · have d1 : decide (n ≤ 1) = false := decide_eq_false h1
      go_enter Try.func49, Try.ntmps49
      go_wp2_with fail
      refine (HN.out _ _ HC.out (by omega)).mono ?_
      rintro e w1 ⟨x, rfl, hx1, hx2, hcur, hg⟩
      have HCU := Lib.hid hcur
      have HG := Lib.hid hg
      clear hcur hg
      go_wp2
      go_ret
      exact ⟨_, rfl, ⟨_, rfl, Int.emod_nonneg _ (by omega), Int.emod_lt_of_pos _ (by omega)⟩, HCU.out.mono (by omega), HG.out⟩
    · have d1 : decide (n ≤ 1) = false := decide_eq_false h1
      go_enter Try.func49, Try.ntmps49
      go_wp2_with fail
      refine (HN.out _ _ HC.out (by omega)).mono ?_
      rintro e w1 ⟨x, rfl, hx1, hx2, hcur, hg⟩
      have HCU := Lib.hid hcur
      have HG := Lib.hid hg
      clear hcur hg
      go_wp2_with fail
      refine (HN.out _ _ HCU.out (by omega)).mono ?_
      rintro e w2 ⟨y, rfl, hy1, hy2, hcur, hg⟩
      have HCU2 := Lib.hid hcur
      have HG2 := Lib.hid hg
      clear hcur hg
      go_wp2
      go_ret
      exact ⟨_, rfl, ⟨_, rfl, Int.emod_nonneg _ (by omega), Int.emod_lt_of_pos _ (by omega)⟩, HCU2.out, grown_trans' HG.out HG2.out⟩
def IsBool (v : Value) : Prop := ∃ b, v = .bool b
set_option maxHeartbeats 1000000 in
theorem one_any (w : World) (g : Nat) (A : Option Addr) (len cap T : Nat) (n : Int) (hn : 1 ≤ n ∧ n ≤ 1073741824) (hc : Cur w g A len cap T) (hT : T ≤ 1073741824) (hl : len ≤ 1099511627776) :
    Calls Try.prog 73 #[.pointer (some ⟨g, 0, none⟩), .int .i64 n] w (CurRet w g A len cap (T + 2) IsBool) := by
  have HP := Lib.hid (pick_any w g A len cap T n hn hc hT hl)
  clear hc
  go_enter Try.func73, Try.ntmps73
  go_wp2_with fail
  refine HP.out.mono ?_
  rintro e w1 ⟨v, rfl, ⟨x, rfl, hx1, hx2⟩, hcur, hg⟩
  have HCU := Lib.hid hcur
  have HG := Lib.hid hg
  clear hcur hg
  go_wp2
  go_ret
  exact ⟨_, rfl, ⟨_, rfl⟩, HCU.out, HG.out⟩
/-- n strings, each with P, lie in block h -/
def RowS (w : World) (h n : Nat) (P : ByteArray → Prop) : Prop := h < w.heap.size ∧ ∀ j, j < n → ∃ s, P s ∧ w.cell? ⟨h, j, none⟩ = some (.string s)
def StrP (P : ByteArray → Prop) (v : Value) : Prop := ∃ s, v = .string s ∧ P s
theorem grown_cell {w w' : World} {g h j : Nat} {v : Value} (hg : w.grownBy w' (some g)) (hh : h < w.heap.size) (hn : h ≠ g) (hc : w.cell? ⟨h, j, none⟩ = some v) : w'.cell? ⟨h, j, none⟩ = some v := by
  rw [← hc]
  unfold World.cell?
  rw [hg.block h hh (fun e => hn (by injection e))]
set_option maxHeartbeats 1000000 in
theorem of_any (P : ByteArray → Prop) (w : World) (g : Nat) (A : Option Addr) (len cap T h n c : Nat) (hn : 1 ≤ n ∧ n ≤ 1073741824) (hr : RowS w h n P) (hh : h ≠ g) (hc : Cur w g A len cap T) (hT : T ≤ 1073741824) (hl : len ≤ 1099511627776) :
    Calls Try.prog 63 #[.pointer (some ⟨g, 0, none⟩), .slice (some ⟨h, 0, none⟩) n c] w (CurRet w g A len cap (T + 2) (StrP P)) := by
  have HP := Lib.hid (pick_any w g A len cap T n (by omega) hc hT hl)
  have HR := Lib.hid hr
  clear hc hr
  go_enter Try.func63, Try.ntmps63
  go_wp2_with fail
  refine HP.out.mono ?_
  rintro e w1 ⟨v, rfl, ⟨x, rfl, hx1, hx2⟩, hcur, hg⟩
  obtain ⟨k, rfl⟩ : ∃ k : Nat, x = (k : Int) := ⟨x.toNat, by omega⟩
  obtain ⟨s, hs, e1⟩ := HR.out.2 k (by omega)
  have e2 := grown_cell hg HR.out.1 hh e1
  have HCU := Lib.hid hcur
  have HG := Lib.hid hg
  have HS := Lib.hid hs
  clear hcur hg e1 hs
  go_wp2
  go_ret
  exact ⟨_, rfl, ⟨s, rfl, HS.out⟩, HCU.out, HG.out⟩
/-- n numbers, each with P, lie in block h -/
def RowI (w : World) (h n : Nat) (P : Int → Prop) : Prop := h < w.heap.size ∧ ∀ j, j < n → ∃ s, P s ∧ w.cell? ⟨h, j, none⟩ = some (.int .i64 s)
def IntP (P : Int → Prop) (v : Value) : Prop := ∃ s, v = .int .i64 s ∧ P s
set_option maxHeartbeats 1000000 in
theorem among_any (P : Int → Prop) (w : World) (g : Nat) (A : Option Addr) (len cap T h n c : Nat) (hn : 1 ≤ n ∧ n ≤ 1073741824) (hr : RowI w h n P) (hh : h ≠ g) (hc : Cur w g A len cap T) (hT : T ≤ 1073741824) (hl : len ≤ 1099511627776) :
    Calls Try.prog 41 #[.pointer (some ⟨g, 0, none⟩), .slice (some ⟨h, 0, none⟩) n c] w (CurRet w g A len cap (T + 2) (IntP P)) := by
  have HP := Lib.hid (pick_any w g A len cap T n (by omega) hc hT hl)
  have HR := Lib.hid hr
  clear hc hr
  go_enter Try.func41, Try.ntmps41
  go_wp2_with fail
  refine HP.out.mono ?_
  rintro e w1 ⟨v, rfl, ⟨x, rfl, hx1, hx2⟩, hcur, hg⟩
  obtain ⟨k, rfl⟩ : ∃ k : Nat, x = (k : Int) := ⟨x.toNat, by omega⟩
  obtain ⟨s, hs, e1⟩ := HR.out.2 k (by omega)
  have e2 := grown_cell hg HR.out.1 hh e1
  have HCU := Lib.hid hcur
  have HG := Lib.hid hg
  have HS := Lib.hid hs
  clear hcur hg e1 hs
  go_wp2
  go_ret
  exact ⟨_, rfl, ⟨s, rfl, HS.out⟩, HCU.out, HG.out⟩
end Go.Proofs.Ytmfcknlpbliehab

/- The cursor of the laws' draws: path, goodPath. -/
namespace Go.Proofs.Ytmfcknlpbliehab
open Go.RowKit
theorem grown_of_below {w w' : World} (hb : Below w.heap.size w w') (r : Option Nat) : w.grownBy w' r := ⟨hb.os, hb.tape, hb.output, hb.size, fun k hk _ => hb.block k hk⟩
theorem grown_alloc' {w w' : World} {r : Option Nat} (h : w.grownBy w' r) (o : Obj) : w.grownBy (w'.alloc o) r := grown_trans' h (grown_of_below ((Below.refl _ _).alloc (Nat.le_refl _) o) r)
def SizeTo (n : Nat) (s : ByteArray) : Prop := s.size ≤ n
theorem rowUD (w : World) : RowS (w.alloc (.cells #[.string ⟨#[85]⟩, .string ⟨#[68]⟩] 9)) w.heap.size 2 (fun s => s.size = 1) := by
  refine ⟨by simp, fun j hj => ?_⟩
  match j, hj with
  | 0, _ => exact ⟨⟨#[85]⟩, rfl, by simp⟩
  | 1, _ => exact ⟨⟨#[68]⟩, rfl, by simp⟩
set_option maxRecDepth 100000 in
set_option maxHeartbeats 1000000 in
theorem path_any (w : World) (g : Nat) (A : Option Addr) (len cap T most : Nat) (hm : most ≤ 1000) (hc : Cur w g A len cap T) (hT : T ≤ 1000000000) (hl : len ≤ 1099511627776) :
    Calls Try.prog 62 #[.pointer (some ⟨g, 0, none⟩), .int .i64 (most : Nat)] w (CurRet w g A len cap (T + 2 + 2 * most) (StrP (SizeTo most))) := by
  have HP := Lib.hid (pick_any w g A len cap T ((most : Nat) + 1) (by omega) hc (by omega) hl)
  clear hc
  go_enter Try.func62, Try.ntmps62
  go_wp2_with fail
  refine HP.out.mono ?_
  rintro e w1 ⟨v, rfl, ⟨x, rfl, hx1, hx2⟩, hcur, hg⟩
  obtain ⟨k0, rfl⟩ : ∃ k : Nat, x = (k : Int) := ⟨x.toNat, by omega⟩
  have HCU := Lib.hid hcur
  have HG := Lib.hid hg
  clear hcur hg
  go_wp2
  go_loopw [5, 6] (fun o t wr => ∃ (k : Nat) (out : ByteArray) (Tc : Nat), o = .string out ∧ t = .int .i64 (k : Int) ∧ out.size + k ≤ most ∧ Tc + 2 * k ≤ T + 2 + 2 * most ∧ Hid (Cur wr g A len cap Tc) ∧ Hid (w.grownBy wr (some g))) (fun _ t _ => (intOf t).toNat)
  case atStart => exact ⟨k0, ⟨#[]⟩, T + 2, rfl, rfl, by show 0 + k0 ≤ most; omega, by omega, HCU, HG⟩
  case round =>
    obtain ⟨k, out, Tc, rfl, rfl, hsz, hTc, HC, HGR⟩ := hrel
    by_cases hlt : 0 < k
    · have hgl := HC.out.lt
      have HOF := Lib.hid (of_any (fun s => s.size = 1) (wr.alloc (.cells #[.string ⟨#[85]⟩, .string ⟨#[68]⟩] 9)) g A len cap Tc wr.heap.size 2 2 (by omega) (rowUD wr) (by omega) (HC.out.alloc _) (by omega) hl)
      go_wp2_with fail
      refine HOF.out.mono ?_
      rintro e w3 ⟨v, rfl, ⟨s, rfl, hs⟩, hcur, hg⟩
      have hs : s.size = 1 := hs
      have HCU2 := Lib.hid hcur
      have HG2 := Lib.hid hg
      clear hcur hg
      go_wp2
      go_roundw
      case rel => exact ⟨k - 1, out ++ s, Tc + 2, rfl, by go_num, by rw [ByteArray.size_append]; omega, by omega, HCU2, Lib.hid (grown_trans' (grown_alloc' HGR.out _) HG2.out)⟩
      case measure => simp [intOf]; omega
    · obtain rfl : k = 0 := by omega
      go_wp2
      go_ret
      exact ⟨_, rfl, ⟨out, rfl, by unfold SizeTo; omega⟩, HC.out.mono (by omega), HGR.out⟩
theorem size1 (b : UInt8) : (⟨#[b]⟩ : ByteArray).size = 1 := rfl
set_option maxRecDepth 100000 in
set_option maxHeartbeats 2000000 in
theorem goodPath_any (w : World) (g : Nat) (A : Option Addr) (len cap T most : Nat) (hm : most ≤ 1000) (hc : Cur w g A len cap T) (hT : T ≤ 1000000000) (hl : len ≤ 1099511627776) :
    Calls Try.prog 64 #[.pointer (some ⟨g, 0, none⟩), .int .i64 (most : Nat)] w (CurRet w g A len cap (T + 2 + 4 * most) (StrP (SizeTo (2 * most)))) := by
  have HP := Lib.hid (pick_any w g A len cap T ((most : Nat) + 1) (by omega) hc (by omega) hl)
  clear hc
  go_enter Try.func64, Try.ntmps64
  go_wp2_with fail
  refine HP.out.mono ?_
  rintro e w1 ⟨v, rfl, ⟨x, rfl, hx1, hx2⟩, hcur, hg⟩
  obtain ⟨k0, rfl⟩ : ∃ k : Nat, x = (k : Int) := ⟨x.toNat, by omega⟩
  have HCU := Lib.hid hcur
  have HG := Lib.hid hg
  clear hcur hg
  go_wp2
  go_loopw [5, 6, 8] (fun o z t wr => ∃ (k : Nat) (ht : Int) (out : ByteArray) (Tc : Nat), o = .string out ∧ z = .int .i64 ht ∧ t = .int .i64 (k : Int) ∧ out.size + k ≤ 2 * most ∧ -(out.size : Int) ≤ ht ∧ ht ≤ out.size ∧ Tc + 2 * k ≤ T + 2 + 4 * most ∧ Hid (Cur wr g A len cap Tc) ∧ Hid (w.grownBy wr (some g))) (fun _ _ t _ => (intOf t).toNat)
  case atStart => exact ⟨2 * k0, 0, ⟨#[]⟩, T + 2, rfl, rfl, by go_num, by show 0 + 2 * k0 ≤ 2 * most; omega, by omega, by omega, by omega, HCU, HG⟩
  case round =>
    obtain ⟨k, ht, out, Tc, rfl, rfl, rfl, hsz, hh1, hh2, hTc, HC, HGR⟩ := hrel
    have s1 := size1 85
    have s2 := size1 68
    by_cases hlt : 0 < k
    · by_cases he : ht = (k : Int)
      · have b1 : (ht == (k : Int)) = true := beq_iff_eq.2 he
        clear he
        go_wp2
        go_roundw
        case rel => exact ⟨k - 1, ht - 1, out ++ ⟨#[68]⟩, Tc, rfl, by go_num, by go_num, by rw [ByteArray.size_append]; omega, by rw [ByteArray.size_append]; omega, by rw [ByteArray.size_append]; omega, by omega, HC, HGR⟩
        case measure => simp [intOf]; omega
      · have b1 : (ht == (k : Int)) = false := beq_eq_false_iff_ne.2 he
        clear he
        by_cases hp : 0 < ht
        · have HON := Lib.hid (one_any wr g A len cap Tc 2 (by omega) HC.out (by omega) hl)
          go_wp2_with fail
          refine HON.out.mono ?_
          rintro e w3 ⟨v, rfl, ⟨b, rfl⟩, hcur, hg⟩
          have HCU2 := Lib.hid hcur
          have HG2 := Lib.hid hg
          clear hcur hg
          rcases Bool.eq_false_or_eq_true b with rfl | rfl
          · go_wp2
            go_roundw
            case rel => exact ⟨k - 1, ht - 1, out ++ ⟨#[68]⟩, Tc + 2, rfl, by go_num, by go_num, by rw [ByteArray.size_append]; omega, by rw [ByteArray.size_append]; omega, by rw [ByteArray.size_append]; omega, by omega, HCU2, Lib.hid (grown_trans' HGR.out HG2.out)⟩
            case measure => simp [intOf]; omega
          · go_wp2
            go_roundw
            case rel => exact ⟨k - 1, ht + 1, out ++ ⟨#[85]⟩, Tc + 2, rfl, by go_num, by go_num, by rw [ByteArray.size_append]; omega, by rw [ByteArray.size_append]; omega, by rw [ByteArray.size_append]; omega, by omega, HCU2, Lib.hid (grown_trans' HGR.out HG2.out)⟩
            case measure => simp [intOf]; omega
        · have b2 : decide (0 < ht) = false := decide_eq_false hp
          go_wp2
          go_roundw
          case rel => exact ⟨k - 1, ht + 1, out ++ ⟨#[85]⟩, Tc, rfl, by go_num, by go_num, by rw [ByteArray.size_append]; omega, by rw [ByteArray.size_append]; omega, by rw [ByteArray.size_append]; omega, by omega, HC, HGR⟩
          case measure => simp [intOf]; omega
    · obtain rfl : k = 0 := by omega
      go_wp2
      go_ret
      exact ⟨_, rfl, ⟨out, rfl, by unfold SizeTo; omega⟩, HC.out.mono (by omega), HGR.out⟩
end Go.Proofs.Ytmfcknlpbliehab

/- Words for memory: bytes that the call owns; the two conversions between bytes and strings. -/
namespace Go.Proofs.Ytmfcknlpbliehab
open Go.RowKit

theorem bytInfo : (Try.prog.info? 5).map (fun i => (i.zero, i.size, i.bytes)) = some (some (.int .u8 0), 1, 1) := by kernel_rfl
def bv (c : UInt8) : Value := .int .u8 (c.toNat : Int)
/-- the slice value v owns the bytes xs, in a block from B on -/
def BOwn (w : World) (B : Nat) (v : Value) (xs : List UInt8) : Prop := w.ownsRow B 5 1 v xs.length (xs.map bv)
section
variable {w w' : World} {B : Nat} {v : Value} {xs : List UInt8}
theorem BOwn.nil (w : World) (B : Nat) : BOwn w B (.slice none 0 0) [] := World.ownsRow_nil _ _ _ _
theorem BOwn.mono (h : BOwn w B v xs) {B' : Nat} (hb : B' ≤ B) : BOwn w B' v xs := by
  refine ⟨h.1, ?_⟩
  rcases h.2 with h2 | ⟨g, cap, cur, hv, hg, r⟩
  · exact .inl h2
  · exact .inr ⟨g, cap, cur, hv, Nat.le_trans hb hg, r⟩
theorem BOwn.alloc (h : BOwn w B v xs) (o : Obj) : BOwn (w.alloc o) B v xs := World.ownsRow.alloc h o
theorem BOwn.drew (h : BOwn w B v xs) : BOwn w.drew B v xs := h
theorem BOwn.drewN (h : BOwn w B v xs) (n : Nat) : BOwn (w.drewN n) B v xs := h
theorem BOwn.below (h : BOwn w B v xs) (hb : Below w.heap.size w w') : BOwn w' B v xs :=
  World.ownsRow.kept (row := none) h ⟨hb.os, hb.tape, hb.output, hb.size, fun k hk _ => hb.block k hk⟩ (by cases v.ownBlock <;> simp)
theorem BOwn.form' {n : Nat} (h : BOwn w B v xs) (hn : xs.length = n) (hx : 0 < n) : ∃ g c, v = .slice (some ⟨g, 0, none⟩) n c ∧ B ≤ g ∧ g < w.heap.size := by
  subst hn
  rcases h.2 with ⟨_, h0⟩ | ⟨g, cap, cur, hv, hg, hh, hc, hm, _⟩
  · omega
  · exact ⟨g, cap, hv, hg, (Array.getElem?_eq_some_iff.1 hh).1⟩
theorem BOwn.shape (h : BOwn w B v xs) : ∃ A c, v = .slice A xs.length c := by
  rcases h.2 with ⟨h1, h0⟩ | ⟨g, cap, cur, hv, _⟩
  · exact ⟨none, 0, by rw [h1, h0]⟩
  · exact ⟨_, cap, hv⟩
theorem BOwn.len {A : Option Addr} {n c : Nat} (h : BOwn w B (.slice A n c) xs) : n = xs.length := by
  rcases h.2 with ⟨h0, h1⟩ | ⟨g', cap, cur, hv, _⟩
  · simp at h0; omega
  · simp at hv; exact hv.2.1
theorem BOwn.cell {g c n : Nat} (h : BOwn w B (.slice (some ⟨g, 0, none⟩) n c) xs) {j : Nat} (hj : j < xs.length) : w.cell? ⟨g, j, none⟩ = some (.int .u8 ((xs[j]).toNat : Int)) := by
  have hn := h.len
  subst hn
  rw [World.ownsRow.cellAt h j (by omega)]
  simp [hj, bv]
theorem BOwn.free {g c n : Nat} (h : BOwn w B (.slice (some ⟨g, 0, none⟩) n c) xs) (j : Nat) : w.frozen? ⟨g, j, none⟩ = false := by
  have hn := h.len
  subst hn
  exact World.ownsRow.frozenAt h j
theorem BOwn.set {g c n : Nat} (h : BOwn w B (.slice (some ⟨g, 0, none⟩) n c) xs) (j : Nat) (u : UInt8) :
    BOwn (w.setCell ⟨g, j, none⟩ (.int .u8 (u.toNat : Int))) B (.slice (some ⟨g, 0, none⟩) n c) (xs.set j u) ∧ w.grownBy (w.setCell ⟨g, j, none⟩ (.int .u8 (u.toNat : Int))) (some g) := by
  have hn := h.len
  subst hn
  have := World.ownsRow.stored h j (bv u)
  refine ⟨?_, this.2⟩
  have h1 := this.1
  unfold BOwn
  rw [List.length_set, List.map_set]
  exact h1
theorem BOwn.blk (h : BOwn w B v xs) : ∀ k, v.ownBlock = some k → B ≤ k ∧ k < w.heap.size := World.ownsRow.lt h
theorem BOwn.of_own {n : Nat} {ys : List Value} (h : w.ownsRow B 5 1 v n ys) (hn : n = xs.length) (hy : ys = xs.map bv) : BOwn w B v xs := by subst hn hy; exact h
end

/-- append of one byte to a slice of the call's own -/
theorem wpList_pushB {ops : Array Oper} {rest : List Oper} {o : Oper} {a : Act} {Q : Exit → Act → World → Prop} {w : World} (u : UInt8) (s x : Operand) (hgd : o.guard = none)
    (ho : o.op = .call { callee := .builtin .append, args := #[s, x], argTypes := #[22, 22] })
    (B : Nat) (v : Value) (xs : List UInt8) (hs : a.eval s = v) (hown : BOwn w B v xs) (hx : a.eval x = .slice (some ⟨w.heap.size, 0, none⟩) 1 1)
    (hlen : xs.length ≤ 1099511627776) (hB : B ≤ w.heap.size)
    (h : ∀ v' w', BOwn w' B v' (xs ++ [u]) → w.grownBy w' v.ownBlock → (v'.ownBlock = v.ownBlock ∨ ∃ g, v'.ownBlock = some g ∧ w.heap.size ≤ g) → wpList Try.prog ops Q rest (a.put o.dst v') w') :
    wpList Try.prog ops Q (o :: rest) a (w.alloc (.cells #[.int .u8 (u.toNat : Int)] 5)) := by
  obtain ⟨i0, hi, hz0, hz1, hz2⟩ := info_parts bytInfo
  refine wpList_append_own_at _ hgd s x 22 ho B 5 i0 (.int .u8 0) 1 1 Try.underlying22 hi hz0 hz1 hz2 rfl (by decide) v xs.length (xs.map bv) hs (World.ownsRow.alloc hown _)
    ⟨w.heap.size, 0, none⟩ 1 1 [bv u] hx rfl ?_ ?_ ?_ ?_ ?_ ?_
  · intro j y hj
    match j, hj with
    | 0, hj => simp at hj; subst hj; simp [Addr.add, bv]
  · intro y hy; simp at hy; subst hy; rfl
  · unfold maxLen; omega
  · omega
  · simp; omega
  · intro v' w' h1 h2 _ h4
    refine h v' w' ?_ (grown_alloc_left h2) ?_
    · unfold BOwn
      simpa using h1
    · rcases h4 with h4 | h4
      · exact .inl h4
      · exact .inr ⟨_, h4, by simp⟩

theorem ret_sb {a b : ByteArray} {c d : Bool} (h : a = b) (k : c = d) : Ending.returned (.tuple #[.string a, .bool c]) = .returned (.tuple #[.string b, .bool d]) := by rw [h, k]
theorem ret_s {a b : ByteArray} (h : a = b) : Ending.returned (.string a) = .returned (.string b) := by rw [h]
/-- bytes as a string -/
def strOf (l : List UInt8) : ByteArray := ⟨l.toArray⟩
theorem strOf_list (l : List UInt8) : (strOf l).data.toList = l := by simp [strOf]
theorem strOf_size (l : List UInt8) : (strOf l).size = l.length := by simp [strOf, ByteArray.size]
theorem strOf_self (s : ByteArray) : strOf s.data.toList = s := by simp [strOf]

theorem run_str_cells (w : World) (g n c : Nat) (xs : List UInt8) (hn : xs.length = n) (hc : ∀ j (hj : j < xs.length), w.cell? ⟨g, j, none⟩ = some (.int .u8 ((xs[j]).toNat : Int))) :
    (convert 22 9 (.slice (some ⟨g, 0, none⟩) n c)).run Try.prog w = .ok (.string (strOf xs)) w := by
  subst hn
  exact run_convert_bytes_back w 22 9 5 ⟨g, 0, none⟩ c xs Try.underlying22 Try.underlying5 Try.underlying9 (fun j hj => by
    have : (⟨g, 0, none⟩ : Addr).add j = ⟨g, j, none⟩ := by unfold Addr.add; split <;> simp_all
    rw [this]; exact hc j hj)
theorem run_str_nil (w : World) : (convert 22 9 (.slice none 0 0)).run Try.prog w = .ok (.string (strOf [])) w := by
  rw [run_convert_bytes_string w 22 9 5 none 0 0 Try.underlying22 Try.underlying5 Try.underlying9]
  rfl
theorem run_str_own {w : World} {B : Nat} {v : Value} {xs : List UInt8} (h : BOwn w B v xs) : (convert 22 9 v).run Try.prog w = .ok (.string (strOf xs)) w := by
  rcases h.2 with ⟨h1, h0⟩ | ⟨g, cap, cur, hv, _⟩
  · obtain rfl := h1
    obtain rfl : xs = [] := List.eq_nil_of_length_eq_zero h0
    exact run_str_nil w
  · subst hv
    exact run_str_cells w g _ cap xs rfl fun j hj => h.cell hj

/-- the world behind a conversion of a string to bytes -/
def bsWorld (w : World) (s : ByteArray) : World := Lib.bytesWorld w 5 s
def bsCap (w : World) (s : ByteArray) : Nat := grownCap w s.size 0 5
theorem run_bytes (s : ByteArray) (w : World) : (convert 9 22 (.string s)).run Try.prog w = .ok (.slice (some ⟨w.heap.size, 0, none⟩) s.size (bsCap w s)) (bsWorld w s) :=
  Lib.run_convert_string_bytes w 9 22 5 s Try.underlying9 Try.underlying22 Try.underlying5
theorem bsWorld_size (w : World) (s : ByteArray) : (bsWorld w s).heap.size = w.heap.size + 1 := Lib.bytesWorld_size _ _ _
theorem bsWorld_below (w : World) (s : ByteArray) : Below w.heap.size w (bsWorld w s) := by
  refine ⟨?_, ?_, ?_, by rw [bsWorld_size]; omega, fun k hk => Lib.bytesWorld_at_old w _ s k hk⟩ <;>
    simp [bsWorld, Lib.bytesWorld, World.freeze, World.alloc, World.drew, -World.alloc_eq, -World.drew_eq]

/-- bytes that lie in one block from its head, none of them frozen -/
structure BRow (w : World) (B g : Nat) (xs : List UInt8) : Prop where
  from_ : B ≤ g
  lt : g < w.heap.size
  cell : ∀ j (h : j < xs.length), w.cell? ⟨g, j, none⟩ = some (.int .u8 ((xs[j]).toNat : Int))
  free : ∀ j, j < xs.length → w.frozen? ⟨g, j, none⟩ = false
theorem BRow.below {w w' : World} {B g : Nat} {xs : List UInt8} (h : BRow w B g xs) (hb : Below w.heap.size w w') : BRow w' B g xs :=
  ⟨h.from_, Nat.lt_of_lt_of_le h.lt hb.size, fun j hj => (hb.cell (p := ⟨g, j, none⟩) h.lt).trans (h.cell j hj), fun j hj => (hb.frozen (p := ⟨g, j, none⟩) h.lt).trans (h.free j hj)⟩
theorem BRow.drew {w : World} {B g : Nat} {xs : List UInt8} (h : BRow w B g xs) : BRow w.drew B g xs := ⟨h.from_, h.lt, h.cell, h.free⟩
theorem BRow.mono {w : World} {B B' g : Nat} {xs : List UInt8} (h : BRow w B g xs) (hb : B' ≤ B) : BRow w B' g xs := ⟨Nat.le_trans hb h.from_, h.lt, h.cell, h.free⟩
theorem BRow.of_bs (w : World) (s : ByteArray) : BRow (bsWorld w s) w.heap.size w.heap.size s.data.toList := by
  refine ⟨Nat.le_refl _, by rw [bsWorld_size]; omega, fun j hj => ?_, fun j hj => ?_⟩
  · have := Lib.bytesWorld_cell w 5 s j (by simpa using hj)
    rw [List.getD_eq_getElem?_getD, List.getElem?_eq_getElem hj] at this
    exact this
  · unfold bsWorld World.frozen?
    rw [Lib.bytesWorld_at_new]
    have : s.size ≤ (Lib.bytesCells w 5 s).size := by simp [Lib.bytesCells]
    have hs : j < s.size := by simpa using hj
    have : ¬ (Lib.bytesCells w 5 s).size ≤ j := by omega
    simp [this]
theorem BRow.of_own {w : World} {B g n c : Nat} {xs : List UInt8} (h : BOwn w B (.slice (some ⟨g, 0, none⟩) n c) xs) : BRow w B g xs :=
  ⟨(h.blk g rfl).1, (h.blk g rfl).2, fun _ hj => h.cell hj, fun j _ => h.free j⟩
theorem BRow.set {w : World} {B g : Nat} {xs : List UInt8} (h : BRow w B g xs) (j : Nat) (u : UInt8) (hj : j < xs.length) : BRow (w.setCell ⟨g, j, none⟩ (.int .u8 (u.toNat : Int))) B g (xs.set j u) := by
  refine ⟨h.from_, by simpa [World.setCell] using h.lt, fun i hi => ?_, fun i hi => ?_⟩
  · rw [List.length_set] at hi
    by_cases e : j = i
    · subst e
      rw [List.getElem_set_self]
      exact World.cell?_setCell_same w ⟨g, j, none⟩ _ (h.cell j hj)
    · rw [List.getElem_set_ne e]
      rw [World.cell?_setCell_other w ⟨g, j, none⟩ ⟨g, i, none⟩ _ (fun h => e (by injection h))]
      exact h.cell i hi
  · rw [List.length_set] at hi
    rw [World.frozen?_setCell]
    exact h.free i hi
end Go.Proofs.Ytmfcknlpbliehab
