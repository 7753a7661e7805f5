/- Pack 33 of what FnRecordsTold needs: DrT, CodeIn. -/
import Derived.Test.YtachijliaedndaaKFnRecordsTold32
/- What the law on records draws. -/
namespace Go.Proofs.Ytachijliaedndaa
open Go.RowKit
set_option linter.unusedVariables false
set_option maxRecDepth 100000 in
set_option maxHeartbeats 2000000 in
theorem pairs_any (w : World) (g : Nat) (A : Option Addr) (len cap T : Nat) (hc : Cur w g A len cap T) (hT : T ≤ 10000) (hl : len ≤ 1099511627776) :
    Calls Try.prog 250 #[.pointer (some ⟨g, 0, none⟩)] w (CurRet w g A len cap (T + 8) (IntP I64)) := by
  have hgl := hc.lt
  have HC0 : Hid (CurAt w g A len cap T w) := Lib.hid ⟨hc, grown_refl' _ _⟩
  have HONE : Hid (∀ (W : World) (T : Nat) (n : Int), 1 ≤ n ∧ n ≤ 1000 → Cur W g A len cap T → T ≤ 100000 → Calls Try.prog 152 #[.pointer (some ⟨g, 0, none⟩), .int .i64 n] W (CurRet W g A len cap (T + 2) IsBool)) := Lib.hid fun W T n hn h hT => one_any W g A len cap T n (by omega) h (by omega) hl
  have HPICK : Hid (∀ (W : World) (T : Nat) (n : Int), 1 ≤ n ∧ n ≤ 1000 → Cur W g A len cap T → T ≤ 100000 → Calls Try.prog 154 #[.pointer (some ⟨g, 0, none⟩), .int .i64 n] W (CurRet W g A len cap (T + 2) (IntTo n))) := Lib.hid fun W T n hn h hT => pick_any W g A len cap T n (by omega) h (by omega) hl
  have HA0 := Lib.hid (among64 g A len cap hl [-1, 0, 15, 16, 4611686018427387904] (by intro x hx; simp at hx; unfold I64; omega) (by decide))
  clear hc
  go_enter Try.func250, Try.ntmps250
  go_wp2_with fail
  refine (HONE.out _ _ 12 (by omega) HC0.out.1 (by omega)).mono ?_
  rintro e w1 ⟨v, rfl, ⟨bb, rfl⟩, hcur, hg⟩
  have HC1 := Lib.hid (HC0.out.next hcur hg)
  clear hcur hg
  cases bb with
  | true =>
    go_wp2_with fail
    refine (HA0.out _ _ _ _ _ HC1.out.1 (by omega) rfl rfl rfl).mono ?_
    rintro e w2 ⟨v, rfl, ⟨a, rfl, ha⟩, hcur, hg⟩
    have HC2 := Lib.hid ((HC1.out.alloc _).next hcur hg)
    have HI0 := Lib.hid ha
    clear hcur hg ha
    go_wp2_with fail
    go_ret
    exact ⟨_, rfl, ⟨a, rfl, HI0.out⟩, HC2.out.1.mono (by omega), HC2.out.2⟩
  | false =>
    go_wp2_with fail
    refine (HPICK.out _ _ 10 (by omega) HC1.out.1 (by omega)).mono ?_
    rintro e w2 ⟨v, rfl, ⟨a, rfl, ha1, ha2⟩, hcur, hg⟩
    have HC2 := Lib.hid (HC1.out.next hcur hg)
    clear hcur hg
    go_wp2_with fail
    go_ret
    exact ⟨_, rfl, ⟨_, rfl, by unfold I64; omega⟩, HC2.out.1.mono (by omega), HC2.out.2⟩
set_option maxRecDepth 100000 in
set_option maxHeartbeats 2000000 in
theorem drawRecords_any (w : World) (A : Option Addr) (len cap : Nat) (hc : CodeAt w w.heap.size A len) (hl : len ≤ 1099511627776) :
    Calls Try.prog 50 #[.slice A len cap] w fun e w' => ∃ a : ByteArray, e = .returned (.string a) ∧ (a.size ≤ 50) ∧ Below w.heap.size w w' := by
  have HC0 : Hid (CurAt (w.alloc (.cells #[.slice A len cap, .int .i64 0, .int .u64 0] 107)) w.heap.size A len cap 0 (w.alloc (.cells #[.slice A len cap, .int .i64 0, .int .u64 0] 107))) := Lib.hid ⟨Cur.new (cap := cap) hc, grown_refl' _ _⟩
  have HS0 := Lib.hid fun (W : World) (T : Nat) (h : Cur W w.heap.size A len cap T) (hT : T ≤ 10000) => anyPath_any W w.heap.size A len cap T 14 (by omega) h (by omega) hl
  clear hc
  go_enter Try.func50, Try.ntmps50
  go_wp2_with fail
  refine (HS0.out _ _ HC0.out.1 (by omega)).mono ?_
  rintro e w1 ⟨v, rfl, ⟨a, rfl, ha⟩, hcur, hg⟩
  have HC1 := Lib.hid (HC0.out.next hcur hg)
  have Ha : Hid (a.size ≤ 50) := Lib.hid ha
  clear ha
  clear hcur hg
  have HB : Hid (Below w.heap.size w w1) := Lib.hid (below_of_new HC1.out.2)
  go_wp2_with fail
  go_ret
  exact ⟨a, rfl, Ha.out, HB.out⟩
set_option maxRecDepth 100000 in
set_option maxHeartbeats 2000000 in
theorem drawByPeaks_any (w : World) (A : Option Addr) (len cap : Nat) (hc : CodeAt w w.heap.size A len) (hl : len ≤ 1099511627776) :
    Calls Try.prog 191 #[.slice A len cap] w fun e w' => ∃ a : Int, e = .returned (.int .i64 a) ∧ (I64 a) ∧ Below w.heap.size w w' := by
  have HC0 : Hid (CurAt (w.alloc (.cells #[.slice A len cap, .int .i64 0, .int .u64 0] 107)) w.heap.size A len cap 0 (w.alloc (.cells #[.slice A len cap, .int .i64 0, .int .u64 0] 107))) := Lib.hid ⟨Cur.new (cap := cap) hc, grown_refl' _ _⟩
  have HS0 := Lib.hid fun (W : World) (T : Nat) (h : Cur W w.heap.size A len cap T) (hT : T ≤ 10000) => pairs_any W w.heap.size A len cap T h hT hl
  clear hc
  go_enter Try.func191, Try.ntmps191
  go_wp2_with fail
  refine (HS0.out _ _ HC0.out.1 (by omega)).mono ?_
  rintro e w1 ⟨v, rfl, ⟨a, rfl, ha⟩, hcur, hg⟩
  have HC1 := Lib.hid (HC0.out.next hcur hg)
  have Ha := Lib.hid ha
  clear ha
  clear hcur hg
  have HB : Hid (Below w.heap.size w w1) := Lib.hid (below_of_new HC1.out.2)
  go_wp2_with fail
  go_ret
  exact ⟨a, rfl, Ha.out, HB.out⟩
set_option maxHeartbeats 1000000 in
theorem drawByRecords_any (w : World) (A : Option Addr) (len cap : Nat) (hc : CodeAt w w.heap.size A len) (hl : len ≤ 1099511627776) :
    Calls Try.prog 61 #[.slice A len cap] w fun e w' => ∃ a : Int, e = .returned (.int .i64 a) ∧ (I64 a) ∧ Below w.heap.size w w' := by
  have HD := Lib.hid (drawByPeaks_any w A len cap hc hl)
  clear hc
  go_enter Try.func61, Try.ntmps61
  go_wp2_with fail
  refine HD.out.mono ?_
  rintro e w1 ⟨a, rfl, hp, hb⟩
  have HP := Lib.hid hp
  have HB := Lib.hid hb
  clear hp hb HD
  go_wp2_with fail
  go_ret
  exact ⟨a, rfl, HP.out, HB.out⟩
end Go.Proofs.Ytachijliaedndaa

/- A slice of bytes that came in. -/
namespace Go.Proofs.Ytachijliaedndaa
open Go.RowKit
theorem cell_lt {w : World} {a : Addr} {v : Value} (h : w.cell? a = some v) : a.block < w.heap.size := by
  rcases Nat.lt_or_ge a.block w.heap.size with h1 | h1
  · exact h1
  · exfalso
    unfold World.cell? at h
    rw [Array.getElem?_eq_none h1] at h
    simp at h
/-- what is known of a slice of bytes that came in -/
def IsCode (w : World) (A : Option Addr) (len cap : Nat) : Prop := CodeAt w w.heap.size A len ∧ len ≤ maxLen
theorem IsCode.nil (w : World) : IsCode w none 0 0 := ⟨fun _ h => absurd h (by omega), by unfold maxLen; omega⟩
theorem IsCode.of {w : World} {x : Addr} {l c : Nat} {zs : List Int} (hl : l ≤ c) (hm : c ≤ maxLen) (hz : zs.length = c) (hcell : ∀ i, i < zs.length → w.cell? (x.add i) = some (.int .u8 (zs.getD i 0))) (hwz : ∀ n ∈ zs, (Lit.int .u8 n).wf = true) : IsCode w (some x) l c := by
  refine ⟨fun j hj => ?_, by omega⟩
  have hj2 : j < zs.length := by omega
  have h := hcell j hj2
  have hb := cell_lt h
  rw [add_block] at hb
  have hw := hwz (zs.getD j 0) (by rw [List.getD_eq_getElem?_getD, List.getElem?_eq_getElem hj2]; exact List.getElem_mem hj2)
  generalize zs.getD j 0 = z at *
  have hr : 0 ≤ z ∧ z ≤ 255 := by
    simp [Lit.wf, IntKind.min, IntKind.max, IntKind.signed, IntKind.bits] at hw
    omega
  refine ⟨x, z.toNat, rfl, hb, by omega, ?_⟩
  rw [h]
  congr 2
  omega
end Go.Proofs.Ytachijliaedndaa
