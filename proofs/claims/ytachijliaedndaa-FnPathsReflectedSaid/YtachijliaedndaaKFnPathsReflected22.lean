/- Pack 22 of what FnPathsReflected needs: DrP, CodeIn. -/
import Derived.Test.YtachijliaedndaaKFnPathsReflected21
/- What the law on reflected paths draws: a path to be paired. -/
namespace Go.Proofs.Ytachijliaedndaa
open Go.RowKit
set_option linter.unusedVariables false
theorem rowPr (w : World) : RowS (w.alloc (.cells #[.string ⟨#[85, 68]⟩, .string ⟨#[68, 85]⟩, .string ⟨#[68, 85, 85, 68]⟩, .string ⟨#[85, 68, 68, 85]⟩] 9)) w.heap.size 4 (SizeTo 4) := by
  refine ⟨by simp, fun j hj => ?_⟩
  match j, hj with
  | 0, _ => exact ⟨⟨#[85, 68]⟩, by show 2 ≤ 4; omega, by simp⟩
  | 1, _ => exact ⟨⟨#[68, 85]⟩, by show 2 ≤ 4; omega, by simp⟩
  | 2, _ => exact ⟨⟨#[68, 85, 85, 68]⟩, by show 4 ≤ 4; omega, by simp⟩
  | 3, _ => exact ⟨⟨#[85, 68, 68, 85]⟩, by show 4 ≤ 4; omega, by simp⟩
set_option maxRecDepth 100000 in
set_option maxHeartbeats 2000000 in
theorem drawPairOf_any (w : World) (A : Option Addr) (len cap : Nat) (hc : CodeAt w w.heap.size A len) (hl : len ≤ 1099511627776) :
    Calls Try.prog 22 #[.slice A len cap] w (StrRet w 50) := by
  have HC0 : Hid (CurAt (w.alloc (.cells #[.slice A len cap, .int .i64 0, .int .u64 0] 107)) w.heap.size A len cap 0 (w.alloc (.cells #[.slice A len cap, .int .i64 0, .int .u64 0] 107))) := Lib.hid ⟨Cur.new (cap := cap) hc, grown_refl' _ _⟩
  have HONE := Lib.hid fun (W : World) (T : Nat) (h : Cur W w.heap.size A len cap T) (hT : T ≤ 10000) => one_any W w.heap.size A len cap T 4 (by omega) h (by omega) hl
  have HPICK := Lib.hid fun (W : World) (T : Nat) (h : Cur W w.heap.size A len cap T) (hT : T ≤ 10000) => pick_any W w.heap.size A len cap T 6 (by omega) h (by omega) hl
  have HANY := Lib.hid fun (W : World) (T : Nat) (h : Cur W w.heap.size A len cap T) (hT : T ≤ 10000) => anyPath_any W w.heap.size A len cap T 10 (by omega) h (by omega) hl
  clear hc
  go_enter Try.func22, Try.ntmps22
  go_wp2_with fail
  refine (HONE.out _ _ HC0.out.1 (by omega)).mono ?_
  rintro e w1 ⟨v, rfl, ⟨bb, rfl⟩, hcur, hg⟩
  have HC1 := Lib.hid (HC0.out.next hcur hg)
  clear hcur hg
  cases bb with
  | true =>
    go_wp2_with fail
    refine (HANY.out _ _ HC1.out.1 (by omega)).mono ?_
    rintro e w2 ⟨v, rfl, ⟨s, rfl, hs⟩, hcur, hg⟩
    have HC2 := Lib.hid (HC1.out.next hcur hg)
    have HS : Hid (s.size ≤ 50) := Lib.hid hs
    have HB : Hid (Below w.heap.size w w2) := Lib.hid (below_of_new HC2.out.2)
    clear hcur hg hs
    go_wp2_with fail
    go_ret
    exact ⟨s, rfl, HS.out, HB.out⟩
  | false =>
    go_wp2_with fail
    refine (HPICK.out _ _ HC1.out.1 (by omega)).mono ?_
    rintro e w2 ⟨v, rfl, ⟨x, rfl, hx1, hx2⟩, hcur, hg⟩
    obtain ⟨k0, rfl⟩ : ∃ k : Nat, x = (k : Int) := ⟨x.toNat, by omega⟩
    have HC2 := Lib.hid (HC1.out.next hcur hg)
    clear hcur hg
    go_wp2_with fail
    go_loopw [4, 5] (fun o t wr => ∃ (k : Nat) (out : ByteArray) (Tc : Nat), o = .string out ∧ t = .int .i64 (k : Int) ∧ k ≤ 6 ∧ out.size + 4 * k ≤ 24 ∧ Tc + 2 * k ≤ 100 ∧ Hid (CurAt (w.alloc (.cells #[.slice A len cap, .int .i64 0, .int .u64 0] 107)) w.heap.size A len cap Tc wr)) (fun _ t _ => (intOf t).toNat)
    case atStart => exact ⟨k0 + 1, ⟨#[]⟩, _, rfl, by go_num, by omega, by show 0 + 4 * (k0 + 1) ≤ 24; omega, by omega, HC2⟩
    case round =>
      obtain ⟨k, out, Tc, rfl, rfl, hk, hsz, hTc, HC⟩ := hrel
      by_cases hlt : 0 < k
      · have hgl := HC.out.1.lt
        have HOF := Lib.hid (of_any (SizeTo 4) (wr.alloc (.cells #[.string ⟨#[85, 68]⟩, .string ⟨#[68, 85]⟩, .string ⟨#[68, 85, 85, 68]⟩, .string ⟨#[85, 68, 68, 85]⟩] 9)) w.heap.size A len cap Tc wr.heap.size 4 4 (by omega) (rowPr wr) (by omega) (HC.out.1.alloc _) (by omega) hl)
        go_wp2_with fail
        refine HOF.out.mono ?_
        rintro e w3 ⟨v, rfl, ⟨s, rfl, hs⟩, hcur, hg⟩
        have hs : s.size ≤ 4 := hs
        have HC3 := Lib.hid ((HC.out.alloc _).next hcur hg)
        clear hcur hg
        go_wp2
        go_roundw
        case rel => exact ⟨k - 1, out ++ s, Tc + 2, rfl, by go_num, by omega, by rw [ByteArray.size_append]; omega, by omega, HC3⟩
        case measure => simp [intOf]; omega
      · obtain rfl : k = 0 := by omega
        have HB : Hid (Below w.heap.size w wr) := Lib.hid (below_of_new HC.out.2)
        go_wp2
        go_ret
        exact ⟨out, rfl, by omega, HB.out⟩
end Go.Proofs.Ytachijliaedndaa

/- A slice of bytes that came in. -/
namespace Go.Proofs.Ytachijliaedndaa
open Go.RowKit
theorem cell_lt {w : World} {a : Addr} {v : Value} (h : w.cell? a = some v) : a.block < w.heap.size := by
  rcases Nat.lt_or_ge a.block w.heap.size with h1 | h1
  · exact h1
  · exfalso
    unfold World.cell? at h
    rw [Array.getElem?_eq_none h1] at h
    simp at h
/-- what is known of a slice of bytes that came in -/
def IsCode (w : World) (A : Option Addr) (len cap : Nat) : Prop := CodeAt w w.heap.size A len ∧ len ≤ maxLen
theorem IsCode.nil (w : World) : IsCode w none 0 0 := ⟨fun _ h => absurd h (by omega), by unfold maxLen; omega⟩
theorem IsCode.of {w : World} {x : Addr} {l c : Nat} {zs : List Int} (hl : l ≤ c) (hm : c ≤ maxLen) (hz : zs.length = c) (hcell : ∀ i, i < zs.length → w.cell? (x.add i) = some (.int .u8 (zs.getD i 0))) (hwz : ∀ n ∈ zs, (Lit.int .u8 n).wf = true) : IsCode w (some x) l c := by
  refine ⟨fun j hj => ?_, by omega⟩
  have hj2 : j < zs.length := by omega
  have h := hcell j hj2
  have hb := cell_lt h
  rw [add_block] at hb
  have hw := hwz (zs.getD j 0) (by rw [List.getD_eq_getElem?_getD, List.getElem?_eq_getElem hj2]; exact List.getElem_mem hj2)
  generalize zs.getD j 0 = z at *
  have hr : 0 ≤ z ∧ z ≤ 255 := by
    simp [Lit.wf, IntKind.min, IntKind.max, IntKind.signed, IntKind.bits] at hw
    omega
  refine ⟨x, z.toNat, rfl, hb, by omega, ?_⟩
  rw [h]
  congr 2
  omega
end Go.Proofs.Ytachijliaedndaa
