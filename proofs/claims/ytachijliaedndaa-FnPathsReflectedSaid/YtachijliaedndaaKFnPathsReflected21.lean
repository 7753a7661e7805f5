/- Pack 21 of what FnPathsReflected needs: Cu4, DrR. -/
import Derived.Test.YtachijliaedndaaKFnPathsReflected20
/- The cursor's heights, walls, numbers of steps. -/
namespace Go.Proofs.Ytachijliaedndaa
open Go.RowKit
set_option linter.unusedVariables false
set_option maxRecDepth 100000 in
set_option maxHeartbeats 2000000 in
theorem height_any (w : World) (g : Nat) (A : Option Addr) (len cap T : Nat) (hc : Cur w g A len cap T) (hT : T ≤ 10000) (hl : len ≤ 1099511627776) :
    Calls Try.prog 209 #[.pointer (some ⟨g, 0, none⟩)] w (CurRet w g A len cap (T + 8) (IntP I64)) := by
  have hgl := hc.lt
  have HC0 : Hid (CurAt w g A len cap T w) := Lib.hid ⟨hc, grown_refl' _ _⟩
  have HONE : Hid (∀ (W : World) (T : Nat) (n : Int), 1 ≤ n ∧ n ≤ 1000 → Cur W g A len cap T → T ≤ 100000 → Calls Try.prog 152 #[.pointer (some ⟨g, 0, none⟩), .int .i64 n] W (CurRet W g A len cap (T + 2) IsBool)) := Lib.hid fun W T n hn h hT => one_any W g A len cap T n (by omega) h (by omega) hl
  have HPICK : Hid (∀ (W : World) (T : Nat) (n : Int), 1 ≤ n ∧ n ≤ 1000 → Cur W g A len cap T → T ≤ 100000 → Calls Try.prog 154 #[.pointer (some ⟨g, 0, none⟩), .int .i64 n] W (CurRet W g A len cap (T + 2) (IntTo n))) := Lib.hid fun W T n hn h hT => pick_any W g A len cap T n (by omega) h (by omega) hl
  have HA0 := Lib.hid (among64 g A len cap hl [-40, 40, -41, 41, 4611686018427387904] (by intro x hx; simp at hx; unfold I64; omega) (by decide))
  clear hc
  go_enter Try.func209, Try.ntmps209
  go_wp2_with fail
  refine (HONE.out _ _ 12 (by omega) HC0.out.1 (by omega)).mono ?_
  rintro e w1 ⟨v, rfl, ⟨bb, rfl⟩, hcur, hg⟩
  have HC1 := Lib.hid (HC0.out.next hcur hg)
  clear hcur hg
  cases bb with
  | true =>
    go_wp2_with fail
    refine (HA0.out _ _ _ _ _ HC1.out.1 (by omega) rfl rfl rfl).mono ?_
    rintro e w2 ⟨v, rfl, ⟨a, rfl, ha⟩, hcur, hg⟩
    have HC2 := Lib.hid ((HC1.out.alloc _).next hcur hg)
    have HI0 := Lib.hid ha
    clear hcur hg ha
    go_wp2_with fail
    go_ret
    exact ⟨_, rfl, ⟨a, rfl, HI0.out⟩, HC2.out.1.mono (by omega), HC2.out.2⟩
  | false =>
    go_wp2_with fail
    refine (HPICK.out _ _ 9 (by omega) HC1.out.1 (by omega)).mono ?_
    rintro e w2 ⟨v, rfl, ⟨a, rfl, ha1, ha2⟩, hcur, hg⟩
    have HC2 := Lib.hid (HC1.out.next hcur hg)
    clear hcur hg
    go_wp2_with fail
    go_ret
    exact ⟨_, rfl, ⟨_, rfl, by unfold I64; omega⟩, HC2.out.1.mono (by omega), HC2.out.2⟩
set_option maxRecDepth 100000 in
set_option maxHeartbeats 2000000 in
theorem upsDowns_any (w : World) (g : Nat) (A : Option Addr) (len cap T : Nat) (hc : Cur w g A len cap T) (hT : T ≤ 10000) (hl : len ≤ 1099511627776) :
    Calls Try.prog 208 #[.pointer (some ⟨g, 0, none⟩)] w (CurRet w g A len cap (T + 8) Two64) := by
  have hgl := hc.lt
  have HC0 : Hid (CurAt w g A len cap T w) := Lib.hid ⟨hc, grown_refl' _ _⟩
  have HONE : Hid (∀ (W : World) (T : Nat) (n : Int), 1 ≤ n ∧ n ≤ 1000 → Cur W g A len cap T → T ≤ 100000 → Calls Try.prog 152 #[.pointer (some ⟨g, 0, none⟩), .int .i64 n] W (CurRet W g A len cap (T + 2) IsBool)) := Lib.hid fun W T n hn h hT => one_any W g A len cap T n (by omega) h (by omega) hl
  have HPICK : Hid (∀ (W : World) (T : Nat) (n : Int), 1 ≤ n ∧ n ≤ 1000 → Cur W g A len cap T → T ≤ 100000 → Calls Try.prog 154 #[.pointer (some ⟨g, 0, none⟩), .int .i64 n] W (CurRet W g A len cap (T + 2) (IntTo n))) := Lib.hid fun W T n hn h hT => pick_any W g A len cap T n (by omega) h (by omega) hl
  have HA0 := Lib.hid (among64 g A len cap hl [-1, 0, 20, 40, 4611686018427387904] (by intro x hx; simp at hx; unfold I64; omega) (by decide))
  have HA1 := Lib.hid (among64 g A len cap hl [0, 1, 20, 21, -1] (by intro x hx; simp at hx; unfold I64; omega) (by decide))
  clear hc
  go_enter Try.func208, Try.ntmps208
  go_wp2_with fail
  refine (HONE.out _ _ 12 (by omega) HC0.out.1 (by omega)).mono ?_
  rintro e w1 ⟨v, rfl, ⟨bb, rfl⟩, hcur, hg⟩
  have HC1 := Lib.hid (HC0.out.next hcur hg)
  clear hcur hg
  cases bb with
  | true =>
    go_wp2_with fail
    refine (HA0.out _ _ _ _ _ HC1.out.1 (by omega) rfl rfl rfl).mono ?_
    rintro e w2 ⟨v, rfl, ⟨a, rfl, ha⟩, hcur, hg⟩
    have HC2 := Lib.hid ((HC1.out.alloc _).next hcur hg)
    have HI0 := Lib.hid ha
    clear hcur hg ha
    go_wp2_with fail
    refine (HA1.out _ _ _ _ _ HC2.out.1 (by omega) rfl rfl rfl).mono ?_
    rintro e w3 ⟨v, rfl, ⟨b, rfl, hb⟩, hcur, hg⟩
    have HC3 := Lib.hid ((HC2.out.alloc _).next hcur hg)
    have HI1 := Lib.hid hb
    clear hcur hg hb
    go_wp2_with fail
    go_ret2
    exact ⟨_, rfl, ⟨a, b, rfl, HI0.out, HI1.out⟩, HC3.out.1.mono (by omega), HC3.out.2⟩
  | false =>
    go_wp2_with fail
    refine (HPICK.out _ _ 7 (by omega) HC1.out.1 (by omega)).mono ?_
    rintro e w2 ⟨v, rfl, ⟨a, rfl, ha1, ha2⟩, hcur, hg⟩
    have HC2 := Lib.hid (HC1.out.next hcur hg)
    clear hcur hg
    go_wp2_with fail
    refine (HPICK.out _ _ 7 (by omega) HC2.out.1 (by omega)).mono ?_
    rintro e w3 ⟨v, rfl, ⟨b, rfl, hb1, hb2⟩, hcur, hg⟩
    have HC3 := Lib.hid (HC2.out.next hcur hg)
    clear hcur hg
    go_wp2_with fail
    go_ret2
    exact ⟨_, rfl, ⟨_, _, rfl, by unfold I64; omega, by unfold I64; omega⟩, HC3.out.1.mono (by omega), HC3.out.2⟩
set_option maxRecDepth 100000 in
set_option maxHeartbeats 2000000 in
theorem walls_any (w : World) (g : Nat) (A : Option Addr) (len cap T : Nat) (hc : Cur w g A len cap T) (hT : T ≤ 10000) (hl : len ≤ 1099511627776) :
    Calls Try.prog 159 #[.pointer (some ⟨g, 0, none⟩)] w (CurRet w g A len cap (T + 8) Two64) := by
  have hgl := hc.lt
  have HC0 : Hid (CurAt w g A len cap T w) := Lib.hid ⟨hc, grown_refl' _ _⟩
  have HONE : Hid (∀ (W : World) (T : Nat) (n : Int), 1 ≤ n ∧ n ≤ 1000 → Cur W g A len cap T → T ≤ 100000 → Calls Try.prog 152 #[.pointer (some ⟨g, 0, none⟩), .int .i64 n] W (CurRet W g A len cap (T + 2) IsBool)) := Lib.hid fun W T n hn h hT => one_any W g A len cap T n (by omega) h (by omega) hl
  have HPICK : Hid (∀ (W : World) (T : Nat) (n : Int), 1 ≤ n ∧ n ≤ 1000 → Cur W g A len cap T → T ≤ 100000 → Calls Try.prog 154 #[.pointer (some ⟨g, 0, none⟩), .int .i64 n] W (CurRet W g A len cap (T + 2) (IntTo n))) := Lib.hid fun W T n hn h hT => pick_any W g A len cap T n (by omega) h (by omega) hl
  have HA0 := Lib.hid (among64 g A len cap hl [-41, -40, 0, 1] (by intro x hx; simp at hx; unfold I64; omega) (by decide))
  have HA1 := Lib.hid (among64 g A len cap hl [0, 40, 41, -1] (by intro x hx; simp at hx; unfold I64; omega) (by decide))
  clear hc
  go_enter Try.func159, Try.ntmps159
  go_wp2_with fail
  refine (HONE.out _ _ 12 (by omega) HC0.out.1 (by omega)).mono ?_
  rintro e w1 ⟨v, rfl, ⟨bb, rfl⟩, hcur, hg⟩
  have HC1 := Lib.hid (HC0.out.next hcur hg)
  clear hcur hg
  cases bb with
  | true =>
    go_wp2_with fail
    refine (HA0.out _ _ _ _ _ HC1.out.1 (by omega) rfl rfl rfl).mono ?_
    rintro e w2 ⟨v, rfl, ⟨a, rfl, ha⟩, hcur, hg⟩
    have HC2 := Lib.hid ((HC1.out.alloc _).next hcur hg)
    have HI0 := Lib.hid ha
    clear hcur hg ha
    go_wp2_with fail
    refine (HA1.out _ _ _ _ _ HC2.out.1 (by omega) rfl rfl rfl).mono ?_
    rintro e w3 ⟨v, rfl, ⟨b, rfl, hb⟩, hcur, hg⟩
    have HC3 := Lib.hid ((HC2.out.alloc _).next hcur hg)
    have HI1 := Lib.hid hb
    clear hcur hg hb
    go_wp2_with fail
    go_ret2
    exact ⟨_, rfl, ⟨a, b, rfl, HI0.out, HI1.out⟩, HC3.out.1.mono (by omega), HC3.out.2⟩
  | false =>
    go_wp2_with fail
    refine (HPICK.out _ _ 4 (by omega) HC1.out.1 (by omega)).mono ?_
    rintro e w2 ⟨v, rfl, ⟨a, rfl, ha1, ha2⟩, hcur, hg⟩
    have HC2 := Lib.hid (HC1.out.next hcur hg)
    clear hcur hg
    go_wp2_with fail
    refine (HPICK.out _ _ 5 (by omega) HC2.out.1 (by omega)).mono ?_
    rintro e w3 ⟨v, rfl, ⟨b, rfl, hb1, hb2⟩, hcur, hg⟩
    have HC3 := Lib.hid (HC2.out.next hcur hg)
    clear hcur hg
    go_wp2_with fail
    go_ret2
    exact ⟨_, rfl, ⟨_, _, rfl, by unfold I64; omega, by unfold I64; omega⟩, HC3.out.1.mono (by omega), HC3.out.2⟩
end Go.Proofs.Ytachijliaedndaa

/- What the law on reflected paths draws (two of three). -/
namespace Go.Proofs.Ytachijliaedndaa
open Go.RowKit
set_option linter.unusedVariables false
set_option maxRecDepth 100000 in
set_option maxHeartbeats 2000000 in
theorem drawFirstAt_any (w : World) (A : Option Addr) (len cap : Nat) (hc : CodeAt w w.heap.size A len) (hl : len ≤ 1099511627776) :
    Calls Try.prog 140 #[.slice A len cap] w fun e w' => ∃ a : ByteArray, ∃ b : Int, e = .returned (.tuple #[.string a, .int .i64 b]) ∧ (a.size ≤ 50 ∧ I64 b) ∧ Below w.heap.size w w' := by
  have HC0 : Hid (CurAt (w.alloc (.cells #[.slice A len cap, .int .i64 0, .int .u64 0] 107)) w.heap.size A len cap 0 (w.alloc (.cells #[.slice A len cap, .int .i64 0, .int .u64 0] 107))) := Lib.hid ⟨Cur.new (cap := cap) hc, grown_refl' _ _⟩
  have HS0 := Lib.hid fun (W : World) (T : Nat) (h : Cur W w.heap.size A len cap T) (hT : T ≤ 10000) => anyPath_any W w.heap.size A len cap T 12 (by omega) h (by omega) hl
  have HS1 := Lib.hid fun (W : World) (T : Nat) (h : Cur W w.heap.size A len cap T) (hT : T ≤ 10000) => height_any W w.heap.size A len cap T h hT hl
  clear hc
  go_enter Try.func140, Try.ntmps140
  go_wp2_with fail
  refine (HS0.out _ _ HC0.out.1 (by omega)).mono ?_
  rintro e w1 ⟨v, rfl, ⟨a, rfl, ha⟩, hcur, hg⟩
  have HC1 := Lib.hid (HC0.out.next hcur hg)
  have Ha : Hid (a.size ≤ 50) := Lib.hid ha
  clear ha
  clear hcur hg
  go_wp2_with fail
  refine (HS1.out _ _ HC1.out.1 (by omega)).mono ?_
  rintro e w2 ⟨v, rfl, ⟨b, rfl, hb⟩, hcur, hg⟩
  have HC2 := Lib.hid (HC1.out.next hcur hg)
  have Hb := Lib.hid hb
  clear hb
  clear hcur hg
  have HB : Hid (Below w.heap.size w w2) := Lib.hid (below_of_new HC2.out.2)
  go_wp2_with fail
  go_ret2
  exact ⟨a, b, rfl, ⟨Ha.out, Hb.out⟩, HB.out⟩
set_option maxHeartbeats 1000000 in
theorem drawReflB_any (w : World) (A : Option Addr) (len cap : Nat) (hc : CodeAt w w.heap.size A len) (hl : len ≤ 1099511627776) :
    Calls Try.prog 10 #[.slice A len cap] w fun e w' => ∃ a : ByteArray, ∃ b : Int, e = .returned (.tuple #[.string a, .int .i64 b]) ∧ (a.size ≤ 50 ∧ I64 b) ∧ Below w.heap.size w w' := by
  have HD := Lib.hid (drawFirstAt_any w A len cap hc hl)
  clear hc
  go_enter Try.func10, Try.ntmps10
  go_wp2_with fail
  refine HD.out.mono ?_
  rintro e w1 ⟨a, b, rfl, hp, hb⟩
  have HP := Lib.hid hp
  have HB := Lib.hid hb
  clear hp hb HD
  go_wp2_with fail
  go_ret2
  exact ⟨a, b, rfl, HP.out, HB.out⟩
set_option maxRecDepth 100000 in
set_option maxHeartbeats 2000000 in
theorem drawTouchText_any (w : World) (A : Option Addr) (len cap : Nat) (hc : CodeAt w w.heap.size A len) (hl : len ≤ 1099511627776) :
    Calls Try.prog 27 #[.slice A len cap] w fun e w' => ∃ c : ByteArray, ∃ a : Int, ∃ b : Int, e = .returned (.tuple #[.string c, .int .i64 a, .int .i64 b]) ∧ (c.size ≤ 50 ∧ I64 a ∧ I64 b) ∧ Below w.heap.size w w' := by
  have HC0 : Hid (CurAt (w.alloc (.cells #[.slice A len cap, .int .i64 0, .int .u64 0] 107)) w.heap.size A len cap 0 (w.alloc (.cells #[.slice A len cap, .int .i64 0, .int .u64 0] 107))) := Lib.hid ⟨Cur.new (cap := cap) hc, grown_refl' _ _⟩
  have HS0 := Lib.hid fun (W : World) (T : Nat) (h : Cur W w.heap.size A len cap T) (hT : T ≤ 10000) => walls_any W w.heap.size A len cap T h hT hl
  have HS1 := Lib.hid fun (W : World) (T : Nat) (h : Cur W w.heap.size A len cap T) (hT : T ≤ 10000) => anyPath_any W w.heap.size A len cap T 20 (by omega) h (by omega) hl
  clear hc
  go_enter Try.func27, Try.ntmps27
  go_wp2_with fail
  refine (HS0.out _ _ HC0.out.1 (by omega)).mono ?_
  rintro e w1 ⟨v, rfl, ⟨a, b, rfl, ha, hb⟩, hcur, hg⟩
  have HC1 := Lib.hid (HC0.out.next hcur hg)
  have Ha := Lib.hid ha
  clear ha
  have Hb := Lib.hid hb
  clear hb
  clear hcur hg
  go_wp2_with fail
  refine (HS1.out _ _ HC1.out.1 (by omega)).mono ?_
  rintro e w2 ⟨v, rfl, ⟨c, rfl, hc⟩, hcur, hg⟩
  have HC2 := Lib.hid (HC1.out.next hcur hg)
  have Hc : Hid (c.size ≤ 50) := Lib.hid hc
  clear hc
  clear hcur hg
  have HB : Hid (Below w.heap.size w w2) := Lib.hid (below_of_new HC2.out.2)
  go_wp2_with fail
  (try simp only [Exit.inBlock, Exit.then])
  refine bodyPost_ret (results_tmp3 rfl _ _ _) rfl ?_
  exact ⟨c, a, b, rfl, ⟨Hc.out, Ha.out, Hb.out⟩, HB.out⟩
end Go.Proofs.Ytachijliaedndaa
