/- The walk of FnExactDoMeet: it asks the model and the program about copies of two ways and holds the answers against each other. -/
import Derived.Test.YtahnknbggacndaaWwLaw
namespace Go.Proofs.Ytahnknbggacndaa
open Go.RowKit
set_option linter.unusedVariables false
set_option maxRecDepth 100000 in
set_option maxHeartbeats 2000000 in
theorem wFnExactDoMeet_main (x y : Int) (s : ByteArray) (hs : s.size ≤ maxLen) (u v : Int) (t : ByteArray) (ht : t.size ≤ maxLen) (ok k : Bool)
    (hS : Hid (∀ w, Calls Try.prog 42 #[wayV x y s, wayV u v t] w (Ret w (.tuple #[.bool k, .bool ok])))) (hI : Hid (∀ w, Calls Try.prog 43 #[wayV x y s, wayV u v t] w (Ret w (.tuple #[.bool k, .bool ok])))) (w : World) :
    Calls Try.prog 9 #[wayV x y s, wayV u v t] w fun e w' => e = .returned (.bool true) ∧ Below w.heap.size w w' := by
  have HQ0 := Lib.hid (W2.new w x y u v s t 29 29)
  have HT : Hid (∀ (a b : Int) (r : ByteArray) (w : World), Calls Try.prog 25 #[.agg #[.int .i64 a, .int .i64 b, .string r]] w (Ret w (.agg #[.int .i64 a, .int .i64 b, .string r]))) := Lib.hid toWay_any
  have HZ1 := Lib.hid fun W => szWay_any x y s 1048576 W hs ⟨by omega, by omega⟩
  have hx := HQ0.out
  have r0 := hx.a.c0; have r1 := hx.a.c1; have r2 := hx.a.c2; have r3 := hx.b.c0; have r4 := hx.b.c1; have r5 := hx.b.c2
  clear hx
  by_cases hb1 : szW s 1048576 < 0
  · generalize szW s 1048576 = left at *
    go_enter Try.func9, Try.ntmps9
    go_wp2_with fail
    refine (HZ1.out _).mono ?_
    rintro e w1 ⟨rfl, hb1⟩
    have HQ1 := Lib.hid (HQ0.out.kept hb1)
    go_wp2_with fail
    go_ret
    exact ⟨rfl, HQ1.out.below⟩
  have HZ2 := Lib.hid fun W => szWay_any u v t (szW s 1048576) W ht ⟨by omega, by unfold szW at hb1 ⊢; split at hb1 <;> split <;> omega⟩
  generalize szW s 1048576 = left at *
  by_cases hb2 : szW t left < 0
  · generalize szW t left = left2 at *
    go_enter Try.func9, Try.ntmps9
    go_wp2_with fail
    refine (HZ1.out _).mono ?_
    rintro e w1 ⟨rfl, hb1⟩
    have hx := HQ0.out.kept hb1
    clear r0 r1 r2 r3 r4 r5
    have r0 := hx.a.c0; have r1 := hx.a.c1; have r2 := hx.a.c2; have r3 := hx.b.c0; have r4 := hx.b.c1; have r5 := hx.b.c2
    have HQ1 := Lib.hid hx
    clear hx
    go_wp2_with fail
    refine (HZ2.out _).mono ?_
    rintro e w2 ⟨rfl, hb2⟩
    have HQ2 := Lib.hid (HQ1.out.kept hb2)
    go_wp2_with fail
    go_ret
    exact ⟨rfl, HQ2.out.below⟩
  generalize szW t left = left2 at *
  go_enter Try.func9, Try.ntmps9
  go_wp2_with fail
  refine (HZ1.out _).mono ?_
  rintro e w1 ⟨rfl, hb1⟩
  have hx := HQ0.out.kept hb1
  clear r0 r1 r2 r3 r4 r5
  have r0 := hx.a.c0; have r1 := hx.a.c1; have r2 := hx.a.c2; have r3 := hx.b.c0; have r4 := hx.b.c1; have r5 := hx.b.c2
  have HQ1 := Lib.hid hx
  clear hx hb1
  go_wp2_with fail
  refine (HZ2.out _).mono ?_
  rintro e w2 ⟨rfl, hb2⟩
  have HQ := Lib.hid ((HQ1.out.kept hb2).kept (Below.refl _ _).drew)
  clear r0 r1 r2 r3 r4 r5 hb2 HZ1 HZ2
  go_wp2_with fail
  go_region_held3 (fun X => X.cell? ⟨w.heap.size, 0, none⟩ = some (.int .i64 x) ∧ X.cell? ⟨w.heap.size, 1, none⟩ = some (.int .i64 y) ∧ X.cell? ⟨w.heap.size, 2, none⟩ = some (.string s) ∧ X.cell? ⟨w.heap.size + 1, 0, none⟩ = some (.int .i64 u) ∧ X.cell? ⟨w.heap.size + 1, 1, none⟩ = some (.int .i64 v) ∧ X.cell? ⟨w.heap.size + 1, 2, none⟩ = some (.string t) ∧ W2 w x y u v s t X) (first | exact w2Mk HQ.out | assumption | exact w2Keep (by assumption) (by assumption)) (first | (go_at_call 25; refine (HT.out _ _ _ _).mono ?_; rintro en w' ⟨rfl, hb'⟩) | (go_at_call 42; refine (hS.out _).mono ?_; rintro en wz ⟨rfl, hbz⟩; have hq := (w2Of (by assumption)).kept hbz; have HQ2 := Lib.hid (hq.kept (Below.refl _ _).drew); clear hq))
  go_wp2_with fail
  go_region_held3 (fun X => X.cell? ⟨w.heap.size, 0, none⟩ = some (.int .i64 x) ∧ X.cell? ⟨w.heap.size, 1, none⟩ = some (.int .i64 y) ∧ X.cell? ⟨w.heap.size, 2, none⟩ = some (.string s) ∧ X.cell? ⟨w.heap.size + 1, 0, none⟩ = some (.int .i64 u) ∧ X.cell? ⟨w.heap.size + 1, 1, none⟩ = some (.int .i64 v) ∧ X.cell? ⟨w.heap.size + 1, 2, none⟩ = some (.string t) ∧ W2 w x y u v s t X) (first | exact w2Mk HQ2.out | assumption | exact w2Keep (by assumption) (by assumption)) (first | (go_at_call 25; refine (HT.out _ _ _ _).mono ?_; rintro en w' ⟨rfl, hb'⟩) | (go_at_call 43; refine (hI.out _).mono ?_; rintro en wy ⟨rfl, hby⟩; have hq := (w2Of (by assumption)).kept hby; have HQ3 := Lib.hid hq; clear hq))
  go_wp2_with fail
  go_ret
  exact ⟨rfl, HQ3.out.below⟩
end Go.Proofs.Ytahnknbggacndaa
