/- The program's DoMeet, firstMeeting. -/
import Derived.Test.YtahnknbggacndaaArI
namespace Go.Proofs.Ytahnknbggacndaa
open Go.RowKit
set_option linter.unusedVariables false
theorem mtR_sym (x y u v : Int) (s t : ByteArray) : (mtR u v t x y s).isSome = (mtR x y s u v t).isSome := by
  have key : ∀ (x y u v : Int) (s t : ByteArray), (mtR x y s u v t).isSome = true → (mtR u v t x y s).isSome = true := by
    intro x y u v s t h
    have e := mtR_share [(x, y, s), (u, v, t)] 0 1
    have e2 := mtR_share [(x, y, s), (u, v, t)] 1 0
    have h1 := e.1 h
    obtain ⟨k, hk, hh⟩ := h1
    obtain ⟨l, hl, h2, h3⟩ := hasF_iff.1 hh
    exact e2.2 ⟨l, hl, hasF_iff.2 ⟨k, hk, h2.symm, h3.symm⟩⟩
  rw [Bool.eq_iff_iff]
  exact ⟨key _ _ _ _ _ _, key _ _ _ _ _ _⟩
theorem dm_ar (x y u v : Int) (s t : ByteArray) : arOk 2 [(x, y, s), (u, v, t)] = dmOk x y s u v t ∧ (arOk 2 [(x, y, s), (u, v, t)] && !arV 2 [(x, y, s), (u, v, t)]) = dmV x y s u v t := by
  have h1 : arOk 2 [(x, y, s), (u, v, t)] = dmOk x y s u v t := by
    unfold arOk dmOk
    rw [show inBd 1 4 ((2 : Nat) : Int) = true from by decide, Bool.true_and, show List.range 2 = [0, 1] from rfl, List.all_cons, List.all_cons, List.all_nil, Bool.and_true]
    rfl
  have h2 : apB 2 [(x, y, s), (u, v, t)] = !(mtR x y s u v t).isSome := by
    rw [← mtR_sym x y u v s t]
    unfold apB
    rw [show List.range 2 = [0, 1] from rfl, List.all_cons, List.all_cons, List.all_nil, show List.range 0 = [] from rfl, show List.range 1 = [0] from rfl, List.all_nil, List.all_cons, List.all_nil, Bool.true_and, Bool.and_true, Bool.and_true]
    rfl
  refine ⟨h1, ?_⟩
  unfold arV dmV
  rw [h1, h2]
  cases dmOk x y s u v t <;> simp
set_option maxRecDepth 100000 in
set_option maxHeartbeats 1000000 in
theorem doMeetI_ret (x y u v : Int) (s t : ByteArray) (w : World) (hs : s.size ≤ maxLen) (ht : t.size ≤ maxLen) : Calls Try.prog 43 #[wayV x y s, wayV u v t] w (Ret w (.tuple #[.bool (dmV x y s u v t), .bool (dmOk x y s u v t)])) := by
  have HX := Lib.hid (W2.start w x y u v s t)
  have HD := Lib.hid (dm_ar x y u v s t).1
  have HE := Lib.hid (dm_ar x y u v s t).2
  have HA : Hid (∀ (X : World) (g : Nat), g = X.heap.size → Calls Try.prog 52 #[.slice (some ⟨g, 0, none⟩) 2 2] (X.alloc (.cells #[.int .i64 x, .int .i64 y, .string s, .int .i64 u, .int .i64 v, .string t] 33)) fun e w' => e = .returned (.tuple #[.bool (arV 2 [(x, y, s), (u, v, t)]), .bool (arOk 2 [(x, y, s), (u, v, t)])]) ∧ Below X.heap.size X w') := Lib.hid fun X g hg => by
    subst hg
    have hr : RWays (X.alloc (.cells #[.int .i64 x, .int .i64 y, .string s, .int .i64 u, .int .i64 v, .string t] 33)) (.slice (some ⟨X.heap.size, 0, none⟩) 2 2) 2 [(x, y, s), (u, v, t)] := by
      refine ⟨⟨_, _, rfl⟩, fun A k c e => ?_, fun j hj => ?_, fun _ => ⟨X.heap.size, 0, 2, rfl, by simp, fun j hj => ?_⟩⟩
      · injection e with e1 e2 e3
        subst e2 e3
        exact ⟨Nat.le_refl _, by simp [maxLen]⟩
      · match j, hj with
        | 0, _ => exact hs
        | 1, _ => exact ht
      · match j, hj with
        | 0, _ => exact ⟨by simp [go_sem, wg], by simp [go_sem, wg], by simp [go_sem, wg]⟩
        | 1, _ => exact ⟨by simp [go_sem, wg], by simp [go_sem, wg], by simp [go_sem, wg]⟩
    exact (areApartI_ret _ 2 _ _ hr (by omega)).mono fun e w' ⟨h1, h2⟩ => ⟨h1, ((Below.refl _ _).alloc (Nat.le_refl _) _).trans (h2.mono (by simp))⟩
  have hx := HX.out
  have r0 := hx.a.c0
  have r1 := hx.a.c1
  have r2 := hx.a.c2
  have r3 := hx.b.c0
  have r4 := hx.b.c1
  have r5 := hx.b.c2
  clear hx
  rw [← HE.out, ← HD.out]
  generalize arV 2 [(x, y, s), (u, v, t)] = b1 at *
  generalize arOk 2 [(x, y, s), (u, v, t)] = b2 at *
  clear HD HE
  cases b2 with
  | false =>
    go_enter Try.func43, Try.ntmps43
    go_wp2_with (go_at_call 52; refine (HA.out _ _ (by simp)).mono ?_; rintro e w1 ⟨rfl, hb1⟩; have HB := Lib.hid (HX.out.below.trans (hb1.mono HX.out.below.size)); clear hb1)
    go_ret2
    exact ⟨rfl, HB.out⟩
  | true =>
    go_enter Try.func43, Try.ntmps43
    go_wp2_with (go_at_call 52; refine (HA.out _ _ (by simp)).mono ?_; rintro e w1 ⟨rfl, hb1⟩; have HB := Lib.hid (HX.out.below.trans (hb1.mono HX.out.below.size)); clear hb1)
    go_ret2
    exact ⟨by simp, HB.out⟩
set_option maxRecDepth 100000 in
set_option maxHeartbeats 1000000 in
theorem firstMeet_any (x y u v : Int) (s t : ByteArray) (w : World) (hs : s.size ≤ maxLen) (ht : t.size ≤ maxLen) : Calls Try.prog 88 #[wayV x y s, wayV u v t] w (Ret w (mtV (mtR x y s u v t))) := by
  have HX := Lib.hid (W2.start w x y u v s t)
  have H1 : Hid (∀ w, Calls Try.prog 80 #[wayV x y s] w (PsRet w (wayB x y s) (ncN x y s) (ncX x y s))) := Lib.hid fun w => placesOf_any x y s w hs
  have H2 : Hid (∀ w, Calls Try.prog 80 #[wayV u v t] w (PsRet w (wayB u v t) (ncN u v t) (ncX u v t))) := Lib.hid fun w => placesOf_any u v t w ht
  have hn := ncN_25 x y s
  have hm := ncN_25 u v t
  have hx := HX.out
  have r0 := hx.a.c0
  have r1 := hx.a.c1
  have r2 := hx.a.c2
  clear hx
  obtain ⟨R, hR⟩ : ∃ R, mtR x y s u v t = R := ⟨_, rfl⟩
  have HR := Lib.hid hR
  unfold mtR at HR
  rw [hR]
  generalize wayB x y s = o1 at *
  generalize wayB u v t = o2 at *
  generalize ncN x y s = n at *
  generalize ncN u v t = m at *
  generalize ncX x y s = xs at *
  generalize ncX u v t = ys at *
  clear hR
  go_enter Try.func88, Try.ntmps88
  go_wp2_with fail
  refine (H1.out _).mono ?_
  rintro e w1 ⟨v1, rfl, hr1, hb1⟩
  have hx := HX.out.kept hb1
  clear r0 r1 r2
  have r0 := hx.b.c0
  have r1 := hx.b.c1
  have r2 := hx.b.c2
  have HX1 := Lib.hid hx
  have HR1 := Lib.hid (RPls.of_row hr1)
  obtain ⟨A1, c1, rfl⟩ := hr1.shape
  clear hx hb1 hr1
  go_wp2_with fail
  refine (H2.out _).mono ?_
  rintro e w2 ⟨v2, rfl, hr2, hb2⟩
  have HX2 := Lib.hid (HX1.out.kept hb2)
  have HR1' := Lib.hid (HR1.out.below hb2)
  have HR2 := Lib.hid (RPls.of_row hr2)
  obtain ⟨A2, c2, rfl⟩ := hr2.shape
  clear hb2 hr2
  go_wp2_with fail
  refine (firstShared_any _ _ n m xs ys _ HR1'.out HR2.out (by omega) (by omega)).mono ?_
  rintro e w3 ⟨rfl, hb3⟩
  rw [HR.out]
  have HX3 := Lib.hid (HX2.out.kept hb3)
  clear hb3
  rcases R with _ | ⟨p, q⟩
  · unfold mtV
    go_wp2_with fail
    refine bodyPost_ret (v := .tuple #[.int .i64 0, .int .i64 0, .bool false]) (by simp [results, Try.f88, go_sem]) rfl ⟨rfl, HX3.out.below⟩
  · unfold mtV
    go_wp2_with fail
    refine bodyPost_ret (v := .tuple #[.int .i64 (p : Int), .int .i64 (q : Int), .bool true]) (by simp [results, Try.f88, go_sem]) rfl ⟨rfl, HX3.out.below⟩
theorem mtI_ltD {xs ys : List Int} {m : Nat} : ∀ {f i p q : Nat}, mtI xs ys m f i = some (p, q) → i ≤ p ∧ p < i + f
  | 0, i, p, q, h => by simp [mtI] at h
  | f + 1, i, p, q, h => by
    unfold mtI at h
    split at h
    · injection h with h
      injection h with h1 h2
      omega
    · have := mtI_ltD h
      omega
/-- a meeting is one of ways -/
theorem mtR_of {x y u v : Int} {s t : ByteArray} {i j : Nat} (h : mtR x y s u v t = some (i, j)) : (wayB x y s = true ∧ i ≤ s.size) ∧ wayB u v t = true ∧ j ≤ t.size := by
  have h1 : (mtR x y s u v t).isSome = true := by rw [h]; rfl
  have hi := mtI_ltD h
  have key : ∀ (a b : Int) (r : ByteArray) (k : Nat), k < ncN a b r → wayB a b r = true ∧ k ≤ r.size := fun a b r k hk => by
    unfold ncN at hk
    split at hk
    · next hh => exact ⟨hh, by omega⟩
    · omega
  have hj : j < ncN u v t := by
    have gj : ∀ (xs ys : List Int) (m f i p q : Nat), mtI xs ys m f i = some (p, q) → q < m := by
      intro xs ys m f
      induction f with
      | zero => intro i p q h; cases h
      | succ f ih =>
        intro i p q h
        unfold mtI at h
        split at h
        · next j' hj' =>
          injection h with h
          injection h with h1 h2
          subst h2
          rw [← pxF_mtJ] at hj'
          have := pxF_lt hj'
          omega
        · exact ih _ _ _ h
    exact gj _ _ _ _ _ _ _ h
  exact ⟨key _ _ _ _ (by omega), key _ _ _ _ hj⟩
end Go.Proofs.Ytahnknbggacndaa
