/- Pack 27 of what FnBoldPlay needs: RisI, RaS. -/
import Derived.Test.YthgblfldncidnaaKFnBoldPlay26
/- The program's risesTo. -/
namespace Go.Proofs.Ythgblfldncidnaa
open Go.RowKit
set_option linter.unusedVariables false
def rsL (g : Nat) (n d : Int) (m : Nat) : List Int := fr (fun j => if j < m then rsF g n d j else 0) g
theorem rsL_len (g : Nat) (n d : Int) (m : Nat) : (rsL g n d m).length = g := fr_length _ _
theorem rsL_zero (g : Nat) (n d : Int) : List.replicate g (0 : Int) = rsL g n d 0 := by
  apply List.ext_getElem
  · simp [rsL, fr]
  · intro j h1 h2
    simp [rsL, fr]
theorem rsL_set (g : Nat) (n d : Int) (m : Nat) : (rsL g n d m).set m (rsF g n d m) = rsL g n d (m + 1) := by
  refine fr_set1 _ _ _ _ _ ?_ fun j hj hne => ?_
  · show _ = if m < m + 1 then _ else _
    rw [if_pos (by omega)]
  · show (if j < m then _ else _) = if j < m + 1 then _ else _
    by_cases h : j < m
    · rw [if_pos h, if_pos (by omega)]
    · rw [if_neg h, if_neg (by omega)]
theorem rsL_end (g : Nat) (n d : Int) : rsL g n d g = fr (rsF g n d) g := by
  apply List.ext_getElem
  · simp [rsL, fr]
  · intro j h1 h2
    have : j < g := by simpa [rsL, fr] using h1
    simp [rsL, fr, this]
/-- a chance in its box, and a row that may have been written at m -/
structure RsAt (w : World) (n d : Int) (h : Nat) (L : List Int) (m : Nat) (u : Int) (X : World) : Prop where
  box : RBox w w.heap.size n d X
  row : IRow X h (.slice (some ⟨h, 0, none⟩) L.length L.length) L ∨ IRow X h (.slice (some ⟨h, 0, none⟩) L.length L.length) (L.set m u)
theorem RsAt.kept {w X X' : World} {n d u : Int} {h m : Nat} {L : List Int} (H : RsAt w n d h L m u X) (hb : Below X.heap.size X X') : RsAt w n d h L m u X' :=
  ⟨H.box.kept hb, H.row.imp (fun r => r.below hb) (fun r => r.below hb)⟩
theorem RsAt.put {w X : World} {n d u : Int} {h m : Nat} {L : List Int} (H : RsAt w n d h L m u X) : IRow (X.setCell ⟨h, m, none⟩ (.int .i64 u)) h (.slice (some ⟨h, 0, none⟩) L.length L.length) (L.set m u) := by
  rcases H.row with r | r
  · exact (r.set m u).1
  · have := (r.set m u).1
    rwa [List.set_set] at this
theorem RsAt.cell {w X : World} {n d u : Int} {h m : Nat} {L : List Int} (H : RsAt w n d h L m u X) (hm : m < L.length) : (∃ y, X.cell? ⟨h, m, none⟩ = some (.int .i64 y)) ∧ X.frozen? ⟨h, m, none⟩ = false := by
  rcases H.row with r | r
  · exact ⟨⟨_, r.cell hm⟩, r.free m⟩
  · exact ⟨⟨_, r.cell (by rw [List.length_set]; exact hm)⟩, r.free m⟩
theorem RsAt.box' {w X : World} {n d u : Int} {h m : Nat} {L : List Int} (H : RsAt w n d h L m u X) (hh : w.heap.size < h) : RBox w w.heap.size n d (X.setCell ⟨h, m, none⟩ (.int .i64 u)) :=
  ⟨by rw [World.cell?_setCell_other _ _ _ _ (by intro e; injection e with e; omega)]; exact H.box.1, by rw [World.cell?_setCell_other _ _ _ _ (by intro e; injection e with e; omega)]; exact H.box.2.1,
    by simpa [World.setCell] using H.box.2.2.1, H.box.2.2.2.setCell (p := ⟨h, m, none⟩) (by show w.heap.size ≤ h; omega) _⟩
theorem RsAt.store {w X : World} {n d u : Int} {h m : Nat} {L : List Int} (hh : w.heap.size < h) (H : RsAt w n d h L m u X) : RsAt w n d h L m u (X.setCell ⟨h, m, none⟩ (.int .i64 u)) :=
  ⟨H.box' hh, .inr H.put⟩
theorem rsKeep {w X X' : World} {n d u : Int} {h m : Nat} {L : List Int} (H : X.cell? ⟨w.heap.size, 0, none⟩ = some (.int .i64 n) ∧ X.cell? ⟨w.heap.size, 1, none⟩ = some (.int .i64 d) ∧ RsAt w n d h L m u X) (hb : Below X.heap.size X X') :
    X'.cell? ⟨w.heap.size, 0, none⟩ = some (.int .i64 n) ∧ X'.cell? ⟨w.heap.size, 1, none⟩ = some (.int .i64 d) ∧ RsAt w n d h L m u X' := ⟨(H.2.2.kept hb).box.1, (H.2.2.kept hb).box.2.1, H.2.2.kept hb⟩
theorem rsStore {w X : World} {n d u : Int} {h m : Nat} {L : List Int} (hh : Hid (w.heap.size < h)) (H : X.cell? ⟨w.heap.size, 0, none⟩ = some (.int .i64 n) ∧ X.cell? ⟨w.heap.size, 1, none⟩ = some (.int .i64 d) ∧ RsAt w n d h L m u X) :
    (X.setCell ⟨h, m, none⟩ (.int .i64 u)).cell? ⟨w.heap.size, 0, none⟩ = some (.int .i64 n) ∧ (X.setCell ⟨h, m, none⟩ (.int .i64 u)).cell? ⟨w.heap.size, 1, none⟩ = some (.int .i64 d) ∧ RsAt w n d h L m u (X.setCell ⟨h, m, none⟩ (.int .i64 u)) :=
  ⟨(H.2.2.store hh.out).box.1, (H.2.2.store hh.out).box.2.1, H.2.2.store hh.out⟩
theorem rsOf {w X : World} {n d u : Int} {h m : Nat} {L : List Int} (H : X.cell? ⟨w.heap.size, 0, none⟩ = some (.int .i64 n) ∧ X.cell? ⟨w.heap.size, 1, none⟩ = some (.int .i64 d) ∧ RsAt w n d h L m u X) : RsAt w n d h L m u X := H.2.2
set_option maxRecDepth 100000 in
set_option maxHeartbeats 4000000 in
theorem risesTo_any (g : Nat) (n d : Int) (w : World) (hg : 1 ≤ g ∧ g ≤ 12) (hn : 1 ≤ n) (hd : n ≤ d - 1) (hd6 : d ≤ 6) :
    Calls Try.prog 26 #[.int .i64 (g : Int), .agg #[.int .i64 n, .int .i64 d]] w (IntsNew w (fr (rsF g n d) g)) := by
  obtain ⟨i0, hi0, hz0, hz1, hz2⟩ := info_parts intInfo
  obtain ⟨W, hW⟩ : ∃ W, W = w.alloc (.cells #[.int .i64 n, .int .i64 d] 25) := ⟨_, rfl⟩
  have hbx : RBox w w.heap.size n d W := by rw [hW]; exact RBox.start w n d
  have hz : W.heap.size = w.heap.size + 1 := by rw [hW]; simp
  have HBX := Lib.hid hbx
  have HW := Lib.hid hW
  have HZ := Lib.hid hz
  have HLT : Hid (w.heap.size < W.heap.size) := Lib.hid (by omega)
  clear hbx hz hW
  go_enter Try.func26, Try.ntmps26
  go_wp2_with (rw [← HW.out]; refine wpList_make_full _ rfl (.tmp 7) (.tmp 7) 39 rfl W.heap.size 3 i0 (.int .i64 0) 1 Try.underlying39 hi0 hz0 hz1 .i64 .i64 _ _ g rfl rfl (by omega) (by omega) (by rw [hz2]; omega) (by unfold maxLen; omega) (Nat.le_refl _) ?_; intro w1 hown1 hgrow1)
  have HR0 : Hid (IRow w1 W.heap.size (.slice (some ⟨W.heap.size, 0, none⟩) g g) (rsL g n d 0)) := Lib.hid (IRow.of_own hown1 (by simp [rsL_len]) (by rw [← rsL_zero, madeOne _ rfl]; simp))
  have HB0 : Hid (RBox w w.heap.size n d w1) := Lib.hid (HBX.out.kept ((Below.refl _ _).grown hgrow1 (Nat.le_refl _) (by simp)))
  clear hown1 hgrow1
  go_loopw [11] (fun x wq => ∃ m : Nat, m ≤ g ∧ x = .int .i64 (m : Int) ∧ IRow wq W.heap.size (.slice (some ⟨W.heap.size, 0, none⟩) g g) (rsL g n d m) ∧ RBox w w.heap.size n d wq) (fun x _ => g - (intOf x).toNat)
  case atStart => exact ⟨0, Nat.zero_le _, rfl, HR0.out, HB0.out⟩
  case round =>
    obtain ⟨m, hm, rfl, hrow, hbx⟩ := hrel
    clear HR0 HB0
    by_cases hlt : m < g
    · have P1 : Hid (∀ w, Calls Try.prog 22 #[.int .i64 n, .int .i64 ((g : Int) - 1 - (m : Int))] w fun e w' => e = .returned (.int .i64 (n ^ (g - 1 - m))) ∧ w = w') := Lib.hid fun w => by
        have := powerN_any n (g - 1 - m) w (by omega) (by omega)
        rwa [show ((g - 1 - m : Nat) : Int) = (g : Int) - 1 - (m : Int) by omega] at this
      have P2 : Hid (∀ w, Calls Try.prog 22 #[.int .i64 (d - n), .int .i64 (m : Int)] w fun e w' => e = .returned (.int .i64 ((d - n) ^ m)) ∧ w = w') := Lib.hid fun w => powerN_any (d - n) m w (by omega) (by omega)
      have P3 : Hid (∀ w, Calls Try.prog 33 #[.agg #[.int .i64 n, .int .i64 d]] w (Ret w (.int .i64 (d - n)))) := Lib.hid fun w => rest_any n d w (by omega)
      have b0 := rsF_bd hn hd hd6 (show g ≤ 12 by omega) hlt
      have HF : Hid (rsF g n d m = n ^ (g - 1 - m) * (d - n) ^ m) := Lib.hid rfl
      have HL := Lib.hid (rsL_set g n d m)
      have HLL := Lib.hid (rsL_len g n d m)
      rw [HF.out] at b0 HL
      generalize rsL g n d m = L at *
      generalize n ^ (g - 1 - m) = p at *
      generalize (d - n) ^ m = q at *
      have hrs : RsAt w n d W.heap.size L m (p * q) wr.drew := ⟨hbx.drew, .inl (by rw [HLL.out]; exact hrow.below (Below.refl _ _).drew)⟩
      have HRS := Lib.hid hrs
      have i1 : (m : Int) < (g : Int) := by omega
      have i2 : (0 : Int) ≤ (m : Int) := by omega
      have i3 : (m : Int).toNat = m := by omega
      have k1 := IntWalk.i64_in ((g : Int) - 1) (by omega)
      have k2 := IntWalk.i64_in ((g : Int) - 1 - (m : Int)) (by omega)
      have k3 := IntWalk.i64_in (p * q) (by omega)
      clear hrs HF hbx hrow b0
      go_wp2_with fail
      go_region_held3 (fun X => X.cell? ⟨w.heap.size, 0, none⟩ = some (.int .i64 n) ∧ X.cell? ⟨w.heap.size, 1, none⟩ = some (.int .i64 d) ∧ RsAt w n d W.heap.size L m (p * q) X) (first | exact ⟨HRS.out.box.1, HRS.out.box.2.1, HRS.out⟩ | assumption | exact rsKeep (by assumption) (by assumption) | exact rsStore HLT (by assumption)) (first | (go_at_call 22; first | (with_reducible refine (P1.out _).mono ?_; rintro e w' ⟨rfl, rfl⟩) | (with_reducible refine (P2.out _).mono ?_; rintro e w' ⟨rfl, rfl⟩)) | (go_at_call 33; refine (P3.out _).mono ?_; rintro e wz ⟨rfl, hbz⟩; have hz := RsAt.kept (rsOf (by assumption)) hbz; have hzc := hz.cell (by rw [HLL.out]; exact hlt); obtain ⟨⟨y0, s0⟩, s1⟩ := hzc; have HZZ := Lib.hid hz; clear hz))
      go_wp2_with fail
      go_roundw
      case rel => exact ⟨m + 1, by omega, by go_num, by have := HZZ.out.put; rw [HLL.out, HL.out] at this; exact this, HZZ.out.box' HLT.out⟩
      case measure => first | (simp [intOf]; done) | (simp [intOf]; omega)
    · obtain rfl : m = g := by omega
      rw [rsL_end] at hrow
      have HROW := Lib.hid hrow
      clear hrow
      go_wp2_with fail
      go_ret
      exact ⟨_, rfl, HROW.out.mono (by have := HZ.out; omega), hbx.2.2.2⟩
end Go.Proofs.Ythgblfldncidnaa

/- The model's ruTimes; a result box whatever it holds. -/
namespace Go.Proofs.Ythgblfldncidnaa
open Go.RowKit
set_option linter.unusedVariables false
def timB (i g n d k : Int) : Bool := askB i g n d && inBd 0 18 k
theorem timB_of {i g n d k : Int} (h : timB i g n d k = true) : askB i g n d = true ∧ 0 ≤ k ∧ k ≤ 18 := by
  unfold timB inBd at h
  simp only [Bool.and_eq_true, decide_eq_true_eq] at h
  exact ⟨h.1, h.2.1, h.2.2⟩
/-- a chance in its box, and a result behind it, whatever it holds -/
structure RA (w : World) (n d : Int) (W : World) : Prop where
  r : RBox w w.heap.size n d W
  c0 : ∃ u : Int, W.cell? ⟨w.heap.size + 1, 0, none⟩ = some (.int .i64 u)
  c1 : ∃ u : Int, W.cell? ⟨w.heap.size + 1, 1, none⟩ = some (.int .i64 u)
  f0 : W.frozen? ⟨w.heap.size + 1, 0, none⟩ = false
  f1 : W.frozen? ⟨w.heap.size + 1, 1, none⟩ = false
  lt : w.heap.size + 1 < W.heap.size
theorem RA.kept {w W W' : World} {n d : Int} (h : RA w n d W) (hb : Below W.heap.size W W') : RA w n d W' := by
  obtain ⟨u, hu⟩ := h.c0
  obtain ⟨v, hv⟩ := h.c1
  exact ⟨h.r.kept hb, ⟨u, (hb.cell (p := ⟨w.heap.size + 1, 0, none⟩) h.lt).trans hu⟩, ⟨v, (hb.cell (p := ⟨w.heap.size + 1, 1, none⟩) h.lt).trans hv⟩, (hb.frozen (p := ⟨w.heap.size + 1, 0, none⟩) h.lt).trans h.f0, (hb.frozen (p := ⟨w.heap.size + 1, 1, none⟩) h.lt).trans h.f1, Nat.lt_of_lt_of_le h.lt hb.size⟩
theorem RA.of {w W : World} {n d : Int} (h : RZ w n d W) : RA w n d W := ⟨h.r, ⟨0, h.z.c0⟩, ⟨0, h.z.c1⟩, h.z.f0, h.z.f1, h.z.lt⟩
theorem RA.done {w W : World} {n d : Int} (h : RA w n d W) (x y : Int) :
    ((W.setCell ⟨w.heap.size + 1, 0, none⟩ (.int .i64 x)).setCell ⟨w.heap.size + 1, 1, none⟩ (.int .i64 y)).cell? ⟨w.heap.size + 1, 0, none⟩ = some (.int .i64 x) ∧ ((W.setCell ⟨w.heap.size + 1, 0, none⟩ (.int .i64 x)).setCell ⟨w.heap.size + 1, 1, none⟩ (.int .i64 y)).cell? ⟨w.heap.size + 1, 1, none⟩ = some (.int .i64 y) ∧
    RA w n d ((W.setCell ⟨w.heap.size + 1, 0, none⟩ (.int .i64 x)).setCell ⟨w.heap.size + 1, 1, none⟩ (.int .i64 y)) := by
  obtain ⟨u, hu⟩ := h.c0
  obtain ⟨v, hv⟩ := h.c1
  have a0 : ((W.setCell ⟨w.heap.size + 1, 0, none⟩ (.int .i64 x)).setCell ⟨w.heap.size + 1, 1, none⟩ (.int .i64 y)).cell? ⟨w.heap.size + 1, 0, none⟩ = some (.int .i64 x) := (World.cell?_setCell_other _ _ _ _ (by simp)).trans (World.cell?_setCell_same' _ _ _ (by rw [hu]; rfl))
  have a1 : ((W.setCell ⟨w.heap.size + 1, 0, none⟩ (.int .i64 x)).setCell ⟨w.heap.size + 1, 1, none⟩ (.int .i64 y)).cell? ⟨w.heap.size + 1, 1, none⟩ = some (.int .i64 y) := World.cell?_setCell_same' _ _ _ (by rw [World.cell?_setCell_other _ _ _ _ (by simp), hv]; rfl)
  have hne : ∀ o o', (⟨w.heap.size + 1, o, none⟩ : Addr) ≠ ⟨w.heap.size, o', none⟩ := fun o o' e => by injection e with e; omega
  refine ⟨a0, a1, ⟨?_, ?_, ?_, ?_⟩, ⟨x, a0⟩, ⟨y, a1⟩, by rw [World.frozen?_setCell, World.frozen?_setCell]; exact h.f0, by rw [World.frozen?_setCell, World.frozen?_setCell]; exact h.f1, by simpa [World.setCell] using h.lt⟩
  · rw [World.cell?_setCell_other _ _ _ _ (by intro e; injection e with e; omega), World.cell?_setCell_other _ _ _ _ (by intro e; injection e with e; omega)]
    exact h.r.1
  · rw [World.cell?_setCell_other _ _ _ _ (by intro e; injection e with e; omega), World.cell?_setCell_other _ _ _ _ (by intro e; injection e with e; omega)]
    exact h.r.2.1
  · simpa [World.setCell] using h.r.2.2.1
  · exact (h.r.2.2.2.setCell (p := ⟨w.heap.size + 1, 0, none⟩) (by show w.heap.size ≤ w.heap.size + 1; omega) _).setCell (p := ⟨w.heap.size + 1, 1, none⟩) (by show w.heap.size ≤ w.heap.size + 1; omega) _
theorem raKeep {w W W' : World} {n d : Int} (h : W.cell? ⟨w.heap.size, 0, none⟩ = some (.int .i64 n) ∧ W.cell? ⟨w.heap.size, 1, none⟩ = some (.int .i64 d) ∧ RA w n d W) (hb : Below W.heap.size W W') : W'.cell? ⟨w.heap.size, 0, none⟩ = some (.int .i64 n) ∧ W'.cell? ⟨w.heap.size, 1, none⟩ = some (.int .i64 d) ∧ RA w n d W' :=
  ⟨(h.2.2.kept hb).r.1, (h.2.2.kept hb).r.2.1, h.2.2.kept hb⟩
theorem raStore {w W : World} {n d : Int} (x y : Int) (h : W.cell? ⟨w.heap.size, 0, none⟩ = some (.int .i64 n) ∧ W.cell? ⟨w.heap.size, 1, none⟩ = some (.int .i64 d) ∧ RA w n d W) :
    ((W.setCell ⟨w.heap.size + 1, 0, none⟩ (.int .i64 x)).setCell ⟨w.heap.size + 1, 1, none⟩ (.int .i64 y)).cell? ⟨w.heap.size, 0, none⟩ = some (.int .i64 n) ∧ ((W.setCell ⟨w.heap.size + 1, 0, none⟩ (.int .i64 x)).setCell ⟨w.heap.size + 1, 1, none⟩ (.int .i64 y)).cell? ⟨w.heap.size, 1, none⟩ = some (.int .i64 d) ∧
    RA w n d ((W.setCell ⟨w.heap.size + 1, 0, none⟩ (.int .i64 x)).setCell ⟨w.heap.size + 1, 1, none⟩ (.int .i64 y)) :=
  ⟨(h.2.2.done x y).2.2.r.1, (h.2.2.done x y).2.2.r.2.1, (h.2.2.done x y).2.2⟩
theorem raOf {w W : World} {n d : Int} (h : W.cell? ⟨w.heap.size, 0, none⟩ = some (.int .i64 n) ∧ W.cell? ⟨w.heap.size, 1, none⟩ = some (.int .i64 d) ∧ RA w n d W) : RA w n d W := h.2.2
def wwP (i g n d k : Int) : Int := if timB i g n d k = true then numZ (hw i.toNat g.toNat n d k.toNat g.toNat) (d ^ k.toNat) else 0
def wwQ (i g n d k : Int) : Int := if timB i g n d k = true then denZ (hw i.toNat g.toNat n d k.toNat g.toNat) (d ^ k.toNat) else 0
def rwP (i g n d k : Int) : Int := if timB i g n d k = true then numZ (hw i.toNat g.toNat n d k.toNat 0) (d ^ k.toNat) else 0
def rwQ (i g n d k : Int) : Int := if timB i g n d k = true then denZ (hw i.toNat g.toNat n d k.toNat 0) (d ^ k.toNat) else 0
end Go.Proofs.Ythgblfldncidnaa
