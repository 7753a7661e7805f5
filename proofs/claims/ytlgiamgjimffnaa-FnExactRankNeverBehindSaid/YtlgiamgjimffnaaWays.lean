/- without, leadWith, waysOn. -/
import Derived.Test.YtlgiamgjimffnaaMapT
import Derived.Test.YtlgiamgjimffnaaWaysMath
import Derived.Test.YtlgiamgjimffnaaBalCount
import Derived.Deep.RegionHeld3
import Derived.Deep.QuietTactic
import Derived.BigQuiet
import Derived.RegionTactic
import Derived.ChangeAlike
namespace Go.Proofs.Ytlgiamgjimffnaa
open Go.RowKit
def ballotV (a b : Nat) (k l : Int) (mb : Nat) : Value := .agg #[.int .i64 a, .int .i64 b, .int .i64 k, .int .i64 l, .map (some mb)]
set_option maxHeartbeats 400000 in
theorem without_u (u d : Int) (w : World) (hu : -5 ≤ u ∧ u ≤ 100) (hd : -5 ≤ d ∧ d ≤ 100) :
    Calls Try.prog 125 #[.agg #[.int .i64 u, .int .i64 d], .int .u8 85] w (Ret w (.agg #[.int .i64 (u - 1), .int .i64 d])) := by
  go_enter Try.func125, Try.ntmps125
  go_wp2
  refine bodyPost_ret (v := .agg #[.int .i64 (u - 1), .int .i64 d]) (by simp [results, Try.results125, go_sem]) rfl ⟨rfl, ?_⟩
  exact ((Below.refl _ _).alloc (Nat.le_refl _) _).alloc (by simp) _
set_option maxHeartbeats 400000 in
theorem without_d (u d c : Int) (w : World) (hc : (c == 85) = false) (hu : -5 ≤ u ∧ u ≤ 100) (hd : -5 ≤ d ∧ d ≤ 100) :
    Calls Try.prog 125 #[.agg #[.int .i64 u, .int .i64 d], .int .u8 c] w (Ret w (.agg #[.int .i64 u, .int .i64 (d - 1)])) := by
  go_enter Try.func125, Try.ntmps125
  go_wp2
  refine bodyPost_ret (v := .agg #[.int .i64 u, .int .i64 (d - 1)]) (by simp [results, Try.results125, go_sem]) rfl ⟨rfl, ?_⟩
  exact ((Below.refl _ _).alloc (Nat.le_refl _) _).alloc (by simp) _
set_option maxHeartbeats 400000 in
theorem leadWith_any (a b mb : Nat) (k l u d : Int) (w : World) (hab : a + b ≤ 40) (hk : 1 ≤ k ∧ k ≤ 5) (hu : 0 ≤ u ∧ u ≤ a) (hd : 0 ≤ d ∧ d ≤ b) :
    Calls Try.prog 137 #[ballotV a b k l mb, .agg #[.int .i64 u, .int .i64 d]] w (Ret w (.int .i64 (leadV a b k u d))) := by
  have hkj := kmul_bd hk.1 hk.2 (show 0 ≤ (b : Int) - d by omega) (by omega)
  unfold ballotV
  go_enter Try.func137, Try.ntmps137
  go_wp2
  go_ret
  exact ⟨rfl, ((Below.refl _ _).alloc (Nat.le_refl _) _).alloc (by simp) _⟩
theorem cell_grown {w w' : World} {row : Option Nat} (h : w.grownBy w' row) {b : Nat} (hb : b < w.heap.size) (hne : some b ≠ row) (o : Nat) : w'.cell? ⟨b, o, none⟩ = w.cell? ⟨b, o, none⟩ := by
  unfold World.cell?
  rw [h.block b hb hne]
theorem frozen_grown {w w' : World} {row : Option Nat} (h : w.grownBy w' row) {b : Nat} (hb : b < w.heap.size) (hne : some b ≠ row) (o : Nat) : w'.frozen? ⟨b, o, none⟩ = w.frozen? ⟨b, o, none⟩ := by
  unfold World.frozen?
  rw [h.block b hb hne]
theorem grown_trans2 {a b c : World} {r : Option Nat} (h : a.grownBy b r) (k : b.grownBy c r) : a.grownBy c r :=
  ⟨k.os.trans h.os, k.tape.trans h.tape, k.output.trans h.output, Nat.le_trans h.size k.size, fun i hi hn => (k.block i (Nat.lt_of_lt_of_le hi h.size) hn).trans (h.block i hi hn)⟩
/-- what stays while ways are counted: the map right, nothing else turned -/
def Stays (w0 : World) (mb : Nat) (V : Int → Int → Int) (W : World) : Prop := MapOk W mb V ∧ w0.grownBy W (some mb)
theorem Stays.step {w0 W W' : World} {mb : Nat} {V : Int → Int → Int} (h : Stays w0 mb V W) (hm : MapOk W' mb V) (hg : W.grownBy W' (some mb)) : Stays w0 mb V W' := ⟨hm, grown_trans2 h.2 hg⟩
theorem Stays.below {w0 W W' : World} {mb : Nat} {V : Int → Int → Int} (h : Stays w0 mb V W) (hb : Below W.heap.size W W') : Stays w0 mb V W' :=
  ⟨h.1.below hb, grown_trans2 h.2 ⟨hb.os, hb.tape, hb.output, hb.size, fun k hk _ => hb.block k hk⟩⟩
def WaysRet (w : World) (mb : Nat) (V : Int → Int → Int) (x : Int) (e : Ending) (w' : World) : Prop := e = .returned (.int .i64 x) ∧ MapOk w' mb V ∧ w.grownBy w' (some mb)
set_option maxHeartbeats 1000000 in
theorem waysOn_neg (a b mb : Nat) (k l u d : Int) (V : Int → Int → Int) (w : World) (h : MapOk w mb V) (hn : u < 0 ∨ d < 0) :
    Calls Try.prog 124 #[ballotV a b k l mb, .agg #[.int .i64 u, .int .i64 d]] w (WaysRet w mb V 0) := by
  unfold ballotV
  have hm := (h.alloc (.cells #[.int .i64 a, .int .i64 b, .int .i64 k, .int .i64 l, .map (some mb)] 64)).alloc (.cells #[.int .i64 u, .int .i64 d] 61)
  have hg := World.grownBy_alloc (w.alloc (.cells #[.int .i64 a, .int .i64 b, .int .i64 k, .int .i64 l, .map (some mb)] 64)) (.cells #[.int .i64 u, .int .i64 d] 61) (some mb)
  have hg2 := grown_trans2 (World.grownBy_alloc w (.cells #[.int .i64 a, .int .i64 b, .int .i64 k, .int .i64 l, .map (some mb)] 64) (some mb)) hg
  have HM := Lib.hid hm
  have HG := Lib.hid hg2
  clear hm hg hg2 h
  by_cases hu : u < 0
  · go_enter Try.func124, Try.ntmps124
    go_wp2
    go_ret
    exact ⟨rfl, HM.out, HG.out⟩
  · have hd : d < 0 := by omega
    go_enter Try.func124, Try.ntmps124
    go_wp2
    go_ret
    exact ⟨rfl, HM.out, HG.out⟩
/-- the cells of the two boxes, and what stays -/
def SW (a b mb : Nat) (k l u d : Int) (V : Int → Int → Int) (w W : World) : Prop :=
  (W.cell? ⟨w.heap.size, 0, none⟩ = some (.int .i64 a) ∧ W.cell? ⟨w.heap.size, 1, none⟩ = some (.int .i64 b) ∧ W.cell? ⟨w.heap.size, 2, none⟩ = some (.int .i64 k) ∧ W.cell? ⟨w.heap.size, 3, none⟩ = some (.int .i64 l) ∧ W.cell? ⟨w.heap.size, 4, none⟩ = some (.map (some mb)) ∧
    W.cell? ⟨w.heap.size + 1, 0, none⟩ = some (.int .i64 u) ∧ W.cell? ⟨w.heap.size + 1, 1, none⟩ = some (.int .i64 d)) ∧ w.heap.size + 2 ≤ W.heap.size ∧ mb < w.heap.size ∧ Stays w mb V W
section
variable {a b mb : Nat} {k l u d : Int} {V : Int → Int → Int} {w W W' : World}
theorem SW.step (h : SW a b mb k l u d V w W) (hm : MapOk W' mb V) (hg : W.grownBy W' (some mb)) : SW a b mb k l u d V w W' := by
  obtain ⟨⟨h0, h1, h2, h3, h4, h5, h6⟩, hz, hmb, hs⟩ := h
  have e : ∀ x o, w.heap.size ≤ x → x < w.heap.size + 2 → W'.cell? ⟨x, o, none⟩ = W.cell? ⟨x, o, none⟩ := fun x o hx hx2 => cell_grown hg (by omega) (by intro he; injection he with he; omega) o
  exact ⟨⟨(e _ _ (by omega) (by omega)).trans h0, (e _ _ (by omega) (by omega)).trans h1, (e _ _ (by omega) (by omega)).trans h2, (e _ _ (by omega) (by omega)).trans h3, (e _ _ (by omega) (by omega)).trans h4, (e _ _ (by omega) (by omega)).trans h5, (e _ _ (by omega) (by omega)).trans h6⟩, Nat.le_trans hz hg.size, hmb, hs.step hm hg⟩
theorem SW.below (h : SW a b mb k l u d V w W) (hb : Below W.heap.size W W') : SW a b mb k l u d V w W' :=
  h.step (h.2.2.2.1.below hb) ⟨hb.os, hb.tape, hb.output, hb.size, fun k hk _ => hb.block k hk⟩
theorem SW.drew (h : SW a b mb k l u d V w W) : SW a b mb k l u d V w W.drew := h.below (below_drewN (Below.refl _ _) 1)
theorem SW.drewN (h : SW a b mb k l u d V w W) (n : Nat) : SW a b mb k l u d V w (W.drewN n) := h.below (below_drewN (Below.refl _ _) n)
theorem SW.start (h : MapOk w mb V) : SW a b mb k l u d V w ((w.alloc (.cells #[.int .i64 a, .int .i64 b, .int .i64 k, .int .i64 l, .map (some mb)] 64)).alloc (.cells #[.int .i64 u, .int .i64 d] 61)) := by
  have hb : Below w.heap.size w ((w.alloc (.cells #[.int .i64 a, .int .i64 b, .int .i64 k, .int .i64 l, .map (some mb)] 64)).alloc (.cells #[.int .i64 u, .int .i64 d] 61)) := ((Below.refl _ _).alloc (Nat.le_refl _) _).alloc (by simp) _
  refine ⟨by simp [go_sem], by simp, h.lt, h.below hb, ⟨hb.os, hb.tape, hb.output, hb.size, fun k hk _ => hb.block k hk⟩⟩
theorem SW.fin (h : SW a b mb k l u d V w W) {x y : Int} (e : x = y) : WaysRet w mb V y (.returned (.int .i64 x)) W := by subst e; exact ⟨rfl, h.2.2.2.1, h.2.2.2.2⟩
end
set_option maxHeartbeats 2000000 in
theorem waysOn_low (a b mb : Nat) (k l u d : Int) (V : Int → Int → Int) (w : World) (h : MapOk w mb V) (hab : a + b ≤ 40) (hk : 1 ≤ k ∧ k ≤ 5) (hu : 0 ≤ u ∧ u ≤ a) (hd : 0 ≤ d ∧ d ≤ b) (hne : ¬ (u = a ∧ d = b)) (hl : leadV a b k u d < l) :
    Calls Try.prog 124 #[ballotV a b k l mb, .agg #[.int .i64 u, .int .i64 d]] w (WaysRet w mb V 0) := by
  have HLW : Hid (∀ W, SW a b mb k l u d V w W → Calls Try.prog 137 #[.agg #[.int .i64 a, .int .i64 b, .int .i64 k, .int .i64 l, .map (some mb)], .agg #[.int .i64 u, .int .i64 d]] W fun e w' => e = .returned (.int .i64 (leadV a b k u d)) ∧ SW a b mb k l u d V w w') :=
    Lib.hid fun W hW => (leadWith_any a b mb k l u d W hab hk hu hd).mono fun _ _ ⟨h1, h2⟩ => ⟨h1, hW.below h2⟩
  have hS := SW.start (a := a) (b := b) (k := k) (l := l) (u := u) (d := d) h
  have HS := Lib.hid hS.drew
  have hu1 := hu.1
  have hd1 := hd.1
  unfold ballotV
  clear h hS hk hab
  generalize leadV a b k u d = z at *
  by_cases hua : u = (a : Int)
  · have hdb : ¬ d = (b : Int) := fun e => hne ⟨hua, e⟩
    have q1 : (u == (a : Int)) = true := by simpa using hua
    have q2 : (d == (b : Int)) = false := by simpa using hdb
    clear hua hdb hne
    go_enter Try.func124, Try.ntmps124
    go_wp2
    go_region_held3 (fun W => (W.cell? ⟨w.heap.size, 0, none⟩ = some (.int .i64 a) ∧ W.cell? ⟨w.heap.size, 1, none⟩ = some (.int .i64 b) ∧ W.cell? ⟨w.heap.size, 2, none⟩ = some (.int .i64 k) ∧ W.cell? ⟨w.heap.size, 3, none⟩ = some (.int .i64 l) ∧ W.cell? ⟨w.heap.size, 4, none⟩ = some (.map (some mb)) ∧ W.cell? ⟨w.heap.size + 1, 0, none⟩ = some (.int .i64 u) ∧ W.cell? ⟨w.heap.size + 1, 1, none⟩ = some (.int .i64 d)) ∧ w.heap.size + 2 ≤ W.heap.size ∧ mb < w.heap.size ∧ Stays w mb V W) (first | exact HS.out | assumption) (first | (go_at_call 137; refine (HLW.out _ (by assumption)).mono ?_; rintro e w' ⟨rfl, hS'⟩))
    go_wp2
    go_ret
    exact SW.fin (by assumption) rfl
  · have q1 : (u == (a : Int)) = false := by simpa using hua
    clear hua hne
    go_enter Try.func124, Try.ntmps124
    go_wp2
    go_region_held3 (fun W => (W.cell? ⟨w.heap.size, 0, none⟩ = some (.int .i64 a) ∧ W.cell? ⟨w.heap.size, 1, none⟩ = some (.int .i64 b) ∧ W.cell? ⟨w.heap.size, 2, none⟩ = some (.int .i64 k) ∧ W.cell? ⟨w.heap.size, 3, none⟩ = some (.int .i64 l) ∧ W.cell? ⟨w.heap.size, 4, none⟩ = some (.map (some mb)) ∧ W.cell? ⟨w.heap.size + 1, 0, none⟩ = some (.int .i64 u) ∧ W.cell? ⟨w.heap.size + 1, 1, none⟩ = some (.int .i64 d)) ∧ w.heap.size + 2 ≤ W.heap.size ∧ mb < w.heap.size ∧ Stays w mb V W) (first | exact HS.out | assumption) (first | (go_at_call 137; refine (HLW.out _ (by assumption)).mono ?_; rintro e w' ⟨rfl, hS'⟩))
    go_wp2
    go_ret
    exact SW.fin (by assumption) rfl
/-- what the induction gives: the two that are counted ahead -/
structure Subs (a b mb : Nat) (k l u d : Int) (V : Int → Int → Int) (w : World) (x y : Int) : Prop where
  wd : ∀ W, SW a b mb k l u d V w W → Calls Try.prog 125 #[.agg #[.int .i64 u, .int .i64 d], .int .u8 68] W fun e w' => e = .returned (.agg #[.int .i64 u, .int .i64 (d - 1)]) ∧ SW a b mb k l u d V w w'
  wu : ∀ W, SW a b mb k l u d V w W → Calls Try.prog 125 #[.agg #[.int .i64 u, .int .i64 d], .int .u8 85] W fun e w' => e = .returned (.agg #[.int .i64 (u - 1), .int .i64 d]) ∧ SW a b mb k l u d V w w'
  down : ∀ W, SW a b mb k l u d V w W → Calls Try.prog 124 #[.agg #[.int .i64 a, .int .i64 b, .int .i64 k, .int .i64 l, .map (some mb)], .agg #[.int .i64 u, .int .i64 (d - 1)]] W fun e w' => e = .returned (.int .i64 x) ∧ SW a b mb k l u d V w w'
  up : ∀ W, SW a b mb k l u d V w W → Calls Try.prog 124 #[.agg #[.int .i64 a, .int .i64 b, .int .i64 k, .int .i64 l, .map (some mb)], .agg #[.int .i64 (u - 1), .int .i64 d]] W fun e w' => e = .returned (.int .i64 y) ∧ SW a b mb k l u d V w w'
  lead : ¬ (u = a ∧ d = b) → ∀ W, SW a b mb k l u d V w W → Calls Try.prog 137 #[.agg #[.int .i64 a, .int .i64 b, .int .i64 k, .int .i64 l, .map (some mb)], .agg #[.int .i64 u, .int .i64 d]] W fun e w' => ∃ z, e = .returned (.int .i64 z) ∧ ¬ z < l ∧ SW a b mb k l u d V w w'
  sum : ¬ (u = 0 ∧ d = 0) → V u d = x + y
  one : u = 0 ∧ d = 0 → V u d = 1
  xb : 0 ≤ x ∧ x ≤ 1099511627776
  yb : 0 ≤ y ∧ y ≤ 1099511627776
theorem SW.map {a b mb : Nat} {k l u d : Int} {V : Int → Int → Int} {w W : World} (h : SW a b mb k l u d V w W) : MapOk W mb V := h.2.2.2.1
theorem notF {c : Bool} (h : (!c) = false) : c = true := by simpa using h
set_option maxRecDepth 100000 in
set_option maxHeartbeats 4000000 in
theorem waysOn_step (a b mb : Nat) (k l u d x y : Int) (V : Int → Int → Int) (w : World) (h : MapOk w mb V) (hS0 : Subs a b mb k l u d V w x y) (hab : a + b ≤ 40) (hu : 0 ≤ u ∧ u ≤ a) (hd : 0 ≤ d ∧ d ≤ b) :
    Calls Try.prog 124 #[ballotV a b k l mb, .agg #[.int .i64 u, .int .i64 d]] w (WaysRet w mb V (V u d)) := by
  have hS := SW.start (a := a) (b := b) (k := k) (l := l) (u := u) (d := d) h
  have HB := Lib.hid hS0
  have HS := Lib.hid hS.drew
  have HSn := Lib.hid hS
  have hu1 := hu.1
  have hd1 := hd.1
  have hu4 : 0 ≤ u ∧ u ≤ 40 := by omega
  have hd4 : 0 ≤ d ∧ d ≤ 40 := by omega
  have wu : (Lit.int .i64 u).wf = true := WalkArith.wf_i64 (by omega)
  have wd : (Lit.int .i64 d).wf = true := WalkArith.wf_i64 (by omega)
  have hxb := hS0.xb
  have hyb := hS0.yb
  have HW4 := Lib.hid (And.intro wu wd)
  clear wu wd
  unfold ballotV
  clear h hS hS0
  have HWD := Lib.hid HB.out.wd
  have HWU := Lib.hid HB.out.wu
  have HDN := Lib.hid HB.out.down
  have HUP := Lib.hid HB.out.up
  have HL := Lib.hid HB.out.lead
  have HWV : ¬ (u = 0 ∧ d = 0) → Hid ((Lit.int .i64 (V u d)).wf = true) := fun h => Lib.hid (by rw [HB.out.sum h]; exact WalkArith.wf_i64 (by omega))
  by_cases hall : u = (a : Int) ∧ d = (b : Int)
  · obtain ⟨rfl, rfl⟩ := hall
    by_cases h0 : (a : Int) = 0 ∧ (b : Int) = 0
    · have HV := Lib.hid (HB.out.one h0)
      have q3 : ((a : Int) == 0) = true := by simpa using h0.1
      have q4 : ((b : Int) == 0) = true := by simpa using h0.2
      clear h0 HWV
      go_enter Try.func124, Try.ntmps124
      go_wp2
      go_quiet (fail)
      go_wp2
      go_ret
      exact SW.fin (HSn.out.drewN _) HV.out.symm
    · have HV := Lib.hid (HB.out.sum h0)
      have HWV := HWV h0
      rcases (show ((a : Int) == 0) = false ∨ ((a : Int) == 0) = true ∧ ((b : Int) == 0) = false by
        by_cases e : (a : Int) = 0
        · exact .inr ⟨by simpa using e, by simp; omega⟩
        · exact .inl (by simpa using e)) with q3 | ⟨q3, q4⟩
      all_goals
        clear h0
        go_enter Try.func124, Try.ntmps124
        go_wp2
        go_quiet (fail)
        go_wp2_with (at_lookup; refine wpList_lookT2 (.tmp 32) (.tmp 33) rfl rfl rfl (SW.map (HSn.out.drewN _)) _ _ rfl HW4.out.1 HW4.out.2 ?_; intro yy ok hok; have HOK := Lib.hid hok; clear hok)
        all_goals first
          | (go_ret; exact SW.fin (HSn.out.drewN _) (HOK.out (notF (by assumption))))
          | skip
        have tok1 : True := trivial
        have tok2 : True := trivial
        have i9 : IntKind.i64.wrap (x + y) = x + y := IntWalk.i64_in _ (by omega)
        go_region_held3 (fun W => (W.cell? ⟨w.heap.size, 0, none⟩ = some (.int .i64 a) ∧ W.cell? ⟨w.heap.size, 1, none⟩ = some (.int .i64 b) ∧ W.cell? ⟨w.heap.size, 2, none⟩ = some (.int .i64 k) ∧ W.cell? ⟨w.heap.size, 3, none⟩ = some (.int .i64 l) ∧ W.cell? ⟨w.heap.size, 4, none⟩ = some (.map (some mb)) ∧ W.cell? ⟨w.heap.size + 1, 0, none⟩ = some (.int .i64 a) ∧ W.cell? ⟨w.heap.size + 1, 1, none⟩ = some (.int .i64 b)) ∧ w.heap.size + 2 ≤ W.heap.size ∧ mb < w.heap.size ∧ Stays w mb V W) (first | exact SW.drew (HSn.out.drewN _) | exact HSn.out.drewN _ | assumption) (first | (go_at_call 125; have _t := tok1; refine (HWD.out _ (by assumption)).mono ?_; rintro e w' ⟨rfl, hS'⟩; clear tok1 _t) | (go_at_call 125; refine (HWU.out _ (by assumption)).mono ?_; rintro e w' ⟨rfl, hS'⟩) | (go_at_call 124; have _t := tok2; refine (HDN.out _ (by assumption)).mono ?_; rintro e w' ⟨rfl, hS'⟩; clear tok2 _t) | (go_at_call 124; refine (HUP.out _ (by assumption)).mono ?_; rintro e w' ⟨rfl, hS'⟩))
        clear i9
        go_wp2_with (at_mapUpdate; refine wpList_storeT (.tmp 49) (.tmp 50) (.tmp 51) rfl rfl rfl (SW.map (a := a) (b := b) (k := k) (l := l) (u := (a : Int)) (d := (b : Int)) (w := w) (by assumption)) _ _ hu4 hd4 rfl (congrArg (Value.int .i64) HV.out.symm) HW4.out.1 HW4.out.2 HWV.out ?_; intro w9 hm9 hg9; have hS9 := SW.step (a := a) (b := b) (k := k) (l := l) (u := (a : Int)) (d := (b : Int)) (w := w) (by assumption) hm9 hg9)
        go_ret
        exact SW.fin hS9 HV.out.symm
  · have HLL := Lib.hid (HB.out.lead hall)
    by_cases h0 : u = 0 ∧ d = 0
    · have HV := Lib.hid (HB.out.one h0)
      have q3 : (u == 0) = true := by simpa using h0.1
      have q4 : (d == 0) = true := by simpa using h0.2
      clear h0 HWV
      rcases (show (u == (a : Int)) = false ∨ (u == (a : Int)) = true ∧ (d == (b : Int)) = false by
        by_cases e : u = (a : Int)
        · exact .inr ⟨by simpa using e, by simp; omega⟩
        · exact .inl (by simpa using e)) with q1 | ⟨q1, q2⟩
      all_goals
        clear hall
        go_enter Try.func124, Try.ntmps124
        go_wp2
        go_region_held3 (fun W => (W.cell? ⟨w.heap.size, 0, none⟩ = some (.int .i64 a) ∧ W.cell? ⟨w.heap.size, 1, none⟩ = some (.int .i64 b) ∧ W.cell? ⟨w.heap.size, 2, none⟩ = some (.int .i64 k) ∧ W.cell? ⟨w.heap.size, 3, none⟩ = some (.int .i64 l) ∧ W.cell? ⟨w.heap.size, 4, none⟩ = some (.map (some mb)) ∧ W.cell? ⟨w.heap.size + 1, 0, none⟩ = some (.int .i64 u) ∧ W.cell? ⟨w.heap.size + 1, 1, none⟩ = some (.int .i64 d)) ∧ w.heap.size + 2 ≤ W.heap.size ∧ mb < w.heap.size ∧ Stays w mb V W) (first | exact HS.out | assumption) (first | (go_at_call 137; refine (HLL.out _ (by assumption)).mono ?_; rintro e w' ⟨z, rfl, hz, hS'⟩))
        go_wp2
        go_ret
        exact SW.fin (by assumption) HV.out.symm
    · have HV := Lib.hid (HB.out.sum h0)
      have HWV := HWV h0
      rcases (show (u == 0) = false ∨ (u == 0) = true ∧ (d == 0) = false by
        by_cases e : u = 0
        · exact .inr ⟨by simpa using e, by simp; omega⟩
        · exact .inl (by simpa using e)) with q3 | ⟨q3, q4⟩
      all_goals
        clear h0
        rcases (show (u == (a : Int)) = false ∨ (u == (a : Int)) = true ∧ (d == (b : Int)) = false by
          by_cases e : u = (a : Int)
          · exact .inr ⟨by simpa using e, by simp; omega⟩
          · exact .inl (by simpa using e)) with q1 | ⟨q1, q2⟩
      all_goals
        clear hall
        go_enter Try.func124, Try.ntmps124
        go_wp2
        go_region_held3 (fun W => (W.cell? ⟨w.heap.size, 0, none⟩ = some (.int .i64 a) ∧ W.cell? ⟨w.heap.size, 1, none⟩ = some (.int .i64 b) ∧ W.cell? ⟨w.heap.size, 2, none⟩ = some (.int .i64 k) ∧ W.cell? ⟨w.heap.size, 3, none⟩ = some (.int .i64 l) ∧ W.cell? ⟨w.heap.size, 4, none⟩ = some (.map (some mb)) ∧ W.cell? ⟨w.heap.size + 1, 0, none⟩ = some (.int .i64 u) ∧ W.cell? ⟨w.heap.size + 1, 1, none⟩ = some (.int .i64 d)) ∧ w.heap.size + 2 ≤ W.heap.size ∧ mb < w.heap.size ∧ Stays w mb V W) (first | exact HS.out | assumption) (first | (go_at_call 137; refine (HLL.out _ (by assumption)).mono ?_; rintro e w' ⟨z, rfl, hz, hS'⟩))
        go_wp2_with (at_lookup; refine wpList_lookT2 (.tmp 32) (.tmp 33) rfl rfl rfl (SW.map (a := a) (b := b) (k := k) (l := l) (u := u) (d := d) (w := w) (by assumption)) _ _ rfl HW4.out.1 HW4.out.2 ?_; intro yy ok hok; have HOK := Lib.hid hok; clear hok)
        all_goals first
          | (go_ret; exact SW.fin (a := a) (b := b) (k := k) (l := l) (u := u) (d := d) (w := w) (by assumption) (HOK.out (notF (by assumption))))
          | skip
        have tok1 : True := trivial
        have tok2 : True := trivial
        have i9 : IntKind.i64.wrap (x + y) = x + y := IntWalk.i64_in _ (by omega)
        go_region_held3 (fun W => (W.cell? ⟨w.heap.size, 0, none⟩ = some (.int .i64 a) ∧ W.cell? ⟨w.heap.size, 1, none⟩ = some (.int .i64 b) ∧ W.cell? ⟨w.heap.size, 2, none⟩ = some (.int .i64 k) ∧ W.cell? ⟨w.heap.size, 3, none⟩ = some (.int .i64 l) ∧ W.cell? ⟨w.heap.size, 4, none⟩ = some (.map (some mb)) ∧ W.cell? ⟨w.heap.size + 1, 0, none⟩ = some (.int .i64 u) ∧ W.cell? ⟨w.heap.size + 1, 1, none⟩ = some (.int .i64 d)) ∧ w.heap.size + 2 ≤ W.heap.size ∧ mb < w.heap.size ∧ Stays w mb V W) (first | exact SW.drew (a := a) (b := b) (k := k) (l := l) (u := u) (d := d) (w := w) (by assumption) | assumption) (first | (go_at_call 125; have _t := tok1; refine (HWD.out _ (by assumption)).mono ?_; rintro e w' ⟨rfl, hS'⟩; clear tok1 _t) | (go_at_call 125; refine (HWU.out _ (by assumption)).mono ?_; rintro e w' ⟨rfl, hS'⟩) | (go_at_call 124; have _t := tok2; refine (HDN.out _ (by assumption)).mono ?_; rintro e w' ⟨rfl, hS'⟩; clear tok2 _t) | (go_at_call 124; refine (HUP.out _ (by assumption)).mono ?_; rintro e w' ⟨rfl, hS'⟩))
        clear i9
        go_wp2_with (at_mapUpdate; refine wpList_storeT (.tmp 49) (.tmp 50) (.tmp 51) rfl rfl rfl (SW.map (a := a) (b := b) (k := k) (l := l) (u := u) (d := d) (w := w) (by assumption)) _ _ hu4 hd4 rfl (congrArg (Value.int .i64) HV.out.symm) HW4.out.1 HW4.out.2 HWV.out ?_; intro w9 hm9 hg9; have hS9 := SW.step (a := a) (b := b) (k := k) (l := l) (u := u) (d := d) (w := w) (by assumption) hm9 hg9)
        go_ret
        exact SW.fin hS9 HV.out.symm
end Go.Proofs.Ytlgiamgjimffnaa
