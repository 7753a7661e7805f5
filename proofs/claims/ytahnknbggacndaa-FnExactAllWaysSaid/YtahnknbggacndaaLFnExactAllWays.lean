/- The walk of FnExactAllWays: it asks the model and the program about copies of two cells, holds the slices of ways against each other, marks, asks again. -/
import Derived.Test.YtahnknbggacndaaWpI
import Derived.Test.YtahnknbggacndaaWMark
import Derived.Deep.RegionHeld3
namespace Go.Proofs.Ytahnknbggacndaa
open Go.RowKit
set_option linter.unusedVariables false
/-- two boxes -/
def Q2B (w : World) (n d m e : Int) (X : World) : Prop := QB w.heap.size n d X ∧ QB (w.heap.size + 1) m e X ∧ Below w.heap.size w X
theorem Q2B.below {w X X' : World} {n d m e : Int} (h : Q2B w n d m e X) (hb : Below X.heap.size X X') : Q2B w n d m e X' := ⟨h.1.below hb, h.2.1.below hb, h.2.2.trans (hb.mono h.2.2.size)⟩
theorem Q2B.new (w : World) (n d m e : Int) (t u : TypeId) : Q2B w n d m e ((w.alloc (.cells #[.int .i64 n, .int .i64 d] t)).alloc (.cells #[.int .i64 m, .int .i64 e] u)) :=
  ⟨(QB.new w n d t).below ((Below.refl _ _).alloc (Nat.le_refl _) _), by have := QB.new (w.alloc (.cells #[.int .i64 n, .int .i64 d] t)) m e u; simpa using this, ((Below.refl _ _).alloc (Nat.le_refl _) _).alloc (by simp) _⟩
/-- two boxes and what is kept beside them -/
def Q2P (w : World) (n d m e : Int) (P : World → Prop) (X : World) : Prop := Q2B w n d m e X ∧ P X
structure KeptP (P : World → Prop) : Prop where
  out : ∀ X X', P X → Below X.heap.size X X' → P X'
theorem Q2P.below {w X X' : World} {n d m e : Int} {P : World → Prop} (h : Q2P w n d m e P X) (hP : KeptP P) (hb : Below X.heap.size X X') : Q2P w n d m e P X' := ⟨h.1.below hb, hP.out _ _ h.2 hb⟩
theorem q2pMk {w X : World} {n d m e : Int} {P : World → Prop} (k : Q2P w n d m e P X) :
    X.cell? ⟨w.heap.size, 0, none⟩ = some (.int .i64 n) ∧ X.cell? ⟨w.heap.size, 1, none⟩ = some (.int .i64 d) ∧ X.cell? ⟨w.heap.size + 1, 0, none⟩ = some (.int .i64 m) ∧ X.cell? ⟨w.heap.size + 1, 1, none⟩ = some (.int .i64 e) ∧ Q2P w n d m e P X := ⟨k.1.1.c0, k.1.1.c1, k.1.2.1.c0, k.1.2.1.c1, k⟩
theorem q2pOf {w X : World} {n d m e : Int} {P : World → Prop} (h : X.cell? ⟨w.heap.size, 0, none⟩ = some (.int .i64 n) ∧ X.cell? ⟨w.heap.size, 1, none⟩ = some (.int .i64 d) ∧ X.cell? ⟨w.heap.size + 1, 0, none⟩ = some (.int .i64 m) ∧ X.cell? ⟨w.heap.size + 1, 1, none⟩ = some (.int .i64 e) ∧ Q2P w n d m e P X) : Q2P w n d m e P X := h.2.2.2.2
theorem q2pKeep {w X X' : World} {n d m e : Int} {P : World → Prop} (h : X.cell? ⟨w.heap.size, 0, none⟩ = some (.int .i64 n) ∧ X.cell? ⟨w.heap.size, 1, none⟩ = some (.int .i64 d) ∧ X.cell? ⟨w.heap.size + 1, 0, none⟩ = some (.int .i64 m) ∧ X.cell? ⟨w.heap.size + 1, 1, none⟩ = some (.int .i64 e) ∧ Q2P w n d m e P X) (hP : Hid (KeptP P)) (hb : Below X.heap.size X X') :
    X'.cell? ⟨w.heap.size, 0, none⟩ = some (.int .i64 n) ∧ X'.cell? ⟨w.heap.size, 1, none⟩ = some (.int .i64 d) ∧ X'.cell? ⟨w.heap.size + 1, 0, none⟩ = some (.int .i64 m) ∧ X'.cell? ⟨w.heap.size + 1, 1, none⟩ = some (.int .i64 e) ∧ Q2P w n d m e P X' := q2pMk (h.2.2.2.2.below hP.out hb)
/-- nothing beside -/
def P0 (X : World) : Prop := True
/-- the first slice beside; the heap has reached b -/
def P1 (B b : Nat) (v : Value) (L : List Wy) (X : World) : Prop := WRow X B v L ∧ b ≤ X.heap.size
/-- two slices beside -/
def P2 (B b : Nat) (v : Value) (L : List Wy) (v2 : Value) (L2 : List Wy) (X : World) : Prop := P1 B b v L X ∧ WRow X B v2 L2
theorem P0.kept : KeptP P0 := ⟨fun _ _ _ _ => trivial⟩
theorem P1.kept {B b : Nat} {v : Value} {L : List Wy} : KeptP (P1 B b v L) := ⟨fun _ _ h hb => ⟨h.1.below hb, Nat.le_trans h.2 hb.size⟩⟩
theorem P2.kept {B b : Nat} {v : Value} {L : List Wy} {v2 : Value} {L2 : List Wy} : KeptP (P2 B b v L v2 L2) := ⟨fun _ _ h hb => ⟨P1.kept.out _ _ h.1 hb, h.2.below hb⟩⟩
theorem QB.grown {b : Nat} {n d : Int} {X X' : World} {r : Option Nat} (h : QB b n d X) (hg : X.grownBy X' r) (hne : some b ≠ r) : QB b n d X' :=
  ⟨hg.cell h.c0 hne, hg.cell h.c1 hne, Nat.lt_of_lt_of_le h.lt hg.size⟩
set_option maxRecDepth 100000 in
set_option maxHeartbeats 4000000 in
theorem wFnExactAllWays_main (n d m e : Int) (ok : Bool) (L : List Wy) (hx1 : L.length ≤ 1048576)
    (hS : Hid (∀ w, Calls Try.prog 37 #[.agg #[.int .i64 n, .int .i64 d], .agg #[.int .i64 m, .int .i64 e]] w (WsRet w ok L))) (hI : Hid (∀ w, Calls Try.prog 38 #[.agg #[.int .i64 n, .int .i64 d], .agg #[.int .i64 m, .int .i64 e]] w (WsRet w ok L))) (w : World) :
    Calls Try.prog 8 #[.agg #[.int .i64 n, .int .i64 d], .agg #[.int .i64 m, .int .i64 e]] w fun e w' => e = .returned (.bool true) ∧ Below w.heap.size w w' := by
  have HQ : Hid (Q2P w n d m e P0 _) := Lib.hid ⟨(Q2B.new w n d m e 23 23).below (Below.refl _ _).drew, trivial⟩
  have HP0 : Hid (KeptP P0) := Lib.hid P0.kept
  have HT : Hid (∀ (a b : Int) (w : World), Calls Try.prog 21 #[.agg #[.int .i64 a, .int .i64 b]] w (Ret w (.agg #[.int .i64 a, .int .i64 b]))) := Lib.hid toCell_any
  go_enter Try.func8, Try.ntmps8
  go_wp2_with fail
  go_region_held3 (fun X => X.cell? ⟨w.heap.size, 0, none⟩ = some (.int .i64 n) ∧ X.cell? ⟨w.heap.size, 1, none⟩ = some (.int .i64 d) ∧ X.cell? ⟨w.heap.size + 1, 0, none⟩ = some (.int .i64 m) ∧ X.cell? ⟨w.heap.size + 1, 1, none⟩ = some (.int .i64 e) ∧ Q2P w n d m e P0 X) (first | exact q2pMk HQ.out | assumption | exact q2pKeep (by assumption) HP0 (by assumption)) (first | (go_at_call 21; refine (HT.out _ _ _).mono ?_; rintro en w' ⟨rfl, hb'⟩) | (go_at_call 37; refine (hS.out _).mono ?_; rintro en wz ⟨us, rfl, hr, hbz⟩; have hq := q2pOf (by assumption); have hr1 := hr.mono hq.1.2.2.size; have KS := Lib.hid hr1.blk; have hz := hbz.size; have HQ2 := Lib.hid ((hq.below P0.kept hbz).1.below (Below.refl _ _).drew); have RS := Lib.hid (hr1.below (Below.refl _ _).drew); obtain ⟨AS, cS, rfl⟩ := hr.shape; clear hq hr hr1))
  have HN : Hid (w.heap.size + 2 ≤ wz.heap.size) := Lib.hid (by have := HQ2.out.2.1.lt; simp at this; omega)
  obtain ⟨N, hN⟩ : ∃ N, wz.heap.size = N := ⟨_, rfl⟩
  rw [hN] at HN KS
  have HQ3 : Hid (Q2P w n d m e (P1 w.heap.size N (.slice AS L.length cS) L) wz.drew) := Lib.hid ⟨HQ2.out, RS.out, by rw [← hN]; exact Nat.le_refl _⟩
  have HP1 : Hid (KeptP (P1 w.heap.size N (.slice AS L.length cS) L)) := Lib.hid P1.kept
  clear HQ2 RS hz hN HQ
  go_wp2_with fail
  go_region_held3 (fun X => X.cell? ⟨w.heap.size, 0, none⟩ = some (.int .i64 n) ∧ X.cell? ⟨w.heap.size, 1, none⟩ = some (.int .i64 d) ∧ X.cell? ⟨w.heap.size + 1, 0, none⟩ = some (.int .i64 m) ∧ X.cell? ⟨w.heap.size + 1, 1, none⟩ = some (.int .i64 e) ∧ Q2P w n d m e (P1 w.heap.size N (.slice AS L.length cS) L) X) (first | exact q2pMk HQ3.out | assumption | exact q2pKeep (by assumption) HP1 (by assumption)) (first | (go_at_call 21; refine (HT.out _ _ _).mono ?_; rintro en w' ⟨rfl, hb'⟩) | (go_at_call 38; refine (hI.out _).mono ?_; rintro en wy ⟨us, rfl, hr, hby⟩; have hq := q2pOf (by assumption); have KG : Hid (∀ k, _ → N ≤ k) := Lib.hid (fun k hk => Nat.le_trans hq.2.2 (hr.blk k hk).1); have hr1 := hr.mono hq.1.2.2.size; have HQ4 := Lib.hid (hq.below P1.kept hby); have RG := Lib.hid hr1; obtain ⟨AG, cG, rfl⟩ := hr.shape; clear hq hr hr1))
  clear HQ3
  go_wp2_with fail
  refine (eqWays_same _ _ L _ _ _ RG.out HQ4.out.2.1 hx1).mono ?_
  rintro e w1 ⟨rfl, hb1⟩
  have HQ5 := Lib.hid (HQ4.out.below P1.kept hb1)
  have RG1 := Lib.hid (RG.out.below hb1)
  clear HQ4 RG hb1
  go_wp2_with fail
  refine (markWays_any _ L _ 1 _ RG1.out hx1 (by omega)).mono ?_
  rintro e w2 ⟨rfl, hr, hg⟩
  have RG2 := Lib.hid hr
  have HQ6 : Hid (Q2P w n d m e (P2 w.heap.size N (.slice AS L.length cS) L (.slice AG L.length cG) (wmks 1 L.length)) w2) := Lib.hid ⟨⟨HQ5.out.1.1.grown hg (fun e => by have := KG.out _ e.symm; have := HN.out; omega), HQ5.out.1.2.1.grown hg (fun e => by have := KG.out _ e.symm; have := HN.out; omega), HQ5.out.1.2.2.grown hg HQ5.out.1.2.2.size (fun q hq => by have := KG.out q hq; have := HN.out; omega)⟩, ⟨HQ5.out.2.1.apart hg (fun q hq e2 => by have := KS.out q hq; have := KG.out q e2.symm; omega), Nat.le_trans HQ5.out.2.2 hg.size⟩, hr⟩
  clear HQ5 RG1 RG2 hr hg
  have q2 : ¬ (((1 + L.length * 3 : Nat) : Int)) < 0 := by omega
  go_wp2_with fail
  refine (heldWays_any _ L.length _ 1 _ HQ6.out.2.2 hx1 (by omega)).mono ?_
  rintro e w3 ⟨rfl, hb3⟩
  have HP2 : Hid (KeptP (P2 w.heap.size N (.slice AS L.length cS) L (.slice AG L.length cG) (wmks 1 L.length))) := Lib.hid P2.kept
  have HQ7 := Lib.hid ((HQ6.out.below P2.kept hb3).below P2.kept (Below.refl _ _).drew)
  clear HQ6 hb3
  go_wp2_with fail
  go_region_held3 (fun X => X.cell? ⟨w.heap.size, 0, none⟩ = some (.int .i64 n) ∧ X.cell? ⟨w.heap.size, 1, none⟩ = some (.int .i64 d) ∧ X.cell? ⟨w.heap.size + 1, 0, none⟩ = some (.int .i64 m) ∧ X.cell? ⟨w.heap.size + 1, 1, none⟩ = some (.int .i64 e) ∧ Q2P w n d m e (P2 w.heap.size N (.slice AS L.length cS) L (.slice AG L.length cG) (wmks 1 L.length)) X) (first | exact q2pMk HQ7.out | assumption | exact q2pKeep (by assumption) HP2 (by assumption)) (first | (go_at_call 21; refine (HT.out _ _ _).mono ?_; rintro en w' ⟨rfl, hb'⟩) | (go_at_call 38; refine (hI.out _).mono ?_; rintro en wv ⟨us, rfl, hr, hbv⟩; have hq := q2pOf (by assumption); have HQ8 := Lib.hid (hq.below P2.kept hbv); have RH := Lib.hid hr; obtain ⟨AH, cH, rfl⟩ := hr.shape; clear hq hr))
  clear HQ7
  go_wp2_with fail
  refine (eqWays_same _ _ L _ _ _ RH.out HQ8.out.2.1.1 hx1).mono ?_
  rintro e w4 ⟨rfl, hb4⟩
  have HQ9 := Lib.hid (HQ8.out.below P2.kept hb4)
  clear HQ8 RH hb4
  go_wp2_with fail
  refine (heldWays_any _ L.length _ 1 _ HQ9.out.2.2 hx1 (by omega)).mono ?_
  rintro e w5 ⟨rfl, hb5⟩
  have HQA := Lib.hid (HQ9.out.below P2.kept hb5)
  clear HQ9 hb5
  go_wp2_with fail
  go_ret
  exact ⟨rfl, HQA.out.1.2.2⟩
theorem awV_len (x y u v : Int) : (awV x y u v).length ≤ 1048576 := by
  unfold awV
  split
  · rename_i h
    unfold awOk awB at h
    simp only [Bool.and_eq_true, decide_eq_true_eq] at h
    have := tx_len h.1.1 h.1.2
    unfold awL
    unfold txM
    rw [List.length_map, List.length_map]
    have := h.2
    omega
  · simp
theorem wFnExactAllWays (n d m e : Int) (w : World) (hs0 : True) (hs1 : True) :
    Calls Try.prog 8 #[.agg #[.int .i64 n, .int .i64 d], .agg #[.int .i64 m, .int .i64 e]] w fun e w' => e = .returned (.bool true) ∧ Below w.heap.size w w' :=
  wFnExactAllWays_main n d m e (awOk n d m e) (awV n d m e) (awV_len n d m e) (Lib.hid fun w => specAllWays_ret n d m e w) (Lib.hid fun w => allWaysI_ret n d m e w) w
end Go.Proofs.Ytahnknbggacndaa
