/- Pack 13 of what FnExactAllPairsApart needs: Q4, LFnExactAllPairsApart. -/
import Derived.Test.YtnlmjeakdjmohaaKFnExactAllPairsApart12
import Derived.Deep.RegionHeld3
/- Four boxes of two numbers. -/
namespace Go.Proofs.Ytnlmjeakdjmohaa
open Go.RowKit
theorem QB.belowB {b B : Nat} {n d : Int} {X X' : World} (h : QB b n d X) (hb : Below B X X') (hB : b < B) : QB b n d X' :=
  ⟨(hb.cell (p := ⟨b, 0, none⟩) hB).trans h.c0, (hb.cell (p := ⟨b, 1, none⟩) hB).trans h.c1, Nat.lt_of_lt_of_le h.lt hb.size⟩
/-- four boxes -/
structure Q4B (w : World) (a0 a1 b0 b1 c0 c1 d0 d1 : Int) (X : World) : Prop where
  a : QB w.heap.size a0 a1 X
  b : QB (w.heap.size + 1) b0 b1 X
  c : QB (w.heap.size + 2) c0 c1 X
  d : QB (w.heap.size + 3) d0 d1 X
  bl : Below w.heap.size w X
theorem Q4B.below {w X X' : World} {a0 a1 b0 b1 c0 c1 d0 d1 : Int} (h : Q4B w a0 a1 b0 b1 c0 c1 d0 d1 X) (hb : Below X.heap.size X X') : Q4B w a0 a1 b0 b1 c0 c1 d0 d1 X' := ⟨h.a.below hb, h.b.below hb, h.c.below hb, h.d.below hb, h.bl.trans (hb.mono h.bl.size)⟩
theorem Q4B.belowB {w X X' : World} {a0 a1 b0 b1 c0 c1 d0 d1 : Int} {B : Nat} (h : Q4B w a0 a1 b0 b1 c0 c1 d0 d1 X) (hb : Below B X X') (hB : w.heap.size + 3 < B) : Q4B w a0 a1 b0 b1 c0 c1 d0 d1 X' := ⟨h.a.belowB hb (by omega), h.b.belowB hb (by omega), h.c.belowB hb (by omega), h.d.belowB hb (by omega), h.bl.trans (hb.mono (by omega))⟩
theorem Q4B.new (w : World) (a0 a1 b0 b1 c0 c1 d0 d1 : Int) (ty : TypeId) : Q4B w a0 a1 b0 b1 c0 c1 d0 d1 ((((w.alloc (.cells #[.int .i64 a0, .int .i64 a1] ty)).alloc (.cells #[.int .i64 b0, .int .i64 b1] ty)).alloc (.cells #[.int .i64 c0, .int .i64 c1] ty)).alloc (.cells #[.int .i64 d0, .int .i64 d1] ty)) := by
  have n1 := QB.new w a0 a1 ty
  have n2 := QB.new (w.alloc (.cells #[.int .i64 a0, .int .i64 a1] ty)) b0 b1 ty
  have n3 := QB.new ((w.alloc (.cells #[.int .i64 a0, .int .i64 a1] ty)).alloc (.cells #[.int .i64 b0, .int .i64 b1] ty)) c0 c1 ty
  have n4 := QB.new (((w.alloc (.cells #[.int .i64 a0, .int .i64 a1] ty)).alloc (.cells #[.int .i64 b0, .int .i64 b1] ty)).alloc (.cells #[.int .i64 c0, .int .i64 c1] ty)) d0 d1 ty
  have al := fun (X : World) (o : Obj) => (Below.refl X.heap.size X).alloc (Nat.le_refl _) o
  refine ⟨((n1.below (al _ _)).below (al _ _)).below (al _ _), ?_, ?_, ?_, ?_⟩
  · have := (n2.below (al _ (.cells #[.int .i64 c0, .int .i64 c1] ty))).below (al _ (.cells #[.int .i64 d0, .int .i64 d1] ty))
    simpa using this
  · have := n3.below (al _ (.cells #[.int .i64 d0, .int .i64 d1] ty))
    simpa using this
  · simpa using n4
  · exact ((((Below.refl _ _).alloc (Nat.le_refl _) _).alloc (by simp) _).alloc (by simp; omega) _).alloc (by simp; omega) _
end Go.Proofs.Ytnlmjeakdjmohaa

/- The walk of FnExactAllPairsApart: it asks the model and the program about copies of four cells, holds the lists against each other, marks, asks again. -/
namespace Go.Proofs.Ytnlmjeakdjmohaa
open Go.RowKit
set_option linter.unusedVariables false
/-- four boxes and what is kept beside them -/
def Q4P (w : World) (a0 a1 b0 b1 c0 c1 d0 d1 : Int) (P : World → Prop) (X : World) : Prop := Q4B w a0 a1 b0 b1 c0 c1 d0 d1 X ∧ P X
structure KeptU (P : World → Prop) : Prop where
  out : ∀ X X', P X → Below X.heap.size X X' → P X'
theorem Q4P.below {w X X' : World} {a0 a1 b0 b1 c0 c1 d0 d1 : Int} {P : World → Prop} (h : Q4P w a0 a1 b0 b1 c0 c1 d0 d1 P X) (hP : KeptU P) (hb : Below X.heap.size X X') : Q4P w a0 a1 b0 b1 c0 c1 d0 d1 P X' := ⟨h.1.below hb, hP.out _ _ h.2 hb⟩
theorem q4pMk {w X : World} {a0 a1 b0 b1 c0 c1 d0 d1 : Int} {P : World → Prop} (k : Q4P w a0 a1 b0 b1 c0 c1 d0 d1 P X) :
    X.cell? ⟨w.heap.size, 0, none⟩ = some (.int .i64 a0) ∧ X.cell? ⟨w.heap.size, 1, none⟩ = some (.int .i64 a1) ∧ X.cell? ⟨w.heap.size + 1, 0, none⟩ = some (.int .i64 b0) ∧ X.cell? ⟨w.heap.size + 1, 1, none⟩ = some (.int .i64 b1) ∧ X.cell? ⟨w.heap.size + 2, 0, none⟩ = some (.int .i64 c0) ∧ X.cell? ⟨w.heap.size + 2, 1, none⟩ = some (.int .i64 c1) ∧ X.cell? ⟨w.heap.size + 3, 0, none⟩ = some (.int .i64 d0) ∧ X.cell? ⟨w.heap.size + 3, 1, none⟩ = some (.int .i64 d1) ∧ Q4P w a0 a1 b0 b1 c0 c1 d0 d1 P X := ⟨k.1.a.c0, k.1.a.c1, k.1.b.c0, k.1.b.c1, k.1.c.c0, k.1.c.c1, k.1.d.c0, k.1.d.c1, k⟩
theorem q4pOf {w X : World} {a0 a1 b0 b1 c0 c1 d0 d1 : Int} {P : World → Prop} (h : X.cell? ⟨w.heap.size, 0, none⟩ = some (.int .i64 a0) ∧ X.cell? ⟨w.heap.size, 1, none⟩ = some (.int .i64 a1) ∧ X.cell? ⟨w.heap.size + 1, 0, none⟩ = some (.int .i64 b0) ∧ X.cell? ⟨w.heap.size + 1, 1, none⟩ = some (.int .i64 b1) ∧ X.cell? ⟨w.heap.size + 2, 0, none⟩ = some (.int .i64 c0) ∧ X.cell? ⟨w.heap.size + 2, 1, none⟩ = some (.int .i64 c1) ∧ X.cell? ⟨w.heap.size + 3, 0, none⟩ = some (.int .i64 d0) ∧ X.cell? ⟨w.heap.size + 3, 1, none⟩ = some (.int .i64 d1) ∧ Q4P w a0 a1 b0 b1 c0 c1 d0 d1 P X) : Q4P w a0 a1 b0 b1 c0 c1 d0 d1 P X := h.2.2.2.2.2.2.2.2
theorem q4pKeep {w X X' : World} {a0 a1 b0 b1 c0 c1 d0 d1 : Int} {P : World → Prop} (h : X.cell? ⟨w.heap.size, 0, none⟩ = some (.int .i64 a0) ∧ X.cell? ⟨w.heap.size, 1, none⟩ = some (.int .i64 a1) ∧ X.cell? ⟨w.heap.size + 1, 0, none⟩ = some (.int .i64 b0) ∧ X.cell? ⟨w.heap.size + 1, 1, none⟩ = some (.int .i64 b1) ∧ X.cell? ⟨w.heap.size + 2, 0, none⟩ = some (.int .i64 c0) ∧ X.cell? ⟨w.heap.size + 2, 1, none⟩ = some (.int .i64 c1) ∧ X.cell? ⟨w.heap.size + 3, 0, none⟩ = some (.int .i64 d0) ∧ X.cell? ⟨w.heap.size + 3, 1, none⟩ = some (.int .i64 d1) ∧ Q4P w a0 a1 b0 b1 c0 c1 d0 d1 P X) (hP : Hid (KeptU P)) (hb : Below X.heap.size X X') :
    X'.cell? ⟨w.heap.size, 0, none⟩ = some (.int .i64 a0) ∧ X'.cell? ⟨w.heap.size, 1, none⟩ = some (.int .i64 a1) ∧ X'.cell? ⟨w.heap.size + 1, 0, none⟩ = some (.int .i64 b0) ∧ X'.cell? ⟨w.heap.size + 1, 1, none⟩ = some (.int .i64 b1) ∧ X'.cell? ⟨w.heap.size + 2, 0, none⟩ = some (.int .i64 c0) ∧ X'.cell? ⟨w.heap.size + 2, 1, none⟩ = some (.int .i64 c1) ∧ X'.cell? ⟨w.heap.size + 3, 0, none⟩ = some (.int .i64 d0) ∧ X'.cell? ⟨w.heap.size + 3, 1, none⟩ = some (.int .i64 d1) ∧ Q4P w a0 a1 b0 b1 c0 c1 d0 d1 P X' := q4pMk ((q4pOf h).below hP.out hb)
/-- nothing beside -/
def U0 (X : World) : Prop := True
/-- the first list beside -/
def U1 (B N : Nat) (v : Value) (vs : List Value) (xss : List (List Wy)) (X : World) : Prop := URow X B N v vs xss
/-- two lists beside -/
def U2 (B N : Nat) (v : Value) (vs : List Value) (xss : List (List Wy)) (B2 M2 : Nat) (v2 : Value) (vs2 : List Value) (yss : List (List Wy)) (X : World) : Prop := URow X B N v vs xss ∧ URow X B2 M2 v2 vs2 yss
theorem U0.kept : KeptU U0 := ⟨fun _ _ _ _ => trivial⟩
theorem U1.kept {B N : Nat} {v : Value} {vs : List Value} {xss : List (List Wy)} : KeptU (U1 B N v vs xss) := ⟨fun _ _ h hb => URow.below h hb⟩
theorem U2.kept {B N : Nat} {v : Value} {vs : List Value} {xss : List (List Wy)} {B2 M2 : Nat} {v2 : Value} {vs2 : List Value} {yss : List (List Wy)} : KeptU (U2 B N v vs xss B2 M2 v2 vs2 yss) := ⟨fun _ _ h hb => ⟨h.1.below hb, h.2.below hb⟩⟩
set_option maxRecDepth 100000 in
set_option maxHeartbeats 8000000 in
theorem wFnExactAllPairsApart_main (a0 a1 b0 b1 c0 c1 d0 d1 : Int) (ok : Bool) (xss : List (List Wy)) (hx1 : xss.length ≤ 1000) (htw : twos xss)
    (hS : Hid (∀ w, Calls Try.prog 30 #[.agg #[.int .i64 a0, .int .i64 a1], .agg #[.int .i64 b0, .int .i64 b1], .agg #[.int .i64 c0, .int .i64 c1], .agg #[.int .i64 d0, .int .i64 d1]] w (WtsRet w ok xss))) (hI : Hid (∀ w, Calls Try.prog 32 #[.agg #[.int .i64 a0, .int .i64 a1], .agg #[.int .i64 b0, .int .i64 b1], .agg #[.int .i64 c0, .int .i64 c1], .agg #[.int .i64 d0, .int .i64 d1]] w (WtsRet w ok xss))) (w : World) :
    Calls Try.prog 4 #[.agg #[.int .i64 a0, .int .i64 a1], .agg #[.int .i64 b0, .int .i64 b1], .agg #[.int .i64 c0, .int .i64 c1], .agg #[.int .i64 d0, .int .i64 d1]] w fun e w' => e = .returned (.bool true) ∧ Below w.heap.size w w' := by
  have HQ : Hid (Q4P w a0 a1 b0 b1 c0 c1 d0 d1 U0 _) := Lib.hid ⟨(Q4B.new w a0 a1 b0 b1 c0 c1 d0 d1 35).below (Below.refl _ _).drew, trivial⟩
  have HP0 : Hid (KeptU U0) := Lib.hid U0.kept
  have HT : Hid (∀ (a b : Int) (w : World), Calls Try.prog 31 #[.agg #[.int .i64 a, .int .i64 b]] w (Ret w (.agg #[.int .i64 a, .int .i64 b]))) := Lib.hid toCell_any
  have HTW := Lib.hid htw
  clear htw
  go_enter Try.func4, Try.ntmps4
  go_wp2_with fail
  go_region_held3 (fun X => X.cell? ⟨w.heap.size, 0, none⟩ = some (.int .i64 a0) ∧ X.cell? ⟨w.heap.size, 1, none⟩ = some (.int .i64 a1) ∧ X.cell? ⟨w.heap.size + 1, 0, none⟩ = some (.int .i64 b0) ∧ X.cell? ⟨w.heap.size + 1, 1, none⟩ = some (.int .i64 b1) ∧ X.cell? ⟨w.heap.size + 2, 0, none⟩ = some (.int .i64 c0) ∧ X.cell? ⟨w.heap.size + 2, 1, none⟩ = some (.int .i64 c1) ∧ X.cell? ⟨w.heap.size + 3, 0, none⟩ = some (.int .i64 d0) ∧ X.cell? ⟨w.heap.size + 3, 1, none⟩ = some (.int .i64 d1) ∧ Q4P w a0 a1 b0 b1 c0 c1 d0 d1 U0 X) (first | exact q4pMk HQ.out | assumption | exact q4pKeep (by assumption) HP0 (by assumption)) (first | (go_at_call 31; refine (HT.out _ _ _).mono ?_; rintro en w' ⟨rfl, hb'⟩) | (go_at_call 30; refine (hS.out _).mono ?_; rintro en wz ⟨us, vS, rfl, hr, hbz⟩; have hq := q4pOf (by assumption); have hr1 := hr.mono hq.1.bl.size (Nat.le_refl _) (Nat.le_refl _); have HQ2 := Lib.hid (hq.below U0.kept hbz).1; have RS := Lib.hid hr1; clear hq hr hr1))
  have HN : Hid (w.heap.size + 4 ≤ wz.heap.size) := Lib.hid (by have := HQ2.out.d.lt; omega)
  obtain ⟨N, hN⟩ : ∃ N, wz.heap.size = N := ⟨_, rfl⟩
  rw [hN] at HN RS
  have HQ3 : Hid (Q4P w a0 a1 b0 b1 c0 c1 d0 d1 (U1 w.heap.size N us vS xss) wz.drew) := Lib.hid ⟨HQ2.out.below (Below.refl _ _).drew, URow.below RS.out (Below.refl _ _).drew⟩
  have HP1 : Hid (KeptU (U1 w.heap.size N us vS xss)) := Lib.hid U1.kept
  clear HQ2 RS hN HQ
  go_wp2_with fail
  go_region_held3 (fun X => X.cell? ⟨w.heap.size, 0, none⟩ = some (.int .i64 a0) ∧ X.cell? ⟨w.heap.size, 1, none⟩ = some (.int .i64 a1) ∧ X.cell? ⟨w.heap.size + 1, 0, none⟩ = some (.int .i64 b0) ∧ X.cell? ⟨w.heap.size + 1, 1, none⟩ = some (.int .i64 b1) ∧ X.cell? ⟨w.heap.size + 2, 0, none⟩ = some (.int .i64 c0) ∧ X.cell? ⟨w.heap.size + 2, 1, none⟩ = some (.int .i64 c1) ∧ X.cell? ⟨w.heap.size + 3, 0, none⟩ = some (.int .i64 d0) ∧ X.cell? ⟨w.heap.size + 3, 1, none⟩ = some (.int .i64 d1) ∧ Q4P w a0 a1 b0 b1 c0 c1 d0 d1 (U1 w.heap.size N us vS xss) X) (first | exact q4pMk HQ3.out | assumption | exact q4pKeep (by assumption) HP1 (by assumption)) (first | (go_at_call 31; refine (HT.out _ _ _).mono ?_; rintro en w' ⟨rfl, hb'⟩) | (go_at_call 32; refine (hI.out _).mono ?_; rintro en wy ⟨ug, vG, rfl, hr, hby⟩; have hq := q4pOf (by assumption); obtain ⟨B2, M2, hB2, hB3, hr2⟩ : ∃ B2 M2, N ≤ B2 ∧ B2 ≤ wy.heap.size ∧ URow wy B2 M2 ug vG xss := ⟨_, _, hq.2.size, hby.size, hr⟩; have HB2 := Lib.hid hB2; have HB3 := Lib.hid hB3; have HQ4 := Lib.hid (hq.below U1.kept hby); have RG := Lib.hid hr2; clear hq hr hr2 hB2 hB3))
  clear HQ3
  go_wp2_with fail
  refine (eqWss_same _ _ vG vS xss _ _ _ _ _ RG.out HQ4.out.2 (by omega) HTW.out).mono ?_
  rintro e w1 ⟨rfl, hb1⟩
  have HQ5 := Lib.hid (HQ4.out.below U1.kept hb1)
  have RG1 := Lib.hid (RG.out.below hb1)
  have HB4 : Hid (B2 ≤ w1.heap.size) := Lib.hid (Nat.le_trans HB3.out hb1.size)
  clear HQ4 RG hb1
  go_wp2_with fail
  refine (markWss_any _ vG xss _ _ 1 _ RG1.out hx1 HTW.out (by omega)).mono ?_
  rintro e w2 ⟨rfl, hr, hg⟩
  have HBW : Hid (Below B2 w1 w2) := Lib.hid (hg.below (Below.refl _ _) (Nat.le_refl _) HB4.out)
  have HQ6 : Hid (Q4P w a0 a1 b0 b1 c0 c1 d0 d1 (U2 w.heap.size N us vS xss B2 M2 ug vG (umk 1 xss xss.length)) w2) := Lib.hid ⟨HQ5.out.1.belowB HBW.out (by have := HN.out; have := HB2.out; omega), URow.midU HQ5.out.2 hg (.inl HB2.out), hr⟩
  clear HQ5 RG1 hr hg HBW
  have q2 : ¬ (((1 + 6 * xss.length : Nat) : Int)) < 0 := by omega
  go_wp2_with fail
  refine (heldWss_any _ vG xss _ _ 1 _ HQ6.out.2.2 hx1 (by omega)).mono ?_
  rintro e w3 ⟨rfl, hb3⟩
  have HP2 : Hid (KeptU (U2 w.heap.size N us vS xss B2 M2 ug vG (umk 1 xss xss.length))) := Lib.hid U2.kept
  have HQ7 := Lib.hid ((HQ6.out.below U2.kept hb3).below U2.kept (Below.refl _ _).drew)
  clear HQ6 hb3
  go_wp2_with fail
  go_region_held3 (fun X => X.cell? ⟨w.heap.size, 0, none⟩ = some (.int .i64 a0) ∧ X.cell? ⟨w.heap.size, 1, none⟩ = some (.int .i64 a1) ∧ X.cell? ⟨w.heap.size + 1, 0, none⟩ = some (.int .i64 b0) ∧ X.cell? ⟨w.heap.size + 1, 1, none⟩ = some (.int .i64 b1) ∧ X.cell? ⟨w.heap.size + 2, 0, none⟩ = some (.int .i64 c0) ∧ X.cell? ⟨w.heap.size + 2, 1, none⟩ = some (.int .i64 c1) ∧ X.cell? ⟨w.heap.size + 3, 0, none⟩ = some (.int .i64 d0) ∧ X.cell? ⟨w.heap.size + 3, 1, none⟩ = some (.int .i64 d1) ∧ Q4P w a0 a1 b0 b1 c0 c1 d0 d1 (U2 w.heap.size N us vS xss B2 M2 ug vG (umk 1 xss xss.length)) X) (first | exact q4pMk HQ7.out | assumption | exact q4pKeep (by assumption) HP2 (by assumption)) (first | (go_at_call 31; refine (HT.out _ _ _).mono ?_; rintro en w' ⟨rfl, hb'⟩) | (go_at_call 32; refine (hI.out _).mono ?_; rintro en wv ⟨uh, vH, rfl, hr, hbv⟩; have hq := q4pOf (by assumption); have HQ8 := Lib.hid (hq.below U2.kept hbv); have RH := Lib.hid hr; clear hq hr))
  clear HQ7
  go_wp2_with fail
  refine (eqWss_same _ _ vH vS xss _ _ _ _ _ RH.out HQ8.out.2.1 (by omega) HTW.out).mono ?_
  rintro e w4 ⟨rfl, hb4⟩
  have HQ9 := Lib.hid (HQ8.out.below U2.kept hb4)
  clear HQ8 RH hb4
  go_wp2_with fail
  refine (heldWss_any _ vG xss _ _ 1 _ HQ9.out.2.2 hx1 (by omega)).mono ?_
  rintro e w5 ⟨rfl, hb5⟩
  have HQA := Lib.hid (HQ9.out.below U2.kept hb5)
  clear HQ9 hb5
  go_wp2_with fail
  go_ret
  exact ⟨rfl, HQA.out.1.bl⟩
end Go.Proofs.Ytnlmjeakdjmohaa
