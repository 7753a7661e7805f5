/- Pack 31 of what FnPathsReflected needs: ReC, ReL. -/
import Derived.Test.YtachijliaedndaaKFnPathsReflected30
import Derived.Lib.OthersKept
import Derived.Laws.RangeString
import Derived.Laws.RangeAny
import Derived.Deep.CutBlock
import Derived.Deep.DeepCutAuto
import Derived.Outline
import Derived.IntWalk
/- The law on reflected paths. -/
namespace Go.Proofs.Ytachijliaedndaa
open Go.RowKit
set_option linter.unusedVariables false
/-- the first half's calls where there is such a height -/
structure ReC (s : ByteArray) (h : Int) (f l : Nat) : Prop where
  hb : -40 ≤ h ∧ h ≤ 40
  ff : faV s h = (f : Int)
  ll : laV s h = (l : Int)
  fl : f ≤ l
  ln : l ≤ s.size
  hf : hAt s f = h
  hl : hAt s l = h
  al : ∀ j, j ≤ s.size → hAt s j = h → f ≤ j ∧ j ≤ l
  sz : s.size ≤ 40
  ht : ∀ W, Calls Try.prog 19 #[.string s] W (IntsRet W true (hts s))
  ag : ∀ W, Calls Try.prog 11 #[.string (rhV s h), .int .i64 h] W (Ret W (.tuple #[.string s, .bool true]))
  ho : ∀ W, Calls Try.prog 13 #[.string (rbV s h), .int .i64 (-h)] W (Ret W (.tuple #[.string s, .bool true]))
  e0 : ∀ W, Calls Try.prog 20 #[.string s] W (Ret W (.tuple #[.int .i64 (hAt s s.size), .bool true]))
  e1 : ∀ W, Calls Try.prog 20 #[.string (rhV s h)] W (Ret W (.tuple #[.int .i64 (2 * h - hAt s s.size), .bool true]))
  e2 : ∀ W, Calls Try.prog 20 #[.string (rbV s h)] W (Ret W (.tuple #[.int .i64 (hAt s s.size - 2 * h), .bool true]))
  ti : ∀ W, Calls Try.prog 21 #[.string s, .int .i64 h] W (Ret W (.tuple #[.int .i64 ((timesTo s h (s.size + 1) : Nat) : Int), .bool true]))
  t1 : 1 ≤ timesTo s h (s.size + 1)
  t2 : timesTo s h (s.size + 1) = 1 ↔ f = l
theorem reC (s : ByteArray) (h : Int) (hok : faOk s h = true) : ∃ f l, ReC s h f l := by
  obtain ⟨hp, hh, -⟩ := faOk_of hok
  obtain ⟨f, l, e1, e2, h1, h2, h3, h4, h5⟩ := fl_facts hok
  obtain ⟨a1, a2, a3, a4, a5⟩ := rh_facts hok
  obtain ⟨b1, b2, b3, b4, b5⟩ := rb_facts hok
  obtain ⟨t1, t2⟩ := tt_facts hok
  have hz := path40 hp
  have hm : ∀ x : ByteArray, x.size = s.size → x.size ≤ maxLen := fun x e => by unfold maxLen; omega
  refine ⟨f, l, hh, e1, e2, h1, h2, h3, h4, h5, hz, fun W => ?_, fun W => ?_, fun W => ?_, fun W => ?_, fun W => ?_, fun W => ?_, fun W => ?_, t1, ?_⟩
  · have := heights_ret s W (hm s rfl)
    unfold htsV at this
    rw [hp] at this
    exact this
  · have := reflectBehind_ret (rhV s h) h W (hm _ a3)
    rwa [a1, a2] at this
  · have := reflectBefore_ret (rbV s h) (-h) W (hm _ b3)
    rwa [b1, b2] at this
  · have := endHeight_ret s W (hm s rfl)
    unfold endV at this
    rw [hp] at this
    exact this
  · have := endHeight_ret (rhV s h) W (hm _ a3)
    unfold endV at this
    rw [a4, a3, a5] at this
    exact this
  · have := endHeight_ret (rbV s h) W (hm _ b3)
    unfold endV at this
    rw [b4, b3, b5] at this
    exact this
  · have := times_ret s h W (hm s rfl)
    unfold timesV at this
    rw [hp] at this
    exact this
  · rw [t2, e1, e2]; omega
end Go.Proofs.Ytachijliaedndaa

/- The law on reflected paths: the walk. -/
namespace Go.Proofs.Ytachijliaedndaa
open Go.RowKit
set_option linter.unusedVariables false
theorem mul2 (h : Int) (hb : -40 ≤ h ∧ h ≤ 40) : -80 ≤ 2 * h ∧ 2 * h ≤ 80 := by omega
set_option maxRecDepth 100000 in
set_option maxHeartbeats 8000000 in
theorem wRefl (a0 : Option Addr) (l0 c0 : Nat) (a1 : Option Addr) (l1 c1 : Nat) (w : World) (h0 : IsCode w a0 l0 c0) (h1 : IsCode w a1 l1 c1) :
    Calls Try.prog 3 #[.slice a0 l0 c0, .slice a1 l1 c1] w fun e w' => e = .returned (.bool true) ∧ Below w.heap.size w w' := by
  have HB := Lib.hid (bigAny a0 a1 l0 c0 l1 c1 w h0.2 h1.2)
  by_cases hbig : 1048576 < l0 + l1
  · rw [decide_eq_true hbig] at HB
    clear h0 h1
    go_enter Try.func3, Try.ntmps3
    go_wp2_with (go_at_call 9; refine HB.out.mono ?_; rintro e w' ⟨rfl, rfl⟩)
    go_ret
    exact ⟨rfl, Below.refl _ _⟩
  rw [decide_eq_false hbig] at HB
  have HD0 := Lib.hid (drawReflB_any w a0 l0 c0 h0.1 (by omega))
  have HD1 : Hid (∀ W, Below w.heap.size w W → Calls Try.prog 22 #[.slice a1 l1 c1] W (StrRet W 50)) := Lib.hid fun W hb => drawPairOf_any W a1 l1 c1 (h1.1.below hb) (by omega)
  have HD2 := Lib.hid fun (W : World) (hb : Below w.heap.size w W) => drawTouchText_any W a1 l1 c1 (h1.1.below hb) (by omega)
  clear h0 h1
  go_enter Try.func3, Try.ntmps3
  go_wp2_with (go_at_call 9; refine HB.out.mono ?_; rintro e w' ⟨rfl, rfl⟩)
  refine HD0.out.mono ?_
  rintro e w1 ⟨s, h, rfl, ⟨hs50, hi64⟩, hb1⟩
  have HB1 := Lib.hid hb1
  have hsm : s.size ≤ maxLen := by unfold maxLen; omega
  have C1 := Lib.hid fun W => reflectBehind_ret s h W hsm
  have C2 := Lib.hid fun W => specReflectBehind_ret s h W hsm
  have C3 := Lib.hid fun W => reflectBefore_ret s h W hsm
  have C4 := Lib.hid fun W => specReflectBefore_ret s h W hsm
  have C5 := Lib.hid fun W => firstAt_ret s h W hsm
  have C6 := Lib.hid fun W => specFirstAt_ret s h W hsm
  have C7 : Hid (∀ W, Calls Try.prog 17 #[.string s, .int .i64 h] W (Ret W (.tuple #[.int .i64 (laV s h), .bool (faOk s h)]))) := Lib.hid fun W => by rw [← laOk_faOk]; exact lastAt_ret s h W hsm
  have C8 : Hid (∀ W, Calls Try.prog 18 #[.string s, .int .i64 h] W (Ret W (.tuple #[.int .i64 (laV s h), .bool (faOk s h)]))) := Lib.hid fun W => by rw [← laOk_faOk]; exact specLastAt_ret s h W hsm
  have HREC := Lib.hid (reC s h)
  clear hb1 HD0 HB hsm hs50 hi64
  go_wp2_with fail
  refine (C1.out _).mono ?_
  rintro e w2 ⟨rfl, hb⟩
  have HB2 := Lib.hid (HB1.out.trans (hb.mono HB1.out.size))
  clear hb HB1 C1
  go_wp2_with fail
  refine (C2.out _).mono ?_
  rintro e w3 ⟨rfl, hb⟩
  have HB3 := Lib.hid (HB2.out.trans (hb.mono HB2.out.size))
  clear hb HB2 C2
  go_wp2_with fail
  refine (C3.out _).mono ?_
  rintro e w4 ⟨rfl, hb⟩
  have HB4 := Lib.hid (HB3.out.trans (hb.mono HB3.out.size))
  clear hb HB3 C3
  go_wp2_with fail
  refine (C4.out _).mono ?_
  rintro e w5 ⟨rfl, hb⟩
  have HB5 := Lib.hid (HB4.out.trans (hb.mono HB4.out.size))
  clear hb HB4 C4
  go_wp2_with fail
  refine (C5.out _).mono ?_
  rintro e w6 ⟨rfl, hb⟩
  have HB6 := Lib.hid (HB5.out.trans (hb.mono HB5.out.size))
  clear hb HB5 C5
  go_wp2_with fail
  refine (C6.out _).mono ?_
  rintro e w7 ⟨rfl, hb⟩
  have HB7 := Lib.hid (HB6.out.trans (hb.mono HB6.out.size))
  clear hb HB6 C6
  go_wp2_with fail
  refine (C7.out _).mono ?_
  rintro e w8 ⟨rfl, hb⟩
  have HB8 := Lib.hid (HB7.out.trans (hb.mono HB7.out.size))
  clear hb HB7 C7
  go_wp2_with fail
  refine (C8.out _).mono ?_
  rintro e w9 ⟨rfl, hb⟩
  have HB9 := Lib.hid (HB8.out.trans (hb.mono HB8.out.size))
  clear hb HB8 C8
  have HF : Hid (∀ f l, ReC s h f l → faV s h = (f : Int) ∧ laV s h = (l : Int)) := Lib.hid fun f l r => ⟨r.ff, r.ll⟩
  generalize faV s h = F at *
  generalize laV s h = L at *
  generalize hok : faOk s h = ok at *
  have HOKE := Lib.hid hok
  clear hok
  go_upto_if 175 with fail
  go_cut [4] from 23 to 318 (fun s wx => s = .bool false ∧ Below w.heap.size w wx)
  case first =>
    as_aux_lemma =>
    cases ok with
    | false =>
      go_wp2_with fail
      go_meet
      exact ⟨rfl, HB9.out⟩
    | true =>
    obtain ⟨f, l, R⟩ := HREC.out rfl
    obtain ⟨e1, e2⟩ := HF.out f l R
    subst e1 e2
    have HR := Lib.hid R
    have hfl := R.fl
    have hln := R.ln
    have hz := R.sz
    clear R HF HREC
    go_wp2_with fail
    refine (HR.out.ht _).mono ?_
    rintro e v1 ⟨v, rfl, hr, hb⟩
    have HB10 := Lib.hid (HB9.out.trans (hb.mono HB9.out.size))
    have HI1 := Lib.hid hr
    clear hb hr HB9
    go_wp2_with fail
    refine (HR.out.ag _).mono ?_
    rintro e v2 ⟨rfl, hb⟩
    have HB11 := Lib.hid (HB10.out.trans (hb.mono HB10.out.size))
    have HI2 := Lib.hid (HI1.out.below hb)
    clear hb HB10 HI1
    have hneg : wrap64 (-h) = -h := by have := HR.out.hb; unfold wrap64; omega
    go_wp2_with fail
    refine (HR.out.ho _).mono ?_
    rintro e v3 ⟨rfl, hb⟩
    have HB12 := Lib.hid (HB11.out.trans (hb.mono HB11.out.size))
    have HI3 := Lib.hid (HI2.out.below hb)
    clear hb HB11 HI2 hneg
    go_wp2_with fail
    refine (HR.out.e0 _).mono ?_
    rintro e v4 ⟨rfl, hb⟩
    have HB13 := Lib.hid (HB12.out.trans (hb.mono HB12.out.size))
    have HI4 := Lib.hid (HI3.out.below hb)
    clear hb HB12 HI3
    go_wp2_with fail
    refine (HR.out.e1 _).mono ?_
    rintro e v5 ⟨rfl, hb⟩
    have HB14 := Lib.hid (HB13.out.trans (hb.mono HB13.out.size))
    have HI5 := Lib.hid (HI4.out.below hb)
    clear hb HB13 HI4
    go_wp2_with fail
    refine (HR.out.e2 _).mono ?_
    rintro e v6 ⟨rfl, hb⟩
    have HB15 := Lib.hid (HB14.out.trans (hb.mono HB14.out.size))
    have HI6 := Lib.hid (HI5.out.below hb)
    clear hb HB14 HI5
    obtain ⟨g, c, rfl, hgB, hgl⟩ := HI6.out.form' (hts_length s) (by omega)
    have q1 := hts_at HI6.out f (by omega)
    have q2 := hts_at HI6.out l (by omega)
    have hE := hAt_bd s s.size
    rw [HR.out.hf] at q1
    rw [HR.out.hl] at q2
    have hh := HR.out.hb
    have hh1 := hh.1
    have hh2 := hh.2
    have x1 : (f : Int) < (s.size : Int) + 1 := by omega
    have x2 : (l : Int) < (s.size : Int) + 1 := by omega
    have x3 : decide ((l : Int) < (f : Int)) = false := decide_eq_false (by omega)
    clear hh
    generalize hAt s s.size = E at *
    go_wp2_with fail
    go_loopw [4, 280] (fun sv kv wr => ∃ k : Nat, k ≤ s.size + 1 ∧ sv = .bool false ∧ kv = .int .i64 (k : Int) ∧ v6 = wr) (fun _ kv _ => s.size + 1 - (intOf kv).toNat)
    case atStart => exact ⟨0, Nat.zero_le _, rfl, rfl, rfl⟩
    case round =>
      obtain ⟨k, hk, rfl, rfl, rfl⟩ := hrel
      by_cases hlt : k < s.size + 1
      · have hc := hts_at HI6.out k (by omega)
        have HAL := Lib.hid (HR.out.al k (by omega))
        have y0 : (k : Int) < (s.size : Int) + 1 := by omega
        generalize hAt s k = x at *
        by_cases hx : x = h
        · have h3 := HAL.out hx
          have y1 : decide ((k : Int) < (f : Int)) = false := decide_eq_false (by omega)
          have y2 : decide ((l : Int) < (k : Int)) = false := decide_eq_false (by omega)
          have y3 : (x == h) = true := by simpa using hx
          have y4 : decide (k < f) = false := decide_eq_false (by omega)
          have y5 : decide (l < k) = false := decide_eq_false (by omega)
          have y6 : f ≤ k := by omega
          have y7 : k ≤ l := by omega
          clear hx h3
          go_wp2_with fail
          go_roundw
          case rel => exact ⟨k + 1, by omega, rfl, by go_num, by first | rfl | trivial⟩
          case measure => simp [intOf]; omega
        · have y3 : (x == h) = false := by simpa using hx
          clear hx
          go_wp2_with fail
          go_roundw
          case rel => exact ⟨k + 1, by omega, rfl, by go_num, by first | rfl | trivial⟩
          case measure => simp [intOf]; omega
      · obtain rfl : k = s.size + 1 := by omega
        clear q1 q2 x1 x2 x3
        go_wp2_with fail
        refine (HR.out.ti _).mono ?_
        rintro e v7 ⟨rfl, hb⟩
        have HB16 := Lib.hid (HB15.out.trans (hb.mono HB15.out.size))
        have HT1 := Lib.hid HR.out.t1
        have HT2 := Lib.hid HR.out.t2
        clear hb HB15
        generalize timesTo s h (s.size + 1) = T at *
        have z0 := HT1.out
        have z1 : decide ((T : Int) < 1) = false := decide_eq_false (by omega)
        by_cases hT : T = 1
        · have hfl2 := HT2.out.1 hT
          have z2 : ((T : Int) == 1) = true := by rw [hT]; rfl
          have z3 : ((f : Int) == (l : Int)) = true := by rw [hfl2]; simp
          clear hT hfl2
          go_wp2_with fail
          go_meet
          exact ⟨rfl, HB16.out⟩
        · have hfl2 : ¬ f = l := fun e => hT (HT2.out.2 e)
          have z2 : ((T : Int) == 1) = false := by simp; omega
          have z3 : ((f : Int) == (l : Int)) = false := by simp; omega
          clear hT hfl2
          go_wp2_with fail
          go_meet
          exact ⟨rfl, HB16.out⟩
  case rest =>
  as_aux_lemma =>
  obtain ⟨rfl, hbc⟩ := hcut
  have HBC := Lib.hid hbc
  clear hbc HB9 HREC HF HOKE
  go_wp2_with fail
  refine (HD1.out _ HBC.out).mono ?_
  rintro e wd ⟨p, rfl, hp50, hbd⟩
  have HBD := Lib.hid (HBC.out.trans (hbd.mono HBC.out.size))
  have hpm : p.size ≤ maxLen := by unfold maxLen; omega
  have P1 := Lib.hid fun W => pairOfI_ret p W hpm
  have P2 := Lib.hid fun W => specPairOf_ret p W hpm
  have P3 := Lib.hid fun W => isGood_ret p W hpm
  have P4 := Lib.hid fun W => isClosed_ret p W hpm
  have HPF : Hid (prOk p = true → (∀ W, Calls Try.prog 20 #[.string (prV p)] W (Ret W (.tuple #[.int .i64 2, .bool true]))) ∧ (∀ W, Calls Try.prog 13 #[.string (prV p), .int .i64 1] W (Ret W (.tuple #[.string p, .bool true]))) ∧ (prV p).size = p.size) := Lib.hid fun hok => by
    obtain ⟨a1, a2, a3, a4, a5⟩ := pr_facts hok
    have hm : (prV p).size ≤ maxLen := by rw [a3]; exact hpm
    refine ⟨fun W => ?_, fun W => ?_, a3⟩
    · have := endHeight_ret (prV p) W hm
      unfold endV at this
      rw [a4, a3, a5] at this
      exact this
    · have := reflectBefore_ret (prV p) 1 W hm
      rwa [a1, a2] at this
  have HPO := Lib.hid (pr_is p)
  clear hbd HBC HD1 hpm
  go_wp2_with fail
  refine (P1.out _).mono ?_
  rintro e u1 ⟨rfl, hb⟩
  have HK1 := Lib.hid (HBD.out.trans (hb.mono HBD.out.size))
  clear hb HBD P1
  go_wp2_with fail
  refine (P2.out _).mono ?_
  rintro e u2 ⟨rfl, hb⟩
  have HK2 := Lib.hid (HK1.out.trans (hb.mono HK1.out.size))
  clear hb HK1 P2
  go_wp2_with fail
  refine (P3.out _).mono ?_
  rintro e u3 ⟨rfl, hb⟩
  have HK3 := Lib.hid (HK2.out.trans (hb.mono HK2.out.size))
  clear hb HK2 P3
  go_wp2_with fail
  refine (P4.out _).mono ?_
  rintro e u4 ⟨rfl, hb⟩
  have HK4 := Lib.hid (HK3.out.trans (hb.mono HK3.out.size))
  clear hb HK3 P4
  generalize prOk p = ok2 at *
  generalize prV p = R2 at *
  generalize pathB p = b1 at *
  generalize closedV p = b2 at *
  generalize goodV p = b3 at *
  go_upto_region 39 with fail
  go_cut [363] from 349 to 363 (fun s wx => s = .bool false ∧ u4 = wx)
  case first =>
    as_aux_lemma =>
    obtain rfl := HPO.out
    clear HPF
    rcases Bool.eq_false_or_eq_true b1 with rfl | rfl <;> rcases Bool.eq_false_or_eq_true b2 with rfl | rfl <;> rcases Bool.eq_false_or_eq_true b3 with rfl | rfl
    all_goals
      go_wp2_with fail
      go_meet
      exact ⟨rfl, rfl⟩
  case rest =>
  as_aux_lemma =>
  obtain ⟨rfl, rfl⟩ := hcut
  clear HPO
  go_upto_if 364 with fail
  go_cut [4] from 48 to 396 (fun s wx => s = .bool false ∧ Below w.heap.size w wx)
  case first =>
    as_aux_lemma =>
    cases ok2 with
    | false =>
      go_wp2_with fail
      go_meet
      exact ⟨rfl, HK4.out⟩
    | true =>
    obtain ⟨y1, y2, y3⟩ := HPF.out rfl
    have Y1 := Lib.hid y1
    have Y2 := Lib.hid y2
    have y4 : ((R2.size : Int) == (p.size : Int)) = true := by rw [y3]; simp
    have y5 : ((R2.size : Int) != (p.size : Int)) = false := by rw [y3]; simp
    have y6 : (R2.size == p.size) = true := by rw [y3]; simp
    have y7 : (R2.size != p.size) = false := by rw [y3]; simp
    clear y1 y2 y3 HPF
    go_wp2_with fail
    refine (Y1.out _).mono ?_
    rintro e u5 ⟨rfl, hb⟩
    have HK5 := Lib.hid (HK4.out.trans (hb.mono HK4.out.size))
    clear hb HK4
    go_wp2_with fail
    refine (Y2.out _).mono ?_
    rintro e u6 ⟨rfl, hb⟩
    have HK6 := Lib.hid (HK5.out.trans (hb.mono HK5.out.size))
    clear hb HK5
    go_wp2_with fail
    go_meet
    exact ⟨rfl, HK6.out⟩
  case rest =>
  as_aux_lemma =>
  obtain ⟨rfl, hbc⟩ := hcut
  have HM0 := Lib.hid hbc
  clear hbc HK4 HPF
  go_wp2_with fail
  refine (HD2.out _ HM0.out).mono ?_
  rintro e we ⟨q, lo, hi, rfl, ⟨hq50, hlo, hhi⟩, hbd⟩
  have HM1 := Lib.hid (HM0.out.trans (hbd.mono HM0.out.size))
  have hqm : q.size ≤ maxLen := by unfold maxLen; omega
  have T1 := Lib.hid fun W => touchText_ret q lo hi W hqm
  have T2 := Lib.hid fun W => specTouchText_ret q lo hi W hqm
  have T3 : Hid (pathB q = true → ∀ W, Calls Try.prog 21 #[.string q, .int .i64 lo] W (Ret W (.tuple #[.int .i64 ((timesTo q lo (q.size + 1) : Nat) : Int), .bool true]))) := Lib.hid fun hp W => by
    have := times_ret q lo W hqm
    unfold timesV at this
    rw [hp] at this
    exact this
  have T4 : Hid (pathB q = true → ∀ W, Calls Try.prog 21 #[.string q, .int .i64 hi] W (Ret W (.tuple #[.int .i64 ((timesTo q hi (q.size + 1) : Nat) : Int), .bool true]))) := Lib.hid fun hp W => by
    have := times_ret q hi W hqm
    unfold timesV at this
    rw [hp] at this
    exact this
  have T5 := Lib.hid fun (h : txOk q lo hi = true) => ttx_facts h _ rfl
  have ht1 := timesTo_le q lo (q.size + 1)
  have ht2 := timesTo_le q hi (q.size + 1)
  clear hbd HM0 HD2 hqm
  go_wp2_with fail
  refine (T1.out _).mono ?_
  rintro e wf ⟨rfl, hb⟩
  have HM2 := Lib.hid (HM1.out.trans (hb.mono HM1.out.size))
  clear hb HM1 T1
  go_wp2_with fail
  refine (T2.out _).mono ?_
  rintro e wg ⟨rfl, hb⟩
  have HM3 := Lib.hid (HM2.out.trans (hb.mono HM2.out.size))
  clear hb HM2 T2
  generalize txOk q lo hi = ok3 at *
  generalize txV q lo hi = T at *
  generalize timesTo q lo (q.size + 1) = M at *
  generalize timesTo q hi (q.size + 1) = N at *
  cases ok3 with
  | false =>
    go_wp2_with fail
    go_ret
    exact ⟨rfl, HM3.out⟩
  | true =>
  obtain ⟨hp, hT41, hU, hV, hc1, hc2, hc3, hc4⟩ := T5.out rfl
  have T6 := Lib.hid (T3.out hp)
  have T7 := Lib.hid (T4.out hp)
  have HU := Lib.hid hU
  have HV := Lib.hid hV
  have HC3 := Lib.hid hc3
  have HC4 := Lib.hid hc4
  have HASC : Hid (∀ j (h : j < T.size), (T[j]'h).toNat < 128) := Lib.hid fun j h => by
    rcases hU j h with e | e <;> omega
  clear hp hU hV hc3 hc4 T3 T4 T5
  go_wp2_with fail
  refine (T6.out _).mono ?_
  rintro e wh ⟨rfl, hb⟩
  have HM4 := Lib.hid (HM3.out.trans (hb.mono HM3.out.size))
  clear hb HM3 T6
  go_wp2_with fail
  refine (T7.out _).mono ?_
  rintro e wi ⟨rfl, hb⟩
  have HM5 := Lib.hid (HM4.out.trans (hb.mono HM4.out.size))
  clear hb HM4 T7
  have hit0 : (wi.iter T 0).heap[wi.heap.size]? = some (.stringIter T 0) := World.iter_heap wi T 0
  have hb0 : Below wi.heap.size wi (wi.iter T 0) := (Below.refl _ _).alloc (Nat.le_refl _) _
  have hz0 : (wi.iter T 0).heap.size = wi.heap.size + 1 := by simp [World.iter]
  go_upto_block 3 with fail
  generalize wi.iter T 0 = W0 at *
  go_loopw [4, 63, 64] (fun sv lv hv wr => ∃ j : Nat, j ≤ T.size ∧ sv = .bool false ∧ lv = .int .i64 ((cntB T 108 j : Nat) : Int) ∧ hv = .int .i64 ((cntB T 104 j : Nat) : Int) ∧ wr.heap[wi.heap.size]? = some (.stringIter T j) ∧ Below wi.heap.size wi wr) (fun _ _ _ wr => T.size + 1 - wr.iterPos wi.heap.size)
  case atStart => exact ⟨0, by omega, rfl, rfl, rfl, hit0, hb0⟩
  case round =>
    obtain ⟨j, hj, rfl, rfl, rfl, hit, hb⟩ := hrel
    clear hit0 hb0 hz0
    by_cases hlt : j < T.size
    · have hnx0 := fun ty => Lib.run_next_ascii_at (P := Try.prog) wr wi.heap.size T j ty hit hlt (HASC.out j hlt)
      have HPOS : Hid (wr.iterPos wi.heap.size = j) := Lib.hid (by unfold World.iterPos; rw [hit])
      have hit1 := Lib.iterAt_heap wr wi.heap.size T j (j + 1) hit
      have hb1 := Lib.below_iterAt hb (Nat.le_refl wi.heap.size) T (j + 1)
      have HIT1 := Lib.hid hit1
      have HBE1 := Lib.hid hb1
      have hj64 : ¬ (9223372036854775807 < T.size) := by omega
      have n1 := cntB_le T 108 j
      have n2 := cntB_le T 104 j
      have HN1 : Hid (cntB T 108 (j + 1) = cntB T 108 j + (if T[j].toNat = 108 then 1 else 0)) := Lib.hid (by rw [cntB, dif_pos hlt])
      have HN2 : Hid (cntB T 104 (j + 1) = cntB T 104 j + (if T[j].toNat = 104 then 1 else 0)) := Lib.hid (by rw [cntB, dif_pos hlt])
      have HPRE : Hid (∀ i, i + 1 = j → ∀ h : i < T.size, T[j].toNat ≠ T[i].toNat) := Lib.hid fun i e h => by
        subst e
        exact HV.out i hlt
      clear hit hb hit1 hb1
      generalize wr.iterAt wi.heap.size T (j + 1) = W at *
      have b1 : (j : Int) ≤ (T.size : Int) := by omega
      have b2 : (0 : Int) ≤ (j : Int) := by omega
      generalize cntB T 108 j = x1 at *
      generalize cntB T 104 j = x2 at *
      generalize hx3 : cntB T 108 (j + 1) = x3 at *
      generalize hx4 : cntB T 104 (j + 1) = x4 at *
      have HX3 := Lib.hid hx3
      have HX4 := Lib.hid hx4
      clear hx3 hx4
      rcases HU.out j hlt with hc | hc
      · have e1 : x3 = x1 + 1 := by rw [HN1.out, if_pos hc]
        have e2 : x4 = x2 := by rw [HN2.out, if_neg (by omega), Nat.add_zero]
        have HE1 := Lib.hid e1
        have HE2 := Lib.hid e2
        clear e1 e2
        have hbb : (((T[j]'hlt).toNat : Int) == 108) = true := by rw [hc]; rfl
        by_cases hj0 : j = 0
        · subst hj0
          have hcc := Lib.hid hc
          clear hc
          go_wp2_with fail
          go_quiet (fail)
          go_wp2_with fail
          go_roundw
          case rel => exact ⟨0 + 1, by omega, rfl, by (first | (rw [HX3.out, HE1.out]; done) | (rw [HX3.out, HE1.out]; go_num)), by (first | (rw [HX4.out, HE2.out]; done) | (rw [HX4.out, HE2.out]; go_num)), HIT1.out, below_drewN HBE1.out _⟩
          case measure =>
            have HPP : ∀ n, (W.drewN n).iterPos wi.heap.size = 0 + 1 := fun n => by unfold World.iterPos; show (match W.heap[wi.heap.size]? with | some (.stringIter _ p) => p | _ => 0) = 0 + 1; rw [HIT1.out]
            rw [HPP, HPOS.out]; omega
        · obtain ⟨j1, hj1⟩ : ∃ j1, j = j1 + 1 := ⟨j - 1, by omega⟩
          have h7 : j1 < T.size := by omega
          have h8 := HPRE.out j1 hj1.symm h7
          have h9 : (((T[j]'hlt).toNat : Int) == ((T[j1]'h7).toNat : Int)) = false := by simp; omega
          have h10 : ((T[j]'hlt).toNat == (T[j1]'h7).toNat) = false := by simpa using h8
          have h6 : (0 : Int) < (j : Int) := by omega
          have h5 : 0 < j := by omega
          have h4 : (j : Int) - 1 = (j1 : Int) := by omega
          have h3 : (j : Int) < (T.size : Int) := by omega
          have h2 : (j1 : Int) < (T.size : Int) := by omega
          clear hj0
          have HJ1 := Lib.hid hj1
          clear hj1
          have hcc := Lib.hid hc
          clear hc h8
          go_wp2_with fail
          go_quiet (fail)
          go_wp2_with fail
          go_roundw
          case rel => exact ⟨j + 1, by omega, rfl, by (first | (rw [HX3.out, HE1.out]; done) | (rw [HX3.out, HE1.out]; go_num)), by (first | (rw [HX4.out, HE2.out]; done) | (rw [HX4.out, HE2.out]; go_num)), HIT1.out, below_drewN HBE1.out _⟩
          case measure =>
            have HPP : ∀ n, (W.drewN n).iterPos wi.heap.size = j + 1 := fun n => by unfold World.iterPos; show (match W.heap[wi.heap.size]? with | some (.stringIter _ p) => p | _ => 0) = j + 1; rw [HIT1.out]
            rw [HPP, HPOS.out]; omega
      · have e1 : x3 = x1 := by rw [HN1.out, if_neg (by omega), Nat.add_zero]
        have e2 : x4 = x2 + 1 := by rw [HN2.out, if_pos hc]
        have HE1 := Lib.hid e1
        have HE2 := Lib.hid e2
        clear e1 e2
        have hbb : (((T[j]'hlt).toNat : Int) == 108) = false := by rw [hc]; rfl
        by_cases hj0 : j = 0
        · subst hj0
          have hcc := Lib.hid hc
          clear hc
          go_wp2_with fail
          go_quiet (fail)
          go_wp2_with fail
          go_roundw
          case rel => exact ⟨0 + 1, by omega, rfl, by (first | (rw [HX3.out, HE1.out]; done) | (rw [HX3.out, HE1.out]; go_num)), by (first | (rw [HX4.out, HE2.out]; done) | (rw [HX4.out, HE2.out]; go_num)), HIT1.out, below_drewN HBE1.out _⟩
          case measure =>
            have HPP : ∀ n, (W.drewN n).iterPos wi.heap.size = 0 + 1 := fun n => by unfold World.iterPos; show (match W.heap[wi.heap.size]? with | some (.stringIter _ p) => p | _ => 0) = 0 + 1; rw [HIT1.out]
            rw [HPP, HPOS.out]; omega
        · obtain ⟨j1, hj1⟩ : ∃ j1, j = j1 + 1 := ⟨j - 1, by omega⟩
          have h7 : j1 < T.size := by omega
          have h8 := HPRE.out j1 hj1.symm h7
          have h9 : (((T[j]'hlt).toNat : Int) == ((T[j1]'h7).toNat : Int)) = false := by simp; omega
          have h10 : ((T[j]'hlt).toNat == (T[j1]'h7).toNat) = false := by simpa using h8
          have h6 : (0 : Int) < (j : Int) := by omega
          have h5 : 0 < j := by omega
          have h4 : (j : Int) - 1 = (j1 : Int) := by omega
          have h3 : (j : Int) < (T.size : Int) := by omega
          have h2 : (j1 : Int) < (T.size : Int) := by omega
          clear hj0
          have HJ1 := Lib.hid hj1
          clear hj1
          have hcc := Lib.hid hc
          clear hc h8
          go_wp2_with fail
          go_quiet (fail)
          go_wp2_with fail
          go_roundw
          case rel => exact ⟨j + 1, by omega, rfl, by (first | (rw [HX3.out, HE1.out]; done) | (rw [HX3.out, HE1.out]; go_num)), by (first | (rw [HX4.out, HE2.out]; done) | (rw [HX4.out, HE2.out]; go_num)), HIT1.out, below_drewN HBE1.out _⟩
          case measure =>
            have HPP : ∀ n, (W.drewN n).iterPos wi.heap.size = j + 1 := fun n => by unfold World.iterPos; show (match W.heap[wi.heap.size]? with | some (.stringIter _ p) => p | _ => 0) = j + 1; rw [HIT1.out]
            rw [HPP, HPOS.out]; omega
    · obtain rfl : j = T.size := by omega
      have hnx0 := fun ty => Lib.run_next_end_at (P := Try.prog) wr wi.heap.size T T.size ty hit hlt
      have HBF := Lib.hid (HM5.out.trans (hb.mono HM5.out.size))
      generalize cntB T 108 T.size = x1 at *
      generalize cntB T 104 T.size = x2 at *
      have a1 : decide ((M : Int) < (x1 : Int)) = false := decide_eq_false (by omega)
      have a2 : decide ((N : Int) < (x2 : Int)) = false := decide_eq_false (by omega)
      have a3 : decide (M < x1) = false := decide_eq_false (by omega)
      have a4 : decide (N < x2) = false := decide_eq_false (by omega)
      clear hb
      have g1 : (0 < x1 ∧ 0 < M) ∨ (x1 = 0 ∧ M = 0) := by
        by_cases h : 0 < x1
        · have := HC3.out.1 h; left; omega
        · have : ¬ 0 < M := fun h2 => h (HC3.out.2 h2)
          right; omega
      have g2 : (0 < x2 ∧ 0 < N) ∨ (x2 = 0 ∧ N = 0) := by
        by_cases h : 0 < x2
        · have := HC4.out.1 h; left; omega
        · have : ¬ 0 < N := fun h2 => h (HC4.out.2 h2)
          right; omega
      have hb5 : M ≤ 1000 ∧ N ≤ 1000 := by omega
      clear HC3 HC4 hc1 hc2
      rcases g1 with ⟨b1, b2⟩ | ⟨rfl, rfl⟩ <;> rcases g2 with ⟨b3, b4⟩ | ⟨rfl, rfl⟩
      all_goals
        go_wp2_with fail
        go_ret
        exact ⟨rfl, HBF.out⟩
end Go.Proofs.Ytachijliaedndaa
