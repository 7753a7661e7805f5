/- cutPath. -/
import Derived.Test.YtgajknnfmnnfeaaPathOk
import Derived.Test.YtgajknnfmnnfeaaParts
import Derived.WalkMore
import Derived.ScopeJumps
namespace Go.Proofs.Ytgajknnfmnnfeaa
open Go.RowKit
/-- the parts from one step on: each begins where the one before ends -/
def cuts (E : Nat → Nat) (n : Nat) : Nat → Nat → List (Nat × Nat)
  | 0, _ => []
  | f + 1, k => if k < n then (k, E k) :: cuts E n f (E k) else []
theorem cuts_step {E : Nat → Nat} {n f k : Nat} (h : k < n) : cuts E n (f + 1) k = (k, E k) :: cuts E n f (E k) := by rw [cuts, if_pos h]
theorem cuts_end {E : Nat → Nat} {n f : Nat} : cuts E n f n = [] := by
  cases f with
  | zero => rfl
  | succ f => rw [cuts, if_neg (by omega)]
set_option maxRecDepth 100000 in
set_option maxHeartbeats 1000000 in
theorem cutReturns_any (s : ByteArray) (E : Nat → Nat) (w : World) (h40 : s.size ≤ 40)
    (hf : Hid (∀ w k, k ≤ s.size → Calls Try.prog 109 #[.string s, .int .i64 (k : Nat)] w (Ret w (.int .i64 (E k : Nat)))))
    (hE : Hid (∀ k, k < s.size → k < E k ∧ E k ≤ s.size)) (hE2 : Hid (E s.size = s.size)) :
    Calls Try.prog 108 #[.string s, .func (.func 109) #[] #[]] w fun e w' => ∃ v, e = .returned v ∧ PRow w' w.heap.size v (cuts E s.size (s.size + 1) 0) ∧ Below w.heap.size w w' := by
  generalize hN : cuts E s.size (s.size + 1) 0 = N
  have HN : Hid (∃ f, s.size < f + 0 ∧ [] ++ cuts E s.size f 0 = N) := Lib.hid ⟨s.size + 1, by omega, hN⟩
  clear hN
  obtain ⟨w1, hw1⟩ : ∃ w1, w1 = w.alloc (.cells #[.int .i64 (s.size : Nat), .int .i64 (s.size : Nat)] 80) := ⟨_, rfl⟩
  have W1 : Hid (w1.cell? ⟨w.heap.size, 0, none⟩ = some (.int .i64 (s.size : Nat)) ∧ w1.cell? ⟨w.heap.size, 1, none⟩ = some (.int .i64 (s.size : Nat)) ∧ w1.heap.size = w.heap.size + 1) := by
    subst hw1; refine ⟨?_, ?_, ?_⟩ <;> simp
  have WB : Hid (Below w.heap.size w w1) := by subst hw1; exact (Below.refl _ _).alloc (Nat.le_refl _) _
  have HW1 := Lib.hid hw1
  clear hw1
  go_enter Try.func108, Try.ntmps108
  go_wp2
  refine wp_scope_jumps 0 (fun a' wr => ∃ (k : Nat) (out : List (Nat × Nat)) (v u8 u14 u15 u16 u17 u18 u19 u20 u21 u22 u23 u24 u25 u26 u27 u28 u29 : Value), k ≤ s.size ∧ Hid (∃ f, s.size < f + k ∧ out ++ cuts E s.size f k = N) ∧ out.length ≤ k ∧ PRow wr (w.heap.size + 1) v out ∧ Below (w.heap.size + 1) w1 wr ∧ a' = { tmps := #[.string s, .func (.func 109) #[] #[], undef, undef, .slice none 0 0, .pointer (some ⟨w.heap.size, 0, none⟩), v, .int .i64 (k : Nat), u8, .string s, .int .i64 (s.size : Nat), .string s, .int .i64 (s.size : Nat), .agg #[.int .i64 (s.size : Nat), .int .i64 (s.size : Nat)], u14, u15, u16, u17, u18, u19, u20, u21, u22, u23, u24, u25, u26, u27, u28, u29], defers := [] }) (fun a' _ => s.size - (intOf (a'.tmps.getD 7 undef)).toNat) rfl ?_ ?_
  · go_wp2
    go_step3
    rw [← HW1.out]
    obtain ⟨k, hk0⟩ : ∃ k : Nat, (0 : Int) = (k : Int) := ⟨0, rfl⟩
    rw [hk0]
    have hk : k ≤ s.size := by omega
    have HO : Hid (∃ f, s.size < f + k ∧ [] ++ cuts E s.size f k = N) := by
      have : k = 0 := by omega
      subst this
      exact HN
    obtain ⟨out, hout⟩ : ∃ out : List (Nat × Nat), out = [] := ⟨_, rfl⟩
    rw [← hout] at HO
    have hol : out.length ≤ k := by rw [hout]; simp
    have hrow : PRow w1 (w.heap.size + 1) (.slice none 0 0) out := by rw [hout]; exact PRow.nil _ _
    obtain ⟨wr, hwr⟩ : ∃ wr, wr = w1 := ⟨_, rfl⟩
    have hb : Below (w.heap.size + 1) w1 wr := by rw [hwr]; exact Below.refl _ _
    rw [← hwr] at hrow ⊢
    clear hk0 hout hwr
    have hsz := hb.size
    have c1 : wr.cell? ⟨w.heap.size, 0, none⟩ = some (.int .i64 (s.size : Nat)) := (hb.cell (p := ⟨w.heap.size, 0, none⟩) (by simp)).trans W1.out.1
    have c2 : wr.cell? ⟨w.heap.size, 1, none⟩ = some (.int .i64 (s.size : Nat)) := (hb.cell (p := ⟨w.heap.size, 1, none⟩) (by simp)).trans W1.out.2.1
    have hs1 : w.heap.size + 1 ≤ wr.heap.size := by have := W1.out.2.2; omega
    by_cases hlt : k < s.size
    · have HEK := Lib.hid (hE.out k hlt)
      have i1 : ((k : Int) == (s.size : Int)) = false := beq_eq_false_iff_ne.2 (by omega)
      have HC : Hid (∃ f, s.size < f + E k ∧ out ++ [(k, E k)] ++ cuts E s.size f (E k) = N) := by
        obtain ⟨f, h1, h2⟩ := HO.out
        obtain ⟨g, rfl⟩ : ∃ g, f = g + 1 := ⟨f - 1, by omega⟩
        have := (hE.out k hlt).1
        rw [cuts_step hlt] at h2
        exact ⟨g, by omega, by rw [← h2]; simp⟩
      obtain ⟨m, hm⟩ : ∃ m, m = E k := ⟨_, rfl⟩
      rw [← hm] at HEK HC
      have HF := Lib.hid (hf.out wr k (by omega))
      rw [← hm] at HF
      clear hm
      have hmk := HEK.out
      go_wp2_with fail
      refine HF.out.mono ?_
      rintro e w2 ⟨rfl, hb2⟩
      have d1 : w2.cell? ⟨w.heap.size, 0, none⟩ = some (.int .i64 (s.size : Nat)) := (hb2.cell (p := ⟨w.heap.size, 0, none⟩) (by simp; omega)).trans c1
      have d2 : w2.cell? ⟨w.heap.size, 1, none⟩ = some (.int .i64 (s.size : Nat)) := (hb2.cell (p := ⟨w.heap.size, 1, none⟩) (by simp; omega)).trans c2
      have hs2 : w.heap.size < w2.heap.size := Nat.lt_of_lt_of_le hs1 hb2.size
      have hrow2 := hrow.below hb2
      clear hrow c1 c2
      go_wp2_with (at_builtin; go_loud (refine wpList_pushP k m (.tmp 24) (.tmp 26) rfl rfl (w.heap.size + 1) _ out rfl (hrow2.alloc _) _ (by simp) rfl (by omega) (by simp; omega) ?_; intro v' w3 hrow' hg' hat'; have d4 : w3.cell? ⟨w2.heap.size, 1, none⟩ = some (.int .i64 (m : Nat)) := hg'.cell (by simp) (fun e => Nat.lt_irrefl _ (hrow2.blk _ e.symm).2)))
      have HBW : Below (w.heap.size + 1) w1 w3 := ((hb.trans (hb2.mono hs1)).alloc (by have := hb2.size; omega) _).grown hg' (by simp; omega) (fun j hj => (hrow2.blk j hj).1)
      go_step3
      refine ⟨rfl, m, out ++ [(k, m)], v', _, _, _, _, _, _, _, _, _, _, _, _, _, _, _, _, _, hmk.2, HC, by simp; omega, hrow', HBW, rfl⟩
    · obtain rfl : k = s.size := by omega
      have i1 : ((s.size : Int) == (s.size : Int)) = true := beq_iff_eq.2 rfl
      have HF := Lib.hid (hf.out wr s.size (by omega))
      rw [hE2.out] at HF
      have HX : Hid (out = N) := by
        obtain ⟨f, h1, h2⟩ := HO.out
        rw [cuts_end, List.append_nil] at h2
        exact h2
      go_wp2_with fail
      refine HF.out.mono ?_
      rintro e w2 ⟨rfl, hb2⟩
      have d1 : w2.cell? ⟨w.heap.size, 0, none⟩ = some (.int .i64 (s.size : Nat)) := (hb2.cell (p := ⟨w.heap.size, 0, none⟩) (by simp; omega)).trans c1
      have d2 : w2.cell? ⟨w.heap.size, 1, none⟩ = some (.int .i64 (s.size : Nat)) := (hb2.cell (p := ⟨w.heap.size, 1, none⟩) (by simp; omega)).trans c2
      have hs2 : w.heap.size < w2.heap.size := Nat.lt_of_lt_of_le hs1 hb2.size
      have hrow2 := hrow.below hb2
      clear hrow c1 c2
      go_wp2
      simp only [Exit.jump]
      go_ret
      have hb3 := ((hb.trans (hb2.mono hs1)).mono (Nat.le_succ w.heap.size))
      exact ⟨_, rfl, by rw [← HX.out]; exact (hrow2.alloc _).mono (Nat.le_succ _), (WB.out.trans hb3).alloc (by omega) _⟩

  · rintro a' wr ⟨k, out, v, u8, u14, u15, u16, u17, u18, u19, u20, u21, u22, u23, u24, u25, u26, u27, u28, u29, hk, HO, hol, hrow, hb, rfl⟩
    have hsz := hb.size
    have c1 : wr.cell? ⟨w.heap.size, 0, none⟩ = some (.int .i64 (s.size : Nat)) := (hb.cell (p := ⟨w.heap.size, 0, none⟩) (by simp)).trans W1.out.1
    have c2 : wr.cell? ⟨w.heap.size, 1, none⟩ = some (.int .i64 (s.size : Nat)) := (hb.cell (p := ⟨w.heap.size, 1, none⟩) (by simp)).trans W1.out.2.1
    have hs1 : w.heap.size + 1 ≤ wr.heap.size := by have := W1.out.2.2; omega
    by_cases hlt : k < s.size
    · have HEK := Lib.hid (hE.out k hlt)
      have i1 : ((k : Int) == (s.size : Int)) = false := beq_eq_false_iff_ne.2 (by omega)
      have HC : Hid (∃ f, s.size < f + E k ∧ out ++ [(k, E k)] ++ cuts E s.size f (E k) = N) := by
        obtain ⟨f, h1, h2⟩ := HO.out
        obtain ⟨g, rfl⟩ : ∃ g, f = g + 1 := ⟨f - 1, by omega⟩
        have := (hE.out k hlt).1
        rw [cuts_step hlt] at h2
        exact ⟨g, by omega, by rw [← h2]; simp⟩
      obtain ⟨m, hm⟩ : ∃ m, m = E k := ⟨_, rfl⟩
      rw [← hm] at HEK HC
      have HF := Lib.hid (hf.out wr k (by omega))
      rw [← hm] at HF
      clear hm
      have hmk := HEK.out
      go_wp2_with fail
      refine HF.out.mono ?_
      rintro e w2 ⟨rfl, hb2⟩
      have d1 : w2.cell? ⟨w.heap.size, 0, none⟩ = some (.int .i64 (s.size : Nat)) := (hb2.cell (p := ⟨w.heap.size, 0, none⟩) (by simp; omega)).trans c1
      have d2 : w2.cell? ⟨w.heap.size, 1, none⟩ = some (.int .i64 (s.size : Nat)) := (hb2.cell (p := ⟨w.heap.size, 1, none⟩) (by simp; omega)).trans c2
      have hs2 : w.heap.size < w2.heap.size := Nat.lt_of_lt_of_le hs1 hb2.size
      have hrow2 := hrow.below hb2
      clear hrow c1 c2
      go_wp2_with (at_builtin; go_loud (refine wpList_pushP k m (.tmp 24) (.tmp 26) rfl rfl (w.heap.size + 1) _ out rfl (hrow2.alloc _) _ (by simp) rfl (by omega) (by simp; omega) ?_; intro v' w3 hrow' hg' hat'; have d4 : w3.cell? ⟨w2.heap.size, 1, none⟩ = some (.int .i64 (m : Nat)) := hg'.cell (by simp) (fun e => Nat.lt_irrefl _ (hrow2.blk _ e.symm).2)))
      have HBW : Below (w.heap.size + 1) w1 w3 := ((hb.trans (hb2.mono hs1)).alloc (by have := hb2.size; omega) _).grown hg' (by simp; omega) (fun j hj => (hrow2.blk j hj).1)
      go_step3
      refine ⟨rfl, ⟨m, out ++ [(k, m)], v', _, _, _, _, _, _, _, _, _, _, _, _, _, _, _, _, _, hmk.2, HC, by simp; omega, hrow', HBW, rfl⟩, by simp [intOf]; omega⟩
    · obtain rfl : k = s.size := by omega
      have i1 : ((s.size : Int) == (s.size : Int)) = true := beq_iff_eq.2 rfl
      have HF := Lib.hid (hf.out wr s.size (by omega))
      rw [hE2.out] at HF
      have HX : Hid (out = N) := by
        obtain ⟨f, h1, h2⟩ := HO.out
        rw [cuts_end, List.append_nil] at h2
        exact h2
      go_wp2_with fail
      refine HF.out.mono ?_
      rintro e w2 ⟨rfl, hb2⟩
      have d1 : w2.cell? ⟨w.heap.size, 0, none⟩ = some (.int .i64 (s.size : Nat)) := (hb2.cell (p := ⟨w.heap.size, 0, none⟩) (by simp; omega)).trans c1
      have d2 : w2.cell? ⟨w.heap.size, 1, none⟩ = some (.int .i64 (s.size : Nat)) := (hb2.cell (p := ⟨w.heap.size, 1, none⟩) (by simp; omega)).trans c2
      have hs2 : w.heap.size < w2.heap.size := Nat.lt_of_lt_of_le hs1 hb2.size
      have hrow2 := hrow.below hb2
      clear hrow c1 c2
      go_wp2
      simp only [Exit.jump]
      go_ret
      have hb3 := ((hb.trans (hb2.mono hs1)).mono (Nat.le_succ w.heap.size))
      exact ⟨_, rfl, by rw [← HX.out]; exact (hrow2.alloc _).mono (Nat.le_succ _), (WB.out.trans hb3).alloc (by omega) _⟩
end Go.Proofs.Ytgajknnfmnnfeaa
