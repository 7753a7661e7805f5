/- pathThrough, the program's PathOfTree. -/
import Derived.Test.YtgajknnfmnnfeaaTreesI
import Derived.Test.YtgajknnfmnnfeaaForV
import Derived.Test.YtgajknnfmnnfeaaForNth
import Derived.Test.YtgajknnfmnnfeaaJoinS
import Derived.Test.YtgajknnfmnnfeaaTOwn
namespace Go.Proofs.Ytgajknnfmnnfeaa
open Go.RowKit
set_option linter.unusedVariables false
theorem run_pushS3 (w : World) (ty : TypeId) (B : Nat) (v : Value) (xs : List ByteArray) (hown : SRow w B v xs) (gb : Nat) (a b c : ByteArray) (ha : w.cell? ⟨gb, 0, none⟩ = some (.string a)) (hb : w.cell? ⟨gb, 1, none⟩ = some (.string b)) (hc : w.cell? ⟨gb, 2, none⟩ = some (.string c)) (hlen : xs.length ≤ 1000000) (hB : B ≤ w.heap.size) :
    ∃ v' w', (Builtin.append_ #[71, 71] ty #[v, .slice (some ⟨gb, 0, none⟩) 3 3]).run Try.prog w = .ok v' w' ∧ SRow w' B v' (xs ++ [a, b, c]) ∧ w.grownBy w' v.ownBlock := by
  obtain ⟨i0, hi, hz0, hz1, hz2⟩ := info_parts strInfo
  obtain ⟨v', w', hr, h2, h3, h4, h5⟩ := run_append_own_at (P := Try.prog) w B 71 ty 9 i0 (.string ⟨#[]⟩) 1 16 Try.underlying71 hi hz0 hz1 hz2 rfl (by decide) v xs.length (xs.map Value.string) hown
    ⟨gb, 0, none⟩ 3 3 [.string a, .string b, .string c] rfl (by
      intro j y hj
      match j, hj with
      | 0, hj => simp at hj; subst hj; simpa [Addr.add] using ha
      | 1, hj => simp at hj; subst hj; simpa [Addr.add] using hb
      | 2, hj => simp at hj; subst hj; simpa [Addr.add] using hc) (by intro y hy; simp at hy; rcases hy with rfl | rfl | rfl <;> rfl) (by unfold maxLen; omega) (by omega) hB
  refine ⟨v', w', hr, ?_, h3⟩
  unfold SRow
  simpa using h2
theorem wpList_pushS3 {ops : Array Oper} {rest : List Oper} {o : Oper} {a : Act} {Q : Exit → Act → World → Prop} {w : World} (s x : Operand) (hgd : o.guard = none)
    (ho : o.op = .call { callee := .builtin .append, args := #[s, x], argTypes := #[71, 71] })
    (B : Nat) (v : Value) (xs : List ByteArray) (hs : a.eval s = v) (hown : SRow w B v xs) (gb : Nat) (a1 b1 c1 : ByteArray) (hx : a.eval x = .slice (some ⟨gb, 0, none⟩) 3 3)
    (ha : w.cell? ⟨gb, 0, none⟩ = some (.string a1)) (hb : w.cell? ⟨gb, 1, none⟩ = some (.string b1)) (hc : w.cell? ⟨gb, 2, none⟩ = some (.string c1)) (hlen : xs.length ≤ 1000000) (hB : B ≤ w.heap.size)
    (h : ∀ v' w', SRow w' B v' (xs ++ [a1, b1, c1]) → w.grownBy w' v.ownBlock → wpList Try.prog ops Q rest (a.put o.dst v') w') :
    wpList Try.prog ops Q (o :: rest) a w := by
  refine wpList_plain hgd fun K hK => ?_
  obtain ⟨v', w', hr, h2, h3⟩ := run_pushS3 w o.type B v xs hown gb a1 b1 c1 ha hb hc hlen hB
  unfold Oper.wp execOp
  simp only [ho, resolve, invoke, builtin, Sem.run_bind, Sem.run_pure, Result.andThen_ok, List.map_toArray, List.map_cons, List.map_nil, hs, hx, hr]
  exact hK _ _ (h v' w' h2 h3)
/-- the steps of the first k trees -/
def stp (f : For) : Nat → List ByteArray
  | 0 => []
  | k + 1 => stp f k ++ [⟨#[85]⟩, strOf (f.nth k).pb, ⟨#[68]⟩]
theorem stp_length (f : For) : ∀ k, (stp f k).length = 3 * k
  | 0 => rfl
  | k + 1 => by rw [stp, List.length_append, stp_length f k]; simp; omega
theorem catB_app (a b : List ByteArray) : catB (a ++ b) = catB a ++ catB b := by simp [catB]
theorem stp_cat (f : For) : ∀ k, catB (stp f k) = f.pbT k
  | 0 => rfl
  | k + 1 => by rw [stp, catB_app, stp_cat f k, For.pbT]; simp [catB, strOf_list]
theorem stp_small (f : For) (hf : f.size ≤ 16) : ∀ k, k ≤ f.cnt → ∀ x, x ∈ stp f k → x.size ≤ 100
  | 0, _, x, h => by simp [stp] at h
  | k + 1, hk, x, h => by
    rw [stp, List.mem_append] at h
    rcases h with h | h
    · exact stp_small f hf k (by omega) x h
    · have := f.nth_size k (by omega)
      simp at h
      rcases h with rfl | rfl | rfl
      · simp [ByteArray.size]
      · rw [strOf_size, For.pb_length]; omega
      · simp [ByteArray.size]
set_option maxHeartbeats 1600000 in
theorem pathThrough_ret : ∀ (m : Nat) (f : For), f.size < m → m ≤ 17 → ∀ (g o cap : Nat) (xs : List Int) (w : World), g < w.heap.size → (∀ j, j < xs.length → w.cell? ⟨g, o + j, none⟩ = some (.int .i64 (xs.getD j 0))) → xs.length ≤ cap ∧ cap ≤ maxLen → f.enc = xs →
    Calls Try.prog 77 #[.slice (some ⟨g, o, none⟩) xs.length cap] w (Ret w (.string (strOf f.pb))) := by
  intro m
  induction m with
  | zero => exact fun f hf => absurd hf (by omega)
  | succ m ih =>
  intro f hfm hm g o cap xs w hg hcells hcap hf
  have hfs := (For.cnt_enc_le hf).2
  have hfc := (For.cnt_enc_le hf).1
  have HT := Lib.hid (treesIn_any g o cap xs w hg hcells (by omega) hcap f hf)
  have hctl : ((f.tops 0).map (cutV g o)).length = f.cnt := by rw [List.length_map, f.tops_length 0]
  have HCUT : Hid (∀ k, k < f.cnt → ((f.tops 0).map (cutV g o)).getD k NilS = .slice (some ⟨g, o + f.start k, none⟩) ((f.nth k).size + 1) ((f.nth k).size + 1)) := Lib.hid fun k hk => by
    have := f.tops_nth 0 k hk
    rw [List.getD_eq_getElem?_getD, List.getElem?_map, List.getElem?_eq_getElem (by rw [f.tops_length 0]; exact hk)]
    rw [List.getD_eq_getElem?_getD, List.getElem?_eq_getElem (by rw [f.tops_length 0]; exact hk)] at this
    simp only [Option.getD_some] at this
    simp only [Option.map_some, Option.getD_some, this, cutV, Nat.zero_add]
    rw [show f.start k + 1 + (f.nth k).size - f.start k = (f.nth k).size + 1 by omega]
  have HREC : Hid (∀ k, k < f.cnt → ∀ w1 A, Below w.heap.size w w1 → (A = o + f.start k + 1 ∨ (f.nth k).size = 0) → Calls Try.prog 77 #[.slice (some ⟨g, A, none⟩) (f.nth k).size (f.nth k).size] w1 (Ret w1 (.string (strOf (f.nth k).pb)))) := Lib.hid fun k hk w1 A hb hA => by
    have hns := f.nth_size k hk
    have hl : (f.nth k).enc.length = (f.nth k).size := For.enc_length _
    have r := ih (f.nth k) (by omega) (by omega) g A (f.nth k).size (f.nth k).enc w1 (Nat.lt_of_lt_of_le hg hb.size) (fun j hj => by
      rw [hl] at hj
      rcases hA with rfl | h0
      · have h1 := hcells (f.start k + 1 + j) (by omega)
        have h2 : (f.nth k).enc.getD j 0 = xs.getD (f.start k + 1 + j) 0 := by
          rw [← f.nth_enc k hk, hf, List.getD_eq_getElem?_getD, List.getElem?_take, if_pos hj, List.getElem?_drop, ← List.getD_eq_getElem?_getD]
        rw [h2, show o + f.start k + 1 + j = o + (f.start k + 1 + j) by omega]
        exact (hb.cell (p := ⟨g, o + (f.start k + 1 + j), none⟩) hg).trans h1
      · omega) ⟨by omega, by have := hcap.2; omega⟩ rfl
    rwa [hl] at r
  have HJ : Hid (∀ w1 v, SRow w1 w.heap.size v (stp f f.cnt) → Calls Try.prog 95 #[v] w1 (Ret w1 (.string (strOf f.pb)))) := Lib.hid fun w1 v h => by
    have r := joinSteps_any _ v _ w1 h (by rw [stp_length]; omega) (stp_small f (by omega) _ (Nat.le_refl _))
    rwa [stp_cat, For.pbT_full] at r
  have HN := Lib.hid (fun k hk => f.nth_size k hk)
  have HST : Hid (∀ k, stp f (k + 1) = stp f k ++ [⟨#[85]⟩, strOf (f.nth k).pb, ⟨#[68]⟩]) := Lib.hid fun _ => rfl
  have HSL := Lib.hid (stp_length f)
  clear ih hcells
  generalize hcs : (f.tops 0).map (cutV g o) = cs at *
  clear hcs
  by_cases hc0 : f.cnt = 0
  · rw [hc0] at HJ hctl
    have hcs0 : cs = [] := List.eq_nil_of_length_eq_zero hctl
    subst hcs0
    have H0 : Hid (stp f 0 = []) := Lib.hid rfl
    rw [H0.out] at HJ
    clear hctl
    go_enter Try.func77, Try.ntmps77
    go_wp2_with (go_at_call 68; refine HT.out.mono ?_; rintro e w1 ⟨v1, rfl, hr1, hb1⟩; obtain ⟨A1, c1, rfl⟩ := hr1.shape)
    refine wp_loop_rounds 1 ?_; rw [rounds_succ]
    go_wp2_with (go_at_call 95; refine (HJ.out _ _ (SRow.nil _ _)).mono ?_; rintro e w2 ⟨rfl, hb2⟩)
    go_ret
    exact ⟨rfl, hb1.trans (hb2.mono hb1.size)⟩
  · go_enter Try.func77, Try.ntmps77
    go_wp2_with (go_at_call 68; refine HT.out.mono ?_; rintro e w1 ⟨v1, rfl, hr1, hb1⟩; obtain ⟨g1, c1, rfl, hg1B, hg1, _⟩ := hr1.form hctl (by omega))
    go_loopw [3, 5, 9] (fun vs q i wr => ∃ k : Nat, k ≤ f.cnt ∧ i = .int .i64 (k : Int) ∧ SRow wr w1.heap.size vs (stp f k) ∧ VRow wr w.heap.size (.slice (some ⟨g1, 0, none⟩) f.cnt c1) cs ∧ Below w.heap.size w wr ∧ w1.heap.size ≤ wr.heap.size) (fun _ _ i _ => f.cnt - (intOf i).toNat)
    case atStart => exact ⟨0, by omega, rfl, SRow.nil _ _, hr1, hb1, Nat.le_refl _⟩
    case round =>
      obtain ⟨k, hk, rfl, hst, hvr, hb, hsz⟩ := hrel
      clear hr1 hb1
      by_cases hlt : k < f.cnt
      · have e1 := hvr.cell (j := k) (by omega)
        rw [HCUT.out k hlt] at e1
        have HR1 := Lib.hid (HREC.out k hlt)
        have HST1 := Lib.hid (HST.out k)
        have hsl := HSL.out k
        have hnk := HN.out k hlt
        obtain ⟨A0, c0, rfl⟩ := hst.shape
        generalize (f.nth k).size = s at *
        generalize strOf (f.nth k).pb = p at *
        have hslk : (stp f k).length ≤ 48 := by omega
        clear hsl
        by_cases h0 : s = 0
        · subst h0
          go_wp2_with (first
            | (go_at_call 77; refine (HR1.out wr (o + f.start k) hb (.inr rfl)).mono ?_; rintro e w2 ⟨rfl, hb2⟩; have hst2 := hst.below hb2; have hvr2 := hvr.below hb2; have hsz1 : w1.heap.size ≤ w2.heap.size := Nat.le_trans hsz hb2.size)
            | (at_builtin; refine wpList_pushS3 (.tmp 13) (.tmp 17) rfl rfl w1.heap.size _ (stp f k) rfl (hst2.alloc _) w2.heap.size ⟨#[85]⟩ p ⟨#[68]⟩ rfl (by simp) (by simp) (by simp) (by omega) (by simp; omega) ?_; intro v3 w3 hst3 hg3))
          have hg4 := grown_alloc_left hg3
          have hsz2 : w1.heap.size ≤ w3.heap.size := Nat.le_trans hsz1 hg4.size
          have HS2 := Lib.hid hst3
          have HV2 := Lib.hid (hvr2.apart hg4 (fun q hq e => by have q1 := (hst2.blk q e.symm).1; have q2 : some g1 = some q := hq; injection q2 with q2; omega))
          have HB2 : Hid (Below w.heap.size w w3) := Lib.hid ((hb.trans (hb2.mono hb.size)).grown hg4 (by have := hb.size; have := hb2.size; omega) (fun q hq => by have := (hst2.blk q hq).1; omega))
          clear hst2 hst3 hvr hvr2 hst hg3 hg4 hb hb2
          go_roundw
          case rel =>
            exact ⟨k + 1, by omega, by go_num, by rw [HST1.out]; exact HS2.out, HV2.out, HB2.out, hsz2⟩
          case measure => first | (simp [intOf]; done) | (simp [intOf]; omega)
        · have h0' : ¬ s + 1 = 1 := by omega
          go_wp2_with (first
            | (go_at_call 77; refine (HR1.out wr (o + f.start k + 1) hb (.inl rfl)).mono ?_; rintro e w2 ⟨rfl, hb2⟩; have hst2 := hst.below hb2; have hvr2 := hvr.below hb2; have hsz1 : w1.heap.size ≤ w2.heap.size := Nat.le_trans hsz hb2.size)
            | (at_builtin; refine wpList_pushS3 (.tmp 13) (.tmp 17) rfl rfl w1.heap.size _ (stp f k) rfl (hst2.alloc _) w2.heap.size ⟨#[85]⟩ p ⟨#[68]⟩ rfl (by simp) (by simp) (by simp) (by omega) (by simp; omega) ?_; intro v3 w3 hst3 hg3))
          have hg4 := grown_alloc_left hg3
          have hsz2 : w1.heap.size ≤ w3.heap.size := Nat.le_trans hsz1 hg4.size
          have HS2 := Lib.hid hst3
          have HV2 := Lib.hid (hvr2.apart hg4 (fun q hq e => by have q1 := (hst2.blk q e.symm).1; have q2 : some g1 = some q := hq; injection q2 with q2; omega))
          have HB2 : Hid (Below w.heap.size w w3) := Lib.hid ((hb.trans (hb2.mono hb.size)).grown hg4 (by have := hb.size; have := hb2.size; omega) (fun q hq => by have := (hst2.blk q hq).1; omega))
          clear hst2 hst3 hvr hvr2 hst hg3 hg4 hb hb2
          go_roundw
          case rel =>
            exact ⟨k + 1, by omega, by go_num, by rw [HST1.out]; exact HS2.out, HV2.out, HB2.out, hsz2⟩
          case measure => first | (simp [intOf]; done) | (simp [intOf]; omega)
      · have hk2 : k = f.cnt := by omega
        subst hk2
        have hsz0 : w.heap.size ≤ w1.heap.size := by omega
        have HJ1 := Lib.hid (HJ.out wr _ (hst.mono hsz0))
        obtain ⟨A0, c0, rfl⟩ := hst.shape
        go_wp2_with (go_at_call 95; refine HJ1.out.mono ?_; rintro e w2 ⟨rfl, hb2⟩)
        go_ret
        exact ⟨rfl, hb.trans (hb2.mono hb.size)⟩
theorem tree_ex {xs : List Int} (h : treeB xs = true) : ∃ c : For, (For.node c For.nil).enc = xs ∧ forV xs = true := by
  unfold treeB at h
  rw [Bool.and_eq_true, decide_eq_true_iff] at h
  obtain ⟨f, hf, hc⟩ := forest_ex h.1
  rw [h.2] at hc
  obtain ⟨c, r, rfl⟩ := For.cnt_pos (f := f) (by omega)
  rw [For.cnt] at hc
  have := For.cnt_zero (f := r) (by omega)
  subst this
  exact ⟨c, hf, h.1⟩
noncomputable def ptV (xs : List Int) : ByteArray := if h : treeB xs = true then strOf (tree_ex h).choose.pb else ByteArray.empty
theorem ptV_no {xs : List Int} (h : treeB xs = false) : ptV xs = ⟨#[]⟩ := by unfold ptV; rw [dif_neg (by rw [h]; simp)]; rfl
set_option maxHeartbeats 800000 in
theorem pathOfTree_ret (v : Value) (xs : List Int) (w : World) (h : RInts w v xs) (hl : xs.length ≤ 1048576) :
    Calls Try.prog 45 #[v] w (Ret w (.tuple #[.string (ptV xs), .bool (treeB xs)])) := by
  obtain ⟨A, cap, rfl⟩ := h.shape
  have HI := Lib.hid (isTree_any _ xs w h hl)
  rcases Bool.eq_false_or_eq_true (treeB xs) with hv | hv
  · obtain ⟨hf, hv2⟩ := (tree_ex hv).choose_spec
    have e : ptV xs = strOf (tree_ex hv).choose.pb := by unfold ptV; rw [dif_pos hv]
    rw [e]
    generalize (tree_ex hv).choose = c at *
    clear e
    rw [hv] at HI
    rw [hv]
    have hd : degB xs = true := by unfold forV at hv2; rw [Bool.and_eq_true] at hv2; exact hv2.1
    obtain ⟨hc, hm⟩ := h.room _ _ _ rfl
    obtain ⟨g, o, rfl, hg, hcells⟩ := degB_cells h hd
    have hn := (degB_of hd).1
    have hx : xs = (c.cnt : Int) :: c.enc := by rw [← hf, For.enc, For.enc, List.append_nil]
    have hs : xs.length = c.size + 1 := by rw [hx, List.length_cons, c.enc_length]
    have HP : Hid (∀ A cc, cc ≤ maxLen → c.size ≤ cc → (A = o + 1 ∨ c.size = 0) → Calls Try.prog 77 #[.slice (some ⟨g, A, none⟩) c.size cc] w (Ret w (.string (strOf c.pb)))) := Lib.hid fun A cc h1 h2 hA => by
      have hl2 : c.enc.length = c.size := c.enc_length
      have r := pathThrough_ret (c.size + 1) c (Nat.lt_succ_self _) (by omega) g A cc c.enc w hg (fun j hj => by
        rw [hl2] at hj
        rcases hA with rfl | h0
        · have h3 := hcells (1 + j) (by omega)
          rw [show o + 1 + j = o + (1 + j) by omega, h3, hx, Nat.add_comm 1 j, List.getD_cons_succ]
        · omega) (by rw [hl2]; exact ⟨h2, h1⟩) rfl
      rwa [hl2] at r
    clear h hcells hf hv hv2 hd hx
    rw [hs] at hc HI ⊢
    clear hs hn hl
    by_cases h1 : cap = 1
    · obtain ⟨s0, hs0⟩ : ∃ s0, s0 = c.size := ⟨_, rfl⟩
      have hs1 : c.size = 0 := by omega
      rw [hs1] at HP HI ⊢
      subst h1
      go_enter Try.func45, Try.ntmps45
      go_wp2_with (first | (go_at_call 76; refine HI.out.mono ?_; rintro e w' ⟨rfl, rfl⟩) | (go_at_call 77; refine (HP.out o 0 (by omega) (Nat.le_refl _) (by simp)).mono ?_; rintro e w1 ⟨rfl, hb1⟩))
      go_ret2
      exact ⟨rfl, hb1⟩
    · have h2 : (c.size : Int) + 1 ≤ (cap : Int) := by omega
      have h3 : (1 : Int) ≤ (cap : Int) := by omega
      generalize c.size = s at *
      go_enter Try.func45, Try.ntmps45
      go_wp2_with (first | (go_at_call 76; refine HI.out.mono ?_; rintro e w' ⟨rfl, rfl⟩) | (go_at_call 77; refine (HP.out (o + 1) (cap - 1) (by omega) (by omega) (.inl rfl)).mono ?_; rintro e w1 ⟨rfl, hb1⟩))
      go_ret2
      exact ⟨rfl, hb1⟩
  · rw [ptV_no hv, hv]
    rw [hv] at HI
    clear h hv
    go_enter Try.func45, Try.ntmps45
    go_wp2_with (go_at_call 76; refine HI.out.mono ?_; rintro e w' ⟨rfl, rfl⟩)
    go_ret2
    exact ⟨rfl, Below.refl _ _⟩
end Go.Proofs.Ytgajknnfmnnfeaa
