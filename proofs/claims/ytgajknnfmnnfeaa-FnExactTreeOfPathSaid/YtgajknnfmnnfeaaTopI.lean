/- treeThrough: the parts of a forest's path between its returns; the program's TreeOfPath. -/
import Derived.Test.YtgajknnfmnnfeaaForPb
import Derived.Test.YtgajknnfmnnfeaaCutRet
import Derived.Test.YtgajknnfmnnfeaaGood
import Derived.Test.YtgajknnfmnnfeaaTreesS
import Derived.Test.YtgajknnfmnnfeaaTMark
namespace Go.Proofs.Ytgajknnfmnnfeaa
open Go.RowKit
set_option linter.unusedVariables false
theorem nrGo_first {s : ByteArray} {h : Int} {t : Nat} (ht : t ≤ s.size) (e : hAt s t = h) : ∀ (d i f : Nat), i + d + 1 = t → d + 1 ≤ f → (∀ j, i < j → j < t → hAt s j ≠ h) → nrGo s h f i = t
  | 0, i, f, h1, h2, h3 => by
    obtain ⟨f, rfl⟩ : ∃ g, f = g + 1 := ⟨f - 1, by omega⟩
    rw [nrGo_hit (by omega) (by rw [show i + 1 = t by omega]; exact e)]
    omega
  | d + 1, i, f, h1, h2, h3 => by
    obtain ⟨f, rfl⟩ : ∃ g, f = g + 1 := ⟨f - 1, by omega⟩
    rw [nrGo_miss (by omega) (h3 (i + 1) (by omega) (by omega))]
    exact nrGo_first ht e d (i + 1) f (by omega) (by omega) (fun j hj hj2 => h3 j (by omega) hj2)
theorem nr_first {s : ByteArray} {k t : Nat} (hkt : k < t) (ht : t ≤ s.size) (e : hAt s t = hAt s k) (hno : ∀ j, k < j → j < t → hAt s j ≠ hAt s k) : nr s k = t :=
  nrGo_first ht e (t - k - 1) k (s.size - k) (by omega) (by omega) hno
def prts : For → List ByteArray
  | For.nil => []
  | For.node c r => strOf (85 :: (c.pb ++ [68])) :: prts r
theorem prts_length : ∀ f : For, (prts f).length = f.cnt
  | For.nil => rfl
  | For.node c r => by rw [prts, For.cnt, List.length_cons, prts_length r]
theorem prts_get : ∀ (f : For) (k : Nat), k < f.cnt → (prts f).getD k ByteArray.empty = strOf (85 :: ((f.nth k).pb ++ [68]))
  | For.nil, k, h => by rw [For.cnt] at h; omega
  | For.node c r, 0, h => rfl
  | For.node c r, k + 1, h => by rw [prts, List.getD_cons_succ, For.nth]; exact prts_get r k (by rw [For.cnt] at h; omega)
theorem ext_list (s : ByteArray) (i j : Nat) : (s.extract i j).data.toList = (s.data.toList.drop i).take (j - i) := by
  rw [ByteArray.data_extract, Array.toList_extract]
theorem strOf_eq {s : ByteArray} {l : List UInt8} (h : s.data.toList = l) : s = strOf l := by rw [← h, strOf_self]
theorem cuts_pb (s : ByteArray) : ∀ (r : For) (a : List UInt8) (fuel : Nat), s.data.toList = a ++ r.pb → hL a a.length = 0 → r.pb.length < fuel → (cuts (nr s) s.size fuel a.length).map (ext s) = prts r
  | For.nil, a, fuel, h1, h2, h3 => by
    have hs : s.size = a.length := by
      have := congrArg List.length h1
      simpa [For.pb] using this
    rw [hs, cuts_end]
    rfl
  | For.node c r, a, fuel, h1, h2, h3 => by
    have hl := c.pb_length
    have hs : s.size = a.length + (2 * c.size + 2 + r.pb.length) := by
      have := congrArg List.length h1
      rw [List.length_append, For.pb, List.length_cons, List.length_append, List.length_cons] at this
      have h4 : s.data.toList.length = s.size := by simp
      omega
    obtain ⟨fuel, rfl⟩ : ∃ g, fuel = g + 1 := ⟨fuel - 1, by omega⟩
    have hAt2 : ∀ j, hAt s (a.length + j) = hL (For.node c r).pb j := fun j => by rw [hAt_hL, h1, hL_right, h2]; omega
    have hk : hAt s a.length = 0 := by have := hAt2 0; rw [hL_0] at this; exact this
    have hnr : nr s a.length = a.length + (2 * c.size + 2) := by
      refine nr_first (by omega) (by omega) (by rw [hAt2, hpb_end, hk]) (fun j h5 h6 => ?_)
      obtain ⟨i, rfl⟩ : ∃ i, j = a.length + (i + 1) := ⟨j - a.length - 1, by omega⟩
      rw [hAt2, hk]
      have := hpb_in c r i (by omega)
      omega
    have e : s.data.toList = (a ++ (85 :: (c.pb ++ [68]))) ++ r.pb := by rw [h1, For.pb]; simp
    have e2 : (a ++ (85 :: (c.pb ++ [68]))).length = a.length + (2 * c.size + 2) := by simp [hl]
    have e3 : hL (a ++ (85 :: (c.pb ++ [68]))) (a ++ (85 :: (c.pb ++ [68]))).length = 0 := by
      have h5 := hAt2 (2 * c.size + 2)
      rw [hpb_end, hAt_hL, e, hL_left _ _ _ (by omega)] at h5
      rw [e2]
      exact h5
    rw [cuts_step (by omega), hnr, List.map_cons, ← e2, cuts_pb s r _ fuel e e3 (by rw [For.pb, List.length_cons, List.length_append, List.length_cons] at h3; omega), prts]
    congr 1
    refine strOf_eq ?_
    unfold ext
    rw [ext_list, h1, List.drop_left, e2, show a.length + (2 * c.size + 2) - a.length = (85 :: (c.pb ++ [68])).length by simp [hl], For.pb]
    rw [show 85 :: (c.pb ++ 68 :: r.pb) = (85 :: (c.pb ++ [68])) ++ r.pb by simp, List.take_left]
theorem pb_ud : ∀ (f : For), ∀ x ∈ f.pb, isUD x = true
  | For.nil, x, h => by simp [For.pb] at h
  | For.node c r, x, h => by
    rw [For.pb, List.mem_cons, List.mem_append, List.mem_cons] at h
    rcases h with rfl | h | rfl | h
    · rfl
    · exact pb_ud c x h
    · rfl
    · exact pb_ud r x h
theorem closed_pb (f : For) (hf : f.size ≤ 20) : closedV (strOf f.pb) = true := by
  have hl := f.pb_length
  have hs : (strOf f.pb).size = f.pb.length := strOf_size _
  unfold closedV pathB
  rw [strOf_list, decide_eq_true (by omega), List.all_eq_true.2 (pb_ud f), hAt_hL, strOf_list, hs, (hpb f).1]
  rfl
theorem cutV_pb (f : For) (hf : f.size ≤ 20) : cutV (strOf f.pb) = prts f := by
  unfold cutV
  rw [if_pos (closed_pb f hf)]
  have hs : (strOf f.pb).size = f.pb.length := strOf_size _
  have := cuts_pb (strOf f.pb) f [] ((strOf f.pb).size + 1) (by rw [strOf_list]; rfl) rfl (by omega)
  exact this
theorem child_mid (l : List UInt8) : (strOf (85 :: (l ++ [68]))).extract 1 (l.length + 1) = strOf l := by
  refine strOf_eq ?_
  rw [ext_list, strOf_list]
  simp
/-- the lists that are put together: the number of children, the first k trees -/
def tks (f : For) (k : Nat) : List (List Int) := [(f.cnt : Int)] :: f.trs.take k
theorem tks_succ (f : For) (k : Nat) (h : k < f.cnt) : tks f (k + 1) = tks f k ++ [((f.nth k).cnt : Int) :: (f.nth k).enc] := by
  unfold tks
  have hl := f.trs_length
  rw [List.take_succ_eq_append_getElem (by omega), ← f.trs_nth k h, List.getD_eq_getElem?_getD, List.getElem?_eq_getElem (by omega)]
  rfl
theorem tks_full (f : For) : (tks f f.cnt).flatten = (f.cnt : Int) :: f.enc := by
  unfold tks
  rw [List.take_of_length_le (by rw [f.trs_length]; exact Nat.le_refl _), List.flatten_cons, trs_flat]
  rfl
theorem tks_length (f : For) (k : Nat) (h : k ≤ f.cnt) : (tks f k).length = k + 1 := by
  unfold tks
  rw [List.length_cons, List.length_take, f.trs_length]
  omega
/-- [][]int{{n}} -/
theorem TRow.lit (w : World) (x : Int) (t1 t2 : TypeId) (h1 : t1 = 3) (h2 : t2 = 22) :
    TRow ((w.alloc (.cells #[.int .i64 x] t1)).alloc (.cells #[.slice (some ⟨w.heap.size, 0, none⟩) 1 1] t2)) w.heap.size ((w.alloc (.cells #[.int .i64 x] t1)).alloc (.cells #[.slice (some ⟨w.heap.size, 0, none⟩) 1 1] t2)).heap.size
      (.slice (some ⟨w.heap.size + 1, 0, none⟩) 1 1) [.slice (some ⟨w.heap.size, 0, none⟩) 1 1] [[x]] := by
  subst h1 h2
  have r1 : IRow (w.alloc (.cells #[.int .i64 x] 3)) w.heap.size (.slice (some ⟨w.heap.size, 0, none⟩) 1 1) [x] :=
    IRow.of_own (World.ownsRow_lit w #[.int .i64 x] 1 (Nat.le_refl _) (by simp [maxLen]) rfl) rfl rfl
  have r2 : VRow ((w.alloc (.cells #[.int .i64 x] 3)).alloc (.cells #[.slice (some ⟨w.heap.size, 0, none⟩) 1 1] 22)) (w.heap.size + 1) (.slice (some ⟨w.heap.size + 1, 0, none⟩) 1 1) [.slice (some ⟨w.heap.size, 0, none⟩) 1 1] := by
    have := World.ownsRow_lit (base := w.heap.size + 1) (e := 22) (size := 1) (w.alloc (.cells #[.int .i64 x] 3)) #[.slice (some ⟨w.heap.size, 0, none⟩) 1 1] 1 (by simp) (by simp [maxLen]) rfl
    rw [show (w.alloc (.cells #[.int .i64 x] 3)).heap.size = w.heap.size + 1 by simp] at this
    exact this
  refine ⟨rfl, r2.mono (by omega), fun k hk => (r2.blk k hk).2, fun j hj => ?_, fun j hj k hk => ?_, fun i j hi hj hne => ?_, fun j hj a b ha hb => ?_, Nat.le_refl _⟩
  · have : j = 0 := by simpa using hj
    subst this
    exact r1.alloc _
  · have : j = 0 := by simpa using hj
    subst this
    have h3 : some w.heap.size = some k := hk
    injection h3 with h3
    subst h3
    simp
    omega
  · simp at hi hj; omega
  · have : j = 0 := by simpa using hj
    subst this
    have h3 : some w.heap.size = some b := hb
    have h4 : some (w.heap.size + 1) = some a := ha
    injection h3 with h3
    injection h4 with h4
    omega
set_option maxHeartbeats 2000000 in
theorem treeThrough_ret : ∀ (m : Nat) (f : For), f.size < m → m ≤ 17 → ∀ (w : World), Calls Try.prog 83 #[.string (strOf f.pb)] w (IntsNew w ((f.cnt : Int) :: f.enc)) := by
  intro m
  induction m with
  | zero => exact fun f hf => absurd hf (by omega)
  | succ m ih =>
  intro f hfm hm w
  have hfc := f.cnt_le
  have HCUT := Lib.hid (cutRet_ret (strOf f.pb) w (by rw [strOf_size, f.pb_length]; simp [maxLen]; omega))
  rw [closed_pb f (by omega), cutV_pb f (by omega)] at HCUT
  have hpl := prts_length f
  have HPG : Hid (∀ k, k < f.cnt → (prts f).getD k ByteArray.empty = strOf (85 :: ((f.nth k).pb ++ [68]))) := Lib.hid (prts_get f)
  have HREC : Hid (∀ k, k < f.cnt → ∀ w1, Calls Try.prog 83 #[.string (strOf (f.nth k).pb)] w1 (IntsNew w1 (((f.nth k).cnt : Int) :: (f.nth k).enc))) := Lib.hid fun k hk w1 => by
    have := f.nth_size k hk
    exact ih (f.nth k) (by omega) (by omega) w1
  have HSU := Lib.hid (fun k hk => tks_succ f k hk)
  have HLK := Lib.hid (fun k hk => tks_length f k hk)
  have HJ : Hid (∀ w1 v, LRows w1 v (tks f f.cnt) → Calls Try.prog 65 #[v] w1 (IntsNew w1 ((f.cnt : Int) :: f.enc))) := Lib.hid fun w1 v h => by
    have r := joinLists_any v _ w1 h (by rw [tks_length f _ (Nat.le_refl _)]; omega) (by rw [tks_full, List.length_cons, f.enc_length]; omega)
    rwa [tks_full] at r
  have H0 : Hid (tks f 0 = [[(f.cnt : Int)]]) := Lib.hid (by simp [tks])
  clear ih
  generalize prts f = P at *
  by_cases hc0 : f.cnt = 0
  · rw [hc0] at hpl HJ H0
    have hP0 : P = [] := List.eq_nil_of_length_eq_zero hpl
    subst hP0
    clear hpl HPG HREC HSU HLK
    rw [hc0]
    clear hc0
    go_enter Try.func83, Try.ntmps83
    go_wp2_with (go_at_call 105; refine HCUT.out.mono ?_; rintro e w1 ⟨v1, rfl, hr1, hb1⟩; obtain ⟨A1, c1, rfl⟩ := hr1.shape)
    have htl := TRow.lit w1 (0 : Int) 3 22 rfl rfl
    have hbs1 := hb1.size
    have hb2 : Below w1.heap.size w1 ((w1.alloc (.cells #[.int .i64 (0 : Int)] 3)).alloc (.cells #[.slice (some ⟨w1.heap.size, 0, none⟩) 1 1] 22)) := ((Below.refl _ _).alloc (Nat.le_refl _) _).alloc (by simp) _
    have hz : tks f 0 = [[(0 : Int)]] := H0.out
    rw [← hz] at htl
    have HJ1 := Lib.hid (HJ.out _ _ htl.rows)
    have HB := Lib.hid (hb1.trans (hb2.mono hbs1))
    clear htl hb2
    generalize ((w1.alloc (.cells #[.int .i64 (0 : Int)] 3)).alloc (.cells #[.slice (some ⟨w1.heap.size, 0, none⟩) 1 1] 22)) = W at *
    refine wp_loop_rounds 1 ?_; rw [rounds_succ]
    go_wp2_with (go_at_call 65; refine HJ1.out.mono ?_; rintro e w2 ⟨v2, rfl, hr2, hb2⟩)
    go_ret
    have hb := HB.out
    exact ⟨_, rfl, hr2.mono hb.size, hb.trans (hb2.mono hb.size)⟩
  · go_enter Try.func83, Try.ntmps83
    go_wp2_with (go_at_call 105; refine HCUT.out.mono ?_; rintro e w1 ⟨v1, rfl, hr1, hb1⟩; obtain ⟨g1, c1, rfl, hg1B, hg1⟩ := hr1.form' hpl (by omega))
    have htl := TRow.lit w1 (f.cnt : Int) 3 22 rfl rfl
    have hbs1 := hb1.size
    have hb2 : Below w1.heap.size w1 ((w1.alloc (.cells #[.int .i64 (f.cnt : Int)] 3)).alloc (.cells #[.slice (some ⟨w1.heap.size, 0, none⟩) 1 1] 22)) := ((Below.refl _ _).alloc (Nat.le_refl _) _).alloc (by simp) _
    rw [← H0.out] at htl
    generalize ((w1.alloc (.cells #[.int .i64 (f.cnt : Int)] 3)).alloc (.cells #[.slice (some ⟨w1.heap.size, 0, none⟩) 1 1] 22)) = W at *
    go_loopw [5, 7, 19] (fun vp q i wr => ∃ (k M : Nat) (vs : List Value), k ≤ f.cnt ∧ i = .int .i64 (k : Int) ∧ TRow wr w1.heap.size M vp vs (tks f k) ∧ w1.heap.size ≤ M ∧ Below w1.heap.size w1 wr) (fun _ _ i _ => f.cnt - (intOf i).toNat)
    case atStart => exact ⟨0, _, _, by omega, rfl, htl, hb2.size, hb2⟩
    case round =>
      obtain ⟨k, M, vs, hk, rfl, hto, hBM, hb⟩ := hrel
      clear htl hb2
      have hbs := hb.size
      have hvl : vs.length ≤ 18 := by rw [hto.len, HLK.out k hk]; omega
      by_cases hlt : k < f.cnt
      · have e1 : wr.cell? ⟨g1, k, none⟩ = some (.string (P.getD k ByteArray.empty)) := (hb.cell (p := ⟨g1, k, none⟩) hg1).trans (hr1.cell (j := k) (by omega))
        rw [HPG.out k hlt] at e1
        have hqs : (strOf (85 :: ((f.nth k).pb ++ [68]))).size = (f.nth k).pb.length + 2 := by rw [strOf_size]; simp
        have hql : (f.nth k).pb.length ≤ 40 := by rw [(f.nth k).pb_length]; have := f.nth_size k hlt; omega
        have HMID : Hid ((strOf (85 :: ((f.nth k).pb ++ [68]))).extract 1 ((f.nth k).pb.length + 1) = strOf (f.nth k).pb) := Lib.hid (child_mid _)
        have HR1 := Lib.hid (HREC.out k hlt)
        have HSU1 := Lib.hid (HSU.out k hlt)
        have HTO := Lib.hid hto
        obtain ⟨A0, c0, rfl⟩ := hto.out.shape
        generalize strOf (85 :: ((f.nth k).pb ++ [68])) = q at *
        generalize (f.nth k).pb.length = n at *
        generalize strOf (f.nth k).pb = p at *
        have hMs := hto.size
        clear hto
        go_wp2_with (first
          | (go_at_call 83; rw [HMID.out]; refine (HR1.out wr).mono ?_; rintro e w2 ⟨v2, rfl, hr2, hb2⟩; have hto2 := HTO.out.below hb2; obtain ⟨A2, c2, rfl⟩ := hr2.shape; have hbs2 := hb2.size)
          | (at_builtin; refine wpList_pushV (.tmp 23) (.tmp 30) rfl rfl w1.heap.size _ vs rfl (hto2.out.alloc _) w2.heap.size (.slice A2 (((f.nth k).cnt : Int) :: (f.nth k).enc).length c2) rfl (by simp) rfl (by omega) (by simp; omega) ?_; intro v3 w3 hr3 hg3 hat3))
        have hg4 := grown_alloc_left hg3
        have HT3 := Lib.hid (hto2.push (hr2.mono hMs) hBM hr3 hg4 (hat_alloc hat3))
        have HB3 := Lib.hid ((hb.trans (hb2.mono hbs)).grown hg4 (by omega) (fun y hy => (hto2.outB y hy).1))
        have hs3 : w1.heap.size ≤ w3.heap.size := by have := hg4.size; omega
        rw [← HSU1.out] at HT3
        clear hto2 hr2 hr3 hg3 hat3 hg4 hb hb2
        go_roundw
        case rel => exact ⟨k + 1, w3.heap.size, _, by omega, by go_num, HT3.out, hs3, HB3.out⟩
        case measure => first | (simp [intOf]; done) | (simp [intOf]; omega)
      · have hk2 : k = f.cnt := by omega
        subst hk2
        have HJ1 := Lib.hid (HJ.out wr _ hto.rows)
        have HB := Lib.hid (hb1.trans (hb.mono hbs1))
        obtain ⟨A0, c0, rfl⟩ := hto.out.shape
        clear hto hb hr1
        go_wp2_with (go_at_call 65; refine HJ1.out.mono ?_; rintro e w2 ⟨v2, rfl, hr2, hb2⟩)
        go_ret
        have hb := HB.out
        exact ⟨_, rfl, hr2.mono hb.size, hb.trans (hb2.mono hb.size)⟩
end Go.Proofs.Ytgajknnfmnnfeaa
