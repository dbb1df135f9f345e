/- spans: Best. -/
import Derived.Test.YtnhbilcpdombfaaSpBestMath
namespace Go.Proofs.Ytnhbilcpdombfaa
open Go.RowKit Go.Shelf
attribute [local go_sem] Oper.semAt_some

/-- One round of Best. -/
def bestT (align : Nat) (st : Nat × Nat) (x : Nat × Nat) : Nat × Nat := if x.2 < st.2 then (atP align x, x.2) else st
def bestF (align : Nat) (pre : List (Nat × Nat)) : Nat × Nat := pre.foldl (bestT align) (0, 1025)
theorem bestF_snoc (align : Nat) (pre : List (Nat × Nat)) (x : Nat × Nat) : bestF align (pre ++ [x]) = bestT align (bestF align pre) x := by simp [bestF]
theorem bestF_fold (pages align : Nat) : ∀ (t : List (Nat × Nat)) (st : Option (Nat × Nat)), (∀ x ∈ t, fitsP pages align x = true ∧ x.2 ≤ 1024) → t.foldl (bestT align) (bestS align st) = bestS align (t.foldl (stepX true pages align) st)
  | [], _, _ => rfl
  | x :: t, st, h => by
    rw [List.foldl_cons, List.foldl_cons, ← bestF_fold pages align t _ (fun y hy => h y (List.mem_cons_of_mem _ hy)), bestS_step (h x (List.mem_cons_self ..)).1 (h x (List.mem_cons_self ..)).2]
    rfl
theorem bestF_found {pages align : Nat} {s : List (Nat × Nat)} (hs : IsSet 1024 s) : bestF align (s.filter (fitsP pages align)) = bestS align (foundX true pages align s) := by
  rw [← found_filter]
  exact bestF_fold pages align _ none (fun x hx => by
    obtain ⟨h1, h2⟩ := List.mem_filter.1 hx
    exact ⟨h2, by have := (hs.run x h1).2; omega⟩)
theorem setS {S : Nat → Prop} {D : Nat} {w W : World} (h : BelowS S D w W) {B : Nat} (hB : S B) (u : Value) : BelowS S D w (W.setCell ⟨B, 0, none⟩ u) :=
  h.trans ⟨rfl, rfl, rfl, by simp [World.setCell], fun k _ hk => Below.heap_setCell _ _ _ _ (fun e => hk (e ▸ hB))⟩
theorem setS2 {S : Nat → Prop} {D : Nat} {w W : World} (h : BelowS S D w W) {B B' : Nat} (hB : S B) (hB' : S B') (u u' : Value) : BelowS S D w ((W.setCell ⟨B, 0, none⟩ u).setCell ⟨B', 0, none⟩ u').drew :=
  (setS (setS h hB u) hB' u').trans (BelowS.of (drewOne _ _))
/-- What holds between two rounds of Best. -/
def BestI (align : Nat) (w3 : World) (b7 b8 : Nat) (pre : List (Nat × Nat)) (W : World) : Prop :=
  BelowS (fun k => k = b7 ∨ k = b8) w3.heap.size w3 W ∧ W.heap[b7]? = some (.cells #[.int .i64 ((bestF align pre).1 : Int)] 3 (0, 0)) ∧ W.heap[b8]? = some (.cells #[.int .i64 ((bestF align pre).2 : Int)] 3 (0, 0))
theorem bestI_own (align : Nat) (w3 : World) (b7 b8 : Nat) : OwnFrom w3.heap.size (BestI align w3 b7 b8) :=
  OwnFrom.and (belowS_own (Nat.le_refl _)) (OwnFrom.and (cells_own (fun _ => b7) (fun pre : List (Nat × Nat) => #[.int .i64 ((bestF align pre).1 : Int)]) 3) (cells_own (fun _ => b8) (fun pre : List (Nat × Nat) => #[.int .i64 ((bestF align pre).2 : Int)]) 3))
set_option maxHeartbeats 4000000 in
set_option maxRecDepth 100000 in
theorem best_in (q : Nat) (p : Option Addr) (cap : Nat) (s : List (Nat × Nat)) (pages k : Nat) (w : World) (h3 : 3 ≤ q) (h : SpsAt w p (up s)) (hs : IsSet 1024 s) (hl : s.length ≤ 512) (hp : pages ≤ 1024) (hk : k ≤ 10)
    (hck : ∀ W, Below w.heap.size w W → Calls Try.prog 62 #[.slice p s.length cap, .int .i64 (pages : Int), .int .i64 ((2 ^ k : Nat) : Int)] W fun e w' => e = .returned (.int .i64 0) ∧ Below W.heap.size W w') :
    CallsIn Fence.wide q Try.prog 34 #[.slice p s.length cap, .int .i64 (pages : Int), .int .i64 ((2 ^ k : Nat) : Int)] w (IntErr (foundR (2 ^ k) (foundX true pages (2 ^ k) s)) w) := by
  refine callsIn_of_wp_marks Try.func34 rfl trivial ?_ rfl
  simp only [Try.ntmps34, List.size_toArray, List.length_cons, List.length_nil, Nat.reduceAdd, Nat.reduceSub, Array.replicate_succ, Array.replicate_zero, List.push_toArray, List.append_toArray, List.nil_append, List.cons_append]
  have hwf : ∀ f, Fence.wide.fn f := fun _ => trivial
  have hwd : Fence.wide.depth.isSome = false := rfl
  obtain ⟨al, hal⟩ : ∃ al, al = 2 ^ k := ⟨_, rfl⟩
  have HCK := Lib.hid hck; have HW := Lib.hid h; have HS := Lib.hid hs
  rw [← hal] at HCK ⊢
  have HAL := Lib.hid hal
  have HEND := Lib.hid (best_ends (pages := pages) (align := al) hs)
  have HFOUND := Lib.hid (bestF_found (pages := pages) (align := al) hs)
  generalize foundR al (foundX true pages al s) = res at HEND ⊢
  clear hck h hs hal
  gi_wp2_with (gi_at_call 62; refine (callsIn_wide.2 (HCK.out _ (Below.refl _ _))).mono ?_; rintro e w1 ⟨rfl, hb⟩; have HB1 := Lib.hid hb; have hz := hb.size; clear hb HCK)
  obtain ⟨y1, y2, y3, y4⟩ := alloc2 w1 (.cells #[.int .i64 0] 3) (.cells #[.int .i64 1025] 3)
  obtain ⟨w2, hw2⟩ : ∃ w2 : World, w2 = (w1.alloc (.cells #[.int .i64 0] 3)).alloc (.cells #[.int .i64 1025] 3) := ⟨_, rfl⟩
  rw [← hw2] at y1 y2 y3 y4 ⊢
  clear hw2
  obtain ⟨b7, hb7⟩ : ∃ b7 : Nat, b7 = w1.heap.size := ⟨_, rfl⟩
  obtain ⟨b8, hb8⟩ : ∃ b8 : Nat, b8 = w1.heap.size + 1 := ⟨_, rfl⟩
  rw [← hb8] at y4 ⊢
  rw [← hb7] at y3 ⊢
  have hne : b7 ≠ b8 := by omega
  have g7 : w.heap.size ≤ b7 ∧ b7 < w2.heap.size := by omega
  have g8 : w.heap.size ≤ b8 ∧ b8 < w2.heap.size := by omega
  have HBW2 := Lib.hid (HB1.out.trans (y1.mono HB1.out.size))
  have hsz2 : w.heap.size ≤ w2.heap.size := by omega
  have H7 := Lib.hid y3; have H8 := Lib.hid y4
  clear y1 y2 y3 y4 hb7 hb8 HB1 hz
  gi_wp2_with (gi_at_call 63; refine (callsIn_wide.2 (places_any _ _ _ _ _ _)).mono ?_; rintro e w3 ⟨rfl, hw3⟩)
  obtain ⟨z1, z2, z3, z4, z5⟩ := alloc3 w2 (.cells #[.slice p s.length cap] 22) (.cells #[.int .i64 (pages : Int)] 3) (.cells #[.int .i64 (al : Int)] 3)
  rw [← hw3] at z1 z2 z3 z4 z5 ⊢
  clear hw3
  have hbw : Below w.heap.size w w3 := HBW2.out.trans (z1.mono hsz2)
  have hreads : PReads (fun k => k = b7 ∨ k = b8) w3.heap.size w2.heap.size pages al p cap s w3 := ⟨Nat.le_refl _, z3, z4, z5, HW.out.below hbw⟩
  have hfree : PFree (fun k => k = b7 ∨ k = b8) w3.heap.size w2.heap.size p s := by
    refine ⟨by omega, by omega, by omega, by omega, fun h0 g off e => ?_⟩
    obtain ⟨g', off', e', hg', _⟩ := HW.out.at_ (by rw [up_len]; exact h0)
    rw [e] at e'; cases e'
    exact ⟨by omega, by omega⟩
  rw [HAL.out] at hreads
  have hstops := places_stops (q - 1) (fun k => k = b7 ∨ k = b8) w3.heap.size w2.heap.size pages k cap p s HS.out hl hp hk hfree w3 hreads
  rw [← HAL.out] at hstops
  have h7 := (z1.block b7 (by omega)).trans H7.out
  have h8 := (z1.block b8 (by omega)).trans H8.out
  have HBW := Lib.hid hbw
  have z6 : w2.heap.size + 3 ≤ w3.heap.size := by omega
  clear hreads hfree hbw z1 z2 z3 z4 z5 H7 H8
  refine wpIn_rangeFunc_ownH rfl (by omega) (gf := 70) (lb := #[.pointer (some ⟨w2.heap.size, 0, none⟩), .pointer (some ⟨w2.heap.size + 1 + 1, 0, none⟩), .pointer (some ⟨w2.heap.size + 1, 0, none⟩)]) rfl trivial (enters_of Try.func70 (by kernel_rfl) rfl) hstops BelowS.trans (belowS_b (Nat.le_refl _)) (Below.refl _ _) (fun _ => rfl)
    (BestI al w3 b7 b8) (fun _ _ _ => False) (bestI_own al w3 b7 b8) (fun _ _ _ _ _ hs _ _ => hs)
    ⟨BelowS.refl _ _ _, h7, h8⟩
    (fun x a' W2 => ∃ Bx : Nat, w3.heap.size ≤ Bx ∧ W2.heap[Bx]? = some (.cells #[.int .i64 (x.1 : Int), .int .i64 (x.2 : Int)] 31 (0, 0)) ∧ a' = { tmps := #[.slice p s.length cap, .int .i64 (pages : Int), .int .i64 (al : Int), undef, undef, undef,
          .int .i64 0, .int .i64 0, .int .i64 0, .pointer (some ⟨b7, 0, none⟩), .pointer (some ⟨b8, 0, none⟩), .int .i64 (atP al x : Int), .pointer (some ⟨Bx, 0, none⟩),
          .slice p s.length cap, .int .i64 (pages : Int), .int .i64 (al : Int), .int .i64 0, .int .i64 0, .bool false, undef, .slice p s.length cap, .int .i64 (pages : Int), .int .i64 (al : Int),
          .func (.func 70) #[] #[.pointer (some ⟨w2.heap.size, 0, none⟩), .pointer (some ⟨w2.heap.size + 1 + 1, 0, none⟩), .pointer (some ⟨w2.heap.size + 1, 0, none⟩)],
          .int .i64 (atP al x : Int), .agg #[.int .i64 (x.1 : Int), .int .i64 (x.2 : Int)], undef, undef, undef, undef, undef, undef, undef, undef, undef, undef], defers := [] })
    (fun x a' s A B row ⟨Bx, h1, h2, h3⟩ hg hr => ⟨Bx, h1, cells_own (fun _ : Unit => Bx) (fun _ => #[.int .i64 (x.1 : Int), .int .i64 (x.2 : Int)]) 31 s A B row h2 hg hr, h3⟩) ?assign ?body ?done ?stop
  case assign =>
    intro ly pre x W2 K2 hi hK2
    have hsz := hi.1.size
    have HI := Lib.hid hi; clear hi
    simp only [placeV]
    gi_wp2
    have hbx : Below W2.heap.size W2 (W2.alloc (.cells #[.int .i64 (x.1 : Int), .int .i64 (x.2 : Int)] 31)) := (Below.refl _ _).alloc (Nat.le_refl _) _
    exact hK2 _ _ ((KeepsOthers.alloc _ _).from _) (BelowS.of (hbx.mono (by omega))) ⟨HI.out.1.trans (BelowS.of (hbx.mono (by omega))), (hbx.block _ (by omega)).trans HI.out.2.1, (hbx.block _ (by omega)).trans HI.out.2.2⟩ ⟨W2.heap.size, by omega, heap_alloc_new _ _, rfl⟩
  case body =>
    rintro ly pre x a' W2 hly ⟨r, hr⟩ ⟨hbx, hk7, hk8⟩ ⟨Bx, hBx, hbox, rfl⟩ hlt
    clear hr
    have hwf2 : ∀ f, (Fence.wide.inRound ly).fn f := fun _ => trivial
    have hwd2 : (Fence.wide.inRound ly).depth.isSome = false := rfl
    have hsn := bestF_snoc al pre x
    unfold bestT at hsn
    obtain ⟨xs, xe⟩ := x
    simp only at hbox hsn ⊢
    have k0 := row_cell (i := 0) (v := .int .i64 (xs : Int)) hbox rfl
    have k1 := row_cell (i := 1) (v := .int .i64 (xe : Int)) hbox rfl
    obtain ⟨j7, f7⟩ := row1_cell hk7
    obtain ⟨j8, f8⟩ := row1_cell hk8
    have HBX := Lib.hid hbx; have HK7 := Lib.hid hk7; have HK8 := Lib.hid hk8
    clear hbx hbox hstops hk7 hk8
    generalize bestF al pre = st at j7 j8 HK7 HK8 hsn
    generalize atP al (xs, xe) = pa at hsn ⊢
    by_cases hls : xe < st.2
    · rw [if_pos hls] at hsn
      have HSN := Lib.hid hsn
      have i1 : (xe : Int) < (st.2 : Int) := by omega
      clear hsn
      gi_wp2
      gi_region_with (fail)
      all_goals
        refine ⟨(((KeepsOthers.setCell _ _ _).trans (KeepsOthers.setCell _ _ _)).trans (KeepsOthers.drew _)).from _, setS2 (BelowS.refl _ _ _) (Or.inl rfl) (Or.inr rfl) _ _, setS2 HBX.out (Or.inl rfl) (Or.inr rfl) _ _, ?_, ?_⟩
        · rw [HSN.out]
          show ((W2.setCell ⟨b7, 0, none⟩ (.int .i64 (pa : Int))).setCell ⟨b8, 0, none⟩ (.int .i64 (xe : Int))).heap[b7]? = _
          rw [Below.heap_setCell _ _ _ _ (by simpa using hne)]; exact set_row1 HK7.out
        · rw [HSN.out]
          have h3 : (W2.setCell ⟨b7, 0, none⟩ (.int .i64 (pa : Int))).heap[b8]? = some (.cells #[.int .i64 (st.2 : Int)] 3 (0, 0)) := by
            rw [Below.heap_setCell _ _ _ _ (by simpa using fun e => hne e.symm)]; exact HK8.out
          exact set_row1 (W := W2.setCell ⟨b7, 0, none⟩ (.int .i64 (pa : Int))) h3
    · rw [if_neg hls] at hsn
      have HSN := Lib.hid hsn
      have i1 : ¬ (xe : Int) < (st.2 : Int) := by omega
      clear hsn
      gi_wp2
      exact ⟨KeepsFrom.refl _ _, BelowS.refl _ _ _, HBX.out, by rw [HSN.out]; exact HK7.out, by rw [HSN.out]; exact HK8.out⟩
  case done =>
    rintro D' ys W2 hD' hys ⟨hbx, hk7, hk8⟩ hmark
    have hys' : ys = s.filter (fitsP pages al) := hys
    rw [hys', HFOUND.out] at hk7 hk8
    obtain ⟨j7, f7⟩ := row1_cell hk7
    obtain ⟨j8, f8⟩ := row1_cell hk8
    have hbb : Below w.heap.size w W2 := HBW.out.trans ⟨hbx.os, hbx.tape, hbx.output, hbx.size, fun k hk => hbx.block k (by omega) (by omega)⟩
    have HBB := Lib.hid hbb; have HM := Lib.hid hmark
    generalize bestS al (foundX true pages al s) = st at HEND j7 j8
    clear hys hys' hbx hk7 hk8 hmark hbb hstops HFOUND
    by_cases hl : 1024 < st.2
    · have E1 := Lib.hid (show res = (0, 4) by rw [HEND.out, if_pos hl])
      have i1 : (1024 : Int) < (st.2 : Int) := by omega
      gi_wp2
      refine leaves_marks w.heap.size W2 [D'] W2 (fun E hE => ?_) (by simp) (Below.refl _ _) (fun W' hb' => ?_)
      · obtain rfl := List.mem_singleton.1 hE
        exact ⟨by omega, HM.out⟩
      · exact ⟨.tuple #[.int .i64 0, .int .i64 4], by simp [results, Try.results34, go_sem], intErr_mk E1.out (HBB.out.trans hb')⟩
    · have E1 := Lib.hid (show res = ((st.1 : Int), 0) by rw [HEND.out, if_neg hl])
      have i1 : ¬ (1024 : Int) < (st.2 : Int) := by omega
      gi_wp2
      refine leaves_marks w.heap.size W2 [D'] W2 (fun E hE => ?_) (by simp) (Below.refl _ _) (fun W' hb' => ?_)
      · obtain rfl := List.mem_singleton.1 hE
        exact ⟨by omega, HM.out⟩
      · exact ⟨.tuple #[.int .i64 (st.1 : Int), .int .i64 0], by simp [results, Try.results34, go_sem], intErr_mk E1.out (HBB.out.trans hb')⟩
  case stop =>
    rintro D' c pre W2 _ _ h _
    exact h.elim
def bestR (s : List (Int × Int)) (pages align : Int) : Int × Int := if placeE s pages align ≠ 0 then (0, placeE s pages align) else foundR align.toNat (foundX true pages.toNat align.toNat (down s))
set_option maxHeartbeats 2000000 in
set_option maxRecDepth 100000 in
theorem best_any (l : List (Int × Int)) (p : Option Addr) (cap : Nat) (pages align : Int) (w : World) (h : SpsAt w p l) :
    Calls Try.prog 34 #[.slice p l.length cap, .int .i64 pages, .int .i64 align] w (IntErr (bestR l pages align) w) := by
  have ck := fun W (hW : Below w.heap.size w W) => checkPlace_any l p cap pages align W (h.below hW)
  have e : bestR l pages align = if placeE l pages align ≠ 0 then (0, placeE l pages align) else foundR align.toNat (foundX true pages.toNat align.toNat (down l)) := rfl
  have hok := placeE_ok (s := l) (pages := pages) (align := align)
  have HW := Lib.hid h
  unfold ErrPost at ck
  generalize placeE l pages align = c at ck e hok
  generalize bestR l pages align = r at e
  clear h
  by_cases hc : c = 0
  · subst hc
    obtain ⟨h1, h2, h3, k, hk, rfl⟩ := hok rfl
    obtain ⟨hv, hset, hl⟩ := check_set h1
    obtain ⟨m, rfl⟩ : ∃ m : Nat, pages = (m : Int) := ⟨pages.toNat, by omega⟩
    rw [if_neg (by simp), Int.toNat_natCast, Int.toNat_natCast] at e
    rw [e]
    have := best_in 3 p cap (down l) m k w (Nat.le_refl _) (by rw [up_down hv]; exact HW.out) hset (by rw [down_len]; exact hl) (by omega) hk (by rw [down_len]; exact ck)
    rw [down_len] at this
    exact callsIn_wide.1 this
  · rw [if_pos hc] at e
    have E := Lib.hid e; have CK := Lib.hid ck
    obtain ⟨t1, t2⟩ := neq0 hc
    clear e hok ck hc
    go_enter Try.func34, Try.ntmps34
    go_wp2_with (go_at_call 62; refine (CK.out _ (Below.refl _ _)).mono ?_; rintro e w1 ⟨rfl, hb⟩; have HB1 := Lib.hid hb; clear hb)
    go_ret2
    exact intErr_mk E.out HB1.out
end Go.Proofs.Ytnhbilcpdombfaa
