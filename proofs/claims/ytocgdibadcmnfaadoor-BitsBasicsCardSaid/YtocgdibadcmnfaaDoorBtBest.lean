/- bits: Best. -/
import Derived.Test.YtocgdibadcmnfaaDoorBtFitAny
import Derived.RegionTactic
import Derived.ChangeAlike
namespace Go.Proofs.YtocgdibadcmnfaaDoor
open Go.RowKit Go.Shelf
attribute [local go_sem] Oper.semAt_some

theorem alloc2 (w : World) (o1 o2 : Obj) : Below w.heap.size w ((w.alloc o1).alloc o2) ∧ ((w.alloc o1).alloc o2).heap.size = w.heap.size + 2 ∧
    ((w.alloc o1).alloc o2).heap[w.heap.size]? = some o1 ∧ ((w.alloc o1).alloc o2).heap[w.heap.size + 1]? = some o2 := by
  have s1 : (w.alloc o1).heap.size = w.heap.size + 1 := by simp
  have n1 := heap_alloc_new w o1
  have n2 := heap_alloc_new (w.alloc o1) o2
  rw [s1] at n2
  refine ⟨((Below.refl _ _).alloc (Nat.le_refl _) _).alloc (by omega) _, by simp, ?_, n2⟩
  rw [Below.heap_alloc _ _ _ (by omega), n1]
/-- The shortest run so far that has so many bits, and its length. -/
def bestStep (size : Int) (st : Int × Int) (r : Nat × Nat) : Int × Int := if size ≤ (r.2 : Int) - (r.1 : Int) ∧ (r.2 : Int) - (r.1 : Int) < st.2 then ((r.1 : Int), (r.2 : Int) - (r.1 : Int)) else st
def bestF (size : Int) (m : Nat) (rs : List (Nat × Nat)) : Int × Int := rs.foldl (bestStep size) (0, (m : Int) + 1)
def bestL (size : Int) (m : Nat) (rs : List (Nat × Nat)) : Int × Int := if (m : Int) < (bestF size m rs).2 then (0, 4) else ((bestF size m rs).1, 0)
theorem bestF_snoc (size : Int) (m : Nat) (rs : List (Nat × Nat)) (r : Nat × Nat) : bestF size m (rs ++ [r]) = bestStep size (bestF size m rs) r := by simp [bestF]
/-- What holds between two rounds of Best. -/
def BestI (m : Nat) (size : Int) (w3 : World) (b7 b8 : Nat) (pre : List (GRun m)) (W : World) : Prop :=
  BelowS (fun k => k = b7 ∨ k = b8) w3.heap.size w3 W ∧ W.heap[b7]? = some (.cells #[.int .i64 (bestF size m (pre.map (·.1))).1] 3 (0, 0)) ∧ W.heap[b8]? = some (.cells #[.int .i64 (bestF size m (pre.map (·.1))).2] 3 (0, 0))
theorem bestI_own (m : Nat) (size : Int) (w3 : World) (b7 b8 : Nat) : OwnFrom w3.heap.size (BestI m size w3 b7 b8) :=
  OwnFrom.and (belowS_own (Nat.le_refl _)) (OwnFrom.and (cells_own (fun _ => b7) (fun pre : List (GRun m) => #[.int .i64 (bestF size m (pre.map (·.1))).1]) 3) (cells_own (fun _ => b8) (fun pre : List (GRun m) => #[.int .i64 (bestF size m (pre.map (·.1))).2]) 3))
theorem setS {S : Nat → Prop} {D : Nat} {w W : World} (h : BelowS S D w W) {B : Nat} (hB : S B) (u : Value) : BelowS S D w (W.setCell ⟨B, 0, none⟩ u) :=
  h.trans ⟨rfl, rfl, rfl, by simp [World.setCell], fun k _ hk => Below.heap_setCell _ _ _ _ (fun e => hk (e ▸ hB))⟩
set_option maxHeartbeats 4000000 in
set_option maxRecDepth 100000 in
theorem best_in (q m : Nat) (p : Option Addr) (cap : Nat) (ws : List Nat) (size : Int) (w : World) (h3 : 3 ≤ q) (h : WordsAt w p ws) (hv : Valid m ws) (h1 : 1 ≤ size) (he : BEnv w)
    (hck : ∀ W, Below w.heap.size w W → Calls Tryd.prog 19 #[.agg #[.int .i64 (m : Int), .slice p ws.length cap]] W fun e w' => e = .returned (.int .i64 0) ∧ Below W.heap.size W w') :
    CallsIn Fence.wide q Tryd.prog 37 #[.agg #[.int .i64 (m : Int), .slice p ws.length cap], .int .i64 size] w (IntErr (bestL size m (runsL (bitN ws) false m 0)) w) := by
  refine callsIn_of_wp_marks Tryd.func37 rfl trivial ?_ rfl
  simp only [Tryd.ntmps37, List.size_toArray, List.length_cons, List.length_nil, Nat.reduceAdd, Nat.reduceSub, Array.replicate_succ, Array.replicate_zero, List.push_toArray, List.append_toArray, List.nil_append, List.cons_append]
  have hwf : ∀ f, Fence.wide.fn f := fun _ => trivial
  have hwd : Fence.wide.depth.isSome = false := rfl
  have HCK := Lib.hid hck; have HW := Lib.hid h; have HE := Lib.hid he; have HV := Lib.hid hv
  have hm4 := hv.le
  clear hck h he hv
  have a2 := fun o1 o2 => alloc2 w o1 o2
  have A2 := Lib.hid a2
  clear a2
  have i1 : ¬ size < 1 := by omega
  have m4 : (m : Int) ≤ 4096 := by omega
  gi_wp2_with (gi_at_call 19; refine (callsIn_wide.2 (HCK.out _ (A2.out _ _).1)).mono ?_; rintro e w1 ⟨rfl, hb⟩; obtain ⟨x1, x2, x3, x4⟩ := A2.out (.cells #[.int .i64 (m : Int), .slice p ws.length cap] 24) (.cells #[.int .i64 size] 3); have HX0 := Lib.hid ((hb.block _ (by omega)).trans x3); have HX1 := Lib.hid ((hb.block _ (by omega)).trans x4); have HB1 := Lib.hid (x1.trans (hb.mono (by omega))); have hz : w.heap.size + 2 ≤ w1.heap.size := (by have := hb.size; omega); have hz0 : w.heap.size < w1.heap.size := (by omega); have hz1 : w.heap.size + 1 < w1.heap.size := (by omega); have c0 := row_cell (i := 0) (v := .int .i64 (m : Int)) HX0.out rfl; have c1 := row_cell (i := 1) (v := .slice p ws.length cap) HX0.out rfl; have c2 := (row1_cell HX1.out).1; clear hb x1 x2 x3 x4 HCK)
  gi_region
  · obtain ⟨y1, y2, y3, y4⟩ := alloc2 w1 (.cells #[.int .i64 0] 3) (.cells #[.int .i64 ((m : Int) + 1)] 3)
    obtain ⟨w2, hw2⟩ : ∃ w2 : World, w2 = ((w1.alloc (.cells #[.int .i64 0] 3)).alloc (.cells #[.int .i64 ((m : Int) + 1)] 3)).drew := ⟨_, rfl⟩
    have y1 : Below w1.heap.size w1 w2 := by rw [hw2]; exact y1.drew
    have y2 : w2.heap.size = w1.heap.size + 2 := by rw [hw2]; exact y2
    have y3 : w2.heap[w1.heap.size]? = some (.cells #[.int .i64 0] 3) := by rw [hw2]; exact y3
    have y4 : w2.heap[w1.heap.size + 1]? = some (.cells #[.int .i64 ((m : Int) + 1)] 3) := by rw [hw2]; exact y4
    rw [← hw2]
    clear hw2 c0 c1 c2
    obtain ⟨b7, hb7⟩ : ∃ b7 : Nat, b7 = w1.heap.size := ⟨_, rfl⟩
    obtain ⟨b8, hb8⟩ : ∃ b8 : Nat, b8 = w1.heap.size + 1 := ⟨_, rfl⟩
    have y7 : w2.heap[b7]? = some (.cells #[.int .i64 0] 3 (0, 0)) := by rw [hb7]; exact y3
    have y8 : w2.heap[b8]? = some (.cells #[.int .i64 ((m : Int) + 1)] 3 (0, 0)) := by rw [hb8]; exact y4
    rw [← hb8, ← hb7]
    have g7 : w1.heap.size ≤ b7 ∧ b7 < w1.heap.size + 2 := by omega
    have g8 : w1.heap.size ≤ b8 ∧ b8 < w1.heap.size + 2 := by omega
    have gne : b7 ≠ b8 := by omega
    have gs1 : w2.heap.size ≤ w1.heap.size + 2 := by omega
    have gs2 : w1.heap.size + 2 ≤ w2.heap.size := by omega
    clear hb7 hb8 y3 y4 y2
    have hne : b7 ≠ b8 := gne
    have q0 := (y1.block w.heap.size (by omega)).trans HX0.out
    have q1 := (y1.block (w.heap.size + 1) (by omega)).trans HX1.out
    have c0 := row_cell (i := 0) (v := .int .i64 (m : Int)) q0 rfl
    have c1 := row_cell (i := 1) (v := .slice p ws.length cap) q0 rfl
    have HQ0 := Lib.hid q0; have HQ1 := Lib.hid q1
    have HBW2 := Lib.hid (HB1.out.trans (y1.mono HB1.out.size))
    have H7 := Lib.hid y7; have H8 := Lib.hid y8
    clear q0 q1 y1 y7 y8 HX0 HX1 HB1
    gi_wp2_with (gi_at_call 64; refine (callsIn_wide.2 (runs_any _ _ _ _ _ _ _)).mono ?_; rintro e w3 ⟨rfl, hw3⟩)
    obtain ⟨z1, z2, z3, z4, z5⟩ := alloc3 w2 (.cells #[.int .i64 (m : Int), .slice p ws.length cap] 24) (.cells #[.int .i64 0] 3) (.cells #[.bool false] 4)
    rw [← hw3] at z1 z2 z3 z4 z5 ⊢
    clear hw3 c0 c1
    have hbw : Below w.heap.size w w3 := HBW2.out.trans (z1.mono HBW2.out.size)
    have hreads : RReads (fun k => k = b7 ∨ k = b8) w3.heap.size w2.heap.size m 0 false p cap ws w3 := ⟨HE.out.below hbw, Nat.le_refl _, z3, z4, z5, HW.out.below hbw⟩
    have hfree : RFree (fun k => k = b7 ∨ k = b8) w3.heap.size w2.heap.size p ws := by
      have hes := HE.out.size
      refine ⟨by omega, by omega, by omega, by omega, ⟨by omega, by omega⟩, fun h0 g off e => ?_⟩
      obtain ⟨g', off', e', hg', _⟩ := HW.out.at_ h0
      rw [e] at e'; cases e'
      exact ⟨by omega, by omega⟩
    have hstops := runs_stops (q - 1) (fun k => k = b7 ∨ k = b8) w3.heap.size w2.heap.size m 0 cap false p ws HV.out (Nat.zero_le _) hfree w3 hreads
    have hq0 := (z1.block w.heap.size (by omega)).trans HQ0.out
    have hq1 := (z1.block (w.heap.size + 1) (by omega)).trans HQ1.out
    have h7 := (z1.block b7 (by omega)).trans H7.out
    have h8 := (z1.block b8 (by omega)).trans H8.out
    have HR0 := Lib.hid hq0; have HR1 := Lib.hid hq1; have HBW := Lib.hid hbw
    have z6 : w2.heap.size + 3 ≤ w3.heap.size := by omega
    clear hreads hfree hbw z1 z2 z3 z4 z5 A2 hq0 hq1 H7 H8 HQ0 HQ1
    refine wpIn_rangeFunc_ownH rfl (by omega) (gf := 74) (lb := #[.pointer (some ⟨w2.heap.size, 0, none⟩), .pointer (some ⟨w2.heap.size + 1, 0, none⟩), .pointer (some ⟨w2.heap.size + 1 + 1, 0, none⟩)]) rfl trivial (enters_of Tryd.func74 (by kernel_rfl) rfl) hstops BelowS.trans (belowS_b (Nat.le_refl _)) (Below.refl _ _) (fun _ => rfl)
      (BestI m size w3 b7 b8) (fun _ _ _ => False) (bestI_own m size w3 b7 b8) (fun _ _ _ _ _ hs _ _ => hs)
      ⟨BelowS.refl _ _ _, h7, h8⟩
      (fun x a' W2 => ∃ Bx : Nat, w3.heap.size ≤ Bx ∧ W2.heap[Bx]? = some (.cells #[.int .i64 (x.1.1 : Int), .int .i64 (x.1.2 : Int)] 53 (0, 0)) ∧ a' = { tmps := #[.agg #[.int .i64 (m : Int), .slice p ws.length cap], .int .i64 size, .pointer (some ⟨w.heap.size, 0, none⟩), .pointer (some ⟨w.heap.size + 1, 0, none⟩), .int .i64 0, .int .i64 0, .int .i64 0,
            .pointer (some ⟨b7, 0, none⟩), .pointer (some ⟨b8, 0, none⟩), .pointer (some ⟨Bx, 0, none⟩), undef, .agg #[.int .i64 (m : Int), .slice p ws.length cap], .int .i64 0, .int .i64 0, .bool false, undef, .int .i64 size, .bool (decide (size < 1)),
            .pointer (some ⟨w.heap.size, 0, none⟩), .int .i64 (m : Int), .int .i64 ((m : Int) + 1), .agg #[.int .i64 (m : Int), .slice p ws.length cap],
            .func (.func 74) #[] #[.pointer (some ⟨w2.heap.size, 0, none⟩), .pointer (some ⟨w2.heap.size + 1, 0, none⟩), .pointer (some ⟨w2.heap.size + 1 + 1, 0, none⟩)], .agg #[.int .i64 (x.1.1 : Int), .int .i64 (x.1.2 : Int)], undef, undef, undef, undef, undef, undef, undef, undef, undef, undef, undef, undef, undef, undef, undef, undef, undef, undef, undef, undef, undef], defers := [] })
      (fun x a' s A B row ⟨Bx, h1, h2, h3⟩ hg hr => ⟨Bx, h1, cells_own (fun _ : Unit => Bx) (fun _ => #[.int .i64 (x.1.1 : Int), .int .i64 (x.1.2 : Int)]) 53 s A B row h2 hg hr, h3⟩) ?assign ?body ?done ?stop
    case assign =>
      intro ly pre x W2 K2 hi hK2
      have hsz := hi.1.size
      have HI := Lib.hid hi; clear hi
      simp only [runV]
      gi_wp2
      have hbx : Below W2.heap.size W2 (W2.alloc (.cells #[.int .i64 (x.1.1 : Int), .int .i64 (x.1.2 : Int)] 53)) := (Below.refl _ _).alloc (Nat.le_refl _) _
      exact hK2 _ _ ((KeepsOthers.alloc _ _).from _) (BelowS.of (hbx.mono (by omega))) ⟨HI.out.1.trans (BelowS.of (hbx.mono (by omega))), (hbx.block _ (by omega)).trans HI.out.2.1, (hbx.block _ (by omega)).trans HI.out.2.2⟩ ⟨W2.heap.size, by omega, heap_alloc_new _ _, rfl⟩
    case body =>
      rintro ly pre x a' W2 hly ⟨r, hr⟩ ⟨hbx, hk7, hk8⟩ ⟨Bx, hBx, hbox, rfl⟩ hlt
      clear hr
      have hwf2 : ∀ f, (Fence.wide.inRound ly).fn f := fun _ => trivial
      have hwd2 : (Fence.wide.inRound ly).depth.isSome = false := rfl
      have hsn := bestF_snoc size m (pre.map (·.1)) x.1
      have hmp : (pre ++ [x]).map (·.1) = pre.map (·.1) ++ [x.1] := by simp
      rw [← hmp] at hsn
      unfold bestStep at hsn
      obtain ⟨⟨xs, xe⟩, hx1, hx2⟩ := x
      simp only at hx1 hx2 hbox hsn ⊢
      have k0 := row_cell (i := 0) (v := .int .i64 (xs : Int)) hbox rfl
      have k1 := row_cell (i := 1) (v := .int .i64 (xe : Int)) hbox rfl
      have k2 := (row1_cell ((hbx.block (w.heap.size + 1) (by omega) (by omega)).trans HR1.out)).1
      obtain ⟨j7, f7⟩ := row1_cell hk7
      obtain ⟨j8, f8⟩ := row1_cell hk8
      have x4 : (xe : Int) ≤ 4096 := by omega
      have HBX := Lib.hid hbx; have HK7 := Lib.hid hk7; have HK8 := Lib.hid hk8
      clear hbx hbox hstops hk7 hk8 hmp
      generalize bestF size m (pre.map (·.1)) = st at j7 j8 HK7 HK8 hsn
      by_cases hfit : size ≤ (xe : Int) - (xs : Int)
      · by_cases hls : (xe : Int) - (xs : Int) < st.2
        · rw [if_pos ⟨hfit, hls⟩] at hsn
          have HSN := Lib.hid hsn
          clear hsn
          gi_wp2
          refine ⟨((KeepsOthers.setCell _ _ _).trans (KeepsOthers.setCell _ _ _)).from _, setS (setS (BelowS.refl _ _ _) (.inl rfl) _) (.inr rfl) _, setS (setS HBX.out (.inl rfl) _) (.inr rfl) _, ?_, ?_⟩
          · rw [HSN.out, Below.heap_setCell _ _ _ _ (by simpa using hne)]; exact set_row1 HK7.out
          · rw [HSN.out]
            have h3 : (W2.setCell ⟨b7, 0, none⟩ (.int .i64 (xs : Int))).heap[b8]? = some (.cells #[.int .i64 st.2] 3 (0, 0)) := by
              rw [Below.heap_setCell _ _ _ _ (by simpa using fun e => hne e.symm)]; exact HK8.out
            exact set_row1 h3
        · rw [if_neg (fun h => hls h.2)] at hsn
          have HSN := Lib.hid hsn
          clear hsn
          gi_wp2
          exact ⟨KeepsFrom.refl _ _, BelowS.refl _ _ _, HBX.out, by rw [HSN.out]; exact HK7.out, by rw [HSN.out]; exact HK8.out⟩
      · rw [if_neg (fun h => hfit h.1)] at hsn
        have HSN := Lib.hid hsn
        have hfit2 : decide (size ≤ (xe : Int) - (xs : Int)) = false := by simpa using hfit
        clear hsn
        gi_wp2
        exact ⟨KeepsFrom.refl _ _, BelowS.refl _ _ _, HBX.out, by rw [HSN.out]; exact HK7.out, by rw [HSN.out]; exact HK8.out⟩
    case done =>
      rintro D' ys W2 hD' hys ⟨hbx, hk7, hk8⟩ hmark
      have hys' : ys.map (·.1) = runsL (bitN ws) false m 0 := hys
      rw [hys'] at hk7 hk8
      have hbl : bestL size m (runsL (bitN ws) false m 0) = if (m : Int) < (bestF size m (runsL (bitN ws) false m 0)).2 then (0, 4) else ((bestF size m (runsL (bitN ws) false m 0)).1, 0) := rfl
      have k0 := row_cell (i := 0) (v := .int .i64 (m : Int)) ((hbx.block w.heap.size (by omega) (by omega)).trans HR0.out) rfl
      obtain ⟨j7, f7⟩ := row1_cell hk7
      obtain ⟨j8, f8⟩ := row1_cell hk8
      have hbb : Below w.heap.size w W2 := HBW.out.trans ⟨hbx.os, hbx.tape, hbx.output, hbx.size, fun k hk => hbx.block k (by omega) (by omega)⟩
      have HBB := Lib.hid hbb; have HM := Lib.hid hmark
      generalize bestF size m (runsL (bitN ws) false m 0) = st at hbl j7 j8
      clear hys hys' hbx hk7 hk8 hmark hbb hstops
      have HBL := Lib.hid hbl
      clear hbl
      by_cases hl : (m : Int) < st.2
      · have e1 : bestL size m (runsL (bitN ws) false m 0) = (0, 4) := by rw [HBL.out, if_pos hl]
        have E1 := Lib.hid e1
        clear e1
        gi_wp2
        refine leaves_marks w.heap.size W2 [D'] W2 (fun E hE => ?_) (by simp) (Below.refl _ _) (fun W' hb' => ?_)
        · obtain rfl := List.mem_singleton.1 hE
          exact ⟨by omega, HM.out⟩
        · exact ⟨.tuple #[.int .i64 0, .int .i64 4], by simp [results, Tryd.results37, go_sem], intErr_mk E1.out (HBB.out.trans hb')⟩
      · have e1 : bestL size m (runsL (bitN ws) false m 0) = (st.1, 0) := by rw [HBL.out, if_neg hl]
        have E1 := Lib.hid e1
        clear e1
        gi_wp2
        refine leaves_marks w.heap.size W2 [D'] W2 (fun E hE => ?_) (by simp) (Below.refl _ _) (fun W' hb' => ?_)
        · obtain rfl := List.mem_singleton.1 hE
          exact ⟨by omega, HM.out⟩
        · exact ⟨.tuple #[.int .i64 st.1, .int .i64 0], by simp [results, Tryd.results37, go_sem], intErr_mk E1.out (HBB.out.trans hb')⟩
    case stop =>
      rintro D' c pre W2 _ _ h _
      exact h.elim
  · obtain ⟨y1, y2, y3, y4⟩ := alloc2 w1 (.cells #[.int .i64 ((m : Int) + 1)] 3) (.cells #[.int .i64 0] 3)
    obtain ⟨w2, hw2⟩ : ∃ w2 : World, w2 = ((w1.alloc (.cells #[.int .i64 ((m : Int) + 1)] 3)).alloc (.cells #[.int .i64 0] 3)).drew := ⟨_, rfl⟩
    have y1 : Below w1.heap.size w1 w2 := by rw [hw2]; exact y1.drew
    have y2 : w2.heap.size = w1.heap.size + 2 := by rw [hw2]; exact y2
    have y3 : w2.heap[w1.heap.size]? = some (.cells #[.int .i64 ((m : Int) + 1)] 3) := by rw [hw2]; exact y3
    have y4 : w2.heap[w1.heap.size + 1]? = some (.cells #[.int .i64 0] 3) := by rw [hw2]; exact y4
    rw [← hw2]
    clear hw2 c0 c1 c2
    obtain ⟨b7, hb7⟩ : ∃ b7 : Nat, b7 = w1.heap.size + 1 := ⟨_, rfl⟩
    obtain ⟨b8, hb8⟩ : ∃ b8 : Nat, b8 = w1.heap.size := ⟨_, rfl⟩
    have y7 : w2.heap[b7]? = some (.cells #[.int .i64 0] 3 (0, 0)) := by rw [hb7]; exact y4
    have y8 : w2.heap[b8]? = some (.cells #[.int .i64 ((m : Int) + 1)] 3 (0, 0)) := by rw [hb8]; exact y3
    rw [← hb7, ← hb8]
    have g7 : w1.heap.size ≤ b7 ∧ b7 < w1.heap.size + 2 := by omega
    have g8 : w1.heap.size ≤ b8 ∧ b8 < w1.heap.size + 2 := by omega
    have gne : b7 ≠ b8 := by omega
    have gs1 : w2.heap.size ≤ w1.heap.size + 2 := by omega
    have gs2 : w1.heap.size + 2 ≤ w2.heap.size := by omega
    clear hb7 hb8 y3 y4 y2
    have hne : b7 ≠ b8 := gne
    have q0 := (y1.block w.heap.size (by omega)).trans HX0.out
    have q1 := (y1.block (w.heap.size + 1) (by omega)).trans HX1.out
    have c0 := row_cell (i := 0) (v := .int .i64 (m : Int)) q0 rfl
    have c1 := row_cell (i := 1) (v := .slice p ws.length cap) q0 rfl
    have HQ0 := Lib.hid q0; have HQ1 := Lib.hid q1
    have HBW2 := Lib.hid (HB1.out.trans (y1.mono HB1.out.size))
    have H7 := Lib.hid y7; have H8 := Lib.hid y8
    clear q0 q1 y1 y7 y8 HX0 HX1 HB1
    gi_wp2_with (gi_at_call 64; refine (callsIn_wide.2 (runs_any _ _ _ _ _ _ _)).mono ?_; rintro e w3 ⟨rfl, hw3⟩)
    obtain ⟨z1, z2, z3, z4, z5⟩ := alloc3 w2 (.cells #[.int .i64 (m : Int), .slice p ws.length cap] 24) (.cells #[.int .i64 0] 3) (.cells #[.bool false] 4)
    rw [← hw3] at z1 z2 z3 z4 z5 ⊢
    clear hw3 c0 c1
    have hbw : Below w.heap.size w w3 := HBW2.out.trans (z1.mono HBW2.out.size)
    have hreads : RReads (fun k => k = b7 ∨ k = b8) w3.heap.size w2.heap.size m 0 false p cap ws w3 := ⟨HE.out.below hbw, Nat.le_refl _, z3, z4, z5, HW.out.below hbw⟩
    have hfree : RFree (fun k => k = b7 ∨ k = b8) w3.heap.size w2.heap.size p ws := by
      have hes := HE.out.size
      refine ⟨by omega, by omega, by omega, by omega, ⟨by omega, by omega⟩, fun h0 g off e => ?_⟩
      obtain ⟨g', off', e', hg', _⟩ := HW.out.at_ h0
      rw [e] at e'; cases e'
      exact ⟨by omega, by omega⟩
    have hstops := runs_stops (q - 1) (fun k => k = b7 ∨ k = b8) w3.heap.size w2.heap.size m 0 cap false p ws HV.out (Nat.zero_le _) hfree w3 hreads
    have hq0 := (z1.block w.heap.size (by omega)).trans HQ0.out
    have hq1 := (z1.block (w.heap.size + 1) (by omega)).trans HQ1.out
    have h7 := (z1.block b7 (by omega)).trans H7.out
    have h8 := (z1.block b8 (by omega)).trans H8.out
    have HR0 := Lib.hid hq0; have HR1 := Lib.hid hq1; have HBW := Lib.hid hbw
    have z6 : w2.heap.size + 3 ≤ w3.heap.size := by omega
    clear hreads hfree hbw z1 z2 z3 z4 z5 A2 hq0 hq1 H7 H8 HQ0 HQ1
    refine wpIn_rangeFunc_ownH rfl (by omega) (gf := 74) (lb := #[.pointer (some ⟨w2.heap.size, 0, none⟩), .pointer (some ⟨w2.heap.size + 1, 0, none⟩), .pointer (some ⟨w2.heap.size + 1 + 1, 0, none⟩)]) rfl trivial (enters_of Tryd.func74 (by kernel_rfl) rfl) hstops BelowS.trans (belowS_b (Nat.le_refl _)) (Below.refl _ _) (fun _ => rfl)
      (BestI m size w3 b7 b8) (fun _ _ _ => False) (bestI_own m size w3 b7 b8) (fun _ _ _ _ _ hs _ _ => hs)
      ⟨BelowS.refl _ _ _, h7, h8⟩
      (fun x a' W2 => ∃ Bx : Nat, w3.heap.size ≤ Bx ∧ W2.heap[Bx]? = some (.cells #[.int .i64 (x.1.1 : Int), .int .i64 (x.1.2 : Int)] 53 (0, 0)) ∧ a' = { tmps := #[.agg #[.int .i64 (m : Int), .slice p ws.length cap], .int .i64 size, .pointer (some ⟨w.heap.size, 0, none⟩), .pointer (some ⟨w.heap.size + 1, 0, none⟩), .int .i64 0, .int .i64 0, .int .i64 0,
            .pointer (some ⟨b7, 0, none⟩), .pointer (some ⟨b8, 0, none⟩), .pointer (some ⟨Bx, 0, none⟩), undef, .agg #[.int .i64 (m : Int), .slice p ws.length cap], .int .i64 0, .int .i64 0, .bool false, undef, .int .i64 size, .bool (decide (size < 1)),
            .pointer (some ⟨w.heap.size, 0, none⟩), .int .i64 (m : Int), .int .i64 ((m : Int) + 1), .agg #[.int .i64 (m : Int), .slice p ws.length cap],
            .func (.func 74) #[] #[.pointer (some ⟨w2.heap.size, 0, none⟩), .pointer (some ⟨w2.heap.size + 1, 0, none⟩), .pointer (some ⟨w2.heap.size + 1 + 1, 0, none⟩)], .agg #[.int .i64 (x.1.1 : Int), .int .i64 (x.1.2 : Int)], undef, undef, undef, undef, undef, undef, undef, undef, undef, undef, undef, undef, undef, undef, undef, undef, undef, undef, undef, undef, undef], defers := [] })
      (fun x a' s A B row ⟨Bx, h1, h2, h3⟩ hg hr => ⟨Bx, h1, cells_own (fun _ : Unit => Bx) (fun _ => #[.int .i64 (x.1.1 : Int), .int .i64 (x.1.2 : Int)]) 53 s A B row h2 hg hr, h3⟩) ?assign2 ?body2 ?done2 ?stop2
    case assign2 =>
      intro ly pre x W2 K2 hi hK2
      have hsz := hi.1.size
      have HI := Lib.hid hi; clear hi
      simp only [runV]
      gi_wp2
      have hbx : Below W2.heap.size W2 (W2.alloc (.cells #[.int .i64 (x.1.1 : Int), .int .i64 (x.1.2 : Int)] 53)) := (Below.refl _ _).alloc (Nat.le_refl _) _
      exact hK2 _ _ ((KeepsOthers.alloc _ _).from _) (BelowS.of (hbx.mono (by omega))) ⟨HI.out.1.trans (BelowS.of (hbx.mono (by omega))), (hbx.block _ (by omega)).trans HI.out.2.1, (hbx.block _ (by omega)).trans HI.out.2.2⟩ ⟨W2.heap.size, by omega, heap_alloc_new _ _, rfl⟩
    case body2 =>
      rintro ly pre x a' W2 hly ⟨r, hr⟩ ⟨hbx, hk7, hk8⟩ ⟨Bx, hBx, hbox, rfl⟩ hlt
      clear hr
      have hwf2 : ∀ f, (Fence.wide.inRound ly).fn f := fun _ => trivial
      have hwd2 : (Fence.wide.inRound ly).depth.isSome = false := rfl
      have hsn := bestF_snoc size m (pre.map (·.1)) x.1
      have hmp : (pre ++ [x]).map (·.1) = pre.map (·.1) ++ [x.1] := by simp
      rw [← hmp] at hsn
      unfold bestStep at hsn
      obtain ⟨⟨xs, xe⟩, hx1, hx2⟩ := x
      simp only at hx1 hx2 hbox hsn ⊢
      have k0 := row_cell (i := 0) (v := .int .i64 (xs : Int)) hbox rfl
      have k1 := row_cell (i := 1) (v := .int .i64 (xe : Int)) hbox rfl
      have k2 := (row1_cell ((hbx.block (w.heap.size + 1) (by omega) (by omega)).trans HR1.out)).1
      obtain ⟨j7, f7⟩ := row1_cell hk7
      obtain ⟨j8, f8⟩ := row1_cell hk8
      have x4 : (xe : Int) ≤ 4096 := by omega
      have HBX := Lib.hid hbx; have HK7 := Lib.hid hk7; have HK8 := Lib.hid hk8
      clear hbx hbox hstops hk7 hk8 hmp
      generalize bestF size m (pre.map (·.1)) = st at j7 j8 HK7 HK8 hsn
      by_cases hfit : size ≤ (xe : Int) - (xs : Int)
      · by_cases hls : (xe : Int) - (xs : Int) < st.2
        · rw [if_pos ⟨hfit, hls⟩] at hsn
          have HSN := Lib.hid hsn
          clear hsn
          gi_wp2
          refine ⟨((KeepsOthers.setCell _ _ _).trans (KeepsOthers.setCell _ _ _)).from _, setS (setS (BelowS.refl _ _ _) (.inl rfl) _) (.inr rfl) _, setS (setS HBX.out (.inl rfl) _) (.inr rfl) _, ?_, ?_⟩
          · rw [HSN.out, Below.heap_setCell _ _ _ _ (by simpa using hne)]; exact set_row1 HK7.out
          · rw [HSN.out]
            have h3 : (W2.setCell ⟨b7, 0, none⟩ (.int .i64 (xs : Int))).heap[b8]? = some (.cells #[.int .i64 st.2] 3 (0, 0)) := by
              rw [Below.heap_setCell _ _ _ _ (by simpa using fun e => hne e.symm)]; exact HK8.out
            exact set_row1 h3
        · rw [if_neg (fun h => hls h.2)] at hsn
          have HSN := Lib.hid hsn
          clear hsn
          gi_wp2
          exact ⟨KeepsFrom.refl _ _, BelowS.refl _ _ _, HBX.out, by rw [HSN.out]; exact HK7.out, by rw [HSN.out]; exact HK8.out⟩
      · rw [if_neg (fun h => hfit h.1)] at hsn
        have HSN := Lib.hid hsn
        have hfit2 : decide (size ≤ (xe : Int) - (xs : Int)) = false := by simpa using hfit
        clear hsn
        gi_wp2
        exact ⟨KeepsFrom.refl _ _, BelowS.refl _ _ _, HBX.out, by rw [HSN.out]; exact HK7.out, by rw [HSN.out]; exact HK8.out⟩
    case done2 =>
      rintro D' ys W2 hD' hys ⟨hbx, hk7, hk8⟩ hmark
      have hys' : ys.map (·.1) = runsL (bitN ws) false m 0 := hys
      rw [hys'] at hk7 hk8
      have hbl : bestL size m (runsL (bitN ws) false m 0) = if (m : Int) < (bestF size m (runsL (bitN ws) false m 0)).2 then (0, 4) else ((bestF size m (runsL (bitN ws) false m 0)).1, 0) := rfl
      have k0 := row_cell (i := 0) (v := .int .i64 (m : Int)) ((hbx.block w.heap.size (by omega) (by omega)).trans HR0.out) rfl
      obtain ⟨j7, f7⟩ := row1_cell hk7
      obtain ⟨j8, f8⟩ := row1_cell hk8
      have hbb : Below w.heap.size w W2 := HBW.out.trans ⟨hbx.os, hbx.tape, hbx.output, hbx.size, fun k hk => hbx.block k (by omega) (by omega)⟩
      have HBB := Lib.hid hbb; have HM := Lib.hid hmark
      generalize bestF size m (runsL (bitN ws) false m 0) = st at hbl j7 j8
      clear hys hys' hbx hk7 hk8 hmark hbb hstops
      have HBL := Lib.hid hbl
      clear hbl
      by_cases hl : (m : Int) < st.2
      · have e1 : bestL size m (runsL (bitN ws) false m 0) = (0, 4) := by rw [HBL.out, if_pos hl]
        have E1 := Lib.hid e1
        clear e1
        gi_wp2
        refine leaves_marks w.heap.size W2 [D'] W2 (fun E hE => ?_) (by simp) (Below.refl _ _) (fun W' hb' => ?_)
        · obtain rfl := List.mem_singleton.1 hE
          exact ⟨by omega, HM.out⟩
        · exact ⟨.tuple #[.int .i64 0, .int .i64 4], by simp [results, Tryd.results37, go_sem], intErr_mk E1.out (HBB.out.trans hb')⟩
      · have e1 : bestL size m (runsL (bitN ws) false m 0) = (st.1, 0) := by rw [HBL.out, if_neg hl]
        have E1 := Lib.hid e1
        clear e1
        gi_wp2
        refine leaves_marks w.heap.size W2 [D'] W2 (fun E hE => ?_) (by simp) (Below.refl _ _) (fun W' hb' => ?_)
        · obtain rfl := List.mem_singleton.1 hE
          exact ⟨by omega, HM.out⟩
        · exact ⟨.tuple #[.int .i64 st.1, .int .i64 0], by simp [results, Tryd.results37, go_sem], intErr_mk E1.out (HBB.out.trans hb')⟩
    case stop2 =>
      rintro D' c pre W2 _ _ h _
      exact h.elim
/-- What is wrong with the input of Best. -/
def bestE (n : Int) (ws : List Nat) (size : Int) : Int := if checkR n ws ≠ 0 then checkR n ws else if size < 1 then 2 else 0
def bestR (n : Int) (ws : List Nat) (size : Int) : Int × Int := if bestE n ws size ≠ 0 then (0, bestE n ws size) else bestL size n.toNat (runsL (bitN ws) false n.toNat 0)
set_option maxHeartbeats 2000000 in
set_option maxRecDepth 100000 in
theorem best_any (n : Int) (p : Option Addr) (cap : Nat) (ws : List Nat) (size : Int) (w : World) (h : WordsAt w p ws) (he : BEnv w) :
    Calls Tryd.prog 37 #[.agg #[.int .i64 n, .slice p ws.length cap], .int .i64 size] w (IntErr (bestR n ws size) w) := by
  have ck := fun W (hW : Below w.heap.size w W) => check_any n p cap ws W (h.below hW)
  have e : bestR n ws size = if bestE n ws size ≠ 0 then (0, bestE n ws size) else bestL size n.toNat (runsL (bitN ws) false n.toNat 0) := rfl
  have ee : bestE n ws size = if checkR n ws ≠ 0 then checkR n ws else if size < 1 then 2 else 0 := rfl
  have hok := checkR_ok (n := n) h.lt
  have HW := Lib.hid h; have HE := Lib.hid he
  generalize checkR n ws = c at ck ee hok
  generalize bestR n ws size = r at e
  generalize bestE n ws size = er at e ee
  have a2 := fun o1 o2 => alloc2 w o1 o2
  have A2 := Lib.hid a2
  clear a2 h he
  by_cases hgood : c = 0 ∧ 1 ≤ size
  · obtain ⟨rfl, hs⟩ := hgood
    obtain ⟨hn0, hv⟩ := hok rfl
    rw [if_neg (by simp), if_neg (by omega)] at ee
    rw [ee, if_neg (by simp)] at e
    obtain ⟨m, rfl⟩ : ∃ m : Nat, n = (m : Int) := ⟨n.toNat, by omega⟩
    rw [Int.toNat_natCast] at e
    rw [e]
    rw [Int.toNat_natCast] at hv
    exact callsIn_wide.1 (best_in 3 m p cap ws size w (Nat.le_refl _) HW.out hv hs HE.out ck)
  · have hne : er ≠ 0 := by
      rw [ee]
      by_cases h1 : c ≠ 0
      · rw [if_pos h1]; exact h1
      · rw [if_neg h1, if_pos (by omega)]; decide
    rw [if_pos hne] at e
    have E := Lib.hid e; have CK := Lib.hid ck
    clear e hne hok ck
    by_cases h1 : c ≠ 0
    · rw [if_pos h1] at ee
      subst ee
      obtain ⟨t1, t2⟩ := neq0 h1
      clear h1 hgood
      go_enter Tryd.func37, Tryd.ntmps37
      go_wp2_with (go_at_call 19; refine (CK.out _ (A2.out _ _).1).mono ?_; rintro e w1 ⟨rfl, hb⟩; obtain ⟨x1, x2, x3, x4⟩ := A2.out (.cells #[.int .i64 n, .slice p ws.length cap] 24) (.cells #[.int .i64 size] 3); have HB1 := Lib.hid (x1.trans (hb.mono (by omega))); clear hb x1 x2 x3 x4)
      go_ret2
      exact intErr_mk E.out HB1.out
    · obtain rfl : c = 0 := Classical.not_not.1 h1
      rw [if_neg h1, if_pos (by omega)] at ee
      subst ee
      have h2 : size < 1 := by omega
      clear hgood h1
      go_enter Tryd.func37, Tryd.ntmps37
      go_wp2_with (go_at_call 19; refine (CK.out _ (A2.out _ _).1).mono ?_; rintro e w1 ⟨rfl, hb⟩; obtain ⟨x1, x2, x3, x4⟩ := A2.out (.cells #[.int .i64 n, .slice p ws.length cap] 24) (.cells #[.int .i64 size] 3); have HB1 := Lib.hid (x1.trans (hb.mono (by omega))); have c2 := (row1_cell ((hb.block _ (by omega)).trans x4)).1; clear hb x1 x2 x3 x4)
      go_ret2
      exact intErr_mk E.out HB1.out
end Go.Proofs.YtocgdibadcmnfaaDoor
