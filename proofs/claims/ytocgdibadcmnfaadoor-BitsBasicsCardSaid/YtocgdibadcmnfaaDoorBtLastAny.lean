/- bits: Last, at its main way, and at any input. -/
import Derived.Test.YtocgdibadcmnfaaDoorBtLast
namespace Go.Proofs.YtocgdibadcmnfaaDoor
open Go.RowKit Go.Shelf
attribute [local go_sem] Oper.semAt_some

theorem alloc5 (w : World) (o1 o2 o3 o4 o5 : Obj) : Below w.heap.size w (((((w.alloc o1).alloc o2).alloc o3).alloc o4).alloc o5) ∧ (((((w.alloc o1).alloc o2).alloc o3).alloc o4).alloc o5).heap.size = w.heap.size + 5 ∧
    (((((w.alloc o1).alloc o2).alloc o3).alloc o4).alloc o5).heap[w.heap.size]? = some o1 ∧ (((((w.alloc o1).alloc o2).alloc o3).alloc o4).alloc o5).heap[w.heap.size + 1]? = some o2 ∧
    (((((w.alloc o1).alloc o2).alloc o3).alloc o4).alloc o5).heap[w.heap.size + 1 + 1]? = some o3 ∧ (((((w.alloc o1).alloc o2).alloc o3).alloc o4).alloc o5).heap[w.heap.size + 1 + 1 + 1]? = some o4 ∧
    (((((w.alloc o1).alloc o2).alloc o3).alloc o4).alloc o5).heap[w.heap.size + 1 + 1 + 1 + 1]? = some o5 := by
  obtain ⟨x1, x2, x3, x4, x5, x6⟩ := alloc4 w o1 o2 o3 o4
  have n5 := heap_alloc_new ((((w.alloc o1).alloc o2).alloc o3).alloc o4) o5
  rw [x2] at n5
  refine ⟨x1.alloc (by omega) _, by simp, ?_, ?_, ?_, ?_, n5⟩
  all_goals
    rw [Below.heap_alloc _ _ _ (by omega)]
    assumption
/-- The blocks of a call of Last. -/
structure Fr5 (W : World) (B : Nat) (m : Int) (s : Value) (z : Int) (on : Bool) : Prop where
  b0 : W.heap[B]? = some (.cells #[.int .i64 m, s] 24 (0, 0))
  b1 : W.heap[B + 1]? = some (.cells #[.int .i64 z] 3 (0, 0))
  b2 : W.heap[B + 1 + 1]? = some (.cells #[.bool on] 4 (0, 0))
  b3 : W.heap[B + 1 + 1 + 1]? = some (.cells #[.int .i64 0] 3 (0, 0))
  b4 : W.heap[B + 1 + 1 + 1 + 1]? = some (.cells #[.int .i64 0] 29 (0, 0))
theorem Fr5.below {W W' : World} {B : Nat} {m : Int} {s : Value} {z : Int} {on : Bool} (h : Fr5 W B m s z on) (hb : Below W.heap.size W W') : Fr5 W' B m s z on :=
  ⟨(hb.block _ (Array.getElem?_eq_some_iff.1 h.b0).1).trans h.b0, (hb.block _ (Array.getElem?_eq_some_iff.1 h.b1).1).trans h.b1, (hb.block _ (Array.getElem?_eq_some_iff.1 h.b2).1).trans h.b2, (hb.block _ (Array.getElem?_eq_some_iff.1 h.b3).1).trans h.b3, (hb.block _ (Array.getElem?_eq_some_iff.1 h.b4).1).trans h.b4⟩

theorem last_word {ws : List Nat} {i j t : Nat} {on : Bool} (hi : i < ws.length) (hx : ws[i] < 2 ^ 64) (h1 : t / 64 = i) (h2 : t < j) : (soughtR ws[i] i 0 j on).testBit (t % 64) = onB (bitN ws) on t := by
  rw [sought_bit hi hx]
  have h3 : 64 * i + t % 64 = t := by omega
  have h4 : t % 64 < 64 := by omega
  unfold inWin
  rw [h3]
  simp [h4, h2]
theorem last_hit {ws : List Nat} {i j : Nat} {on : Bool} (hl : ∀ x ∈ ws, x < 2 ^ 64) (hj : j ≤ 64 * ws.length) (hi : i < ws.length) (h : soughtR ws[i] i 0 j on ≠ 0) (hno : ∀ z (hz : z < ws.length), i < z → soughtR ws[z] z 0 j on = 0) :
    lastF (onB (bitN ws) on) j = (((64 * i + bitLen (soughtR ws[i] i 0 j on) : Nat) : Int) - 1, 0) := by
  obtain ⟨h1, h2, h3, h4⟩ := bitLen_bit h (sought_lt _ _ _ _ _)
  have hx := word_in hl i hi
  have hb := sought_bit hi hx 0 j on (bitLen (soughtR ws[i] i 0 j on) - 1)
  rw [h3] at hb
  have hb2 : bitLen (soughtR ws[i] i 0 j on) - 1 < 64 ∧ onB (bitN ws) on (64 * i + (bitLen (soughtR ws[i] i 0 j on) - 1)) = true ∧ 64 * i + (bitLen (soughtR ws[i] i 0 j on) - 1) < j := by
    unfold inWin at hb
    have := hb.symm
    simp only [Bool.and_eq_true, decide_eq_true_eq] at this
    exact ⟨this.1, this.2.1, this.2.2.2⟩
  obtain ⟨b1, b2, b3⟩ := hb2
  rw [lastF_some b2 b3]
  · congr 1; omega
  · intro t ht1 ht2
    by_cases e : t / 64 = i
    · rw [← last_word hi hx e ht2]
      exact h4 _ (by omega)
    · have hz : t / 64 < ws.length := by omega
      have := last_word (on := on) hz (word_in hl _ hz) rfl ht2
      rw [← this, hno (t / 64) hz (by omega)]; simp
theorem last_no {ws : List Nat} {j : Nat} {on : Bool} (hl : ∀ x ∈ ws, x < 2 ^ 64) (hj : j ≤ 64 * ws.length) (hno : ∀ z (hz : z < ws.length), soughtR ws[z] z 0 j on = 0) : lastF (onB (bitN ws) on) j = (0, 4) := by
  refine lastF_none fun t ht => ?_
  have hz : t / 64 < ws.length := by omega
  have := last_word (on := on) hz (word_in hl _ hz) rfl ht
  rw [← this, hno (t / 64) hz]; simp
theorem down_get (n k : Nat) (h : k < n) : (downL n)[k]? = some (n - 1 - k) := by
  unfold downL
  rw [List.getElem?_reverse (by simpa using h), List.getElem?_range (by simp; omega)]; simp
/-- All indices above the last one that was yielded were yielded before it. -/
theorem down_before {n x z : Nat} {init : List Nat} (h : (init ++ [x]) <+: downL n) (h1 : x < z) (h2 : z < n) : z ∈ init := by
  obtain ⟨tl, e⟩ := h
  have hx : (downL n)[init.length]? = some x := by rw [← e]; simp
  have hlen : init.length < n := by
    have := (List.getElem?_eq_some_iff.1 hx).1
    simpa [downL] using this
  rw [down_get n _ hlen] at hx
  have hx' : n - 1 - init.length = x := Option.some.inj hx
  have hz := down_get n (n - 1 - z) (by omega)
  rw [← e, List.append_assoc, List.getElem?_append_left (by omega), show n - 1 - (n - 1 - z) = z by omega] at hz
  exact List.mem_of_getElem? hz
def LastI (ws : List Nat) (j : Nat) (on : Bool) (w2 : World) (pre : List (WIx ws)) (W : World) : Prop := BelowS (fun _ => False) w2.heap.size w2 W ∧ ∀ y ∈ pre, soughtR (ws[y.1]'y.2) y.1 0 j on = 0
def LastX (ws : List Nat) (j : Nat) (on : Bool) (w : World) (c : Code) (pre : List (WIx ws)) (W : World) : Prop :=
  (c = .ret ∧ ∃ init x, pre = init ++ [x] ∧ (∀ y ∈ init, soughtR (ws[y.1]'y.2) y.1 0 j on = 0) ∧ soughtR (ws[x.1]'x.2) x.1 0 j on ≠ 0 ∧ W.heap[w.heap.size + 1 + 1 + 1]? = some (.cells #[.int .i64 (((64 * x.1 + bitLen (soughtR (ws[x.1]'x.2) x.1 0 j on) : Nat) : Int) - 1)] 3 (0, 0)) ∧ W.heap[w.heap.size + 1 + 1 + 1 + 1]? = some (.cells #[.int .i64 0] 29 (0, 0))) ∧ Below w.heap.size w W
theorem lastX_own (ws : List Nat) (j : Nat) (on : Bool) (w : World) (B : Nat) (hB : w.heap.size ≤ B) (c : Code) : OwnFrom B (LastX ws j on w c) :=
  OwnFrom.and (fun s A B row hs hg hr => by
      obtain ⟨h1, init, x, h2, h3, h4, h5, h6⟩ := hs
      exact ⟨h1, init, x, h2, h3, h4, cells_own (fun _ : Unit => w.heap.size + 1 + 1 + 1) (fun _ => #[.int .i64 (((64 * x.1 + bitLen (soughtR (ws[x.1]'x.2) x.1 0 j on) : Nat) : Int) - 1)]) 3 () A B row h5 hg hr, cells_own (fun _ : Unit => w.heap.size + 1 + 1 + 1 + 1) (fun _ => #[.int .i64 0]) 29 () A B row h6 hg hr⟩) (below_own hB (Nat.le_refl _))
theorem keepsOthers_of_below {W W' : World} (h : Below W.heap.size W W') : KeepsOthers W W' := KeepsOthers.of_grownBy (grownBy_of_below h none) (fun j o e => by cases e)
set_option maxHeartbeats 2000000 in
set_option maxRecDepth 100000 in
theorem last_in (q m : Nat) (p : Option Addr) (cap : Nat) (ws : List Nat) (j : Nat) (on : Bool) (w : World) (h3 : 3 ≤ q) (h : WordsAt w p ws) (hv : Valid m ws) (hj : j ≤ m)
    (hck : ∀ W, Below w.heap.size w W → Calls Tryd.prog 56 #[.agg #[.int .i64 (m : Int), .slice p ws.length cap], .int .i64 0, .int .i64 (j : Int)] W fun e w' => e = .returned (.int .i64 0) ∧ Below W.heap.size W w') :
    CallsIn Fence.wide q Tryd.prog 30 #[.agg #[.int .i64 (m : Int), .slice p ws.length cap], .int .i64 (j : Int), .bool on] w (IntErr (lastF (onB (bitN ws) on) j) w) := by
  refine callsIn_of_wp_marks Tryd.func30 rfl trivial ?_ rfl
  simp only [Tryd.ntmps30, List.size_toArray, List.length_cons, List.length_nil, Nat.reduceAdd, Nat.reduceSub, Array.replicate_succ, Array.replicate_zero, List.push_toArray, List.append_toArray, List.nil_append, List.cons_append]
  have hwf : ∀ f, Fence.wide.fn f := fun _ => trivial
  have hwd : Fence.wide.depth.isSome = false := rfl
  have HCK := Lib.hid hck; have HW := Lib.hid h; have HV := Lib.hid hv
  obtain ⟨hr1, hr2⟩ := valid_room hv
  have hm4 := hv.le
  clear hck h hv
  have A5 := Lib.hid (fun o1 o2 o3 o4 o5 => alloc5 w o1 o2 o3 o4 o5)
  gi_wp2_with (first
    | (gi_at_call 56; refine (callsIn_wide.2 (HCK.out _ (A5.out _ _ _ _ _).1)).mono ?_; rintro e w1 ⟨rfl, hb⟩; obtain ⟨x1, x2, x3, x4, x5, x6, x7⟩ := A5.out (.cells #[.int .i64 (m : Int), .slice p ws.length cap] 24) (.cells #[.int .i64 (j : Int)] 3) (.cells #[.bool on] 4) (.cells #[.int .i64 0] 3) (.cells #[.int .i64 0] 29); have HFR := Lib.hid (Fr5.below ⟨x3, x4, x5, x6, x7⟩ hb); have HB1 := Lib.hid (x1.trans (hb.mono (by omega))); have hz : w.heap.size + 5 ≤ w1.heap.size := (by have := hb.size; omega); have c0 := row_cell (i := 0) (v := .int .i64 (m : Int)) HFR.out.b0 rfl; have c1 := row_cell (i := 1) (v := .slice p ws.length cap) HFR.out.b0 rfl; clear hb x1 x2 x3 x4 x5 x6 x7 HCK)
    | (gi_at_call 62; refine (callsIn_wide.2 (back_any _ _ _ _)).mono ?_; rintro e w2 ⟨rfl, hw2⟩))
  have y0 := heap_alloc_new w1 (.cells #[.slice p ws.length cap] 22)
  have y1 : Below w1.heap.size w1 w2 := by rw [hw2]; exact (Below.refl _ _).alloc (Nat.le_refl _) _
  have y2 : w2.heap.size = w1.heap.size + 1 := by rw [hw2]; simp
  rw [← hw2] at y0 ⊢
  clear hw2 c0 c1
  have hbw : Below w.heap.size w w2 := HB1.out.trans (y1.mono HB1.out.size)
  have hreads : KReads w2.heap.size w1.heap.size p cap ws w2 := ⟨Nat.le_refl _, y0, HW.out.below hbw⟩
  have hfree : KFree w2.heap.size w1.heap.size p ws := by
    refine ⟨by omega, fun h0 g off e => ?_⟩
    obtain ⟨g', off', e', hg', _⟩ := HW.out.at_ h0
    rw [e] at e'; cases e'; omega
  have hstops := back_stops (q - 1) w2.heap.size w1.heap.size cap p ws hr2 hfree w2 hreads
  have HF2 := Lib.hid (HFR.out.below y1); have HBW := Lib.hid hbw
  have y6 : w1.heap.size + 1 ≤ w2.heap.size := by omega
  clear hreads hfree hbw y0 y1 y2 A5
  refine wpIn_rangeFunc_ownH rfl (by omega) (gf := 73) (lb := #[.pointer (some ⟨w1.heap.size, 0, none⟩)]) rfl trivial (enters_of Tryd.func73 (by kernel_rfl) rfl) hstops BelowS.trans (belowS_b (Nat.le_refl _)) (Below.refl _ _) (fun _ => rfl)
    (LastI ws j on w2) (LastX ws j on w) (OwnFrom.and (belowS_own (Nat.le_refl _)) (fun _ _ _ _ hs _ _ => hs)) (fun c => lastX_own ws j on w _ (by omega) c)
    ⟨BelowS.refl _ _ _, by simp⟩
    (fun x a' _ => a' = { tmps := #[.agg #[.int .i64 (m : Int), .slice p ws.length cap], .int .i64 (j : Int), .bool on, .pointer (some ⟨w.heap.size, 0, none⟩), .pointer (some ⟨w.heap.size + 1, 0, none⟩), .pointer (some ⟨w.heap.size + 1 + 1, 0, none⟩),
          .pointer (some ⟨w.heap.size + 1 + 1 + 1, 0, none⟩), .pointer (some ⟨w.heap.size + 1 + 1 + 1 + 1, 0, none⟩), .int .i64 0, .int .i64 (x.1 : Int), undef, .agg #[.int .i64 (m : Int), .slice p ws.length cap], .int .i64 (j : Int), .int .i64 0, .int .i64 0, .bool false, undef,
          .pointer (some ⟨w.heap.size, 1, none⟩), .slice p ws.length cap, .func (.func 73) #[] #[.pointer (some ⟨w1.heap.size, 0, none⟩)], .int .i64 (x.1 : Int), .int .u64 ((ws[x.1]'x.2 : Nat) : Int), undef, undef, undef, undef, undef, undef, undef, undef, undef, undef, undef, undef, undef], defers := [] })
    (fun x a' _ A B row hs _ _ => hs) ?assign ?body ?done ?stop
  case assign =>
    intro ly pre x W2 K2 hi hK2
    have HI := Lib.hid hi; clear hi
    simp only [ixV]
    gi_wp2
    exact hK2 _ _ (KeepsFrom.refl _ _) (BelowS.refl _ _ _) HI.out rfl
  case body =>
    rintro ly pre x a' W2 hly ⟨r, hr⟩ ⟨hbx, hno⟩ rfl hlt
    clear hr
    have hwf2 : ∀ f, (Fence.wide.inRound ly).fn f := fun _ => trivial
    have hwd2 : (Fence.wide.inRound ly).depth.isSome = false := rfl
    obtain ⟨i, hi⟩ := x
    simp only at ⊢
    have hq0 := (hbx.block (w.heap.size) (by omega) id).trans HF2.out.b0
    have hq1 := (hbx.block (w.heap.size + 1) (by omega) id).trans HF2.out.b1
    have hq2 := (hbx.block (w.heap.size + 1 + 1) (by omega) id).trans HF2.out.b2
    have hq3 := (hbx.block (w.heap.size + 1 + 1 + 1) (by omega) id).trans HF2.out.b3
    have hq4 := (hbx.block (w.heap.size + 1 + 1 + 1 + 1) (by omega) id).trans HF2.out.b4
    have c0 := row_cell (i := 0) (v := .int .i64 (m : Int)) hq0 rfl
    have c1 := row_cell (i := 1) (v := .slice p ws.length cap) hq0 rfl
    have c2 := (row1_cell hq1).1
    have c3 := (row1_cell hq2).1
    have hbb : Below w.heap.size w W2 := HBW.out.trans ⟨hbx.os, hbx.tape, hbx.output, hbx.size, fun k hk => hbx.block k (by omega) id⟩
    have cs := sought_any m p cap ws i 0 j on W2 (HW.out.below hbb) hi (by omega) (by omega) (by omega)
    have hyl := sought_lt ws[i] i 0 j on
    have HBX := Lib.hid hbx; have HNO := Lib.hid hno; have HQ3 := Lib.hid hq3; have HQ4 := Lib.hid hq4; have HBB := Lib.hid hbb
    unfold WordPost at cs
    rw [show ((0 : Nat) : Int) = 0 from rfl] at cs
    obtain ⟨y, hy⟩ : ∃ y, y = soughtR ws[i] i 0 j on := ⟨_, rfl⟩
    rw [← hy] at cs hyl
    have HY := Lib.hid hy
    have CS := Lib.hid cs
    have i6 : (i : Int) ≤ 64 := by omega
    have i0 : (0 : Int) ≤ i := by omega
    clear hbx hno hq0 hq1 hq2 hq3 hq4 hstops hbb cs hy
    by_cases hy0 : y = 0
    · subst hy0
      clear hyl
      gi_wp2_with (gi_at_call 59; refine (CallsIn.inRound ly (callsIn_wide.2 CS.out)).mono ?_; rintro e w4 ⟨rfl, hb4⟩; have HB4 := Lib.hid hb4; clear hb4 CS)
      have hbs : BelowS (fun _ => False) w2.heap.size W2 w4 := BelowS.of (HB4.out.mono HBX.out.size)
      refine ⟨(keepsOthers_of_below HB4.out).from _, hbs, HBX.out.trans hbs, ?_⟩
      intro z hz
      rcases List.mem_append.1 hz with hz | hz
      · exact HNO.out z hz
      · obtain rfl := List.mem_singleton.1 hz
        exact HY.out.symm
    · have cl := fun W => len_any y hyl W
      obtain ⟨t1, t2⟩ : ((y : Int) != 0) = true ∧ ((y : Int) == 0) = false := neq0 (by omega)
      have hbl := bitLen_bit hy0 hyl
      obtain ⟨L, hL⟩ : ∃ L, L = bitLen y := ⟨_, rfl⟩
      rw [← hL] at cl hbl
      have HL := Lib.hid hL; have CL := Lib.hid cl; have HY0 := Lib.hid hy0
      have l1 : (1 : Int) ≤ L := by omega
      have l6 : (L : Int) ≤ 64 := by omega
      clear cl hbl hL hy0 hyl
      gi_wp2_with (first
        | (gi_at_call 59; refine (CallsIn.inRound ly (callsIn_wide.2 CS.out)).mono ?_; rintro e w4 ⟨rfl, hb4⟩; have HB4 := Lib.hid hb4; have r3 := (hb4.block _ (by have := HBX.out.size; omega)).trans HQ3.out; have r4 := (hb4.block _ (by have := HBX.out.size; omega)).trans HQ4.out; obtain ⟨k3, f3⟩ := row1_cell r3; obtain ⟨k4, f4⟩ := row1_cell r4; have HR3 := Lib.hid r3; have HR4 := Lib.hid r4; clear hb4 CS r3 r4)
        | (gi_at_call 63; refine (CallsIn.inRound ly (callsIn_wide.2 (CL.out _))).mono ?_; rintro e w5 ⟨rfl, rfl⟩))
      have hv0 : ((64 * i + bitLen (soughtR ws[i] i 0 j on) : Nat) : Int) - 1 = (i : Int) * 64 + (L : Int) - 1 := by
        rw [HL.out, ← HY.out]; omega
      have hsz : w.heap.size + 5 ≤ W2.heap.size := by have := HBX.out.size; omega
      refine ⟨((keepsOthers_of_below HB4.out).trans ((KeepsOthers.setCell _ _ _).trans (KeepsOthers.setCell _ _ _))).from _, ⟨rfl, pre, ⟨i, hi⟩, rfl, HNO.out, ?_, ?_, ?_⟩, ?_⟩
      · show soughtR ws[i] i 0 j on ≠ 0
        rw [← HY.out]; exact HY0.out
      · show _ = some (Obj.cells #[.int .i64 (((64 * i + bitLen (soughtR ws[i] i 0 j on) : Nat) : Int) - 1)] 3 (0, 0))
        rw [hv0, Below.heap_setCell _ _ _ _ (by simp)]; exact set_row1 HR3.out
      · have h3 : (w4.setCell ⟨w.heap.size + 1 + 1 + 1, 0, none⟩ (.int .i64 ((i : Int) * 64 + (L : Int) - 1))).heap[w.heap.size + 1 + 1 + 1 + 1]? = some (.cells #[.int .i64 0] 29 (0, 0)) := by
          rw [Below.heap_setCell _ _ _ _ (by simp)]; exact HR4.out
        exact set_row1 h3
      · exact set1B (set1B (HBB.out.trans (HB4.out.mono (by omega))) (by omega) _) (by omega) _
  case done =>
    rintro D' ys W2 hD' hys ⟨hbx, hno⟩ hmark
    have hfl : lastF (onB (bitN ws) on) j = (0, 4) := by
      refine last_no HV.out.lt (by omega) fun z hz => ?_
      have h1 : z ∈ ys.map (·.1) := by
        rw [show ys.map (·.1) = downL ws.length from hys]
        simpa [downL] using hz
      obtain ⟨y, hy, rfl⟩ := List.mem_map.1 h1
      exact hno y hy
    have hq2 := (hbx.block (w.heap.size + 1 + 1 + 1) (by omega) id).trans HF2.out.b3
    have hq3 := (hbx.block (w.heap.size + 1 + 1 + 1 + 1) (by omega) id).trans HF2.out.b4
    obtain ⟨k3, f3⟩ := row1_cell hq2
    obtain ⟨k4, f4⟩ := row1_cell hq3
    have hbb : Below w.heap.size w W2 := HBW.out.trans ⟨hbx.os, hbx.tape, hbx.output, hbx.size, fun k hk => hbx.block k (by omega) id⟩
    have HBB := Lib.hid hbb; have HQ2 := Lib.hid hq2; have HQ3 := Lib.hid hq3; have HM := Lib.hid hmark; have HFL := Lib.hid hfl
    clear hys hbx hno hmark hq2 hq3 hbb hfl hstops
    gi_wp2
    have r2 : ((W2.setCell ⟨w.heap.size + 1 + 1 + 1, 0, none⟩ (.int .i64 0)).setCell ⟨w.heap.size + 1 + 1 + 1 + 1, 0, none⟩ (.int .i64 4)).heap[w.heap.size + 1 + 1 + 1]? = some (.cells #[.int .i64 0] 3 (0, 0)) := by
      rw [Below.heap_setCell _ _ _ _ (by simp)]; exact set_row1 HQ2.out
    have r3 : ((W2.setCell ⟨w.heap.size + 1 + 1 + 1, 0, none⟩ (.int .i64 0)).setCell ⟨w.heap.size + 1 + 1 + 1 + 1, 0, none⟩ (.int .i64 4)).heap[w.heap.size + 1 + 1 + 1 + 1]? = some (.cells #[.int .i64 4] 29 (0, 0)) := by
      have h3 : (W2.setCell ⟨w.heap.size + 1 + 1 + 1, 0, none⟩ (.int .i64 0)).heap[w.heap.size + 1 + 1 + 1 + 1]? = some (.cells #[.int .i64 0] 29 (0, 0)) := by
        rw [Below.heap_setCell _ _ _ _ (by simp)]; exact HQ3.out
      exact set_row1 h3
    have hb3 : Below w.heap.size w ((W2.setCell ⟨w.heap.size + 1 + 1 + 1, 0, none⟩ (.int .i64 0)).setCell ⟨w.heap.size + 1 + 1 + 1 + 1, 0, none⟩ (.int .i64 4)) := set1B (set1B HBB.out (by omega) _) (by omega) _
    have hm3 : ((W2.setCell ⟨w.heap.size + 1 + 1 + 1, 0, none⟩ (.int .i64 0)).setCell ⟨w.heap.size + 1 + 1 + 1 + 1, 0, none⟩ (.int .i64 4)).heap[D']? = some (.deferred (some [])) := by
      rw [Below.heap_setCell _ _ _ _ (by simp; omega), Below.heap_setCell _ _ _ _ (by simp; omega)]; exact HM.out
    generalize (W2.setCell ⟨w.heap.size + 1 + 1 + 1, 0, none⟩ (.int .i64 0)).setCell ⟨w.heap.size + 1 + 1 + 1 + 1, 0, none⟩ (.int .i64 4) = W3 at r2 r3 hb3 hm3 ⊢
    refine leaves_marks (w.heap.size + 5) W3 [D'] W3 (fun E hE => ?_) (by simp) (Below.refl _ _) (fun W' hb' => ?_)
    · obtain rfl := List.mem_singleton.1 hE
      exact ⟨by omega, hm3⟩
    · have k5 := (row1_cell ((hb'.block _ (by omega)).trans r2)).1
      have k6 := (row1_cell ((hb'.block _ (by omega)).trans r3)).1
      exact ⟨.tuple #[.int .i64 0, .int .i64 4], by simp [results, Tryd.results30, go_sem, k5, k6], intErr_mk HFL.out (hb3.trans (hb'.mono (by omega)))⟩
  case stop =>
    rintro D' c pre W2 hD' hpre ⟨⟨rfl, init, x, rfl, hno, hyes, h5, h6⟩, hbel⟩ hmark
    have hfl : lastF (onB (bitN ws) on) j = (((64 * x.1 + bitLen (soughtR (ws[x.1]'x.2) x.1 0 j on) : Nat) : Int) - 1, 0) := by
      refine last_hit HV.out.lt (by omega) x.2 hyes fun z hz hlt => ?_
      have h1 : z ∈ init.map (·.1) := by
        refine down_before (n := ws.length) (x := x.1) ?_ hlt hz
        have := (show (init ++ [x]).map (·.1) <+: downL ws.length from hpre)
        rwa [List.map_append] at this
      obtain ⟨y, hy, rfl⟩ := List.mem_map.1 h1
      exact hno y hy
    have HFL := Lib.hid hfl; have HB := Lib.hid hbel; have H5 := Lib.hid h5; have H6 := Lib.hid h6; have HM := Lib.hid hmark
    clear hfl hbel h5 h6 hmark hno hyes hpre hstops
    gi_wp2
    refine leaves_marks (w.heap.size + 5) W2 [D'] W2 (fun E hE => ?_) (by simp) (Below.refl _ _) (fun W' hb' => ?_)
    · obtain rfl := List.mem_singleton.1 hE
      exact ⟨by omega, HM.out⟩
    · have k5 := (row1_cell ((hb'.block _ (by omega)).trans H5.out)).1
      have k6 := (row1_cell ((hb'.block _ (by omega)).trans H6.out)).1
      exact ⟨.tuple #[.int .i64 _, .int .i64 0], by simp [results, Tryd.results30, go_sem, k5, k6], intErr_mk HFL.out (HB.out.trans (hb'.mono (by omega)))⟩
/-- What is wrong with the input of Last. -/
theorem lastR_eq (n : Int) (ws : List Nat) (b : Int) (on : Bool) : lastR n ws b on = if runR n ws 0 b ≠ 0 then (0, runR n ws 0 b) else lastF (onB (bitN ws) on) b.toNat := rfl
set_option maxHeartbeats 2000000 in
set_option maxRecDepth 100000 in
theorem last_any (n : Int) (p : Option Addr) (cap : Nat) (ws : List Nat) (b : Int) (on : Bool) (w : World) (h : WordsAt w p ws) :
    Calls Tryd.prog 30 #[.agg #[.int .i64 n, .slice p ws.length cap], .int .i64 b, .bool on] w (IntErr (lastR n ws b on) w) := by
  have ck := fun W (hW : Below w.heap.size w W) => checkRun_any n p cap ws 0 b W (h.below hW)
  have e := lastR_eq n ws b on
  have hok := runR_ok (n := n) (a := 0) (b := b) h.lt
  have HW := Lib.hid h
  generalize runR n ws 0 b = c at ck e hok
  generalize lastR n ws b on = r at e
  have A5 := Lib.hid (fun o1 o2 o3 o4 o5 => alloc5 w o1 o2 o3 o4 o5)
  clear h
  by_cases hc : c = 0
  · subst hc
    obtain ⟨m, i0, k, rfl, h0, rfl, h1, h2, hv⟩ := hok rfl
    rw [if_neg (by simp), Int.toNat_natCast] at e
    rw [e]
    exact callsIn_wide.1 (last_in 3 m p cap ws k on w (Nat.le_refl _) HW.out hv h2 ck)
  · rw [if_pos hc] at e
    have E := Lib.hid e; have CK := Lib.hid ck
    obtain ⟨t1, t2⟩ := neq0 hc
    clear e hok ck hc
    go_enter Tryd.func30, Tryd.ntmps30
    go_wp2_with (go_at_call 56; refine (CK.out _ (A5.out _ _ _ _ _).1).mono ?_; rintro e w1 ⟨rfl, hb⟩; obtain ⟨x1, x2, x3, x4, x5, x6, x7⟩ := A5.out (.cells #[.int .i64 n, .slice p ws.length cap] 24) (.cells #[.int .i64 b] 3) (.cells #[.bool on] 4) (.cells #[.int .i64 0] 3) (.cells #[.int .i64 0] 29); have HFR := Lib.hid (Fr5.below ⟨x3, x4, x5, x6, x7⟩ hb); have HB1 := Lib.hid (x1.trans (hb.mono (by omega))); obtain ⟨k3, f3⟩ := row1_cell HFR.out.b3; obtain ⟨k4, f4⟩ := row1_cell HFR.out.b4; clear hb x1 x2 x3 x4 x5 x6 x7)
    refine bodyPost_ret (v := .tuple #[.int .i64 0, .int .i64 c]) (by simp [results, Tryd.results30, go_sem, k3, f3, k4, f4]) rfl ?_
    exact intErr_mk E.out (set1B (set1B HB1.out (by omega) _) (by omega) _)
end Go.Proofs.YtocgdibadcmnfaaDoor
