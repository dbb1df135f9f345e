/- links: the law LinksPlays. -/
import Derived.Test.YtnbniflljbbpbaaLjMade
import Derived.Test.YtnbniflljbbpbaaLsSave

namespace Go.Proofs.Ytnbniflljbbpbaa
section
open Go.RowKit Go.Shelf
attribute [local go_sem] Oper.semAt_some

theorem checkList_nil (W : World) (l : Int) : Calls Try.prog 41 #[.pointer none, .int .i64 l] W (OkEq (.int .i64 1) W) := by
  have CM := Lib.hid (isMade_nil W)
  go_enter Try.func41, Try.ntmps41
  go_wp2_with fail
  refine CM.out.mono ?_
  rintro e w1 ⟨rfl, rfl⟩
  go_wp2_with fail
  go_ret
  exact ⟨rfl, rfl⟩
theorem checkSlot_nil (W : World) (x : Int) : Calls Try.prog 44 #[.pointer none, .int .i64 x] W (OkEq (.int .i64 1) W) := by
  have CM := Lib.hid (isMade_nil W)
  go_enter Try.func44, Try.ntmps44
  go_wp2_with fail
  refine CM.out.mono ?_
  rintro e w1 ⟨rfl, rfl⟩
  go_wp2_with fail
  go_ret
  exact ⟨rfl, rfl⟩
theorem mpush_nil (W : World) (l v : Int) (f : Bool) : Calls Try.prog 12 #[.pointer none, .int .i64 l, .int .i64 v, .bool f] W (OkEq (.tuple #[.int .i64 0, .int .i64 1]) W) := by
  have CM := Lib.hid (checkList_nil W l)
  go_enter Try.func12, Try.ntmps12
  go_wp2_with fail
  refine CM.out.mono ?_
  rintro e w1 ⟨rfl, rfl⟩
  go_wp2_with fail
  go_ret2
  exact ⟨rfl, rfl⟩
theorem mget_nil (W : World) (x : Int) : Calls Try.prog 13 #[.pointer none, .int .i64 x] W (OkEq (.tuple #[.int .i64 0, .int .i64 1]) W) := by
  have CM := Lib.hid (checkSlot_nil W x)
  go_enter Try.func13, Try.ntmps13
  go_wp2_with fail
  refine CM.out.mono ?_
  rintro e w1 ⟨rfl, rfl⟩
  go_wp2_with fail
  go_ret2
  exact ⟨rfl, rfl⟩
theorem mput_nil (W : World) (x v : Int) : Calls Try.prog 15 #[.pointer none, .int .i64 x, .int .i64 v] W (OkEq (.int .i64 1) W) := by
  have CM := Lib.hid (checkSlot_nil W x)
  go_enter Try.func15, Try.ntmps15
  go_wp2_with fail
  refine CM.out.mono ?_
  rintro e w1 ⟨rfl, rfl⟩
  go_wp2_with fail
  go_ret
  exact ⟨rfl, rfl⟩
theorem mlen_nil (W : World) (l : Int) : Calls Try.prog 14 #[.pointer none, .int .i64 l] W (OkEq (.tuple #[.int .i64 0, .int .i64 1]) W) := by
  have CM := Lib.hid (checkList_nil W l)
  go_enter Try.func14, Try.ntmps14
  go_wp2_with fail
  refine CM.out.mono ?_
  rintro e w1 ⟨rfl, rfl⟩
  go_wp2_with fail
  go_ret2
  exact ⟨rfl, rfl⟩
def nilSt : Value := .agg #[.slice none 0 0, .slice none 0 0, .slice none 0 0, .slice none 0 0, .slice none 0 0, .slice none 0 0]
set_option maxHeartbeats 1000000 in
set_option maxRecDepth 100000 in
theorem msave_nil (W : World) : Calls Try.prog 16 #[.pointer none] W (fun e w' => e = .returned nilSt ∧ Below W.heap.size W w') := by
  have CM := Lib.hid (fun V => isMade_nil V)
  have hz := Lib.hid (heap_alloc_new W (.cells #[.slice none 0 0, .slice none 0 0, .slice none 0 0, .slice none 0 0, .slice none 0 0, .slice none 0 0] 39))
  have HB := Lib.hid ((Below.refl W.heap.size W).alloc (Nat.le_refl _) (.cells #[.slice none 0 0, .slice none 0 0, .slice none 0 0, .slice none 0 0, .slice none 0 0, .slice none 0 0] 39))
  go_enter Try.func16, Try.ntmps16
  go_wp2_with fail
  refine (CM.out _).mono ?_
  rintro e w1 ⟨rfl, rfl⟩
  go_wp2_with fail
  try simp only [Exit.inBlock, Exit.then]
  refine bodyPost_ret (results_cell_row rfl _ _ W.heap.size _ _ _ _ rfl hz.out Try.underlying39 rfl info_state) rfl ?_
  exact ⟨rfl, HB.out⟩
/-! ### The iterator of a nil pool yields nothing -/
structure ANil (D K : Nat) (l : Int) (back : Bool) (W : World) : Prop where
  dl : D ≤ W.heap.size
  b0 : K + 1 + 1 < D
  pbox : W.heap[K]? = some (.cells #[.pointer none] 24 (0, 0))
  lbox : W.heap[K + 1]? = some (.cells #[.int .i64 l] 3 (0, 0))
  bbox : W.heap[K + 1 + 1]? = some (.cells #[.bool back] 4 (0, 0))
theorem ANil.later {D K : Nat} {l : Int} {back : Bool} {W W' : World} (h : ANil D K l back W) (hb : Below D W W') : ANil D K l back W' := by
  have h0 := h.b0
  exact ⟨Nat.le_trans h.dl hb.size, h0, (hb.block _ (by omega)).trans h.pbox, (hb.block _ (by omega)).trans h.lbox, (hb.block _ (by omega)).trans h.bbox⟩
theorem All_nil (l : Int) (back : Bool) (w : World) : Calls Try.prog 27 #[.pointer none, .int .i64 l, .bool back] w fun e w' =>
    e = .returned (.func (.func 58) #[] #[.pointer (some ⟨w.heap.size, 0, none⟩), .pointer (some ⟨w.heap.size + 1, 0, none⟩), .pointer (some ⟨w.heap.size + 1 + 1, 0, none⟩)]) ∧
    w' = ((w.alloc (.cells #[.pointer none] 24)).alloc (.cells #[.int .i64 l] 3)).alloc (.cells #[.bool back] 4) := by
  go_enter Try.func27, Try.ntmps27
  go_wp2
  go_ret
  exact ⟨rfl, rfl⟩
set_option maxRecDepth 100000 in
set_option maxHeartbeats 2000000 in
theorem all1_nil (q D K ly : Nat) (l : Int) (back : Bool) (J Jx : List Nat → World → Prop) (W : World) (hR : ANil D K l back W) (h0 : J [] W) :
    CallsIn Fence.wide q Try.prog 58 #[.func (.yield ly) #[] #[], .pointer (some ⟨K, 0, none⟩), .pointer (some ⟨K + 1, 0, none⟩), .pointer (some ⟨K + 1 + 1, 0, none⟩)] W (IterPost [] J Jx) := by
  refine callsIn_of_wp Try.func58 rfl trivial ?_ rfl
  simp only [Try.ntmps58, List.size_toArray, List.length_cons, List.length_nil, Nat.reduceAdd, Nat.reduceSub, Array.replicate_succ, Array.replicate_zero, List.push_toArray, List.append_toArray, List.nil_append, List.cons_append]
  have hwf : ∀ f, Fence.wide.fn f := fun _ => trivial
  have hwd : Fence.wide.depth.isSome = false := rfl
  have b1 := cell_of_row1 hR.pbox
  have b2 := cell_of_row1 hR.lbox
  have b3 := cell_of_row1 hR.bbox
  have HJ := Lib.hid h0
  have CK := Lib.hid (checkList_nil W l)
  clear hR h0
  gi_wp2_with (gi_at_call 41; refine (callsIn_wide.2 CK.out).mono ?_; rintro e w1 ⟨rfl, rfl⟩)
  refine bodyPost_ret (results_none rfl _ _ _) rfl ?_
  exact iter_done HJ.out
theorem all_stops_nil (q : Nat) (S : Nat → Prop) (D K : Nat) (v : Nat → Int) (l : Int) (back : Bool) (w : World) (hR : ANil D K l back w) :
    SeqStopsK Fence.wide q Try.prog 58 #[.pointer (some ⟨K, 0, none⟩), .pointer (some ⟨K + 1, 0, none⟩), .pointer (some ⟨K + 1 + 1, 0, none⟩)] (slotV v) (BelowS S D) (fun ys => ys = []) (fun ys => ys <+: []) 0 w := by
  intro ly J Jx W hW hJ hJx hY h0
  refine (all1_nil q D K ly l back J Jx W (hR.later (hW.mono hR.dl)) h0).mono ?_
  rintro e W' ⟨hv, ⟨ys, hys, hj⟩ | ⟨pre, hpre, hj⟩⟩
  · exact ⟨hv, .inl ⟨ys, hys, hj⟩⟩
  · exact ⟨hv, .inr ⟨pre, hpre, hj⟩⟩
set_option maxHeartbeats 4000000 in
set_option maxRecDepth 100000 in
theorem walked_nil_in (q : Nat) (vv : Nat → Int) (l : Int) (back : Bool) (w : World) (h3 : 3 ≤ q) :
    CallsIn Fence.wide q Try.prog 17 #[.pointer none, .int .i64 l, .bool back] w (WalkPost [] w) := by
  refine callsIn_of_wp_marks Try.func17 rfl trivial ?_ rfl
  simp only [Try.ntmps17, List.size_toArray, List.length_cons, List.length_nil, Nat.reduceAdd, Nat.reduceSub, Array.replicate_succ, Array.replicate_zero, List.push_toArray, List.append_toArray, List.nil_append, List.cons_append]
  have hwf : ∀ f, Fence.wide.fn f := fun _ => trivial
  have hwd : Fence.wide.depth.isSome = false := rfl
  obtain ⟨i0, hi, hz0, hz1, hz2⟩ := info_partsB info_int
  have HI := Lib.hid hi; have HZ0 := Lib.hid hz0; have HZ1 := Lib.hid hz1; have HZ2 := Lib.hid hz2
  clear hi hz0 hz1 hz2
  have y1 : Below w.heap.size w (w.alloc (.cells #[.slice none 0 0] 29)) := (Below.refl _ _).alloc (Nat.le_refl _) _
  have y7 : Boxed (w.alloc (.cells #[.slice none 0 0] 29)) w.heap.size 29 (.slice none 0 0) := Boxed.new _ _ _
  have gs1 : (w.alloc (.cells #[.slice none 0 0] 29)).heap.size = w.heap.size + 1 := by simp
  gi_wp2_with (gi_at_call 27; refine (callsIn_wide.2 (All_nil _ _ _)).mono ?_; rintro e w3 ⟨rfl, hw3⟩)
  obtain ⟨w2, hw2⟩ : ∃ w2 : World, w2 = w.alloc (.cells #[.slice none 0 0] 29) := ⟨_, rfl⟩
  rw [← hw2] at hw3 y1 y7 gs1 ⊢
  clear hw2
  obtain ⟨z1, z2, z3, z4, z5⟩ := alloc3 w2 (.cells #[.pointer none] 24) (.cells #[.int .i64 l] 3) (.cells #[.bool back] 4)
  rw [← hw3] at z1 z2 z3 z4 z5 ⊢
  clear hw3
  obtain ⟨b7, hb7⟩ : ∃ b7 : Nat, b7 = w.heap.size := ⟨_, rfl⟩
  have e2 : w2.heap.size = b7 + 1 := by omega
  have hbw : Below w.heap.size w w3 := y1.trans (z1.mono (by omega))
  have hreads : ANil w3.heap.size w2.heap.size l back w3 := ⟨Nat.le_refl _, by omega, z3, z4, z5⟩
  have hstops := all_stops_nil (q - 1) (fun k => k = b7) w3.heap.size w2.heap.size vv l back w3 hreads
  rw [e2] at hstops
  rw [← hb7] at y7 ⊢
  have h7 : Boxed w3 b7 29 (.slice none 0 0) := (z1.block b7 (by omega)).trans y7
  have HBW := Lib.hid hbw
  have z6 : b7 + 1 + 3 ≤ w3.heap.size := by omega
  have z7 : b7 < w3.heap.size := by omega
  have z8 : w.heap.size ≤ b7 := by omega
  have hs1 : w2.heap.size + 1 = b7 + 1 + 1 := by omega
  have hs2 : w2.heap.size + 1 + 1 = b7 + 1 + 1 + 1 := by omega
  clear hreads hbw z1 z2 z3 z4 z5 y7 e2 gs1 y1 hs1 hs2 hb7
  refine wpIn_rangeFunc_ownH rfl (by omega) (gf := 58) (lb := #[.pointer (some ⟨b7 + 1, 0, none⟩), .pointer (some ⟨b7 + 1 + 1, 0, none⟩), .pointer (some ⟨b7 + 1 + 1 + 1, 0, none⟩)]) rfl trivial (enters_of Try.func58 (by kernel_rfl) rfl) hstops BelowS.trans (belowS_b (Nat.le_refl _)) (Below.refl _ _) (fun _ => rfl)
    (WkI 0 w3 b7) (fun _ _ _ => False) (wkI_own 0 w3 b7) (fun _ _ _ _ _ hs _ _ => hs)
    ⟨BelowS.refl _ _ _, .slice none 0 0, h7, World.ownsRow_nil _ _ _ _, trivial⟩
    (fun x a' W2 => a' = { tmps := #[.pointer none, .int .i64 l, .bool back, undef, undef, undef, .slice none 0 0, .pointer (some ⟨b7, 0, none⟩), .int .i64 (x : Int), .pointer none, .int .i64 l, .bool back,
          .func (.func 58) #[] #[.pointer (some ⟨b7 + 1, 0, none⟩), .pointer (some ⟨b7 + 1 + 1, 0, none⟩), .pointer (some ⟨b7 + 1 + 1 + 1, 0, none⟩)], .int .i64 (x : Int), .int .i64 (vv x), undef, undef, undef, undef, undef, undef, undef, undef], defers := [] })
    (fun x a' s A B row h hg hr => h) ?assign ?body ?done ?stop
  case assign =>
    intro ly pre x W2 K2 hi hK2
    have HI2 := Lib.hid hi; clear hi
    simp only [slotV]
    gi_wp2
    exact hK2 _ _ (KeepsFrom.refl _ _) (BelowS.refl _ _ _) HI2.out rfl
  case body =>
    rintro ly pre x a' W2 hly ⟨r, hr⟩ ⟨hbx, v, hk7, hown, _⟩ rfl hlt
    exact absurd hlt (Nat.not_lt_zero _)
  case done =>
    rintro D' ys W2 hD' hys ⟨hbx, v, hk7, hown, _⟩ hmark
    have hys' : ys = [] := hys
    rw [hys'] at hown
    have j7 := hk7.cell
    have hbb : Below w.heap.size w W2 := HBW.out.trans ⟨hbx.os, hbx.tape, hbx.output, hbx.size, fun k hk => hbx.block k (by omega) (by omega)⟩
    have HBB := Lib.hid hbb; have HM := Lib.hid hmark; have HOWN := Lib.hid hown
    clear hys hys' hbx hk7 hmark hbb hstops hown
    gi_wp2
    refine ⟨by simp, .inl ⟨D', _, rfl, run_takeDeferred HM.out, ?_⟩⟩
    refine ⟨v, by simp [results, Try.results17, go_sem], v, rfl, ?_, ?_⟩
    · exact HBB.out.trans ((Below.refl _ _).grown (grownBy_putObj' W2 D' _) (by have := HBB.out.size; omega) (fun k e => by cases e; omega))
    · exact ownsRow_base (ownsRow_putObj HOWN.out _ HM.out rfl) (by omega)
  case stop =>
    rintro D' c pre W2 _ _ h _
    exact h.elim
theorem walked_nil (l : Int) (back : Bool) (w : World) : Calls Try.prog 17 #[.pointer none, .int .i64 l, .bool back] w (WalkPost [] w) :=
  callsIn_wide.1 (walked_nil_in 3 (fun _ => 0) l back w (Nat.le_refl _))
end
open Go.RowKit

set_option maxHeartbeats 4000000 in
set_option maxRecDepth 100000 in
theorem plays_far {W : World} {p : Option Addr} {len cap : Nat} (n m : Int) (hs : (100 < n ∧ n ≤ 2000) ∨ 100 < (len : Int)) :
    Calls Try.prog 3 #[.int .i64 n, .int .i64 m, .slice p len cap] W (TruePost W) := by
  have CA := Lib.hid (awake_any W)
  by_cases h1 : 100 < n
  · by_cases h2 : n ≤ 2000
    · clear hs
      go_enter Try.func3, Try.ntmps3
      go_wp2_with fail
      refine CA.out.mono ?_
      rintro e w1 ⟨rfl, hb⟩
      have HB := Lib.hid hb
      clear hb
      go_wp2_with fail
      go_ret
      exact ⟨rfl, HB.out⟩
    · have h3 : 100 < (len : Int) := by omega
      clear hs
      go_enter Try.func3, Try.ntmps3
      go_wp2_with fail
      refine CA.out.mono ?_
      rintro e w1 ⟨rfl, hb⟩
      have HB := Lib.hid hb
      clear hb
      go_wp2_with fail
      go_ret
      exact ⟨rfl, HB.out⟩
  · have h3 : 100 < (len : Int) := by omega
    clear hs
    go_enter Try.func3, Try.ntmps3
    go_wp2_with fail
    refine CA.out.mono ?_
    rintro e w1 ⟨rfl, hb⟩
    have HB := Lib.hid hb
    clear hb
    go_wp2_with fail
    go_ret
    exact ⟨rfl, HB.out⟩
set_option maxHeartbeats 8000000 in
set_option maxRecDepth 100000 in
theorem plays_ok {W : World} {n m len cap : Nat} {p : Option Addr} (nn : 1 ≤ n ∧ n ≤ 100) (mm : 1 ≤ m ∧ m ≤ 64) (hx : CallsAt W p len) (hl : len ≤ 100) :
    Calls Try.prog 3 #[.int .i64 (n : Int), .int .i64 (m : Int), .slice p len cap] W (TruePost W) := by
  have CN := Lib.hid (New_ok (W := W) (n := n) (m := m) (by omega) mm)
  have CR := Lib.hid (fun V => rnew_ok (W := V) (n := n) (m := m) (by omega) mm)
  have CA := Lib.hid awake_any
  have HX := Lib.hid hx; have HL := Lib.hid hl; have HNN := Lib.hid nn; have HMM := Lib.hid mm
  have i1 : ¬ (100 : Int) < n := by omega
  have i2 : ¬ (100 : Int) < len := by omega
  clear nn mm hx hl
  go_enter Try.func3, Try.ntmps3
  go_wp2_with fail
  refine CN.out.mono ?_
  rintro e w1 ⟨B, D, rfl, h1⟩
  have H1 := Lib.hid h1
  clear h1 CN
  go_wp2_with fail
  refine (CR.out _).mono ?_
  rintro e w2 ⟨g, gv, cg, cv, rfl, hg, hv, l1, l2, hne, hb⟩
  have H2 := Lib.hid (jst_new (cg := cg) (cv := cv) H1.out hg hv l1 l2 hne hb)
  clear hg hv l1 l2 hne hb CR
  go_wp2_with fail
  generalize w2.alloc (.cells #[.int .i64 (n : Int), .slice (some ⟨g, 0, none⟩) m cg, .slice (some ⟨gv, 0, none⟩) n cv] 31) = w3 at H2 ⊢
  generalize w2.heap.size = C0 at H2 ⊢
  clear H1
  go_loopg [13] len (fun n1 i wr => ∃ k : Nat, k + n1 = len ∧ i = .int .i64 (k : Int) ∧ ∃ v of, JSt W ⟨B, n, m, D, C0, g, gv, cg, cv, C0 + 1⟩ wr v of)
  case atStart => exact ⟨0, by omega, by go_num, _, _, H2.out⟩
  case round =>
    obtain ⟨k, hkl, rfl, v, of, hJ⟩ := hrel
    obtain ⟨wx, rfl⟩ : ∃ wx : World, wx = wr := ⟨_, rfl⟩
    by_cases hlt : k < len
    · obtain ⟨n', rfl⟩ : ∃ n', gk = n' + 1 := ⟨gk - 1, by omega⟩
      obtain ⟨q, off, rfl, hq, w, a, b, c, f, x0, x1, x2, x3, x4⟩ := (HX.out.below hJ.old) k hlt
      have CD : Calls Try.prog 18 #[.pointer (some ⟨B, 0, none⟩), .pointer (some ⟨C0, 0, none⟩), callV w a b c f] wx (DoPost W ⟨B, n, m, D, C0, g, gv, cg, cv, C0 + 1⟩ wx) := do_any hJ w a b c f
      unfold callV at CD
      have CD := Lib.hid CD
      have i3 : (k : Int) < len := by omega
      have i4 : (0 : Int) ≤ k := by omega
      have w1 : IntKind.i64.wrap ((k : Int) + 1) = (k : Int) + 1 := IntWalk.i64_in _ (by have := HL.out; omega)
      clear hJ hq
      go_wp2_with fail
      refine CD.out.mono ?_
      rintro e w5 ⟨rfl, ⟨v', of', hJ'⟩, _⟩
      have HJ := Lib.hid hJ'
      clear hJ' CD x0 x1 x2 x3 x4
      go_wp2_with fail
      go_roundg n'
      case measure => omega
      case rel => exact ⟨k + 1, by omega, by go_num, _, _, HJ.out⟩
    · obtain rfl : k = len := by omega
      have i3 : ¬ (k : Int) < k := by omega
      have CS := Lib.hid (save_any hJ.pool)
      have HJ := Lib.hid hJ
      have CT := Lib.hid (fun V (hb : Below wx.heap.size wx V) => (hJ.below hb).lr)
      clear hJ
      go_wp2_with fail
      refine CS.out.mono ?_
      rintro e w5 ⟨D1, F1, rfl, hR1, hF1⟩
      have HS1 := Lib.hid hR1.rows.st
      have HO1 := Lib.hid hR1.old
      have HF1 := Lib.hid hF1
      have hls := HJ.out.below hR1.old
      obtain ⟨F0, hF0⟩ := hls.lr.rep
      have CQ := Lib.hid (rsave_any hls.ls hF0 (fun i hi => by
        have := List.Nodup.length_le_of_subset (hF0.nodup i hi) (l₂ := List.range n) (fun x hx => List.mem_range.2 (hF0.lt i hi x hx))
        have := HNN.out
        simp at *
        omega) (by have := HNN.out; show n ≤ 2000; omega) HMM.out.2)
      clear hR1 hF1 hls hF0 CS CT
      unfold stV slc at HS1 ⊢
      go_wp2_with fail
      refine CQ.out.mono ?_
      rintro e w6 ⟨s, F2, rfl, hs2, hF2, hb2⟩
      have HB2 := Lib.hid hb2
      have CE := Lib.hid (same_any (HS1.out.below hb2) (hs2.turn hF2 HF1.out (fun _ _ => rfl)) (by have := HNN.out; show n ≤ 100000; omega) (by have := HMM.out; show m ≤ 100000; omega))
      obtain ⟨a0, a1, a2, a3, a4, a5, rfl, _⟩ := hs2.ex
      clear hs2 hF2 hb2 CQ
      go_wp2_with fail
      refine CE.out.mono ?_
      rintro e w7 ⟨rfl, hb3⟩
      have HB3 := Lib.hid hb3
      clear hb3 CE
      go_wp2_with fail
      refine (CA.out _).mono ?_
      rintro e w8 ⟨rfl, hb4⟩
      have HB4 := Lib.hid hb4
      clear hb4
      go_wp2_with fail
      go_ret
      exact ⟨rfl, HJ.out.old.trans (((HO1.out.trans (HB2.out.mono HO1.out.size)).trans (HB3.out.mono (Nat.le_trans HO1.out.size HB2.out.size))).trans (HB4.out.mono (Nat.le_trans HO1.out.size (Nat.le_trans HB2.out.size HB3.out.size))) |>.mono HJ.out.old.size)⟩
set_option maxHeartbeats 8000000 in
set_option maxRecDepth 100000 in
theorem plays_bad {W : World} {n m : Int} {len cap : Nat} {p : Option Addr} (hc : countsR n m = false) (hn : ¬ 100 < n ∨ ¬ n ≤ 2000) (hl : len ≤ 100) :
    Calls Try.prog 3 #[.int .i64 n, .int .i64 m, .slice p len cap] W (TruePost W) := by
  have CN := Lib.hid (New_bad (W := W) hc)
  have CR := Lib.hid (fun V => rnew_bad (W := V) hc)
  have CA := Lib.hid awake_any
  have C1 := Lib.hid mpush_nil; have C2 := Lib.hid mget_nil; have C3 := Lib.hid mlen_nil; have C4 := Lib.hid mput_nil; have C5 := Lib.hid msave_nil; have C6 := Lib.hid walked_nil
  have i2 : ¬ (100 : Int) < len := by omega
  clear hc hl
  rcases hn with i1 | i1
  all_goals
    by_cases i0 : 100 < n
    all_goals try (exfalso; omega)
    go_enter Try.func3, Try.ntmps3
    go_wp2_with fail
    refine CN.out.mono ?_
    rintro e w1 ⟨rfl, rfl⟩
    clear CN
    go_wp2_with fail
    refine (CR.out _).mono ?_
    rintro e w2 ⟨rfl, hb2⟩
    have HB2 := Lib.hid (hb2.trans ((Below.refl w2.heap.size w2).alloc (Nat.le_refl _) (.cells #[.int .i64 0, .slice none 0 0, .slice none 0 0] 31) |>.mono hb2.size))
    clear hb2 CR
    go_wp2_with fail
    refine (C1.out _ _ _ _).mono ?_
    rintro e w3 ⟨rfl, rfl⟩
    go_wp2_with fail
    refine (C2.out _ _).mono ?_
    rintro e w3 ⟨rfl, rfl⟩
    go_wp2_with fail
    refine (C3.out _ _).mono ?_
    rintro e w3 ⟨rfl, rfl⟩
    go_wp2_with fail
    refine (C4.out _ _ _).mono ?_
    rintro e w3 ⟨rfl, rfl⟩
    go_wp2_with fail
    refine (C5.out _).mono ?_
    rintro e w4 ⟨rfl, hb4⟩
    have HB4 := Lib.hid hb4
    clear hb4
    unfold nilSt
    have hfd : ∀ V : World, (Instr.field 39 (.agg #[.slice none 0 0, .slice none 0 0, .slice none 0 0, .slice none 0 0, .slice none 0 0, .slice none 0 0]) 1).run Try.prog V = .ok (.slice none 0 0) V := fun _ => by kernel_rfl
    go_wp2_with fail
    refine (C6.out _ _ _).mono ?_
    rintro e w5 ⟨u, rfl, hb5, hu⟩
    have HB5 := Lib.hid hb5
    obtain ⟨pu, cu, rfl⟩ := own_slice hu
    clear hb5 hu hfd
    rw [show ([] : List Nat).length = 0 from rfl]
    go_wp2_with fail
    refine (CA.out _).mono ?_
    rintro e w6 ⟨rfl, hb6⟩
    have HB6 := Lib.hid hb6
    clear hb6
    go_wp2_with fail
    go_ret
    exact ⟨rfl, HB2.out.trans (((HB4.out.trans (HB5.out.mono HB4.out.size)).trans (HB6.out.mono (Nat.le_trans HB4.out.size HB5.out.size))).mono HB2.out.size)⟩
theorem plays_walk {W : World} {len cap : Nat} {p : Option Addr} (hx : CallsAt W p len) (n m : Int) : Calls Try.prog 3 #[.int .i64 n, .int .i64 m, .slice p len cap] W (TruePost W) := by
  by_cases hf : (100 < n ∧ n ≤ 2000) ∨ 100 < (len : Int)
  · exact plays_far n m hf
  · cases hc : countsR n m with
    | false => exact plays_bad hc (by omega) (by omega)
    | true =>
      have h := of_decide_eq_true hc
      obtain ⟨a, rfl⟩ : ∃ a : Nat, n = (a : Int) := ⟨n.toNat, by omega⟩
      obtain ⟨b, rfl⟩ : ∃ b : Nat, m = (b : Int) := ⟨m.toNat, by omega⟩
      exact plays_ok (by omega) (by omega) hx (by omega)
end Go.Proofs.Ytnbniflljbbpbaa
