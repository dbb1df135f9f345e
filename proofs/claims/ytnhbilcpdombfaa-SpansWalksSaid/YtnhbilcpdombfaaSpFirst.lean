/- spans: First. -/
import Derived.Test.YtnhbilcpdombfaaSpPlaces
import Derived.Test.YtnhbilcpdombfaaSpCount
namespace Go.Proofs.Ytnhbilcpdombfaa
open Go.RowKit Go.Shelf
attribute [local go_sem] Oper.semAt_some

theorem places_stops (n : Nat) (S : Nat → Prop) (D B pages k cap : Nat) (p : Option Addr) (s : List (Nat × Nat)) (hs : IsSet 1024 s) (hl : s.length ≤ 512) (hp : pages ≤ 1024) (hk : k ≤ 10) (hf : PFree S D B p s)
    (w : World) (hR : PReads S D B pages (2 ^ k) p cap s w) :
    SeqStopsK Fence.wide n Try.prog 70 #[.pointer (some ⟨B, 0, none⟩), .pointer (some ⟨B + 1 + 1, 0, none⟩), .pointer (some ⟨B + 1, 0, none⟩)] (placeV (2 ^ k)) (BelowS S D) (fun ys => ys = s.filter (fitsP pages (2 ^ k))) (fun ys => ys <+: s.filter (fitsP pages (2 ^ k))) (s.filter (fitsP pages (2 ^ k))).length w := by
  intro ly J Jx W hW hJ hJx hY h0
  refine (places1_in n S D B pages k cap ly p s hs hl hp hk hf J Jx W ⟨hJ, hJx, hY⟩ (hR.later hf (BelowS.of (hW.mono hR.dl))) h0).mono ?_
  rintro e W' ⟨hv, ⟨ys, rfl, hj⟩ | ⟨pre, hpre, hj⟩⟩
  · exact ⟨hv, .inl ⟨_, rfl, hj⟩⟩
  · exact ⟨hv, .inr ⟨pre, hpre, hj⟩⟩
theorem alloc2 (w : World) (o1 o2 : Obj) : Below w.heap.size w ((w.alloc o1).alloc o2) ∧ ((w.alloc o1).alloc o2).heap.size = w.heap.size + 2 ∧
    ((w.alloc o1).alloc o2).heap[w.heap.size]? = some o1 ∧ ((w.alloc o1).alloc o2).heap[w.heap.size + 1]? = some o2 := by
  have s1 : (w.alloc o1).heap.size = w.heap.size + 1 := by simp
  have n1 := heap_alloc_new w o1
  have n2 := heap_alloc_new (w.alloc o1) o2
  rw [s1] at n2
  refine ⟨((Below.refl _ _).alloc (Nat.le_refl _) _).alloc (by omega) _, by simp, ?_, n2⟩
  rw [Below.heap_alloc _ _ _ (by omega), n1]
/-- The first place. -/
def firstL (pages align : Nat) (s : List (Nat × Nat)) : Int × Int :=
  match s.find? (fitsP pages align) with
  | some x => ((atP align x : Int), 0)
  | none => (0, 4)
def firstR (s : List (Int × Int)) (pages align : Int) : Int × Int := if placeE s pages align ≠ 0 then (0, placeE s pages align) else firstL pages.toNat align.toNat (down s)
def FirstI (w2 : World) (pre : List (Nat × Nat)) (W : World) : Prop := BelowS (fun _ => False) w2.heap.size w2 W ∧ pre = []
def FirstX (align : Nat) (w : World) (c : Code) (pre : List (Nat × Nat)) (W : World) : Prop :=
  (c = .ret ∧ ∃ x, pre = [x] ∧ W.heap[w.heap.size]? = some (.cells #[.int .i64 (atP align x : Int)] 3 (0, 0)) ∧ W.heap[w.heap.size + 1]? = some (.cells #[.int .i64 0] 25 (0, 0))) ∧ Below w.heap.size w W
theorem firstX_own (align : Nat) (w : World) (B : Nat) (hB : w.heap.size ≤ B) (c : Code) : OwnFrom B (FirstX align w c) :=
  OwnFrom.and (fun s A B row hs hg hr => by
      obtain ⟨h1, x, h2, h5, h6⟩ := hs
      exact ⟨h1, x, h2, cells_own (fun _ : Unit => w.heap.size) (fun _ => #[.int .i64 (atP align x : Int)]) 3 () A B row h5 hg hr, cells_own (fun _ : Unit => w.heap.size + 1) (fun _ => #[.int .i64 0]) 25 () A B row h6 hg hr⟩) (below_own hB (Nat.le_refl _))
set_option maxHeartbeats 4000000 in
set_option maxRecDepth 100000 in
theorem first_in (q : Nat) (p : Option Addr) (cap : Nat) (s : List (Nat × Nat)) (pages k : Nat) (w : World) (h3 : 3 ≤ q) (h : SpsAt w p (up s)) (hs : IsSet 1024 s) (hl : s.length ≤ 512) (hp : pages ≤ 1024) (hk : k ≤ 10)
    (hck : ∀ W, Below w.heap.size w W → Calls Try.prog 62 #[.slice p s.length cap, .int .i64 (pages : Int), .int .i64 ((2 ^ k : Nat) : Int)] W fun e w' => e = .returned (.int .i64 0) ∧ Below W.heap.size W w') :
    CallsIn Fence.wide q Try.prog 32 #[.slice p s.length cap, .int .i64 (pages : Int), .int .i64 ((2 ^ k : Nat) : Int)] w (IntErr (firstL pages (2 ^ k) s) w) := by
  refine callsIn_of_wp_marks Try.func32 rfl trivial ?_ rfl
  simp only [Try.ntmps32, List.size_toArray, List.length_cons, List.length_nil, Nat.reduceAdd, Nat.reduceSub, Array.replicate_succ, Array.replicate_zero, List.push_toArray, List.append_toArray, List.nil_append, List.cons_append]
  have hwf : ∀ f, Fence.wide.fn f := fun _ => trivial
  have hwd : Fence.wide.depth.isSome = false := rfl
  obtain ⟨al, hal⟩ : ∃ al, al = 2 ^ k := ⟨_, rfl⟩
  have HCK := Lib.hid hck; have HW := Lib.hid h; have HS := Lib.hid hs
  have A2 := Lib.hid (fun o1 o2 => alloc2 w o1 o2)
  rw [← hal] at HCK ⊢
  have HAL := Lib.hid hal
  clear hck h hs hal
  gi_wp2_with (first
    | (gi_at_call 62; refine (callsIn_wide.2 (HCK.out _ (A2.out _ _).1)).mono ?_; rintro e w1 ⟨rfl, hb⟩; obtain ⟨x1, x2, x3, x4⟩ := A2.out (.cells #[.int .i64 0] 3) (.cells #[.int .i64 0] 25); have HF0 := Lib.hid ((hb.block _ (by omega)).trans x3); have HF1 := Lib.hid ((hb.block _ (by omega)).trans x4); have HB1 := Lib.hid (x1.trans (hb.mono (by omega))); have hz : w.heap.size + 2 ≤ w1.heap.size := (by have := hb.size; omega); clear hb x1 x2 x3 x4 HCK)
    | (gi_at_call 63; refine (callsIn_wide.2 (places_any _ _ _ _ _ _)).mono ?_; rintro e w2 ⟨rfl, hw2⟩))
  obtain ⟨y1, y2, y3, y4, y5⟩ := alloc3 w1 (.cells #[.slice p s.length cap] 22) (.cells #[.int .i64 (pages : Int)] 3) (.cells #[.int .i64 (al : Int)] 3)
  rw [← hw2] at y1 y2 y3 y4 y5 ⊢
  clear hw2
  have hbw : Below w.heap.size w w2 := HB1.out.trans (y1.mono HB1.out.size)
  have hreads : PReads (fun _ => False) w2.heap.size w1.heap.size pages al p cap s w2 := ⟨Nat.le_refl _, y3, y4, y5, HW.out.below hbw⟩
  have hfree : PFree (fun _ => False) w2.heap.size w1.heap.size p s := by
    refine ⟨by omega, id, id, id, fun h0 g off e => ⟨?_, id⟩⟩
    obtain ⟨g', off', e', hg', _⟩ := HW.out.at_ (by rw [up_len]; exact h0)
    rw [e] at e'; cases e'; omega
  rw [HAL.out] at hreads
  have hstops := places_stops (q - 1) (fun _ => False) w2.heap.size w1.heap.size pages k cap p s HS.out hl hp hk hfree w2 hreads
  rw [← HAL.out] at hstops
  have HG0 := Lib.hid ((y1.block _ (by omega)).trans HF0.out); have HG1 := Lib.hid ((y1.block _ (by omega)).trans HF1.out); have HBW := Lib.hid hbw
  have y6 : w1.heap.size + 3 ≤ w2.heap.size := by omega
  clear hreads hfree hbw y1 y2 y3 y4 y5 A2 HF0 HF1
  refine wpIn_rangeFunc_ownH rfl (by omega) (gf := 70) (lb := #[.pointer (some ⟨w1.heap.size, 0, none⟩), .pointer (some ⟨w1.heap.size + 1 + 1, 0, none⟩), .pointer (some ⟨w1.heap.size + 1, 0, none⟩)]) rfl trivial (enters_of Try.func70 (by kernel_rfl) rfl) hstops BelowS.trans (belowS_b (Nat.le_refl _)) (Below.refl _ _) (fun _ => rfl)
    (FirstI w2) (FirstX al w) (OwnFrom.and (belowS_own (Nat.le_refl _)) (fun _ _ _ _ hs _ _ => hs)) (fun c => firstX_own al w _ (by omega) c)
    ⟨BelowS.refl _ _ _, rfl⟩
    (fun x a' _ => a' = { tmps := #[.slice p s.length cap, .int .i64 (pages : Int), .int .i64 (al : Int), undef, undef, undef,
          .pointer (some ⟨w.heap.size, 0, none⟩), .pointer (some ⟨w.heap.size + 1, 0, none⟩), .int .i64 0, .int .i64 (atP al x : Int),
          .slice p s.length cap, .int .i64 (pages : Int), .int .i64 (al : Int), .int .i64 0, .int .i64 0, .bool false, undef, .slice p s.length cap, .int .i64 (pages : Int), .int .i64 (al : Int),
          .func (.func 70) #[] #[.pointer (some ⟨w1.heap.size, 0, none⟩), .pointer (some ⟨w1.heap.size + 1 + 1, 0, none⟩), .pointer (some ⟨w1.heap.size + 1, 0, none⟩)],
          .int .i64 (atP al x : Int), .agg #[.int .i64 (x.1 : Int), .int .i64 (x.2 : Int)], undef], defers := [] })
    (fun x a' _ A B row hs _ _ => hs) ?assign ?body ?done ?stop
  case assign =>
    intro ly pre x W2 K2 hi hK2
    have HI := Lib.hid hi; clear hi
    simp only [placeV]
    gi_wp2
    exact hK2 _ _ (KeepsFrom.refl _ _) (BelowS.refl _ _ _) HI.out rfl
  case body =>
    rintro ly pre x a' W2 hly ⟨r, hr⟩ ⟨hbx, rfl⟩ rfl hlt
    clear hr
    have hwf2 : ∀ f, (Fence.wide.inRound ly).fn f := fun _ => trivial
    have hwd2 : (Fence.wide.inRound ly).depth.isSome = false := rfl
    have hq0 := (hbx.block (w.heap.size) (by omega) id).trans HG0.out
    have hq1 := (hbx.block (w.heap.size + 1) (by omega) id).trans HG1.out
    obtain ⟨k3, f3⟩ := row1_cell hq0
    obtain ⟨k4, f4⟩ := row1_cell hq1
    have hbb : Below w.heap.size w W2 := HBW.out.trans ⟨hbx.os, hbx.tape, hbx.output, hbx.size, fun k hk => hbx.block k (by omega) id⟩
    have HBB := Lib.hid hbb; have HQ0 := Lib.hid hq0; have HQ1 := Lib.hid hq1
    clear hbx hq0 hq1 hbb hstops
    gi_wp2
    refine ⟨((KeepsOthers.setCell _ _ _).trans (KeepsOthers.setCell _ _ _)).from _, ⟨rfl, x, rfl, ?_, ?_⟩, ?_⟩
    · rw [Below.heap_setCell _ _ _ _ (by simp)]; exact set_row1 HQ0.out
    · have h3 : (W2.setCell ⟨w.heap.size, 0, none⟩ (.int .i64 (atP al x : Int))).heap[w.heap.size + 1]? = some (.cells #[.int .i64 0] 25 (0, 0)) := by
        rw [Below.heap_setCell _ _ _ _ (by simp)]; exact HQ1.out
      exact set_row1 h3
    · exact set1B (set1B HBB.out (Nat.le_refl _) _) (by omega) _
  case done =>
    rintro D' ys W2 hD' hys ⟨hbx, rfl⟩ hmark
    have hfl : firstL pages al s = (0, 4) := by
      unfold firstL
      rw [List.find?_eq_none.2]
      intro y hy hc
      have : y ∈ s.filter (fitsP pages al) := List.mem_filter.2 ⟨hy, hc⟩
      rw [← (show ([] : List (Nat × Nat)) = s.filter (fitsP pages al) from hys)] at this
      cases this
    have hq0 := (hbx.block (w.heap.size) (by omega) id).trans HG0.out
    have hq1 := (hbx.block (w.heap.size + 1) (by omega) id).trans HG1.out
    obtain ⟨k3, f3⟩ := row1_cell hq0
    obtain ⟨k4, f4⟩ := row1_cell hq1
    have hbb : Below w.heap.size w W2 := HBW.out.trans ⟨hbx.os, hbx.tape, hbx.output, hbx.size, fun k hk => hbx.block k (by omega) id⟩
    have HBB := Lib.hid hbb; have HQ2 := Lib.hid hq0; have HQ3 := Lib.hid hq1; have HM := Lib.hid hmark; have HFL := Lib.hid hfl
    clear hys hbx hmark hq0 hq1 hbb hfl hstops
    gi_wp2
    have r2 : ((W2.setCell ⟨w.heap.size, 0, none⟩ (.int .i64 0)).setCell ⟨w.heap.size + 1, 0, none⟩ (.int .i64 4)).heap[w.heap.size]? = some (.cells #[.int .i64 0] 3 (0, 0)) := by
      rw [Below.heap_setCell _ _ _ _ (by simp)]; exact set_row1 HQ2.out
    have r3 : ((W2.setCell ⟨w.heap.size, 0, none⟩ (.int .i64 0)).setCell ⟨w.heap.size + 1, 0, none⟩ (.int .i64 4)).heap[w.heap.size + 1]? = some (.cells #[.int .i64 4] 25 (0, 0)) := by
      have h3 : (W2.setCell ⟨w.heap.size, 0, none⟩ (.int .i64 0)).heap[w.heap.size + 1]? = some (.cells #[.int .i64 0] 25 (0, 0)) := by
        rw [Below.heap_setCell _ _ _ _ (by simp)]; exact HQ3.out
      exact set_row1 h3
    have hb3 : Below w.heap.size w ((W2.setCell ⟨w.heap.size, 0, none⟩ (.int .i64 0)).setCell ⟨w.heap.size + 1, 0, none⟩ (.int .i64 4)) := set1B (set1B HBB.out (Nat.le_refl _) _) (by omega) _
    have hm3 : ((W2.setCell ⟨w.heap.size, 0, none⟩ (.int .i64 0)).setCell ⟨w.heap.size + 1, 0, none⟩ (.int .i64 4)).heap[D']? = some (.deferred (some [])) := by
      rw [Below.heap_setCell _ _ _ _ (by simp; omega), Below.heap_setCell _ _ _ _ (by simp; omega)]; exact HM.out
    generalize (W2.setCell ⟨w.heap.size, 0, none⟩ (.int .i64 0)).setCell ⟨w.heap.size + 1, 0, none⟩ (.int .i64 4) = W3 at r2 r3 hb3 hm3 ⊢
    refine leaves_marks (w.heap.size + 2) W3 [D'] W3 (fun E hE => ?_) (by simp) (Below.refl _ _) (fun W' hb' => ?_)
    · obtain rfl := List.mem_singleton.1 hE
      exact ⟨by omega, hm3⟩
    · have k5 := (row1_cell ((hb'.block _ (by omega)).trans r2)).1
      have k6 := (row1_cell ((hb'.block _ (by omega)).trans r3)).1
      exact ⟨.tuple #[.int .i64 0, .int .i64 4], by simp [results, Try.results32, go_sem, k5, k6], intErr_mk HFL.out (hb3.trans (hb'.mono (by omega)))⟩
  case stop =>
    rintro D' c pre W2 hD' hpre ⟨⟨rfl, x, rfl, h5, h6⟩, hbel⟩ hmark
    have hfl : firstL pages al s = ((atP al x : Int), 0) := by
      obtain ⟨tl, htl⟩ := (show [x] <+: s.filter (fitsP pages al) from hpre)
      have : s.find? (fitsP pages al) = some x := by
        rw [← List.head?_filter, ← htl]; rfl
      unfold firstL; rw [this]
    have HFL := Lib.hid hfl; have HB := Lib.hid hbel; have H5 := Lib.hid h5; have H6 := Lib.hid h6; have HM := Lib.hid hmark
    clear hfl hbel h5 h6 hmark hpre hstops
    gi_wp2
    refine leaves_marks (w.heap.size + 2) W2 [D'] W2 (fun E hE => ?_) (by simp) (Below.refl _ _) (fun W' hb' => ?_)
    · obtain rfl := List.mem_singleton.1 hE
      exact ⟨by omega, HM.out⟩
    · have k5 := (row1_cell ((hb'.block _ (by omega)).trans H5.out)).1
      have k6 := (row1_cell ((hb'.block _ (by omega)).trans H6.out)).1
      exact ⟨.tuple #[.int .i64 (atP al x : Int), .int .i64 0], by simp [results, Try.results32, go_sem, k5, k6], intErr_mk HFL.out (HB.out.trans (hb'.mono (by omega)))⟩
set_option maxHeartbeats 2000000 in
set_option maxRecDepth 100000 in
theorem first_any (l : List (Int × Int)) (p : Option Addr) (cap : Nat) (pages align : Int) (w : World) (h : SpsAt w p l) :
    Calls Try.prog 32 #[.slice p l.length cap, .int .i64 pages, .int .i64 align] w (IntErr (firstR l pages align) w) := by
  have ck := fun W (hW : Below w.heap.size w W) => checkPlace_any l p cap pages align W (h.below hW)
  have e : firstR l pages align = if placeE l pages align ≠ 0 then (0, placeE l pages align) else firstL pages.toNat align.toNat (down l) := rfl
  have hok := placeE_ok (s := l) (pages := pages) (align := align)
  have HW := Lib.hid h
  unfold ErrPost at ck
  generalize placeE l pages align = c at ck e hok
  generalize firstR l pages align = r at e
  have A2 := Lib.hid (fun o1 o2 => alloc2 w o1 o2)
  clear h
  by_cases hc : c = 0
  · subst hc
    obtain ⟨h1, h2, h3, k, hk, rfl⟩ := hok rfl
    obtain ⟨hv, hset, hl⟩ := check_set h1
    obtain ⟨m, rfl⟩ : ∃ m : Nat, pages = (m : Int) := ⟨pages.toNat, by omega⟩
    rw [if_neg (by simp), Int.toNat_natCast, Int.toNat_natCast] at e
    rw [e]
    have := first_in 3 p cap (down l) m k w (Nat.le_refl _) (by rw [up_down hv]; exact HW.out) hset (by rw [down_len]; exact hl) (by omega) hk (by rw [down_len]; exact ck)
    rw [down_len] at this
    exact callsIn_wide.1 this
  · rw [if_pos hc] at e
    have E := Lib.hid e; have CK := Lib.hid ck
    obtain ⟨t1, t2⟩ := neq0 hc
    clear e hok ck hc
    go_enter Try.func32, Try.ntmps32
    go_wp2_with (go_at_call 62; refine (CK.out _ (A2.out _ _).1).mono ?_; rintro e w1 ⟨rfl, hb⟩; obtain ⟨x1, x2, x3, x4⟩ := A2.out (.cells #[.int .i64 0] 3) (.cells #[.int .i64 0] 25); have HF0 := Lib.hid ((hb.block _ (by omega)).trans x3); have HF1 := Lib.hid ((hb.block _ (by omega)).trans x4); have HB1 := Lib.hid (x1.trans (hb.mono (by omega))); obtain ⟨k3, f3⟩ := row1_cell HF0.out; obtain ⟨k4, f4⟩ := row1_cell HF1.out; clear hb x1 x2 x3 x4)
    refine bodyPost_ret (v := .tuple #[.int .i64 0, .int .i64 c]) (by simp [results, Try.results32, go_sem, k3, f3, k4, f4]) rfl ?_
    exact intErr_mk E.out (set1B (set1B HB1.out (by omega) _) (by omega) _)
end Go.Proofs.Ytnhbilcpdombfaa
