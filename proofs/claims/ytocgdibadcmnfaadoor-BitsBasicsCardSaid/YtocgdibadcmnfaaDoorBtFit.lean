/- bits: Fit. -/
import Derived.Test.YtocgdibadcmnfaaDoorBtRuns
namespace Go.Proofs.YtocgdibadcmnfaaDoor
open Go.RowKit Go.Shelf
attribute [local go_sem] Oper.semAt_some

theorem belowS_b {S : Nat → Prop} {D : Nat} {w1 : World} (hD : D ≤ w1.heap.size) (W : World) (l : Nat) (o o' : Obj) (hl : w1.heap.size ≤ l) (_ : W.heap[l]? = some o) (_ : o.isCells = false) (_ : o.isWalk = false) : BelowS S D W (W.putObj l o') := by
  have g := grownBy_putObj' W l o'
  refine ⟨g.os, g.tape, g.output, g.size, fun k hk _ => World.putObj_heap_other (by omega)⟩
theorem belowS_own {β : Type} {S : Nat → Prop} {D : Nat} {w1 : World} (hD : D ≤ w1.heap.size) : OwnFrom w1.heap.size (fun (_ : β) W => BelowS S D w1 W) := by
  intro s W W' row hs hg hr
  refine hs.trans ⟨hg.os, hg.tape, hg.output, hg.size, fun k hk _ => hg.block k (Nat.lt_of_lt_of_le (Nat.lt_of_lt_of_le hk hD) hs.size) (fun e => ?_)⟩
  have := (hr k e.symm).1; omega
theorem below_own {β : Type} {b B : Nat} {w0 : World} (hb : b ≤ B) (hz : b ≤ w0.heap.size) : OwnFrom B (fun (_ : β) W => Below b w0 W) := by
  intro s W W' row hs hg hr
  refine hs.trans ⟨hg.os, hg.tape, hg.output, hg.size, fun k hk => hg.block k (Nat.lt_of_lt_of_le (Nat.lt_of_lt_of_le hk hz) hs.size) (fun e => ?_)⟩
  have := (hr k e.symm).1; omega
theorem cells_own {β : Type} {B : Nat} (k : β → Nat) (c : β → Array Value) (t : TypeId) : OwnFrom B (fun s W => W.heap[k s]? = some (.cells (c s) t (0, 0))) := by
  intro s W W' row hs hg hr
  refine (hg.block _ (Array.getElem?_eq_some_iff.1 hs).1 (fun e => ?_)).trans hs
  obtain ⟨_, o, ho, hc⟩ := hr _ e.symm
  rw [hs] at ho; cases ho; cases hc
theorem alloc4 (w : World) (o1 o2 o3 o4 : Obj) : Below w.heap.size w ((((w.alloc o1).alloc o2).alloc o3).alloc o4) ∧ ((((w.alloc o1).alloc o2).alloc o3).alloc o4).heap.size = w.heap.size + 4 ∧
    ((((w.alloc o1).alloc o2).alloc o3).alloc o4).heap[w.heap.size]? = some o1 ∧ ((((w.alloc o1).alloc o2).alloc o3).alloc o4).heap[w.heap.size + 1]? = some o2 ∧
    ((((w.alloc o1).alloc o2).alloc o3).alloc o4).heap[w.heap.size + 1 + 1]? = some o3 ∧ ((((w.alloc o1).alloc o2).alloc o3).alloc o4).heap[w.heap.size + 1 + 1 + 1]? = some o4 := by
  have s1 : (w.alloc o1).heap.size = w.heap.size + 1 := by simp
  have s2 : ((w.alloc o1).alloc o2).heap.size = w.heap.size + 1 + 1 := by simp
  have s3 : (((w.alloc o1).alloc o2).alloc o3).heap.size = w.heap.size + 1 + 1 + 1 := by simp
  have n1 := heap_alloc_new w o1
  have n2 := heap_alloc_new (w.alloc o1) o2
  have n3 := heap_alloc_new ((w.alloc o1).alloc o2) o3
  have n4 := heap_alloc_new (((w.alloc o1).alloc o2).alloc o3) o4
  rw [s1] at n2; rw [s2] at n3; rw [s3] at n4
  refine ⟨((((Below.refl _ _).alloc (Nat.le_refl _) _).alloc (by omega) _).alloc (by omega) _).alloc (by omega) _, by simp, ?_, ?_, ?_, n4⟩
  · rw [Below.heap_alloc _ _ _ (by omega), Below.heap_alloc _ _ _ (by omega), Below.heap_alloc _ _ _ (by omega), n1]
  · rw [Below.heap_alloc _ _ _ (by omega), Below.heap_alloc _ _ _ (by omega), n2]
  · rw [Below.heap_alloc _ _ _ (by omega), n3]
theorem alloc3 (w : World) (o1 o2 o3 : Obj) : Below w.heap.size w (((w.alloc o1).alloc o2).alloc o3) ∧ (((w.alloc o1).alloc o2).alloc o3).heap.size = w.heap.size + 3 ∧
    (((w.alloc o1).alloc o2).alloc o3).heap[w.heap.size]? = some o1 ∧ (((w.alloc o1).alloc o2).alloc o3).heap[w.heap.size + 1]? = some o2 ∧
    (((w.alloc o1).alloc o2).alloc o3).heap[w.heap.size + 2]? = some o3 := by
  have s1 : (w.alloc o1).heap.size = w.heap.size + 1 := by simp
  have s2 : ((w.alloc o1).alloc o2).heap.size = w.heap.size + 1 + 1 := by simp
  have n1 := heap_alloc_new w o1
  have n2 := heap_alloc_new (w.alloc o1) o2
  have n3 := heap_alloc_new ((w.alloc o1).alloc o2) o3
  rw [s1] at n2; rw [s2] at n3
  refine ⟨(((Below.refl _ _).alloc (Nat.le_refl _) _).alloc (by omega) _).alloc (by omega) _, by simp, ?_, ?_, n3⟩
  · rw [Below.heap_alloc _ _ _ (by omega), Below.heap_alloc _ _ _ (by omega), n1]
  · rw [Below.heap_alloc _ _ _ (by omega), n2]
def markOf (D : Nat) : Deferred := { target := .collected D, args := #[] }
theorem leaves_marks {n : Nat} {P : Program} {fn : Func} {tmps : Array Value} {R : Ending → World → Prop} (B : Nat) (w0 : World) : ∀ (ds : List Nat) (W : World), (∀ D ∈ ds, B ≤ D ∧ W.heap[D]? = some (.deferred (some []))) → ds.Nodup → Below B w0 W →
    (∀ W', Below B w0 W' → LeavesInM Fence.wide n P fn tmps R [] .returning W') → LeavesInM Fence.wide n P fn tmps R (ds.map markOf) .returning W
  | [], W, _, _, hb, h => h W hb
  | D :: ds, W, hm, hn, hb, h => by
    have hD := hm D (by simp)
    have hlt := (Array.getElem?_eq_some_iff.1 hD.2).1
    refine ⟨by simp, .inl ⟨D, _, rfl, run_takeDeferred hD.2, leaves_marks B w0 ds _ ?_ (List.nodup_cons.1 hn).2 ?_ h⟩⟩
    · intro E hE
      have hne : E ≠ D := fun e => (List.nodup_cons.1 hn).1 (e ▸ hE)
      exact ⟨(hm E (List.mem_cons_of_mem _ hE)).1, (World.putObj_heap_other hne).trans (hm E (List.mem_cons_of_mem _ hE)).2⟩
    · exact hb.trans ((Below.refl B W).grown (grownBy_putObj' W D _) (by omega) (fun k e => by cases e; exact hD.1))
def fits (size : Int) (r : Nat × Nat) : Bool := decide (size ≤ (r.2 : Int) - (r.1 : Int))
/-- The first run with so many bits. -/
def fitL (size : Int) (rs : List (Nat × Nat)) : Int × Int :=
  match rs.find? (fits size) with
  | some r => ((r.1 : Int), 0)
  | none => (0, 4)
def fitR (n : Int) (ws : List Nat) (size a : Int) : Int × Int :=
  if checkR n ws ≠ 0 then (0, checkR n ws) else if size < 1 then (0, 2) else if a < 0 ∨ n < a then (0, 7) else fitL size (runsL (bitN ws) false n.toNat a.toNat)
/-- The blocks of a call with two results in cells of their own. -/
structure Fr4 (W : World) (B : Nat) (m : Int) (s : Value) (z : Int) : Prop where
  b0 : W.heap[B]? = some (.cells #[.int .i64 m, s] 24 (0, 0))
  b1 : W.heap[B + 1]? = some (.cells #[.int .i64 z] 3 (0, 0))
  b2 : W.heap[B + 1 + 1]? = some (.cells #[.int .i64 0] 3 (0, 0))
  b3 : W.heap[B + 1 + 1 + 1]? = some (.cells #[.int .i64 0] 29 (0, 0))
theorem Fr4.below {W W' : World} {B : Nat} {m : Int} {s : Value} {z : Int} (h : Fr4 W B m s z) (hb : Below W.heap.size W W') : Fr4 W' B m s z :=
  ⟨(hb.block _ (Array.getElem?_eq_some_iff.1 h.b0).1).trans h.b0, (hb.block _ (Array.getElem?_eq_some_iff.1 h.b1).1).trans h.b1, (hb.block _ (Array.getElem?_eq_some_iff.1 h.b2).1).trans h.b2, (hb.block _ (Array.getElem?_eq_some_iff.1 h.b3).1).trans h.b3⟩
theorem row1_cell {W : World} {B : Nat} {v : Value} {t : TypeId} (h : W.heap[B]? = some (.cells #[v] t (0, 0))) : W.cell? ⟨B, 0, none⟩ = some v ∧ W.frozen? ⟨B, 0, none⟩ = false := ⟨row_cell h rfl, row_free h⟩
theorem set1B {w W : World} {b B : Nat} (h : Below b w W) (hB : b ≤ B) (u : Value) : Below b w (W.setCell ⟨B, 0, none⟩ u) := Below.setCell (p := ⟨B, 0, none⟩) h hB u

/-- What holds between two rounds of Fit. -/
def FitI (m : Nat) (size : Int) (w2 : World) (pre : List (GRun m)) (W : World) : Prop := BelowS (fun _ => False) w2.heap.size w2 W ∧ ∀ y ∈ pre, fits size y.1 = false
/-- What holds when a round of Fit has returned. -/
def FitX (m : Nat) (size : Int) (w : World) (c : Code) (pre : List (GRun m)) (W : World) : Prop :=
  (c = .ret ∧ ∃ init x, pre = init ++ [x] ∧ (∀ y ∈ init, fits size y.1 = false) ∧ fits size x.1 = true ∧ W.heap[w.heap.size + 1 + 1]? = some (.cells #[.int .i64 (x.1.1 : Int)] 3 (0, 0)) ∧ W.heap[w.heap.size + 1 + 1 + 1]? = some (.cells #[.int .i64 0] 29 (0, 0))) ∧ Below w.heap.size w W
theorem fitX_own (m : Nat) (size : Int) (w : World) (B : Nat) (hB : w.heap.size ≤ B) (c : Code) : OwnFrom B (FitX m size w c) :=
  OwnFrom.and (fun s A B row hs hg hr => by
      obtain ⟨h1, init, x, h2, h3, h4, h5, h6⟩ := hs
      exact ⟨h1, init, x, h2, h3, h4, cells_own (fun _ : Unit => w.heap.size + 1 + 1) (fun _ => #[.int .i64 (x.1.1 : Int)]) 3 () A B row h5 hg hr, cells_own (fun _ : Unit => w.heap.size + 1 + 1 + 1) (fun _ => #[.int .i64 0]) 29 () A B row h6 hg hr⟩) (below_own hB (Nat.le_refl _))
theorem set_row1 {W : World} {B : Nat} {u v : Value} {t : TypeId} (h : W.heap[B]? = some (.cells #[u] t (0, 0))) : (W.setCell ⟨B, 0, none⟩ v).heap[B]? = some (.cells #[v] t (0, 0)) := by
  rw [heap_set v h]; rfl
set_option maxHeartbeats 2000000 in
set_option maxRecDepth 100000 in
theorem fit_in (q m : Nat) (p : Option Addr) (cap : Nat) (ws : List Nat) (size : Int) (a : Nat) (w : World) (h3 : 3 ≤ q) (h : WordsAt w p ws) (hv : Valid m ws) (h1 : 1 ≤ size) (ha : a ≤ m) (he : BEnv w)
    (hck : ∀ W, Below w.heap.size w W → Calls Tryd.prog 19 #[.agg #[.int .i64 (m : Int), .slice p ws.length cap]] W fun e w' => e = .returned (.int .i64 0) ∧ Below W.heap.size W w') :
    CallsIn Fence.wide q Tryd.prog 35 #[.agg #[.int .i64 (m : Int), .slice p ws.length cap], .int .i64 size, .int .i64 (a : Int)] w (IntErr (fitL size (runsL (bitN ws) false m a)) w) := by
  refine callsIn_of_wp_marks Tryd.func35 rfl trivial ?_ rfl
  simp only [Tryd.ntmps35, List.size_toArray, List.length_cons, List.length_nil, Nat.reduceAdd, Nat.reduceSub, Array.replicate_succ, Array.replicate_zero, List.push_toArray, List.append_toArray, List.nil_append, List.cons_append]
  have hwf : ∀ f, Fence.wide.fn f := fun _ => trivial
  have hwd : Fence.wide.depth.isSome = false := rfl
  have HCK := Lib.hid hck; have HW := Lib.hid h; have HE := Lib.hid he; have HV := Lib.hid hv
  clear hck h he hv
  have a4 := fun o1 o2 o3 o4 => alloc4 w o1 o2 o3 o4
  have A4 := Lib.hid a4
  clear a4
  have i1 : ¬ size < 1 := by omega
  have i2 : ¬ (a : Int) < 0 := by omega
  have i3 : ¬ (m : Int) < (a : Int) := by omega
  gi_wp2_with (first
    | (gi_at_call 19; refine (callsIn_wide.2 (HCK.out _ (A4.out _ _ _ _).1)).mono ?_; rintro e w1 ⟨rfl, hb⟩; obtain ⟨x1, x2, x3, x4, x5, x6⟩ := A4.out (.cells #[.int .i64 (m : Int), .slice p ws.length cap] 24) (.cells #[.int .i64 size] 3) (.cells #[.int .i64 0] 3) (.cells #[.int .i64 0] 29); have HFR := Lib.hid (Fr4.below ⟨x3, x4, x5, x6⟩ hb); have HB1 := Lib.hid (x1.trans (hb.mono (by omega))); have hz : w.heap.size + 4 ≤ w1.heap.size := (by have := hb.size; omega); have c0 := row_cell (i := 0) (v := .int .i64 (m : Int)) HFR.out.b0 rfl; have c1 := row_cell (i := 1) (v := .slice p ws.length cap) HFR.out.b0 rfl; have c2 := (row1_cell HFR.out.b1).1; clear hb x1 x2 x3 x4 x5 x6 HCK)
    | (gi_at_call 64; refine (callsIn_wide.2 (runs_any _ _ _ _ _ _ _)).mono ?_; rintro e w2 ⟨rfl, hw2⟩))
  obtain ⟨y1, y2, y3, y4, y5⟩ := alloc3 w1 (.cells #[.int .i64 (m : Int), .slice p ws.length cap] 24) (.cells #[.int .i64 (a : Int)] 3) (.cells #[.bool false] 4)
  rw [← hw2] at y1 y2 y3 y4 y5 ⊢
  clear hw2 c0 c1 c2
  have hbw : Below w.heap.size w w2 := HB1.out.trans (y1.mono HB1.out.size)
  have hreads : RReads (fun _ => False) w2.heap.size w1.heap.size m a false p cap ws w2 := ⟨HE.out.below hbw, Nat.le_refl _, y3, y4, y5, HW.out.below hbw⟩
  have hfree : RFree (fun _ => False) w2.heap.size w1.heap.size p ws := by
    refine ⟨by omega, id, id, id, ⟨by have := HE.out.size; omega, id⟩, fun h0 g off e => ⟨?_, id⟩⟩
    obtain ⟨g', off', e', hg', _⟩ := HW.out.at_ h0
    rw [e] at e'; cases e'; omega
  have hstops := runs_stops (q - 1) (fun _ => False) w2.heap.size w1.heap.size m a cap false p ws HV.out ha hfree w2 hreads
  have hm4 := HV.out.le
  have hfr2 := HFR.out.below y1
  have HF2 := Lib.hid hfr2; have HBW := Lib.hid hbw
  have y6 : w1.heap.size + 3 ≤ w2.heap.size := by omega
  clear hreads hfree hfr2 hbw y1 y2 y3 y4 y5 A4
  refine wpIn_rangeFunc_ownH rfl (by omega) (gf := 74) (lb := #[.pointer (some ⟨w1.heap.size, 0, none⟩), .pointer (some ⟨w1.heap.size + 1, 0, none⟩), .pointer (some ⟨w1.heap.size + 1 + 1, 0, none⟩)]) rfl trivial (enters_of Tryd.func74 (by kernel_rfl) rfl) hstops BelowS.trans (belowS_b (Nat.le_refl _)) (Below.refl _ _) (fun _ => rfl)
    (FitI m size w2) (FitX m size w) (OwnFrom.and (belowS_own (Nat.le_refl _)) (fun _ _ _ _ hs _ _ => hs)) (fun c => fitX_own m size w _ (by omega) c)
    ⟨BelowS.refl _ _ _, by simp⟩
    (fun x a' W2 => ∃ Bx : Nat, w2.heap.size ≤ Bx ∧ W2.heap[Bx]? = some (.cells #[.int .i64 (x.1.1 : Int), .int .i64 (x.1.2 : Int)] 53 (0, 0)) ∧ a' = { tmps := #[.agg #[.int .i64 (m : Int), .slice p ws.length cap], .int .i64 size, .int .i64 (a : Int), .pointer (some ⟨w.heap.size, 0, none⟩), .pointer (some ⟨w.heap.size + 1, 0, none⟩), undef,
          .pointer (some ⟨w.heap.size + 1 + 1, 0, none⟩), .pointer (some ⟨w.heap.size + 1 + 1 + 1, 0, none⟩), .int .i64 0, .pointer (some ⟨Bx, 0, none⟩), .agg #[.int .i64 (m : Int), .slice p ws.length cap], .int .i64 0, .int .i64 0, .bool false, undef, .int .i64 size, .bool (decide (size < 1)),
          .int .i64 (a : Int), .bool (decide ((a : Int) < 0)), .bool (decide ((a : Int) < 0)), .int .i64 (a : Int), .pointer (some ⟨w.heap.size, 0, none⟩), .int .i64 (m : Int), .bool false, .bool (decide ((a : Int) < 0)), .agg #[.int .i64 (m : Int), .slice p ws.length cap], .int .i64 (a : Int),
          .func (.func 74) #[] #[.pointer (some ⟨w1.heap.size, 0, none⟩), .pointer (some ⟨w1.heap.size + 1, 0, none⟩), .pointer (some ⟨w1.heap.size + 1 + 1, 0, none⟩)], .agg #[.int .i64 (x.1.1 : Int), .int .i64 (x.1.2 : Int)], undef, undef, undef, undef, undef, undef, undef, undef, undef], defers := [] })
    (fun x a' s A B row ⟨Bx, h1, h2, h3⟩ hg hr => ⟨Bx, h1, cells_own (fun _ : Unit => Bx) (fun _ => #[.int .i64 (x.1.1 : Int), .int .i64 (x.1.2 : Int)]) 53 s A B row h2 hg hr, h3⟩) ?assign ?body ?done ?stop
  case assign =>
    intro ly pre x W2 K2 hi hK2
    have hsz := hi.1.size
    have HI := Lib.hid hi; clear hi
    simp only [runV]
    gi_wp2
    exact hK2 _ _ ((KeepsOthers.alloc _ _).from _) (BelowS.of ((Below.refl _ W2).alloc (by omega) _)) ⟨HI.out.1.trans (BelowS.of ((Below.refl _ W2).alloc (by omega) _)), HI.out.2⟩ ⟨W2.heap.size, by omega, heap_alloc_new _ _, rfl⟩
  case body =>
    rintro ly pre x a' W2 hly ⟨r, hr⟩ ⟨hbx, hno⟩ ⟨Bx, hBx, hbox, rfl⟩ hlt
    clear hr
    have hwf2 : ∀ f, (Fence.wide.inRound ly).fn f := fun _ => trivial
    have hwd2 : (Fence.wide.inRound ly).depth.isSome = false := rfl
    obtain ⟨⟨xs, xe⟩, hx1, hx2⟩ := x
    simp only at hx1 hx2 hbox ⊢
    have k0 := row_cell (i := 0) (v := .int .i64 (xs : Int)) hbox rfl
    have k1 := row_cell (i := 1) (v := .int .i64 (xe : Int)) hbox rfl
    have hq1 := (hbx.block (w.heap.size + 1) (by omega) id).trans HF2.out.b1
    have hq2 := (hbx.block (w.heap.size + 1 + 1) (by omega) id).trans HF2.out.b2
    have hq3 := (hbx.block (w.heap.size + 1 + 1 + 1) (by omega) id).trans HF2.out.b3
    have k2 := (row1_cell hq1).1
    obtain ⟨k3, f3⟩ := row1_cell hq2
    obtain ⟨k4, f4⟩ := row1_cell hq3
    have x4 : (xe : Int) ≤ 4096 := by omega
    have HBX := Lib.hid hbx; have HNO := Lib.hid hno; have HQ2 := Lib.hid hq2; have HQ3 := Lib.hid hq3
    clear hbx hno hq1 hq2 hq3 hbox hstops
    by_cases hfit : size ≤ (xe : Int) - (xs : Int)
    · gi_wp2
      refine ⟨((KeepsOthers.setCell _ _ _).trans (KeepsOthers.setCell _ _ _)).from _, ⟨rfl, pre, ⟨(xs, xe), hx1, hx2⟩, rfl, HNO.out, by simp [fits]; omega, ?_, ?_⟩, ?_⟩
      · rw [Below.heap_setCell _ _ _ _ (by simp)]; exact set_row1 HQ2.out
      · have h3 : (W2.setCell ⟨w.heap.size + 1 + 1, 0, none⟩ (.int .i64 (xs : Int))).heap[w.heap.size + 1 + 1 + 1]? = some (.cells #[.int .i64 0] 29 (0, 0)) := by
          rw [Below.heap_setCell _ _ _ _ (by simp)]; exact HQ3.out
        exact set_row1 h3
      · have hbb : Below w.heap.size w W2 := HBW.out.trans ⟨HBX.out.os, HBX.out.tape, HBX.out.output, HBX.out.size, fun k hk => HBX.out.block k (by omega) id⟩
        exact set1B (set1B hbb (by omega) _) (by omega) _
    · gi_wp2
      refine ⟨KeepsFrom.refl _ _, BelowS.refl _ _ _, HBX.out, ?_⟩
      intro y hy
      rcases List.mem_append.1 hy with hy | hy
      · exact HNO.out y hy
      · obtain rfl := List.mem_singleton.1 hy
        simp [fits]; omega
  case done =>
    rintro D' ys W2 hD' hys ⟨hbx, hno⟩ hmark
    have hfl : fitL size (runsL (bitN ws) false m a) = (0, 4) := by
      rw [← (show ys.map (·.1) = runsL (bitN ws) false m a from hys)]
      unfold fitL
      rw [List.find?_eq_none.2]
      intro y hy
      obtain ⟨z, hz, rfl⟩ := List.mem_map.1 hy
      rw [hno z hz]; simp
    have hq2 := (hbx.block (w.heap.size + 1 + 1) (by omega) id).trans HF2.out.b2
    have hq3 := (hbx.block (w.heap.size + 1 + 1 + 1) (by omega) id).trans HF2.out.b3
    obtain ⟨k3, f3⟩ := row1_cell hq2
    obtain ⟨k4, f4⟩ := row1_cell hq3
    have hbb : Below w.heap.size w W2 := HBW.out.trans ⟨hbx.os, hbx.tape, hbx.output, hbx.size, fun k hk => hbx.block k (by omega) id⟩
    have HBB := Lib.hid hbb; have HQ2 := Lib.hid hq2; have HQ3 := Lib.hid hq3; have HM := Lib.hid hmark; have HFL := Lib.hid hfl
    clear hys hbx hno hmark hq2 hq3 hbb hfl hstops
    gi_wp2
    have r2 : ((W2.setCell ⟨w.heap.size + 1 + 1, 0, none⟩ (.int .i64 0)).setCell ⟨w.heap.size + 1 + 1 + 1, 0, none⟩ (.int .i64 4)).heap[w.heap.size + 1 + 1]? = some (.cells #[.int .i64 0] 3 (0, 0)) := by
      rw [Below.heap_setCell _ _ _ _ (by simp)]; exact set_row1 HQ2.out
    have r3 : ((W2.setCell ⟨w.heap.size + 1 + 1, 0, none⟩ (.int .i64 0)).setCell ⟨w.heap.size + 1 + 1 + 1, 0, none⟩ (.int .i64 4)).heap[w.heap.size + 1 + 1 + 1]? = some (.cells #[.int .i64 4] 29 (0, 0)) := by
      have h3 : (W2.setCell ⟨w.heap.size + 1 + 1, 0, none⟩ (.int .i64 0)).heap[w.heap.size + 1 + 1 + 1]? = some (.cells #[.int .i64 0] 29 (0, 0)) := by
        rw [Below.heap_setCell _ _ _ _ (by simp)]; exact HQ3.out
      exact set_row1 h3
    have hb3 : Below w.heap.size w ((W2.setCell ⟨w.heap.size + 1 + 1, 0, none⟩ (.int .i64 0)).setCell ⟨w.heap.size + 1 + 1 + 1, 0, none⟩ (.int .i64 4)) := set1B (set1B HBB.out (by omega) _) (by omega) _
    have hm3 : ((W2.setCell ⟨w.heap.size + 1 + 1, 0, none⟩ (.int .i64 0)).setCell ⟨w.heap.size + 1 + 1 + 1, 0, none⟩ (.int .i64 4)).heap[D']? = some (.deferred (some [])) := by
      rw [Below.heap_setCell _ _ _ _ (by simp; omega), Below.heap_setCell _ _ _ _ (by simp; omega)]; exact HM.out
    generalize (W2.setCell ⟨w.heap.size + 1 + 1, 0, none⟩ (.int .i64 0)).setCell ⟨w.heap.size + 1 + 1 + 1, 0, none⟩ (.int .i64 4) = W3 at r2 r3 hb3 hm3 ⊢
    refine leaves_marks (w.heap.size + 4) W3 [D'] W3 (fun E hE => ?_) (by simp) (Below.refl _ _) (fun W' hb' => ?_)
    · obtain rfl := List.mem_singleton.1 hE
      exact ⟨by omega, hm3⟩
    · have k5 := (row1_cell ((hb'.block _ (by omega)).trans r2)).1
      have k6 := (row1_cell ((hb'.block _ (by omega)).trans r3)).1
      exact ⟨.tuple #[.int .i64 0, .int .i64 4], by simp [results, Tryd.results35, go_sem, k5, k6], intErr_mk HFL.out (hb3.trans (hb'.mono (by omega)))⟩
  case stop =>
    rintro D' c pre W2 hD' hpre ⟨⟨rfl, init, x, rfl, hno, hyes, h5, h6⟩, hbel⟩ hmark
    have hfl : fitL size (runsL (bitN ws) false m a) = ((x.1.1 : Int), 0) := by
      obtain ⟨tl, htl⟩ := (show (init ++ [x]).map (·.1) <+: runsL (bitN ws) false m a from hpre)
      rw [← htl]
      unfold fitL
      rw [List.map_append, List.append_assoc, List.find?_append, List.find?_eq_none.2 (fun y hy => ?_)]
      · simp [hyes]
      · obtain ⟨z, hz, rfl⟩ := List.mem_map.1 hy
        rw [hno z hz]; simp
    have HFL := Lib.hid hfl; have HB := Lib.hid hbel; have H5 := Lib.hid h5; have H6 := Lib.hid h6; have HM := Lib.hid hmark
    clear hfl hbel h5 h6 hmark hno hyes hpre hstops
    gi_wp2
    refine leaves_marks (w.heap.size + 4) W2 [D'] W2 (fun E hE => ?_) (by simp) (Below.refl _ _) (fun W' hb' => ?_)
    · obtain rfl := List.mem_singleton.1 hE
      exact ⟨by omega, HM.out⟩
    · have k5 := (row1_cell ((hb'.block _ (by omega)).trans H5.out)).1
      have k6 := (row1_cell ((hb'.block _ (by omega)).trans H6.out)).1
      exact ⟨.tuple #[.int .i64 (x.1.1 : Int), .int .i64 0], by simp [results, Tryd.results35, go_sem, k5, k6], intErr_mk HFL.out (HB.out.trans (hb'.mono (by omega)))⟩
end Go.Proofs.YtocgdibadcmnfaaDoor
