/- spans: Has, Meets. -/
import Derived.Test.YtnhbilcpdombfaaSpBits
import Derived.Test.YtnhbilcpdombfaaSpNot
import Derived.Deep.QuietTactic
import Derived.BigQuiet
namespace Go.Proofs.Ytnhbilcpdombfaa
open Go.RowKit

/-- A span in its box. -/
structure XAt (W : World) (B : Nat) (x y : Int) : Prop where
  c0 : W.cell? ⟨B, 0, none⟩ = some (.int .i64 x)
  c1 : W.cell? ⟨B, 1, none⟩ = some (.int .i64 y)
theorem XAt.below {W W' : World} {B : Nat} {x y : Int} (h : XAt W B x y) (hb : Below W.heap.size W W') : XAt W' B x y :=
  ⟨(hb.cell (World.block_lt_of_cell? W _ h.c0)).trans h.c0, (hb.cell (World.block_lt_of_cell? W _ h.c1)).trans h.c1⟩
theorem region_below {P : Program} {C : World → Prop} {id : Nat} {Q : Exit → Act → World → Prop} {a : Act} {w : World} {l : List Oper} (hm : P.follows .mixedOrders = true) (hB : Region.lexB .any l.toArray = true) (hC : C w.drew)
    (h : wpQuiet P l.toArray C (fun a' => ∀ w', C w' → Q .normal a' w') l a) : (Code.region id l.toArray true).wp P Q a w :=
  wp_region_quiet (C := C) hm hB hC (by simpa using h)
set_option maxHeartbeats 4000000 in
set_option maxRecDepth 100000 in
theorem has1_any (y0 y1 x0 x1 : Int) (B : Nat) (w : World) (hx : XAt w B x0 x1) (h1 : -4096 ≤ y0 + y1 ∧ y0 + y1 ≤ 4096) (h2 : -4096 ≤ x0 + x1 ∧ x0 + x1 ≤ 4096) :
    Calls Try.prog 59 #[.agg #[.int .i64 y0, .int .i64 y1], .pointer (some ⟨B, 0, none⟩)] w (BoolPost (decide (y0 ≤ x0) && decide (x0 + x1 ≤ y0 + y1)) w) := by
  have CE1 := Lib.hid (fun W => end_any x0 x1 W (by omega)); have CE2 := Lib.hid (fun W => end_any y0 y1 W (by omega))
  have hbe : Below w.heap.size w (w.alloc (.cells #[.int .i64 y0, .int .i64 y1] 31)) := (Below.refl _ _).alloc (Nat.le_refl _) _
  have HX := Lib.hid (hx.below hbe); have HBE := Lib.hid hbe
  have HY := Lib.hid (show XAt (w.alloc (.cells #[.int .i64 y0, .int .i64 y1] 31)) w.heap.size y0 y1 from ⟨row_cell (heap_alloc_new w _) rfl, row_cell (heap_alloc_new w _) rfl⟩)
  obtain ⟨r, hr⟩ : ∃ r, r = (decide (y0 ≤ x0) && decide (x0 + x1 ≤ y0 + y1)) := ⟨_, rfl⟩
  rw [← hr]
  have HR := Lib.hid hr
  clear hbe hx h1 h2 hr
  go_enter Try.func59, Try.ntmps59
  go_wp2_with fail
  have HBW := HBE
  generalize w.alloc (.cells #[.int .i64 y0, .int .i64 y1] 31) = wv at HX HY HBE HBW ⊢
  obtain ⟨Bn, hBn⟩ : ∃ Bn, Bn = w.heap.size := ⟨_, rfl⟩
  rw [← hBn] at HY ⊢
  clear hBn
  by_cases hc : y0 ≤ x0
  · have d1 : decide (y0 ≤ x0) = true := decide_eq_true hc
    refine region_below (C := fun w' => Below wv.heap.size wv w') (by kernel_rfl) (by kernel_rfl) (drewOne _ _) ?_
    refine BigFrame.wpQuiet_want rfl (fun K hK => ⟨.pointer (some ⟨Bn, 0, none⟩), fun w' hw' => ?_, hK _ ?_⟩)
    · unfold Oper.quietAt
      simp [go_sem, Oper.quietUpon]
    clear hK K; go_simp
    refine BigFrame.wpQuiet_want rfl (fun K hK => ⟨.int .i64 y0, fun w' hw' => ?_, hK _ ?_⟩)
    · have f0 := (HY.out.below hw').c0
      unfold Oper.quietAt
      simp [go_sem, Oper.quietUpon, f0]
    clear hK K; go_simp
    refine BigFrame.wpQuiet_want rfl (fun K hK => ⟨.pointer (some ⟨B, 0, none⟩), fun w' hw' => ?_, hK _ ?_⟩)
    · unfold Oper.quietAt
      simp [go_sem, Oper.quietUpon]
    clear hK K; go_simp
    refine BigFrame.wpQuiet_want rfl (fun K hK => ⟨.int .i64 x0, fun w' hw' => ?_, hK _ ?_⟩)
    · have f0 := (HX.out.below hw').c0
      unfold Oper.quietAt
      simp [go_sem, Oper.quietUpon, f0]
    clear hK K; go_simp
    refine BigFrame.wpQuiet_want rfl (fun K hK => ⟨.bool true, fun w' hw' => ?_, hK _ ?_⟩)
    · unfold Oper.quietAt
      simp [go_sem, Oper.quietUpon, hc]
    clear hK K; go_simp
    refine BigFrame.wpQuiet_want rfl (fun K hK => BigFrame.quiet_move _ rfl (hK _ ?_)); clear hK K; go_simp
    refine BigFrame.wpQuiet_want rfl (fun K hK => ⟨.agg #[.int .i64 x0, .int .i64 x1], fun w' hw' => ?_, hK _ ?_⟩)
    · have f0 := (HX.out.below hw').c0
      have f1 := (HX.out.below hw').c1
      unfold Oper.quietAt
      simp [go_sem, Oper.quietUpon, f0, f1]
    clear hK K; go_simp
    refine BigFrame.wpQuiet_want rfl (fun K hK => ⟨.int .i64 (x0 + x1), fun w' hw' => ?_, hK _ ?_⟩)
    · unfold Oper.quietAt
      simp [go_sem, Oper.quietUpon]
      refine (CE1.out _).mono ?_
      rintro e' wz ⟨rfl, hb⟩
      exact ⟨rfl, hw'.trans (hb.mono hw'.size)⟩
    clear hK K; go_simp
    refine BigFrame.wpQuiet_want rfl (fun K hK => ⟨.agg #[.int .i64 y0, .int .i64 y1], fun w' hw' => ?_, hK _ ?_⟩)
    · have f0 := (HY.out.below hw').c0
      have f1 := (HY.out.below hw').c1
      unfold Oper.quietAt
      simp [go_sem, Oper.quietUpon, f0, f1]
    clear hK K; go_simp
    refine BigFrame.wpQuiet_want rfl (fun K hK => ⟨.int .i64 (y0 + y1), fun w' hw' => ?_, hK _ ?_⟩)
    · unfold Oper.quietAt
      simp [go_sem, Oper.quietUpon]
      refine (CE2.out _).mono ?_
      rintro e' wz ⟨rfl, hb⟩
      exact ⟨rfl, hw'.trans (hb.mono hw'.size)⟩
    clear hK K; go_simp
    refine BigFrame.wpQuiet_want rfl (fun K hK => ⟨.bool (decide (x0 + x1 ≤ y0 + y1)), fun w' hw' => ?_, hK _ ?_⟩)
    · unfold Oper.quietAt
      simp [go_sem, Oper.quietUpon]
    clear hK K; go_simp
    refine BigFrame.wpQuiet_want rfl (fun K hK => ⟨.bool (decide (x0 + x1 ≤ y0 + y1)), fun w' hw' => ?_, hK _ ?_⟩)
    · unfold Oper.quietAt
      simp [go_sem, Oper.quietUpon]
    clear hK K; go_simp
    refine BigFrame.wpQuiet_want rfl (fun K hK => BigFrame.quiet_assign _ rfl (hK _ ?_)); clear hK K; go_simp
    refine wpQuiet_nil ?_
    intro w1 hb
    have HB := Lib.hid (HBW.out.trans (hb.mono HBW.out.size))
    have HF := Lib.hid (show r = decide (x0 + x1 ≤ y0 + y1) by rw [HR.out, d1]; rfl)
    clear hb
    go_wp2_with fail
    go_ret
    exact boolPost_mk HF.out HB.out
  · have d1 : decide (y0 ≤ x0) = false := decide_eq_false hc
    refine region_below (C := fun w' => Below wv.heap.size wv w') (by kernel_rfl) (by kernel_rfl) (drewOne _ _) ?_
    refine BigFrame.wpQuiet_want rfl (fun K hK => ⟨.pointer (some ⟨Bn, 0, none⟩), fun w' hw' => ?_, hK _ ?_⟩)
    · unfold Oper.quietAt
      simp [go_sem, Oper.quietUpon]
    clear hK K; go_simp
    refine BigFrame.wpQuiet_want rfl (fun K hK => ⟨.int .i64 y0, fun w' hw' => ?_, hK _ ?_⟩)
    · have f0 := (HY.out.below hw').c0
      unfold Oper.quietAt
      simp [go_sem, Oper.quietUpon, f0]
    clear hK K; go_simp
    refine BigFrame.wpQuiet_want rfl (fun K hK => ⟨.pointer (some ⟨B, 0, none⟩), fun w' hw' => ?_, hK _ ?_⟩)
    · unfold Oper.quietAt
      simp [go_sem, Oper.quietUpon]
    clear hK K; go_simp
    refine BigFrame.wpQuiet_want rfl (fun K hK => ⟨.int .i64 x0, fun w' hw' => ?_, hK _ ?_⟩)
    · have f0 := (HX.out.below hw').c0
      unfold Oper.quietAt
      simp [go_sem, Oper.quietUpon, f0]
    clear hK K; go_simp
    refine BigFrame.wpQuiet_want rfl (fun K hK => ⟨.bool false, fun w' hw' => ?_, hK _ ?_⟩)
    · unfold Oper.quietAt
      simp [go_sem, Oper.quietUpon, hc]
    clear hK K; go_simp
    refine BigFrame.wpQuiet_want rfl (fun K hK => BigFrame.quiet_move _ rfl (hK _ ?_)); clear hK K; go_simp
    refine BigFrame.wpQuiet_skip rfl ?_; go_simp
    refine BigFrame.wpQuiet_skip rfl ?_; go_simp
    refine BigFrame.wpQuiet_skip rfl ?_; go_simp
    refine BigFrame.wpQuiet_skip rfl ?_; go_simp
    refine BigFrame.wpQuiet_skip rfl ?_; go_simp
    refine BigFrame.wpQuiet_want rfl (fun K hK => ⟨.bool false, fun w' hw' => ?_, hK _ ?_⟩)
    · unfold Oper.quietAt
      simp [go_sem, Oper.quietUpon]
    clear hK K; go_simp
    refine BigFrame.wpQuiet_want rfl (fun K hK => BigFrame.quiet_assign _ rfl (hK _ ?_)); clear hK K; go_simp
    refine wpQuiet_nil ?_
    intro w1 hb
    have HB := Lib.hid (HBW.out.trans (hb.mono HBW.out.size))
    have HF := Lib.hid (show r = false by rw [HR.out, d1]; rfl)
    clear hb
    go_wp2_with fail
    go_ret
    exact boolPost_mk HF.out HB.out
set_option maxHeartbeats 4000000 in
set_option maxRecDepth 100000 in
theorem meets1_any (y0 y1 x0 x1 : Int) (B : Nat) (w : World) (hx : XAt w B x0 x1) (h1 : -4096 ≤ y0 + y1 ∧ y0 + y1 ≤ 4096) (h2 : -4096 ≤ x0 + x1 ∧ x0 + x1 ≤ 4096) :
    Calls Try.prog 61 #[.agg #[.int .i64 y0, .int .i64 y1], .pointer (some ⟨B, 0, none⟩)] w (BoolPost (decide (y0 < x0 + x1) && decide (x0 < y0 + y1)) w) := by
  have CE1 := Lib.hid (fun W => end_any x0 x1 W (by omega)); have CE2 := Lib.hid (fun W => end_any y0 y1 W (by omega))
  have hbe : Below w.heap.size w (w.alloc (.cells #[.int .i64 y0, .int .i64 y1] 31)) := (Below.refl _ _).alloc (Nat.le_refl _) _
  have HX := Lib.hid (hx.below hbe); have HBE := Lib.hid hbe
  have HY := Lib.hid (show XAt (w.alloc (.cells #[.int .i64 y0, .int .i64 y1] 31)) w.heap.size y0 y1 from ⟨row_cell (heap_alloc_new w _) rfl, row_cell (heap_alloc_new w _) rfl⟩)
  obtain ⟨r, hr⟩ : ∃ r, r = (decide (y0 < x0 + x1) && decide (x0 < y0 + y1)) := ⟨_, rfl⟩
  rw [← hr]
  have HR := Lib.hid hr
  clear hbe hx h1 h2 hr
  go_enter Try.func61, Try.ntmps61
  go_wp2_with fail
  have HBW := HBE
  generalize w.alloc (.cells #[.int .i64 y0, .int .i64 y1] 31) = wv at HX HY HBE HBW ⊢
  obtain ⟨Bn, hBn⟩ : ∃ Bn, Bn = w.heap.size := ⟨_, rfl⟩
  rw [← hBn] at HY ⊢
  clear hBn
  by_cases hc : y0 < x0 + x1
  · have d1 : decide (y0 < x0 + x1) = true := decide_eq_true hc
    refine region_below (C := fun w' => Below wv.heap.size wv w') (by kernel_rfl) (by kernel_rfl) (drewOne _ _) ?_
    refine BigFrame.wpQuiet_want rfl (fun K hK => ⟨.pointer (some ⟨Bn, 0, none⟩), fun w' hw' => ?_, hK _ ?_⟩)
    · unfold Oper.quietAt
      simp [go_sem, Oper.quietUpon]
    clear hK K; go_simp
    refine BigFrame.wpQuiet_want rfl (fun K hK => ⟨.int .i64 y0, fun w' hw' => ?_, hK _ ?_⟩)
    · have f0 := (HY.out.below hw').c0
      unfold Oper.quietAt
      simp [go_sem, Oper.quietUpon, f0]
    clear hK K; go_simp
    refine BigFrame.wpQuiet_want rfl (fun K hK => ⟨.agg #[.int .i64 x0, .int .i64 x1], fun w' hw' => ?_, hK _ ?_⟩)
    · have f0 := (HX.out.below hw').c0
      have f1 := (HX.out.below hw').c1
      unfold Oper.quietAt
      simp [go_sem, Oper.quietUpon, f0, f1]
    clear hK K; go_simp
    refine BigFrame.wpQuiet_want rfl (fun K hK => ⟨.int .i64 (x0 + x1), fun w' hw' => ?_, hK _ ?_⟩)
    · unfold Oper.quietAt
      simp [go_sem, Oper.quietUpon]
      refine (CE1.out _).mono ?_
      rintro e' wz ⟨rfl, hb⟩
      exact ⟨rfl, hw'.trans (hb.mono hw'.size)⟩
    clear hK K; go_simp
    refine BigFrame.wpQuiet_want rfl (fun K hK => ⟨.bool true, fun w' hw' => ?_, hK _ ?_⟩)
    · unfold Oper.quietAt
      simp [go_sem, Oper.quietUpon, hc]
    clear hK K; go_simp
    refine BigFrame.wpQuiet_want rfl (fun K hK => BigFrame.quiet_move _ rfl (hK _ ?_)); clear hK K; go_simp
    refine BigFrame.wpQuiet_want rfl (fun K hK => ⟨.pointer (some ⟨B, 0, none⟩), fun w' hw' => ?_, hK _ ?_⟩)
    · unfold Oper.quietAt
      simp [go_sem, Oper.quietUpon]
    clear hK K; go_simp
    refine BigFrame.wpQuiet_want rfl (fun K hK => ⟨.int .i64 x0, fun w' hw' => ?_, hK _ ?_⟩)
    · have f0 := (HX.out.below hw').c0
      unfold Oper.quietAt
      simp [go_sem, Oper.quietUpon, f0]
    clear hK K; go_simp
    refine BigFrame.wpQuiet_want rfl (fun K hK => ⟨.agg #[.int .i64 y0, .int .i64 y1], fun w' hw' => ?_, hK _ ?_⟩)
    · have f0 := (HY.out.below hw').c0
      have f1 := (HY.out.below hw').c1
      unfold Oper.quietAt
      simp [go_sem, Oper.quietUpon, f0, f1]
    clear hK K; go_simp
    refine BigFrame.wpQuiet_want rfl (fun K hK => ⟨.int .i64 (y0 + y1), fun w' hw' => ?_, hK _ ?_⟩)
    · unfold Oper.quietAt
      simp [go_sem, Oper.quietUpon]
      refine (CE2.out _).mono ?_
      rintro e' wz ⟨rfl, hb⟩
      exact ⟨rfl, hw'.trans (hb.mono hw'.size)⟩
    clear hK K; go_simp
    refine BigFrame.wpQuiet_want rfl (fun K hK => ⟨.bool (decide (x0 < y0 + y1)), fun w' hw' => ?_, hK _ ?_⟩)
    · unfold Oper.quietAt
      simp [go_sem, Oper.quietUpon]
    clear hK K; go_simp
    refine BigFrame.wpQuiet_want rfl (fun K hK => ⟨.bool (decide (x0 < y0 + y1)), fun w' hw' => ?_, hK _ ?_⟩)
    · unfold Oper.quietAt
      simp [go_sem, Oper.quietUpon]
    clear hK K; go_simp
    refine BigFrame.wpQuiet_want rfl (fun K hK => BigFrame.quiet_assign _ rfl (hK _ ?_)); clear hK K; go_simp
    refine wpQuiet_nil ?_
    intro w1 hb
    have HB := Lib.hid (HBW.out.trans (hb.mono HBW.out.size))
    have HF := Lib.hid (show r = decide (x0 < y0 + y1) by rw [HR.out, d1]; rfl)
    clear hb
    go_wp2_with fail
    go_ret
    exact boolPost_mk HF.out HB.out
  · have d1 : decide (y0 < x0 + x1) = false := decide_eq_false hc
    refine region_below (C := fun w' => Below wv.heap.size wv w') (by kernel_rfl) (by kernel_rfl) (drewOne _ _) ?_
    refine BigFrame.wpQuiet_want rfl (fun K hK => ⟨.pointer (some ⟨Bn, 0, none⟩), fun w' hw' => ?_, hK _ ?_⟩)
    · unfold Oper.quietAt
      simp [go_sem, Oper.quietUpon]
    clear hK K; go_simp
    refine BigFrame.wpQuiet_want rfl (fun K hK => ⟨.int .i64 y0, fun w' hw' => ?_, hK _ ?_⟩)
    · have f0 := (HY.out.below hw').c0
      unfold Oper.quietAt
      simp [go_sem, Oper.quietUpon, f0]
    clear hK K; go_simp
    refine BigFrame.wpQuiet_want rfl (fun K hK => ⟨.agg #[.int .i64 x0, .int .i64 x1], fun w' hw' => ?_, hK _ ?_⟩)
    · have f0 := (HX.out.below hw').c0
      have f1 := (HX.out.below hw').c1
      unfold Oper.quietAt
      simp [go_sem, Oper.quietUpon, f0, f1]
    clear hK K; go_simp
    refine BigFrame.wpQuiet_want rfl (fun K hK => ⟨.int .i64 (x0 + x1), fun w' hw' => ?_, hK _ ?_⟩)
    · unfold Oper.quietAt
      simp [go_sem, Oper.quietUpon]
      refine (CE1.out _).mono ?_
      rintro e' wz ⟨rfl, hb⟩
      exact ⟨rfl, hw'.trans (hb.mono hw'.size)⟩
    clear hK K; go_simp
    refine BigFrame.wpQuiet_want rfl (fun K hK => ⟨.bool false, fun w' hw' => ?_, hK _ ?_⟩)
    · unfold Oper.quietAt
      simp [go_sem, Oper.quietUpon, hc]
    clear hK K; go_simp
    refine BigFrame.wpQuiet_want rfl (fun K hK => BigFrame.quiet_move _ rfl (hK _ ?_)); clear hK K; go_simp
    refine BigFrame.wpQuiet_skip rfl ?_; go_simp
    refine BigFrame.wpQuiet_skip rfl ?_; go_simp
    refine BigFrame.wpQuiet_skip rfl ?_; go_simp
    refine BigFrame.wpQuiet_skip rfl ?_; go_simp
    refine BigFrame.wpQuiet_skip rfl ?_; go_simp
    refine BigFrame.wpQuiet_want rfl (fun K hK => ⟨.bool false, fun w' hw' => ?_, hK _ ?_⟩)
    · unfold Oper.quietAt
      simp [go_sem, Oper.quietUpon]
    clear hK K; go_simp
    refine BigFrame.wpQuiet_want rfl (fun K hK => BigFrame.quiet_assign _ rfl (hK _ ?_)); clear hK K; go_simp
    refine wpQuiet_nil ?_
    intro w1 hb
    have HB := Lib.hid (HBW.out.trans (hb.mono HBW.out.size))
    have HF := Lib.hid (show r = false by rw [HR.out, d1]; rfl)
    clear hb
    go_wp2_with fail
    go_ret
    exact boolPost_mk HF.out HB.out
end Go.Proofs.Ytnhbilcpdombfaa
