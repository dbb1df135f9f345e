/- bits: Runs. -/
import Derived.Test.YtocgdibadcmnfaaDoorBtBest
import Derived.RangeFuncBox
namespace Go.Proofs.YtocgdibadcmnfaaDoor
open Go.RowKit Go.Shelf
attribute [local go_sem] Oper.semAt_some

/-- The cells of a list of runs. -/
def runC (L : List (Nat × Nat)) : List Value := L.flatMap fun r => [.int .i64 (r.1 : Int), .int .i64 (r.2 : Int)]
theorem runC_snoc (L : List (Nat × Nat)) (r : Nat × Nat) : runC (L ++ [r]) = runC L ++ [.int .i64 (r.1 : Int), .int .i64 (r.2 : Int)] := by simp [runC]
theorem runsF_len (f : Nat → Bool) (on : Bool) (m : Nat) : ∀ k a, (runsF f on m k a).length ≤ k
  | 0, _ => by simp [runsF]
  | k + 1, a => by
    rw [runsF]
    split
    · have := runsF_len f on m k (nextN (fromB f (!on) (nextN (fromB f on a) m)) m)
      simp; omega
    · simp
theorem info_btrun : (Tryd.prog.info? 53).map (fun i => (i.zero, i.size, i.bytes)) = some (some (.agg #[.int .i64 0, .int .i64 0]), 2, 16) := by kernel_rfl
theorem cellB_two (w : World) (a b : Value) (t : TypeId) (n : Nat) (hn : n = w.heap.size) : ∀ j u, [a, b][j]? = some u → (w.alloc (.cells #[a, b] t)).cell? ((⟨n, 0, none⟩ : Addr).add j) = some u := by
  subst hn
  intro j u hu
  rw [WideShapes.add_plain]
  have h := heap_alloc_new w (.cells #[a, b] t)
  match j, hu with
  | 0, hu => exact row_cell h (by simpa using hu)
  | 1, hu => exact row_cell h (by simpa using hu)
theorem run_onecell (a b : Int) : ∀ u ∈ [Value.int .i64 a, Value.int .i64 b], u.oneCell' = true := by
  intro u hu
  simp at hu
  rcases hu with rfl | rfl <;> rfl
/-- Behind 'list = append(list, r)': the variable's box B lies below D, the list's own row at D or beyond. -/
theorem app_runs {W w1 : World} {D B : Nat} {t e : TypeId} {size : Nat} {v v' : Value} {k m : Nat} {xs ys : List Value} {tmp : Obj}
    (hv : Boxed W B t v) (hte : t ≠ e) (hrow : W.ownsRow D e size v k xs) (hD : D ≤ W.heap.size)
    (hown' : w1.ownsRow D e size v' m ys) (hgrow : (W.alloc tmp).grownBy w1 v.ownBlock) :
    Boxed w1 B t v ∧ Boxed (w1.setCell ⟨B, 0, none⟩ v') B t v' ∧ (w1.setCell ⟨B, 0, none⟩ v').ownsRow D e size v' m ys ∧ KeepsOthers W (w1.setCell ⟨B, 0, none⟩ v') ∧ BelowS (fun k => k = B) D W (w1.setCell ⟨B, 0, none⟩ v') := by
  have hv1 : Boxed w1 B t v := (hv.alloc tmp).kept hgrow (hv.not_row hte hrow)
  refine ⟨hv1, hv1.set v', hown'.kept (grownBy_setCell' w1 B v') (.inr (hv1.not_row hte hown').symm), ?_, ?_⟩
  · refine ((KeepsOthers.alloc W tmp).trans (KeepsOthers.of_grownBy hgrow fun j o ej hj => ?_)).trans (KeepsOthers.setCell _ _ _)
    rcases (hrow.alloc tmp).2 with ⟨rfl, _⟩ | ⟨g, cap, cur, rfl, _, hgb, _⟩
    · simp [Value.ownBlock] at ej
    · obtain rfl : g = j := by simpa [Value.ownBlock] using ej
      rw [hgb] at hj; cases hj; rfl
  · have h1 : BelowS (fun k => k = B) D W w1 := by
      refine (BelowS.of ((Below.refl D W).alloc hD tmp)).trans ⟨hgrow.os, hgrow.tape, hgrow.output, hgrow.size, fun k hk _ => hgrow.block k (by simp; omega) fun e => ?_⟩
      have := (hrow.lt k e.symm).1
      omega
    exact setS h1 rfl v'
/-- What holds between two rounds of Runs. -/
def RunsI (m : Nat) (w3 : World) (b7 : Nat) (pre : List (GRun m)) (W : World) : Prop :=
  BelowS (fun k => k = b7) w3.heap.size w3 W ∧ ∃ v, Boxed W b7 41 v ∧ W.ownsRow w3.heap.size 53 2 v pre.length (runC (pre.map (·.1))) ∧ True
theorem runsI_own (m : Nat) (w3 : World) (b7 : Nat) : OwnFrom w3.heap.size (RunsI m w3 b7) :=
  OwnFrom.and (belowS_own (Nat.le_refl _)) ((holdsRow_own w3.heap.size b7 41 53 2 (fun pre : List (GRun m) => pre.length) (fun pre => runC (pre.map (·.1))) (fun _ _ => True)).from _)
/-- A list of runs that a call returned, in memory of its own. -/
def RunsPost (r : List (Nat × Nat) × Int) (w : World) (e : Ending) (w' : World) : Prop := ∃ v, e = .returned (.tuple #[v, .int .i64 r.2]) ∧ Below w.heap.size w w' ∧ w'.ownsRow w.heap.size 53 2 v r.1.length (runC r.1)
theorem runsPost_mk {r : List (Nat × Nat) × Int} {v : Value} {c : Int} {w w' : World} (h : r.2 = c) (hb : Below w.heap.size w w') (ho : w'.ownsRow w.heap.size 53 2 v r.1.length (runC r.1)) : RunsPost r w (.returned (.tuple #[v, .int .i64 c])) w' := ⟨v, by rw [h], hb, ho⟩
theorem ownsRow_base {w : World} {b b' : Nat} {e : TypeId} {size : Nat} {v : Value} {n : Nat} {xs : List Value} (h : w.ownsRow b e size v n xs) (hb : b' ≤ b) : w.ownsRow b' e size v n xs := by
  refine ⟨h.1, ?_⟩
  rcases h.2 with hn | ⟨g, cap, cur, e1, hb1, rest⟩
  · exact .inl hn
  · exact .inr ⟨g, cap, cur, e1, Nat.le_trans hb hb1, rest⟩
set_option maxHeartbeats 4000000 in
set_option maxRecDepth 100000 in
theorem runs_in (q m : Nat) (p : Option Addr) (cap : Nat) (ws : List Nat) (on : Bool) (w : World) (h3 : 3 ≤ q) (h : WordsAt w p ws) (hv : Valid m ws) (he : BEnv w)
    (hck : ∀ W, Below w.heap.size w W → Calls Tryd.prog 19 #[.agg #[.int .i64 (m : Int), .slice p ws.length cap]] W fun e w' => e = .returned (.int .i64 0) ∧ Below W.heap.size W w') :
    CallsIn Fence.wide q Tryd.prog 32 #[.agg #[.int .i64 (m : Int), .slice p ws.length cap], .bool on] w (RunsPost (runsL (bitN ws) on m 0, 0) w) := by
  refine callsIn_of_wp_marks Tryd.func32 rfl trivial ?_ rfl
  simp only [Tryd.ntmps32, List.size_toArray, List.length_cons, List.length_nil, Nat.reduceAdd, Nat.reduceSub, Array.replicate_succ, Array.replicate_zero, List.push_toArray, List.append_toArray, List.nil_append, List.cons_append]
  have hwf : ∀ f, Fence.wide.fn f := fun _ => trivial
  have hwd : Fence.wide.depth.isSome = false := rfl
  have HCK := Lib.hid hck; have HW := Lib.hid h; have HE := Lib.hid he; have HV := Lib.hid hv
  have hm4 := hv.le
  clear hck h he hv
  have m4 : (m : Int) ≤ 4096 := by omega
  obtain ⟨i0, hi, hz0, hz1, hz2⟩ := info_parts info_btrun
  have HI := Lib.hid hi; have HZ0 := Lib.hid hz0; have HZ1 := Lib.hid hz1; have HZ2 := Lib.hid hz2
  clear hi hz0 hz1 hz2
  gi_wp2_with (first
    | (gi_at_call 19; refine (callsIn_wide.2 (HCK.out _ ((Below.refl _ _).alloc (Nat.le_refl _) _))).mono ?_; rintro e w1 ⟨rfl, hb⟩; have x1 := boxB hb; have HX0 := Lib.hid ((hb.block _ (by simp)).trans (heap_alloc_new w _)); have HB1 := Lib.hid x1; have hz : w.heap.size + 1 ≤ w1.heap.size := (by have := hb.size; simp at this; omega); have hz0 : w.heap.size < w1.heap.size := (by omega); have c0 := row_cell (i := 0) (v := .int .i64 (m : Int)) HX0.out rfl; have c1 := row_cell (i := 1) (v := .slice p ws.length cap) HX0.out rfl; clear hb x1 HCK)
    | (gi_at_call 64; refine (callsIn_wide.2 (runs_any _ _ _ _ _ _ _)).mono ?_; rintro e w3 ⟨rfl, hw3⟩))
  have y1 : Below w1.heap.size w1 (w1.alloc (.cells #[.slice none 0 0] 41)) := (Below.refl _ _).alloc (Nat.le_refl _) _
  have y7 : Boxed (w1.alloc (.cells #[.slice none 0 0] 41)) w1.heap.size 41 (.slice none 0 0) := Boxed.new _ _ _
  have gs1 : (w1.alloc (.cells #[.slice none 0 0] 41)).heap.size = w1.heap.size + 1 := by simp
  obtain ⟨w2, hw2⟩ : ∃ w2 : World, w2 = w1.alloc (.cells #[.slice none 0 0] 41) := ⟨_, rfl⟩
  rw [← hw2] at hw3 y1 y7 gs1 ⊢
  clear hw2 c0 c1
  obtain ⟨b7, hb7⟩ : ∃ b7 : Nat, b7 = w1.heap.size := ⟨_, rfl⟩
  rw [← hb7] at y7 ⊢
  obtain ⟨z1, z2, z3, z4, z5⟩ := alloc3 w2 (.cells #[.int .i64 (m : Int), .slice p ws.length cap] 24) (.cells #[.int .i64 0] 3) (.cells #[.bool on] 4)
  rw [← hw3] at z1 z2 z3 z4 z5 ⊢
  clear hw3
  have hbw : Below w.heap.size w w3 := HB1.out.trans ((y1.mono HB1.out.size).trans (z1.mono (by omega)))
  have hreads : RReads (fun k => k = b7) w3.heap.size w2.heap.size m 0 on p cap ws w3 := ⟨HE.out.below hbw, Nat.le_refl _, z3, z4, z5, HW.out.below hbw⟩
  have hfree : RFree (fun k => k = b7) w3.heap.size w2.heap.size p ws := by
    have hes := HE.out.size
    refine ⟨by omega, by omega, by omega, by omega, ⟨by omega, by omega⟩, fun h0 g off e => ?_⟩
    obtain ⟨g', off', e', hg', _⟩ := HW.out.at_ h0
    rw [e] at e'; cases e'
    exact ⟨by omega, by omega⟩
  have hstops := runs_stops (q - 1) (fun k => k = b7) w3.heap.size w2.heap.size m 0 cap on p ws HV.out (Nat.zero_le _) hfree w3 hreads
  have e2 : w2.heap.size = b7 + 1 := by omega
  rw [e2] at hstops
  have h7 : Boxed w3 b7 41 (.slice none 0 0) := (z1.block b7 (by omega)).trans y7
  have HBW := Lib.hid hbw
  have z6 : b7 + 1 + 3 ≤ w3.heap.size := by omega
  have z7 : b7 < w3.heap.size := by omega
  have z8 : w.heap.size ≤ b7 := by omega
  have hL := runsF_len (bitN ws) on m (m + 1) 0
  clear hreads hfree hbw z1 z2 z3 z4 z5 y7 e2 hb7 gs1 y1
  refine wpIn_rangeFunc_ownH rfl (by omega) (gf := 74) (lb := #[.pointer (some ⟨b7 + 1, 0, none⟩), .pointer (some ⟨b7 + 1 + 1, 0, none⟩), .pointer (some ⟨b7 + 1 + 1 + 1, 0, none⟩)]) rfl trivial (enters_of Tryd.func74 (by kernel_rfl) rfl) hstops BelowS.trans (belowS_b (Nat.le_refl _)) (Below.refl _ _) (fun _ => rfl)
    (RunsI m w3 b7) (fun _ _ _ => False) (runsI_own m w3 b7) (fun _ _ _ _ _ hs _ _ => hs)
    ⟨BelowS.refl _ _ _, .slice none 0 0, h7, World.ownsRow_nil _ _ _ _, trivial⟩
    (fun x a' W2 => ∃ Bx : Nat, w3.heap.size ≤ Bx ∧ W2.heap[Bx]? = some (.cells #[.int .i64 (x.1.1 : Int), .int .i64 (x.1.2 : Int)] 53 (0, 0)) ∧ a' = { tmps := #[.agg #[.int .i64 (m : Int), .slice p ws.length cap], .bool on, .pointer (some ⟨w.heap.size, 0, none⟩), undef, .slice none 0 0, .int .i64 0, .int .i64 0,
          .pointer (some ⟨b7, 0, none⟩), .pointer (some ⟨Bx, 0, none⟩), .agg #[.int .i64 (m : Int), .slice p ws.length cap], .int .i64 0, .int .i64 0, .bool false, undef, .agg #[.int .i64 (m : Int), .slice p ws.length cap], .bool on,
          .func (.func 74) #[] #[.pointer (some ⟨b7 + 1, 0, none⟩), .pointer (some ⟨b7 + 1 + 1, 0, none⟩), .pointer (some ⟨b7 + 1 + 1 + 1, 0, none⟩)], .agg #[.int .i64 (x.1.1 : Int), .int .i64 (x.1.2 : Int)], undef, undef, undef, undef, undef], defers := [] })
    (fun x a' s A B row ⟨Bx, h1, h2, h3⟩ hg hr => ⟨Bx, h1, cells_own (fun _ : Unit => Bx) (fun _ => #[.int .i64 (x.1.1 : Int), .int .i64 (x.1.2 : Int)]) 53 s A B row h2 hg hr, h3⟩) ?assign ?body ?done ?stop
  case assign =>
    intro ly pre x W2 K2 hi hK2
    have hsz := hi.1.size
    have HI2 := Lib.hid hi; clear hi
    simp only [runV]
    gi_wp2
    have hbx : Below W2.heap.size W2 (W2.alloc (.cells #[.int .i64 (x.1.1 : Int), .int .i64 (x.1.2 : Int)] 53)) := (Below.refl _ _).alloc (Nat.le_refl _) _
    obtain ⟨j1, v, j2, j3, _⟩ := HI2.out
    exact hK2 _ _ ((KeepsOthers.alloc _ _).from _) (BelowS.of (hbx.mono (by omega))) ⟨j1.trans (BelowS.of (hbx.mono (by omega))), v, j2.alloc _, j3.alloc _, trivial⟩ ⟨W2.heap.size, by omega, heap_alloc_new _ _, rfl⟩
  case body =>
    rintro ly pre x a' W2 hly ⟨r, hr⟩ ⟨hbx, v, hk7, hown, _⟩ ⟨Bx, hBx, hbox, rfl⟩ hlt
    clear hr
    have hwf2 : ∀ f, (Fence.wide.inRound ly).fn f := fun _ => trivial
    have hwd2 : (Fence.wide.inRound ly).depth.isSome = false := rfl
    have hsn := runC_snoc (pre.map (·.1)) x.1
    have hmp : (pre ++ [x]).map (·.1) = pre.map (·.1) ++ [x.1] := by simp
    rw [← hmp] at hsn
    obtain ⟨⟨xs, xe⟩, hx1, hx2⟩ := x
    simp only at hx1 hx2 hbox hsn ⊢
    have k0 := row_cell (i := 0) (v := .int .i64 (xs : Int)) hbox rfl
    have k1 := row_cell (i := 1) (v := .int .i64 (xe : Int)) hbox rfl
    have j7 := hk7.cell
    have f7 := hk7.frozen
    have hszD := hbx.size
    have hb1 : pre.length + 1 ≤ maxLen := by unfold maxLen; unfold runsL at hlt; omega
    have hb2 : (pre.length + 1) * 16 ≤ 140737488355328 := by unfold runsL at hlt; omega
    have HL1 := Lib.hid hb1; have HL2 := Lib.hid hb2; have H1C := Lib.hid (run_onecell (xs : Int) (xe : Int))
    have HBX := Lib.hid hbx; have HK7 := Lib.hid hk7; have HOWN := Lib.hid hown; have HSN := Lib.hid hsn
    clear hbx hbox hstops hk7 hmp hown hb1 hb2 hsn hL hlt
    gi_wp2_with (gi_at_builtin; refine wpListIn_append_own _ rfl _ _ 41 rfl w3.heap.size 53 i0 (.agg #[.int .i64 0, .int .i64 0]) 2 16 Tryd.underlying41 HI.out HZ0.out HZ1.out HZ2.out rfl (by decide) _ _ _ rfl (HOWN.out.alloc _) ⟨W2.heap.size, 0, none⟩ 1 1 [.int .i64 (xs : Int), .int .i64 (xe : Int)] rfl rfl (cellB_two _ _ _ _ _ rfl) H1C.out HL1.out HL2.out (by simp; omega) ?_; intro v4 w4 hown4 hgrow4 hnil4; obtain ⟨g4, cap4, rfl⟩ := ownsRow_succ hown4; obtain ⟨n1, n2, n3, n4, n5⟩ := app_runs HK7.out (by decide) HOWN.out hszD hown4 hgrow4; have j8 := n1.cell; have f8 := n1.frozen; have HN2 := Lib.hid n2; have HN3 := Lib.hid n3; have HN4 := Lib.hid n4; have HN5 := Lib.hid n5; clear hown4 hgrow4 hnil4 n1 n2 n3 n4 n5)
    exact ⟨HN4.out.from _, HN5.out, HBX.out.trans HN5.out, _, HN2.out, by rw [HSN.out, List.length_append]; exact HN3.out, trivial⟩
  case done =>
    rintro D' ys W2 hD' hys ⟨hbx, v, hk7, hown, _⟩ hmark
    have hys' : ys.map (·.1) = runsL (bitN ws) on m 0 := hys
    have hlen : ys.length = (runsL (bitN ws) on m 0).length := by rw [← hys', List.length_map]
    rw [hys', hlen] at hown
    have j7 := hk7.cell
    have hbb : Below w.heap.size w W2 := HBW.out.trans ⟨hbx.os, hbx.tape, hbx.output, hbx.size, fun k hk => hbx.block k (by omega) (by omega)⟩
    have HBB := Lib.hid hbb; have HM := Lib.hid hmark; have HOWN := Lib.hid hown
    clear hys hys' hlen hbx hk7 hmark hbb hstops hown hL
    gi_wp2
    refine ⟨by simp, .inl ⟨D', _, rfl, run_takeDeferred HM.out, ?_⟩⟩
    refine ⟨.tuple #[v, .int .i64 0], by simp [results, Tryd.results32, go_sem], runsPost_mk rfl ?_ ?_⟩
    · exact HBB.out.trans ((Below.refl _ _).grown (grownBy_putObj' W2 D' _) (by have := HBB.out.size; omega) (fun k e => by cases e; omega))
    · exact ownsRow_base (ownsRow_putObj HOWN.out _ HM.out rfl) (by omega)
  case stop =>
    rintro D' c pre W2 _ _ h _
    exact h.elim
def runsR (n : Int) (ws : List Nat) (on : Bool) : List (Nat × Nat) × Int := if checkR n ws ≠ 0 then ([], checkR n ws) else (runsL (bitN ws) on n.toNat 0, 0)
set_option maxHeartbeats 2000000 in
set_option maxRecDepth 100000 in
theorem Runs_any (n : Int) (p : Option Addr) (cap : Nat) (ws : List Nat) (on : Bool) (w : World) (h : WordsAt w p ws) (he : BEnv w) :
    Calls Tryd.prog 32 #[.agg #[.int .i64 n, .slice p ws.length cap], .bool on] w (RunsPost (runsR n ws on) w) := by
  have ck := fun W (hW : Below w.heap.size w W) => check_any n p cap ws W (h.below hW)
  have e : runsR n ws on = if checkR n ws ≠ 0 then ([], checkR n ws) else (runsL (bitN ws) on n.toNat 0, 0) := rfl
  have hok := checkR_ok (n := n) h.lt
  have HW := Lib.hid h; have HE := Lib.hid he
  generalize checkR n ws = c at ck e hok
  generalize runsR n ws on = r at e
  clear h he
  by_cases hc : c = 0
  · subst hc
    obtain ⟨hn0, hv⟩ := hok rfl
    obtain ⟨m, rfl⟩ : ∃ m : Nat, n = (m : Int) := ⟨n.toNat, by omega⟩
    rw [if_neg (by simp), Int.toNat_natCast] at e
    rw [Int.toNat_natCast] at hv
    rw [e]
    exact callsIn_wide.1 (runs_in 3 m p cap ws on w (Nat.le_refl _) HW.out hv HE.out ck)
  · rw [if_pos hc] at e
    have E := Lib.hid e; have CK := Lib.hid ck
    obtain ⟨t1, t2⟩ := neq0 hc
    clear e hok ck hc
    go_enter Tryd.func32, Tryd.ntmps32
    go_wp2_with (go_at_call 19; refine (CK.out _ ((Below.refl _ _).alloc (Nat.le_refl _) _)).mono ?_; rintro e w1 ⟨rfl, hb⟩; have HB1 := Lib.hid (boxB hb); clear hb)
    go_ret2
    rw [E.out]
    exact runsPost_mk rfl HB1.out (World.ownsRow_nil _ _ _ _)
end Go.Proofs.YtocgdibadcmnfaaDoor
